/- What a number's bytes read as: the number, as far as its bytes go. -/
import Derived.Test.YtdlkakkoaelemaaFWalksA
import Derived.Laws.BitsLemmas
import Derived.Laws.Bits64
namespace Go.Proofs.Ytdlkakkoaelemaa
open Go.RowKit

theorem joinB_eq (v c : Int) (hv : 0 ≤ v) (hv2 : v < 72057594037927936) (hc : 0 ≤ c) (hc2 : c < 256) : joinB v c = v * 256 + c := by
  have hw : IntKind.u64.wrap (v * 256) = v * 256 := by rw [IntKind.wrap_u64]; omega
  rw [joinB, hw]
  exact bits_join .u64 64 (by decide) (fun n h0 h1 => by rw [IntKind.wrap_u64]; omega) 8 (v * 256) c (by omega) (by omega) (by omega) hc (by omega) (by omega)

theorem mod_step (n P : Int) (hP : 0 < P) : n / 256 % P * 256 + n % 256 = n % (P * 256) := by
  have h1 := Int.emod_nonneg (n / 256) (show P ≠ 0 by omega)
  have h2 := Int.emod_lt_of_pos (n / 256) hP
  have h3 := Int.mul_ediv_add_emod (n / 256) P
  have h4 := Int.mul_ediv_add_emod n 256
  have h5 := Int.emod_nonneg n (show (256 : Int) ≠ 0 by decide)
  have h6 := Int.emod_lt_of_pos n (show (0 : Int) < 256 by decide)
  generalize n / 256 % P = b at *
  generalize n / 256 / P = a at *
  generalize n % 256 = r at *
  generalize n / 256 = q at *
  have e : n = (b * 256 + r) + P * 256 * a := by grind
  rw [e, Int.add_mul_emod_self_left, Int.emod_eq_of_lt (by omega) (by omega)]

theorem val_low : ∀ (k : Nat), k ≤ 8 → ∀ n : Int, val (low k n) = n % 256 ^ k
  | 0, _, n => by simp [low, val]
  | k + 1, hk, n => by
    have ih := val_low k (by omega) (n / 256)
    rw [low_snoc, val, List.foldl_append]
    show joinB (val (low k (n / 256))) (n % 256) = _
    have hp : (0 : Int) < 256 ^ k := Int.pow_pos (by decide)
    have hpk : (256 : Int) ^ k ≤ 72057594037927936 := by
      have := Int.ofNat_le.2 (Nat.pow_le_pow_right (show 256 > 0 by decide) (show k ≤ 7 by omega))
      simpa using this
    have h1 := Int.emod_nonneg (n / 256) (show (256 : Int) ^ k ≠ 0 by omega)
    have h2 := Int.emod_lt_of_pos (n / 256) hp
    rw [ih, joinB_eq _ _ h1 (by omega) (by omega) (by omega), Int.pow_succ]
    exact mod_step n _ hp

theorem getN_low (k : Nat) (n : Int) (hk : k ≤ 8) (ys : List Int) : okG (low k n ++ ys) k = true ∧ getN (low k n ++ ys) k = n % 256 ^ k := by
  have h : okG (low k n ++ ys) k = true := by simp [okG, length_low]; omega
  refine ⟨h, ?_⟩
  rw [getN, if_pos h, Int.toNat_natCast, List.take_append_of_le_length (by simp [length_low]), List.take_of_length_le (by simp [length_low]), val_low k hk]

theorem getN_short (k : Nat) (xs : List Int) (h : xs.length < k) : okG xs k = false ∧ getN xs k = 0 := by
  have h : okG xs k = false := by simp [okG]; omega
  exact ⟨h, by simp [getN, h]⟩

end Go.Proofs.Ytdlkakkoaelemaa
