/- The walks of the document's own parts, abs, gcd and Right. -/
import Derived.Test.YtcloepkaieifpaaDoorWalksE
namespace Go.Proofs.YtcloepkaieifpaaDoor
open Go.RowKit

theorem parts_any (n : Int) (h1 : -9223372036854775808 ≤ n) (h2 : n ≤ 9223372036854775807) (w : World) :
    Calls Tryd.prog 39 #[.int .i64 n] w fun e w' => e = .returned (.tuple #[.bool (decide (n < 0)), .int .u64 (absI n)]) ∧ w' = w := by
  by_cases h : n < 0
  · have e := neg_u64 n h1 h
    have hd : decide (n < 0) = true := by simp [h]
    go_enter Tryd.func39, Tryd.ntmps39
    go_wp2
    go_ret2
    exact ⟨by first | rfl | (rw [hd]; rfl), rfl⟩
  · have e := absI_of_nonneg n (by omega)
    have hd : decide (n < 0) = false := by simp [h]
    go_enter Tryd.func39, Tryd.ntmps39
    go_wp2
    go_ret2
    exact ⟨by first | rfl | (rw [hd]; rfl), rfl⟩

theorem abs_any (n : Int) (h1 : -2147483647 ≤ n) (h2 : n ≤ 2147483647) (w : World) :
    Calls Tryd.prog 42 #[.int .i64 n] w fun e w' => e = .returned (.int .i64 (absI n)) ∧ w' = w := by
  by_cases h : n < 0
  · have e := absI_neg n h
    rw [e]
    clear e
    go_enter Tryd.func42, Tryd.ntmps42
    go_wp2
    go_ret
    exact ⟨rfl, rfl⟩
  · have e := absI_of_nonneg n (by omega)
    rw [e]
    clear e
    go_enter Tryd.func42, Tryd.ntmps42
    go_wp2
    go_ret
    exact ⟨rfl, rfl⟩

theorem gcd_any (a b : Int) (a1 : 0 ≤ a) (a2 : a ≤ 9223372036854775807) (b1 : 0 ≤ b) (b2 : b ≤ 9223372036854775807) (w : World) :
    Calls Tryd.prog 41 #[.int .i64 a, .int .i64 b] w fun e w' => e = .returned (.int .i64 (gcdI a b)) ∧ ∃ n, w' = w.drewN n := by
  go_enter Tryd.func41, Tryd.ntmps41
  go_wp2
  go_loopw [0, 1] (fun s t u => ∃ x y : Int, 0 ≤ x ∧ x ≤ 9223372036854775807 ∧ 0 ≤ y ∧ y ≤ 9223372036854775807 ∧ s = .int .i64 x ∧ t = .int .i64 y ∧ Hid (gcdI x y = gcdI a b) ∧ ∃ n, u = w.drewN n) (fun _ t _ => (intOf t).toNat)
  case atStart => exact ⟨a, b, a1, a2, b1, b2, rfl, rfl, rfl, 0, rfl⟩
  case round =>
    obtain ⟨x, y, x1, x2, y1, y2, rfl, rfl, hg, n, rfl⟩ := hrel
    by_cases hy : y = 0
    · have h0 : (y != 0) = false := by simp [hy]
      subst hy
      have hz := gcdI_zero x x1
      have hgo := hg.out
      go_wp2
      go_ret
      exact ⟨ret_int (by rw [← hgo, hz]), n, rfl⟩
    · have h0 : (y != 0) = true := by simp [hy]
      have m1 := Int.emod_nonneg x hy
      have m2 := Int.emod_lt_of_pos x (show 0 < y by omega)
      have hyp : 0 < y := by omega
      go_wp2
      go_quiet (fail)
      go_wp2
      go_roundw
      case rel => exact ⟨y, x % y, y1, y2, m1, by omega, rfl, by first | rfl | (rw [Int.tmod_eq_emod_of_nonneg x1]), (gcdI_step x y x1 y1).trans hg, n + nq, by simp [World.drewN, Nat.add_assoc]⟩
      case measure => simp [intOf]; first | omega | (rw [Int.tmod_eq_emod_of_nonneg x1]; omega)

theorem refright_any (n d : Int) (h1 : -9223372036854775808 ≤ n) (h2 : n ≤ 9223372036854775807) (h3 : -9223372036854775808 ≤ d) (h4 : d ≤ 9223372036854775807) (w : World) :
    Calls Tryd.prog 28 #[.agg #[.int .i64 n, .int .i64 d]] w fun e w' => e = .returned (.bool (rightB n d)) ∧ ∃ m, w' = (w.alloc (.cells #[.int .i64 n, .int .i64 d] 26)).drewN m := by
  by_cases a1 : d < 1
  · have hr : rightB n d = false := by unfold rightB; simp; omega
    go_enter Tryd.func28, Tryd.ntmps28
    go_wp2
    go_ret
    exact ⟨by first | rfl | (rw [hr]; rfl), 0, rfl⟩
  by_cases a2 : 2147483647 < d
  · have hr : rightB n d = false := by unfold rightB; simp; omega
    go_enter Tryd.func28, Tryd.ntmps28
    go_wp2
    go_ret
    exact ⟨by first | rfl | (rw [hr]; rfl), 0, rfl⟩
  by_cases a3 : n < -2147483647
  · have hr : rightB n d = false := by unfold rightB; simp; omega
    go_enter Tryd.func28, Tryd.ntmps28
    go_wp2
    go_ret
    exact ⟨by first | rfl | (rw [hr]; rfl), 0, rfl⟩
  by_cases a4 : 2147483647 < n
  · have hr : rightB n d = false := by unfold rightB; simp; omega
    go_enter Tryd.func28, Tryd.ntmps28
    go_wp2
    go_ret
    exact ⟨by first | rfl | (rw [hr]; rfl), 0, rfl⟩
  have hr : rightB n d = (gcdI n d == 1) := by unfold rightB; simp [show 1 ≤ d by omega, show d ≤ 2147483647 by omega, show -2147483647 ≤ n by omega, show n ≤ 2147483647 by omega]; rfl
  have b1 := absI_nonneg n
  have b3 : absI n ≤ 2147483647 := by unfold absI; omega
  have hab : gcdI (absI n) d = gcdI n d := by unfold gcdI absI; simp
  go_enter Tryd.func28, Tryd.ntmps28
  go_wp2_with fail
  go_quiet (first | (go_at_call 42; exact Calls.quiet_of_same (abs_any _ (by omega) (by omega) _)) | (go_at_call 41; exact Calls.quiet_of (gcd_any _ _ (by omega) (by omega) (by omega) (by omega) _)))
  go_wp2
  go_ret
  exact ⟨by rw [hr]; simp [hab], _, rfl⟩
end Go.Proofs.YtcloepkaieifpaaDoor
