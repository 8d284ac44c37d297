/- The walks of rat.size, rat.divisor and rat.Right: what each call answers, for any numbers. -/
import Derived.Test.YtcloepkaieifpaaDoorChecked
import Derived.Test.YtcloepkaieifpaaDoorMath
import Derived.WalkKit
import Derived.WalkSpells
import Derived.Deep.QuietTactic
import Derived.BigQuiet
import Derived.RowKit3
import Derived.Outline
import Derived.WalkSmall
namespace Go.Proofs.YtcloepkaieifpaaDoor
open Go.RowKit

theorem ret_int {k : IntKind} {a b : Int} (h : a = b) : Ending.returned (.int k a) = .returned (.int k b) := by rw [h]
theorem neg_u64 (n : Int) (h1 : -9223372036854775808 ≤ n) (h : n < 0) : IntKind.u64.wrap (-IntKind.u64.wrap n) = absI n := by
  rw [absI_neg n h, IntKind.wrap_u64, IntKind.wrap_u64]; omega

theorem size_any (n : Int) (h1 : -9223372036854775808 ≤ n) (h2 : n ≤ 9223372036854775807) (w : World) :
    Calls Tryd.prog 38 #[.int .i64 n] w fun e w' => e = .returned (.int .u64 (absI n)) ∧ w' = w := by
  by_cases h : n < 0
  · have e := neg_u64 n h1 h
    go_enter Tryd.func38, Tryd.ntmps38
    go_wp2
    go_ret
    exact ⟨rfl, rfl⟩
  · have e := absI_of_nonneg n (by omega)
    go_enter Tryd.func38, Tryd.ntmps38
    go_wp2
    go_ret
    exact ⟨rfl, rfl⟩

theorem divisor_any (a b : Int) (a1 : 0 ≤ a) (a2 : a < 18446744073709551616) (b1 : 0 ≤ b) (b2 : b < 18446744073709551616) (w : World) :
    Calls Tryd.prog 37 #[.int .u64 a, .int .u64 b] w fun e w' => e = .returned (.int .u64 (gcdI a b)) ∧ ∃ n, w' = w.drewN n := by
  go_enter Tryd.func37, Tryd.ntmps37
  go_wp2
  go_loopw [0, 1] (fun s t u => ∃ x y : Int, 0 ≤ x ∧ x < 18446744073709551616 ∧ 0 ≤ y ∧ y < 18446744073709551616 ∧ s = .int .u64 x ∧ t = .int .u64 y ∧ Hid (gcdI x y = gcdI a b) ∧ ∃ n, u = w.drewN n) (fun _ t _ => (intOf t).toNat)
  case atStart => exact ⟨a, b, a1, a2, b1, b2, rfl, rfl, rfl, 0, rfl⟩
  case round =>
    obtain ⟨x, y, x1, x2, y1, y2, rfl, rfl, hg, n, rfl⟩ := hrel
    by_cases hy : y = 0
    · have h0 : (y != 0) = false := by simp [hy]
      subst hy
      have hz := gcdI_zero x x1
      have hgo := hg.out
      go_wp2
      go_ret
      exact ⟨ret_int (by rw [← hgo, hz]), n, rfl⟩
    · have h0 : (y != 0) = true := by simp [hy]
      go_wp2
      go_quiet (fail)
      go_wp2
      go_roundw
      case rel => exact ⟨y, x % y, y1, y2, Int.emod_nonneg _ hy, by have := Int.emod_lt_of_pos x (show 0 < y by omega); omega, rfl, rfl, (gcdI_step x y x1 y1).trans hg, n + nq, by simp [World.drewN, Nat.add_assoc]⟩
      case measure => have := Int.emod_lt_of_pos x (show 0 < y by omega); simp [intOf]; omega

theorem right_any (n d : Int) (h1 : -9223372036854775808 ≤ n) (h2 : n ≤ 9223372036854775807) (h3 : -9223372036854775808 ≤ d) (h4 : d ≤ 9223372036854775807) (w : World) :
    Calls Tryd.prog 17 #[.agg #[.int .i64 n, .int .i64 d]] w fun e w' => e = .returned (.bool (rightB n d)) ∧ ∃ m, w' = (w.alloc (.cells #[.int .i64 n, .int .i64 d] 26)).drewN m := by
  by_cases a1 : d < 1
  · have hr : rightB n d = false := by unfold rightB; simp; omega
    go_enter Tryd.func17, Tryd.ntmps17
    go_wp2
    go_ret
    exact ⟨by first | rfl | (rw [hr]; rfl), 0, rfl⟩
  by_cases a2 : 2147483647 < d
  · have hr : rightB n d = false := by unfold rightB; simp; omega
    go_enter Tryd.func17, Tryd.ntmps17
    go_wp2
    go_ret
    exact ⟨by first | rfl | (rw [hr]; rfl), 0, rfl⟩
  by_cases a3 : n < -2147483647
  · have hr : rightB n d = false := by unfold rightB; simp; omega
    go_enter Tryd.func17, Tryd.ntmps17
    go_wp2
    go_ret
    exact ⟨by first | rfl | (rw [hr]; rfl), 0, rfl⟩
  by_cases a4 : 2147483647 < n
  · have hr : rightB n d = false := by unfold rightB; simp; omega
    go_enter Tryd.func17, Tryd.ntmps17
    go_wp2
    go_ret
    exact ⟨by first | rfl | (rw [hr]; rfl), 0, rfl⟩
  have hr : rightB n d = (gcdI n d == 1) := by unfold rightB; simp [show 1 ≤ d by omega, show d ≤ 2147483647 by omega, show -2147483647 ≤ n by omega, show n ≤ 2147483647 by omega]; rfl
  have b1 := absI_nonneg n
  have b2 := absI_nonneg d
  have b3 := absI_le n h1 h2
  have b4 := absI_le d h3 h4
  have hab := gcdI_absI n d
  go_enter Tryd.func17, Tryd.ntmps17
  go_wp2_with fail
  go_quiet (first | (go_at_call 38; exact Calls.quiet_of_same (size_any _ (by omega) (by omega) _)) | (go_at_call 37; exact Calls.quiet_of (divisor_any _ _ (by omega) (by omega) (by omega) (by omega) _)))
  go_wp2
  go_ret
  exact ⟨by rw [hr]; simp [hab], _, rfl⟩
end Go.Proofs.YtcloepkaieifpaaDoor
