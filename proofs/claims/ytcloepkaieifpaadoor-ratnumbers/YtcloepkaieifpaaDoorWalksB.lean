/- The walk of rat.New: what it answers, for any two numbers. -/
import Derived.Test.YtcloepkaieifpaaDoorWalksA
namespace Go.Proofs.YtcloepkaieifpaaDoor
open Go.RowKit

theorem new_zero (n : Int) (w : World) :
    Calls Tryd.prog 18 #[.int .i64 n, .int .i64 0] w fun e w' => e = .returned (.tuple #[.agg #[.int .i64 0, .int .i64 0], .int .i64 1]) ∧ Below w.heap.size w w' := by
  go_enter Tryd.func18, Tryd.ntmps18
  go_wp2
  exact bodyPost_ret (v := .tuple #[.agg #[.int .i64 0, .int .i64 0], .int .i64 1]) (by simp [results, Tryd.results18, go_sem]) rfl ⟨rfl, (Below.refl _ _).alloc (Nat.le_refl _) _⟩

theorem new_over (n d : Int) (h1 : -9223372036854775808 ≤ n) (h2 : n ≤ 9223372036854775807) (h3 : -9223372036854775808 ≤ d) (h4 : d ≤ 9223372036854775807) (hd : d ≠ 0)
    (ho : 2147483647 < absI n / gcdI n d ∨ 2147483647 < absI d / gcdI n d) (w : World) :
    Calls Tryd.prog 18 #[.int .i64 n, .int .i64 d] w fun e w' => e = .returned (.tuple #[.agg #[.int .i64 0, .int .i64 0], .int .i64 23]) ∧ Below w.heap.size w w' := by
  have hd0 : (d == 0) = false := by simp [hd]
  have b1 := absI_nonneg n
  have b2 := absI_nonneg d
  have b3 := absI_le n h1 h2
  have b4 := absI_le d h3 h4
  have hab := gcdI_absI n d
  have hg := gcdI_pos n d hd
  have hg0 : ¬ gcdI n d = 0 := by omega
  obtain ⟨t1, t2⟩ := div_le (absI n) (gcdI n d) b1 hg
  obtain ⟨t3, t4⟩ := div_le (absI d) (gcdI n d) b2 hg
  have hgu := gcdI_le n d hd
  by_cases o1 : 2147483647 < absI n / gcdI n d
  · go_enter Tryd.func18, Tryd.ntmps18
    go_wp2_with (first | (go_at_call 38; refine (size_any _ (by omega) (by omega) _).mono ?_; rintro e w' ⟨rfl, rfl⟩) | (go_at_call 37; refine (divisor_any _ _ (by omega) (by omega) (by omega) (by omega) _).mono ?_; rintro e w' ⟨rfl, nn, rfl⟩))
    go_quiet (fail)
    go_wp2
    exact bodyPost_ret (v := .tuple #[.agg #[.int .i64 0, .int .i64 0], .int .i64 23]) (by simp [results, Tryd.results18, go_sem]) rfl ⟨rfl, by repeat (first | exact Below.refl _ _ | refine below_drewN ?_ _ | refine Below.setCell ?_ (by simp) _ | refine Below.alloc ?_ (by simp) _ | refine Below.drew ?_)⟩
  · have o2 : 2147483647 < absI d / gcdI n d := by omega
    go_enter Tryd.func18, Tryd.ntmps18
    go_wp2_with (first | (go_at_call 38; refine (size_any _ (by omega) (by omega) _).mono ?_; rintro e w' ⟨rfl, rfl⟩) | (go_at_call 37; refine (divisor_any _ _ (by omega) (by omega) (by omega) (by omega) _).mono ?_; rintro e w' ⟨rfl, nn, rfl⟩))
    go_quiet (fail)
    go_wp2
    exact bodyPost_ret (v := .tuple #[.agg #[.int .i64 0, .int .i64 0], .int .i64 23]) (by simp [results, Tryd.results18, go_sem]) rfl ⟨rfl, by repeat (first | exact Below.refl _ _ | refine below_drewN ?_ _ | refine Below.setCell ?_ (by simp) _ | refine Below.alloc ?_ (by simp) _ | refine Below.drew ?_)⟩

theorem new_same (n d : Int) (h1 : -9223372036854775808 ≤ n) (h2 : n ≤ 9223372036854775807) (h3 : -9223372036854775808 ≤ d) (h4 : d ≤ 9223372036854775807) (hd : d ≠ 0)
    (o1 : absI n / gcdI n d ≤ 2147483647) (o2 : absI d / gcdI n d ≤ 2147483647) (hs : n < 0 ↔ d < 0) (w : World) :
    Calls Tryd.prog 18 #[.int .i64 n, .int .i64 d] w fun e w' => e = .returned (.tuple #[.agg #[.int .i64 (absI n / gcdI n d), .int .i64 (absI d / gcdI n d)], .int .i64 0]) ∧ Below w.heap.size w w' := by
  have hd0 : (d == 0) = false := by simp [hd]
  have b1 := absI_nonneg n
  have b2 := absI_nonneg d
  have b3 := absI_le n h1 h2
  have b4 := absI_le d h3 h4
  have hab := gcdI_absI n d
  have hg := gcdI_pos n d hd
  have hg0 : ¬ gcdI n d = 0 := by omega
  obtain ⟨t1, t2⟩ := div_le (absI n) (gcdI n d) b1 hg
  obtain ⟨t3, t4⟩ := div_le (absI d) (gcdI n d) b2 hg
  have hgu := gcdI_le n d hd
  by_cases s1 : n < 0
  · have s2 : d < 0 := by omega
    clear hs
    have p1 : decide (n < 0) = true := by simp; omega
    have p2 : decide (d < 0) = true := by simp; omega
    have p3 : decide (2147483647 < absI n / gcdI n d) = false := by simp; omega
    have p4 : decide (2147483647 < absI d / gcdI n d) = false := by simp; omega
    go_enter Tryd.func18, Tryd.ntmps18
    go_wp2_with (first | (go_at_call 38; refine (size_any _ (by omega) (by omega) _).mono ?_; rintro e w' ⟨rfl, rfl⟩) | (go_at_call 37; refine (divisor_any _ _ (by omega) (by omega) (by omega) (by omega) _).mono ?_; rintro e w' ⟨rfl, nn, rfl⟩))
    go_quiet (fail)
    go_wp2
    exact bodyPost_ret (v := .tuple #[.agg #[.int .i64 (absI n / gcdI n d), .int .i64 (absI d / gcdI n d)], .int .i64 0]) (by simp [results, Tryd.results18, go_sem]) rfl ⟨rfl, by repeat (first | exact Below.refl _ _ | refine below_drewN ?_ _ | refine Below.setCell ?_ (by simp) _ | refine Below.alloc ?_ (by simp) _ | refine Below.drew ?_)⟩
  · have s2 : 0 ≤ d := by omega
    clear hs
    have p1 : decide (n < 0) = false := by simp; omega
    have p2 : decide (d < 0) = false := by simp; omega
    have p3 : decide (2147483647 < absI n / gcdI n d) = false := by simp; omega
    have p4 : decide (2147483647 < absI d / gcdI n d) = false := by simp; omega
    go_enter Tryd.func18, Tryd.ntmps18
    go_wp2_with (first | (go_at_call 38; refine (size_any _ (by omega) (by omega) _).mono ?_; rintro e w' ⟨rfl, rfl⟩) | (go_at_call 37; refine (divisor_any _ _ (by omega) (by omega) (by omega) (by omega) _).mono ?_; rintro e w' ⟨rfl, nn, rfl⟩))
    go_quiet (fail)
    go_wp2
    exact bodyPost_ret (v := .tuple #[.agg #[.int .i64 (absI n / gcdI n d), .int .i64 (absI d / gcdI n d)], .int .i64 0]) (by simp [results, Tryd.results18, go_sem]) rfl ⟨rfl, by repeat (first | exact Below.refl _ _ | refine below_drewN ?_ _ | refine Below.setCell ?_ (by simp) _ | refine Below.alloc ?_ (by simp) _ | refine Below.drew ?_)⟩

theorem new_apart (n d : Int) (h1 : -9223372036854775808 ≤ n) (h2 : n ≤ 9223372036854775807) (h3 : -9223372036854775808 ≤ d) (h4 : d ≤ 9223372036854775807) (hd : d ≠ 0)
    (o1 : absI n / gcdI n d ≤ 2147483647) (o2 : absI d / gcdI n d ≤ 2147483647) (hs : ¬ (n < 0 ↔ d < 0)) (w : World) :
    Calls Tryd.prog 18 #[.int .i64 n, .int .i64 d] w fun e w' => e = .returned (.tuple #[.agg #[.int .i64 (-(absI n / gcdI n d)), .int .i64 (absI d / gcdI n d)], .int .i64 0]) ∧ Below w.heap.size w w' := by
  have hd0 : (d == 0) = false := by simp [hd]
  have b1 := absI_nonneg n
  have b2 := absI_nonneg d
  have b3 := absI_le n h1 h2
  have b4 := absI_le d h3 h4
  have hab := gcdI_absI n d
  have hg := gcdI_pos n d hd
  have hg0 : ¬ gcdI n d = 0 := by omega
  obtain ⟨t1, t2⟩ := div_le (absI n) (gcdI n d) b1 hg
  obtain ⟨t3, t4⟩ := div_le (absI d) (gcdI n d) b2 hg
  have hgu := gcdI_le n d hd
  by_cases s1 : n < 0
  · have s2 : 0 ≤ d := by omega
    clear hs
    have p1 : decide (n < 0) = true := by simp; omega
    have p2 : decide (d < 0) = false := by simp; omega
    have p3 : decide (2147483647 < absI n / gcdI n d) = false := by simp; omega
    have p4 : decide (2147483647 < absI d / gcdI n d) = false := by simp; omega
    go_enter Tryd.func18, Tryd.ntmps18
    go_wp2_with (first | (go_at_call 38; refine (size_any _ (by omega) (by omega) _).mono ?_; rintro e w' ⟨rfl, rfl⟩) | (go_at_call 37; refine (divisor_any _ _ (by omega) (by omega) (by omega) (by omega) _).mono ?_; rintro e w' ⟨rfl, nn, rfl⟩))
    go_quiet (fail)
    go_wp2
    exact bodyPost_ret (v := .tuple #[.agg #[.int .i64 (-(absI n / gcdI n d)), .int .i64 (absI d / gcdI n d)], .int .i64 0]) (by simp [results, Tryd.results18, go_sem]) rfl ⟨rfl, by repeat (first | exact Below.refl _ _ | refine below_drewN ?_ _ | refine Below.setCell ?_ (by simp) _ | refine Below.alloc ?_ (by simp) _ | refine Below.drew ?_)⟩
  · have s2 : d < 0 := by omega
    clear hs
    have p1 : decide (n < 0) = false := by simp; omega
    have p2 : decide (d < 0) = true := by simp; omega
    have p3 : decide (2147483647 < absI n / gcdI n d) = false := by simp; omega
    have p4 : decide (2147483647 < absI d / gcdI n d) = false := by simp; omega
    go_enter Tryd.func18, Tryd.ntmps18
    go_wp2_with (first | (go_at_call 38; refine (size_any _ (by omega) (by omega) _).mono ?_; rintro e w' ⟨rfl, rfl⟩) | (go_at_call 37; refine (divisor_any _ _ (by omega) (by omega) (by omega) (by omega) _).mono ?_; rintro e w' ⟨rfl, nn, rfl⟩))
    go_quiet (fail)
    go_wp2
    exact bodyPost_ret (v := .tuple #[.agg #[.int .i64 (-(absI n / gcdI n d)), .int .i64 (absI d / gcdI n d)], .int .i64 0]) (by simp [results, Tryd.results18, go_sem]) rfl ⟨rfl, by repeat (first | exact Below.refl _ _ | refine below_drewN ?_ _ | refine Below.setCell ?_ (by simp) _ | refine Below.alloc ?_ (by simp) _ | refine Below.drew ?_)⟩

theorem new_any (n d : Int) (h1 : -9223372036854775808 ≤ n) (h2 : n ≤ 9223372036854775807) (h3 : -9223372036854775808 ≤ d) (h4 : d ≤ 9223372036854775807) (w : World) :
    Calls Tryd.prog 18 #[.int .i64 n, .int .i64 d] w fun e w' => e = .returned (.tuple #[.agg #[.int .i64 (newN n d), .int .i64 (newD n d)], .int .i64 (newE n d)]) ∧ Below w.heap.size w w' := by
  unfold newN newD newE
  by_cases hd : d = 0
  · subst hd; simpa using new_zero n w
  by_cases ho : 2147483647 < absI n / gcdI n d ∨ 2147483647 < absI d / gcdI n d
  · simpa [hd, ho] using new_over n d h1 h2 h3 h4 hd ho w
  by_cases hs : n < 0 ↔ d < 0
  · simpa [hd, ho, hs] using new_same n d h1 h2 h3 h4 hd (by omega) (by omega) hs w
  · simpa [hd, ho, hs] using new_apart n d h1 h2 h3 h4 hd (by omega) (by omega) hs w
end Go.Proofs.YtcloepkaieifpaaDoor
