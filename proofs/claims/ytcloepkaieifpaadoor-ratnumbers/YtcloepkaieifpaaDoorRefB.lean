/- The walk of the document's own New: it answers as rat.New does, for any two numbers. -/
import Derived.Test.YtcloepkaieifpaaDoorRefA
namespace Go.Proofs.YtcloepkaieifpaaDoor
open Go.RowKit

theorem refnew_zero (n : Int) (w : World) :
    Calls Tryd.prog 19 #[.int .i64 n, .int .i64 0] w fun e w' => e = .returned (.tuple #[.agg #[.int .i64 0, .int .i64 0], .int .i64 1]) ∧ Below w.heap.size w w' := by
  go_enter Tryd.func19, Tryd.ntmps19
  go_wp2
  exact bodyPost_ret (v := .tuple #[.agg #[.int .i64 0, .int .i64 0], .int .i64 1]) (by simp [results, Tryd.results19, go_sem]) rfl ⟨rfl, (Below.refl _ _).alloc (Nat.le_refl _) _⟩

set_option maxHeartbeats 1000000 in
theorem refnew_over (n d : Int) (h1 : -9223372036854775808 ≤ n) (h2 : n ≤ 9223372036854775807) (h3 : -9223372036854775808 ≤ d) (h4 : d ≤ 9223372036854775807) (hd : d ≠ 0)
    (ho : 2147483647 < absI n / gcdI n d ∨ 2147483647 < absI d / gcdI n d) (w : World) :
    Calls Tryd.prog 19 #[.int .i64 n, .int .i64 d] w fun e w' => e = .returned (.tuple #[.agg #[.int .i64 0, .int .i64 0], .int .i64 23]) ∧ Below w.heap.size w w' := by
  have hd0 : (d == 0) = false := by simp [hd]
  have b1 := absI_nonneg n
  have b2 := absI_nonneg d
  have b3 := absI_le n h1 h2
  have b4 := absI_le d h3 h4
  have hab := gcdI_absI n d
  have hg := gcdI_pos n d hd
  have hg0 : ¬ gcdI n d = 0 := by omega
  obtain ⟨t1, t2⟩ := div_le (absI n) (gcdI n d) b1 hg
  obtain ⟨t3, t4⟩ := div_le (absI d) (gcdI n d) b2 hg
  have hgu := gcdI_le n d hd
  by_cases o1 : 2147483647 < absI n / gcdI n d
  · have q1 : decide (2147483647 < absI n / gcdI n d) = true := by simp; omega
    go_enter Tryd.func19, Tryd.ntmps19
    go_wp2_with (go_at_call 39; refine (parts_any _ (by omega) (by omega) _).mono ?_; rintro e w' ⟨rfl, rfl⟩)
    go_loopw [10, 11] (fun s t u => ∃ x y : Int, 0 ≤ x ∧ x < 18446744073709551616 ∧ 0 ≤ y ∧ y < 18446744073709551616 ∧ s = .int .u64 x ∧ t = .int .u64 y ∧ Hid (gcdI x y = gcdI n d) ∧ ∃ m, u = (w.alloc (Obj.cells #[Value.int IntKind.i64 0, Value.int IntKind.i64 0] 26)).drewN m) (fun _ t _ => (intOf t).toNat)
    case atStart => exact ⟨absI n, absI d, b1, by omega, b2, by omega, rfl, rfl, hab, 0, rfl⟩
    case round =>
      obtain ⟨x, y, x1, x2, y1, y2, rfl, rfl, hgx, m, rfl⟩ := hrel
      by_cases hy : y = 0
      · have h0 : (y != 0) = false := by simp [hy]
        subst hy
        have hx : x = gcdI n d := (gcdI_zero x x1).symm.trans hgx.out
        subst hx
        clear hgx
        go_wp2
        go_quiet (fail)
        go_wp2
        exact bodyPost_ret (v := .tuple #[.agg #[.int .i64 0, .int .i64 0], .int .i64 23]) (by simp [results, Tryd.results19, go_sem]) rfl ⟨rfl, by repeat (first | exact Below.refl _ _ | refine below_drewN ?_ _ | refine Below.setCell ?_ (by first | omega | (simp <;> omega)) _ | refine Below.alloc ?_ (by first | omega | (simp <;> omega)) _ | refine Below.drew ?_)⟩
      · have h0 : (y != 0) = true := by simp [hy]
        go_wp2
        go_quiet (fail)
        go_wp2
        go_roundw
        case rel => exact ⟨y, x % y, y1, y2, Int.emod_nonneg _ hy, by have := Int.emod_lt_of_pos x (show 0 < y by omega); omega, rfl, rfl, (gcdI_step x y x1 y1).trans hgx, _, World.drewN_drewN _ _ _⟩
        case measure => have := Int.emod_lt_of_pos x (show 0 < y by omega); simp [intOf]; omega
  · have q1 : decide (2147483647 < absI n / gcdI n d) = false := by simp; omega
    have q2 : decide (2147483647 < absI d / gcdI n d) = true := by simp; omega
    go_enter Tryd.func19, Tryd.ntmps19
    go_wp2_with (go_at_call 39; refine (parts_any _ (by omega) (by omega) _).mono ?_; rintro e w' ⟨rfl, rfl⟩)
    go_loopw [10, 11] (fun s t u => ∃ x y : Int, 0 ≤ x ∧ x < 18446744073709551616 ∧ 0 ≤ y ∧ y < 18446744073709551616 ∧ s = .int .u64 x ∧ t = .int .u64 y ∧ Hid (gcdI x y = gcdI n d) ∧ ∃ m, u = (w.alloc (Obj.cells #[Value.int IntKind.i64 0, Value.int IntKind.i64 0] 26)).drewN m) (fun _ t _ => (intOf t).toNat)
    case atStart => exact ⟨absI n, absI d, b1, by omega, b2, by omega, rfl, rfl, hab, 0, rfl⟩
    case round =>
      obtain ⟨x, y, x1, x2, y1, y2, rfl, rfl, hgx, m, rfl⟩ := hrel
      by_cases hy : y = 0
      · have h0 : (y != 0) = false := by simp [hy]
        subst hy
        have hx : x = gcdI n d := (gcdI_zero x x1).symm.trans hgx.out
        subst hx
        clear hgx
        go_wp2
        go_quiet (fail)
        go_wp2
        exact bodyPost_ret (v := .tuple #[.agg #[.int .i64 0, .int .i64 0], .int .i64 23]) (by simp [results, Tryd.results19, go_sem]) rfl ⟨rfl, by repeat (first | exact Below.refl _ _ | refine below_drewN ?_ _ | refine Below.setCell ?_ (by first | omega | (simp <;> omega)) _ | refine Below.alloc ?_ (by first | omega | (simp <;> omega)) _ | refine Below.drew ?_)⟩
      · have h0 : (y != 0) = true := by simp [hy]
        go_wp2
        go_quiet (fail)
        go_wp2
        go_roundw
        case rel => exact ⟨y, x % y, y1, y2, Int.emod_nonneg _ hy, by have := Int.emod_lt_of_pos x (show 0 < y by omega); omega, rfl, rfl, (gcdI_step x y x1 y1).trans hgx, _, World.drewN_drewN _ _ _⟩
        case measure => have := Int.emod_lt_of_pos x (show 0 < y by omega); simp [intOf]; omega

set_option maxHeartbeats 1000000 in
theorem refnew_same (n d : Int) (h1 : -9223372036854775808 ≤ n) (h2 : n ≤ 9223372036854775807) (h3 : -9223372036854775808 ≤ d) (h4 : d ≤ 9223372036854775807) (hd : d ≠ 0)
    (o1 : absI n / gcdI n d ≤ 2147483647) (o2 : absI d / gcdI n d ≤ 2147483647) (hs : n < 0 ↔ d < 0) (w : World) :
    Calls Tryd.prog 19 #[.int .i64 n, .int .i64 d] w fun e w' => e = .returned (.tuple #[.agg #[.int .i64 (absI n / gcdI n d), .int .i64 (absI d / gcdI n d)], .int .i64 0]) ∧ Below w.heap.size w w' := by
  have hd0 : (d == 0) = false := by simp [hd]
  have b1 := absI_nonneg n
  have b2 := absI_nonneg d
  have b3 := absI_le n h1 h2
  have b4 := absI_le d h3 h4
  have hab := gcdI_absI n d
  have hg := gcdI_pos n d hd
  have hg0 : ¬ gcdI n d = 0 := by omega
  obtain ⟨t1, t2⟩ := div_le (absI n) (gcdI n d) b1 hg
  obtain ⟨t3, t4⟩ := div_le (absI d) (gcdI n d) b2 hg
  have hgu := gcdI_le n d hd
  by_cases s1 : n < 0
  · have s2 : d < 0 := by omega
    have p1 : decide (n < 0) = true := by simp; omega
    have p2 : decide (d < 0) = true := by simp; omega
    have p3 : decide (2147483647 < absI n / gcdI n d) = false := by simp; omega
    have p4 : decide (2147483647 < absI d / gcdI n d) = false := by simp; omega
    clear hs
    go_enter Tryd.func19, Tryd.ntmps19
    go_wp2_with (go_at_call 39; refine (parts_any _ (by omega) (by omega) _).mono ?_; rintro e w' ⟨rfl, rfl⟩)
    go_loopw [10, 11] (fun s t u => ∃ x y : Int, 0 ≤ x ∧ x < 18446744073709551616 ∧ 0 ≤ y ∧ y < 18446744073709551616 ∧ s = .int .u64 x ∧ t = .int .u64 y ∧ Hid (gcdI x y = gcdI n d) ∧ ∃ m, u = (w.alloc (Obj.cells #[Value.int IntKind.i64 0, Value.int IntKind.i64 0] 26)).drewN m) (fun _ t _ => (intOf t).toNat)
    case atStart => exact ⟨absI n, absI d, b1, by omega, b2, by omega, rfl, rfl, hab, 0, rfl⟩
    case round =>
      obtain ⟨x, y, x1, x2, y1, y2, rfl, rfl, hgx, m, rfl⟩ := hrel
      by_cases hy : y = 0
      · have h0 : (y != 0) = false := by simp [hy]
        subst hy
        have hx : x = gcdI n d := (gcdI_zero x x1).symm.trans hgx.out
        subst hx
        clear hgx
        go_wp2
        go_quiet (fail)
        go_wp2
        exact bodyPost_ret (v := .tuple #[.agg #[.int .i64 (absI n / gcdI n d), .int .i64 (absI d / gcdI n d)], .int .i64 0]) (by simp [results, Tryd.results19, go_sem]) rfl ⟨rfl, by repeat (first | exact Below.refl _ _ | refine below_drewN ?_ _ | refine Below.setCell ?_ (by first | omega | (simp <;> omega)) _ | refine Below.alloc ?_ (by first | omega | (simp <;> omega)) _ | refine Below.drew ?_)⟩
      · have h0 : (y != 0) = true := by simp [hy]
        go_wp2
        go_quiet (fail)
        go_wp2
        go_roundw
        case rel => exact ⟨y, x % y, y1, y2, Int.emod_nonneg _ hy, by have := Int.emod_lt_of_pos x (show 0 < y by omega); omega, rfl, rfl, (gcdI_step x y x1 y1).trans hgx, _, World.drewN_drewN _ _ _⟩
        case measure => have := Int.emod_lt_of_pos x (show 0 < y by omega); simp [intOf]; omega
  · have s2 : 0 ≤ d := by omega
    have p1 : decide (n < 0) = false := by simp; omega
    have p2 : decide (d < 0) = false := by simp; omega
    have p3 : decide (2147483647 < absI n / gcdI n d) = false := by simp; omega
    have p4 : decide (2147483647 < absI d / gcdI n d) = false := by simp; omega
    clear hs
    go_enter Tryd.func19, Tryd.ntmps19
    go_wp2_with (go_at_call 39; refine (parts_any _ (by omega) (by omega) _).mono ?_; rintro e w' ⟨rfl, rfl⟩)
    go_loopw [10, 11] (fun s t u => ∃ x y : Int, 0 ≤ x ∧ x < 18446744073709551616 ∧ 0 ≤ y ∧ y < 18446744073709551616 ∧ s = .int .u64 x ∧ t = .int .u64 y ∧ Hid (gcdI x y = gcdI n d) ∧ ∃ m, u = (w.alloc (Obj.cells #[Value.int IntKind.i64 0, Value.int IntKind.i64 0] 26)).drewN m) (fun _ t _ => (intOf t).toNat)
    case atStart => exact ⟨absI n, absI d, b1, by omega, b2, by omega, rfl, rfl, hab, 0, rfl⟩
    case round =>
      obtain ⟨x, y, x1, x2, y1, y2, rfl, rfl, hgx, m, rfl⟩ := hrel
      by_cases hy : y = 0
      · have h0 : (y != 0) = false := by simp [hy]
        subst hy
        have hx : x = gcdI n d := (gcdI_zero x x1).symm.trans hgx.out
        subst hx
        clear hgx
        go_wp2
        go_quiet (fail)
        go_wp2
        exact bodyPost_ret (v := .tuple #[.agg #[.int .i64 (absI n / gcdI n d), .int .i64 (absI d / gcdI n d)], .int .i64 0]) (by simp [results, Tryd.results19, go_sem]) rfl ⟨rfl, by repeat (first | exact Below.refl _ _ | refine below_drewN ?_ _ | refine Below.setCell ?_ (by first | omega | (simp <;> omega)) _ | refine Below.alloc ?_ (by first | omega | (simp <;> omega)) _ | refine Below.drew ?_)⟩
      · have h0 : (y != 0) = true := by simp [hy]
        go_wp2
        go_quiet (fail)
        go_wp2
        go_roundw
        case rel => exact ⟨y, x % y, y1, y2, Int.emod_nonneg _ hy, by have := Int.emod_lt_of_pos x (show 0 < y by omega); omega, rfl, rfl, (gcdI_step x y x1 y1).trans hgx, _, World.drewN_drewN _ _ _⟩
        case measure => have := Int.emod_lt_of_pos x (show 0 < y by omega); simp [intOf]; omega

set_option maxHeartbeats 1000000 in
theorem refnew_apart (n d : Int) (h1 : -9223372036854775808 ≤ n) (h2 : n ≤ 9223372036854775807) (h3 : -9223372036854775808 ≤ d) (h4 : d ≤ 9223372036854775807) (hd : d ≠ 0)
    (o1 : absI n / gcdI n d ≤ 2147483647) (o2 : absI d / gcdI n d ≤ 2147483647) (hs : ¬ (n < 0 ↔ d < 0)) (w : World) :
    Calls Tryd.prog 19 #[.int .i64 n, .int .i64 d] w fun e w' => e = .returned (.tuple #[.agg #[.int .i64 (-(absI n / gcdI n d)), .int .i64 (absI d / gcdI n d)], .int .i64 0]) ∧ Below w.heap.size w w' := by
  have hd0 : (d == 0) = false := by simp [hd]
  have b1 := absI_nonneg n
  have b2 := absI_nonneg d
  have b3 := absI_le n h1 h2
  have b4 := absI_le d h3 h4
  have hab := gcdI_absI n d
  have hg := gcdI_pos n d hd
  have hg0 : ¬ gcdI n d = 0 := by omega
  obtain ⟨t1, t2⟩ := div_le (absI n) (gcdI n d) b1 hg
  obtain ⟨t3, t4⟩ := div_le (absI d) (gcdI n d) b2 hg
  have hgu := gcdI_le n d hd
  by_cases s1 : n < 0
  · have s2 : 0 ≤ d := by omega
    have p1 : decide (n < 0) = true := by simp; omega
    have p2 : decide (d < 0) = false := by simp; omega
    have p3 : decide (2147483647 < absI n / gcdI n d) = false := by simp; omega
    have p4 : decide (2147483647 < absI d / gcdI n d) = false := by simp; omega
    clear hs
    go_enter Tryd.func19, Tryd.ntmps19
    go_wp2_with (go_at_call 39; refine (parts_any _ (by omega) (by omega) _).mono ?_; rintro e w' ⟨rfl, rfl⟩)
    go_loopw [10, 11] (fun s t u => ∃ x y : Int, 0 ≤ x ∧ x < 18446744073709551616 ∧ 0 ≤ y ∧ y < 18446744073709551616 ∧ s = .int .u64 x ∧ t = .int .u64 y ∧ Hid (gcdI x y = gcdI n d) ∧ ∃ m, u = (w.alloc (Obj.cells #[Value.int IntKind.i64 0, Value.int IntKind.i64 0] 26)).drewN m) (fun _ t _ => (intOf t).toNat)
    case atStart => exact ⟨absI n, absI d, b1, by omega, b2, by omega, rfl, rfl, hab, 0, rfl⟩
    case round =>
      obtain ⟨x, y, x1, x2, y1, y2, rfl, rfl, hgx, m, rfl⟩ := hrel
      by_cases hy : y = 0
      · have h0 : (y != 0) = false := by simp [hy]
        subst hy
        have hx : x = gcdI n d := (gcdI_zero x x1).symm.trans hgx.out
        subst hx
        clear hgx
        go_wp2
        go_quiet (fail)
        go_wp2
        exact bodyPost_ret (v := .tuple #[.agg #[.int .i64 (-(absI n / gcdI n d)), .int .i64 (absI d / gcdI n d)], .int .i64 0]) (by simp [results, Tryd.results19, go_sem]) rfl ⟨rfl, by repeat (first | exact Below.refl _ _ | refine below_drewN ?_ _ | refine Below.setCell ?_ (by first | omega | (simp <;> omega)) _ | refine Below.alloc ?_ (by first | omega | (simp <;> omega)) _ | refine Below.drew ?_)⟩
      · have h0 : (y != 0) = true := by simp [hy]
        go_wp2
        go_quiet (fail)
        go_wp2
        go_roundw
        case rel => exact ⟨y, x % y, y1, y2, Int.emod_nonneg _ hy, by have := Int.emod_lt_of_pos x (show 0 < y by omega); omega, rfl, rfl, (gcdI_step x y x1 y1).trans hgx, _, World.drewN_drewN _ _ _⟩
        case measure => have := Int.emod_lt_of_pos x (show 0 < y by omega); simp [intOf]; omega
  · have s2 : d < 0 := by omega
    have p1 : decide (n < 0) = false := by simp; omega
    have p2 : decide (d < 0) = true := by simp; omega
    have p3 : decide (2147483647 < absI n / gcdI n d) = false := by simp; omega
    have p4 : decide (2147483647 < absI d / gcdI n d) = false := by simp; omega
    clear hs
    go_enter Tryd.func19, Tryd.ntmps19
    go_wp2_with (go_at_call 39; refine (parts_any _ (by omega) (by omega) _).mono ?_; rintro e w' ⟨rfl, rfl⟩)
    go_loopw [10, 11] (fun s t u => ∃ x y : Int, 0 ≤ x ∧ x < 18446744073709551616 ∧ 0 ≤ y ∧ y < 18446744073709551616 ∧ s = .int .u64 x ∧ t = .int .u64 y ∧ Hid (gcdI x y = gcdI n d) ∧ ∃ m, u = (w.alloc (Obj.cells #[Value.int IntKind.i64 0, Value.int IntKind.i64 0] 26)).drewN m) (fun _ t _ => (intOf t).toNat)
    case atStart => exact ⟨absI n, absI d, b1, by omega, b2, by omega, rfl, rfl, hab, 0, rfl⟩
    case round =>
      obtain ⟨x, y, x1, x2, y1, y2, rfl, rfl, hgx, m, rfl⟩ := hrel
      by_cases hy : y = 0
      · have h0 : (y != 0) = false := by simp [hy]
        subst hy
        have hx : x = gcdI n d := (gcdI_zero x x1).symm.trans hgx.out
        subst hx
        clear hgx
        go_wp2
        go_quiet (fail)
        go_wp2
        exact bodyPost_ret (v := .tuple #[.agg #[.int .i64 (-(absI n / gcdI n d)), .int .i64 (absI d / gcdI n d)], .int .i64 0]) (by simp [results, Tryd.results19, go_sem]) rfl ⟨rfl, by repeat (first | exact Below.refl _ _ | refine below_drewN ?_ _ | refine Below.setCell ?_ (by first | omega | (simp <;> omega)) _ | refine Below.alloc ?_ (by first | omega | (simp <;> omega)) _ | refine Below.drew ?_)⟩
      · have h0 : (y != 0) = true := by simp [hy]
        go_wp2
        go_quiet (fail)
        go_wp2
        go_roundw
        case rel => exact ⟨y, x % y, y1, y2, Int.emod_nonneg _ hy, by have := Int.emod_lt_of_pos x (show 0 < y by omega); omega, rfl, rfl, (gcdI_step x y x1 y1).trans hgx, _, World.drewN_drewN _ _ _⟩
        case measure => have := Int.emod_lt_of_pos x (show 0 < y by omega); simp [intOf]; omega

theorem refnew_any (n d : Int) (h1 : -9223372036854775808 ≤ n) (h2 : n ≤ 9223372036854775807) (h3 : -9223372036854775808 ≤ d) (h4 : d ≤ 9223372036854775807) (w : World) :
    Calls Tryd.prog 19 #[.int .i64 n, .int .i64 d] w fun e w' => e = .returned (.tuple #[.agg #[.int .i64 (newN n d), .int .i64 (newD n d)], .int .i64 (newE n d)]) ∧ Below w.heap.size w w' := by
  unfold newN newD newE
  by_cases hd : d = 0
  · subst hd; simpa using refnew_zero n w
  by_cases ho : 2147483647 < absI n / gcdI n d ∨ 2147483647 < absI d / gcdI n d
  · simpa [hd, ho] using refnew_over n d h1 h2 h3 h4 hd ho w
  by_cases hs : n < 0 ↔ d < 0
  · simpa [hd, ho, hs] using refnew_same n d h1 h2 h3 h4 hd (by omega) (by omega) hs w
  · simpa [hd, ho, hs] using refnew_apart n d h1 h2 h3 h4 hd (by omega) (by omega) hs w
end Go.Proofs.YtcloepkaieifpaaDoor
