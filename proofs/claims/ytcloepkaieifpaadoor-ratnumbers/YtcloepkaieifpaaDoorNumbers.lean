/- The walk of RatNumbers: a closed sentence: chapter 1's runs, numbers at each bound. -/
import Derived.Test.YtcloepkaieifpaaDoorWalksF
import Derived.Test.YtcloepkaieifpaaDoorMust
import Derived.Test.YtcloepkaieifpaaDoorTwo
namespace Go.Proofs.YtcloepkaieifpaaDoor
open Go.RowKit Go.Sort

set_option maxRecDepth 100000 in
set_option maxHeartbeats 4000000 in
theorem numbers_walk (w : World) (tab : Tab w) :
    Calls Tryd.prog 3 #[] w fun e w' => e = .returned (.bool true) ∧ Below w.heap.size w w' := by
  go_enter Tryd.func3, Tryd.ntmps3
  go_wp2_with fail
  have hB : Below w.heap.size w (w.alloc (Obj.cells #[Value.int IntKind.i64 (-9223372036854775808), Value.int IntKind.i64 (-4611686018427387904), Value.int IntKind.i64 (-2147483648), Value.int IntKind.i64 (-2147483647), Value.int IntKind.i64 (-6), Value.int IntKind.i64 (-1), Value.int IntKind.i64 0, Value.int IntKind.i64 1, Value.int IntKind.i64 4, Value.int IntKind.i64 2147483647, Value.int IntKind.i64 2147483648, Value.int IntKind.i64 4611686018427387904, Value.int IntKind.i64 9223372036854775807] 2)) := (Below.refl _ _).alloc (Nat.le_refl _) _
  replace tab := tab.below hB
  have hc : ∀ j : Nat, j < 13 → ∃ x : Int, -9223372036854775808 ≤ x ∧ x ≤ 9223372036854775807 ∧ (w.alloc (Obj.cells #[Value.int IntKind.i64 (-9223372036854775808), Value.int IntKind.i64 (-4611686018427387904), Value.int IntKind.i64 (-2147483648), Value.int IntKind.i64 (-2147483647), Value.int IntKind.i64 (-6), Value.int IntKind.i64 (-1), Value.int IntKind.i64 0, Value.int IntKind.i64 1, Value.int IntKind.i64 4, Value.int IntKind.i64 2147483647, Value.int IntKind.i64 2147483648, Value.int IntKind.i64 4611686018427387904, Value.int IntKind.i64 9223372036854775807] 2)).cell? ⟨w.heap.size, j, none⟩ = some (.int .i64 x) := by
    intro j hj
    have h9 : j = 0 ∨ j = 1 ∨ j = 2 ∨ j = 3 ∨ j = 4 ∨ j = 5 ∨ j = 6 ∨ j = 7 ∨ j = 8 ∨ j = 9 ∨ j = 10 ∨ j = 11 ∨ j = 12 := by omega
    rcases h9 with rfl | rfl | rfl | rfl | rfl | rfl | rfl | rfl | rfl | rfl | rfl | rfl | rfl
    · exact ⟨(-9223372036854775808), by omega, by omega, by simp [go_sem]⟩
    · exact ⟨(-4611686018427387904), by omega, by omega, by simp [go_sem]⟩
    · exact ⟨(-2147483648), by omega, by omega, by simp [go_sem]⟩
    · exact ⟨(-2147483647), by omega, by omega, by simp [go_sem]⟩
    · exact ⟨(-6), by omega, by omega, by simp [go_sem]⟩
    · exact ⟨(-1), by omega, by omega, by simp [go_sem]⟩
    · exact ⟨0, by omega, by omega, by simp [go_sem]⟩
    · exact ⟨1, by omega, by omega, by simp [go_sem]⟩
    · exact ⟨4, by omega, by omega, by simp [go_sem]⟩
    · exact ⟨2147483647, by omega, by omega, by simp [go_sem]⟩
    · exact ⟨2147483648, by omega, by omega, by simp [go_sem]⟩
    · exact ⟨4611686018427387904, by omega, by omega, by simp [go_sem]⟩
    · exact ⟨9223372036854775807, by omega, by omega, by simp [go_sem]⟩
  generalize (w.alloc (Obj.cells #[Value.int IntKind.i64 (-9223372036854775808), Value.int IntKind.i64 (-4611686018427387904), Value.int IntKind.i64 (-2147483648), Value.int IntKind.i64 (-2147483647), Value.int IntKind.i64 (-6), Value.int IntKind.i64 (-1), Value.int IntKind.i64 0, Value.int IntKind.i64 1, Value.int IntKind.i64 4, Value.int IntKind.i64 2147483647, Value.int IntKind.i64 2147483648, Value.int IntKind.i64 4611686018427387904, Value.int IntKind.i64 9223372036854775807] 2)) = V0 at hB tab hc ⊢
  go_loopw [2] (fun t u => ∃ (i : Nat) (V : World), i ≤ 13 ∧ t = .int .i64 i ∧ V = u ∧ Below V0.heap.size V0 V) (fun t _ => 13 - (intOf t).toNat)
  case atStart => exact ⟨0, _, by omega, rfl, rfl, Below.refl _ _⟩
  case round =>
    obtain ⟨i, u, hi, rfl, rfl, hu⟩ := hrel
    by_cases hlt : i < 13
    · have hlt' : (i : Int) < 13 := by omega
      obtain ⟨x, x1, x2, cx⟩ := hc i hlt
      go_wp2_with fail
      go_loopw [3] (fun t u => ∃ (k : Nat) (V : World), k ≤ 13 ∧ t = .int .i64 k ∧ V = u ∧ Below V0.heap.size V0 V) (fun t _ => 13 - (intOf t).toNat)
      case atStart => exact ⟨0, _, by omega, rfl, rfl, hu⟩
      case round =>
        obtain ⟨k, u', hk, rfl, rfl, hu'⟩ := hrel
        by_cases hkt : k < 13
        · have hkt' : (k : Int) < 13 := by omega
          obtain ⟨y, y1, y2, cy⟩ := hc k hkt
          clear hc
          replace cx := cell_later hu' cx
          replace cy := cell_later hu' cy
          have tab' := tab.below hu'
          go_wp2_with fail
          have qx := fun d os => cell_regrown cx d os
          have qy := fun d os => cell_regrown cy d os
          have HT : ∀ d os, Tab (grow (redrawn u' d) os) := fun d os => tab'.below (below_regrown u' d os)
          refine wp_region_quiet_below (by kernel_rfl) (by kernel_rfl) ?_
          repeat (quiet_step (first | (go_at_call 6; exact Calls.regrown_of (news_any x y x1 x2 y1 y2 _)) | (go_at_call 7; with_reducible exact Calls.regrown_of (two_any x y y 1 x1 x2 y1 y2 y1 y2 (by omega) (by omega) _ (HT _ _))) | (go_at_call 7; with_reducible exact Calls.regrown_of (two_any x 1 1 y x1 x2 (by omega) (by omega) (by omega) (by omega) y1 y2 _ (HT _ _))) | (go_at_call 7; with_reducible exact Calls.regrown_of (two_any x 3 y 7 x1 x2 (by omega) (by omega) y1 y2 (by omega) (by omega) _ (HT _ _)))))
          refine wpQuiet_nil ?_
          intro _ hw'
          obtain ⟨⟨dq, osq⟩, hw''⟩ := hw'
          subst hw''
          go_wp2
          go_roundw
          case rel => exact ⟨k + 1, _, by omega, by go_num, rfl, below_via hu' (below_regrown u' dq osq) hu'.size⟩
          case measure => simp [intOf]; omega
        · have hkt' : ¬ (k : Int) < 13 := by omega
          clear hc
          go_wp2
          go_roundw
          case rel => exact ⟨i + 1, _, by omega, by go_num, rfl, hu'⟩
          case measure => simp [intOf]; omega
    · have hlt' : ¬ (i : Int) < 13 := by omega
      clear hc
      replace hB := below_via hB hu hB.size
      replace tab := tab.below hu
      clear hu
      go_wp2_with fail
      have hbn : Below u.heap.size u (u.alloc (Obj.cells #[Value.string { data := #[] }, Value.string { data := #[45] }, Value.string { data := #[48] }, Value.string { data := #[45, 48] }, Value.string { data := #[48, 48] }, Value.string { data := #[49, 47, 50] }, Value.string { data := #[50, 47, 52] }, Value.string { data := #[49, 47, 49] }, Value.string { data := #[49, 47, 48] }, Value.string { data := #[45, 49, 47, 50] }, Value.string { data := #[49, 47, 45, 50] }, Value.string { data := #[50, 49, 52, 55, 52, 56, 51, 54, 52, 55] }, Value.string { data := #[50, 49, 52, 55, 52, 56, 51, 54, 52, 56] }, Value.string { data := #[45, 50, 49, 52, 55, 52, 56, 51, 54, 52, 55, 47, 50, 49, 52, 55, 52, 56, 51, 54, 52, 54] }, Value.string { data := #[49, 47, 50, 49, 52, 55, 52, 56, 51, 54, 52, 56] }, Value.string { data := #[57, 50, 50, 51, 51, 55, 50, 48, 51, 54, 56, 53, 52, 55, 55, 53, 56, 48, 56] }, Value.string { data := #[57, 57, 57, 57, 57, 57, 57, 57, 57, 57, 57, 57, 57, 57, 57, 57, 57, 57, 57, 57] }, Value.string { data := #[49, 47, 50, 47, 51] }, Value.string { data := #[47] }, Value.string { data := #[97] }, Value.string { data := #[49, 47] }, Value.string { data := #[47, 50] }, Value.string { data := #[32, 49] }] 9)) := (Below.refl _ _).alloc (Nat.le_refl _) _
      have hc : ∀ j : Nat, j < 23 → ∃ t : ByteArray, t.size ≤ maxLen ∧ (u.alloc (Obj.cells #[Value.string { data := #[] }, Value.string { data := #[45] }, Value.string { data := #[48] }, Value.string { data := #[45, 48] }, Value.string { data := #[48, 48] }, Value.string { data := #[49, 47, 50] }, Value.string { data := #[50, 47, 52] }, Value.string { data := #[49, 47, 49] }, Value.string { data := #[49, 47, 48] }, Value.string { data := #[45, 49, 47, 50] }, Value.string { data := #[49, 47, 45, 50] }, Value.string { data := #[50, 49, 52, 55, 52, 56, 51, 54, 52, 55] }, Value.string { data := #[50, 49, 52, 55, 52, 56, 51, 54, 52, 56] }, Value.string { data := #[45, 50, 49, 52, 55, 52, 56, 51, 54, 52, 55, 47, 50, 49, 52, 55, 52, 56, 51, 54, 52, 54] }, Value.string { data := #[49, 47, 50, 49, 52, 55, 52, 56, 51, 54, 52, 56] }, Value.string { data := #[57, 50, 50, 51, 51, 55, 50, 48, 51, 54, 56, 53, 52, 55, 55, 53, 56, 48, 56] }, Value.string { data := #[57, 57, 57, 57, 57, 57, 57, 57, 57, 57, 57, 57, 57, 57, 57, 57, 57, 57, 57, 57] }, Value.string { data := #[49, 47, 50, 47, 51] }, Value.string { data := #[47] }, Value.string { data := #[97] }, Value.string { data := #[49, 47] }, Value.string { data := #[47, 50] }, Value.string { data := #[32, 49] }] 9)).cell? ⟨u.heap.size, j, none⟩ = some (.string t) := by
        intro j hj
        have h9 : j = 0 ∨ j = 1 ∨ j = 2 ∨ j = 3 ∨ j = 4 ∨ j = 5 ∨ j = 6 ∨ j = 7 ∨ j = 8 ∨ j = 9 ∨ j = 10 ∨ j = 11 ∨ j = 12 ∨ j = 13 ∨ j = 14 ∨ j = 15 ∨ j = 16 ∨ j = 17 ∨ j = 18 ∨ j = 19 ∨ j = 20 ∨ j = 21 ∨ j = 22 := by omega
        rcases h9 with rfl | rfl | rfl | rfl | rfl | rfl | rfl | rfl | rfl | rfl | rfl | rfl | rfl | rfl | rfl | rfl | rfl | rfl | rfl | rfl | rfl | rfl | rfl
        · exact ⟨⟨#[]⟩, by unfold maxLen; decide, by simp [go_sem]⟩
        · exact ⟨⟨#[45]⟩, by unfold maxLen; decide, by simp [go_sem]⟩
        · exact ⟨⟨#[48]⟩, by unfold maxLen; decide, by simp [go_sem]⟩
        · exact ⟨⟨#[45, 48]⟩, by unfold maxLen; decide, by simp [go_sem]⟩
        · exact ⟨⟨#[48, 48]⟩, by unfold maxLen; decide, by simp [go_sem]⟩
        · exact ⟨⟨#[49, 47, 50]⟩, by unfold maxLen; decide, by simp [go_sem]⟩
        · exact ⟨⟨#[50, 47, 52]⟩, by unfold maxLen; decide, by simp [go_sem]⟩
        · exact ⟨⟨#[49, 47, 49]⟩, by unfold maxLen; decide, by simp [go_sem]⟩
        · exact ⟨⟨#[49, 47, 48]⟩, by unfold maxLen; decide, by simp [go_sem]⟩
        · exact ⟨⟨#[45, 49, 47, 50]⟩, by unfold maxLen; decide, by simp [go_sem]⟩
        · exact ⟨⟨#[49, 47, 45, 50]⟩, by unfold maxLen; decide, by simp [go_sem]⟩
        · exact ⟨⟨#[50, 49, 52, 55, 52, 56, 51, 54, 52, 55]⟩, by unfold maxLen; decide, by simp [go_sem]⟩
        · exact ⟨⟨#[50, 49, 52, 55, 52, 56, 51, 54, 52, 56]⟩, by unfold maxLen; decide, by simp [go_sem]⟩
        · exact ⟨⟨#[45, 50, 49, 52, 55, 52, 56, 51, 54, 52, 55, 47, 50, 49, 52, 55, 52, 56, 51, 54, 52, 54]⟩, by unfold maxLen; decide, by simp [go_sem]⟩
        · exact ⟨⟨#[49, 47, 50, 49, 52, 55, 52, 56, 51, 54, 52, 56]⟩, by unfold maxLen; decide, by simp [go_sem]⟩
        · exact ⟨⟨#[57, 50, 50, 51, 51, 55, 50, 48, 51, 54, 56, 53, 52, 55, 55, 53, 56, 48, 56]⟩, by unfold maxLen; decide, by simp [go_sem]⟩
        · exact ⟨⟨#[57, 57, 57, 57, 57, 57, 57, 57, 57, 57, 57, 57, 57, 57, 57, 57, 57, 57, 57, 57]⟩, by unfold maxLen; decide, by simp [go_sem]⟩
        · exact ⟨⟨#[49, 47, 50, 47, 51]⟩, by unfold maxLen; decide, by simp [go_sem]⟩
        · exact ⟨⟨#[47]⟩, by unfold maxLen; decide, by simp [go_sem]⟩
        · exact ⟨⟨#[97]⟩, by unfold maxLen; decide, by simp [go_sem]⟩
        · exact ⟨⟨#[49, 47]⟩, by unfold maxLen; decide, by simp [go_sem]⟩
        · exact ⟨⟨#[47, 50]⟩, by unfold maxLen; decide, by simp [go_sem]⟩
        · exact ⟨⟨#[32, 49]⟩, by unfold maxLen; decide, by simp [go_sem]⟩
      replace hB := below_via hB hbn hB.size
      replace tab := tab.below hbn
      clear hbn
      generalize (u.alloc (Obj.cells #[Value.string { data := #[] }, Value.string { data := #[45] }, Value.string { data := #[48] }, Value.string { data := #[45, 48] }, Value.string { data := #[48, 48] }, Value.string { data := #[49, 47, 50] }, Value.string { data := #[50, 47, 52] }, Value.string { data := #[49, 47, 49] }, Value.string { data := #[49, 47, 48] }, Value.string { data := #[45, 49, 47, 50] }, Value.string { data := #[49, 47, 45, 50] }, Value.string { data := #[50, 49, 52, 55, 52, 56, 51, 54, 52, 55] }, Value.string { data := #[50, 49, 52, 55, 52, 56, 51, 54, 52, 56] }, Value.string { data := #[45, 50, 49, 52, 55, 52, 56, 51, 54, 52, 55, 47, 50, 49, 52, 55, 52, 56, 51, 54, 52, 54] }, Value.string { data := #[49, 47, 50, 49, 52, 55, 52, 56, 51, 54, 52, 56] }, Value.string { data := #[57, 50, 50, 51, 51, 55, 50, 48, 51, 54, 56, 53, 52, 55, 55, 53, 56, 48, 56] }, Value.string { data := #[57, 57, 57, 57, 57, 57, 57, 57, 57, 57, 57, 57, 57, 57, 57, 57, 57, 57, 57, 57] }, Value.string { data := #[49, 47, 50, 47, 51] }, Value.string { data := #[47] }, Value.string { data := #[97] }, Value.string { data := #[49, 47] }, Value.string { data := #[47, 50] }, Value.string { data := #[32, 49] }] 9)) = V1 at hB tab hc ⊢
      go_loopw [81] (fun t u => ∃ (k : Nat) (V : World), k ≤ 23 ∧ t = .int .i64 k ∧ V = u ∧ Below V1.heap.size V1 V) (fun t _ => 23 - (intOf t).toNat)
      case atStart => exact ⟨0, _, by omega, rfl, rfl, Below.refl _ _⟩
      case round =>
        obtain ⟨k, u', hk, rfl, rfl, hu'⟩ := hrel
        by_cases hkt : k < 23
        · have hkt' : (k : Int) < 23 := by omega
          obtain ⟨t, ht, ct⟩ := hc k hkt
          clear hc
          replace ct := cell_later hu' ct
          have tab' := tab.below hu'
          go_wp2_with fail
          with_reducible refine (parses_any t ht u' tab').mono ?_
          rintro e u2 ⟨rfl, hb2⟩
          go_wp2
          go_roundw
          case rel => exact ⟨k + 1, _, by omega, by go_num, rfl, below_via hu' hb2 hu'.size⟩
          case measure => simp [intOf]; omega
        · have hkt' : ¬ (k : Int) < 23 := by omega
          clear hc
          replace hB := below_via hB hu' hB.size
          replace tab := tab.below hu'
          clear hu'
          go_wp2_with fail
          with_reducible refine (inner_ok 5 1 u').mono ?_
          rintro e u11 ⟨rfl, hb11⟩
          replace hB := below_via hB hb11 hB.size
          replace tab := tab.below hb11
          clear hb11
          go_wp2_with fail
          have hbn : Below u11.heap.size u11 (u11.alloc (Obj.cells #[Value.int IntKind.i64 5, Value.int IntKind.i64 1] 26)) := (Below.refl _ _).alloc (Nat.le_refl _) _
          replace hB := below_via hB hbn hB.size
          replace tab := tab.below hbn
          clear hbn
          have gan : (u11.alloc (Obj.cells #[Value.int IntKind.i64 5, Value.int IntKind.i64 1] 26)).cell? ⟨u11.heap.size, 0, none⟩ = some (.int .i64 5) := by simp [go_sem]
          have gad : (u11.alloc (Obj.cells #[Value.int IntKind.i64 5, Value.int IntKind.i64 1] 26)).cell? ⟨u11.heap.size, 1, none⟩ = some (.int .i64 1) := by simp [go_sem]
          generalize (u11.alloc (Obj.cells #[Value.int IntKind.i64 5, Value.int IntKind.i64 1] 26)) = V12 at hB tab gan gad ⊢
          with_reducible refine (inner_no 5 1 23 (by decide) V12).mono ?_
          rintro e u13 ⟨rfl, hb13⟩
          replace hB := below_via hB hb13 hB.size
          replace tab := tab.below hb13
          replace gan := cell_later hb13 gan
          replace gad := cell_later hb13 gad
          clear hb13
          have ogan := fun o => cell_on o gan
          have ogad := fun o => cell_on o gad
          go_wp2_with fail
          clear ogan ogad
          have hbn : Below u13.heap.size u13 (u13.alloc (Obj.cells #[Value.int IntKind.i64 0, Value.int IntKind.i64 0] 26)) := (Below.refl _ _).alloc (Nat.le_refl _) _
          replace hB := below_via hB hbn hB.size
          replace tab := tab.below hbn
          replace gan := cell_later hbn gan
          replace gad := cell_later hbn gad
          clear hbn
          generalize (u13.alloc (Obj.cells #[Value.int IntKind.i64 0, Value.int IntKind.i64 0] 26)) = V14 at hB tab gan gad ⊢
          with_reducible refine (known_any V14).mono ?_
          rintro e u15 ⟨rfl, hb15⟩
          replace hB := below_via hB hb15 hB.size
          replace tab := tab.below hb15
          replace gan := cell_later hb15 gan
          replace gad := cell_later hb15 gad
          clear hb15
          go_wp2
          go_ret
          exact ⟨rfl, hB⟩
end Go.Proofs.YtcloepkaieifpaaDoor
