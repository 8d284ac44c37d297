/- The walk of RatBack: what is written is read again; what is read is written so. -/
import Derived.Test.YtcloepkaieifpaaDoorWalksC
import Derived.Test.YtcloepkaieifpaaDoorWalksF
import Derived.Test.YtcloepkaieifpaaDoorTextF
namespace Go.Proofs.YtcloepkaieifpaaDoor
open Go.RowKit Go.Sort

theorem cell_alloc {w : World} {a : Addr} {v : Value} (o : Obj) (h : w.cell? a = some v) : (w.alloc o).cell? a = some v := by
  rw [World.cell?_alloc_lt _ _ _ (World.block_lt_of_cell? _ _ h)]; exact h
theorem frozen_later {w wx : World} {a : Addr} {v : Value} (hb : Below w.heap.size w wx) (hc : w.cell? a = some v) (hf : w.frozen? a = false) : wx.frozen? a = false :=
  (hb.frozen (World.block_lt_of_cell? _ _ hc)).trans hf
theorem set_two (w V : World) (b : Nat) (n d x y p q : Value) (hle : w.heap.size < b) (hB : Below w.heap.size w V) (h1 : V.cell? ⟨b, 0, none⟩ = some x) (h2 : V.cell? ⟨b, 1, none⟩ = some y) (h3 : V.cell? ⟨w.heap.size, 0, none⟩ = some p) (h4 : V.cell? ⟨w.heap.size, 1, none⟩ = some q) :
    Below w.heap.size w ((V.setCell ⟨b, 0, none⟩ n).setCell ⟨b, 1, none⟩ d) ∧ ((V.setCell ⟨b, 0, none⟩ n).setCell ⟨b, 1, none⟩ d).cell? ⟨b, 0, none⟩ = some n ∧ ((V.setCell ⟨b, 0, none⟩ n).setCell ⟨b, 1, none⟩ d).cell? ⟨b, 1, none⟩ = some d ∧ ((V.setCell ⟨b, 0, none⟩ n).setCell ⟨b, 1, none⟩ d).cell? ⟨w.heap.size, 0, none⟩ = some p ∧ ((V.setCell ⟨b, 0, none⟩ n).setCell ⟨b, 1, none⟩ d).cell? ⟨w.heap.size, 1, none⟩ = some q := by
  have e1 : (V.setCell ⟨b, 0, none⟩ n).cell? ⟨b, 1, none⟩ = some y := by rw [World.cell?_setCell_other _ _ _ _ (by simp)]; exact h2
  refine ⟨(hB.setCell (p := ⟨b, 0, none⟩) (by show _ ≤ b; omega) _).setCell (p := ⟨b, 1, none⟩) (by show _ ≤ b; omega) _, ?_, World.cell?_setCell_same _ _ _ e1, ?_, ?_⟩
  · rw [World.cell?_setCell_other _ _ _ _ (by simp)]; exact World.cell?_setCell_same _ _ _ h1
  · rw [World.cell?_setCell_other _ _ _ _ (by simp), World.cell?_setCell_other _ _ _ _ (by simp <;> omega)]; exact h3
  · rw [World.cell?_setCell_other _ _ _ _ (by simp <;> omega), World.cell?_setCell_other _ _ _ _ (by simp)]; exact h4
theorem right_below (n d : Int) (h1 : -9223372036854775808 ≤ n) (h2 : n ≤ 9223372036854775807) (h3 : -9223372036854775808 ≤ d) (h4 : d ≤ 9223372036854775807) (w : World) :
    Calls Tryd.prog 17 #[.agg #[.int .i64 n, .int .i64 d]] w fun e w' => e = .returned (.bool (rightB n d)) ∧ Below w.heap.size w w' :=
  (right_any n d h1 h2 h3 h4 w).mono fun _ _ ⟨he, m, hw⟩ => ⟨he, hw ▸ below_drewN ((Below.refl _ _).alloc (Nat.le_refl _) _) m⟩
theorem text_max (n d : Int) (h1 : -9223372036854775808 ≤ n) (h2 : n ≤ 9223372036854775807) (h3 : -9223372036854775808 ≤ d) (h4 : d ≤ 9223372036854775807) : (⟨(textL n d).toArray⟩ : ByteArray).size ≤ maxLen := by
  show (textL n d).length ≤ maxLen
  have a := itoa_len n h1 h2
  have b := itoa_len d h3 h4
  unfold textL maxLen
  split
  · split
    · omega
    · simp; omega
  · simp

set_option maxRecDepth 100000 in
set_option maxHeartbeats 2000000 in
theorem back_walk (an ad x y : Int) (s : ByteArray) (an1 : -9223372036854775808 ≤ an) (an2 : an ≤ 9223372036854775807) (ad1 : -9223372036854775808 ≤ ad) (ad2 : ad ≤ 9223372036854775807) (x1 : -9223372036854775808 ≤ x) (x2 : x ≤ 9223372036854775807) (y1 : -9223372036854775808 ≤ y) (y2 : y ≤ 9223372036854775807) (hs : s.size ≤ maxLen) (w : World) (tab : Tab w) :
    Calls Tryd.prog 5 #[.agg #[.int .i64 an, .int .i64 ad], .int .i64 x, .int .i64 y, .string s] w fun e w' => e = .returned (.bool true) ∧ Below w.heap.size w w' := by
  go_enter Tryd.func5, Tryd.ntmps5
  go_wp2_with fail
  have hB : Below w.heap.size w (w.alloc (Obj.cells #[Value.int IntKind.i64 an, Value.int IntKind.i64 ad] 26)) := (Below.refl _ _).alloc (Nat.le_refl _) _
  have tab0 := tab
  replace tab := tab.below hB
  have gan : (w.alloc (Obj.cells #[Value.int IntKind.i64 an, Value.int IntKind.i64 ad] 26)).cell? ⟨w.heap.size, 0, none⟩ = some (.int .i64 an) := by simp [go_sem]
  have gad : (w.alloc (Obj.cells #[Value.int IntKind.i64 an, Value.int IntKind.i64 ad] 26)).cell? ⟨w.heap.size, 1, none⟩ = some (.int .i64 ad) := by simp [go_sem]
  generalize (w.alloc (Obj.cells #[Value.int IntKind.i64 an, Value.int IntKind.i64 ad] 26)) = V0 at hB tab gan gad  ⊢
  with_reducible refine (rat_any x y (by omega) (by omega) (by omega) (by omega) V0).mono ?_
  rintro e w1 ⟨pn, pn1, pn2, pd, pd1, pd2, hp, rfl, hb1⟩
  replace hB := below_via hB hb1 hB.size
  replace tab := tab.below hb1
  replace gan := cell_later hb1 gan
  replace gad := cell_later hb1 gad
  clear hb1
  have ogan := fun o => cell_alloc o gan
  have ogad := fun o => cell_alloc o gad
  go_wp2_with fail
  clear ogan ogad
  have hbn : Below w1.heap.size w1 (w1.alloc (Obj.cells #[Value.int IntKind.i64 pn, Value.int IntKind.i64 pd] 26)) := (Below.refl _ _).alloc (Nat.le_refl _) _
  replace hB := below_via hB hbn hB.size
  replace tab := tab.below hbn
  replace gan := cell_later hbn gan
  replace gad := cell_later hbn gad
  clear hbn
  have gpn : (w1.alloc (Obj.cells #[Value.int IntKind.i64 pn, Value.int IntKind.i64 pd] 26)).cell? ⟨w1.heap.size, 0, none⟩ = some (.int .i64 pn) := by simp [go_sem]
  have gpd : (w1.alloc (Obj.cells #[Value.int IntKind.i64 pn, Value.int IntKind.i64 pd] 26)).cell? ⟨w1.heap.size, 1, none⟩ = some (.int .i64 pd) := by simp [go_sem]
  generalize (w1.alloc (Obj.cells #[Value.int IntKind.i64 pn, Value.int IntKind.i64 pd] 26)) = V1 at hB tab gan gad gpn gpd  ⊢
  with_reducible refine (text_any pn pd (by omega) (by omega) (by omega) (by omega) V1 tab).mono ?_
  rintro e w2 ⟨rfl, hb2⟩
  replace hB := below_via hB hb2 hB.size
  replace tab := tab.below hb2
  replace gan := cell_later hb2 gan
  replace gad := cell_later hb2 gad
  replace gpn := cell_later hb2 gpn
  replace gpd := cell_later hb2 gpd
  clear hb2
  go_wp2_with fail
  with_reducible refine (parse_yes w2 tab ⟨(textL pn pd).toArray⟩ (text_max pn pd (by omega) (by omega) (by omega) (by omega)) pn pd hp (by simp)).mono ?_
  rintro e w3 ⟨rfl, hb3⟩
  replace hB := below_via hB hb3 hB.size
  replace tab := tab.below hb3
  replace gan := cell_later hb3 gan
  replace gad := cell_later hb3 gad
  replace gpn := cell_later hb3 gpn
  replace gpd := cell_later hb3 gpd
  clear hb3
  have hle : w.heap.size < w3.heap.size := World.block_lt_of_cell? _ _ gan
  have ogan := fun o => cell_alloc o gan
  have ogad := fun o => cell_alloc o gad
  have ogpn := fun o => cell_alloc o gpn
  have ogpd := fun o => cell_alloc o gpd
  go_wp2_with fail
  clear ogan ogad ogpn ogpd
  have hbn : Below w3.heap.size w3 (w3.alloc (Obj.cells #[Value.int IntKind.i64 pn, Value.int IntKind.i64 pd] 26)) := (Below.refl _ _).alloc (Nat.le_refl _) _
  replace hB := below_via hB hbn hB.size
  replace tab := tab.below hbn
  replace gan := cell_later hbn gan
  replace gad := cell_later hbn gad
  replace gpn := cell_later hbn gpn
  replace gpd := cell_later hbn gpd
  clear hbn
  have gqn : (w3.alloc (Obj.cells #[Value.int IntKind.i64 pn, Value.int IntKind.i64 pd] 26)).cell? ⟨w3.heap.size, 0, none⟩ = some (.int .i64 pn) := by simp [go_sem]
  have zgqn : (w3.alloc (Obj.cells #[Value.int IntKind.i64 pn, Value.int IntKind.i64 pd] 26)).frozen? ⟨w3.heap.size, 0, none⟩ = false := by simp [go_sem]
  have gqd : (w3.alloc (Obj.cells #[Value.int IntKind.i64 pn, Value.int IntKind.i64 pd] 26)).cell? ⟨w3.heap.size, 1, none⟩ = some (.int .i64 pd) := by simp [go_sem]
  have zgqd : (w3.alloc (Obj.cells #[Value.int IntKind.i64 pn, Value.int IntKind.i64 pd] 26)).frozen? ⟨w3.heap.size, 1, none⟩ = false := by simp [go_sem]
  generalize (w3.alloc (Obj.cells #[Value.int IntKind.i64 pn, Value.int IntKind.i64 pd] 26)) = V3 at hB tab gan gad gpn gpd gqn gqd zgqn zgqd ⊢
  with_reducible refine (right_below an ad (by omega) (by omega) (by omega) (by omega) V3).mono ?_
  rintro e w4 ⟨rfl, hb4⟩
  replace hB := below_via hB hb4 hB.size
  replace tab := tab.below hb4
  replace zgqn := frozen_later hb4 gqn zgqn
  replace zgqd := frozen_later hb4 gqd zgqd
  replace gan := cell_later hb4 gan
  replace gad := cell_later hb4 gad
  replace gpn := cell_later hb4 gpn
  replace gpd := cell_later hb4 gpd
  replace gqn := cell_later hb4 gqn
  replace gqd := cell_later hb4 gqd
  clear hb4
  by_cases hr0 : rightB an ad = true
  · have hr0' : rightB an ad = true := hr0
    go_wp2_with fail
    with_reducible refine (text_any an ad (by omega) (by omega) (by omega) (by omega) w4 tab).mono ?_
    rintro e w5 ⟨rfl, hb5⟩
    replace hB := below_via hB hb5 hB.size
    replace tab := tab.below hb5
    replace zgqn := frozen_later hb5 gqn zgqn
    replace zgqd := frozen_later hb5 gqd zgqd
    replace gan := cell_later hb5 gan
    replace gad := cell_later hb5 gad
    replace gpn := cell_later hb5 gpn
    replace gpd := cell_later hb5 gpd
    replace gqn := cell_later hb5 gqn
    replace gqd := cell_later hb5 gqd
    clear hb5
    go_wp2_with fail
    with_reducible refine (parse_yes w5 tab ⟨(textL an ad).toArray⟩ (text_max an ad (by omega) (by omega) (by omega) (by omega)) an ad hr0 (by simp)).mono ?_
    rintro e w6 ⟨rfl, hb6⟩
    replace hB := below_via hB hb6 hB.size
    replace tab := tab.below hb6
    replace zgqn := frozen_later hb6 gqn zgqn
    replace zgqd := frozen_later hb6 gqd zgqd
    replace gan := cell_later hb6 gan
    replace gad := cell_later hb6 gad
    replace gpn := cell_later hb6 gpn
    replace gpd := cell_later hb6 gpd
    replace gqn := cell_later hb6 gqn
    replace gqd := cell_later hb6 gqd
    clear hb6
    obtain ⟨s1, s2, s3, s4, s5⟩ := set_two w w6 w3.heap.size (.int .i64 an) (.int .i64 ad) _ _ _ _ hle hB gqn gqd gan gad
    go_wp2_with fail
    replace tab := tab0.below s1
    generalize ((w6.setCell ⟨w3.heap.size, 0, none⟩ (.int .i64 an)).setCell ⟨w3.heap.size, 1, none⟩ (.int .i64 ad)) = V6 at s1 s2 s3 s4 s5 tab ⊢
    replace hB := s1
    clear s1 s2 s3 s4 s5 gan gad gpn gpd gqn gqd zgqn zgqd hr0'
    by_cases ex : ∃ n d, rightB n d = true ∧ textL n d = s.data.toList
    · obtain ⟨n, d, hr, hx⟩ := ex
      obtain ⟨r1, r2, r3, r4, -⟩ := (rightB_iff n d).1 hr
      have heq : (textL n d == s.toList) = true := by rw [ByteArray.toList_eq, beq_iff_eq]; exact hx
      have HX : Hid (textL n d = s.data.toList) := hx
      clear hx
      with_reducible refine (parse_yes V6 tab s hs n d hr HX.out).mono ?_
      rintro e w7 ⟨rfl, hb7⟩
      replace hB := below_via hB hb7 hB.size
      replace tab := tab.below hb7
      clear hb7
      go_wp2_with fail
      have hbn : Below w7.heap.size w7 (w7.alloc (Obj.cells #[Value.int IntKind.i64 n, Value.int IntKind.i64 d] 26)) := (Below.refl _ _).alloc (Nat.le_refl _) _
      replace hB := below_via hB hbn hB.size
      replace tab := tab.below hbn
      clear hbn
      have grn : (w7.alloc (Obj.cells #[Value.int IntKind.i64 n, Value.int IntKind.i64 d] 26)).cell? ⟨w7.heap.size, 0, none⟩ = some (.int .i64 n) := by simp [go_sem]
      have grd : (w7.alloc (Obj.cells #[Value.int IntKind.i64 n, Value.int IntKind.i64 d] 26)).cell? ⟨w7.heap.size, 1, none⟩ = some (.int .i64 d) := by simp [go_sem]
      generalize (w7.alloc (Obj.cells #[Value.int IntKind.i64 n, Value.int IntKind.i64 d] 26)) = V7 at hB tab grn grd  ⊢
      with_reducible refine (right_below n d (by omega) (by omega) (by omega) (by omega) V7).mono ?_
      rintro e w8 ⟨rfl, hb8⟩
      replace hB := below_via hB hb8 hB.size
      replace tab := tab.below hb8
      replace grn := cell_later hb8 grn
      replace grd := cell_later hb8 grd
      clear hb8
      go_wp2_with fail
      with_reducible refine (text_any n d (by omega) (by omega) (by omega) (by omega) w8 tab).mono ?_
      rintro e w9 ⟨rfl, hb9⟩
      replace hB := below_via hB hb9 hB.size
      replace tab := tab.below hb9
      replace grn := cell_later hb9 grn
      replace grd := cell_later hb9 grd
      clear hb9
      go_wp2_with fail
      with_reducible refine (known_any w9).mono ?_
      rintro e w10 ⟨rfl, hb10⟩
      replace hB := below_via hB hb10 hB.size
      replace tab := tab.below hb10
      replace grn := cell_later hb10 grn
      replace grd := cell_later hb10 grd
      clear hb10
      go_wp2
      go_ret
      exact ⟨rfl, hB⟩
    · have hx : ∀ n d, rightB n d = true → textL n d ≠ s.data.toList := fun n d hr hx => ex ⟨n, d, hr, hx⟩
      have HX : Hid (∀ n d, rightB n d = true → textL n d ≠ s.data.toList) := hx
      clear hx ex
      with_reducible refine (parse_not V6 tab s hs HX.out).mono ?_
      rintro e w7 ⟨rfl, hb7⟩
      replace hB := below_via hB hb7 hB.size
      replace tab := tab.below hb7
      clear hb7
      go_wp2_with fail
      have hbn : Below w7.heap.size w7 (w7.alloc (Obj.cells #[Value.int IntKind.i64 0, Value.int IntKind.i64 0] 26)) := (Below.refl _ _).alloc (Nat.le_refl _) _
      replace hB := below_via hB hbn hB.size
      clear hbn
      generalize (w7.alloc (Obj.cells #[Value.int IntKind.i64 0, Value.int IntKind.i64 0] 26)) = V7 at hB ⊢
      with_reducible refine (known_any V7).mono ?_
      rintro e w10 ⟨rfl, hb10⟩
      go_wp2
      go_ret
      exact ⟨rfl, below_via hB hb10 hB.size⟩
  · have hr0' : rightB an ad = false := by simpa using hr0
    go_wp2_with fail
    clear gan gad gpn gpd gqn gqd zgqn zgqd hr0 hr0'
    by_cases ex : ∃ n d, rightB n d = true ∧ textL n d = s.data.toList
    · obtain ⟨n, d, hr, hx⟩ := ex
      obtain ⟨r1, r2, r3, r4, -⟩ := (rightB_iff n d).1 hr
      have heq : (textL n d == s.toList) = true := by rw [ByteArray.toList_eq, beq_iff_eq]; exact hx
      have HX : Hid (textL n d = s.data.toList) := hx
      clear hx
      with_reducible refine (parse_yes w4 tab s hs n d hr HX.out).mono ?_
      rintro e w7 ⟨rfl, hb7⟩
      replace hB := below_via hB hb7 hB.size
      replace tab := tab.below hb7
      clear hb7
      go_wp2_with fail
      have hbn : Below w7.heap.size w7 (w7.alloc (Obj.cells #[Value.int IntKind.i64 n, Value.int IntKind.i64 d] 26)) := (Below.refl _ _).alloc (Nat.le_refl _) _
      replace hB := below_via hB hbn hB.size
      replace tab := tab.below hbn
      clear hbn
      have grn : (w7.alloc (Obj.cells #[Value.int IntKind.i64 n, Value.int IntKind.i64 d] 26)).cell? ⟨w7.heap.size, 0, none⟩ = some (.int .i64 n) := by simp [go_sem]
      have grd : (w7.alloc (Obj.cells #[Value.int IntKind.i64 n, Value.int IntKind.i64 d] 26)).cell? ⟨w7.heap.size, 1, none⟩ = some (.int .i64 d) := by simp [go_sem]
      generalize (w7.alloc (Obj.cells #[Value.int IntKind.i64 n, Value.int IntKind.i64 d] 26)) = V7 at hB tab grn grd  ⊢
      with_reducible refine (right_below n d (by omega) (by omega) (by omega) (by omega) V7).mono ?_
      rintro e w8 ⟨rfl, hb8⟩
      replace hB := below_via hB hb8 hB.size
      replace tab := tab.below hb8
      replace grn := cell_later hb8 grn
      replace grd := cell_later hb8 grd
      clear hb8
      go_wp2_with fail
      with_reducible refine (text_any n d (by omega) (by omega) (by omega) (by omega) w8 tab).mono ?_
      rintro e w9 ⟨rfl, hb9⟩
      replace hB := below_via hB hb9 hB.size
      replace tab := tab.below hb9
      replace grn := cell_later hb9 grn
      replace grd := cell_later hb9 grd
      clear hb9
      go_wp2_with fail
      with_reducible refine (known_any w9).mono ?_
      rintro e w10 ⟨rfl, hb10⟩
      replace hB := below_via hB hb10 hB.size
      replace tab := tab.below hb10
      replace grn := cell_later hb10 grn
      replace grd := cell_later hb10 grd
      clear hb10
      go_wp2
      go_ret
      exact ⟨rfl, hB⟩
    · have hx : ∀ n d, rightB n d = true → textL n d ≠ s.data.toList := fun n d hr hx => ex ⟨n, d, hr, hx⟩
      have HX : Hid (∀ n d, rightB n d = true → textL n d ≠ s.data.toList) := hx
      clear hx ex
      with_reducible refine (parse_not w4 tab s hs HX.out).mono ?_
      rintro e w7 ⟨rfl, hb7⟩
      replace hB := below_via hB hb7 hB.size
      replace tab := tab.below hb7
      clear hb7
      go_wp2_with fail
      have hbn : Below w7.heap.size w7 (w7.alloc (Obj.cells #[Value.int IntKind.i64 0, Value.int IntKind.i64 0] 26)) := (Below.refl _ _).alloc (Nat.le_refl _) _
      replace hB := below_via hB hbn hB.size
      clear hbn
      generalize (w7.alloc (Obj.cells #[Value.int IntKind.i64 0, Value.int IntKind.i64 0] 26)) = V7 at hB ⊢
      with_reducible refine (known_any V7).mono ?_
      rintro e w10 ⟨rfl, hb10⟩
      go_wp2
      go_ret
      exact ⟨rfl, below_via hB hb10 hB.size⟩
end Go.Proofs.YtcloepkaieifpaaDoor
