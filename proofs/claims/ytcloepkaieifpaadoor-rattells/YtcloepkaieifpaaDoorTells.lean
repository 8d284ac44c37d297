/- The walk of RatTells: numbers are made, reckoned with, held against one another and written as the document says. -/
import Derived.Test.YtcloepkaieifpaaDoorWalksC
import Derived.Test.YtcloepkaieifpaaDoorWalksF
import Derived.Test.YtcloepkaieifpaaDoorTwo
namespace Go.Proofs.YtcloepkaieifpaaDoor
open Go.RowKit Go.Sort

theorem head_any (s : ByteArray) (_hs : s.size ≤ maxLen) (w : World) :
    Calls Tryd.prog 13 #[.string s, .int .i64 30] w fun e w' => ∃ T : ByteArray, T.size ≤ maxLen ∧ e = .returned (.string T) ∧ w' = w := by
  have hs := _hs
  unfold maxLen at hs
  by_cases h : 30 < s.size
  · have h' : (30 : Int) < (s.size : Int) := by omega
    go_enter Tryd.func13, Tryd.ntmps13
    go_wp2
    go_ret
    exact ⟨s.extract 0 30, by unfold maxLen; simp; omega, rfl, rfl⟩
  · have h' : ¬ (30 : Int) < (s.size : Int) := by omega
    go_enter Tryd.func13, Tryd.ntmps13
    go_wp2
    go_ret
    exact ⟨s, _hs, rfl, rfl⟩
theorem text_most (n d : Int) (h1 : -9223372036854775808 ≤ n) (h2 : n ≤ 9223372036854775807) (h3 : -9223372036854775808 ≤ d) (h4 : d ≤ 9223372036854775807) : (⟨(textL n d).toArray⟩ : ByteArray).size ≤ maxLen := by
  show (textL n d).length ≤ maxLen
  have a := itoa_len n h1 h2
  have b := itoa_len d h3 h4
  unfold textL maxLen
  split
  · split
    · omega
    · simp; omega
  · simp

set_option maxRecDepth 100000 in
set_option maxHeartbeats 4000000 in
theorem tells_walk (an ad bn bd n d : Int) (s : ByteArray) (x y z v : Int) (an1 : -9223372036854775808 ≤ an) (an2 : an ≤ 9223372036854775807) (ad1 : -9223372036854775808 ≤ ad) (ad2 : ad ≤ 9223372036854775807) (bn1 : -9223372036854775808 ≤ bn) (bn2 : bn ≤ 9223372036854775807) (bd1 : -9223372036854775808 ≤ bd) (bd2 : bd ≤ 9223372036854775807) (n1 : -9223372036854775808 ≤ n) (n2 : n ≤ 9223372036854775807) (d1 : -9223372036854775808 ≤ d) (d2 : d ≤ 9223372036854775807) (hs : s.size ≤ maxLen) (x1 : -9223372036854775808 ≤ x) (x2 : x ≤ 9223372036854775807) (y1 : -9223372036854775808 ≤ y) (y2 : y ≤ 9223372036854775807) (z1 : -9223372036854775808 ≤ z) (z2 : z ≤ 9223372036854775807) (v1 : -9223372036854775808 ≤ v) (v2 : v ≤ 9223372036854775807) (w : World) (tab : Tab w) :
    Calls Tryd.prog 4 #[.agg #[.int .i64 an, .int .i64 ad], .agg #[.int .i64 bn, .int .i64 bd], .int .i64 n, .int .i64 d, .string s, .int .i64 x, .int .i64 y, .int .i64 z, .int .i64 v] w fun e w' => e = .returned (.bool true) ∧ Below w.heap.size w w' := by
  go_enter Tryd.func4, Tryd.ntmps4
  go_wp2_with fail
  have hB : Below w.heap.size w ((w.alloc (Obj.cells #[Value.int IntKind.i64 an, Value.int IntKind.i64 ad] 26)).alloc (Obj.cells #[Value.int IntKind.i64 bn, Value.int IntKind.i64 bd] 26)) := ((Below.refl _ _).alloc (Nat.le_refl _) _).alloc (by simp) _
  replace tab := tab.below hB
  have gan : ((w.alloc (Obj.cells #[Value.int IntKind.i64 an, Value.int IntKind.i64 ad] 26)).alloc (Obj.cells #[Value.int IntKind.i64 bn, Value.int IntKind.i64 bd] 26)).cell? ⟨w.heap.size, 0, none⟩ = some (.int .i64 an) := by simp [go_sem]
  have gad : ((w.alloc (Obj.cells #[Value.int IntKind.i64 an, Value.int IntKind.i64 ad] 26)).alloc (Obj.cells #[Value.int IntKind.i64 bn, Value.int IntKind.i64 bd] 26)).cell? ⟨w.heap.size, 1, none⟩ = some (.int .i64 ad) := by simp [go_sem]
  have gbn : ((w.alloc (Obj.cells #[Value.int IntKind.i64 an, Value.int IntKind.i64 ad] 26)).alloc (Obj.cells #[Value.int IntKind.i64 bn, Value.int IntKind.i64 bd] 26)).cell? ⟨w.heap.size + 1, 0, none⟩ = some (.int .i64 bn) := by simp [go_sem]
  have gbd : ((w.alloc (Obj.cells #[Value.int IntKind.i64 an, Value.int IntKind.i64 ad] 26)).alloc (Obj.cells #[Value.int IntKind.i64 bn, Value.int IntKind.i64 bd] 26)).cell? ⟨w.heap.size + 1, 1, none⟩ = some (.int .i64 bd) := by simp [go_sem]
  generalize ((w.alloc (Obj.cells #[Value.int IntKind.i64 an, Value.int IntKind.i64 ad] 26)).alloc (Obj.cells #[Value.int IntKind.i64 bn, Value.int IntKind.i64 bd] 26)) = V0 at hB tab gan gad gbn gbd ⊢
  with_reducible refine (rat_any x y x1 x2 y1 y2 V0).mono ?_
  rintro e u1 ⟨pn, pn1, pn2, pd, pd1, pd2, hp, rfl, hb1⟩
  replace hB := below_via hB hb1 hB.size
  replace tab := tab.below hb1
  replace gan := cell_later hb1 gan
  replace gad := cell_later hb1 gad
  replace gbn := cell_later hb1 gbn
  replace gbd := cell_later hb1 gbd
  clear hb1
  go_wp2_with fail
  with_reducible refine (rat_any z v z1 z2 v1 v2 u1).mono ?_
  rintro e u2 ⟨qn, qn1, qn2, qd, qd1, qd2, hq, rfl, hb2⟩
  replace hB := below_via hB hb2 hB.size
  replace tab := tab.below hb2
  replace gan := cell_later hb2 gan
  replace gad := cell_later hb2 gad
  replace gbn := cell_later hb2 gbn
  replace gbd := cell_later hb2 gbd
  clear hb2
  go_wp2_with fail
  have hbn : Below u2.heap.size u2 ((u2.alloc (Obj.cells #[Value.int IntKind.i64 pn, Value.int IntKind.i64 pd] 26)).alloc (Obj.cells #[Value.int IntKind.i64 qn, Value.int IntKind.i64 qd] 26)) := ((Below.refl _ _).alloc (Nat.le_refl _) _).alloc (by simp) _
  replace hB := below_via hB hbn hB.size
  replace tab := tab.below hbn
  replace gan := cell_later hbn gan
  replace gad := cell_later hbn gad
  replace gbn := cell_later hbn gbn
  replace gbd := cell_later hbn gbd
  clear hbn
  have gpn : ((u2.alloc (Obj.cells #[Value.int IntKind.i64 pn, Value.int IntKind.i64 pd] 26)).alloc (Obj.cells #[Value.int IntKind.i64 qn, Value.int IntKind.i64 qd] 26)).cell? ⟨u2.heap.size, 0, none⟩ = some (.int .i64 pn) := by simp [go_sem]
  have gpd : ((u2.alloc (Obj.cells #[Value.int IntKind.i64 pn, Value.int IntKind.i64 pd] 26)).alloc (Obj.cells #[Value.int IntKind.i64 qn, Value.int IntKind.i64 qd] 26)).cell? ⟨u2.heap.size, 1, none⟩ = some (.int .i64 pd) := by simp [go_sem]
  have gqn : ((u2.alloc (Obj.cells #[Value.int IntKind.i64 pn, Value.int IntKind.i64 pd] 26)).alloc (Obj.cells #[Value.int IntKind.i64 qn, Value.int IntKind.i64 qd] 26)).cell? ⟨u2.heap.size + 1, 0, none⟩ = some (.int .i64 qn) := by simp [go_sem]
  have gqd : ((u2.alloc (Obj.cells #[Value.int IntKind.i64 pn, Value.int IntKind.i64 pd] 26)).alloc (Obj.cells #[Value.int IntKind.i64 qn, Value.int IntKind.i64 qd] 26)).cell? ⟨u2.heap.size + 1, 1, none⟩ = some (.int .i64 qd) := by simp [go_sem]
  generalize ((u2.alloc (Obj.cells #[Value.int IntKind.i64 pn, Value.int IntKind.i64 pd] 26)).alloc (Obj.cells #[Value.int IntKind.i64 qn, Value.int IntKind.i64 qd] 26)) = VA at hB tab gan gad gbn gbd gpn gpd gqn gqd ⊢
  with_reducible refine (within_any x 0 50 x1 x2 (by omega) (by omega) (by omega) VA).mono ?_
  rintro e w' ⟨r, r1, r2, rfl, hw'⟩
  rw [hw']
  clear hw' w'
  have ogan := fun o => cell_on o gan
  have ogad := fun o => cell_on o gad
  have ogbn := fun o => cell_on o gbn
  have ogbd := fun o => cell_on o gbd
  have ogpn := fun o => cell_on o gpn
  have ogpd := fun o => cell_on o gpd
  have ogqn := fun o => cell_on o gqn
  have ogqd := fun o => cell_on o gqd
  go_wp2_with fail
  clear ogan ogad ogbn ogbd ogpn ogpd ogqn ogqd
  have hbn : Below VA.heap.size VA (VA.alloc (Obj.cells #[Value.int IntKind.i64 (2147483647 - r), Value.int IntKind.i64 1] 26)) := (Below.refl _ _).alloc (Nat.le_refl _) _
  replace hB := below_via hB hbn hB.size
  replace tab := tab.below hbn
  replace gan := cell_later hbn gan
  replace gad := cell_later hbn gad
  replace gbn := cell_later hbn gbn
  replace gbd := cell_later hbn gbd
  replace gpn := cell_later hbn gpn
  replace gpd := cell_later hbn gpd
  replace gqn := cell_later hbn gqn
  replace gqd := cell_later hbn gqd
  clear hbn
  have ggn : (VA.alloc (Obj.cells #[Value.int IntKind.i64 (2147483647 - r), Value.int IntKind.i64 1] 26)).cell? ⟨VA.heap.size, 0, none⟩ = some (.int .i64 (2147483647 - r)) := by simp [go_sem]
  have ggd : (VA.alloc (Obj.cells #[Value.int IntKind.i64 (2147483647 - r), Value.int IntKind.i64 1] 26)).cell? ⟨VA.heap.size, 1, none⟩ = some (.int .i64 1) := by simp [go_sem]
  generalize (VA.alloc (Obj.cells #[Value.int IntKind.i64 (2147483647 - r), Value.int IntKind.i64 1] 26)) = V3 at hB tab gan gad gbn gbd gpn gpd gqn gqd ggn ggd ⊢
  with_reducible refine (two_any an ad bn bd an1 an2 ad1 ad2 bn1 bn2 bd1 bd2 V3 tab).mono ?_
  rintro e u4 ⟨rfl, hb4⟩
  replace hB := below_via hB hb4 hB.size
  replace tab := tab.below hb4
  replace gan := cell_later hb4 gan
  replace gad := cell_later hb4 gad
  replace gbn := cell_later hb4 gbn
  replace gbd := cell_later hb4 gbd
  replace gpn := cell_later hb4 gpn
  replace gpd := cell_later hb4 gpd
  replace gqn := cell_later hb4 gqn
  replace gqd := cell_later hb4 gqd
  replace ggn := cell_later hb4 ggn
  replace ggd := cell_later hb4 ggd
  clear hb4
  go_wp2_with fail
  with_reducible refine (two_any pn pd qn qd (by omega) (by omega) (by omega) (by omega) (by omega) (by omega) (by omega) (by omega) u4 tab).mono ?_
  rintro e u5 ⟨rfl, hb5⟩
  replace hB := below_via hB hb5 hB.size
  replace tab := tab.below hb5
  replace gan := cell_later hb5 gan
  replace gad := cell_later hb5 gad
  replace gbn := cell_later hb5 gbn
  replace gbd := cell_later hb5 gbd
  replace gpn := cell_later hb5 gpn
  replace gpd := cell_later hb5 gpd
  replace gqn := cell_later hb5 gqn
  replace gqd := cell_later hb5 gqd
  replace ggn := cell_later hb5 ggn
  replace ggd := cell_later hb5 ggd
  clear hb5
  go_wp2_with fail
  with_reducible refine (two_any pn pd (2147483647 - r) 1 (by omega) (by omega) (by omega) (by omega) (by omega) (by omega) (by omega) (by omega) u5 tab).mono ?_
  rintro e u6 ⟨rfl, hb6⟩
  replace hB := below_via hB hb6 hB.size
  replace tab := tab.below hb6
  replace gan := cell_later hb6 gan
  replace gad := cell_later hb6 gad
  replace gbn := cell_later hb6 gbn
  replace gbd := cell_later hb6 gbd
  replace gpn := cell_later hb6 gpn
  replace gpd := cell_later hb6 gpd
  replace gqn := cell_later hb6 gqn
  replace gqd := cell_later hb6 gqd
  replace ggn := cell_later hb6 ggn
  replace ggd := cell_later hb6 ggd
  clear hb6
  go_wp2_with fail
  with_reducible refine (two_any (2147483647 - r) 1 (2147483647 - r) 1 (by omega) (by omega) (by omega) (by omega) (by omega) (by omega) (by omega) (by omega) u6 tab).mono ?_
  rintro e u7 ⟨rfl, hb7⟩
  replace hB := below_via hB hb7 hB.size
  replace tab := tab.below hb7
  replace gan := cell_later hb7 gan
  replace gad := cell_later hb7 gad
  replace gbn := cell_later hb7 gbn
  replace gbd := cell_later hb7 gbd
  replace gpn := cell_later hb7 gpn
  replace gpd := cell_later hb7 gpd
  replace gqn := cell_later hb7 gqn
  replace gqd := cell_later hb7 gqd
  replace ggn := cell_later hb7 ggn
  replace ggd := cell_later hb7 ggd
  clear hb7
  go_wp2_with fail
  with_reducible refine (news_any n d n1 n2 d1 d2 u7).mono ?_
  rintro e u8 ⟨rfl, hb8⟩
  replace hB := below_via hB hb8 hB.size
  replace tab := tab.below hb8
  replace gan := cell_later hb8 gan
  replace gad := cell_later hb8 gad
  replace gbn := cell_later hb8 gbn
  replace gbd := cell_later hb8 gbd
  replace gpn := cell_later hb8 gpn
  replace gpd := cell_later hb8 gpd
  replace gqn := cell_later hb8 gqn
  replace gqd := cell_later hb8 gqd
  replace ggn := cell_later hb8 ggn
  replace ggd := cell_later hb8 ggd
  clear hb8
  go_wp2_with fail
  with_reducible refine (news_any x y x1 x2 y1 y2 u8).mono ?_
  rintro e u9 ⟨rfl, hb9⟩
  replace hB := below_via hB hb9 hB.size
  replace tab := tab.below hb9
  replace gan := cell_later hb9 gan
  replace gad := cell_later hb9 gad
  replace gbn := cell_later hb9 gbn
  replace gbd := cell_later hb9 gbd
  replace gpn := cell_later hb9 gpn
  replace gpd := cell_later hb9 gpd
  replace gqn := cell_later hb9 gqn
  replace gqd := cell_later hb9 gqd
  replace ggn := cell_later hb9 ggn
  replace ggd := cell_later hb9 ggd
  clear hb9
  go_wp2_with fail
  with_reducible refine (head_any s hs u9).mono ?_
  rintro e w' ⟨T, hT, rfl, hw'⟩
  rw [hw']
  clear hw' w'
  go_wp2_with fail
  with_reducible refine (parses_any T hT u9 tab).mono ?_
  rintro e u10 ⟨rfl, hb10⟩
  replace hB := below_via hB hb10 hB.size
  replace tab := tab.below hb10
  replace gan := cell_later hb10 gan
  replace gad := cell_later hb10 gad
  replace gbn := cell_later hb10 gbn
  replace gbd := cell_later hb10 gbd
  replace gpn := cell_later hb10 gpn
  replace gpd := cell_later hb10 gpd
  replace gqn := cell_later hb10 gqn
  replace gqd := cell_later hb10 gqd
  replace ggn := cell_later hb10 ggn
  replace ggd := cell_later hb10 ggd
  clear hb10
  go_wp2_with fail
  with_reducible refine (reftext_any pn pd (by omega) (by omega) (by omega) (by omega) u10).mono ?_
  rintro e u11 ⟨rfl, hb11⟩
  replace hB := below_via hB hb11 hB.size
  replace tab := tab.below hb11
  replace gan := cell_later hb11 gan
  replace gad := cell_later hb11 gad
  replace gbn := cell_later hb11 gbn
  replace gbd := cell_later hb11 gbd
  replace gpn := cell_later hb11 gpn
  replace gpd := cell_later hb11 gpd
  replace gqn := cell_later hb11 gqn
  replace gqd := cell_later hb11 gqd
  replace ggn := cell_later hb11 ggn
  replace ggd := cell_later hb11 ggd
  clear hb11
  go_wp2_with fail
  with_reducible refine (parses_any ⟨(textL pn pd).toArray⟩ (text_most pn pd (by omega) (by omega) (by omega) (by omega)) u11 tab).mono ?_
  rintro e u12 ⟨rfl, hb12⟩
  replace hB := below_via hB hb12 hB.size
  replace tab := tab.below hb12
  replace gan := cell_later hb12 gan
  replace gad := cell_later hb12 gad
  replace gbn := cell_later hb12 gbn
  replace gbd := cell_later hb12 gbd
  replace gpn := cell_later hb12 gpn
  replace gpd := cell_later hb12 gpd
  replace gqn := cell_later hb12 gqn
  replace gqd := cell_later hb12 gqd
  replace ggn := cell_later hb12 ggn
  replace ggd := cell_later hb12 ggd
  clear hb12
  go_wp2_with fail
  with_reducible refine (known_any u12).mono ?_
  rintro e u13 ⟨rfl, hb13⟩
  replace hB := below_via hB hb13 hB.size
  replace tab := tab.below hb13
  replace gan := cell_later hb13 gan
  replace gad := cell_later hb13 gad
  replace gbn := cell_later hb13 gbn
  replace gbd := cell_later hb13 gbd
  replace gpn := cell_later hb13 gpn
  replace gpd := cell_later hb13 gpd
  replace gqn := cell_later hb13 gqn
  replace gqd := cell_later hb13 gqd
  replace ggn := cell_later hb13 ggn
  replace ggd := cell_later hb13 ggd
  clear hb13
  go_wp2
  go_ret
  exact ⟨rfl, hB⟩
end Go.Proofs.YtcloepkaieifpaaDoor
