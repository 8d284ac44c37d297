/- The walk of RatInverse: what is added and taken away, multiplied and divided again, is as it was. -/
import Derived.Test.YtcloepkaieifpabWalksC
import Derived.Test.YtcloepkaieifpabWalksF
import Derived.Test.YtcloepkaieifpabWalksG
namespace Go.Proofs.Ytcloepkaieifpab
open Go.RowKit

set_option maxRecDepth 100000 in
set_option maxHeartbeats 2000000 in
theorem inverse_walk (x y z v : Int) (x1 : -9223372036854775808 ≤ x) (x2 : x ≤ 9223372036854775807) (y1 : -9223372036854775808 ≤ y) (y2 : y ≤ 9223372036854775807) (z1 : -9223372036854775808 ≤ z) (z2 : z ≤ 9223372036854775807) (v1 : -9223372036854775808 ≤ v) (v2 : v ≤ 9223372036854775807) (w : World) :
    Calls Try.prog 3 #[.int .i64 x, .int .i64 y, .int .i64 z, .int .i64 v] w fun e w' => e = .returned (.bool true) ∧ Below w.heap.size w w' := by
  go_enter Try.func3, Try.ntmps3
  go_wp2_with (first | (go_at_call 4; with_reducible refine (rat_any x y (by omega) (by omega) (by omega) (by omega) _).mono ?_; rintro e wa ⟨an, an1, an2, ad, ad1, ad2, ha, rfl, hba⟩) | (go_at_call 4; with_reducible refine (rat_any z v (by omega) (by omega) (by omega) (by omega) _).mono ?_; rintro e wb ⟨bn, bn1, bn2, bd, bd1, bd2, hb, rfl, hbb⟩))
  have hB : Below w.heap.size w ((wb.alloc (Obj.cells #[Value.int IntKind.i64 an, Value.int IntKind.i64 ad] 23)).alloc (Obj.cells #[Value.int IntKind.i64 bn, Value.int IntKind.i64 bd] 23)) := by
    have := hba.size
    have := hbb.size
    repeat (first | exact Below.refl _ _ | refine Below.alloc ?_ (by first | omega | (simp <;> omega)) _ | refine below_via ?_ hbb (by omega) | refine below_via ?_ hba (by omega))
  clear hba hbb x1 x2 y1 y2 z1 z2 v1 v2
  have hcells : ∀ W, W = ((wb.alloc (Obj.cells #[Value.int IntKind.i64 an, Value.int IntKind.i64 ad] 23)).alloc (Obj.cells #[Value.int IntKind.i64 bn, Value.int IntKind.i64 bd] 23)) → W.cell? ⟨wb.heap.size, 0, none⟩ = some (.int .i64 an) ∧ W.cell? ⟨wb.heap.size, 1, none⟩ = some (.int .i64 ad) ∧ W.cell? ⟨wb.heap.size + 1, 0, none⟩ = some (.int .i64 bn) ∧ W.cell? ⟨wb.heap.size + 1, 1, none⟩ = some (.int .i64 bd) := by
    rintro W rfl; simp [go_sem]
  generalize ((wb.alloc (Obj.cells #[Value.int IntKind.i64 an, Value.int IntKind.i64 ad] 23)).alloc (Obj.cells #[Value.int IntKind.i64 bn, Value.int IntKind.i64 bd] 23)) = V0 at hB hcells ⊢
  obtain ⟨gan, gad, gbn, gbd⟩ := hcells V0 rfl
  clear hcells
  with_reducible refine (add_small 60 12 60 12 1440 144 an ad bn bd ha hb (by omega) (by omega) (by omega) (by omega) (by omega) (by omega) (by decide) (by decide) (by decide) (by decide) V0).mono ?_
  rintro e w1 ⟨sn, sd, hs, es, sn1, sn2, sd1, sd2, rfl, hb1⟩
  replace hB := below_via hB hb1 hB.size
  replace gan := cell_later hb1 gan
  replace gad := cell_later hb1 gad
  replace gbn := cell_later hb1 gbn
  replace gbd := cell_later hb1 gbd
  clear hb1
  have ogan := fun o => cell_alloc o gan
  have ogad := fun o => cell_alloc o gad
  have ogbn := fun o => cell_alloc o gbn
  have ogbd := fun o => cell_alloc o gbd
  go_wp2_with fail
  clear ogan ogad ogbn ogbd
  replace hB := hB.alloc hB.size (Obj.cells #[Value.int IntKind.i64 sn, Value.int IntKind.i64 sd] 23)
  replace gan := cell_alloc (Obj.cells #[Value.int IntKind.i64 sn, Value.int IntKind.i64 sd] 23) gan
  replace gad := cell_alloc (Obj.cells #[Value.int IntKind.i64 sn, Value.int IntKind.i64 sd] 23) gad
  replace gbn := cell_alloc (Obj.cells #[Value.int IntKind.i64 sn, Value.int IntKind.i64 sd] 23) gbn
  replace gbd := cell_alloc (Obj.cells #[Value.int IntKind.i64 sn, Value.int IntKind.i64 sd] 23) gbd
  have gsn : (w1.alloc (Obj.cells #[Value.int IntKind.i64 sn, Value.int IntKind.i64 sd] 23)).cell? ⟨w1.heap.size, 0, none⟩ = some (.int .i64 sn) := by simp [go_sem]
  have gsd : (w1.alloc (Obj.cells #[Value.int IntKind.i64 sn, Value.int IntKind.i64 sd] 23)).cell? ⟨w1.heap.size, 1, none⟩ = some (.int .i64 sd) := by simp [go_sem]
  generalize (w1.alloc (Obj.cells #[Value.int IntKind.i64 sn, Value.int IntKind.i64 sd] 23)) = V1 at hB gan gad gbn gbd gsn gsd ⊢
  with_reducible refine (sub_small 1440 144 60 12 25920 1728 sn sd bn bd hs hb (by omega) (by omega) (by omega) (by omega) (by omega) (by omega) (by decide) (by decide) (by decide) (by decide) V1).mono ?_
  rintro e w2 ⟨tn, td, ht, et, tn1, tn2, td1, td2, rfl, hb2⟩
  replace hB := below_via hB hb2 hB.size
  replace gan := cell_later hb2 gan
  replace gad := cell_later hb2 gad
  replace gbn := cell_later hb2 gbn
  replace gbd := cell_later hb2 gbd
  replace gsn := cell_later hb2 gsn
  replace gsd := cell_later hb2 gsd
  clear hb2
  obtain ⟨rfl, rfl⟩ : an = tn ∧ ad = td := right_inj ha ht (back_plain (show bd ≠ 0 by omega) (show sd ≠ 0 by omega) es et).symm
  have ogan := fun o => cell_alloc o gan
  have ogad := fun o => cell_alloc o gad
  have ogbn := fun o => cell_alloc o gbn
  have ogbd := fun o => cell_alloc o gbd
  have ogsn := fun o => cell_alloc o gsn
  have ogsd := fun o => cell_alloc o gsd
  go_wp2_with fail
  clear ogan ogad ogbn ogbd ogsn ogsd
  replace hB := hB.alloc hB.size (Obj.cells #[Value.int IntKind.i64 an, Value.int IntKind.i64 ad] 23)
  replace gan := cell_alloc (Obj.cells #[Value.int IntKind.i64 an, Value.int IntKind.i64 ad] 23) gan
  replace gad := cell_alloc (Obj.cells #[Value.int IntKind.i64 an, Value.int IntKind.i64 ad] 23) gad
  replace gbn := cell_alloc (Obj.cells #[Value.int IntKind.i64 an, Value.int IntKind.i64 ad] 23) gbn
  replace gbd := cell_alloc (Obj.cells #[Value.int IntKind.i64 an, Value.int IntKind.i64 ad] 23) gbd
  replace gsn := cell_alloc (Obj.cells #[Value.int IntKind.i64 an, Value.int IntKind.i64 ad] 23) gsn
  replace gsd := cell_alloc (Obj.cells #[Value.int IntKind.i64 an, Value.int IntKind.i64 ad] 23) gsd
  have gtn : (w2.alloc (Obj.cells #[Value.int IntKind.i64 an, Value.int IntKind.i64 ad] 23)).cell? ⟨w2.heap.size, 0, none⟩ = some (.int .i64 an) := by simp [go_sem]
  have gtd : (w2.alloc (Obj.cells #[Value.int IntKind.i64 an, Value.int IntKind.i64 ad] 23)).cell? ⟨w2.heap.size, 1, none⟩ = some (.int .i64 ad) := by simp [go_sem]
  generalize (w2.alloc (Obj.cells #[Value.int IntKind.i64 an, Value.int IntKind.i64 ad] 23)) = V2 at hB gan gad gbn gbd gsn gsd gtn gtd ⊢
  with_reducible refine (sub_small 60 12 60 12 1440 144 an ad an ad ha ha (by omega) (by omega) (by omega) (by omega) (by omega) (by omega) (by decide) (by decide) (by decide) (by decide) V2).mono ?_
  rintro e w3 ⟨un, ud, hu, eu, un1, un2, ud1, ud2, rfl, hb3⟩
  replace hB := below_via hB hb3 hB.size
  replace gan := cell_later hb3 gan
  replace gad := cell_later hb3 gad
  replace gbn := cell_later hb3 gbn
  replace gbd := cell_later hb3 gbd
  replace gsn := cell_later hb3 gsn
  replace gsd := cell_later hb3 gsd
  replace gtn := cell_later hb3 gtn
  replace gtd := cell_later hb3 gtd
  clear hb3
  have u0 : un = 0 := by
    have k := eu
    rw [Int.sub_self, Int.zero_mul] at k
    rcases Int.mul_eq_zero.1 k with h | h
    · exact h
    · rcases Int.mul_eq_zero.1 h with h | h <;> omega
  obtain rfl : 0 = un := u0.symm
  obtain rfl : 1 = ud := (right_zero hu).symm
  have ogan := fun o => cell_alloc o gan
  have ogad := fun o => cell_alloc o gad
  have ogbn := fun o => cell_alloc o gbn
  have ogbd := fun o => cell_alloc o gbd
  have ogsn := fun o => cell_alloc o gsn
  have ogsd := fun o => cell_alloc o gsd
  have ogtn := fun o => cell_alloc o gtn
  have ogtd := fun o => cell_alloc o gtd
  go_wp2_with fail
  clear ogan ogad ogbn ogbd ogsn ogsd ogtn ogtd
  replace hB := hB.alloc hB.size (Obj.cells #[Value.int IntKind.i64 0, Value.int IntKind.i64 1] 23)
  replace gan := cell_alloc (Obj.cells #[Value.int IntKind.i64 0, Value.int IntKind.i64 1] 23) gan
  replace gad := cell_alloc (Obj.cells #[Value.int IntKind.i64 0, Value.int IntKind.i64 1] 23) gad
  replace gbn := cell_alloc (Obj.cells #[Value.int IntKind.i64 0, Value.int IntKind.i64 1] 23) gbn
  replace gbd := cell_alloc (Obj.cells #[Value.int IntKind.i64 0, Value.int IntKind.i64 1] 23) gbd
  replace gsn := cell_alloc (Obj.cells #[Value.int IntKind.i64 0, Value.int IntKind.i64 1] 23) gsn
  replace gsd := cell_alloc (Obj.cells #[Value.int IntKind.i64 0, Value.int IntKind.i64 1] 23) gsd
  replace gtn := cell_alloc (Obj.cells #[Value.int IntKind.i64 0, Value.int IntKind.i64 1] 23) gtn
  replace gtd := cell_alloc (Obj.cells #[Value.int IntKind.i64 0, Value.int IntKind.i64 1] 23) gtd
  have gun : (w3.alloc (Obj.cells #[Value.int IntKind.i64 0, Value.int IntKind.i64 1] 23)).cell? ⟨w3.heap.size, 0, none⟩ = some (.int .i64 0) := by simp [go_sem]
  have gud : (w3.alloc (Obj.cells #[Value.int IntKind.i64 0, Value.int IntKind.i64 1] 23)).cell? ⟨w3.heap.size, 1, none⟩ = some (.int .i64 1) := by simp [go_sem]
  generalize (w3.alloc (Obj.cells #[Value.int IntKind.i64 0, Value.int IntKind.i64 1] 23)) = V3 at hB gan gad gbn gbd gsn gsd gtn gtd gun gud ⊢
  with_reducible refine (div_zero an ad 1 ha hu V3).mono ?_
  rintro e w4 ⟨rfl, hb4⟩
  replace hB := below_via hB hb4 hB.size
  replace gan := cell_later hb4 gan
  replace gad := cell_later hb4 gad
  replace gbn := cell_later hb4 gbn
  replace gbd := cell_later hb4 gbd
  replace gsn := cell_later hb4 gsn
  replace gsd := cell_later hb4 gsd
  replace gtn := cell_later hb4 gtn
  replace gtd := cell_later hb4 gtd
  replace gun := cell_later hb4 gun
  replace gud := cell_later hb4 gud
  clear hb4
  by_cases h0 : bn = 0
  · have h0' : (bn == 0) = true := by simp [h0]
    have ogan := fun o => cell_alloc o gan
    have ogad := fun o => cell_alloc o gad
    have ogbn := fun o => cell_alloc o gbn
    have ogbd := fun o => cell_alloc o gbd
    have ogsn := fun o => cell_alloc o gsn
    have ogsd := fun o => cell_alloc o gsd
    have ogtn := fun o => cell_alloc o gtn
    have ogtd := fun o => cell_alloc o gtd
    have ogun := fun o => cell_alloc o gun
    have ogud := fun o => cell_alloc o gud
    go_wp2_with fail
    replace hB := hB.alloc hB.size (Obj.cells #[Value.int IntKind.i64 0, Value.int IntKind.i64 0] 23)
    refine (known_any _).mono ?_
    rintro e wk ⟨rfl, hbk⟩
    go_wp2
    go_ret
    exact ⟨rfl, below_via hB hbk hB.size⟩
  · have h0' : (bn == 0) = false := by simp [h0]
    have ogan := fun o => cell_alloc o gan
    have ogad := fun o => cell_alloc o gad
    have ogbn := fun o => cell_alloc o gbn
    have ogbd := fun o => cell_alloc o gbd
    have ogsn := fun o => cell_alloc o gsn
    have ogsd := fun o => cell_alloc o gsd
    have ogtn := fun o => cell_alloc o gtn
    have ogtd := fun o => cell_alloc o gtd
    have ogun := fun o => cell_alloc o gun
    have ogud := fun o => cell_alloc o gud
    go_wp2_with fail
    clear ogan ogad ogbn ogbd ogsn ogsd ogtn ogtd ogun ogud
    replace hB := hB.alloc hB.size (Obj.cells #[Value.int IntKind.i64 0, Value.int IntKind.i64 0] 23)
    replace gan := cell_alloc (Obj.cells #[Value.int IntKind.i64 0, Value.int IntKind.i64 0] 23) gan
    replace gad := cell_alloc (Obj.cells #[Value.int IntKind.i64 0, Value.int IntKind.i64 0] 23) gad
    replace gbn := cell_alloc (Obj.cells #[Value.int IntKind.i64 0, Value.int IntKind.i64 0] 23) gbn
    replace gbd := cell_alloc (Obj.cells #[Value.int IntKind.i64 0, Value.int IntKind.i64 0] 23) gbd
    replace gsn := cell_alloc (Obj.cells #[Value.int IntKind.i64 0, Value.int IntKind.i64 0] 23) gsn
    replace gsd := cell_alloc (Obj.cells #[Value.int IntKind.i64 0, Value.int IntKind.i64 0] 23) gsd
    replace gtn := cell_alloc (Obj.cells #[Value.int IntKind.i64 0, Value.int IntKind.i64 0] 23) gtn
    replace gtd := cell_alloc (Obj.cells #[Value.int IntKind.i64 0, Value.int IntKind.i64 0] 23) gtd
    replace gun := cell_alloc (Obj.cells #[Value.int IntKind.i64 0, Value.int IntKind.i64 0] 23) gun
    replace gud := cell_alloc (Obj.cells #[Value.int IntKind.i64 0, Value.int IntKind.i64 0] 23) gud
    have gdn : (w4.alloc (Obj.cells #[Value.int IntKind.i64 0, Value.int IntKind.i64 0] 23)).cell? ⟨w4.heap.size, 0, none⟩ = some (.int .i64 0) := by simp [go_sem]
    have gdd : (w4.alloc (Obj.cells #[Value.int IntKind.i64 0, Value.int IntKind.i64 0] 23)).cell? ⟨w4.heap.size, 1, none⟩ = some (.int .i64 0) := by simp [go_sem]
    generalize (w4.alloc (Obj.cells #[Value.int IntKind.i64 0, Value.int IntKind.i64 0] 23)) = V4 at hB gan gad gbn gbd gsn gsd gtn gtd gun gud gdn gdd ⊢
    with_reducible refine (mul_small 60 12 60 12 3600 144 an ad bn bd ha hb (by omega) (by omega) (by omega) (by omega) (by omega) (by omega) (by decide) (by decide) (by decide) (by decide) V4).mono ?_
    rintro e w5 ⟨pn, pd, hp, ep, pn1, pn2, pd1, pd2, rfl, hb5⟩
    replace hB := below_via hB hb5 hB.size
    replace gan := cell_later hb5 gan
    replace gad := cell_later hb5 gad
    replace gbn := cell_later hb5 gbn
    replace gbd := cell_later hb5 gbd
    replace gsn := cell_later hb5 gsn
    replace gsd := cell_later hb5 gsd
    replace gtn := cell_later hb5 gtn
    replace gtd := cell_later hb5 gtd
    replace gun := cell_later hb5 gun
    replace gud := cell_later hb5 gud
    replace gdn := cell_later hb5 gdn
    replace gdd := cell_later hb5 gdd
    clear hb5
    have ogan := fun o => cell_alloc o gan
    have ogad := fun o => cell_alloc o gad
    have ogbn := fun o => cell_alloc o gbn
    have ogbd := fun o => cell_alloc o gbd
    have ogsn := fun o => cell_alloc o gsn
    have ogsd := fun o => cell_alloc o gsd
    have ogtn := fun o => cell_alloc o gtn
    have ogtd := fun o => cell_alloc o gtd
    have ogun := fun o => cell_alloc o gun
    have ogud := fun o => cell_alloc o gud
    have ogdn := fun o => cell_alloc o gdn
    have ogdd := fun o => cell_alloc o gdd
    go_wp2_with fail
    clear ogan ogad ogbn ogbd ogsn ogsd ogtn ogtd ogun ogud ogdn ogdd
    replace hB := hB.alloc hB.size (Obj.cells #[Value.int IntKind.i64 pn, Value.int IntKind.i64 pd] 23)
    replace gan := cell_alloc (Obj.cells #[Value.int IntKind.i64 pn, Value.int IntKind.i64 pd] 23) gan
    replace gad := cell_alloc (Obj.cells #[Value.int IntKind.i64 pn, Value.int IntKind.i64 pd] 23) gad
    replace gbn := cell_alloc (Obj.cells #[Value.int IntKind.i64 pn, Value.int IntKind.i64 pd] 23) gbn
    replace gbd := cell_alloc (Obj.cells #[Value.int IntKind.i64 pn, Value.int IntKind.i64 pd] 23) gbd
    replace gsn := cell_alloc (Obj.cells #[Value.int IntKind.i64 pn, Value.int IntKind.i64 pd] 23) gsn
    replace gsd := cell_alloc (Obj.cells #[Value.int IntKind.i64 pn, Value.int IntKind.i64 pd] 23) gsd
    replace gtn := cell_alloc (Obj.cells #[Value.int IntKind.i64 pn, Value.int IntKind.i64 pd] 23) gtn
    replace gtd := cell_alloc (Obj.cells #[Value.int IntKind.i64 pn, Value.int IntKind.i64 pd] 23) gtd
    replace gun := cell_alloc (Obj.cells #[Value.int IntKind.i64 pn, Value.int IntKind.i64 pd] 23) gun
    replace gud := cell_alloc (Obj.cells #[Value.int IntKind.i64 pn, Value.int IntKind.i64 pd] 23) gud
    replace gdn := cell_alloc (Obj.cells #[Value.int IntKind.i64 pn, Value.int IntKind.i64 pd] 23) gdn
    replace gdd := cell_alloc (Obj.cells #[Value.int IntKind.i64 pn, Value.int IntKind.i64 pd] 23) gdd
    have gpn : (w5.alloc (Obj.cells #[Value.int IntKind.i64 pn, Value.int IntKind.i64 pd] 23)).cell? ⟨w5.heap.size, 0, none⟩ = some (.int .i64 pn) := by simp [go_sem]
    have gpd : (w5.alloc (Obj.cells #[Value.int IntKind.i64 pn, Value.int IntKind.i64 pd] 23)).cell? ⟨w5.heap.size, 1, none⟩ = some (.int .i64 pd) := by simp [go_sem]
    generalize (w5.alloc (Obj.cells #[Value.int IntKind.i64 pn, Value.int IntKind.i64 pd] 23)) = V5 at hB gan gad gbn gbd gsn gsd gtn gtd gun gud gdn gdd gpn gpd ⊢
    with_reducible refine (div_small 3600 144 60 12 43200 8640 pn pd bn bd hp hb h0 (by omega) (by omega) (by omega) (by omega) (by omega) (by omega) (by decide) (by decide) (by decide) (by decide) V5).mono ?_
    rintro e w6 ⟨qn, qd, hq, eq, qn1, qn2, qd1, qd2, rfl, hb6⟩
    replace hB := below_via hB hb6 hB.size
    replace gan := cell_later hb6 gan
    replace gad := cell_later hb6 gad
    replace gbn := cell_later hb6 gbn
    replace gbd := cell_later hb6 gbd
    replace gsn := cell_later hb6 gsn
    replace gsd := cell_later hb6 gsd
    replace gtn := cell_later hb6 gtn
    replace gtd := cell_later hb6 gtd
    replace gun := cell_later hb6 gun
    replace gud := cell_later hb6 gud
    replace gdn := cell_later hb6 gdn
    replace gdd := cell_later hb6 gdd
    replace gpn := cell_later hb6 gpn
    replace gpd := cell_later hb6 gpd
    clear hb6
    obtain ⟨rfl, rfl⟩ : an = qn ∧ ad = qd := right_inj ha hq (again_plain h0 (show pd ≠ 0 by omega) ep eq).symm
    have ogan := fun o => cell_alloc o gan
    have ogad := fun o => cell_alloc o gad
    have ogbn := fun o => cell_alloc o gbn
    have ogbd := fun o => cell_alloc o gbd
    have ogsn := fun o => cell_alloc o gsn
    have ogsd := fun o => cell_alloc o gsd
    have ogtn := fun o => cell_alloc o gtn
    have ogtd := fun o => cell_alloc o gtd
    have ogun := fun o => cell_alloc o gun
    have ogud := fun o => cell_alloc o gud
    have ogdn := fun o => cell_alloc o gdn
    have ogdd := fun o => cell_alloc o gdd
    have ogpn := fun o => cell_alloc o gpn
    have ogpd := fun o => cell_alloc o gpd
    go_wp2_with fail
    clear ogan ogad ogbn ogbd ogsn ogsd ogtn ogtd ogun ogud ogdn ogdd ogpn ogpd
    replace hB := hB.alloc hB.size (Obj.cells #[Value.int IntKind.i64 an, Value.int IntKind.i64 ad] 23)
    replace gan := cell_alloc (Obj.cells #[Value.int IntKind.i64 an, Value.int IntKind.i64 ad] 23) gan
    replace gad := cell_alloc (Obj.cells #[Value.int IntKind.i64 an, Value.int IntKind.i64 ad] 23) gad
    replace gbn := cell_alloc (Obj.cells #[Value.int IntKind.i64 an, Value.int IntKind.i64 ad] 23) gbn
    replace gbd := cell_alloc (Obj.cells #[Value.int IntKind.i64 an, Value.int IntKind.i64 ad] 23) gbd
    replace gsn := cell_alloc (Obj.cells #[Value.int IntKind.i64 an, Value.int IntKind.i64 ad] 23) gsn
    replace gsd := cell_alloc (Obj.cells #[Value.int IntKind.i64 an, Value.int IntKind.i64 ad] 23) gsd
    replace gtn := cell_alloc (Obj.cells #[Value.int IntKind.i64 an, Value.int IntKind.i64 ad] 23) gtn
    replace gtd := cell_alloc (Obj.cells #[Value.int IntKind.i64 an, Value.int IntKind.i64 ad] 23) gtd
    replace gun := cell_alloc (Obj.cells #[Value.int IntKind.i64 an, Value.int IntKind.i64 ad] 23) gun
    replace gud := cell_alloc (Obj.cells #[Value.int IntKind.i64 an, Value.int IntKind.i64 ad] 23) gud
    replace gdn := cell_alloc (Obj.cells #[Value.int IntKind.i64 an, Value.int IntKind.i64 ad] 23) gdn
    replace gdd := cell_alloc (Obj.cells #[Value.int IntKind.i64 an, Value.int IntKind.i64 ad] 23) gdd
    replace gpn := cell_alloc (Obj.cells #[Value.int IntKind.i64 an, Value.int IntKind.i64 ad] 23) gpn
    replace gpd := cell_alloc (Obj.cells #[Value.int IntKind.i64 an, Value.int IntKind.i64 ad] 23) gpd
    have gqn : (w6.alloc (Obj.cells #[Value.int IntKind.i64 an, Value.int IntKind.i64 ad] 23)).cell? ⟨w6.heap.size, 0, none⟩ = some (.int .i64 an) := by simp [go_sem]
    have gqd : (w6.alloc (Obj.cells #[Value.int IntKind.i64 an, Value.int IntKind.i64 ad] 23)).cell? ⟨w6.heap.size, 1, none⟩ = some (.int .i64 ad) := by simp [go_sem]
    generalize (w6.alloc (Obj.cells #[Value.int IntKind.i64 an, Value.int IntKind.i64 ad] 23)) = V6 at hB gan gad gbn gbd gsn gsd gtn gtd gun gud gdn gdd gpn gpd gqn gqd ⊢
    with_reducible refine (div_small 60 12 60 12 720 720 bn bd bn bd hb hb h0 (by omega) (by omega) (by omega) (by omega) (by omega) (by omega) (by decide) (by decide) (by decide) (by decide) V6).mono ?_
    rintro e w7 ⟨jn, jd, hj, ej, jn1, jn2, jd1, jd2, rfl, hb7⟩
    replace hB := below_via hB hb7 hB.size
    replace gan := cell_later hb7 gan
    replace gad := cell_later hb7 gad
    replace gbn := cell_later hb7 gbn
    replace gbd := cell_later hb7 gbd
    replace gsn := cell_later hb7 gsn
    replace gsd := cell_later hb7 gsd
    replace gtn := cell_later hb7 gtn
    replace gtd := cell_later hb7 gtd
    replace gun := cell_later hb7 gun
    replace gud := cell_later hb7 gud
    replace gdn := cell_later hb7 gdn
    replace gdd := cell_later hb7 gdd
    replace gpn := cell_later hb7 gpn
    replace gpd := cell_later hb7 gpd
    replace gqn := cell_later hb7 gqn
    replace gqd := cell_later hb7 gqd
    clear hb7
    obtain rfl : jd = jn := by
      refine Int.eq_of_mul_eq_mul_right (mul_ne (show bd ≠ 0 by omega) h0) ?_
      have k := ej
      grind
    obtain rfl : 1 = jd := (right_one hj).symm
    have ogan := fun o => cell_alloc o gan
    have ogad := fun o => cell_alloc o gad
    have ogbn := fun o => cell_alloc o gbn
    have ogbd := fun o => cell_alloc o gbd
    have ogsn := fun o => cell_alloc o gsn
    have ogsd := fun o => cell_alloc o gsd
    have ogtn := fun o => cell_alloc o gtn
    have ogtd := fun o => cell_alloc o gtd
    have ogun := fun o => cell_alloc o gun
    have ogud := fun o => cell_alloc o gud
    have ogdn := fun o => cell_alloc o gdn
    have ogdd := fun o => cell_alloc o gdd
    have ogpn := fun o => cell_alloc o gpn
    have ogpd := fun o => cell_alloc o gpd
    have ogqn := fun o => cell_alloc o gqn
    have ogqd := fun o => cell_alloc o gqd
    go_wp2_with fail
    replace hB := hB.alloc hB.size (Obj.cells #[Value.int IntKind.i64 1, Value.int IntKind.i64 1] 23)
    refine (known_any _).mono ?_
    rintro e wk ⟨rfl, hbk⟩
    go_wp2
    go_ret
    exact ⟨rfl, below_via hB hbk hB.size⟩
end Go.Proofs.Ytcloepkaieifpab
