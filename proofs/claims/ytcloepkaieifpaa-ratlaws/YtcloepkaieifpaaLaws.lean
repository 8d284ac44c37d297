/- The walk of RatLaws: sums and products by the laws of numbers. -/
import Derived.Test.YtcloepkaieifpaaWalksC
import Derived.Test.YtcloepkaieifpaaWalksD
import Derived.Test.YtcloepkaieifpaaWalksF
import Derived.Test.YtcloepkaieifpaaSmall
import Derived.Lib.QuietBelow
namespace Go.Proofs.Ytcloepkaieifpaa
open Go.RowKit Go.Sort

set_option maxRecDepth 100000 in
set_option maxHeartbeats 2000000 in
theorem laws_walk (x y z v u t : Int) (x1 : -9223372036854775808 ≤ x) (x2 : x ≤ 9223372036854775807) (y1 : -9223372036854775808 ≤ y) (y2 : y ≤ 9223372036854775807) (z1 : -9223372036854775808 ≤ z) (z2 : z ≤ 9223372036854775807) (v1 : -9223372036854775808 ≤ v) (v2 : v ≤ 9223372036854775807) (u1 : -9223372036854775808 ≤ u) (u2 : u ≤ 9223372036854775807) (t1 : -9223372036854775808 ≤ t) (t2 : t ≤ 9223372036854775807) (w : World) :
    Calls Try.prog 3 #[.int .i64 x, .int .i64 y, .int .i64 z, .int .i64 v, .int .i64 u, .int .i64 t] w fun e w' => e = .returned (.bool true) ∧ Below w.heap.size w w' := by
  go_enter Try.func3, Try.ntmps3
  go_wp2_with (first | (go_at_call 6; with_reducible refine (rat_any x y (by omega) (by omega) (by omega) (by omega) _).mono ?_; rintro e wa ⟨an, an1, an2, ad, ad1, ad2, ha, rfl, hba⟩) | (go_at_call 6; with_reducible refine (rat_any z v (by omega) (by omega) (by omega) (by omega) _).mono ?_; rintro e wb ⟨bn, bn1, bn2, bd, bd1, bd2, hb, rfl, hbb⟩) | (go_at_call 6; with_reducible refine (rat_any u t (by omega) (by omega) (by omega) (by omega) _).mono ?_; rintro e wc ⟨cn, cn1, cn2, cd, cd1, cd2, hc, rfl, hbc⟩))
  have hB : Below w.heap.size w (((wc.alloc (Obj.cells #[Value.int IntKind.i64 an, Value.int IntKind.i64 ad] 23)).alloc (Obj.cells #[Value.int IntKind.i64 bn, Value.int IntKind.i64 bd] 23)).alloc (Obj.cells #[Value.int IntKind.i64 cn, Value.int IntKind.i64 cd] 23)) := by
    have := hba.size
    have := hbb.size
    have := hbc.size
    repeat (first | exact Below.refl _ _ | refine Below.alloc ?_ (by first | omega | (simp <;> omega)) _ | refine below_via ?_ hbc (by omega) | refine below_via ?_ hbb (by omega) | refine below_via ?_ hba (by omega))
  clear hba hbb hbc x1 x2 y1 y2 z1 z2 v1 v2 u1 u2 t1 t2
  have hcells : ∀ W, W = (((wc.alloc (Obj.cells #[Value.int IntKind.i64 an, Value.int IntKind.i64 ad] 23)).alloc (Obj.cells #[Value.int IntKind.i64 bn, Value.int IntKind.i64 bd] 23)).alloc (Obj.cells #[Value.int IntKind.i64 cn, Value.int IntKind.i64 cd] 23)) → W.cell? ⟨wc.heap.size, 0, none⟩ = some (.int .i64 an) ∧ W.cell? ⟨wc.heap.size, 1, none⟩ = some (.int .i64 ad) ∧ W.cell? ⟨wc.heap.size + 1, 0, none⟩ = some (.int .i64 bn) ∧ W.cell? ⟨wc.heap.size + 1, 1, none⟩ = some (.int .i64 bd) ∧ W.cell? ⟨wc.heap.size + 1 + 1, 0, none⟩ = some (.int .i64 cn) ∧ W.cell? ⟨wc.heap.size + 1 + 1, 1, none⟩ = some (.int .i64 cd) := by
    rintro W rfl; simp [go_sem]
  generalize (((wc.alloc (Obj.cells #[Value.int IntKind.i64 an, Value.int IntKind.i64 ad] 23)).alloc (Obj.cells #[Value.int IntKind.i64 bn, Value.int IntKind.i64 bd] 23)).alloc (Obj.cells #[Value.int IntKind.i64 cn, Value.int IntKind.i64 cd] 23)) = V0 at hB hcells ⊢
  obtain ⟨gan, gad, gbn, gbd, gcn, gcd⟩ := hcells V0 rfl
  clear hcells
  with_reducible refine (add_small 60 12 60 12 1440 144 an ad bn bd ha hb (by omega) (by omega) (by omega) (by omega) (by omega) (by omega) (by decide) (by decide) (by decide) (by decide) V0).mono ?_
  rintro e w1 ⟨rn, rd, hr, er, rn1, rn2, rd1, rd2, rfl, hb1⟩
  replace hB := below_via hB hb1 hB.size
  replace gan := cell_later hb1 gan
  replace gad := cell_later hb1 gad
  replace gbn := cell_later hb1 gbn
  replace gbd := cell_later hb1 gbd
  replace gcn := cell_later hb1 gcn
  replace gcd := cell_later hb1 gcd
  clear hb1
  have ogan := fun o => cell_alloc o gan
  have ogad := fun o => cell_alloc o gad
  have ogbn := fun o => cell_alloc o gbn
  have ogbd := fun o => cell_alloc o gbd
  have ogcn := fun o => cell_alloc o gcn
  have ogcd := fun o => cell_alloc o gcd
  go_wp2_with fail
  replace hB := hB.alloc hB.size (Obj.cells #[Value.int IntKind.i64 rn, Value.int IntKind.i64 rd] 23)
  replace gan := ogan (Obj.cells #[Value.int IntKind.i64 rn, Value.int IntKind.i64 rd] 23)
  replace gad := ogad (Obj.cells #[Value.int IntKind.i64 rn, Value.int IntKind.i64 rd] 23)
  replace gbn := ogbn (Obj.cells #[Value.int IntKind.i64 rn, Value.int IntKind.i64 rd] 23)
  replace gbd := ogbd (Obj.cells #[Value.int IntKind.i64 rn, Value.int IntKind.i64 rd] 23)
  replace gcn := ogcn (Obj.cells #[Value.int IntKind.i64 rn, Value.int IntKind.i64 rd] 23)
  replace gcd := ogcd (Obj.cells #[Value.int IntKind.i64 rn, Value.int IntKind.i64 rd] 23)
  clear ogan ogad ogbn ogbd ogcn ogcd
  have grn : (w1.alloc (Obj.cells #[Value.int IntKind.i64 rn, Value.int IntKind.i64 rd] 23)).cell? ⟨w1.heap.size, 0, none⟩ = some (.int .i64 rn) := by simp [go_sem]
  have grd : (w1.alloc (Obj.cells #[Value.int IntKind.i64 rn, Value.int IntKind.i64 rd] 23)).cell? ⟨w1.heap.size, 1, none⟩ = some (.int .i64 rd) := by simp [go_sem]
  generalize (w1.alloc (Obj.cells #[Value.int IntKind.i64 rn, Value.int IntKind.i64 rd] 23)) = V1 at hB gan gad gbn gbd gcn gcd grn grd ⊢
  with_reducible refine (add_small 60 12 60 12 1440 144 bn bd an ad hb ha (by omega) (by omega) (by omega) (by omega) (by omega) (by omega) (by decide) (by decide) (by decide) (by decide) V1).mono ?_
  rintro e w2 ⟨r2n, r2d, hr2, er2, r2n1, r2n2, r2d1, r2d2, rfl, hb2⟩
  replace hB := below_via hB hb2 hB.size
  replace gan := cell_later hb2 gan
  replace gad := cell_later hb2 gad
  replace gbn := cell_later hb2 gbn
  replace gbd := cell_later hb2 gbd
  replace gcn := cell_later hb2 gcn
  replace gcd := cell_later hb2 gcd
  replace grn := cell_later hb2 grn
  replace grd := cell_later hb2 grd
  clear hb2
  obtain ⟨rfl, rfl⟩ : rn = r2n ∧ rd = r2d := right_inj hr hr2 (Int.eq_of_mul_eq_mul_right (mul_ne (show ad ≠ 0 by omega) (show bd ≠ 0 by omega)) (by have k1 := er; have k2 := er2; grind))
  have ogan := fun o => cell_alloc o gan
  have ogad := fun o => cell_alloc o gad
  have ogbn := fun o => cell_alloc o gbn
  have ogbd := fun o => cell_alloc o gbd
  have ogcn := fun o => cell_alloc o gcn
  have ogcd := fun o => cell_alloc o gcd
  have ogrn := fun o => cell_alloc o grn
  have ogrd := fun o => cell_alloc o grd
  go_wp2_with fail
  replace hB := hB.alloc hB.size (Obj.cells #[Value.int IntKind.i64 rn, Value.int IntKind.i64 rd] 23)
  replace gan := ogan (Obj.cells #[Value.int IntKind.i64 rn, Value.int IntKind.i64 rd] 23)
  replace gad := ogad (Obj.cells #[Value.int IntKind.i64 rn, Value.int IntKind.i64 rd] 23)
  replace gbn := ogbn (Obj.cells #[Value.int IntKind.i64 rn, Value.int IntKind.i64 rd] 23)
  replace gbd := ogbd (Obj.cells #[Value.int IntKind.i64 rn, Value.int IntKind.i64 rd] 23)
  replace gcn := ogcn (Obj.cells #[Value.int IntKind.i64 rn, Value.int IntKind.i64 rd] 23)
  replace gcd := ogcd (Obj.cells #[Value.int IntKind.i64 rn, Value.int IntKind.i64 rd] 23)
  replace grn := ogrn (Obj.cells #[Value.int IntKind.i64 rn, Value.int IntKind.i64 rd] 23)
  replace grd := ogrd (Obj.cells #[Value.int IntKind.i64 rn, Value.int IntKind.i64 rd] 23)
  clear ogan ogad ogbn ogbd ogcn ogcd ogrn ogrd
  have gr2n : (w2.alloc (Obj.cells #[Value.int IntKind.i64 rn, Value.int IntKind.i64 rd] 23)).cell? ⟨w2.heap.size, 0, none⟩ = some (.int .i64 rn) := by simp [go_sem]
  have gr2d : (w2.alloc (Obj.cells #[Value.int IntKind.i64 rn, Value.int IntKind.i64 rd] 23)).cell? ⟨w2.heap.size, 1, none⟩ = some (.int .i64 rd) := by simp [go_sem]
  generalize (w2.alloc (Obj.cells #[Value.int IntKind.i64 rn, Value.int IntKind.i64 rd] 23)) = V2 at hB gan gad gbn gbd gcn gcd grn grd gr2n gr2d ⊢
  with_reducible refine (mul_small 60 12 60 12 3600 144 an ad bn bd ha hb (by omega) (by omega) (by omega) (by omega) (by omega) (by omega) (by decide) (by decide) (by decide) (by decide) V2).mono ?_
  rintro e w3 ⟨mn, md, hm, em, mn1, mn2, md1, md2, rfl, hb3⟩
  replace hB := below_via hB hb3 hB.size
  replace gan := cell_later hb3 gan
  replace gad := cell_later hb3 gad
  replace gbn := cell_later hb3 gbn
  replace gbd := cell_later hb3 gbd
  replace gcn := cell_later hb3 gcn
  replace gcd := cell_later hb3 gcd
  replace grn := cell_later hb3 grn
  replace grd := cell_later hb3 grd
  replace gr2n := cell_later hb3 gr2n
  replace gr2d := cell_later hb3 gr2d
  clear hb3
  have ogan := fun o => cell_alloc o gan
  have ogad := fun o => cell_alloc o gad
  have ogbn := fun o => cell_alloc o gbn
  have ogbd := fun o => cell_alloc o gbd
  have ogcn := fun o => cell_alloc o gcn
  have ogcd := fun o => cell_alloc o gcd
  have ogrn := fun o => cell_alloc o grn
  have ogrd := fun o => cell_alloc o grd
  have ogr2n := fun o => cell_alloc o gr2n
  have ogr2d := fun o => cell_alloc o gr2d
  go_wp2_with fail
  replace hB := hB.alloc hB.size (Obj.cells #[Value.int IntKind.i64 mn, Value.int IntKind.i64 md] 23)
  replace gan := ogan (Obj.cells #[Value.int IntKind.i64 mn, Value.int IntKind.i64 md] 23)
  replace gad := ogad (Obj.cells #[Value.int IntKind.i64 mn, Value.int IntKind.i64 md] 23)
  replace gbn := ogbn (Obj.cells #[Value.int IntKind.i64 mn, Value.int IntKind.i64 md] 23)
  replace gbd := ogbd (Obj.cells #[Value.int IntKind.i64 mn, Value.int IntKind.i64 md] 23)
  replace gcn := ogcn (Obj.cells #[Value.int IntKind.i64 mn, Value.int IntKind.i64 md] 23)
  replace gcd := ogcd (Obj.cells #[Value.int IntKind.i64 mn, Value.int IntKind.i64 md] 23)
  replace grn := ogrn (Obj.cells #[Value.int IntKind.i64 mn, Value.int IntKind.i64 md] 23)
  replace grd := ogrd (Obj.cells #[Value.int IntKind.i64 mn, Value.int IntKind.i64 md] 23)
  replace gr2n := ogr2n (Obj.cells #[Value.int IntKind.i64 mn, Value.int IntKind.i64 md] 23)
  replace gr2d := ogr2d (Obj.cells #[Value.int IntKind.i64 mn, Value.int IntKind.i64 md] 23)
  clear ogan ogad ogbn ogbd ogcn ogcd ogrn ogrd ogr2n ogr2d
  have gmn : (w3.alloc (Obj.cells #[Value.int IntKind.i64 mn, Value.int IntKind.i64 md] 23)).cell? ⟨w3.heap.size, 0, none⟩ = some (.int .i64 mn) := by simp [go_sem]
  have gmd : (w3.alloc (Obj.cells #[Value.int IntKind.i64 mn, Value.int IntKind.i64 md] 23)).cell? ⟨w3.heap.size, 1, none⟩ = some (.int .i64 md) := by simp [go_sem]
  generalize (w3.alloc (Obj.cells #[Value.int IntKind.i64 mn, Value.int IntKind.i64 md] 23)) = V3 at hB gan gad gbn gbd gcn gcd grn grd gr2n gr2d gmn gmd ⊢
  with_reducible refine (mul_small 60 12 60 12 3600 144 bn bd an ad hb ha (by omega) (by omega) (by omega) (by omega) (by omega) (by omega) (by decide) (by decide) (by decide) (by decide) V3).mono ?_
  rintro e w4 ⟨m2n, m2d, hm2, em2, m2n1, m2n2, m2d1, m2d2, rfl, hb4⟩
  replace hB := below_via hB hb4 hB.size
  replace gan := cell_later hb4 gan
  replace gad := cell_later hb4 gad
  replace gbn := cell_later hb4 gbn
  replace gbd := cell_later hb4 gbd
  replace gcn := cell_later hb4 gcn
  replace gcd := cell_later hb4 gcd
  replace grn := cell_later hb4 grn
  replace grd := cell_later hb4 grd
  replace gr2n := cell_later hb4 gr2n
  replace gr2d := cell_later hb4 gr2d
  replace gmn := cell_later hb4 gmn
  replace gmd := cell_later hb4 gmd
  clear hb4
  obtain ⟨rfl, rfl⟩ : mn = m2n ∧ md = m2d := right_inj hm hm2 (Int.eq_of_mul_eq_mul_right (mul_ne (show ad ≠ 0 by omega) (show bd ≠ 0 by omega)) (by have k1 := em; have k2 := em2; grind))
  have ogan := fun o => cell_alloc o gan
  have ogad := fun o => cell_alloc o gad
  have ogbn := fun o => cell_alloc o gbn
  have ogbd := fun o => cell_alloc o gbd
  have ogcn := fun o => cell_alloc o gcn
  have ogcd := fun o => cell_alloc o gcd
  have ogrn := fun o => cell_alloc o grn
  have ogrd := fun o => cell_alloc o grd
  have ogr2n := fun o => cell_alloc o gr2n
  have ogr2d := fun o => cell_alloc o gr2d
  have ogmn := fun o => cell_alloc o gmn
  have ogmd := fun o => cell_alloc o gmd
  go_wp2_with fail
  replace hB := hB.alloc hB.size (Obj.cells #[Value.int IntKind.i64 mn, Value.int IntKind.i64 md] 23)
  replace gan := ogan (Obj.cells #[Value.int IntKind.i64 mn, Value.int IntKind.i64 md] 23)
  replace gad := ogad (Obj.cells #[Value.int IntKind.i64 mn, Value.int IntKind.i64 md] 23)
  replace gbn := ogbn (Obj.cells #[Value.int IntKind.i64 mn, Value.int IntKind.i64 md] 23)
  replace gbd := ogbd (Obj.cells #[Value.int IntKind.i64 mn, Value.int IntKind.i64 md] 23)
  replace gcn := ogcn (Obj.cells #[Value.int IntKind.i64 mn, Value.int IntKind.i64 md] 23)
  replace gcd := ogcd (Obj.cells #[Value.int IntKind.i64 mn, Value.int IntKind.i64 md] 23)
  replace grn := ogrn (Obj.cells #[Value.int IntKind.i64 mn, Value.int IntKind.i64 md] 23)
  replace grd := ogrd (Obj.cells #[Value.int IntKind.i64 mn, Value.int IntKind.i64 md] 23)
  replace gr2n := ogr2n (Obj.cells #[Value.int IntKind.i64 mn, Value.int IntKind.i64 md] 23)
  replace gr2d := ogr2d (Obj.cells #[Value.int IntKind.i64 mn, Value.int IntKind.i64 md] 23)
  replace gmn := ogmn (Obj.cells #[Value.int IntKind.i64 mn, Value.int IntKind.i64 md] 23)
  replace gmd := ogmd (Obj.cells #[Value.int IntKind.i64 mn, Value.int IntKind.i64 md] 23)
  clear ogan ogad ogbn ogbd ogcn ogcd ogrn ogrd ogr2n ogr2d ogmn ogmd
  have gm2n : (w4.alloc (Obj.cells #[Value.int IntKind.i64 mn, Value.int IntKind.i64 md] 23)).cell? ⟨w4.heap.size, 0, none⟩ = some (.int .i64 mn) := by simp [go_sem]
  have gm2d : (w4.alloc (Obj.cells #[Value.int IntKind.i64 mn, Value.int IntKind.i64 md] 23)).cell? ⟨w4.heap.size, 1, none⟩ = some (.int .i64 md) := by simp [go_sem]
  generalize (w4.alloc (Obj.cells #[Value.int IntKind.i64 mn, Value.int IntKind.i64 md] 23)) = V4 at hB gan gad gbn gbd gcn gcd grn grd gr2n gr2d gmn gmd gm2n gm2d ⊢
  with_reducible refine (sub_small 1440 144 60 12 25920 1728 rn rd bn bd hr hb (by omega) (by omega) (by omega) (by omega) (by omega) (by omega) (by decide) (by decide) (by decide) (by decide) V4).mono ?_
  rintro e w5 ⟨sn, sd, hs, es, sn1, sn2, sd1, sd2, rfl, hb5⟩
  replace hB := below_via hB hb5 hB.size
  replace gan := cell_later hb5 gan
  replace gad := cell_later hb5 gad
  replace gbn := cell_later hb5 gbn
  replace gbd := cell_later hb5 gbd
  replace gcn := cell_later hb5 gcn
  replace gcd := cell_later hb5 gcd
  replace grn := cell_later hb5 grn
  replace grd := cell_later hb5 grd
  replace gr2n := cell_later hb5 gr2n
  replace gr2d := cell_later hb5 gr2d
  replace gmn := cell_later hb5 gmn
  replace gmd := cell_later hb5 gmd
  replace gm2n := cell_later hb5 gm2n
  replace gm2d := cell_later hb5 gm2d
  clear hb5
  obtain ⟨rfl, rfl⟩ : an = sn ∧ ad = sd := right_inj ha hs (back_plain (show bd ≠ 0 by omega) (show rd ≠ 0 by omega) er es).symm
  have ogan := fun o => cell_alloc o gan
  have ogad := fun o => cell_alloc o gad
  have ogbn := fun o => cell_alloc o gbn
  have ogbd := fun o => cell_alloc o gbd
  have ogcn := fun o => cell_alloc o gcn
  have ogcd := fun o => cell_alloc o gcd
  have ogrn := fun o => cell_alloc o grn
  have ogrd := fun o => cell_alloc o grd
  have ogr2n := fun o => cell_alloc o gr2n
  have ogr2d := fun o => cell_alloc o gr2d
  have ogmn := fun o => cell_alloc o gmn
  have ogmd := fun o => cell_alloc o gmd
  have ogm2n := fun o => cell_alloc o gm2n
  have ogm2d := fun o => cell_alloc o gm2d
  go_wp2_with fail
  replace hB := hB.alloc hB.size (Obj.cells #[Value.int IntKind.i64 an, Value.int IntKind.i64 ad] 23)
  replace gan := ogan (Obj.cells #[Value.int IntKind.i64 an, Value.int IntKind.i64 ad] 23)
  replace gad := ogad (Obj.cells #[Value.int IntKind.i64 an, Value.int IntKind.i64 ad] 23)
  replace gbn := ogbn (Obj.cells #[Value.int IntKind.i64 an, Value.int IntKind.i64 ad] 23)
  replace gbd := ogbd (Obj.cells #[Value.int IntKind.i64 an, Value.int IntKind.i64 ad] 23)
  replace gcn := ogcn (Obj.cells #[Value.int IntKind.i64 an, Value.int IntKind.i64 ad] 23)
  replace gcd := ogcd (Obj.cells #[Value.int IntKind.i64 an, Value.int IntKind.i64 ad] 23)
  replace grn := ogrn (Obj.cells #[Value.int IntKind.i64 an, Value.int IntKind.i64 ad] 23)
  replace grd := ogrd (Obj.cells #[Value.int IntKind.i64 an, Value.int IntKind.i64 ad] 23)
  replace gr2n := ogr2n (Obj.cells #[Value.int IntKind.i64 an, Value.int IntKind.i64 ad] 23)
  replace gr2d := ogr2d (Obj.cells #[Value.int IntKind.i64 an, Value.int IntKind.i64 ad] 23)
  replace gmn := ogmn (Obj.cells #[Value.int IntKind.i64 an, Value.int IntKind.i64 ad] 23)
  replace gmd := ogmd (Obj.cells #[Value.int IntKind.i64 an, Value.int IntKind.i64 ad] 23)
  replace gm2n := ogm2n (Obj.cells #[Value.int IntKind.i64 an, Value.int IntKind.i64 ad] 23)
  replace gm2d := ogm2d (Obj.cells #[Value.int IntKind.i64 an, Value.int IntKind.i64 ad] 23)
  clear ogan ogad ogbn ogbd ogcn ogcd ogrn ogrd ogr2n ogr2d ogmn ogmd ogm2n ogm2d
  have gsn : (w5.alloc (Obj.cells #[Value.int IntKind.i64 an, Value.int IntKind.i64 ad] 23)).cell? ⟨w5.heap.size, 0, none⟩ = some (.int .i64 an) := by simp [go_sem]
  have gsd : (w5.alloc (Obj.cells #[Value.int IntKind.i64 an, Value.int IntKind.i64 ad] 23)).cell? ⟨w5.heap.size, 1, none⟩ = some (.int .i64 ad) := by simp [go_sem]
  generalize (w5.alloc (Obj.cells #[Value.int IntKind.i64 an, Value.int IntKind.i64 ad] 23)) = V5 at hB gan gad gbn gbd gcn gcd grn grd gr2n gr2d gmn gmd gm2n gm2d gsn gsd ⊢
  with_reducible refine (add_small 60 12 60 12 1440 144 bn bd cn cd hb hc (by omega) (by omega) (by omega) (by omega) (by omega) (by omega) (by decide) (by decide) (by decide) (by decide) V5).mono ?_
  rintro e w6 ⟨ln, ld, hl, el, ln1, ln2, ld1, ld2, rfl, hb6⟩
  replace hB := below_via hB hb6 hB.size
  replace gan := cell_later hb6 gan
  replace gad := cell_later hb6 gad
  replace gbn := cell_later hb6 gbn
  replace gbd := cell_later hb6 gbd
  replace gcn := cell_later hb6 gcn
  replace gcd := cell_later hb6 gcd
  replace grn := cell_later hb6 grn
  replace grd := cell_later hb6 grd
  replace gr2n := cell_later hb6 gr2n
  replace gr2d := cell_later hb6 gr2d
  replace gmn := cell_later hb6 gmn
  replace gmd := cell_later hb6 gmd
  replace gm2n := cell_later hb6 gm2n
  replace gm2d := cell_later hb6 gm2d
  replace gsn := cell_later hb6 gsn
  replace gsd := cell_later hb6 gsd
  clear hb6
  have ogan := fun o => cell_alloc o gan
  have ogad := fun o => cell_alloc o gad
  have ogbn := fun o => cell_alloc o gbn
  have ogbd := fun o => cell_alloc o gbd
  have ogcn := fun o => cell_alloc o gcn
  have ogcd := fun o => cell_alloc o gcd
  have ogrn := fun o => cell_alloc o grn
  have ogrd := fun o => cell_alloc o grd
  have ogr2n := fun o => cell_alloc o gr2n
  have ogr2d := fun o => cell_alloc o gr2d
  have ogmn := fun o => cell_alloc o gmn
  have ogmd := fun o => cell_alloc o gmd
  have ogm2n := fun o => cell_alloc o gm2n
  have ogm2d := fun o => cell_alloc o gm2d
  have ogsn := fun o => cell_alloc o gsn
  have ogsd := fun o => cell_alloc o gsd
  go_wp2_with fail
  replace hB := hB.alloc hB.size (Obj.cells #[Value.int IntKind.i64 ln, Value.int IntKind.i64 ld] 23)
  replace gan := ogan (Obj.cells #[Value.int IntKind.i64 ln, Value.int IntKind.i64 ld] 23)
  replace gad := ogad (Obj.cells #[Value.int IntKind.i64 ln, Value.int IntKind.i64 ld] 23)
  replace gbn := ogbn (Obj.cells #[Value.int IntKind.i64 ln, Value.int IntKind.i64 ld] 23)
  replace gbd := ogbd (Obj.cells #[Value.int IntKind.i64 ln, Value.int IntKind.i64 ld] 23)
  replace gcn := ogcn (Obj.cells #[Value.int IntKind.i64 ln, Value.int IntKind.i64 ld] 23)
  replace gcd := ogcd (Obj.cells #[Value.int IntKind.i64 ln, Value.int IntKind.i64 ld] 23)
  replace grn := ogrn (Obj.cells #[Value.int IntKind.i64 ln, Value.int IntKind.i64 ld] 23)
  replace grd := ogrd (Obj.cells #[Value.int IntKind.i64 ln, Value.int IntKind.i64 ld] 23)
  replace gr2n := ogr2n (Obj.cells #[Value.int IntKind.i64 ln, Value.int IntKind.i64 ld] 23)
  replace gr2d := ogr2d (Obj.cells #[Value.int IntKind.i64 ln, Value.int IntKind.i64 ld] 23)
  replace gmn := ogmn (Obj.cells #[Value.int IntKind.i64 ln, Value.int IntKind.i64 ld] 23)
  replace gmd := ogmd (Obj.cells #[Value.int IntKind.i64 ln, Value.int IntKind.i64 ld] 23)
  replace gm2n := ogm2n (Obj.cells #[Value.int IntKind.i64 ln, Value.int IntKind.i64 ld] 23)
  replace gm2d := ogm2d (Obj.cells #[Value.int IntKind.i64 ln, Value.int IntKind.i64 ld] 23)
  replace gsn := ogsn (Obj.cells #[Value.int IntKind.i64 ln, Value.int IntKind.i64 ld] 23)
  replace gsd := ogsd (Obj.cells #[Value.int IntKind.i64 ln, Value.int IntKind.i64 ld] 23)
  clear ogan ogad ogbn ogbd ogcn ogcd ogrn ogrd ogr2n ogr2d ogmn ogmd ogm2n ogm2d ogsn ogsd
  have gln : (w6.alloc (Obj.cells #[Value.int IntKind.i64 ln, Value.int IntKind.i64 ld] 23)).cell? ⟨w6.heap.size, 0, none⟩ = some (.int .i64 ln) := by simp [go_sem]
  have gld : (w6.alloc (Obj.cells #[Value.int IntKind.i64 ln, Value.int IntKind.i64 ld] 23)).cell? ⟨w6.heap.size, 1, none⟩ = some (.int .i64 ld) := by simp [go_sem]
  generalize (w6.alloc (Obj.cells #[Value.int IntKind.i64 ln, Value.int IntKind.i64 ld] 23)) = V6 at hB gan gad gbn gbd gcn gcd grn grd gr2n gr2d gmn gmd gm2n gm2d gsn gsd gln gld ⊢
  with_reducible refine (mul_small 60 12 1440 144 86400 1728 an ad ln ld ha hl (by omega) (by omega) (by omega) (by omega) (by omega) (by omega) (by decide) (by decide) (by decide) (by decide) V6).mono ?_
  rintro e w7 ⟨pn, pd, hp, ep, pn1, pn2, pd1, pd2, rfl, hb7⟩
  replace hB := below_via hB hb7 hB.size
  replace gan := cell_later hb7 gan
  replace gad := cell_later hb7 gad
  replace gbn := cell_later hb7 gbn
  replace gbd := cell_later hb7 gbd
  replace gcn := cell_later hb7 gcn
  replace gcd := cell_later hb7 gcd
  replace grn := cell_later hb7 grn
  replace grd := cell_later hb7 grd
  replace gr2n := cell_later hb7 gr2n
  replace gr2d := cell_later hb7 gr2d
  replace gmn := cell_later hb7 gmn
  replace gmd := cell_later hb7 gmd
  replace gm2n := cell_later hb7 gm2n
  replace gm2d := cell_later hb7 gm2d
  replace gsn := cell_later hb7 gsn
  replace gsd := cell_later hb7 gsd
  replace gln := cell_later hb7 gln
  replace gld := cell_later hb7 gld
  clear hb7
  have ogan := fun o => cell_alloc o gan
  have ogad := fun o => cell_alloc o gad
  have ogbn := fun o => cell_alloc o gbn
  have ogbd := fun o => cell_alloc o gbd
  have ogcn := fun o => cell_alloc o gcn
  have ogcd := fun o => cell_alloc o gcd
  have ogrn := fun o => cell_alloc o grn
  have ogrd := fun o => cell_alloc o grd
  have ogr2n := fun o => cell_alloc o gr2n
  have ogr2d := fun o => cell_alloc o gr2d
  have ogmn := fun o => cell_alloc o gmn
  have ogmd := fun o => cell_alloc o gmd
  have ogm2n := fun o => cell_alloc o gm2n
  have ogm2d := fun o => cell_alloc o gm2d
  have ogsn := fun o => cell_alloc o gsn
  have ogsd := fun o => cell_alloc o gsd
  have ogln := fun o => cell_alloc o gln
  have ogld := fun o => cell_alloc o gld
  go_wp2_with fail
  replace hB := hB.alloc hB.size (Obj.cells #[Value.int IntKind.i64 pn, Value.int IntKind.i64 pd] 23)
  replace gan := ogan (Obj.cells #[Value.int IntKind.i64 pn, Value.int IntKind.i64 pd] 23)
  replace gad := ogad (Obj.cells #[Value.int IntKind.i64 pn, Value.int IntKind.i64 pd] 23)
  replace gbn := ogbn (Obj.cells #[Value.int IntKind.i64 pn, Value.int IntKind.i64 pd] 23)
  replace gbd := ogbd (Obj.cells #[Value.int IntKind.i64 pn, Value.int IntKind.i64 pd] 23)
  replace gcn := ogcn (Obj.cells #[Value.int IntKind.i64 pn, Value.int IntKind.i64 pd] 23)
  replace gcd := ogcd (Obj.cells #[Value.int IntKind.i64 pn, Value.int IntKind.i64 pd] 23)
  replace grn := ogrn (Obj.cells #[Value.int IntKind.i64 pn, Value.int IntKind.i64 pd] 23)
  replace grd := ogrd (Obj.cells #[Value.int IntKind.i64 pn, Value.int IntKind.i64 pd] 23)
  replace gr2n := ogr2n (Obj.cells #[Value.int IntKind.i64 pn, Value.int IntKind.i64 pd] 23)
  replace gr2d := ogr2d (Obj.cells #[Value.int IntKind.i64 pn, Value.int IntKind.i64 pd] 23)
  replace gmn := ogmn (Obj.cells #[Value.int IntKind.i64 pn, Value.int IntKind.i64 pd] 23)
  replace gmd := ogmd (Obj.cells #[Value.int IntKind.i64 pn, Value.int IntKind.i64 pd] 23)
  replace gm2n := ogm2n (Obj.cells #[Value.int IntKind.i64 pn, Value.int IntKind.i64 pd] 23)
  replace gm2d := ogm2d (Obj.cells #[Value.int IntKind.i64 pn, Value.int IntKind.i64 pd] 23)
  replace gsn := ogsn (Obj.cells #[Value.int IntKind.i64 pn, Value.int IntKind.i64 pd] 23)
  replace gsd := ogsd (Obj.cells #[Value.int IntKind.i64 pn, Value.int IntKind.i64 pd] 23)
  replace gln := ogln (Obj.cells #[Value.int IntKind.i64 pn, Value.int IntKind.i64 pd] 23)
  replace gld := ogld (Obj.cells #[Value.int IntKind.i64 pn, Value.int IntKind.i64 pd] 23)
  clear ogan ogad ogbn ogbd ogcn ogcd ogrn ogrd ogr2n ogr2d ogmn ogmd ogm2n ogm2d ogsn ogsd ogln ogld
  have gpn : (w7.alloc (Obj.cells #[Value.int IntKind.i64 pn, Value.int IntKind.i64 pd] 23)).cell? ⟨w7.heap.size, 0, none⟩ = some (.int .i64 pn) := by simp [go_sem]
  have gpd : (w7.alloc (Obj.cells #[Value.int IntKind.i64 pn, Value.int IntKind.i64 pd] 23)).cell? ⟨w7.heap.size, 1, none⟩ = some (.int .i64 pd) := by simp [go_sem]
  generalize (w7.alloc (Obj.cells #[Value.int IntKind.i64 pn, Value.int IntKind.i64 pd] 23)) = V7 at hB gan gad gbn gbd gcn gcd grn grd gr2n gr2d gmn gmd gm2n gm2d gsn gsd gln gld gpn gpd ⊢
  with_reducible refine (mul_small 60 12 60 12 3600 144 an ad cn cd ha hc (by omega) (by omega) (by omega) (by omega) (by omega) (by omega) (by decide) (by decide) (by decide) (by decide) V7).mono ?_
  rintro e w8 ⟨qn, qd, hq, eq, qn1, qn2, qd1, qd2, rfl, hb8⟩
  replace hB := below_via hB hb8 hB.size
  replace gan := cell_later hb8 gan
  replace gad := cell_later hb8 gad
  replace gbn := cell_later hb8 gbn
  replace gbd := cell_later hb8 gbd
  replace gcn := cell_later hb8 gcn
  replace gcd := cell_later hb8 gcd
  replace grn := cell_later hb8 grn
  replace grd := cell_later hb8 grd
  replace gr2n := cell_later hb8 gr2n
  replace gr2d := cell_later hb8 gr2d
  replace gmn := cell_later hb8 gmn
  replace gmd := cell_later hb8 gmd
  replace gm2n := cell_later hb8 gm2n
  replace gm2d := cell_later hb8 gm2d
  replace gsn := cell_later hb8 gsn
  replace gsd := cell_later hb8 gsd
  replace gln := cell_later hb8 gln
  replace gld := cell_later hb8 gld
  replace gpn := cell_later hb8 gpn
  replace gpd := cell_later hb8 gpd
  clear hb8
  have ogan := fun o => cell_alloc o gan
  have ogad := fun o => cell_alloc o gad
  have ogbn := fun o => cell_alloc o gbn
  have ogbd := fun o => cell_alloc o gbd
  have ogcn := fun o => cell_alloc o gcn
  have ogcd := fun o => cell_alloc o gcd
  have ogrn := fun o => cell_alloc o grn
  have ogrd := fun o => cell_alloc o grd
  have ogr2n := fun o => cell_alloc o gr2n
  have ogr2d := fun o => cell_alloc o gr2d
  have ogmn := fun o => cell_alloc o gmn
  have ogmd := fun o => cell_alloc o gmd
  have ogm2n := fun o => cell_alloc o gm2n
  have ogm2d := fun o => cell_alloc o gm2d
  have ogsn := fun o => cell_alloc o gsn
  have ogsd := fun o => cell_alloc o gsd
  have ogln := fun o => cell_alloc o gln
  have ogld := fun o => cell_alloc o gld
  have ogpn := fun o => cell_alloc o gpn
  have ogpd := fun o => cell_alloc o gpd
  go_wp2_with fail
  replace hB := hB.alloc hB.size (Obj.cells #[Value.int IntKind.i64 qn, Value.int IntKind.i64 qd] 23)
  replace gan := ogan (Obj.cells #[Value.int IntKind.i64 qn, Value.int IntKind.i64 qd] 23)
  replace gad := ogad (Obj.cells #[Value.int IntKind.i64 qn, Value.int IntKind.i64 qd] 23)
  replace gbn := ogbn (Obj.cells #[Value.int IntKind.i64 qn, Value.int IntKind.i64 qd] 23)
  replace gbd := ogbd (Obj.cells #[Value.int IntKind.i64 qn, Value.int IntKind.i64 qd] 23)
  replace gcn := ogcn (Obj.cells #[Value.int IntKind.i64 qn, Value.int IntKind.i64 qd] 23)
  replace gcd := ogcd (Obj.cells #[Value.int IntKind.i64 qn, Value.int IntKind.i64 qd] 23)
  replace grn := ogrn (Obj.cells #[Value.int IntKind.i64 qn, Value.int IntKind.i64 qd] 23)
  replace grd := ogrd (Obj.cells #[Value.int IntKind.i64 qn, Value.int IntKind.i64 qd] 23)
  replace gr2n := ogr2n (Obj.cells #[Value.int IntKind.i64 qn, Value.int IntKind.i64 qd] 23)
  replace gr2d := ogr2d (Obj.cells #[Value.int IntKind.i64 qn, Value.int IntKind.i64 qd] 23)
  replace gmn := ogmn (Obj.cells #[Value.int IntKind.i64 qn, Value.int IntKind.i64 qd] 23)
  replace gmd := ogmd (Obj.cells #[Value.int IntKind.i64 qn, Value.int IntKind.i64 qd] 23)
  replace gm2n := ogm2n (Obj.cells #[Value.int IntKind.i64 qn, Value.int IntKind.i64 qd] 23)
  replace gm2d := ogm2d (Obj.cells #[Value.int IntKind.i64 qn, Value.int IntKind.i64 qd] 23)
  replace gsn := ogsn (Obj.cells #[Value.int IntKind.i64 qn, Value.int IntKind.i64 qd] 23)
  replace gsd := ogsd (Obj.cells #[Value.int IntKind.i64 qn, Value.int IntKind.i64 qd] 23)
  replace gln := ogln (Obj.cells #[Value.int IntKind.i64 qn, Value.int IntKind.i64 qd] 23)
  replace gld := ogld (Obj.cells #[Value.int IntKind.i64 qn, Value.int IntKind.i64 qd] 23)
  replace gpn := ogpn (Obj.cells #[Value.int IntKind.i64 qn, Value.int IntKind.i64 qd] 23)
  replace gpd := ogpd (Obj.cells #[Value.int IntKind.i64 qn, Value.int IntKind.i64 qd] 23)
  clear ogan ogad ogbn ogbd ogcn ogcd ogrn ogrd ogr2n ogr2d ogmn ogmd ogm2n ogm2d ogsn ogsd ogln ogld ogpn ogpd
  have gqn : (w8.alloc (Obj.cells #[Value.int IntKind.i64 qn, Value.int IntKind.i64 qd] 23)).cell? ⟨w8.heap.size, 0, none⟩ = some (.int .i64 qn) := by simp [go_sem]
  have gqd : (w8.alloc (Obj.cells #[Value.int IntKind.i64 qn, Value.int IntKind.i64 qd] 23)).cell? ⟨w8.heap.size, 1, none⟩ = some (.int .i64 qd) := by simp [go_sem]
  generalize (w8.alloc (Obj.cells #[Value.int IntKind.i64 qn, Value.int IntKind.i64 qd] 23)) = V8 at hB gan gad gbn gbd gcn gcd grn grd gr2n gr2d gmn gmd gm2n gm2d gsn gsd gln gld gpn gpd gqn gqd ⊢
  with_reducible refine (add_small 3600 144 3600 144 1036800 20736 mn md qn qd hm hq (by omega) (by omega) (by omega) (by omega) (by omega) (by omega) (by decide) (by decide) (by decide) (by decide) V8).mono ?_
  rintro e w9 ⟨tn, td, ht, et, tn1, tn2, td1, td2, rfl, hb9⟩
  replace hB := below_via hB hb9 hB.size
  replace gan := cell_later hb9 gan
  replace gad := cell_later hb9 gad
  replace gbn := cell_later hb9 gbn
  replace gbd := cell_later hb9 gbd
  replace gcn := cell_later hb9 gcn
  replace gcd := cell_later hb9 gcd
  replace grn := cell_later hb9 grn
  replace grd := cell_later hb9 grd
  replace gr2n := cell_later hb9 gr2n
  replace gr2d := cell_later hb9 gr2d
  replace gmn := cell_later hb9 gmn
  replace gmd := cell_later hb9 gmd
  replace gm2n := cell_later hb9 gm2n
  replace gm2d := cell_later hb9 gm2d
  replace gsn := cell_later hb9 gsn
  replace gsd := cell_later hb9 gsd
  replace gln := cell_later hb9 gln
  replace gld := cell_later hb9 gld
  replace gpn := cell_later hb9 gpn
  replace gpd := cell_later hb9 gpd
  replace gqn := cell_later hb9 gqn
  replace gqd := cell_later hb9 gqd
  clear hb9
  obtain ⟨rfl, rfl⟩ : pn = tn ∧ pd = td := right_inj hp ht (spread_plain (show ad ≠ 0 by omega) (show bd ≠ 0 by omega) (show cd ≠ 0 by omega) (show ld ≠ 0 by omega) (show md ≠ 0 by omega) (show qd ≠ 0 by omega) el ep em eq et)
  have ogan := fun o => cell_alloc o gan
  have ogad := fun o => cell_alloc o gad
  have ogbn := fun o => cell_alloc o gbn
  have ogbd := fun o => cell_alloc o gbd
  have ogcn := fun o => cell_alloc o gcn
  have ogcd := fun o => cell_alloc o gcd
  have ogrn := fun o => cell_alloc o grn
  have ogrd := fun o => cell_alloc o grd
  have ogr2n := fun o => cell_alloc o gr2n
  have ogr2d := fun o => cell_alloc o gr2d
  have ogmn := fun o => cell_alloc o gmn
  have ogmd := fun o => cell_alloc o gmd
  have ogm2n := fun o => cell_alloc o gm2n
  have ogm2d := fun o => cell_alloc o gm2d
  have ogsn := fun o => cell_alloc o gsn
  have ogsd := fun o => cell_alloc o gsd
  have ogln := fun o => cell_alloc o gln
  have ogld := fun o => cell_alloc o gld
  have ogpn := fun o => cell_alloc o gpn
  have ogpd := fun o => cell_alloc o gpd
  have ogqn := fun o => cell_alloc o gqn
  have ogqd := fun o => cell_alloc o gqd
  go_wp2_with fail
  replace hB := hB.alloc hB.size (Obj.cells #[Value.int IntKind.i64 pn, Value.int IntKind.i64 pd] 23)
  replace gan := ogan (Obj.cells #[Value.int IntKind.i64 pn, Value.int IntKind.i64 pd] 23)
  replace gad := ogad (Obj.cells #[Value.int IntKind.i64 pn, Value.int IntKind.i64 pd] 23)
  replace gbn := ogbn (Obj.cells #[Value.int IntKind.i64 pn, Value.int IntKind.i64 pd] 23)
  replace gbd := ogbd (Obj.cells #[Value.int IntKind.i64 pn, Value.int IntKind.i64 pd] 23)
  replace gcn := ogcn (Obj.cells #[Value.int IntKind.i64 pn, Value.int IntKind.i64 pd] 23)
  replace gcd := ogcd (Obj.cells #[Value.int IntKind.i64 pn, Value.int IntKind.i64 pd] 23)
  replace grn := ogrn (Obj.cells #[Value.int IntKind.i64 pn, Value.int IntKind.i64 pd] 23)
  replace grd := ogrd (Obj.cells #[Value.int IntKind.i64 pn, Value.int IntKind.i64 pd] 23)
  replace gr2n := ogr2n (Obj.cells #[Value.int IntKind.i64 pn, Value.int IntKind.i64 pd] 23)
  replace gr2d := ogr2d (Obj.cells #[Value.int IntKind.i64 pn, Value.int IntKind.i64 pd] 23)
  replace gmn := ogmn (Obj.cells #[Value.int IntKind.i64 pn, Value.int IntKind.i64 pd] 23)
  replace gmd := ogmd (Obj.cells #[Value.int IntKind.i64 pn, Value.int IntKind.i64 pd] 23)
  replace gm2n := ogm2n (Obj.cells #[Value.int IntKind.i64 pn, Value.int IntKind.i64 pd] 23)
  replace gm2d := ogm2d (Obj.cells #[Value.int IntKind.i64 pn, Value.int IntKind.i64 pd] 23)
  replace gsn := ogsn (Obj.cells #[Value.int IntKind.i64 pn, Value.int IntKind.i64 pd] 23)
  replace gsd := ogsd (Obj.cells #[Value.int IntKind.i64 pn, Value.int IntKind.i64 pd] 23)
  replace gln := ogln (Obj.cells #[Value.int IntKind.i64 pn, Value.int IntKind.i64 pd] 23)
  replace gld := ogld (Obj.cells #[Value.int IntKind.i64 pn, Value.int IntKind.i64 pd] 23)
  replace gpn := ogpn (Obj.cells #[Value.int IntKind.i64 pn, Value.int IntKind.i64 pd] 23)
  replace gpd := ogpd (Obj.cells #[Value.int IntKind.i64 pn, Value.int IntKind.i64 pd] 23)
  replace gqn := ogqn (Obj.cells #[Value.int IntKind.i64 pn, Value.int IntKind.i64 pd] 23)
  replace gqd := ogqd (Obj.cells #[Value.int IntKind.i64 pn, Value.int IntKind.i64 pd] 23)
  clear ogan ogad ogbn ogbd ogcn ogcd ogrn ogrd ogr2n ogr2d ogmn ogmd ogm2n ogm2d ogsn ogsd ogln ogld ogpn ogpd ogqn ogqd
  have gtn : (w9.alloc (Obj.cells #[Value.int IntKind.i64 pn, Value.int IntKind.i64 pd] 23)).cell? ⟨w9.heap.size, 0, none⟩ = some (.int .i64 pn) := by simp [go_sem]
  have gtd : (w9.alloc (Obj.cells #[Value.int IntKind.i64 pn, Value.int IntKind.i64 pd] 23)).cell? ⟨w9.heap.size, 1, none⟩ = some (.int .i64 pd) := by simp [go_sem]
  have hsz : (w9.alloc (Obj.cells #[Value.int IntKind.i64 pn, Value.int IntKind.i64 pd] 23)).heap.size = w9.heap.size + 1 := by simp
  generalize (w9.alloc (Obj.cells #[Value.int IntKind.i64 pn, Value.int IntKind.i64 pd] 23)) = V9 at hB hsz gan gad gbn gbd gcn gcd grn grd gr2n gr2d gmn gmd gm2n gm2d gsn gsd gln gld gpn gpd gqn gqd gtn gtd ⊢
  have ocell : ∀ k : Nat, k < 9 → (V9.alloc (Obj.cells #[Value.int IntKind.i64 0, Value.int IntKind.i64 0, Value.int IntKind.i64 0, Value.int IntKind.i64 0, Value.int IntKind.i64 0, Value.int IntKind.i64 0, Value.int IntKind.i64 0, Value.int IntKind.i64 0, Value.int IntKind.i64 0] 25)).cell? ⟨w9.heap.size + 1, k, none⟩ = some (.int .i64 0) := by
    intro k hk
    rw [← hsz]
    have h9 : k = 0 ∨ k = 1 ∨ k = 2 ∨ k = 3 ∨ k = 4 ∨ k = 5 ∨ k = 6 ∨ k = 7 ∨ k = 8 := by omega
    rcases h9 with rfl | rfl | rfl | rfl | rfl | rfl | rfl | rfl | rfl <;> simp [go_sem]
  replace hB := hB.alloc hB.size (Obj.cells #[Value.int IntKind.i64 0, Value.int IntKind.i64 0, Value.int IntKind.i64 0, Value.int IntKind.i64 0, Value.int IntKind.i64 0, Value.int IntKind.i64 0, Value.int IntKind.i64 0, Value.int IntKind.i64 0, Value.int IntKind.i64 0] 25)
  replace gan := cell_alloc (Obj.cells #[Value.int IntKind.i64 0, Value.int IntKind.i64 0, Value.int IntKind.i64 0, Value.int IntKind.i64 0, Value.int IntKind.i64 0, Value.int IntKind.i64 0, Value.int IntKind.i64 0, Value.int IntKind.i64 0, Value.int IntKind.i64 0] 25) gan
  replace gad := cell_alloc (Obj.cells #[Value.int IntKind.i64 0, Value.int IntKind.i64 0, Value.int IntKind.i64 0, Value.int IntKind.i64 0, Value.int IntKind.i64 0, Value.int IntKind.i64 0, Value.int IntKind.i64 0, Value.int IntKind.i64 0, Value.int IntKind.i64 0] 25) gad
  replace gbn := cell_alloc (Obj.cells #[Value.int IntKind.i64 0, Value.int IntKind.i64 0, Value.int IntKind.i64 0, Value.int IntKind.i64 0, Value.int IntKind.i64 0, Value.int IntKind.i64 0, Value.int IntKind.i64 0, Value.int IntKind.i64 0, Value.int IntKind.i64 0] 25) gbn
  replace gbd := cell_alloc (Obj.cells #[Value.int IntKind.i64 0, Value.int IntKind.i64 0, Value.int IntKind.i64 0, Value.int IntKind.i64 0, Value.int IntKind.i64 0, Value.int IntKind.i64 0, Value.int IntKind.i64 0, Value.int IntKind.i64 0, Value.int IntKind.i64 0] 25) gbd
  replace gcn := cell_alloc (Obj.cells #[Value.int IntKind.i64 0, Value.int IntKind.i64 0, Value.int IntKind.i64 0, Value.int IntKind.i64 0, Value.int IntKind.i64 0, Value.int IntKind.i64 0, Value.int IntKind.i64 0, Value.int IntKind.i64 0, Value.int IntKind.i64 0] 25) gcn
  replace gcd := cell_alloc (Obj.cells #[Value.int IntKind.i64 0, Value.int IntKind.i64 0, Value.int IntKind.i64 0, Value.int IntKind.i64 0, Value.int IntKind.i64 0, Value.int IntKind.i64 0, Value.int IntKind.i64 0, Value.int IntKind.i64 0, Value.int IntKind.i64 0] 25) gcd
  replace grn := cell_alloc (Obj.cells #[Value.int IntKind.i64 0, Value.int IntKind.i64 0, Value.int IntKind.i64 0, Value.int IntKind.i64 0, Value.int IntKind.i64 0, Value.int IntKind.i64 0, Value.int IntKind.i64 0, Value.int IntKind.i64 0, Value.int IntKind.i64 0] 25) grn
  replace grd := cell_alloc (Obj.cells #[Value.int IntKind.i64 0, Value.int IntKind.i64 0, Value.int IntKind.i64 0, Value.int IntKind.i64 0, Value.int IntKind.i64 0, Value.int IntKind.i64 0, Value.int IntKind.i64 0, Value.int IntKind.i64 0, Value.int IntKind.i64 0] 25) grd
  replace gr2n := cell_alloc (Obj.cells #[Value.int IntKind.i64 0, Value.int IntKind.i64 0, Value.int IntKind.i64 0, Value.int IntKind.i64 0, Value.int IntKind.i64 0, Value.int IntKind.i64 0, Value.int IntKind.i64 0, Value.int IntKind.i64 0, Value.int IntKind.i64 0] 25) gr2n
  replace gr2d := cell_alloc (Obj.cells #[Value.int IntKind.i64 0, Value.int IntKind.i64 0, Value.int IntKind.i64 0, Value.int IntKind.i64 0, Value.int IntKind.i64 0, Value.int IntKind.i64 0, Value.int IntKind.i64 0, Value.int IntKind.i64 0, Value.int IntKind.i64 0] 25) gr2d
  replace gmn := cell_alloc (Obj.cells #[Value.int IntKind.i64 0, Value.int IntKind.i64 0, Value.int IntKind.i64 0, Value.int IntKind.i64 0, Value.int IntKind.i64 0, Value.int IntKind.i64 0, Value.int IntKind.i64 0, Value.int IntKind.i64 0, Value.int IntKind.i64 0] 25) gmn
  replace gmd := cell_alloc (Obj.cells #[Value.int IntKind.i64 0, Value.int IntKind.i64 0, Value.int IntKind.i64 0, Value.int IntKind.i64 0, Value.int IntKind.i64 0, Value.int IntKind.i64 0, Value.int IntKind.i64 0, Value.int IntKind.i64 0, Value.int IntKind.i64 0] 25) gmd
  replace gm2n := cell_alloc (Obj.cells #[Value.int IntKind.i64 0, Value.int IntKind.i64 0, Value.int IntKind.i64 0, Value.int IntKind.i64 0, Value.int IntKind.i64 0, Value.int IntKind.i64 0, Value.int IntKind.i64 0, Value.int IntKind.i64 0, Value.int IntKind.i64 0] 25) gm2n
  replace gm2d := cell_alloc (Obj.cells #[Value.int IntKind.i64 0, Value.int IntKind.i64 0, Value.int IntKind.i64 0, Value.int IntKind.i64 0, Value.int IntKind.i64 0, Value.int IntKind.i64 0, Value.int IntKind.i64 0, Value.int IntKind.i64 0, Value.int IntKind.i64 0] 25) gm2d
  replace gsn := cell_alloc (Obj.cells #[Value.int IntKind.i64 0, Value.int IntKind.i64 0, Value.int IntKind.i64 0, Value.int IntKind.i64 0, Value.int IntKind.i64 0, Value.int IntKind.i64 0, Value.int IntKind.i64 0, Value.int IntKind.i64 0, Value.int IntKind.i64 0] 25) gsn
  replace gsd := cell_alloc (Obj.cells #[Value.int IntKind.i64 0, Value.int IntKind.i64 0, Value.int IntKind.i64 0, Value.int IntKind.i64 0, Value.int IntKind.i64 0, Value.int IntKind.i64 0, Value.int IntKind.i64 0, Value.int IntKind.i64 0, Value.int IntKind.i64 0] 25) gsd
  replace gln := cell_alloc (Obj.cells #[Value.int IntKind.i64 0, Value.int IntKind.i64 0, Value.int IntKind.i64 0, Value.int IntKind.i64 0, Value.int IntKind.i64 0, Value.int IntKind.i64 0, Value.int IntKind.i64 0, Value.int IntKind.i64 0, Value.int IntKind.i64 0] 25) gln
  replace gld := cell_alloc (Obj.cells #[Value.int IntKind.i64 0, Value.int IntKind.i64 0, Value.int IntKind.i64 0, Value.int IntKind.i64 0, Value.int IntKind.i64 0, Value.int IntKind.i64 0, Value.int IntKind.i64 0, Value.int IntKind.i64 0, Value.int IntKind.i64 0] 25) gld
  replace gpn := cell_alloc (Obj.cells #[Value.int IntKind.i64 0, Value.int IntKind.i64 0, Value.int IntKind.i64 0, Value.int IntKind.i64 0, Value.int IntKind.i64 0, Value.int IntKind.i64 0, Value.int IntKind.i64 0, Value.int IntKind.i64 0, Value.int IntKind.i64 0] 25) gpn
  replace gpd := cell_alloc (Obj.cells #[Value.int IntKind.i64 0, Value.int IntKind.i64 0, Value.int IntKind.i64 0, Value.int IntKind.i64 0, Value.int IntKind.i64 0, Value.int IntKind.i64 0, Value.int IntKind.i64 0, Value.int IntKind.i64 0, Value.int IntKind.i64 0] 25) gpd
  replace gqn := cell_alloc (Obj.cells #[Value.int IntKind.i64 0, Value.int IntKind.i64 0, Value.int IntKind.i64 0, Value.int IntKind.i64 0, Value.int IntKind.i64 0, Value.int IntKind.i64 0, Value.int IntKind.i64 0, Value.int IntKind.i64 0, Value.int IntKind.i64 0] 25) gqn
  replace gqd := cell_alloc (Obj.cells #[Value.int IntKind.i64 0, Value.int IntKind.i64 0, Value.int IntKind.i64 0, Value.int IntKind.i64 0, Value.int IntKind.i64 0, Value.int IntKind.i64 0, Value.int IntKind.i64 0, Value.int IntKind.i64 0, Value.int IntKind.i64 0] 25) gqd
  replace gtn := cell_alloc (Obj.cells #[Value.int IntKind.i64 0, Value.int IntKind.i64 0, Value.int IntKind.i64 0, Value.int IntKind.i64 0, Value.int IntKind.i64 0, Value.int IntKind.i64 0, Value.int IntKind.i64 0, Value.int IntKind.i64 0, Value.int IntKind.i64 0] 25) gtn
  replace gtd := cell_alloc (Obj.cells #[Value.int IntKind.i64 0, Value.int IntKind.i64 0, Value.int IntKind.i64 0, Value.int IntKind.i64 0, Value.int IntKind.i64 0, Value.int IntKind.i64 0, Value.int IntKind.i64 0, Value.int IntKind.i64 0, Value.int IntKind.i64 0] 25) gtd
  clear hsz
  generalize V9.alloc (Obj.cells #[Value.int IntKind.i64 0, Value.int IntKind.i64 0, Value.int IntKind.i64 0, Value.int IntKind.i64 0, Value.int IntKind.i64 0, Value.int IntKind.i64 0, Value.int IntKind.i64 0, Value.int IntKind.i64 0, Value.int IntKind.i64 0] 25) = V10 at hB ocell gan gad gbn gbd gcn gcd grn grd gr2n gr2d gmn gmd gm2n gm2d gsn gsd gln gld gpn gpd gqn gqd gtn gtd ⊢
  have hside := side_plain (show 1 ≤ ad by omega) (show 1 ≤ bd by omega) (show 1 ≤ rd by omega) er
  have h01 : rightB 0 1 = true := by decide
  clear er er2 em em2 es el ep eq et
  go_loop [110] (fun i => ∃ k : Nat, k ≤ 9 ∧ i = .int .i64 k) (fun i => 9 - (intOf i).toNat)
  case atStart => exact ⟨0, by omega, rfl⟩
  case round =>
    obtain ⟨k, hk, rfl⟩ := hrel
    by_cases hlt : k < 9
    · have hc := ocell k hlt
      clear ocell
      go_wp2
      go_round
      case rel => exact ⟨k + 1, by omega, by go_num⟩
      case measure => simp [intOf]; omega
    · clear ocell
      go_wp2_with fail
      replace gan := fun d os => cell_regrown gan d os
      replace gad := fun d os => cell_regrown gad d os
      replace gbn := fun d os => cell_regrown gbn d os
      replace gbd := fun d os => cell_regrown gbd d os
      replace gcn := fun d os => cell_regrown gcn d os
      replace gcd := fun d os => cell_regrown gcd d os
      replace grn := fun d os => cell_regrown grn d os
      replace grd := fun d os => cell_regrown grd d os
      replace gr2n := fun d os => cell_regrown gr2n d os
      replace gr2d := fun d os => cell_regrown gr2d d os
      replace gmn := fun d os => cell_regrown gmn d os
      replace gmd := fun d os => cell_regrown gmd d os
      replace gm2n := fun d os => cell_regrown gm2n d os
      replace gm2d := fun d os => cell_regrown gm2d d os
      replace gsn := fun d os => cell_regrown gsn d os
      replace gsd := fun d os => cell_regrown gsd d os
      replace gln := fun d os => cell_regrown gln d os
      replace gld := fun d os => cell_regrown gld d os
      replace gpn := fun d os => cell_regrown gpn d os
      replace gpd := fun d os => cell_regrown gpd d os
      replace gqn := fun d os => cell_regrown gqn d os
      replace gqd := fun d os => cell_regrown gqd d os
      replace gtn := fun d os => cell_regrown gtn d os
      replace gtd := fun d os => cell_regrown gtd d os
      refine wp_region_quiet_below (by kernel_rfl) (by kernel_rfl) ?_
      repeat (quiet_step (first | (go_at_call 10; exact Calls.regrown_of (cmp_right _ _ _ _ (by assumption) (by assumption) _)) | (go_at_call 11; exact Calls.regrown_of (known_any _))))
      refine wpQuiet_nil ?_
      intro _ hw'
      obtain ⟨⟨dq, osq⟩, hw''⟩ := hw'
      subst hw''
      go_wp2
      go_ret
      exact ⟨rfl, below_via hB (below_regrown V10 dq osq) hB.size⟩
end Go.Proofs.Ytcloepkaieifpaa
