/- The walks of cmp.Compare and rat.Cmp. -/
import Derived.Test.YtcloepkaieifpaaDoorWalksA
import Derived.Deep.RegionHeld3
namespace Go.Proofs.YtcloepkaieifpaaDoor
open Go.RowKit

theorem compare_any (a b : Int) (w : World) :
    Calls Tryd.prog 40 #[.int .i64 a, .int .i64 b] w fun e w' => e = .returned (.int .i64 (cmpI a b)) ∧ w' = w := by
  by_cases h : a < b
  · have hc : cmpI a b = -1 := by unfold cmpI; simp [h]
    go_enter Tryd.func40, Tryd.ntmps40
    go_wp2
    go_ret
    exact ⟨by first | rfl | (rw [hc]; rfl), rfl⟩
  by_cases h' : b < a
  · have hc : cmpI a b = 1 := by unfold cmpI; simp [h, h']
    go_enter Tryd.func40, Tryd.ntmps40
    go_wp2
    go_ret
    exact ⟨by first | rfl | (rw [hc]; rfl), rfl⟩
  · have hc : cmpI a b = 0 := by unfold cmpI; simp [h, h']
    go_enter Tryd.func40, Tryd.ntmps40
    go_wp2
    go_ret
    exact ⟨by first | rfl | (rw [hc]; rfl), rfl⟩

theorem cmp_right (an ad bn bd : Int) (ha : rightB an ad = true) (hb : rightB bn bd = true) (w : World) :
    Calls Tryd.prog 26 #[.agg #[.int .i64 an, .int .i64 ad], .agg #[.int .i64 bn, .int .i64 bd]] w fun e w' => e = .returned (.int .i64 (cmpI (an * bd) (bn * ad))) ∧ Below w.heap.size w w' := by
  obtain ⟨a1, a2, a3, a4, -⟩ := (rightB_iff an ad).1 ha
  obtain ⟨b1, b2, b3, b4, -⟩ := (rightB_iff bn bd).1 hb
  obtain ⟨p1, p2⟩ := mul_bd 2147483647 2147483647 an bd (by omega) (by omega) (by omega) (by omega)
  obtain ⟨p3, p4⟩ := mul_bd 2147483647 2147483647 bn ad (by omega) (by omega) (by omega) (by omega)
  go_enter Tryd.func26, Tryd.ntmps26
  go_wp2
  go_region_held3 (fun w' => w'.cell? ⟨w.heap.size, 0, none⟩ = some (.int .i64 an) ∧ w'.cell? ⟨w.heap.size, 1, none⟩ = some (.int .i64 ad) ∧ w'.cell? ⟨w.heap.size + 1, 0, none⟩ = some (.int .i64 bn) ∧ w'.cell? ⟨w.heap.size + 1, 1, none⟩ = some (.int .i64 bd)) (simp [go_sem, World.cell?_alloc_past])
    (first
      | (go_at_call 17; refine (right_any _ _ (by omega) (by omega) (by omega) (by omega) _).mono ?_; rintro e w' ⟨rfl, m, rfl⟩))
  go_wp2_with (go_at_call 40; refine (compare_any _ _ _).mono ?_; rintro e w' ⟨rfl, rfl⟩)
  go_ret
  exact ⟨rfl, by repeat (first | exact Below.refl _ _ | refine below_drewN ?_ _ | refine Below.setCell ?_ (by first | omega | (simp <;> omega)) _ | refine Below.alloc ?_ (by first | omega | (simp <;> omega)) _ | refine Below.drew ?_)⟩
end Go.Proofs.YtcloepkaieifpaaDoor
