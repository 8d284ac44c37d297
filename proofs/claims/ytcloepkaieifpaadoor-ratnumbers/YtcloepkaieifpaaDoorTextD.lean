/- What the deferred function of rat.Parse does: of a panic it makes a refusal. -/
import Derived.Test.YtcloepkaieifpaaDoorTextC
import Derived.Test.YtcloepkaieifpaaDoorMust
import Derived.Defers
import Derived.Recover
namespace Go.Proofs.YtcloepkaieifpaaDoor
open Go.RowKit Go.Sort

/-- The call's two named results lie in the two blocks behind w: what they hold; nothing of w has turned. -/
structure Held (w V : World) (x y z : Value) : Prop where
  bel : Below w.heap.size w V
  room : w.heap.size + 2 ≤ V.heap.size
  c0 : V.cell? ⟨w.heap.size, 0, none⟩ = some x
  c1 : V.cell? ⟨w.heap.size, 1, none⟩ = some y
  c2 : V.cell? ⟨w.heap.size + 1, 0, none⟩ = some z
  f0 : V.frozen? ⟨w.heap.size, 0, none⟩ = false
  f1 : V.frozen? ⟨w.heap.size, 1, none⟩ = false
  f2 : V.frozen? ⟨w.heap.size + 1, 0, none⟩ = false

theorem Held.start (w : World) : Held w ((w.alloc (.cells #[.int .i64 0, .int .i64 0] 26)).alloc (.cells #[.int .i64 0] 31)) (.int .i64 0) (.int .i64 0) (.int .i64 0) :=
  ⟨((Below.refl _ _).alloc (Nat.le_refl _) _).alloc (by simp) _, by simp, by simp [go_sem], by simp [go_sem], by simp [go_sem], by simp [go_sem], by simp [go_sem], by simp [go_sem]⟩

theorem Held.step {w V V' : World} {x y z : Value} (h : Held w V x y z) (hb : Below V.heap.size V V') : Held w V' x y z := by
  have r := h.room
  have s := hb.size
  exact ⟨below_via h.bel hb h.bel.size, by omega, cell_later hb h.c0, cell_later hb h.c1, cell_later hb h.c2,
    (hb.frozen (p := ⟨w.heap.size, 0, none⟩) (by show w.heap.size < _; omega)).trans h.f0, (hb.frozen (p := ⟨w.heap.size, 1, none⟩) (by show w.heap.size < _; omega)).trans h.f1, (hb.frozen (p := ⟨w.heap.size + 1, 0, none⟩) (by show w.heap.size + 1 < _; omega)).trans h.f2⟩

theorem Held.set {w V : World} {x y z : Value} (h : Held w V x y z) (x' y' : Value) : Held w ((V.setCell ⟨w.heap.size, 0, none⟩ x').setCell ⟨w.heap.size, 1, none⟩ y') x' y' z := by
  have e1 : (V.setCell ⟨w.heap.size, 0, none⟩ x').cell? ⟨w.heap.size, 1, none⟩ = some y := by rw [World.cell?_setCell_other _ _ _ _ (by simp)]; exact h.c1
  refine ⟨(h.bel.setCell (p := ⟨w.heap.size, 0, none⟩) (by simp) _).setCell (p := ⟨w.heap.size, 1, none⟩) (by simp) _, by simpa using h.room, ?_, World.cell?_setCell_same _ _ _ e1, ?_, by simpa using h.f0, by simpa using h.f1, by simpa using h.f2⟩
  · rw [World.cell?_setCell_other _ _ _ _ (by simp)]; exact World.cell?_setCell_same _ _ _ h.c0
  · rw [World.cell?_setCell_other _ _ _ _ (by simp), World.cell?_setCell_other _ _ _ _ (by simp)]; exact h.c2
theorem Held.set3 {w V : World} {x y z : Value} (h : Held w V x y z) (z' : Value) : Held w (V.setCell ⟨w.heap.size + 1, 0, none⟩ z') x y z' := by
  refine ⟨h.bel.setCell (p := ⟨w.heap.size + 1, 0, none⟩) (by simp) _, by simpa using h.room, ?_, ?_, World.cell?_setCell_same _ _ _ h.c2, by simpa using h.f0, by simpa using h.f1, by simpa using h.f2⟩
  · rw [World.cell?_setCell_other _ _ _ _ (by simp)]; exact h.c0
  · rw [World.cell?_setCell_other _ _ _ _ (by simp)]; exact h.c1

theorem back_idle (w : World) (p q : Value) :
    CallsD Tryd.prog 33 #[p, q] .returning w fun e u' w' => e = .returned (.tuple #[]) ∧ u' = .returning ∧ w' = w := by
  refine callsD_of_wpS Tryd.func33 rfl fun c₀ cs hu => ?_
  apply wpS_seq
  apply wpS_region
  simp [wpOpsS, go_sem, recoverD, hu, Tryd.ntmps33, Exit.thenS]
  refine wpS_cond (t := false) (by simp [Act.eval, Array.replicate]) ?_
  simp only [Bool.false_eq_true, if_false]
  refine wpS_of_wp (wp_skip ?_)
  cases c₀
  simp_all [bodyPostS, results, Tryd.results33]

theorem back_panicking (w V : World) (x y z : Value) (h : Held w V x y z) (u : TypeId) (pv : Value) (older : List PanicEntry) :
    CallsD Tryd.prog 33 #[.pointer (some ⟨w.heap.size, 0, none⟩), .pointer (some ⟨w.heap.size + 1, 0, none⟩)] (.panicking ({ v := .iface u pv, recovered := false } :: older)) V fun e u' w' =>
      e = .returned (.tuple #[]) ∧ u' = .panicking ({ v := .iface u pv, recovered := true } :: older) ∧ Held w w' (.int .i64 0) (.int .i64 0) (.int .i64 12) := by
  have H := (h.set (.int .i64 0) (.int .i64 0)).set3 (.int .i64 12)
  obtain ⟨_, _, c0, c1, c2, f0, f1, f2⟩ := h
  refine callsD_of_wpS Tryd.func33 rfl fun c₀ cs hu => ?_
  apply wpS_seq
  apply wpS_region
  simp [wpOpsS, go_sem, recoverD, hu, Tryd.ntmps33, Exit.thenS]
  refine wpS_cond (t := true) (by simp [Act.eval, Array.replicate]) ?_
  simp only [if_true]
  apply wpS_region
  simp [wpOpsS, go_sem, c0, c1, c2, f0, f1, f2, bodyPostS, results, Tryd.results33]
  exact H
end Go.Proofs.YtcloepkaieifpaaDoor
