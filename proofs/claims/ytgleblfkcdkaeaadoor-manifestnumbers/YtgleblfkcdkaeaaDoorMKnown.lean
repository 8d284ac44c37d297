/- The chapter's runs: a list written is read; none is told of an empty disk; names of files. -/
import Derived.Test.YtgleblfkcdkaeaaDoorMBook
namespace Go.Proofs.YtgleblfkcdkaeaaDoor
set_option maxRecDepth 100000
open Go.RowKit Go.Sort

theorem readL_rec (m : Man) (h : m.Right) : readL (recL m.enc) = some m := by
  have hl : m.enc.length ≤ 1048576 := by rw [Man.enc_len]; have := h.1; omega
  have e : allL (recL m.enc) = ([m.enc], (recL m.enc).length, true) := by
    have := allL_row [m.enc] (fun x hx => by simp at hx; subst hx; exact hl)
    simpa [rowL] using this
  unfold readL
  rw [e, if_pos ⟨rfl, rfl, rfl⟩]
  exact decM_enc m h

instance (n : Int) : Decidable (i64ok n) := by unfold i64ok; infer_instance
theorem wrote_calm (lim : Nat) (l : List Fl) (x : Option (List Int × Nat)) (h : Stands l x) (b : List Int) (hr : b.length + len0 x ≤ lim) (hb : b.length ≤ 2000) :
    (⟨lim, l, 0, false⟩ : Dm).wrote b = (⟨lim, [fL b b.length], 0, false⟩, 0) := by
  rcases wrote_any h (Int.le_refl 0) hr hb with ⟨j, e, hj, _⟩ | ⟨_, _, _, h1, _⟩
  · rw [e, hj rfl]
  · omega
abbrev knownM : Man := ⟨[3, 1], 4, 5⟩
theorem known_right : knownM.Right := by decide

theorem lx_cells (w : World) (g : Nat) (xs : List Int) (cs : Array Value) (n : Nat) (hc : cs = (xs.map (Value.int .i64)).toArray) (hn : xs.length = n) (hm : n ≤ 1000000) (hr : ∀ x ∈ xs, i64ok x) (hg : w.heap[g]? = some (.cells cs 3 (0, 0))) : Lx 1 RI w (some ⟨g, 0, none⟩) n n xs := by
  subst hc
  refine ⟨hn, Nat.le_refl _, by unfold maxLen; omega, fun h => (by cases h), fun ad ha j e he => ?_⟩
  cases ha
  refine ⟨[.int .i64 e], fun i x hx => ?_, rfl, hr e (List.mem_of_getElem? he)⟩
  match i, hx with
  | 0, hx =>
    cases hx
    rw [Addr.add_lit, cell_of_row w g _ _ 3 (0, 0) hg]
    simpa using he

set_option maxHeartbeats 8000000 in
theorem known_any (w : World) : Calls Tryd.prog 17 #[] w fun e w' => e = .returned (.bool true) ∧ Below w.heap.size w w' := by
  go_enter Tryd.func17, Tryd.ntmps17
  go_wp2_with fail
  with_reducible refine (fresh_x w).mono ?_
  rintro e W1 ⟨rfl, x1, b1⟩
  obtain ⟨V, hV, xV, lV, mV, bV⟩ : ∃ V, V = (W1.alloc (.cells #[.int .i64 3, .int .i64 1] 3)).alloc (.cells #[.slice (some ⟨W1.heap.size, 0, none⟩) 2 2, .int .i64 4, .int .i64 5] 24) ∧ Dx w.heap.size [W1.heap.size + 1, W1.heap.size] V w.heap.size ⟨16777216, [], 0, false⟩ ∧ Lx 1 RI V (some ⟨W1.heap.size, 0, none⟩) 2 2 [3, 1] ∧ Mb V (W1.heap.size + 1) (.slice (some ⟨W1.heap.size, 0, none⟩) 2 2) (.int .i64 4) (.int .i64 5) ∧ Below w.heap.size w V := by
    have bA : Below W1.heap.size W1 (W1.alloc (.cells #[.int .i64 3, .int .i64 1] 3)) := (Below.refl _ _).alloc (Nat.le_refl _) _
    have bB : Below (W1.alloc (.cells #[.int .i64 3, .int .i64 1] 3)).heap.size (W1.alloc (.cells #[.int .i64 3, .int .i64 1] 3)) ((W1.alloc (.cells #[.int .i64 3, .int .i64 1] 3)).alloc (.cells #[.slice (some ⟨W1.heap.size, 0, none⟩) 2 2, .int .i64 4, .int .i64 5] 24)) := (Below.refl _ _).alloc (Nat.le_refl _) _
    have xA := x1.more bA (Nat.le_refl _) (by simp)
    have xB := xA.more (g := W1.heap.size + 1) bB (by simp) (by simp)
    have mB := Mb.new (W1.alloc (.cells #[.int .i64 3, .int .i64 1] 3)) (.slice (some ⟨W1.heap.size, 0, none⟩) 2 2) (.int .i64 4) (.int .i64 5)
    rw [show (W1.alloc (.cells #[.int .i64 3, .int .i64 1] 3)).heap.size = W1.heap.size + 1 by simp] at mB
    have lA := lx_cells (W1.alloc (.cells #[.int .i64 3, .int .i64 1] 3)) W1.heap.size [3, 1] _ 2 rfl rfl (by omega) (by decide) (heap_alloc_new _ _)
    exact ⟨_, rfl, xB, lA.later RI.stable bB, mB, below_trans (below_trans b1 bA) bB⟩
  have hw1 : i64ok 4 := by decide
  have hw2 : i64ok 5 := by decide
  have hcalm := wrote_calm 16777216 [] none st_none (recL knownM.enc) (by decide +kernel) (by decide +kernel)
  go_wp2_with fail
  rw [← hV]
  clear hV
  with_reducible refine (write_x xV (by simp) _ 2 2 [3, 1] 4 5 lV hw1 hw2 known_right _ 0 hcalm).mono ?_
  rintro e W3 ⟨rfl, x3, k3⟩
  have l3 := lV.kp k3 (fun ad ha _ => by cases ha; exact .inr (by simp))
  have c0 := k3.cell mV.c0 (.inr (by simp))
  have c1 := k3.cell mV.c1 (.inr (by simp))
  have c2 := k3.cell mV.c2 (.inr (by simp))
  have b3 := bV.trans (k3.below xV.size)
  have hrl := readL_rec knownM known_right
  go_wp2_with fail
  with_reducible refine (readm_some x3 (by simp) (get_l1 _ _) (by decide +kernel)).mono ?_
  rintro e W4 ⟨hcase, b4⟩
  rcases hcase with ⟨hn, _⟩ | ⟨m, v, hm, _, rfl, hv⟩
  · rw [show (fL (recL knownM.enc) (recL knownM.enc).length).data = recL knownM.enc from rfl, hrl] at hn
    cases hn
  rw [show (fL (recL knownM.enc) (recL knownM.enc).length).data = recL knownM.enc from rfl, hrl] at hm
  obtain rfl := Option.some.inj hm
  obtain ⟨bo, lb, cb, rfl, l4, _⟩ := hv
  simp only at l4 ⊢
  have hlb := l4.len_eq
  simp only [List.length_cons, List.length_nil] at hlb
  obtain rfl : lb = 2 := by omega
  clear hlb
  clear hrl hm hcalm x3 k3 xV x1 lV mV
  obtain ⟨U, hU, mU, bU, hUs⟩ : ∃ U, U = W4.alloc (.cells #[.slice bo 2 cb, .int .i64 4, .int .i64 5] 24) ∧ Mb U W4.heap.size (.slice bo 2 cb) (.int .i64 4) (.int .i64 5) ∧ Below W4.heap.size W4 U ∧ U.heap.size = W4.heap.size + 1 := ⟨_, rfl, Mb.new _ _ _ _, (Below.refl _ _).alloc (Nat.le_refl _) _, by simp⟩
  have b4U := below_trans b4 bU
  clear hUs
  go_wp2_with fail
  rw [← hU]
  clear hU
  with_reducible refine (fresh_x U).mono ?_
  rintro e U1 ⟨rfl, xU, b5⟩
  go_wp2_with fail
  with_reducible refine (readm_none xU (by simp) rfl).mono ?_
  rintro e U2 ⟨rfl, b6⟩
  have bb := below_trans b4U (below_trans b5 b6)
  have l6 := l3.later RI.stable bb
  have l7 := l4.later RI.stable (below_trans bU (below_trans b5 b6))
  have c0 := cell_later bb c0
  have c1 := cell_later bb c1
  have c2 := cell_later bb c2
  have m7 := mU.later (below_trans b5 b6)
  have d0 := m7.c0
  have d1 := m7.c1
  have d2 := m7.c2
  have hsize : U2.heap.size ≥ U.heap.size := (below_trans b5 b6).size
  have bU2 := b3.trans ((below_trans b4U (below_trans b5 b6)).mono b3.size)
  unfold nilMan
  clear l3 l4 b4U b4 bU b5 b6 bb xU mU m7 b3 b1 bV
  obtain ⟨X, hX, bX⟩ : ∃ X, X = U2.alloc (.cells #[.slice none 0 0, .int .i64 0, .int .i64 0] 24) ∧ Below U2.heap.size U2 X := ⟨_, rfl, (Below.refl _ _).alloc (Nat.le_refl _) _⟩
  have hsame := same_man _ bo 2 2 2 cb [3, 1] [3, 1] 4 5 4 5 X (l6.later RI.stable bX) (l7.later RI.stable bX) (by omega) (by omega)
  rw [show (decide (([3, 1] : List Int) = [3, 1]) && decide ((4 : Int) = 4) && decide ((5 : Int) = 5)) = true by decide] at hsame
  have c0 := fun o => cell_later ((Below.refl U2.heap.size U2).alloc (Nat.le_refl _) o) c0
  have c1 := fun o => cell_later ((Below.refl U2.heap.size U2).alloc (Nat.le_refl _) o) c1
  have c2 := fun o => cell_later ((Below.refl U2.heap.size U2).alloc (Nat.le_refl _) o) c2
  have d0 := fun o => cell_later ((Below.refl U2.heap.size U2).alloc (Nat.le_refl _) o) d0
  have d1 := fun o => cell_later ((Below.refl U2.heap.size U2).alloc (Nat.le_refl _) o) d1
  have d2 := fun o => cell_later ((Below.refl U2.heap.size U2).alloc (Nat.le_refl _) o) d2
  have bX2 := bU2.trans (bX.mono bU2.size)
  clear l6 l7 bU2
  go_wp2_with fail
  rw [← hX]
  clear hX
  with_reducible refine hsame.mono ?_
  rintro e X1 ⟨rfl, b8⟩
  go_wp2_with fail
  with_reducible refine (table12 X1).mono ?_
  rintro e X2 ⟨rfl, rfl⟩
  go_wp2_with fail
  with_reducible refine (wal0 X1).mono ?_
  rintro e X2 ⟨rfl, rfl⟩
  go_wp2
  go_ret
  exact ⟨rfl, bX2.trans (b8.mono bX2.size)⟩
end Go.Proofs.YtgleblfkcdkaeaaDoor
