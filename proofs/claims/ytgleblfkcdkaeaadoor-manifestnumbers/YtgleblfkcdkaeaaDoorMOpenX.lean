/- Lists of ints that came in: alone, in a list, in a variable of a list of tables. -/
import Derived.Test.YtgleblfkcdkaeaaDoorFOpen
import Derived.Test.YtgleblfkcdkaeaaDoorMRight
import Derived.Lib.SmallJoins
namespace Go.Proofs.YtgleblfkcdkaeaaDoor
open Go.ChangeShapes Go.WideShapes Go.ChangeAt Go.RowKit Go.Deep
open Go.Joins
set_option maxRecDepth 100000

theorem Tryd.cells3 : Tryd.prog.cellsOf 3 = 1 := by kernel_rfl
theorem Tryd.cells22 : Tryd.prog.cellsOf 22 = 1 := by kernel_rfl
theorem Tryd.cells24 : Tryd.prog.cellsOf 24 = 3 := by kernel_rfl
theorem Tryd.readable22 : Tryd.prog.readableRec 22 = true := by kernel_rfl
theorem Tryd.row22 : 22 < Tryd.prog.types.size := of_decide_eq_true (by kernel_rfl)
theorem Tryd.readable54 : Tryd.prog.readableRec 54 = true := by kernel_rfl
theorem Tryd.row54 : 54 < Tryd.prog.types.size := of_decide_eq_true (by kernel_rfl)
theorem Tryd.readable24 : Tryd.prog.readableRec 24 = true := by kernel_rfl
theorem Tryd.row24 : 24 < Tryd.prog.types.size := of_decide_eq_true (by kernel_rfl)

theorem ix_of_trod {H : Type} {enc : TypeId × Value → H} {W : World} {fuel : Nat} {v : Value} {x : DataW H × List MemPlace} (hf : DataW.trod enc Tryd.prog W 0 (fun _ => true) true fuel 22 [v] = some x) :
    ∃ ao la ca xs, v = .slice ao la ca ∧ Lx 1 RI W ao la ca xs := by
  rcases open_ints Tryd.underlying22 Tryd.underlying3 Tryd.cells3 hf with ⟨hcs, _⟩ | ⟨a, len', cap', zs, hcs, _, hl, hm, hz, _, hcell, hwz⟩
  · simp at hcs
    subst hcs
    exact ⟨none, 0, 0, [], rfl, Lx.nil _ _ _⟩
  · simp at hcs
    subst hcs
    simp only [if_true] at hz
    refine ⟨some a, len', cap', zs.take len', rfl, ⟨by simp; omega, hl, hm, fun h => (by cases h), fun ad ha j e he => ?_⟩⟩
    cases ha
    have hj := (List.getElem?_eq_some_iff.1 he).1
    simp only [List.length_take] at hj
    have hmem := List.mem_of_mem_take (List.mem_of_getElem? he)
    rw [List.getElem?_take, if_pos (by omega)] at he
    have hw := hwz e hmem
    simp [Lit.wf] at hw
    have e1 : IntKind.i64.min = -9223372036854775808 := by decide
    have e2 : IntKind.i64.max = 9223372036854775807 := by decide
    refine ⟨[.int .i64 e], fun i x hx => ?_, rfl, by unfold i64ok; omega⟩
    match i, hx with
    | 0, hx =>
      cases hx
      rw [Nat.mul_one, Nat.add_zero, hcell j (by omega)]
      simp [List.getD, he]

theorem open_il {H : Type} {enc : TypeId × Value → H} {W : World} {base : Nat} {v : Value} {d : DataW H} {p : List MemPlace} (hval : Value.okWide Tryd.prog W .any base 22 v) (h : DataW.Trod enc Tryd.prog W 0 (fun _ => true) true 22 v d p) :
    ∃ ao la ca xs, v = .slice ao la ca ∧ Lx 1 RI W ao la ca xs := by
  obtain ⟨a1, len, cap, rfl⟩ := okWide_slice Tryd.underlying22 hval
  obtain ⟨fuel, hf⟩ := h
  exact ix_of_trod hf

/-- A list of lists of ints. -/
structure Lr (w : World) (ao : Option Addr) (len cap : Nat) (xss : List (List Int)) : Prop where
  len_eq : xss.length = len
  le : len ≤ cap
  top : cap ≤ maxLen
  bare : ao = none → len = 0 ∧ cap = 0
  cell : ∀ ad, ao = some ad → ∀ (j : Nat) (xs : List Int), xss[j]? = some xs → ∃ eo el ec, w.cell? (ad.add j) = some (.slice eo el ec) ∧ Lx 1 RI w eo el ec xs
theorem Lr.later {w w' : World} {ao : Option Addr} {len cap : Nat} {xss : List (List Int)} (h : Lr w ao len cap xss) (hb : Below w.heap.size w w') : Lr w' ao len cap xss :=
  ⟨h.len_eq, h.le, h.top, h.bare, fun ad ha j xs hx => by
    obtain ⟨eo, el, ec, c, t⟩ := h.cell ad ha j xs hx
    exact ⟨eo, el, ec, cell_later hb c, t.later RI.stable hb⟩⟩
theorem Lr.head {w : World} {ao : Option Addr} {len cap : Nat} {xss : List (List Int)} (h : Lr w ao len cap xss) (h0 : 0 < len) :
    ∃ b off, ao = some ⟨b, off, none⟩ ∧ ∀ (j : Nat) (xs : List Int), xss[j]? = some xs → ∃ eo el ec, w.cell? ⟨b, off + j, none⟩ = some (.slice eo el ec) ∧ Lx 1 RI w eo el ec xs := by
  cases ao with
  | none => have := h.bare rfl; omega
  | some a =>
    obtain ⟨b, off, spot⟩ := a
    have hl := h.len_eq
    obtain ⟨eo, el, ec, c, _⟩ := h.cell _ rfl 0 (xss[0]'(by omega)) (by simp)
    have hspot : spot = none := by simpa [Addr.add] using World.cell?_spot c
    subst hspot
    refine ⟨b, off, rfl, fun j xs hx => ?_⟩
    obtain ⟨eo, el, ec, c, t⟩ := h.cell _ rfl j xs hx
    rw [Addr.add_lit] at c
    exact ⟨eo, el, ec, c, t⟩

theorem open_ilx {H : Type} {enc : TypeId × Value → H} {W : World} {base : Nat} {v : Value} {d : DataW H} {p : List MemPlace} (hval : Value.okWide Tryd.prog W .any base 54 v) (h : DataW.Trod enc Tryd.prog W 0 (fun _ => true) true 54 v d p) :
    ∃ ao la ca xs, v = .slice ao la ca ∧ Lr W ao la ca xs := by
  obtain ⟨a1, len, cap, rfl⟩ := okWide_slice Tryd.underlying54 hval
  obtain ⟨fuel, hf⟩ := h
  rcases open_slice1 Tryd.underlying54 Tryd.cells22 hf with ⟨hcs, _⟩ | ⟨a, len', cap', m, n, V, D, Pl, hcs, _, hl, hm, hmm, _, hx⟩
  · simp [Value.cells] at hcs
    obtain ⟨rfl, rfl, rfl⟩ := hcs
    exact ⟨none, 0, 0, [], rfl, ⟨rfl, Nat.le_refl _, by unfold maxLen; omega, fun _ => ⟨rfl, rfl⟩, fun _ h => (by cases h)⟩⟩
  · simp [Value.cells] at hcs
    obtain ⟨rfl, rfl, rfl⟩ := hcs
    simp only [if_true] at hmm
    have hall : ∀ i, ∃ xs : List Int, i < len → ∃ eo el ec, V i = .slice eo el ec ∧ Lx 1 RI W eo el ec xs := by
      intro i
      by_cases hi : i < len
      · obtain ⟨hc, ht⟩ := hx i (by omega)
        obtain ⟨eo, el, ec, xs, hv, t⟩ := ix_of_trod ht
        exact ⟨xs, fun _ => ⟨eo, el, ec, hv, t⟩⟩
      · exact ⟨[], fun h => absurd h hi⟩
    obtain ⟨f, hall⟩ := Classical.skolem.1 hall
    refine ⟨some a, len, cap, (List.range len).map f, rfl, ⟨by simp, hl, hm, fun h => (by cases h), fun ad ha j e he => ?_⟩⟩
    cases ha
    have hj : j < len := by have := (List.getElem?_eq_some_iff.1 he).1; simpa using this
    simp [hj] at he
    subst he
    obtain ⟨eo, el, ec, hv, t⟩ := hall j hj
    refine ⟨eo, el, ec, ?_, t⟩
    rw [← hv]
    exact (hx j (by omega)).1

theorem open_man {H : Type} {enc : TypeId × Value → H} {W : World} {base : Nat} {v : Value} {d : DataW H} {p : List MemPlace} (hval : Value.okWide Tryd.prog W .any base 24 v) (h : DataW.Trod enc Tryd.prog W 0 (fun _ => true) true 24 v d p) :
    ∃ ao la ca xs wal nxt, v = .agg #[.slice ao la ca, .int .i64 wal, .int .i64 nxt] ∧ Lx 1 RI W ao la ca xs ∧ i64ok wal ∧ i64ok nxt := by
  obtain ⟨c0, c1, c2, y0, y1, y2, n, rfl, _, _, h0, h1, h2⟩ := open_agg3 Tryd.underlying24 (by kernel_rfl) Tryd.cells24 hval h
  obtain ⟨ao, la, ca, xs, rfl, t⟩ := ix_of_trod h0
  obtain ⟨a1, e1, _, w1⟩ := DataW.trod_int Tryd.underlying3 h1
  obtain ⟨a2, e2, _, w2⟩ := DataW.trod_int Tryd.underlying3 h2
  simp at e1 e2
  subst e1 e2
  have b1 := bounds_i64 w1
  have b2 := bounds_i64 w2
  exact ⟨ao, la, ca, xs, a1, a2, rfl, t, b1, b2⟩
end Go.Proofs.YtgleblfkcdkaeaaDoor
