/- Lists of lists of entries, and lists of bools, that came in. -/
import Derived.Test.YtkbhhidmndhnoaaFOpen
import Derived.Test.YtkbhhidmndhnoaaWMem
namespace Go.Proofs.Ytkbhhidmndhnoaa
open Go.ChangeShapes Go.WideShapes Go.ChangeAt Go.RowKit Go.Deep

theorem Try.cells25 : Try.prog.cellsOf 25 = 1 := by kernel_rfl
theorem Try.readable26 : Try.prog.readableRec 26 = true := by kernel_rfl
theorem Try.row26 : 26 < Try.prog.types.size := of_decide_eq_true (by kernel_rfl)
theorem Try.readable50 : Try.prog.readableRec 50 = true := by kernel_rfl
theorem Try.row50 : 50 < Try.prog.types.size := of_decide_eq_true (by kernel_rfl)

set_option maxRecDepth 100000 in
theorem ents_of_trod {H : Type} {enc : TypeId × Value → H} {W : World} {fuel : Nat} {v : Value} {y : DataW H × List MemPlace} (hf : DataW.trod enc Try.prog W 0 (fun _ => true) true fuel 25 [v] = some y) :
    ∃ ao la ca xs, v = .slice ao la ca ∧ Lx 3 RE W ao la ca xs := by
  rcases open_slice Try.underlying25 hf with ⟨hcs, _⟩ | ⟨a, len, cap, m, n, D, Pl, hcs, _, hl, hm, hmm, _, hx⟩
  · simp at hcs
    subst hcs
    exact ⟨none, 0, 0, [], rfl, Lx.nil _ _ _⟩
  · simp at hcs
    subst hcs
    simp only [if_true] at hmm
    rw [Try.cells24] at hx
    have hall : ∀ i, ∃ e : Ent, i < len → ∃ u : List Value, (∀ (k : Nat) (x : Value), u[k]? = some x → W.cell? (a.add (i * 3 + k)) = some x) ∧ RE W [] u e := by
      intro i
      by_cases hi : i < len
      · obtain ⟨cs', hc, ht⟩ := hx i (by omega)
        obtain ⟨e, he⟩ := ent_of_trod ht
        obtain ⟨_, hcl, hcell⟩ := World.cells?_some hc
        exact ⟨e, fun _ => ⟨cs', fun k x hk => by
          have hk3 : k < 3 := by have := (List.getElem?_eq_some_iff.1 hk).1; omega
          rw [← add_add, hcell k hk3]; exact hk, he⟩⟩
      · exact ⟨⟨[], [], false⟩, fun h => absurd h hi⟩
    obtain ⟨f, hall⟩ := Classical.skolem.1 hall
    refine ⟨some a, len, cap, (List.range len).map f, rfl, ⟨by simp, hl, hm, fun h => (by cases h), fun ad ha j e he => ?_⟩⟩
    cases ha
    have hj : j < len := by have := (List.getElem?_eq_some_iff.1 he).1; simpa using this
    simp [hj] at he
    subst he
    exact hall j hj

set_option maxRecDepth 100000 in
theorem open_lx {H : Type} {enc : TypeId × Value → H} {W : World} {base : Nat} {v : Value} {d : DataW H} {p : List MemPlace} (hval : Value.okWide Try.prog W .any base 26 v) (h : DataW.Trod enc Try.prog W 0 (fun _ => true) true 26 v d p) :
    ∃ ao la ca xs, v = .slice ao la ca ∧ Lx 1 RL W ao la ca xs := by
  obtain ⟨a1, len, cap, rfl⟩ := okWide_slice Try.underlying26 hval
  obtain ⟨fuel, hf⟩ := h
  rcases open_slice1 Try.underlying26 Try.cells25 hf with ⟨hcs, _⟩ | ⟨a, len', cap', m, n, V, D, Pl, hcs, _, hl, hm, hmm, _, hx⟩
  · simp [Value.cells] at hcs
    obtain ⟨rfl, rfl, rfl⟩ := hcs
    exact ⟨none, 0, 0, [], rfl, Lx.nil _ _ _⟩
  · simp [Value.cells] at hcs
    obtain ⟨rfl, rfl, rfl⟩ := hcs
    simp only [if_true] at hmm
    have hall : ∀ i, ∃ xs : List Ent, i < len → RL W [] [V i] xs := by
      intro i
      by_cases hi : i < len
      · obtain ⟨hc, ht⟩ := hx i (by omega)
        obtain ⟨eo, el, ec, xs, hv, t⟩ := ents_of_trod ht
        exact ⟨xs, fun _ => ⟨eo, el, ec, by rw [hv], t.low [] (by simp)⟩⟩
      · exact ⟨[], fun h => absurd h hi⟩
    obtain ⟨f, hall⟩ := Classical.skolem.1 hall
    refine ⟨some a, len, cap, (List.range len).map f, rfl, ⟨by simp, hl, hm, fun h => (by cases h), fun ad ha j e he => ?_⟩⟩
    cases ha
    have hj : j < len := by have := (List.getElem?_eq_some_iff.1 he).1; simpa using this
    simp [hj] at he
    subst he
    refine ⟨[V j], fun i x hx' => ?_, hall j hj⟩
    have hi : i = 0 := by have := (List.getElem?_eq_some_iff.1 hx').1; simp at this; omega
    subst hi
    simp at hx'
    subst hx'
    rw [Nat.mul_one, Nat.add_zero]
    exact (hx j (by omega)).1

/-- The slice (ao, len, cap) reads as these bools in w. -/
structure Ox (w : World) (ao : Option Addr) (len cap : Nat) (xs : List Bool) : Prop where
  len_eq : xs.length = len
  le : len ≤ cap
  top : cap ≤ maxLen
  bare : ao = none → len = 0 ∧ cap = 0
  cell : ∀ ad, ao = some ad → ∀ j, j < len → w.cell? (ad.add j) = some (.bool (xs.getD j false))
theorem Ox.later {w w' : World} {ao : Option Addr} {len cap : Nat} {xs : List Bool} (h : Ox w ao len cap xs) (hb : Below w.heap.size w w') : Ox w' ao len cap xs :=
  ⟨h.len_eq, h.le, h.top, h.bare, fun ad ha j hj => cell_later hb (h.cell ad ha j hj)⟩
theorem Ox.head {w : World} {ao : Option Addr} {len cap : Nat} {xs : List Bool} (h : Ox w ao len cap xs) (h0 : 0 < len) :
    ∃ b off, ao = some ⟨b, off, none⟩ ∧ ∀ j, j < len → w.cell? ⟨b, off + j, none⟩ = some (.bool (xs.getD j false)) := by
  cases ao with
  | none => have := h.bare rfl; omega
  | some a =>
    obtain ⟨b, off, spot⟩ := a
    have hspot : spot = none := by simpa [Addr.add] using World.cell?_spot (h.cell _ rfl 0 h0)
    subst hspot
    exact ⟨b, off, rfl, fun j hj => by have := h.cell _ rfl j hj; rwa [Addr.add_lit] at this⟩

set_option maxRecDepth 100000 in
theorem open_ox {H : Type} {enc : TypeId × Value → H} {W : World} {base : Nat} {v : Value} {d : DataW H} {p : List MemPlace} (hval : Value.okWide Try.prog W .any base 50 v) (h : DataW.Trod enc Try.prog W 0 (fun _ => true) true 50 v d p) :
    ∃ ao la ca xs, v = .slice ao la ca ∧ Ox W ao la ca xs := by
  obtain ⟨a1, len, cap, rfl⟩ := okWide_slice Try.underlying50 hval
  obtain ⟨fuel, hf⟩ := h
  rcases open_slice1 Try.underlying50 Try.cells4 hf with ⟨hcs, _⟩ | ⟨a, len', cap', m, n, V, D, Pl, hcs, _, hl, hm, hmm, _, hx⟩
  · simp [Value.cells] at hcs
    obtain ⟨rfl, rfl, rfl⟩ := hcs
    exact ⟨none, 0, 0, [], rfl, ⟨rfl, Nat.le_refl _, by unfold maxLen; omega, fun _ => ⟨rfl, rfl⟩, fun _ h => (by cases h)⟩⟩
  · simp [Value.cells] at hcs
    obtain ⟨rfl, rfl, rfl⟩ := hcs
    simp only [if_true] at hmm
    have hall : ∀ i, ∃ b : Bool, i < len → V i = .bool b := by
      intro i
      by_cases hi : i < len
      · obtain ⟨hc, ht⟩ := hx i (by omega)
        obtain ⟨b, hb, _⟩ := DataW.trod_bool Try.underlying4 ht
        simp at hb
        exact ⟨b, fun _ => hb⟩
      · exact ⟨false, fun h => absurd h hi⟩
    obtain ⟨f, hall⟩ := Classical.skolem.1 hall
    refine ⟨some a, len, cap, (List.range len).map f, rfl, ⟨by simp, hl, hm, fun h => (by cases h), fun ad ha j hj => ?_⟩⟩
    cases ha
    rw [(hx j (by omega)).1, hall j hj]
    simp [List.getD, hj]

end Go.Proofs.Ytkbhhidmndhnoaa
