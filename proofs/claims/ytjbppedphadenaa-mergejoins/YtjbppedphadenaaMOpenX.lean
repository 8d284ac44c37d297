/- Lists of lists of entries that came in. -/
import Derived.Test.YtjbppedphadenaaMKeep
import Derived.Test.YtjbppedphadenaaPC
namespace Go.Proofs.Ytjbppedphadenaa
set_option maxRecDepth 100000
open Go.ChangeShapes Go.WideShapes Go.ChangeAt Go.RowKit Go.Deep

theorem Try.cells23 : Try.prog.cellsOf 23 = 1 := by kernel_rfl
theorem Try.readable22 : Try.prog.readableRec 22 = true := by kernel_rfl
theorem Try.row22 : 22 < Try.prog.types.size := of_decide_eq_true (by kernel_rfl)

/-- A list of entries as an element. -/
def RL : Reads (List Ent) := fun w S u es => ∃ ao l c, u = [.slice ao l c] ∧ Lv 3 RE S w ao l c es
theorem RL.stable : Stable RL := by
  rintro w w' S S' u es ⟨ao, l, c, hu, h⟩ ho hs
  exact ⟨ao, l, c, hu, h.off RE.stable RE.plain (by omega) ho hs⟩
theorem RL.plain : Plain 1 RL := by
  rintro w S u es ⟨ao, l, c, rfl, h⟩
  exact ⟨rfl, by simp [Value.oneCell']⟩
theorem Lx.headL {w : World} {ao : Option Addr} {len cap : Nat} {l : List (List Ent)} (h : Lx 1 RL w ao len cap l) (h0 : 0 < len) :
    ∃ b off, ao = some ⟨b, off, none⟩ ∧ ∀ (j : Nat) (es : List Ent), l[j]? = some es → ∃ eo el ec, w.cell? ⟨b, off + j, none⟩ = some (.slice eo el ec) ∧ Lx 3 RE w eo el ec es := by
  obtain ⟨b, off, rfl, hc⟩ := h.head RL.plain (by omega) h0
  refine ⟨b, off, rfl, fun j es he => ?_⟩
  obtain ⟨u, h1, eo, el, ec, rfl, h2⟩ := hc j es he
  exact ⟨eo, el, ec, by simpa using h1 0 _ rfl, h2.read RE.stable⟩
set_option maxRecDepth 100000 in
theorem ents_of_trod {H : Type} {enc : TypeId × Value → H} {W : World} {fuel : Nat} {v : Value} {y : DataW H × List MemPlace} (hf : DataW.trod enc Try.prog W 0 (fun _ => true) true fuel 23 [v] = some y) :
    ∃ ao la ca xs, v = .slice ao la ca ∧ Lx 3 RE W ao la ca xs := by
  rcases open_slice Try.underlying23 hf with ⟨hcs, _⟩ | ⟨a, len, cap, m, n, D, Pl, hcs, _, hl, hm, hmm, _, hx⟩
  · simp at hcs
    subst hcs
    exact ⟨none, 0, 0, [], rfl, Lx.nil _ _ _⟩
  · simp at hcs
    subst hcs
    simp only [if_true] at hmm
    rw [Try.cells26] at hx
    have hall : ∀ i, ∃ e : Ent, i < len → ∃ u : List Value, (∀ (k : Nat) (x : Value), u[k]? = some x → W.cell? (a.add (i * 3 + k)) = some x) ∧ RE W [] u e := by
      intro i
      by_cases hi : i < len
      · obtain ⟨cs', hc, ht⟩ := hx i (by omega)
        obtain ⟨e, he⟩ := ent_of_trod ht
        obtain ⟨_, hcl, hcell⟩ := World.cells?_some hc
        exact ⟨e, fun _ => ⟨cs', fun k x hk => by
          have hk3 : k < 3 := by have := (List.getElem?_eq_some_iff.1 hk).1; omega
          rw [← add_add, hcell k hk3]; exact hk, he⟩⟩
      · exact ⟨⟨[], [], false⟩, fun h => absurd h hi⟩
    obtain ⟨f, hall⟩ := Classical.skolem.1 hall
    refine ⟨some a, len, cap, (List.range len).map f, rfl, ⟨by simp, hl, hm, fun h => (by cases h), fun ad ha j e he => ?_⟩⟩
    cases ha
    have hj : j < len := by have := (List.getElem?_eq_some_iff.1 he).1; simpa using this
    simp [hj] at he
    subst he
    exact hall j hj
set_option maxRecDepth 100000 in
theorem open_lx {H : Type} {enc : TypeId × Value → H} {W : World} {base : Nat} {v : Value} {d : DataW H} {p : List MemPlace} (hval : Value.okWide Try.prog W .any base 22 v) (h : DataW.Trod enc Try.prog W 0 (fun _ => true) true 22 v d p) :
    ∃ ao la ca xs, v = .slice ao la ca ∧ Lx 1 RL W ao la ca xs := by
  obtain ⟨a1, len, cap, rfl⟩ := okWide_slice Try.underlying22 hval
  obtain ⟨fuel, hf⟩ := h
  rcases open_slice1 Try.underlying22 Try.cells23 hf with ⟨hcs, _⟩ | ⟨a, len', cap', m, n, V, D, Pl, hcs, _, hl, hm, hmm, _, hx⟩
  · simp [Value.cells] at hcs
    obtain ⟨rfl, rfl, rfl⟩ := hcs
    exact ⟨none, 0, 0, [], rfl, Lx.nil _ _ _⟩
  · simp [Value.cells] at hcs
    obtain ⟨rfl, rfl, rfl⟩ := hcs
    simp only [if_true] at hmm
    have hall : ∀ i, ∃ xs : List Ent, i < len → RL W [] [V i] xs := by
      intro i
      by_cases hi : i < len
      · obtain ⟨hc, ht⟩ := hx i (by omega)
        obtain ⟨eo, el, ec, xs, hv, t⟩ := ents_of_trod ht
        exact ⟨xs, fun _ => ⟨eo, el, ec, by rw [hv], t.low [] (by simp)⟩⟩
      · exact ⟨[], fun h => absurd h hi⟩
    obtain ⟨f, hall⟩ := Classical.skolem.1 hall
    refine ⟨some a, len, cap, (List.range len).map f, rfl, ⟨by simp, hl, hm, fun h => (by cases h), fun ad ha j e he => ?_⟩⟩
    cases ha
    have hj : j < len := by have := (List.getElem?_eq_some_iff.1 he).1; simpa using this
    simp [hj] at he
    subst he
    refine ⟨[V j], fun i x hx' => ?_, hall j hj⟩
    have hi : i = 0 := by have := (List.getElem?_eq_some_iff.1 hx').1; simp at this; omega
    subst hi
    simp at hx'
    subst hx'
    rw [Nat.mul_one, Nat.add_zero]
    exact (hx j (by omega)).1

end Go.Proofs.Ytjbppedphadenaa
