/- What came in: bytes, lists of texts, lists of entries. -/
import Derived.Test.YtdlkakkoaelemaaFMem
import Derived.ProofKit
import Derived.OpenShut
import Derived.Deep.Slices
namespace Go.Proofs.Ytdlkakkoaelemaa
open Go.ChangeShapes Go.WideShapes Go.ChangeAt Go.RowKit Go.Deep

theorem Try.cells5 : Try.prog.cellsOf 5 = 1 := by kernel_rfl
theorem Try.cells23 : Try.prog.cellsOf 23 = 1 := by kernel_rfl
theorem Try.cells4 : Try.prog.cellsOf 4 = 1 := by kernel_rfl
theorem Try.cells25 : Try.prog.cellsOf 25 = 3 := by kernel_rfl
theorem Try.laidOut : laidOutB Try.prog = true := by kernel_rfl
theorem Try.readable23 : Try.prog.readableRec 23 = true := by kernel_rfl
theorem Try.row23 : 23 < Try.prog.types.size := of_decide_eq_true (by kernel_rfl)
theorem Try.readable72 : Try.prog.readableRec 72 = true := by kernel_rfl
theorem Try.row72 : 72 < Try.prog.types.size := of_decide_eq_true (by kernel_rfl)
theorem Try.readable22 : Try.prog.readableRec 22 = true := by kernel_rfl
theorem Try.row22 : 22 < Try.prog.types.size := of_decide_eq_true (by kernel_rfl)
def fieldsOf (d : Option TypeDesc) : List (TypeId × Nat) := match d with | some (.struct fs) => fs.toList.map (fun f => (f.type, f.offset)) | _ => []
theorem fields28 : fieldsOf (Try.prog.underlying 25) = [(23, 0), (23, 1), (4, 2)] := by kernel_rfl
theorem und28 : ∃ fs : Array Field, Try.prog.underlying 25 = some (.struct fs) ∧ fs.toList.map (fun f => (f.type, f.offset)) = [(23, 0), (23, 1), (4, 2)] := by
  have h := fields28
  unfold fieldsOf at h
  split at h
  · rename_i fs e; exact ⟨fs, e, h⟩
  · cases h

theorem open_tx {H : Type} {enc : TypeId × Value → H} {W : World} {base : Nat} {v : Value} {d : DataW H} {p : List MemPlace} (hval : Value.okWide Try.prog W .any base 23 v) (h : DataW.Trod enc Try.prog W 0 (fun _ => true) true 23 v d p) :
    ∃ ao la ca xs, v = .slice ao la ca ∧ Tx W ao la ca xs := by
  obtain ⟨a1, len, cap, rfl⟩ := okWide_slice Try.underlying23 hval
  obtain ⟨fuel, hf⟩ := h
  rcases open_ints Try.underlying23 Try.underlying5 Try.cells5 hf with ⟨hcs, _⟩ | ⟨a, len', cap', zs, hcs, _, hl, hm, hz, _, hcell, hwz⟩
  · simp [Value.cells] at hcs
    obtain ⟨rfl, rfl, rfl⟩ := hcs
    exact ⟨none, 0, 0, [], rfl, Tx.nil W⟩
  · simp [Value.cells] at hcs
    obtain ⟨rfl, rfl, rfl⟩ := hcs
    simp only [if_true] at hz
    refine ⟨some a, len, cap, zs.take len, rfl, ⟨by simp; omega, hl, hm, fun h => (by cases h), fun ad ha j hj => ?_, fun n hn => ?_⟩⟩
    · cases ha
      rw [hcell j (by omega)]
      simp [List.getD, hj]
    · have := hwz n (List.mem_of_mem_take hn)
      simp [Lit.wf] at this
      have e1 : IntKind.u8.min = 0 := by decide
      have e2 : IntKind.u8.max = 255 := by decide
      omega

theorem tx_of_trod {H : Type} {enc : TypeId × Value → H} {W : World} {fuel : Nat} {v : Value} {x : DataW H × List MemPlace} (hf : DataW.trod enc Try.prog W 0 (fun _ => true) true fuel 23 [v] = some x) :
    ∃ ao la ca xs, v = .slice ao la ca ∧ Tx W ao la ca xs := by
  rcases open_ints Try.underlying23 Try.underlying5 Try.cells5 hf with ⟨hcs, _⟩ | ⟨a, len', cap', zs, hcs, _, hl, hm, hz, _, hcell, hwz⟩
  · simp at hcs
    subst hcs
    exact ⟨none, 0, 0, [], rfl, Tx.nil W⟩
  · simp at hcs
    subst hcs
    simp only [if_true] at hz
    refine ⟨some a, len', cap', zs.take len', rfl, ⟨by simp; omega, hl, hm, fun h => (by cases h), fun ad ha j hj => ?_, fun n hn => ?_⟩⟩
    · cases ha
      rw [hcell j (by omega)]
      simp [List.getD, hj]
    · have := hwz n (List.mem_of_mem_take hn)
      simp [Lit.wf] at this
      have e1 : IntKind.u8.min = 0 := by decide
      have e2 : IntKind.u8.max = 255 := by decide
      omega

theorem field_at {fs : Array Field} {l : List (TypeId × Nat)} (h : fs.toList.map (fun f => (f.type, f.offset)) = l) (i : Nat) (t : TypeId) (o : Nat) (hi : l[i]? = some (t, o)) : ∃ f, fs[i]? = some f ∧ f.type = t ∧ f.offset = o := by
  rw [← h] at hi
  simp at hi
  obtain ⟨f, hf, h1, h2⟩ := hi
  exact ⟨f, hf, h1, h2⟩

theorem ent_of_trod {H : Type} {enc : TypeId × Value → H} {W : World} {fuel : Nat} {cs : List Value} {x : DataW H × List MemPlace} (hf : DataW.trod enc Try.prog W 0 (fun _ => true) true fuel 25 cs = some x) :
    ∃ e : Ent, RE W [] cs e := by
  obtain ⟨fs, hu, hfs⟩ := und28
  obtain ⟨xs, n, _, _, hl, hlen, hx⟩ := DataW.trod_struct hu hf
  rw [Try.cells25] at hl
  have hsz : xs.length = 3 := by
    have := congrArg List.length hfs
    simp at this
    omega
  match cs, hl with
  | [k, v, g], _ =>
    obtain ⟨f0, a0, b0, c0⟩ := field_at hfs 0 23 0 rfl
    obtain ⟨f1, a1, b1, c1⟩ := field_at hfs 1 23 1 rfl
    obtain ⟨f2, a2, b2, c2⟩ := field_at hfs 2 4 2 rfl
    have h0 := hx 0 f0 a0
    have h1 := hx 1 f1 a1
    have h2 := hx 2 f2 a2
    rw [b0, c0, Try.cells23] at h0
    rw [b1, c1, Try.cells23] at h1
    rw [b2, c2, Try.cells4] at h2
    obtain ⟨y0, e0⟩ : ∃ y, xs[0]? = some y := ⟨_, List.getElem?_eq_getElem (by omega)⟩
    obtain ⟨y1, e1⟩ : ∃ y, xs[1]? = some y := ⟨_, List.getElem?_eq_getElem (by omega)⟩
    obtain ⟨y2, e2⟩ : ∃ y, xs[2]? = some y := ⟨_, List.getElem?_eq_getElem (by omega)⟩
    rw [e0] at h0
    rw [e1] at h1
    rw [e2] at h2
    simp at h0 h1 h2
    obtain ⟨ko, kl, kc, kx, rfl, tk⟩ := tx_of_trod h0
    obtain ⟨vo, vl, vc, vx, rfl, tv⟩ := tx_of_trod h1
    obtain ⟨b, hb, _⟩ := DataW.trod_bool Try.underlying4 h2
    simp at hb
    subst hb
    exact ⟨⟨kx, vx, b⟩, _, _, rfl, tk.at [] (by simp), tv.at [] (by simp)⟩

theorem open_bx {H : Type} {enc : TypeId × Value → H} {W : World} {base : Nat} {v : Value} {d : DataW H} {p : List MemPlace} (hval : Value.okWide Try.prog W .any base 72 v) (h : DataW.Trod enc Try.prog W 0 (fun _ => true) true 72 v d p) :
    ∃ ao la ca xs, v = .slice ao la ca ∧ Lx 1 RB W ao la ca xs := by
  obtain ⟨a1, len, cap, rfl⟩ := okWide_slice Try.underlying72 hval
  obtain ⟨fuel, hf⟩ := h
  rcases open_slice1 Try.underlying72 Try.cells23 hf with ⟨hcs, _⟩ | ⟨a, len', cap', m, n, V, D, Pl, hcs, _, hl, hm, hmm, _, hx⟩
  · simp [Value.cells] at hcs
    obtain ⟨rfl, rfl, rfl⟩ := hcs
    exact ⟨none, 0, 0, [], rfl, Lx.nil _ _ _⟩
  · simp [Value.cells] at hcs
    obtain ⟨rfl, rfl, rfl⟩ := hcs
    simp only [if_true] at hmm
    have hall : ∀ i, ∃ xs : List Int, i < len → RB W [] [V i] xs := by
      intro i
      by_cases hi : i < len
      · obtain ⟨hc, ht⟩ := hx i (by omega)
        obtain ⟨eo, el, ec, xs, hv, t⟩ := tx_of_trod ht
        exact ⟨xs, fun _ => ⟨_, rfl, by rw [hv]; exact t.at [] (by simp)⟩⟩
      · exact ⟨[], fun h => absurd h hi⟩
    obtain ⟨f, hall⟩ := Classical.skolem.1 hall
    refine ⟨some a, len, cap, (List.range len).map f, rfl, ⟨by simp, hl, hm, fun h => (by cases h), fun ad ha j e he => ?_⟩⟩
    cases ha
    have hj : j < len := by have := (List.getElem?_eq_some_iff.1 he).1; simpa using this
    simp [hj] at he
    subst he
    refine ⟨[V j], fun i x hx' => ?_, hall j hj⟩
    have hi : i = 0 := by have := (List.getElem?_eq_some_iff.1 hx').1; simp at this; omega
    subst hi
    simp at hx'
    subst hx'
    rw [Nat.mul_one, Nat.add_zero]
    exact (hx j (by omega)).1

theorem add_add (a : Addr) (i j : Nat) : (a.add i).add j = a.add (i + j) := by
  by_cases hj : j = 0
  · subst hj; simp [Addr.add]
  · by_cases hi : i = 0
    · subst hi; simp [Addr.add]
    · simp [Addr.add, hi, hj, Nat.add_assoc]

theorem open_ex {H : Type} {enc : TypeId × Value → H} {W : World} {base : Nat} {v : Value} {d : DataW H} {p : List MemPlace} (hval : Value.okWide Try.prog W .any base 22 v) (h : DataW.Trod enc Try.prog W 0 (fun _ => true) true 22 v d p) :
    ∃ ao la ca xs, v = .slice ao la ca ∧ Lx 3 RE W ao la ca xs := by
  obtain ⟨a1, len, cap, rfl⟩ := okWide_slice Try.underlying22 hval
  obtain ⟨fuel, hf⟩ := h
  rcases open_slice Try.underlying22 hf with ⟨hcs, _⟩ | ⟨a, len', cap', m, n, D, Pl, hcs, _, hl, hm, hmm, _, hx⟩
  · simp [Value.cells] at hcs
    obtain ⟨rfl, rfl, rfl⟩ := hcs
    exact ⟨none, 0, 0, [], rfl, Lx.nil _ _ _⟩
  · simp [Value.cells] at hcs
    obtain ⟨rfl, rfl, rfl⟩ := hcs
    simp only [if_true] at hmm
    rw [Try.cells25] at hx
    have hall : ∀ i, ∃ e : Ent, i < len → ∃ u : List Value, (∀ (k : Nat) (x : Value), u[k]? = some x → W.cell? (a.add (i * 3 + k)) = some x) ∧ RE W [] u e := by
      intro i
      by_cases hi : i < len
      · obtain ⟨cs', hc, ht⟩ := hx i (by omega)
        obtain ⟨e, he⟩ := ent_of_trod ht
        obtain ⟨_, hcl, hcell⟩ := World.cells?_some hc
        exact ⟨e, fun _ => ⟨cs', fun k x hk => by
          have hk3 : k < 3 := by have := (List.getElem?_eq_some_iff.1 hk).1; omega
          rw [← add_add, hcell k hk3]; exact hk, he⟩⟩
      · exact ⟨⟨[], [], false⟩, fun h => absurd h hi⟩
    obtain ⟨f, hall⟩ := Classical.skolem.1 hall
    refine ⟨some a, len, cap, (List.range len).map f, rfl, ⟨by simp, hl, hm, fun h => (by cases h), fun ad ha j e he => ?_⟩⟩
    cases ha
    have hj : j < len := by have := (List.getElem?_eq_some_iff.1 he).1; simpa using this
    simp [hj] at he
    subst he
    exact hall j hj

end Go.Proofs.Ytdlkakkoaelemaa
