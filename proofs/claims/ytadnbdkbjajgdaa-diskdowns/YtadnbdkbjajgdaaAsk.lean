/- Lists of calls that came in. -/
import Derived.Test.YtadnbdkbjajgdaaOpen
import Derived.Deep.Slices
namespace Go.Proofs.Ytadnbdkbjajgdaa
open Go.ChangeShapes Go.WideShapes Go.ChangeAt Go.RowKit Go.Deep

theorem Try.cells9 : Try.prog.cellsOf 9 = 1 := by kernel_rfl
theorem Try.cells31a : Try.prog.cellsOf 31 = 1 := by kernel_rfl
theorem Try.cells33 : Try.prog.cellsOf 33 = 6 := by kernel_rfl
theorem Try.readable34 : Try.prog.readableRec 34 = true := by kernel_rfl
theorem Try.row34 : 34 < Try.prog.types.size := of_decide_eq_true (by kernel_rfl)
def fieldsOf (d : Option TypeDesc) : List (TypeId × Nat) := match d with | some (.struct fs) => fs.toList.map (fun f => (f.type, f.offset)) | _ => []
theorem fields33 : fieldsOf (Try.prog.underlying 33) = [(3, 0), (3, 1), (3, 2), (3, 3), (31, 4), (9, 5)] := by kernel_rfl
theorem und33 : ∃ fs : Array Field, Try.prog.underlying 33 = some (.struct fs) ∧ fs.toList.map (fun f => (f.type, f.offset)) = [(3, 0), (3, 1), (3, 2), (3, 3), (31, 4), (9, 5)] := by
  have h := fields33
  unfold fieldsOf at h
  split at h
  · rename_i fs e; exact ⟨fs, e, h⟩
  · cases h

/-- A call that is asked for. -/
structure Ask where
  kind : Int
  f : Int
  g : Int
  n : Int
  b : List Int
  s : ByteArray

def i64ok (n : Int) : Prop := -9223372036854775808 ≤ n ∧ n ≤ 9223372036854775807
structure Ask.Ok (a : Ask) : Prop where
  kind : i64ok a.kind
  f : i64ok a.f
  g : i64ok a.g
  n : i64ok a.n
  s : a.s.size ≤ 9223372036854775807

/-- Six cells that read as this call. -/
structure AskAt (w : World) (c : Nat → Option Value) (a : Ask) : Prop where
  ok : a.Ok
  c0 : c 0 = some (.int .i64 a.kind)
  c1 : c 1 = some (.int .i64 a.f)
  c2 : c 2 = some (.int .i64 a.g)
  c3 : c 3 = some (.int .i64 a.n)
  c4 : ∃ bo bl bc, c 4 = some (.slice bo bl bc) ∧ Tx w bo bl bc a.b
  c5 : c 5 = some (.string a.s)

structure Ax (w : World) (ao : Option Addr) (len cap : Nat) (zs : List Ask) : Prop where
  len_eq : zs.length = len
  le : len ≤ cap
  top : cap ≤ maxLen
  bare : ao = none → len = 0 ∧ cap = 0
  cell : ∀ ad, ao = some ad → ∀ j a, zs[j]? = some a → AskAt w (fun i => w.cell? (ad.add (j * 6 + i))) a

theorem AskAt.later {w w' : World} {o : Nat → Addr} {a : Ask} (h : AskAt w (fun i => w.cell? (o i)) a) (hb : Below w.heap.size w w') : AskAt w' (fun i => w'.cell? (o i)) a := by
  obtain ⟨bo, bl, bc, h4, t⟩ := h.c4
  exact ⟨h.ok, cell_later hb h.c0, cell_later hb h.c1, cell_later hb h.c2, cell_later hb h.c3, ⟨bo, bl, bc, cell_later hb h4, t.later hb⟩, cell_later hb h.c5⟩
theorem Ax.later {w w' : World} {ao : Option Addr} {len cap : Nat} {zs : List Ask} (h : Ax w ao len cap zs) (hb : Below w.heap.size w w') : Ax w' ao len cap zs :=
  ⟨h.len_eq, h.le, h.top, h.bare, fun ad ha j a hj => (h.cell ad ha j a hj).later hb⟩
theorem Ax.head {w : World} {ao : Option Addr} {len cap : Nat} {zs : List Ask} (h : Ax w ao len cap zs) (h0 : 0 < len) :
    ∃ b off, ao = some ⟨b, off, none⟩ ∧ ∀ j a, zs[j]? = some a → a.Ok ∧ w.cell? ⟨b, off + j * 6, none⟩ = some (.int .i64 a.kind) ∧ w.cell? ⟨b, off + j * 6 + 1, none⟩ = some (.int .i64 a.f) ∧ w.cell? ⟨b, off + j * 6 + 2, none⟩ = some (.int .i64 a.g) ∧ w.cell? ⟨b, off + j * 6 + 3, none⟩ = some (.int .i64 a.n) ∧ (∃ bo bl bc, w.cell? ⟨b, off + j * 6 + 4, none⟩ = some (.slice bo bl bc) ∧ Tx w bo bl bc a.b) ∧ w.cell? ⟨b, off + j * 6 + 5, none⟩ = some (.string a.s) := by
  cases ao with
  | none => have := h.bare rfl; omega
  | some ad =>
    obtain ⟨b, off, spot⟩ := ad
    have hl := h.len_eq
    have h00 := (h.cell _ rfl 0 (zs[0]'(by omega)) (by simp)).c0
    have hspot : spot = none := by simpa [Addr.add] using World.cell?_spot h00
    subst hspot
    refine ⟨b, off, rfl, fun j a hj => ?_⟩
    have q := h.cell _ rfl j a hj
    obtain ⟨bo, bl, bc, h4, t⟩ := q.c4
    have e0 := q.c0
    have e1 := q.c1
    have e2 := q.c2
    have e3 := q.c3
    have e5 := q.c5
    simp only [Addr.add_lit, Nat.add_zero, ← Nat.add_assoc] at e0 e1 e2 e3 h4 e5
    exact ⟨q.ok, e0, e1, e2, e3, ⟨bo, bl, bc, h4, t⟩, e5⟩

theorem tx_of_trod {H : Type} {enc : TypeId × Value → H} {W : World} {fuel : Nat} {v : Value} {x : DataW H × List MemPlace} (hf : DataW.trod enc Try.prog W 0 (fun _ => true) true fuel 31 [v] = some x) :
    ∃ ao la ca xs, v = .slice ao la ca ∧ Tx W ao la ca xs := by
  rcases open_ints Try.underlying31 Try.underlying5 Try.cells5 hf with ⟨hcs, _⟩ | ⟨a, len', cap', zs, hcs, _, hl, hm, hz, _, hcell, hwz⟩
  · simp at hcs
    subst hcs
    exact ⟨none, 0, 0, [], rfl, Tx.nil W⟩
  · simp at hcs
    subst hcs
    simp only [if_true] at hz
    refine ⟨some a, len', cap', zs.take len', rfl, ⟨by simp; omega, hl, hm, fun h => (by cases h), fun ad ha j hj => ?_, fun n hn => ?_⟩⟩
    · cases ha
      rw [hcell j (by omega)]
      simp [List.getD, hj]
    · have := hwz n (List.mem_of_mem_take hn)
      simp [Lit.wf] at this
      have e1 : IntKind.u8.min = 0 := by decide
      have e2 : IntKind.u8.max = 255 := by decide
      omega

theorem field_at {fs : Array Field} {l : List (TypeId × Nat)} (h : fs.toList.map (fun f => (f.type, f.offset)) = l) (i : Nat) (t : TypeId) (o : Nat) (hi : l[i]? = some (t, o)) : ∃ f, fs[i]? = some f ∧ f.type = t ∧ f.offset = o := by
  rw [← h] at hi
  simp at hi
  obtain ⟨f, hf, h1, h2⟩ := hi
  exact ⟨f, hf, h1, h2⟩

theorem ask_of_trod {H : Type} {enc : TypeId × Value → H} {W : World} {fuel : Nat} {cs : List Value} {x : DataW H × List MemPlace} (hf : DataW.trod enc Try.prog W 0 (fun _ => true) true fuel 33 cs = some x) :
    ∃ a : Ask, AskAt W (fun i => cs[i]?) a := by
  obtain ⟨fs, hu, hfs⟩ := und33
  obtain ⟨xs, n, _, _, hl, hlen, hx⟩ := DataW.trod_struct hu hf
  rw [Try.cells33] at hl
  have hsz : xs.length = 6 := by
    have := congrArg List.length hfs
    simp at this
    omega
  match cs, hl with
  | [v0, v1, v2, v3, v4, v5], _ =>
    obtain ⟨f0, a0, b0, c0⟩ := field_at hfs 0 3 0 rfl
    obtain ⟨f1, a1, b1, c1⟩ := field_at hfs 1 3 1 rfl
    obtain ⟨f2, a2, b2, c2⟩ := field_at hfs 2 3 2 rfl
    obtain ⟨f3, a3, b3, c3⟩ := field_at hfs 3 3 3 rfl
    obtain ⟨f4, a4, b4, c4⟩ := field_at hfs 4 31 4 rfl
    obtain ⟨f5, a5, b5, c5⟩ := field_at hfs 5 9 5 rfl
    have h0 := hx 0 f0 a0
    have h1 := hx 1 f1 a1
    have h2 := hx 2 f2 a2
    have h3 := hx 3 f3 a3
    have h4 := hx 4 f4 a4
    have h5 := hx 5 f5 a5
    rw [b0, c0, Try.cells3] at h0
    rw [b1, c1, Try.cells3] at h1
    rw [b2, c2, Try.cells3] at h2
    rw [b3, c3, Try.cells3] at h3
    rw [b4, c4, Try.cells31a] at h4
    rw [b5, c5, Try.cells9] at h5
    obtain ⟨y0, e0⟩ : ∃ y, xs[0]? = some y := ⟨_, List.getElem?_eq_getElem (by omega)⟩
    obtain ⟨y1, e1⟩ : ∃ y, xs[1]? = some y := ⟨_, List.getElem?_eq_getElem (by omega)⟩
    obtain ⟨y2, e2⟩ : ∃ y, xs[2]? = some y := ⟨_, List.getElem?_eq_getElem (by omega)⟩
    obtain ⟨y3, e3⟩ : ∃ y, xs[3]? = some y := ⟨_, List.getElem?_eq_getElem (by omega)⟩
    obtain ⟨y4, e4⟩ : ∃ y, xs[4]? = some y := ⟨_, List.getElem?_eq_getElem (by omega)⟩
    obtain ⟨y5, e5⟩ : ∃ y, xs[5]? = some y := ⟨_, List.getElem?_eq_getElem (by omega)⟩
    rw [e0] at h0
    rw [e1] at h1
    rw [e2] at h2
    rw [e3] at h3
    rw [e4] at h4
    rw [e5] at h5
    simp at h0 h1 h2 h3 h4 h5
    obtain ⟨n0, q0, _, w0⟩ := DataW.trod_int Try.underlying3 h0
    obtain ⟨n1, q1, _, w1⟩ := DataW.trod_int Try.underlying3 h1
    obtain ⟨n2, q2, _, w2⟩ := DataW.trod_int Try.underlying3 h2
    obtain ⟨n3, q3, _, w3⟩ := DataW.trod_int Try.underlying3 h3
    obtain ⟨bo, bl, bc, bx, rfl, tb⟩ := tx_of_trod h4
    obtain ⟨s, q5, _, ws⟩ := DataW.trod_string Try.underlying9 h5
    simp at q0 q1 q2 q3 q5
    subst q0 q1 q2 q3 q5
    exact ⟨⟨n0, n1, n2, n3, bx, s⟩, ⟨bounds_i64 w0, bounds_i64 w1, bounds_i64 w2, bounds_i64 w3, by unfold maxLen at ws; exact ws⟩, rfl, rfl, rfl, rfl, ⟨bo, bl, bc, rfl, tb⟩, rfl⟩

theorem add_add (a : Addr) (i j : Nat) : (a.add i).add j = a.add (i + j) := by
  by_cases hj : j = 0
  · subst hj; simp [Addr.add]
  · by_cases hi : i = 0
    · subst hi; simp [Addr.add]
    · simp [Addr.add, hi, hj, Nat.add_assoc]

theorem open_ax {H : Type} {enc : TypeId × Value → H} {W : World} {base : Nat} {v : Value} {d : DataW H} {p : List MemPlace} (hval : Value.okWide Try.prog W .any base 34 v) (h : DataW.Trod enc Try.prog W 0 (fun _ => true) true 34 v d p) :
    ∃ ao la ca xs, v = .slice ao la ca ∧ Ax W ao la ca xs := by
  obtain ⟨a1, len, cap, rfl⟩ := okWide_slice Try.underlying34 hval
  obtain ⟨fuel, hf⟩ := h
  rcases open_slice Try.underlying34 hf with ⟨hcs, _⟩ | ⟨a, len', cap', m, n, D, Pl, hcs, _, hl, hm, hmm, _, hx⟩
  · simp [Value.cells] at hcs
    obtain ⟨rfl, rfl, rfl⟩ := hcs
    exact ⟨none, 0, 0, [], rfl, ⟨rfl, Nat.le_refl _, by unfold maxLen; omega, fun _ => ⟨rfl, rfl⟩, fun _ h => (by cases h)⟩⟩
  · simp [Value.cells] at hcs
    obtain ⟨rfl, rfl, rfl⟩ := hcs
    simp only [if_true] at hmm
    rw [Try.cells33] at hx
    have hall : ∀ i, ∃ e : Ask, i < len → AskAt W (fun k => W.cell? (a.add (i * 6 + k))) e := by
      intro i
      by_cases hi : i < len
      · obtain ⟨cs', hc, ht⟩ := hx i (by omega)
        obtain ⟨e, he⟩ := ask_of_trod ht
        obtain ⟨_, hcl, hcell⟩ := World.cells?_some hc
        have hk : ∀ k (x : Value), k < 6 → cs'[k]? = some x → W.cell? (a.add (i * 6 + k)) = some x := fun k x hk6 hk => by rw [← add_add, hcell k hk6]; exact hk
        obtain ⟨bo, bl, bc, h4, t⟩ := he.c4
        exact ⟨e, fun _ => ⟨he.ok, hk 0 _ (by omega) he.c0, hk 1 _ (by omega) he.c1, hk 2 _ (by omega) he.c2, hk 3 _ (by omega) he.c3, ⟨bo, bl, bc, hk 4 _ (by omega) h4, t⟩, hk 5 _ (by omega) he.c5⟩⟩
      · exact ⟨⟨0, 0, 0, 0, [], ⟨#[]⟩⟩, fun h => absurd h hi⟩
    obtain ⟨f, hall⟩ := Classical.skolem.1 hall
    refine ⟨some a, len, cap, (List.range len).map f, rfl, ⟨by simp, hl, hm, fun h => (by cases h), fun ad ha j e he => ?_⟩⟩
    cases ha
    have hj : j < len := by have := (List.getElem?_eq_some_iff.1 he).1; simpa using this
    simp [hj] at he
    subst he
    exact hall j hj

end Go.Proofs.Ytadnbdkbjajgdaa
