/- Memory, block by block: lists of texts and of entries that a call makes, or that came in. -/
import Derived.Test.YtgleblfkcdkaeaaDoorFWalksA
import Derived.Test.YtgleblfkcdkaeaaDoorFMod2
import Derived.Deep.RegionHeldLaw
import Derived.Deep.AppendLies
import Derived.Maps.AppendAt
namespace Go.Proofs.YtgleblfkcdkaeaaDoor
open Go.RowKit

/-- All blocks that were there, but those of S, are as they were. -/
structure Off (S : List Nat) (w w' : World) : Prop where
  os : w'.os = w.os
  tape : w'.tape = w.tape
  output : w'.output = w.output
  size : w.heap.size ≤ w'.heap.size
  block : ∀ k, k < w.heap.size → k ∉ S → w'.heap[k]? = w.heap[k]?

theorem Off.refl (S : List Nat) (w : World) : Off S w w := ⟨rfl, rfl, rfl, Nat.le_refl _, fun _ _ _ => rfl⟩

theorem Off.of_below {S : List Nat} {w w' : World} (h : Below w.heap.size w w') : Off S w w' := ⟨h.os, h.tape, h.output, h.size, fun k hk _ => h.block k hk⟩

theorem Off.drew {S : List Nat} {a w : World} (h : Off S a w) : Off S a w.drew := ⟨h.os, h.tape, h.output, h.size, h.block⟩

theorem Off.drewN {S : List Nat} {a w : World} (h : Off S a w) (n : Nat) : Off S a (w.drewN n) := ⟨h.os, h.tape, h.output, h.size, h.block⟩

theorem Off.mono {S T : List Nat} {w w' : World} (h : Off S w w') (hs : ∀ k ∈ S, k ∈ T) : Off T w w' := ⟨h.os, h.tape, h.output, h.size, fun k hk hn => h.block k hk (fun e => hn (hs k e))⟩

theorem Off.trans {S : List Nat} {a b c : World} (h : Off S a b) (k : Off S b c) : Off S a c :=
  ⟨k.os.trans h.os, k.tape.trans h.tape, k.output.trans h.output, Nat.le_trans h.size k.size, fun i hi hn => (k.block i (Nat.lt_of_lt_of_le hi h.size) hn).trans (h.block i hi hn)⟩

theorem Off.setCell {S : List Nat} {a w : World} (h : Off S a w) {p : Addr} (hp : p.block ∈ S) (u : Value) : Off S a (w.setCell p u) :=
  h.trans ⟨rfl, rfl, rfl, by simp [World.setCell], fun k _ hn => Below.heap_setCell _ _ _ _ (fun e => hn (e ▸ hp))⟩

theorem Off.alloc {S : List Nat} {a w : World} (h : Off S a w) (o : Obj) : Off S a (w.alloc o) :=
  h.trans ⟨rfl, rfl, rfl, by simp, fun k hk _ => Below.heap_alloc _ _ _ hk⟩

theorem Off.grown {S : List Nat} {a w w' : World} {row : Option Nat} (h : Off S a w) (hg : w.grownBy w' row) (hr : ∀ k, row = some k → k ∈ S) : Off S a w' :=
  h.trans ⟨hg.os, hg.tape, hg.output, hg.size, fun k hk hn => hg.block k hk (fun e => hn (hr k e.symm))⟩

theorem Off.below {S : List Nat} {B : Nat} {w w' : World} (h : Off S w w') (hs : ∀ k ∈ S, B ≤ k) (hB : B ≤ w.heap.size) : Below B w w' :=
  ⟨h.os, h.tape, h.output, h.size, fun k hk => h.block k (by omega) (fun e => by have := hs k e; omega)⟩

theorem Off.cell {S : List Nat} {w w' : World} (h : Off S w w') {a : Addr} {v : Value} (hc : w.cell? a = some v) (hn : a.block ∉ S) : w'.cell? a = some v := by
  rw [World.cell?_of_block (w := w) (h.block a.block (World.block_lt_of_cell? _ _ hc) hn)]; exact hc

/-- A slice's own block, as a list. -/
def own (v : Value) : List Nat := v.ownBlock.toList

theorem rows_off {S : List Nat} {w w' : World} {e : TypeId} {size : Nat} {v : Value} {n : Nat} {xs : List Value} (h : w.ownsRow 0 e size v n xs) (ho : Off S w w') (hd : ∀ k ∈ own v, k ∉ S) : w'.ownsRow 0 e size v n xs := by
  refine ⟨h.1, ?_⟩
  rcases h.2 with h | ⟨g, cap, cur, rfl, hb, hg, r⟩
  · exact .inl h
  · exact .inr ⟨g, cap, cur, rfl, hb, by rw [ho.block g (Array.getElem?_eq_some_iff.1 hg).1 (hd g (by simp [own, Value.ownBlock]))]; exact hg, r⟩

theorem own_lt {w : World} {base : Nat} {e : TypeId} {size : Nat} {v : Value} {n : Nat} {xs : List Value} (h : w.ownsRow base e size v n xs) : ∀ k ∈ own v, k < w.heap.size ∧ base ≤ k := by
  rcases h.2 with ⟨rfl, _⟩ | ⟨g, cap, cur, rfl, hb, hg, r⟩
  · simp [own, Value.ownBlock]
  · intro k hk
    simp [own, Value.ownBlock] at hk
    subst hk
    exact ⟨(Array.getElem?_eq_some_iff.1 hg).1, hb⟩

theorem own_form {w : World} {base : Nat} {e : TypeId} {size : Nat} {v : Value} {n : Nat} {xs : List Value} (h : w.ownsRow base e size v n xs) : ∃ ao cap, v = .slice ao n cap := by
  rcases h.2 with ⟨rfl, rfl⟩ | ⟨g, cap, cur, rfl, _⟩
  · exact ⟨none, 0, rfl⟩
  · exact ⟨_, cap, rfl⟩

/-- The value is a slice that reads as xs, and lies in none of the blocks S. -/
def BytesAt (w : World) (S : List Nat) (v : Value) (xs : List Int) : Prop := ∃ ao l c, v = .slice ao l c ∧ Tx w ao l c xs ∧ ∀ ad, ao = some ad → 0 < l → ad.block ∉ S

theorem add_block (ad : Addr) (j : Nat) : (ad.add j).block = ad.block := by unfold Addr.add; split <;> rfl
theorem Tx.lt {w : World} {ao : Option Addr} {len cap : Nat} {xs : List Int} (h : Tx w ao len cap xs) (ad : Addr) (ha : ao = some ad) (h0 : 0 < len) : ad.block < w.heap.size := by
  have := World.block_lt_of_cell? _ _ (h.cell ad ha 0 h0)
  simpa [Addr.add] using this
theorem Tx.off {S : List Nat} {w w' : World} {ao : Option Addr} {len cap : Nat} {xs : List Int} (h : Tx w ao len cap xs) (ho : Off S w w') (hs : ∀ ad, ao = some ad → 0 < len → ad.block ∉ S) : Tx w' ao len cap xs :=
  ⟨h.len_eq, h.le, h.top, h.bare, fun ad ha j hj => ho.cell (h.cell ad ha j hj) (by rw [add_block]; exact hs ad ha (by omega)), h.rng⟩
theorem BytesAt.off {S S' : List Nat} {w w' : World} {v : Value} {xs : List Int} (h : BytesAt w S v xs) (ho : Off S w w') (hs : ∀ k ∈ S', k ∈ S ∨ w.heap.size ≤ k) : BytesAt w' S' v xs := by
  obtain ⟨ao, l, c, rfl, t, hn⟩ := h
  refine ⟨ao, l, c, rfl, t.off ho hn, fun ad ha h0 hk => ?_⟩
  rcases hs _ hk with e | e
  · exact hn ad ha h0 e
  · have := t.lt ad ha h0; omega
theorem Tx.at {w : World} {ao : Option Addr} {len cap : Nat} {xs : List Int} (h : Tx w ao len cap xs) (S : List Nat) (hs : ∀ ad, ao = some ad → 0 < len → ad.block ∉ S) : BytesAt w S (.slice ao len cap) xs := ⟨ao, len, cap, rfl, h, hs⟩

/-- How an element's cells read. -/
abbrev Reads (α : Type) := World → List Nat → List Value → α → Prop
def Stable {α : Type} (R : Reads α) : Prop := ∀ w w' S S' u e, R w S u e → Off S w w' → (∀ k ∈ S', k ∈ S ∨ w.heap.size ≤ k) → R w' S' u e
def RB : Reads (List Int) := fun w S u xs => ∃ v, u = [v] ∧ BytesAt w S v xs
def RE : Reads Ent := fun w S u e => ∃ k v, u = [k, v, .bool e.g] ∧ BytesAt w S k e.k ∧ BytesAt w S v e.v
theorem RB.stable : Stable RB := fun _ _ _ _ _ _ ⟨v, hu, h⟩ ho hs => ⟨v, hu, h.off ho hs⟩
theorem RE.stable : Stable RE := fun _ _ _ _ _ _ ⟨k, v, hu, h, h'⟩ ho hs => ⟨k, v, hu, h.off ho hs, h'.off ho hs⟩
def Plain {α : Type} (c : Nat) (R : Reads α) : Prop := ∀ w S u e, R w S u e → u.length = c ∧ ∀ x ∈ u, x.oneCell' = true
theorem BytesAt.one {w : World} {S : List Nat} {v : Value} {xs : List Int} (h : BytesAt w S v xs) : v.oneCell' = true := by
  obtain ⟨_, _, _, rfl, _⟩ := h; rfl
theorem RB.plain : Plain 1 RB := by
  rintro w S u e ⟨v, rfl, h⟩
  exact ⟨rfl, by simpa using h.one⟩
theorem RE.plain : Plain 3 RE := by
  rintro w S u e ⟨k, v, rfl, h, h'⟩
  refine ⟨rfl, fun x hx => ?_⟩
  simp at hx
  rcases hx with rfl | rfl | rfl
  · exact h.one
  · exact h'.one
  · rfl

/-- A list that the call makes: its row is owned, its elements lie elsewhere. -/
def Ls {α : Type} (T c : Nat) (R : Reads α) (w : World) (B : Nat) (v : Value) (es : List α) : Prop :=
  ∃ us : List (List Value), us.length = es.length ∧ w.ownsRow B T c v es.length us.flatten ∧ ∀ (i : Nat) (u : List Value) (e : α), us[i]? = some u → es[i]? = some e → R w (own v) u e

theorem Ls.nil {α : Type} (T c : Nat) (R : Reads α) (w : World) (B : Nat) : Ls T c R w B (.slice none 0 0) [] := ⟨[], rfl, ⟨by simp, .inl ⟨rfl, rfl⟩⟩, by simp⟩
theorem Ls.form {α : Type} {T c : Nat} {R : Reads α} {w : World} {B : Nat} {v : Value} {es : List α} (h : Ls T c R w B v es) : ∃ ao cap, v = .slice ao es.length cap := by
  obtain ⟨us, _, ho, _⟩ := h
  exact own_form ho
theorem Ls.lt {α : Type} {T c : Nat} {R : Reads α} {w : World} {B : Nat} {v : Value} {es : List α} (h : Ls T c R w B v es) : ∀ k ∈ own v, k < w.heap.size ∧ B ≤ k := by
  obtain ⟨us, _, ho, _⟩ := h
  exact own_lt ho
theorem rows_offB {S : List Nat} {w w' : World} {B : Nat} {e : TypeId} {size : Nat} {v : Value} {n : Nat} {xs : List Value} (h : w.ownsRow B e size v n xs) (ho : Off S w w') (hd : ∀ k ∈ own v, k ∉ S) : w'.ownsRow B e size v n xs := by
  refine ⟨h.1, ?_⟩
  rcases h.2 with h | ⟨g, cap, cur, rfl, hb, hg, r⟩
  · exact .inl h
  · exact .inr ⟨g, cap, cur, rfl, hb, by rw [ho.block g (Array.getElem?_eq_some_iff.1 hg).1 (hd g (by simp [own, Value.ownBlock]))]; exact hg, r⟩
/-- What is new, and what is written in S, leaves it, if S is none of its blocks: S below all that it is made of, or its own blocks told. -/
theorem Ls.later {α : Type} {T c : Nat} {R : Reads α} (hst : Stable R) {w w' : World} {B : Nat} {v : Value} {es : List α} (h : Ls T c R w B v es) (hb : Below w.heap.size w w') : Ls T c R w' B v es := by
  obtain ⟨us, h1, h2, h3⟩ := h
  exact ⟨us, h1, rows_offB (S := []) h2 (.of_below hb) (by simp), fun i u e hu he => hst _ _ _ _ _ _ (h3 i u e hu he) (.of_below hb) (fun k hk => .inl hk)⟩

theorem flat_at {c : Nat} : ∀ (us : List (List Value)) (j i : Nat) (u : List Value), (∀ u ∈ us, u.length = c) → us[j]? = some u → i < c → us.flatten[j * c + i]? = u[i]?
  | [], j, i, u, _, h, _ => by simp at h
  | x :: us, 0, i, u, hc, h, hi => by
    simp at h
    subst h
    have := hc x (by simp)
    simp only [List.flatten_cons, Nat.zero_mul, Nat.zero_add]
    rw [List.getElem?_append_left (by omega)]
  | x :: us, j + 1, i, u, hc, h, hi => by
    have hx := hc x (by simp)
    simp only [List.flatten_cons]
    rw [show (j + 1) * c + i = c + (j * c + i) by rw [Nat.add_mul]; omega, List.getElem?_append_right (by omega), hx, Nat.add_sub_cancel_left]
    exact flat_at us j i u (fun y hy => hc y (by simp [hy])) (by simpa using h) hi

/-- A list that is read. -/
structure Lx {α : Type} (c : Nat) (R : Reads α) (w : World) (ao : Option Addr) (len cap : Nat) (es : List α) : Prop where
  len_eq : es.length = len
  le : len ≤ cap
  top : cap ≤ maxLen
  bare : ao = none → len = 0 ∧ cap = 0
  cell : ∀ ad, ao = some ad → ∀ (j : Nat) (e : α), es[j]? = some e → ∃ u : List Value, (∀ (i : Nat) (x : Value), u[i]? = some x → w.cell? (ad.add (j * c + i)) = some x) ∧ R w [] u e

theorem Lx.nil {α : Type} (c : Nat) (R : Reads α) (w : World) : Lx c R w none 0 0 [] := ⟨rfl, Nat.le_refl _, by unfold maxLen; omega, fun _ => ⟨rfl, rfl⟩, fun _ h => (by cases h)⟩
theorem Lx.later {α : Type} {c : Nat} {R : Reads α} (hst : Stable R) {w w' : World} {ao : Option Addr} {len cap : Nat} {es : List α} (h : Lx c R w ao len cap es) (hb : Below w.heap.size w w') : Lx c R w' ao len cap es :=
  ⟨h.len_eq, h.le, h.top, h.bare, fun ad ha j e he => by
    obtain ⟨u, h1, h2⟩ := h.cell ad ha j e he
    exact ⟨u, fun i x hx => cell_later hb (h1 i x hx), hst _ _ _ _ _ _ h2 (.of_below hb) (fun k hk => .inl hk)⟩⟩
theorem Lx.take {α : Type} {c : Nat} {R : Reads α} {w : World} {ao : Option Addr} {len cap : Nat} {es : List α} (h : Lx c R w ao len cap es) (k : Nat) (hk : k ≤ len) : Lx c R w ao k cap (es.take k) := by
  refine ⟨by have := h.len_eq; simp; omega, by have := h.le; omega, h.top, fun ha => ⟨by have := h.bare ha; omega, (h.bare ha).2⟩, fun ad ha j e he => h.cell ad ha j e ?_⟩
  rw [List.getElem?_take] at he
  split at he
  · exact he
  · cases he
theorem Lx.head {α : Type} {c : Nat} {R : Reads α} (hp : Plain c R) (hc : 0 < c) {w : World} {ao : Option Addr} {len cap : Nat} {es : List α} (h : Lx c R w ao len cap es) (h0 : 0 < len) :
    ∃ b off, ao = some ⟨b, off, none⟩ ∧ ∀ (j : Nat) (e : α), es[j]? = some e → ∃ u : List Value, (∀ (i : Nat) (x : Value), u[i]? = some x → w.cell? ⟨b, off + (j * c + i), none⟩ = some x) ∧ R w [] u e := by
  cases ao with
  | none => have := h.bare rfl; omega
  | some a =>
    obtain ⟨b, off, spot⟩ := a
    have hl := h.len_eq
    obtain ⟨u, h1, h2⟩ := h.cell _ rfl 0 (es[0]'(by omega)) (by simp)
    obtain ⟨h3, _⟩ := hp _ _ _ _ h2
    have hspot : spot = none := by simpa [Addr.add] using World.cell?_spot (h1 0 (u[0]'(by omega)) (by simp))
    subst hspot
    refine ⟨b, off, rfl, fun j e he => ?_⟩
    obtain ⟨u, h1, h2⟩ := h.cell _ rfl j e he
    exact ⟨u, fun i x hx => by have := h1 i x hx; rwa [Addr.add_lit] at this, h2⟩

theorem Ls.read {α : Type} {T c : Nat} {R : Reads α} (hst : Stable R) (hp : Plain c R) {w : World} {B : Nat} {v : Value} {es : List α} (h : Ls T c R w B v es) : ∃ ao cap, v = .slice ao es.length cap ∧ Lx c R w ao es.length cap es := by
  obtain ⟨us, h1, h2, h3⟩ := h
  have hu : ∀ u ∈ us, u.length = c := by
    intro u hu
    obtain ⟨i, hi, rfl⟩ := List.getElem_of_mem hu
    exact (hp _ _ _ _ (h3 i us[i] (es[i]'(by omega)) (by simp) (by simp))).1
  have hR : ∀ i u e, us[i]? = some u → es[i]? = some e → R w [] u e := fun i u e a b => hst _ _ _ _ _ _ (h3 i u e a b) (.refl _ _) (by simp)
  obtain ⟨hl, h4⟩ := h2
  rcases h4 with ⟨rfl, h0⟩ | ⟨g, cap, cur, rfl, hb, hg, hn, hm, hs, ht⟩
  · have : es = [] := List.eq_nil_of_length_eq_zero h0
    subst this
    exact ⟨none, 0, rfl, Lx.nil c R w⟩
  · refine ⟨_, cap, rfl, ⟨rfl, hn, hm, fun h => (by cases h), fun ad ha j e he => ?_⟩⟩
    cases ha
    have hj := (List.getElem?_eq_some_iff.1 he).1
    have hju : us[j]? = some (us[j]'(by omega)) := by simp
    refine ⟨_, fun i x hx => ?_, hR j _ e hju he⟩
    have hi := (List.getElem?_eq_some_iff.1 hx).1
    rw [hu _ (List.getElem_mem _)] at hi
    have hlt : j * c + i < es.length * c := by
      have := Nat.mul_le_mul_right c (show j + 1 ≤ es.length by omega)
      rw [Nat.add_mul] at this; omega
    have hfl := flat_at us j i _ hu hju hi
    rw [hx, ← ht, List.getElem?_take, if_pos hlt] at hfl
    rw [Addr.add_lit, Nat.zero_add, cell_of_row w g _ cur T (0, 0) hg]
    simpa using hfl

theorem Tryd.info27 : (Tryd.prog.info? 27).map (fun i => (i.zero, i.size, i.bytes)) = some (some (.slice none 0 0), 1, 24) := by kernel_rfl
/-- One element more. -/
theorem run_one {α : Type} {t T c bytes : Nat} {z : Value} {R : Reads α} (hst : Stable R) (hp : Plain c R) (ht : Tryd.prog.underlying t = some (.slice T)) (hT : (Tryd.prog.info? T).map (fun i => (i.zero, i.size, i.bytes)) = some (some z, c, bytes)) (hz : z.cells.size = c) (hc : 0 < c) (hby : bytes ≤ 100)
    (w : World) (ty : TypeId) (B : Nat) (v : Value) (es : List α) (h : Ls T c R w B v es) (a : Addr) (cc : Nat) (u : List Value) (e : α) (hu : ∀ j x, u[j]? = some x → w.cell? (a.add j) = some x) (hr : R w (own v) u e) (hn : es.length ≤ 1000000000) (hB : B ≤ w.heap.size) :
    ∃ ao' cap' w', (Builtin.append_ #[t, t] ty #[v, .slice (some a) 1 cc]).run Tryd.prog w = .ok (.slice ao' (es.length + 1) cap') w' ∧ Ls T c R w' B (.slice ao' (es.length + 1) cap') (es ++ [e]) ∧ Off (own v) w w' ∧ (∀ k ∈ own (.slice ao' (es.length + 1) cap'), k ∈ own v ∨ w.heap.size ≤ k) := by
  obtain ⟨us, h1, h2, h3⟩ := h
  obtain ⟨i, hi, hz0, hz1, hz2⟩ := info_parts hT
  obtain ⟨p1, p2⟩ := hp _ _ _ _ hr
  obtain ⟨v', w', hrun, hown', hgrow, _, hat⟩ := run_append_own_at (P := Tryd.prog) w B t ty T i z c bytes ht hi hz0 hz1 hz2 hz hc v es.length _ h2 a 1 cc u (by simp [p1]) hu p2 (by unfold maxLen; omega)
    (by have := Nat.mul_le_mul (show es.length + 1 ≤ 1000000001 by omega) hby; omega) hB
  obtain ⟨ao', cap', rfl⟩ := own_form hown'
  have hoff : Off (own v) w w' := (Off.refl _ _).grown hgrow (fun k hk => by simp [own, hk])
  have hsub : ∀ k ∈ own (.slice ao' (es.length + 1) cap'), k ∈ own v ∨ w.heap.size ≤ k := by
    intro k hk
    rcases hat with e | e
    · left; unfold own at hk ⊢; rwa [e] at hk
    · right; unfold own at hk; rw [e] at hk; simp at hk; omega
  refine ⟨ao', cap', w', hrun, ⟨us ++ [u], by simp [h1], by simpa using hown', fun j x y hx hy => ?_⟩, hoff, hsub⟩
  by_cases hj : j < us.length
  · rw [List.getElem?_append_left hj] at hx
    rw [List.getElem?_append_left (by omega)] at hy
    exact hst _ _ _ _ _ _ (h3 j x y hx hy) hoff hsub
  · rw [List.getElem?_append_right (by omega)] at hx
    rw [List.getElem?_append_right (by omega), ← h1] at hy
    have hj0 : j - us.length = 0 := by
      have := (List.getElem?_eq_some_iff.1 hx).1
      simp at this; omega
    rw [hj0] at hx hy
    simp at hx hy
    subst hx hy
    exact hst _ _ _ _ _ _ hr hoff hsub

theorem wpList_one {α : Type} {t T c bytes : Nat} {z : Value} {R : Reads α} (hst : Stable R) (hp : Plain c R) (ht : Tryd.prog.underlying t = some (.slice T)) (hT : (Tryd.prog.info? T).map (fun i => (i.zero, i.size, i.bytes)) = some (some z, c, bytes)) (hz : z.cells.size = c) (hc : 0 < c) (hby : bytes ≤ 100)
    {ops : Array Oper} {rest : List Oper} {o : Oper} {a : Act} {w : World} {Q : Exit → Act → World → Prop}
    (hg : o.guard = none) (s x : Operand) (hop : o.op = Op.call { callee := Callee.builtin Builtin.append, args := #[s, x], argTypes := #[t, t] })
    (B : Nat) (v : Value) (es : List α) (hs : a.eval s = v) (h : Ls T c R w B v es) (ad : Addr) (cc : Nat) (u : List Value) (e : α) (hx : a.eval x = .slice (some ad) 1 cc) (hu : ∀ j x, u[j]? = some x → w.cell? (ad.add j) = some x) (hr : R w (own v) u e) (hn : es.length ≤ 1000000000) (hB : B ≤ w.heap.size)
    (hK : ∀ ao' n' cap' w', n' = es.length + 1 → Ls T c R w' B (.slice ao' n' cap') (es ++ [e]) → Off (own v) w w' → (∀ k ∈ own (.slice ao' n' cap'), k ∈ own v ∨ w.heap.size ≤ k) → wpList Tryd.prog ops Q rest (a.put o.dst (.slice ao' n' cap')) w') :
    wpList Tryd.prog ops Q (o :: rest) a w := by
  refine wpList_plain hg fun K hKK => ?_
  obtain ⟨ao', cap', w', hrun, h1, h2, h3⟩ := run_one hst hp ht hT hz hc hby w o.type B v es h ad cc u e hu hr hn hB
  unfold Oper.wp
  simp [execOp, hop, resolve, invoke, builtin, hs, hx, hrun, Result.andThen]
  exact hKK _ _ (hK ao' _ cap' w' rfl h1 h2 h3)

theorem step_one {α : Type} {t T c bytes : Nat} {z : Value} {R : Reads α} (hst : Stable R) (hp : Plain c R) (ht : Tryd.prog.underlying t = some (.slice T)) (hT : (Tryd.prog.info? T).map (fun i => (i.zero, i.size, i.bytes)) = some (some z, c, bytes)) (hz : z.cells.size = c) (hc : 0 < c) (hby : bytes ≤ 100)
    {ops : Array Oper} {o : Oper} {a : Act} {w : World} {K : Act → World → Prop} {Q : Exit → Act → World → Prop} {E : Prop}
    (hg : o.guard = none) (s x : Operand) (hop : o.op = Op.call { callee := Callee.builtin Builtin.append, args := #[s, x], argTypes := #[t, t] })
    (B : Nat) (v : Value) (es : List α) (hs : a.eval s = v) (h : Ls T c R w B v es) (ad : Addr) (cc : Nat) (u : List Value) (e : α) (hx : a.eval x = .slice (some ad) 1 cc) (hu : ∀ j x, u[j]? = some x → w.cell? (ad.add j) = some x) (hr : R w (own v) u e) (hn : es.length ≤ 1000000000) (hB : B ≤ w.heap.size)
    (hK : ∀ ao' n' cap' w', n' = es.length + 1 → Ls T c R w' B (.slice ao' n' cap') (es ++ [e]) → Off (own v) w w' → (∀ k ∈ own (.slice ao' n' cap'), k ∈ own v ∨ w.heap.size ≤ k) → K (a.put o.dst (.slice ao' n' cap')) w') :
    if Region.wanted o (yielded ops a.tmps) = true then Oper.wp Tryd.prog o a w K Q else E := by
  have hw : Region.wanted o (yielded ops a.tmps) = true := by simp [Region.wanted, hg]
  rw [if_pos hw]
  obtain ⟨ao', cap', w', hrun, h1, h2, h3⟩ := run_one hst hp ht hT hz hc hby w o.type B v es h ad cc u e hu hr hn hB
  unfold Oper.wp
  simp [execOp, hop, resolve, invoke, builtin, hs, hx, hrun, Result.andThen]
  exact hK ao' _ cap' w' rfl h1 h2 h3

end Go.Proofs.YtgleblfkcdkaeaaDoor
