/- Memory, block by block: lists of texts and of entries that a call makes, or that came in. The walks of bytes.Clone, of a record's head, slices.Grow of nothing, slices.Concat of three, frame.Put. The walk of frame.All. 'append' onto bytes that a call owns: what it gives, and what stays. The walks of frame.addNumber, addEntry, fits. The walk of frame.Batch. The walk of the statements' own 'known'. Lists whose blocks, and whose elements' blocks, are none of those of X: what is written there leaves them. What came in: bytes, lists of texts, lists of entries. -/
import Derived.Test.YteeemfohehpaeaaPB
import Derived.Test.YteeemfohehpaeaaPA
import Derived.Deep.RegionHeldLaw
import Derived.Deep.AppendLies
import Derived.Maps.AppendAt
import Derived.Lib.SmallJoins
import Derived.Lib.AppendZerosOnto
import Derived.Lib.SliceRun
import Derived.Laws.Externs
import Derived.ProofKit
import Derived.OpenShut
import Derived.Deep.Slices
namespace Go.Proofs.Yteeemfohehpaeaa

section
set_option maxRecDepth 100000
open Go.RowKit

/-- All blocks that were there, but those of S, are as they were. -/
structure Off (S : List Nat) (w w' : World) : Prop where
  os : w'.os = w.os
  tape : w'.tape = w.tape
  output : w'.output = w.output
  size : w.heap.size ≤ w'.heap.size
  block : ∀ k, k < w.heap.size → k ∉ S → w'.heap[k]? = w.heap[k]?

theorem Off.refl (S : List Nat) (w : World) : Off S w w := ⟨rfl, rfl, rfl, Nat.le_refl _, fun _ _ _ => rfl⟩

theorem Off.of_below {S : List Nat} {w w' : World} (h : Below w.heap.size w w') : Off S w w' := ⟨h.os, h.tape, h.output, h.size, fun k hk _ => h.block k hk⟩

theorem Off.drew {S : List Nat} {a w : World} (h : Off S a w) : Off S a w.drew := ⟨h.os, h.tape, h.output, h.size, h.block⟩

theorem Off.drewN {S : List Nat} {a w : World} (h : Off S a w) (n : Nat) : Off S a (w.drewN n) := ⟨h.os, h.tape, h.output, h.size, h.block⟩

theorem Off.mono {S T : List Nat} {w w' : World} (h : Off S w w') (hs : ∀ k ∈ S, k ∈ T) : Off T w w' := ⟨h.os, h.tape, h.output, h.size, fun k hk hn => h.block k hk (fun e => hn (hs k e))⟩

theorem Off.trans {S : List Nat} {a b c : World} (h : Off S a b) (k : Off S b c) : Off S a c :=
  ⟨k.os.trans h.os, k.tape.trans h.tape, k.output.trans h.output, Nat.le_trans h.size k.size, fun i hi hn => (k.block i (Nat.lt_of_lt_of_le hi h.size) hn).trans (h.block i hi hn)⟩

theorem Off.setCell {S : List Nat} {a w : World} (h : Off S a w) {p : Addr} (hp : p.block ∈ S) (u : Value) : Off S a (w.setCell p u) :=
  h.trans ⟨rfl, rfl, rfl, by simp [World.setCell], fun k _ hn => Below.heap_setCell _ _ _ _ (fun e => hn (e ▸ hp))⟩

theorem Off.alloc {S : List Nat} {a w : World} (h : Off S a w) (o : Obj) : Off S a (w.alloc o) :=
  h.trans ⟨rfl, rfl, rfl, by simp, fun k hk _ => Below.heap_alloc _ _ _ hk⟩

theorem Off.grown {S : List Nat} {a w w' : World} {row : Option Nat} (h : Off S a w) (hg : w.grownBy w' row) (hr : ∀ k, row = some k → k ∈ S) : Off S a w' :=
  h.trans ⟨hg.os, hg.tape, hg.output, hg.size, fun k hk hn => hg.block k hk (fun e => hn (hr k e.symm))⟩

theorem Off.below {S : List Nat} {B : Nat} {w w' : World} (h : Off S w w') (hs : ∀ k ∈ S, B ≤ k) (hB : B ≤ w.heap.size) : Below B w w' :=
  ⟨h.os, h.tape, h.output, h.size, fun k hk => h.block k (by omega) (fun e => by have := hs k e; omega)⟩

theorem Off.cell {S : List Nat} {w w' : World} (h : Off S w w') {a : Addr} {v : Value} (hc : w.cell? a = some v) (hn : a.block ∉ S) : w'.cell? a = some v := by
  rw [World.cell?_of_block (w := w) (h.block a.block (World.block_lt_of_cell? _ _ hc) hn)]; exact hc

/-- A slice's own block, as a list. -/
def own (v : Value) : List Nat := v.ownBlock.toList

theorem rows_off {S : List Nat} {w w' : World} {e : TypeId} {size : Nat} {v : Value} {n : Nat} {xs : List Value} (h : w.ownsRow 0 e size v n xs) (ho : Off S w w') (hd : ∀ k ∈ own v, k ∉ S) : w'.ownsRow 0 e size v n xs := by
  refine ⟨h.1, ?_⟩
  rcases h.2 with h | ⟨g, cap, cur, rfl, hb, hg, r⟩
  · exact .inl h
  · exact .inr ⟨g, cap, cur, rfl, hb, by rw [ho.block g (Array.getElem?_eq_some_iff.1 hg).1 (hd g (by simp [own, Value.ownBlock]))]; exact hg, r⟩

theorem own_lt {w : World} {base : Nat} {e : TypeId} {size : Nat} {v : Value} {n : Nat} {xs : List Value} (h : w.ownsRow base e size v n xs) : ∀ k ∈ own v, k < w.heap.size ∧ base ≤ k := by
  rcases h.2 with ⟨rfl, _⟩ | ⟨g, cap, cur, rfl, hb, hg, r⟩
  · simp [own, Value.ownBlock]
  · intro k hk
    simp [own, Value.ownBlock] at hk
    subst hk
    exact ⟨(Array.getElem?_eq_some_iff.1 hg).1, hb⟩

theorem own_form {w : World} {base : Nat} {e : TypeId} {size : Nat} {v : Value} {n : Nat} {xs : List Value} (h : w.ownsRow base e size v n xs) : ∃ ao cap, v = .slice ao n cap := by
  rcases h.2 with ⟨rfl, rfl⟩ | ⟨g, cap, cur, rfl, _⟩
  · exact ⟨none, 0, rfl⟩
  · exact ⟨_, cap, rfl⟩

/-- The value is a slice that reads as xs, and lies in none of the blocks S. -/
def BytesAt (w : World) (S : List Nat) (v : Value) (xs : List Int) : Prop := ∃ ao l c, v = .slice ao l c ∧ Tx w ao l c xs ∧ ∀ ad, ao = some ad → 0 < l → ad.block ∉ S

theorem add_block (ad : Addr) (j : Nat) : (ad.add j).block = ad.block := by unfold Addr.add; split <;> rfl
theorem Tx.lt {w : World} {ao : Option Addr} {len cap : Nat} {xs : List Int} (h : Tx w ao len cap xs) (ad : Addr) (ha : ao = some ad) (h0 : 0 < len) : ad.block < w.heap.size := by
  have := World.block_lt_of_cell? _ _ (h.cell ad ha 0 h0)
  simpa [Addr.add] using this
theorem Tx.off {S : List Nat} {w w' : World} {ao : Option Addr} {len cap : Nat} {xs : List Int} (h : Tx w ao len cap xs) (ho : Off S w w') (hs : ∀ ad, ao = some ad → 0 < len → ad.block ∉ S) : Tx w' ao len cap xs :=
  ⟨h.len_eq, h.le, h.top, h.bare, fun ad ha j hj => ho.cell (h.cell ad ha j hj) (by rw [add_block]; exact hs ad ha (by omega)), h.rng⟩
theorem BytesAt.off {S S' : List Nat} {w w' : World} {v : Value} {xs : List Int} (h : BytesAt w S v xs) (ho : Off S w w') (hs : ∀ k ∈ S', k ∈ S ∨ w.heap.size ≤ k) : BytesAt w' S' v xs := by
  obtain ⟨ao, l, c, rfl, t, hn⟩ := h
  refine ⟨ao, l, c, rfl, t.off ho hn, fun ad ha h0 hk => ?_⟩
  rcases hs _ hk with e | e
  · exact hn ad ha h0 e
  · have := t.lt ad ha h0; omega
theorem Tx.at {w : World} {ao : Option Addr} {len cap : Nat} {xs : List Int} (h : Tx w ao len cap xs) (S : List Nat) (hs : ∀ ad, ao = some ad → 0 < len → ad.block ∉ S) : BytesAt w S (.slice ao len cap) xs := ⟨ao, len, cap, rfl, h, hs⟩

/-- How an element's cells read. -/
abbrev Reads (α : Type) := World → List Nat → List Value → α → Prop
def Stable {α : Type} (R : Reads α) : Prop := ∀ w w' S S' u e, R w S u e → Off S w w' → (∀ k ∈ S', k ∈ S ∨ w.heap.size ≤ k) → R w' S' u e
def RB : Reads (List Int) := fun w S u xs => ∃ v, u = [v] ∧ BytesAt w S v xs
def RE : Reads Ent := fun w S u e => ∃ k v, u = [k, v, .bool e.g] ∧ BytesAt w S k e.k ∧ BytesAt w S v e.v
theorem RB.stable : Stable RB := fun _ _ _ _ _ _ ⟨v, hu, h⟩ ho hs => ⟨v, hu, h.off ho hs⟩
theorem RE.stable : Stable RE := fun _ _ _ _ _ _ ⟨k, v, hu, h, h'⟩ ho hs => ⟨k, v, hu, h.off ho hs, h'.off ho hs⟩
def Plain {α : Type} (c : Nat) (R : Reads α) : Prop := ∀ w S u e, R w S u e → u.length = c ∧ ∀ x ∈ u, x.oneCell' = true
theorem BytesAt.one {w : World} {S : List Nat} {v : Value} {xs : List Int} (h : BytesAt w S v xs) : v.oneCell' = true := by
  obtain ⟨_, _, _, rfl, _⟩ := h; rfl
theorem RB.plain : Plain 1 RB := by
  rintro w S u e ⟨v, rfl, h⟩
  exact ⟨rfl, by simpa using h.one⟩
theorem RE.plain : Plain 3 RE := by
  rintro w S u e ⟨k, v, rfl, h, h'⟩
  refine ⟨rfl, fun x hx => ?_⟩
  simp at hx
  rcases hx with rfl | rfl | rfl
  · exact h.one
  · exact h'.one
  · rfl

/-- A list that the call makes: its row is owned, its elements lie elsewhere. -/
def Ls {α : Type} (T c : Nat) (R : Reads α) (w : World) (B : Nat) (v : Value) (es : List α) : Prop :=
  ∃ us : List (List Value), us.length = es.length ∧ w.ownsRow B T c v es.length us.flatten ∧ ∀ (i : Nat) (u : List Value) (e : α), us[i]? = some u → es[i]? = some e → R w (own v) u e

theorem Ls.nil {α : Type} (T c : Nat) (R : Reads α) (w : World) (B : Nat) : Ls T c R w B (.slice none 0 0) [] := ⟨[], rfl, ⟨by simp, .inl ⟨rfl, rfl⟩⟩, by simp⟩
theorem Ls.form {α : Type} {T c : Nat} {R : Reads α} {w : World} {B : Nat} {v : Value} {es : List α} (h : Ls T c R w B v es) : ∃ ao cap, v = .slice ao es.length cap := by
  obtain ⟨us, _, ho, _⟩ := h
  exact own_form ho
theorem Ls.lt {α : Type} {T c : Nat} {R : Reads α} {w : World} {B : Nat} {v : Value} {es : List α} (h : Ls T c R w B v es) : ∀ k ∈ own v, k < w.heap.size ∧ B ≤ k := by
  obtain ⟨us, _, ho, _⟩ := h
  exact own_lt ho
theorem rows_offB {S : List Nat} {w w' : World} {B : Nat} {e : TypeId} {size : Nat} {v : Value} {n : Nat} {xs : List Value} (h : w.ownsRow B e size v n xs) (ho : Off S w w') (hd : ∀ k ∈ own v, k ∉ S) : w'.ownsRow B e size v n xs := by
  refine ⟨h.1, ?_⟩
  rcases h.2 with h | ⟨g, cap, cur, rfl, hb, hg, r⟩
  · exact .inl h
  · exact .inr ⟨g, cap, cur, rfl, hb, by rw [ho.block g (Array.getElem?_eq_some_iff.1 hg).1 (hd g (by simp [own, Value.ownBlock]))]; exact hg, r⟩
/-- What is new, and what is written in S, leaves it, if S is none of its blocks: S below all that it is made of, or its own blocks told. -/
theorem Ls.later {α : Type} {T c : Nat} {R : Reads α} (hst : Stable R) {w w' : World} {B : Nat} {v : Value} {es : List α} (h : Ls T c R w B v es) (hb : Below w.heap.size w w') : Ls T c R w' B v es := by
  obtain ⟨us, h1, h2, h3⟩ := h
  exact ⟨us, h1, rows_offB (S := []) h2 (.of_below hb) (by simp), fun i u e hu he => hst _ _ _ _ _ _ (h3 i u e hu he) (.of_below hb) (fun k hk => .inl hk)⟩

theorem flat_at {c : Nat} : ∀ (us : List (List Value)) (j i : Nat) (u : List Value), (∀ u ∈ us, u.length = c) → us[j]? = some u → i < c → us.flatten[j * c + i]? = u[i]?
  | [], j, i, u, _, h, _ => by simp at h
  | x :: us, 0, i, u, hc, h, hi => by
    simp at h
    subst h
    have := hc x (by simp)
    simp only [List.flatten_cons, Nat.zero_mul, Nat.zero_add]
    rw [List.getElem?_append_left (by omega)]
  | x :: us, j + 1, i, u, hc, h, hi => by
    have hx := hc x (by simp)
    simp only [List.flatten_cons]
    rw [show (j + 1) * c + i = c + (j * c + i) by rw [Nat.add_mul]; omega, List.getElem?_append_right (by omega), hx, Nat.add_sub_cancel_left]
    exact flat_at us j i u (fun y hy => hc y (by simp [hy])) (by simpa using h) hi

/-- A list that is read. -/
structure Lx {α : Type} (c : Nat) (R : Reads α) (w : World) (ao : Option Addr) (len cap : Nat) (es : List α) : Prop where
  len_eq : es.length = len
  le : len ≤ cap
  top : cap ≤ maxLen
  bare : ao = none → len = 0 ∧ cap = 0
  cell : ∀ ad, ao = some ad → ∀ (j : Nat) (e : α), es[j]? = some e → ∃ u : List Value, (∀ (i : Nat) (x : Value), u[i]? = some x → w.cell? (ad.add (j * c + i)) = some x) ∧ R w [] u e

theorem Lx.nil {α : Type} (c : Nat) (R : Reads α) (w : World) : Lx c R w none 0 0 [] := ⟨rfl, Nat.le_refl _, by unfold maxLen; omega, fun _ => ⟨rfl, rfl⟩, fun _ h => (by cases h)⟩
theorem Lx.later {α : Type} {c : Nat} {R : Reads α} (hst : Stable R) {w w' : World} {ao : Option Addr} {len cap : Nat} {es : List α} (h : Lx c R w ao len cap es) (hb : Below w.heap.size w w') : Lx c R w' ao len cap es :=
  ⟨h.len_eq, h.le, h.top, h.bare, fun ad ha j e he => by
    obtain ⟨u, h1, h2⟩ := h.cell ad ha j e he
    exact ⟨u, fun i x hx => cell_later hb (h1 i x hx), hst _ _ _ _ _ _ h2 (.of_below hb) (fun k hk => .inl hk)⟩⟩
theorem Lx.take {α : Type} {c : Nat} {R : Reads α} {w : World} {ao : Option Addr} {len cap : Nat} {es : List α} (h : Lx c R w ao len cap es) (k : Nat) (hk : k ≤ len) : Lx c R w ao k cap (es.take k) := by
  refine ⟨by have := h.len_eq; simp; omega, by have := h.le; omega, h.top, fun ha => ⟨by have := h.bare ha; omega, (h.bare ha).2⟩, fun ad ha j e he => h.cell ad ha j e ?_⟩
  rw [List.getElem?_take] at he
  split at he
  · exact he
  · cases he
theorem Lx.head {α : Type} {c : Nat} {R : Reads α} (hp : Plain c R) (hc : 0 < c) {w : World} {ao : Option Addr} {len cap : Nat} {es : List α} (h : Lx c R w ao len cap es) (h0 : 0 < len) :
    ∃ b off, ao = some ⟨b, off, none⟩ ∧ ∀ (j : Nat) (e : α), es[j]? = some e → ∃ u : List Value, (∀ (i : Nat) (x : Value), u[i]? = some x → w.cell? ⟨b, off + (j * c + i), none⟩ = some x) ∧ R w [] u e := by
  cases ao with
  | none => have := h.bare rfl; omega
  | some a =>
    obtain ⟨b, off, spot⟩ := a
    have hl := h.len_eq
    obtain ⟨u, h1, h2⟩ := h.cell _ rfl 0 (es[0]'(by omega)) (by simp)
    obtain ⟨h3, _⟩ := hp _ _ _ _ h2
    have hspot : spot = none := by simpa [Addr.add] using World.cell?_spot (h1 0 (u[0]'(by omega)) (by simp))
    subst hspot
    refine ⟨b, off, rfl, fun j e he => ?_⟩
    obtain ⟨u, h1, h2⟩ := h.cell _ rfl j e he
    exact ⟨u, fun i x hx => by have := h1 i x hx; rwa [Addr.add_lit] at this, h2⟩

theorem Ls.read {α : Type} {T c : Nat} {R : Reads α} (hst : Stable R) (hp : Plain c R) {w : World} {B : Nat} {v : Value} {es : List α} (h : Ls T c R w B v es) : ∃ ao cap, v = .slice ao es.length cap ∧ Lx c R w ao es.length cap es := by
  obtain ⟨us, h1, h2, h3⟩ := h
  have hu : ∀ u ∈ us, u.length = c := by
    intro u hu
    obtain ⟨i, hi, rfl⟩ := List.getElem_of_mem hu
    exact (hp _ _ _ _ (h3 i us[i] (es[i]'(by omega)) (by simp) (by simp))).1
  have hR : ∀ i u e, us[i]? = some u → es[i]? = some e → R w [] u e := fun i u e a b => hst _ _ _ _ _ _ (h3 i u e a b) (.refl _ _) (by simp)
  obtain ⟨hl, h4⟩ := h2
  rcases h4 with ⟨rfl, h0⟩ | ⟨g, cap, cur, rfl, hb, hg, hn, hm, hs, ht⟩
  · have : es = [] := List.eq_nil_of_length_eq_zero h0
    subst this
    exact ⟨none, 0, rfl, Lx.nil c R w⟩
  · refine ⟨_, cap, rfl, ⟨rfl, hn, hm, fun h => (by cases h), fun ad ha j e he => ?_⟩⟩
    cases ha
    have hj := (List.getElem?_eq_some_iff.1 he).1
    have hju : us[j]? = some (us[j]'(by omega)) := by simp
    refine ⟨_, fun i x hx => ?_, hR j _ e hju he⟩
    have hi := (List.getElem?_eq_some_iff.1 hx).1
    rw [hu _ (List.getElem_mem _)] at hi
    have hlt : j * c + i < es.length * c := by
      have := Nat.mul_le_mul_right c (show j + 1 ≤ es.length by omega)
      rw [Nat.add_mul] at this; omega
    have hfl := flat_at us j i _ hu hju hi
    rw [hx, ← ht, List.getElem?_take, if_pos hlt] at hfl
    rw [Addr.add_lit, Nat.zero_add, cell_of_row w g _ cur T (0, 0) hg]
    simpa using hfl

theorem Try.info23 : (Try.prog.info? 23).map (fun i => (i.zero, i.size, i.bytes)) = some (some (.slice none 0 0), 1, 24) := by kernel_rfl
theorem Try.info25 : (Try.prog.info? 25).map (fun i => (i.zero, i.size, i.bytes)) = some (some (.agg #[.slice none 0 0, .slice none 0 0, .bool false]), 3, 56) := by kernel_rfl

/-- One element more. -/
theorem run_one {α : Type} {t T c bytes : Nat} {z : Value} {R : Reads α} (hst : Stable R) (hp : Plain c R) (ht : Try.prog.underlying t = some (.slice T)) (hT : (Try.prog.info? T).map (fun i => (i.zero, i.size, i.bytes)) = some (some z, c, bytes)) (hz : z.cells.size = c) (hc : 0 < c) (hby : bytes ≤ 100)
    (w : World) (ty : TypeId) (B : Nat) (v : Value) (es : List α) (h : Ls T c R w B v es) (a : Addr) (cc : Nat) (u : List Value) (e : α) (hu : ∀ j x, u[j]? = some x → w.cell? (a.add j) = some x) (hr : R w (own v) u e) (hn : es.length ≤ 1000000000) (hB : B ≤ w.heap.size) :
    ∃ ao' cap' w', (Builtin.append_ #[t, t] ty #[v, .slice (some a) 1 cc]).run Try.prog w = .ok (.slice ao' (es.length + 1) cap') w' ∧ Ls T c R w' B (.slice ao' (es.length + 1) cap') (es ++ [e]) ∧ Off (own v) w w' ∧ (∀ k ∈ own (.slice ao' (es.length + 1) cap'), k ∈ own v ∨ w.heap.size ≤ k) := by
  obtain ⟨us, h1, h2, h3⟩ := h
  obtain ⟨i, hi, hz0, hz1, hz2⟩ := info_parts hT
  obtain ⟨p1, p2⟩ := hp _ _ _ _ hr
  obtain ⟨v', w', hrun, hown', hgrow, _, hat⟩ := run_append_own_at (P := Try.prog) w B t ty T i z c bytes ht hi hz0 hz1 hz2 hz hc v es.length _ h2 a 1 cc u (by simp [p1]) hu p2 (by unfold maxLen; omega)
    (by have := Nat.mul_le_mul (show es.length + 1 ≤ 1000000001 by omega) hby; omega) hB
  obtain ⟨ao', cap', rfl⟩ := own_form hown'
  have hoff : Off (own v) w w' := (Off.refl _ _).grown hgrow (fun k hk => by simp [own, hk])
  have hsub : ∀ k ∈ own (.slice ao' (es.length + 1) cap'), k ∈ own v ∨ w.heap.size ≤ k := by
    intro k hk
    rcases hat with e | e
    · left; unfold own at hk ⊢; rwa [e] at hk
    · right; unfold own at hk; rw [e] at hk; simp at hk; omega
  refine ⟨ao', cap', w', hrun, ⟨us ++ [u], by simp [h1], by simpa using hown', fun j x y hx hy => ?_⟩, hoff, hsub⟩
  by_cases hj : j < us.length
  · rw [List.getElem?_append_left hj] at hx
    rw [List.getElem?_append_left (by omega)] at hy
    exact hst _ _ _ _ _ _ (h3 j x y hx hy) hoff hsub
  · rw [List.getElem?_append_right (by omega)] at hx
    rw [List.getElem?_append_right (by omega), ← h1] at hy
    have hj0 : j - us.length = 0 := by
      have := (List.getElem?_eq_some_iff.1 hx).1
      simp at this; omega
    rw [hj0] at hx hy
    simp at hx hy
    subst hx hy
    exact hst _ _ _ _ _ _ hr hoff hsub

theorem wpList_one {α : Type} {t T c bytes : Nat} {z : Value} {R : Reads α} (hst : Stable R) (hp : Plain c R) (ht : Try.prog.underlying t = some (.slice T)) (hT : (Try.prog.info? T).map (fun i => (i.zero, i.size, i.bytes)) = some (some z, c, bytes)) (hz : z.cells.size = c) (hc : 0 < c) (hby : bytes ≤ 100)
    {ops : Array Oper} {rest : List Oper} {o : Oper} {a : Act} {w : World} {Q : Exit → Act → World → Prop}
    (hg : o.guard = none) (s x : Operand) (hop : o.op = Op.call { callee := Callee.builtin Builtin.append, args := #[s, x], argTypes := #[t, t] })
    (B : Nat) (v : Value) (es : List α) (hs : a.eval s = v) (h : Ls T c R w B v es) (ad : Addr) (cc : Nat) (u : List Value) (e : α) (hx : a.eval x = .slice (some ad) 1 cc) (hu : ∀ j x, u[j]? = some x → w.cell? (ad.add j) = some x) (hr : R w (own v) u e) (hn : es.length ≤ 1000000000) (hB : B ≤ w.heap.size)
    (hK : ∀ ao' n' cap' w', n' = es.length + 1 → Ls T c R w' B (.slice ao' n' cap') (es ++ [e]) → Off (own v) w w' → (∀ k ∈ own (.slice ao' n' cap'), k ∈ own v ∨ w.heap.size ≤ k) → wpList Try.prog ops Q rest (a.put o.dst (.slice ao' n' cap')) w') :
    wpList Try.prog ops Q (o :: rest) a w := by
  refine wpList_plain hg fun K hKK => ?_
  obtain ⟨ao', cap', w', hrun, h1, h2, h3⟩ := run_one hst hp ht hT hz hc hby w o.type B v es h ad cc u e hu hr hn hB
  unfold Oper.wp
  simp [execOp, hop, resolve, invoke, builtin, hs, hx, hrun, Result.andThen]
  exact hKK _ _ (hK ao' _ cap' w' rfl h1 h2 h3)

theorem step_one {α : Type} {t T c bytes : Nat} {z : Value} {R : Reads α} (hst : Stable R) (hp : Plain c R) (ht : Try.prog.underlying t = some (.slice T)) (hT : (Try.prog.info? T).map (fun i => (i.zero, i.size, i.bytes)) = some (some z, c, bytes)) (hz : z.cells.size = c) (hc : 0 < c) (hby : bytes ≤ 100)
    {ops : Array Oper} {o : Oper} {a : Act} {w : World} {K : Act → World → Prop} {Q : Exit → Act → World → Prop} {E : Prop}
    (hg : o.guard = none) (s x : Operand) (hop : o.op = Op.call { callee := Callee.builtin Builtin.append, args := #[s, x], argTypes := #[t, t] })
    (B : Nat) (v : Value) (es : List α) (hs : a.eval s = v) (h : Ls T c R w B v es) (ad : Addr) (cc : Nat) (u : List Value) (e : α) (hx : a.eval x = .slice (some ad) 1 cc) (hu : ∀ j x, u[j]? = some x → w.cell? (ad.add j) = some x) (hr : R w (own v) u e) (hn : es.length ≤ 1000000000) (hB : B ≤ w.heap.size)
    (hK : ∀ ao' n' cap' w', n' = es.length + 1 → Ls T c R w' B (.slice ao' n' cap') (es ++ [e]) → Off (own v) w w' → (∀ k ∈ own (.slice ao' n' cap'), k ∈ own v ∨ w.heap.size ≤ k) → K (a.put o.dst (.slice ao' n' cap')) w') :
    if Region.wanted o (yielded ops a.tmps) = true then Oper.wp Try.prog o a w K Q else E := by
  have hw : Region.wanted o (yielded ops a.tmps) = true := by simp [Region.wanted, hg]
  rw [if_pos hw]
  obtain ⟨ao', cap', w', hrun, h1, h2, h3⟩ := run_one hst hp ht hT hz hc hby w o.type B v es h ad cc u e hu hr hn hB
  unfold Oper.wp
  simp [execOp, hop, resolve, invoke, builtin, hs, hx, hrun, Result.andThen]
  exact hK ao' _ cap' w' rfl h1 h2 h3
end

section
set_option maxRecDepth 100000
open Go.RowKit

theorem bclone_any (ao : Option Addr) (la ca : Nat) (xs : List Int) (w : World) (ha : Tx w ao la ca xs) (hl : la ≤ 1000000000) :
    Calls Try.prog 43 #[.slice ao la ca] w fun e w' => ∃ bo cb, e = .returned (.slice bo la cb) ∧ Tx w' bo la cb xs ∧ (∀ ad, bo = some ad → w.heap.size ≤ ad.block) ∧ Below w.heap.size w w' := by
  cases ao with
  | none =>
    obtain ⟨rfl, rfl⟩ := ha.bare rfl
    have hx : xs = [] := List.eq_nil_of_length_eq_zero ha.len_eq
    subst hx
    have hq : ∀ w, (binOp .eql 23 (.slice none 0 0) (.slice none 0 0)).run Try.prog w = .ok (.bool true) w := fun _ => by kernel_rfl
    go_enter Try.func43, Try.ntmps43
    go_wp2
    go_ret
    exact ⟨none, 0, rfl, Tx.nil _, fun _ h => (by cases h), Below.refl _ _⟩
  | some a =>
    have hq := fun wx => Lib.run_eql_slice_nil (P := Try.prog) wx 23 5 (some a) la ca 0 0 Try.underlying23
    go_enter Try.func43, Try.ntmps43
    have hi : (some a).isNone = false := rfl
    rw [hi] at hq
    go_wp2_with (with_reducible show wpList _ _ _ (⟨some 7, _, _, _, _, _⟩ :: _) _ _; refine wpList_append_bytes _ rfl _ _ rfl w.heap.size (.slice (some ⟨w.heap.size, 0, none⟩) 0 0) 0 [] rfl (own_empty w) (by simp) (some a) la ca xs rfl (ha.alloc _) (by omega) (by simp) ?_; intro a5 l5 c5 w5 hl5 hown5 htx5 b5)
    go_ret
    rw [Nat.zero_add] at hl5
    subst hl5
    exact ⟨a5, c5, rfl, htx5, fun ad h => (own_lt hown5 ad.block (by subst h; simp [own, Value.ownBlock])).2, ((Below.refl _ _).alloc (Nat.le_refl _) _).trans b5⟩

theorem xor_mask (n : Nat) (h : n ≤ 16777215) : n ^^^ 16777215 = 16777215 - n := by
  have h1 : (BitVec.ofNat 24 n ^^^ BitVec.allOnes 24).toNat = n ^^^ 16777215 := by
    rw [BitVec.toNat_xor, BitVec.toNat_ofNat, BitVec.toNat_allOnes, Nat.mod_eq_of_lt (by omega)]
  rw [← h1, BitVec.xor_allOnes, BitVec.toNat_not, BitVec.toNat_ofNat, Nat.mod_eq_of_lt (by omega)]

theorem headN_bits (n : Nat) (h : n ≤ 16777215) : bits .or .u64 ((n : Int) * 16777216) (bits .xor .u64 (n : Int) 16777215) = headN n := by
  have e := bits_xor_u64_nat n 16777215 (by omega) (by omega)
  rw [xor_mask n h] at e
  have e' : bits .xor .u64 (n : Int) 16777215 = 16777215 - (n : Int) := by
    rw [show (16777215 : Int) = ((16777215 : Nat) : Int) by rfl, e]; omega
  rw [e', headN]
  exact bits_join .u64 64 (by decide) (fun n h0 h1 => by rw [IntKind.wrap_u64]; omega) 24 _ _ (by omega) (by omega) (by omega) (by omega) (by omega) (by omega)

theorem own_zeros {w : World} {Z : Array Value} {cap : Nat} (hs : Z.size = cap) (hm : cap ≤ maxLen) : (w.drew.alloc (.cells Z 5)).ownsRow w.heap.size 5 1 (.slice (some ⟨w.heap.size, 0, none⟩) 0 cap) 0 (([] : List Int).map (Value.int .u8)) :=
  ⟨rfl, .inr ⟨w.heap.size, cap, Z, rfl, Nat.le_refl _, heap_alloc_new w.drew _, Nat.zero_le _, hm, by omega, by simp⟩⟩

theorem grow_nil (N : Int) (n : Nat) (hN : N = (n : Int)) (h : n ≤ 1000000000) (w : World) : Calls Try.prog 61 #[.slice none 0 0, .int .i64 N] w fun e w' => ∃ ao cap, e = .returned (.slice ao 0 cap) ∧ w'.ownsRow w.heap.size 5 1 (.slice ao 0 cap) 0 (([] : List Int).map (Value.int .u8)) ∧ Below w.heap.size w w' := by
  subst hN
  by_cases h0 : n = 0
  · subst h0
    go_enter Try.func61, Try.ntmps61
    go_wp2
    go_ret
    exact ⟨none, 0, rfl, ⟨rfl, .inl ⟨rfl, rfl⟩⟩, Below.refl _ _⟩
  · have hpos : (0 : Int) < n := by omega
    obtain ⟨i0, hi, hz0, hz1, hz2⟩ := info_parts Try.info5
    have happ := Lib.run_append_nil_zeros (P := Try.prog) w 23 3 23 5 i0 (.int .u8 0) .i64 .i64 Try.underlying23 Try.underlying3 hi hz0 n (by omega) (by omega) (by omega) (by rw [hz2]; omega)
    generalize hcap : grownCap w n 0 5 = cap2 at happ
    have hcapge : n ≤ cap2 := by rw [← hcap]; exact grownCap_ge w _ 0 5
    have hcaple : cap2 ≤ maxLen := by rw [← hcap]; exact grownCap_le_maxLen w _ 0 5 (by unfold maxLen; omega)
    generalize hZ : (Builtin.zeroCells (Value.int .u8 0).cells n ++ Builtin.zeroCells (Value.int .u8 0).cells (cap2 - n)) = Z at happ
    have hZs : Z.size = cap2 := by rw [← hZ]; simp [size_zeroCells, Value.cells]; omega
    clear hcap hZ
    go_enter Try.func61, Try.ntmps61
    go_wp2_with (at_builtin; refine Lib.wpList_append_run _ rfl _ _ _ _ rfl _ _ rfl rfl _ _ happ ?_)
    go_ret
    exact ⟨_, cap2, rfl, own_zeros hZs hcaple, (Below.refl _ _).drew.alloc (Nat.le_refl _) _⟩

theorem Lx.headB {w : World} {ao : Option Addr} {len cap : Nat} {l : List (List Int)} (h : Lx 1 RB w ao len cap l) (h0 : 0 < len) :
    ∃ b off, ao = some ⟨b, off, none⟩ ∧ ∀ j xs, l[j]? = some xs → ∃ eo el ec, w.cell? ⟨b, off + j, none⟩ = some (.slice eo el ec) ∧ Tx w eo el ec xs := by
  obtain ⟨b, off, rfl, hc⟩ := h.head RB.plain (by omega) h0
  refine ⟨b, off, rfl, fun j xs hx => ?_⟩
  obtain ⟨u, h1, v, rfl, eo, el, ec, rfl, t, _⟩ := hc j xs hx
  exact ⟨eo, el, ec, by simpa using h1 0 _ rfl, t⟩

theorem flat_take_succ (l : List (List Int)) (k : Nat) (xs : List Int) (h : l[k]? = some xs) : (l.take (k + 1)).flatten = (l.take k).flatten ++ xs := by
  obtain ⟨hk, rfl⟩ := List.getElem?_eq_some_iff.1 h
  rw [List.take_succ_eq_append_getElem hk, List.flatten_append, List.flatten_cons, List.flatten_nil, List.append_nil]
theorem flat_take_le (l : List (List Int)) (k : Nat) : (l.take k).flatten.length ≤ l.flatten.length := by
  have : l.flatten = (l.take k).flatten ++ (l.drop k).flatten := by rw [← List.flatten_append, List.take_append_drop]
  rw [this]; simp

set_option maxHeartbeats 1000000 in
theorem concat_any (ao : Option Addr) (len cap : Nat) (l : List (List Int)) (w : World) (h : Lx 1 RB w ao len cap l) (hf : l.flatten.length ≤ 900000000) (hlen : len ≤ 1000000) :
    Calls Try.prog 37 #[.slice ao len cap] w fun e w' => ∃ bo lb cb, e = .returned (.slice bo lb cb) ∧ Tx w' bo lb cb l.flatten ∧ Below w.heap.size w w' := by
  have hl := h.len_eq
  by_cases h0 : 0 < len
  · obtain ⟨b, off, rfl, hc⟩ := h.headB h0
    go_enter Try.func37, Try.ntmps37
    go_wp2
    go_loop [3, 5, 11] (fun s _ i => ∃ k m : Nat, k ≤ len ∧ i = .int .i64 k ∧ s = .int .i64 m ∧ m ≤ 900000000 ∧ Hid (m = (l.take k).flatten.length)) (fun _ _ i => len - (intOf i).toNat)
    case atStart => exact ⟨0, 0, by omega, rfl, rfl, by omega, by show _ = _; simp⟩
    case round =>
      obtain ⟨k, m, hk, rfl, rfl, hm9, hm⟩ := hrel
      by_cases hk2 : k < len
      · obtain ⟨eo, el, ec, c1, t1⟩ := hc k (l[k]'(by omega)) (by simp)
        have hel := t1.len_eq
        have hs := flat_take_succ l k (l[k]'(by omega)) (by simp)
        have hle := flat_take_le l (k + 1)
        rw [hs, List.length_append, ← hm.out, hel] at hle
        have hs' : Hid (m + el = (l.take (k + 1)).flatten.length) := by show _ = _; rw [hs, List.length_append, ← hm.out, hel]
        clear hs hel
        have hme : m + el ≤ 900000000 := by omega
        go_wp2
        go_round
        case rel => exact ⟨k + 1, m + el, by omega, by go_num, by go_num, hme, hs'⟩
        case measure => simp [intOf]; omega
      · have hkl : k = len := by omega
        go_wp2_with (go_at_call 61; with_reducible refine (grow_nil m m rfl (by omega) w).mono ?_; rintro e w1 ⟨ao1, cap1, rfl, hown1, hb1⟩)
        go_loopw [6, 8, 27] (fun s _ i wr => ∃ (k q : Nat) (ao2 : Option Addr) (cap2 : Nat), k ≤ len ∧ i = .int .i64 k ∧ s = .slice ao2 q cap2 ∧ q ≤ 900000000 ∧ Hid (q = (l.take k).flatten.length) ∧ wr.ownsRow w.heap.size 5 1 (.slice ao2 q cap2) q ((l.take k).flatten.map (Value.int .u8)) ∧ Hid (Bytes (l.take k).flatten) ∧ Below w.heap.size w wr) (fun _ _ i _ => len - (intOf i).toNat)
        case atStart => exact ⟨0, 0, ao1, cap1, by omega, rfl, rfl, by omega, by show _ = _; simp, by simpa using hown1, by show Bytes _; simp [Bytes], hb1⟩
        case round =>
          obtain ⟨k, q, ao2, cap2, hk, rfl, rfl, hq9, hq, hown, hby, hb⟩ := hrel
          by_cases hk2 : k < len
          · obtain ⟨eo, el, ec, c1, t1⟩ := hc k (l[k]'(by omega)) (by simp)
            have c1 := cell_later hb c1
            have t1 := t1.later hb
            have hel := t1.len_eq
            have hs := flat_take_succ l k (l[k]'(by omega)) (by simp)
            have hle := flat_take_le l (k + 1)
            rw [hs, List.length_append, ← hq.out, hel] at hle
            have hs' : Hid (q + el = (l.take (k + 1)).flatten.length) := by show _ = _; rw [hs, List.length_append, ← hq.out, hel]
            have hsH : Hid ((l.take (k + 1)).flatten = (l.take k).flatten ++ l[k]'(by omega)) := hs
            clear hs hel
            have hme : q + el ≤ 900000000 := by omega
            have hbs := hb.size
            have hbr : ∀ n ∈ (l.take k).flatten, 0 ≤ n ∧ n ≤ 255 := hby.out
            generalize l[k]'(by omega) = xs at t1 hsH
            go_wp2_with (with_reducible show wpList _ _ _ (⟨some 33, _, _, _, _, _⟩ :: _) _ _; refine wpList_append_bytes _ rfl _ _ rfl w.heap.size (.slice ao2 q cap2) q (l.take k).flatten rfl hown hbr eo el ec xs rfl t1 (by omega) hbs ?_; intro a5 l5 c5 w5 hl5 hown5 htx5 b5; subst hl5)
            go_roundw
            case rel =>
              refine ⟨k + 1, q + el, a5, c5, by omega, by go_num, rfl, by omega, hs', by rw [hsH.out]; exact hown5, by show Bytes _; rw [hsH.out]; exact Bytes.app hby.out t1.rng, hb.trans b5⟩
            case measure => simp [intOf]; omega
          · have hkl2 : k = len := by omega
            go_wp2
            go_ret
            obtain ⟨ao3, cap3, e3, htx⟩ := Tx.own hown hby.out
            simp only [Value.slice.injEq, true_and] at e3
            obtain ⟨rfl, rfl⟩ := e3
            refine ⟨_, _, _, rfl, ?_, hb⟩
            rw [hkl2, List.take_of_length_le (by omega)] at htx
            exact htx
  · obtain rfl : len = 0 := by omega
    have hl0 : l = [] := List.eq_nil_of_length_eq_zero hl
    subst hl0
    go_enter Try.func37, Try.ntmps37
    go_wp2
    refine wp_loop_rounds 1 ?_
    rw [rounds_succ]
    go_wp2_with (go_at_call 61; with_reducible refine (grow_nil 0 0 rfl (by omega) w).mono ?_; rintro e w1 ⟨ao1, cap1, rfl, hown1, hb1⟩)
    refine wp_loop_rounds 1 ?_
    rw [rounds_succ]
    go_wp2
    go_ret
    obtain ⟨ao3, cap3, e3, htx⟩ := Tx.own hown1 (by simp)
    simp only [Value.slice.injEq, true_and] at e3
    obtain ⟨rfl, rfl⟩ := e3
    exact ⟨_, _, _, rfl, htx, hb1⟩

/-- Three texts in a row of their own. -/
theorem lx_three (w : World) {A B C : Value} {x y z : List Int} (ha : BytesAt w [] A x) (hb : BytesAt w [] B y) (hc : BytesAt w [] C z) :
    Lx 1 RB (w.alloc (.cells #[A, B, C] 23)) (some ⟨w.heap.size, 0, none⟩) 3 3 [x, y, z] := by
  have hbel : Below w.heap.size w (w.alloc (.cells #[A, B, C] 23)) := (Below.refl _ _).alloc (Nat.le_refl _) _
  have hcell : ∀ j v, [A, B, C][j]? = some v → (w.alloc (.cells #[A, B, C] 23)).cell? ⟨w.heap.size, j, none⟩ = some v := fun j v hv => by
    rw [cell_of_row _ w.heap.size j #[A, B, C] 23 (0, 0) (heap_alloc_new w _)]
    simpa using hv
  refine ⟨rfl, Nat.le_refl _, by unfold maxLen; omega, fun h => (by cases h), fun ad h j e he => ?_⟩
  cases h
  have hR : ∀ (v : Value) (xs : List Int), [A, B, C][j]? = some v → BytesAt w [] v xs → e = xs → ∃ u : List Value, (∀ (i : Nat) (x : Value), u[i]? = some x → (w.alloc (.cells #[A, B, C] 23)).cell? ((⟨w.heap.size, 0, none⟩ : Addr).add (j * 1 + i)) = some x) ∧ RB (w.alloc (.cells #[A, B, C] 23)) [] u e := by
    intro v xs hv hat he
    subst he
    refine ⟨[v], fun i x hx => ?_, v, rfl, hat.off (.of_below hbel) (by simp)⟩
    have hi : i = 0 := by have := (List.getElem?_eq_some_iff.1 hx).1; simp at this; omega
    subst hi
    simp at hx
    subst hx
    rw [Addr.add_lit, Nat.zero_add, Nat.mul_one, Nat.add_zero]
    exact hcell j v hv
  match j, he with
  | 0, he => exact hR A x rfl ha (by simpa using he.symm)
  | 1, he => exact hR B y rfl hb (by simpa using he.symm)
  | 2, he => exact hR C z rfl hc (by simpa using he.symm)
  | j + 3, he => simp at he
end

section
set_option maxRecDepth 100000
open Go.RowKit

theorem Tx.drop {w : World} {b off : Nat} {len cap : Nat} {xs : List Int} (h : Tx w (some ⟨b, off, none⟩) len cap xs) (k : Nat) (hk : k ≤ len) : Tx w (some ⟨b, off + k, none⟩) (len - k) (cap - k) (xs.drop k) := by
  refine ⟨by have := h.len_eq; simp; omega, by have := h.le; omega, by have := h.top; omega, fun ha => (by cases ha), fun ad ha j hj => ?_, fun n hn => h.rng n (List.mem_of_mem_drop hn)⟩
  cases ha
  have := h.cell _ rfl (k + j) (by omega)
  rw [Addr.add_lit] at this ⊢
  rw [Nat.add_assoc, this]
  simp [List.getD]

theorem val6 (xs : List Int) (hb : Bytes xs) (h : 6 ≤ xs.length) : getN xs 6 = num3 xs * 16777216 + num3 (xs.drop 3) := by
  match xs, h, hb with
  | a :: b :: c :: d :: e :: f :: r, _, hb =>
    have ha := hb.head
    have hb1 := hb.tail.head
    have hc := hb.tail.tail.head
    have hd := hb.tail.tail.tail.head
    have he := hb.tail.tail.tail.tail.head
    have hf := hb.tail.tail.tail.tail.tail.head
    have hok : okG (a :: b :: c :: d :: e :: f :: r) 6 = true := by simp [okG]; omega
    rw [getN, if_pos hok]
    show joinB (joinB (joinB (joinB (joinB (joinB 0 a) b) c) d) e) f = _
    rw [joinB_eq 0 a (by omega) (by omega) (by omega) (by omega), joinB_eq _ b (by omega) (by omega) (by omega) (by omega), joinB_eq _ c (by omega) (by omega) (by omega) (by omega), joinB_eq _ d (by omega) (by omega) (by omega) (by omega), joinB_eq _ e (by omega) (by omega) (by omega) (by omega), joinB_eq _ f (by omega) (by omega) (by omega) (by omega)]
    simp [num3]
    omega
theorem val3 (xs : List Int) (hb : Bytes xs) (h : 3 ≤ xs.length) : getN xs 3 = num3 xs := by
  match xs, h, hb with
  | a :: b :: c :: r, _, hb =>
    have ha := hb.head
    have hb1 := hb.tail.head
    have hc := hb.tail.tail.head
    have hok : okG (a :: b :: c :: r) 3 = true := by simp [okG]; omega
    rw [getN, if_pos hok]
    show joinB (joinB (joinB 0 a) b) c = _
    rw [joinB_eq 0 a (by omega) (by omega) (by omega) (by omega), joinB_eq _ b (by omega) (by omega) (by omega) (by omega), joinB_eq _ c (by omega) (by omega) (by omega) (by omega)]
    simp [num3]
    omega

/-- A slice that has come to its end. -/
theorem Tx.ended (w : World) (ao : Addr) (n c : Nat) (h : n = 0) (hc : c ≤ maxLen) : Tx w (some ao) n c [] := ⟨by simp [h], by omega, hc, fun h => (by cases h), fun _ _ j hj => (by omega), by simp⟩

theorem get_no (K : Int) (k : Nat) (hK : K = (k : Int)) (hk : k ≤ 8) (ao : Option Addr) (l c : Nat) (ys : List Int) (w : World) (h : Tx w ao l c ys) (hl : l < k) :
    Calls Try.prog 68 #[.slice ao l c, .int .i64 K] w fun e w' => e = .returned (.tuple #[.int .u64 0, .bool false]) ∧ w = w' := by
  subst hK
  have g := getN_short k ys (by have := h.len_eq; omega)
  refine (get_any ao l c k ys w h (by omega) (by omega) (by omega)).mono ?_
  rintro e w' ⟨rfl, hw⟩
  exact ⟨by rw [g.1, g.2], hw⟩
theorem get_yes (K : Int) (k : Nat) (hK : K = (k : Int)) (hk : k ≤ 8) (ao : Option Addr) (l c : Nat) (ys : List Int) (w : World) (h : Tx w ao l c ys) (hl : ¬ l < k) (hl9 : l ≤ 1000000000) :
    Calls Try.prog 68 #[.slice ao l c, .int .i64 K] w fun e w' => e = .returned (.tuple #[.int .u64 (getN ys k), .bool true]) ∧ w = w' := by
  subst hK
  have g : okG ys k = true := by have := h.len_eq; simp [okG]; omega
  refine (get_any ao l c k ys w h (by omega) (by omega) (by omega)).mono ?_
  rintro e w' ⟨rfl, hw⟩
  exact ⟨by rw [g], hw⟩

theorem all_end {w wr : World} {xs : List Int} {out : List (List Int)} {a n : Nat} {ok : Bool} {ro : Option Addr} {rc : Nat} (hd : allL xs = (out, a, ok)) (hls : Ls 23 1 RB wr w.heap.size (.slice ro n rc) out) (hb : Below w.heap.size w wr) (code : Int) (hc : code = if ok = true then 0 else 14) :
    ∃ bo lb cb, Ending.returned (.tuple #[.slice ro n rc, .int .i64 a, .int .i64 code]) = .returned (.tuple #[.slice bo lb cb, .int .i64 (allL xs).2.1, .int .i64 (if (allL xs).2.2 = true then 0 else 14)]) ∧ Lx 1 RB wr bo lb cb (allL xs).1 ∧ Below w.heap.size w wr := by
  obtain ⟨ao, cap, e, hl⟩ := hls.read RB.stable RB.plain
  simp only [Value.slice.injEq] at e
  obtain ⟨rfl, rfl, rfl⟩ := e
  rw [hd]
  exact ⟨ro, out.length, rc, by rw [hc], hl, hb⟩

theorem rb_new {V wr : World} {ro co : Option Addr} {n rc A cc : Nat} {B : Nat} {out : List (List Int)} {X : List Int} (hls : Ls 23 1 RB wr B (.slice ro n rc) out) (t : Tx V co A cc X) (hf : ∀ ad, co = some ad → wr.heap.size ≤ ad.block) (o : Obj) : RB (V.alloc o) (own (.slice ro n rc)) [.slice co A cc] X :=
  ⟨_, rfl, (t.alloc o).at _ (fun ad ha _ hk => by have := (hls.lt _ hk).1; have := hf ad ha; omega)⟩
theorem ls_new {V wr : World} {v : Value} {B : Nat} {out : List (List Int)} (hls : Ls 23 1 RB wr B v out) (hb : Below wr.heap.size wr V) (o : Obj) : Ls 23 1 RB (V.alloc o) B v out := hls.later RB.stable (hb.alloc hb.size o)
/-- What was written in the list's own row, and what is new, leaves all that was there. -/
theorem below_one {w wr V w5 : World} {v : Value} {out : List (List Int)} {o : Obj} (hls : Ls 23 1 RB wr w.heap.size v out) (hb : Below w.heap.size w wr) (hV : Below wr.heap.size wr V) (ho : Off (own v) (V.alloc o) w5) : Below w.heap.size w w5 :=
  (hb.trans ((hV.alloc hV.size o).mono hb.size)).trans (ho.below (fun k hk => (hls.lt k hk).2) (by have := hb.size; have := hV.size; simp; omega))

theorem lx_cell_one (w : World) (v : Value) (t : TypeId) (j : Nat) (x : Value) (h : [v][j]? = some x) : (w.alloc (.cells #[v] t)).cell? ((⟨w.heap.size, 0, none⟩ : Addr).add j) = some x := cell_one_new w v t j x h
end

section
set_option maxRecDepth 100000
open Go.RowKit

theorem run_app (B : Nat) (w : World) (ty : TypeId) (v : Value) (n : Nat) (xs : List Int) (hown : w.ownsRow B 5 1 v n (xs.map (Value.int .u8)))
    (ao : Option Addr) (m c : Nat) (ys : List Int) (ht : Tx w ao m c ys) (b : n + m ≤ 1000000000) (hB : B ≤ w.heap.size) :
    ∃ v' w', (Builtin.append_ #[23, 23] ty #[v, .slice ao m c]).run Try.prog w = .ok v' w' ∧ w'.ownsRow B 5 1 v' (n + m) ((xs ++ ys).map (Value.int .u8)) ∧ Off (own v) w w' ∧ (∀ k ∈ own v', k ∈ own v ∨ w.heap.size ≤ k) := by
  obtain ⟨i, hi, hz0, hz1, hz2⟩ := info_parts Try.info5
  cases ao with
  | none =>
    obtain ⟨rfl, rfl⟩ := ht.bare rfl
    have hy : ys = [] := List.eq_nil_of_length_eq_zero ht.len_eq
    subst hy
    refine ⟨v, w, run_append_owned_none (P := Try.prog) (w := w) B 23 ty 5 i 1 Try.underlying23 hi v n _ hown, by simpa using hown, .refl _ _, fun k hk => .inl hk⟩
  | some ad =>
    obtain ⟨v', w', hrun, hown', hgrow, _, hat⟩ := run_append_own_at (P := Try.prog) w B 23 ty 5 i (.int .u8 0) 1 1 Try.underlying23 hi hz0 hz1 hz2 rfl (by decide) v n _ hown ad m c (ys.map (Value.int .u8)) (by simp [ht.len_eq])
      (fun j u hu => by
        have hjl : j < ys.length := by
          have := (List.getElem?_eq_some_iff.1 hu).1
          simpa using this
        rw [ht.cell ad rfl j (by rw [← ht.len_eq]; exact hjl)]
        simp [hjl] at hu
        simp [List.getD, hjl, hu]) (ints_oneCell _ _) (by unfold maxLen; omega) (by omega) hB
    rw [← List.map_append] at hown'
    refine ⟨v', w', hrun, hown', (Off.refl _ _).grown hgrow (fun k hk => by simp [own, hk]), fun k hk => ?_⟩
    rcases hat with e | e
    · left; unfold own at hk ⊢; rwa [e] at hk
    · right; unfold own at hk; rw [e] at hk; simp at hk; omega

theorem step_app {ops : Array Oper} {o : Oper} {a : Act} {w : World} {K : Act → World → Prop} {Q : Exit → Act → World → Prop} {E : Prop}
    (hg : o.guard = none) (s x : Operand) (hop : o.op = Op.call { callee := Callee.builtin Builtin.append, args := #[s, x], argTypes := #[23, 23] })
    (B : Nat) (v : Value) (n : Nat) (xs : List Int) (hs : a.eval s = v) (hown : w.ownsRow B 5 1 v n (xs.map (Value.int .u8)))
    (ao : Option Addr) (m c : Nat) (ys : List Int) (hx : a.eval x = .slice ao m c) (ht : Tx w ao m c ys) (b : n + m ≤ 1000000000) (hB : B ≤ w.heap.size)
    (hK : ∀ bo' cap' w', w'.ownsRow B 5 1 (.slice bo' (n + m) cap') (n + m) ((xs ++ ys).map (Value.int .u8)) → Off (own v) w w' → (∀ k ∈ own (.slice bo' (n + m) cap'), k ∈ own v ∨ w.heap.size ≤ k) → K (a.put o.dst (.slice bo' (n + m) cap')) w') :
    if Region.wanted o (yielded ops a.tmps) = true then Oper.wp Try.prog o a w K Q else E := by
  have hw : Region.wanted o (yielded ops a.tmps) = true := by simp [Region.wanted, hg]
  rw [if_pos hw]
  obtain ⟨v', w', hrun, hown', hoff, hsub⟩ := run_app B w o.type v n xs hown ao m c ys ht b hB
  obtain ⟨bo', cap', rfl⟩ := own_form hown'
  unfold Oper.wp
  simp [execOp, hop, resolve, invoke, builtin, hs, hx, hrun, Result.andThen]
  exact hK bo' cap' w' hown' hoff hsub

theorem wpList_app {ops : Array Oper} {rest : List Oper} {o : Oper} {a : Act} {w : World} {Q : Exit → Act → World → Prop}
    (hg : o.guard = none) (s x : Operand) (hop : o.op = Op.call { callee := Callee.builtin Builtin.append, args := #[s, x], argTypes := #[23, 23] })
    (B : Nat) (v : Value) (n : Nat) (xs : List Int) (hs : a.eval s = v) (hown : w.ownsRow B 5 1 v n (xs.map (Value.int .u8)))
    (ao : Option Addr) (m c : Nat) (ys : List Int) (hx : a.eval x = .slice ao m c) (ht : Tx w ao m c ys) (b : n + m ≤ 1000000000) (hB : B ≤ w.heap.size)
    (hK : ∀ bo' cap' w', w'.ownsRow B 5 1 (.slice bo' (n + m) cap') (n + m) ((xs ++ ys).map (Value.int .u8)) → Off (own v) w w' → (∀ k ∈ own (.slice bo' (n + m) cap'), k ∈ own v ∨ w.heap.size ≤ k) → wpList Try.prog ops Q rest (a.put o.dst (.slice bo' (n + m) cap')) w') :
    wpList Try.prog ops Q (o :: rest) a w := by
  refine wpList_plain hg fun K hKK => ?_
  obtain ⟨v', w', hrun, hown', hoff, hsub⟩ := run_app B w o.type v n xs hown ao m c ys ht b hB
  obtain ⟨bo', cap', rfl⟩ := own_form hown'
  unfold Oper.wp
  simp [execOp, hop, resolve, invoke, builtin, hs, hx, hrun, Result.andThen]
  exact hKK _ _ (hK bo' cap' w' hown' hoff hsub)
end

section
set_option maxRecDepth 100000
open Go.RowKit

theorem Lx.headE {w : World} {ao : Option Addr} {len cap : Nat} {l : List Ent} (h : Lx 3 RE w ao len cap l) (h0 : 0 < len) :
    ∃ b off, ao = some ⟨b, off, none⟩ ∧ ∀ j e, l[j]? = some e → ∃ ko kl kc vo vl vc, w.cell? ⟨b, off + j * 3, none⟩ = some (.slice ko kl kc) ∧ w.cell? ⟨b, off + j * 3 + 1, none⟩ = some (.slice vo vl vc) ∧ w.cell? ⟨b, off + j * 3 + 2, none⟩ = some (.bool e.g) ∧ Tx w ko kl kc e.k ∧ Tx w vo vl vc e.v := by
  obtain ⟨b, off, rfl, hc⟩ := h.head RE.plain (by omega) h0
  refine ⟨b, off, rfl, fun j e he => ?_⟩
  obtain ⟨u, h1, k, v, rfl, ⟨ko, kl, kc, rfl, tk, _⟩, ⟨vo, vl, vc, rfl, tv, _⟩⟩ := hc j e he
  exact ⟨ko, kl, kc, vo, vl, vc, by simpa using h1 0 _ rfl, by simpa [Nat.add_assoc] using h1 1 _ rfl, by simpa [Nat.add_assoc] using h1 2 _ rfl, tk, tv⟩

theorem own_later {w w' : World} {B : Nat} {v : Value} {n : Nat} {xs : List Value} (h : w.ownsRow B 5 1 v n xs) (hb : Below w.heap.size w w') : w'.ownsRow B 5 1 v n xs := rows_offB (S := []) h (.of_below hb) (by simp)

/-- A text that lies below B. -/
structure TxB (B : Nat) (w : World) (ao : Option Addr) (l c : Nat) (xs : List Int) : Prop where
  tx : Tx w ao l c xs
  low : ∀ ad, ao = some ad → 0 < l → ad.block < B
theorem TxB.later {B : Nat} {w w' : World} {ao : Option Addr} {l c : Nat} {xs : List Int} (h : TxB B w ao l c xs) (hb : Below B w w') : TxB B w' ao l c xs :=
  ⟨⟨h.1.len_eq, h.1.le, h.1.top, h.1.bare, fun ad ha j hj => by
    rw [World.cell?_of_block (w := w) (hb.block (ad.add j).block (by rw [add_block]; exact h.2 ad ha (by omega)))]; exact h.1.cell ad ha j hj, h.1.rng⟩, h.2⟩
theorem Tx.low {w : World} {ao : Option Addr} {l c : Nat} {xs : List Int} (h : Tx w ao l c xs) : TxB w.heap.size w ao l c xs := ⟨h, fun ad ha h0 => h.lt ad ha h0⟩

/-- Bytes that the call owns, from B on. -/
structure Gr (B : Nat) (w : World) (ao : Option Addr) (n cap : Nat) (xs : List Int) : Prop where
  own : w.ownsRow B 5 1 (.slice ao n cap) n (xs.map (Value.int .u8))
  rng : ∀ x ∈ xs, 0 ≤ x ∧ x ≤ 255
  hB : B ≤ w.heap.size
/-- What was owned as v is owned as v': nothing else has turned. -/
structure Moves (v v' : Value) (w w' : World) : Prop where
  off : Off (own v) w w'
  sub : ∀ k ∈ own v', k ∈ own v ∨ w.heap.size ≤ k

theorem Gr.nil (w : World) : Gr w.heap.size w none 0 0 [] := ⟨⟨rfl, .inl ⟨rfl, rfl⟩⟩, by simp, Nat.le_refl _⟩
theorem Gr.len {B : Nat} {w : World} {ao : Option Addr} {n cap : Nat} {xs : List Int} (h : Gr B w ao n cap xs) : xs.length = n := by simpa using h.own.1
theorem Gr.later {B : Nat} {w w' : World} {ao : Option Addr} {n cap : Nat} {xs : List Int} (h : Gr B w ao n cap xs) (hb : Below w.heap.size w w') : Gr B w' ao n cap xs := ⟨own_later h.own hb, h.rng, Nat.le_trans h.hB hb.size⟩
theorem Gr.alloc {B : Nat} {w : World} {ao : Option Addr} {n cap : Nat} {xs : List Int} (h : Gr B w ao n cap xs) (o : Obj) : Gr B (w.alloc o) ao n cap xs := h.later ((Below.refl _ _).alloc (Nat.le_refl _) o)
theorem Gr.lt {B : Nat} {w : World} {ao : Option Addr} {n cap : Nat} {xs : List Int} (h : Gr B w ao n cap xs) : ∀ k ∈ Go.Proofs.Yteeemfohehpaeaa.own (.slice ao n cap), k < w.heap.size ∧ B ≤ k := own_lt h.own
theorem Gr.tx {B : Nat} {w : World} {ao : Option Addr} {n cap : Nat} {xs : List Int} (h : Gr B w ao n cap xs) : Tx w ao n cap xs := by
  obtain ⟨ao', cap', e, t⟩ := Tx.own h.own h.rng
  simp only [Value.slice.injEq, true_and] at e
  obtain ⟨rfl, rfl⟩ := e
  exact t
theorem gr_le {B B' : Nat} {w w' : World} {a a' : Option Addr} {n n' c c' : Nat} {xs L : List Int} (g : Gr B w a n c xs) (g' : Gr B' w' a' n' c' (xs ++ L)) {m q : Nat} (h : L.length = m) (hq : n + m ≤ q) : n' ≤ q := by
  have h1 := g.len
  have h2 := g'.len
  rw [List.length_append] at h2
  omega
theorem Moves.refl (v : Value) (w : World) : Moves v v w w := ⟨.refl _ _, fun _ h => .inl h⟩
theorem Moves.trans {u v x : Value} {a b c : World} (h : Moves u v a b) (k : Moves v x b c) : Moves u x a c := by
  refine ⟨⟨k.off.os.trans h.off.os, k.off.tape.trans h.off.tape, k.off.output.trans h.off.output, Nat.le_trans h.off.size k.off.size, fun i hi hn => ?_⟩, fun i hi => ?_⟩
  · rw [k.off.block i (Nat.lt_of_lt_of_le hi h.off.size) (fun e => ?_), h.off.block i hi hn]
    rcases h.sub i e with e | e
    · exact hn e
    · omega
  · rcases k.sub i hi with e | e
    · exact h.sub i e
    · exact .inr (Nat.le_trans h.off.size e)
theorem Moves.of_below {v : Value} {w w' : World} (h : Below w.heap.size w w') : Moves v v w w' := ⟨.of_below h, fun _ h => .inl h⟩
theorem Moves.below {B : Nat} {w w' : World} {ao : Option Addr} {n cap : Nat} {xs : List Int} {v' : Value} (h : Moves (.slice ao n cap) v' w w') (g : Gr B w ao n cap xs) : Below B w w' := h.off.below (fun k hk => (g.lt k hk).2) g.hB
theorem Moves.cell {v v' : Value} {w w' : World} (h : Moves v v' w w') {bx j : Nat} {u : Value} (hc : w.cell? ⟨bx, j, none⟩ = some u) (hn : bx ∉ own v) : w'.cell? ⟨bx, j, none⟩ = some u := h.off.cell hc hn
theorem Moves.out {v v' : Value} {w w' : World} (h : Moves v v' w w') {bx : Nat} (hn : bx ∉ own v) (hl : bx < w.heap.size) : bx ∉ own v' := fun e => (h.sub bx e).elim hn (fun h => by omega)

/-- 'append(out, b...)'. -/
theorem wpList_gr {ops : Array Oper} {rest : List Oper} {o : Oper} {a : Act} {w : World} {Q : Exit → Act → World → Prop}
    (hg : o.guard = none) (s x : Operand) (hop : o.op = Op.call { callee := Callee.builtin Builtin.append, args := #[s, x], argTypes := #[23, 23] })
    (B : Nat) (bo : Option Addr) (n cap : Nat) (xs : List Int) (hs : a.eval s = .slice bo n cap) (h : Gr B w bo n cap xs)
    (ao : Option Addr) (m c : Nat) (ys : List Int) (hx : a.eval x = .slice ao m c) (ht : Tx w ao m c ys) (b : n + m ≤ 1000000000)
    (hK : ∀ bo' n' cap' w', Hid (n' = n + m) → Gr B w' bo' n' cap' (xs ++ ys) → Moves (.slice bo n cap) (.slice bo' n' cap') w w' → wpList Try.prog ops Q rest (a.put o.dst (.slice bo' n' cap')) w') :
    wpList Try.prog ops Q (o :: rest) a w :=
  wpList_app hg s x hop B (.slice bo n cap) n xs hs h.own ao m c ys hx ht b h.hB (fun bo' cap' w' h1 h2 h3 => hK bo' _ cap' w' rfl ⟨h1, fun x hx => (List.mem_append.1 hx).elim (h.rng x) (ht.rng x), Nat.le_trans h.hB h2.size⟩ ⟨h2, h3⟩)

theorem addnum_any (B : Nat) (ao : Option Addr) (n cap : Nat) (xs : List Int) (M : Int) (m : Nat) (hM : M = (m : Int)) (K : Int) (k : Nat) (hK : K = (k : Int)) (hk : k ≤ 8) (hm : m ≤ 1000000000) (w : World) (g : Gr B w ao n cap xs) (hn : n ≤ 900000000) (L : List Int) (hL : low k m = L) :
    Calls Try.prog 57 #[.slice ao n cap, .int .i64 M, .int .i64 K] w fun e w' => ∃ ao' n' cap', e = .returned (.slice ao' n' cap') ∧ Gr B w' ao' n' cap' (xs ++ L) ∧ Moves (.slice ao n cap) (.slice ao' n' cap') w w' := by
  subst hM hK
  have hc : clampN (k : Int) = k := by unfold clampN; omega
  have hput := put_any none 0 0 (m : Int) (k : Int) [] w (Tx.nil w) (by omega) (by omega) (by omega) (by omega) (by omega)
  rw [hc, List.nil_append, hL] at hput
  have hlk : L.length = k := by rw [← hL]; exact length_low _ _
  go_enter Try.func57, Try.ntmps57
  go_wp2_with (first
    | (go_at_call 36; with_reducible refine hput.mono ?_; rintro e w1 ⟨bo, lb, cb, rfl, t1, b1⟩; have hlb := t1.len_eq; have g1 := g.later b1)
    | (with_reducible show wpList _ _ _ (⟨some 12, _, _, _, _, _⟩ :: _) _ _; refine wpList_gr rfl _ _ rfl B ao n cap xs rfl g1 bo lb cb L rfl t1 (by omega) ?_; intro a5 l5 c5 w5 hl5 g5 m5))
  go_ret
  exact ⟨a5, l5, c5, rfl, g5, (Moves.of_below b1).trans m5⟩

/-- An entry in a box of its own: its three cells. -/
structure Box (w : World) (bx : Nat) (k v : Value) (g : Bool) : Prop where
  c0 : w.cell? ⟨bx, 0, none⟩ = some k
  c1 : w.cell? ⟨bx, 1, none⟩ = some v
  c2 : w.cell? ⟨bx, 2, none⟩ = some (.bool g)
theorem Box.new (w : World) (k v : Value) (g : Bool) : Box (w.alloc (.cells #[k, v, .bool g] 25)) w.heap.size k v g := by
  have h : ∀ j u, [k, v, .bool g][j]? = some u → (w.alloc (.cells #[k, v, .bool g] 25)).cell? ⟨w.heap.size, j, none⟩ = some u := fun j u hu => by
    rw [cell_of_row _ w.heap.size j _ 25 (0, 0) (heap_alloc_new w _)]
    simpa using hu
  exact ⟨h 0 k rfl, h 1 v rfl, h 2 _ rfl⟩
theorem Box.lt {w : World} {bx : Nat} {k v : Value} {g : Bool} (h : Box w bx k v g) : bx < w.heap.size := World.block_lt_of_cell? _ _ h.c0
theorem Box.moves {w w' : World} {bx : Nat} {k v x y : Value} {g : Bool} (h : Box w bx k v g) (m : Moves x y w w') (hn : bx ∉ own x) : Box w' bx k v g ∧ bx ∉ own y := ⟨⟨m.cell h.c0 hn, m.cell h.c1 hn, m.cell h.c2 hn⟩, m.out hn h.lt⟩
theorem Box.later {w w' : World} {bx : Nat} {k v : Value} {g : Bool} (h : Box w bx k v g) (hb : Below w.heap.size w w') : Box w' bx k v g := ⟨cell_later hb h.c0, cell_later hb h.c1, cell_later hb h.c2⟩
theorem fresh_own {B : Nat} {w : World} {ao : Option Addr} {n cap : Nat} {xs : List Int} (g : Gr B w ao n cap xs) : w.heap.size ∉ own (.slice ao n cap) := fun h => by have := (g.lt _ h).1; omega

theorem encE_gone (e : Ent) (h : e.g = true) : encE e = [0] ++ [(e.k.length : Int)] ++ e.k := by simp [encE, h]
theorem encE_there (e : Ent) (h : e.g = false) : encE e = [1] ++ [(e.k.length : Int)] ++ e.k ++ low 2 e.v.length ++ e.v := by simp [encE, h]
end

section
set_option maxRecDepth 100000
open Go.RowKit

theorem batch_take_succ (l : List Ent) (k : Nat) (e : Ent) (h : l[k]? = some e) : (l.take (k + 1)).flatMap encE = (l.take k).flatMap encE ++ encE e := by
  obtain ⟨hk, rfl⟩ := List.getElem?_eq_some_iff.1 h
  rw [List.take_succ_eq_append_getElem hk, List.flatMap_append, List.flatMap_cons, List.flatMap_nil, List.append_nil]
theorem flat_take_small (l : List Ent) (k : Nat) (h1 : l.length ≤ 8191) (h : ∀ e ∈ l, fitsE e = true) : ((l.take k).flatMap encE).length ≤ 40000000 := by
  have := flat_length (l.take k) (fun e he => h e (List.mem_of_mem_take he))
  rw [List.length_take] at this; omega

theorem TxB.mono {B C : Nat} {w : World} {ao : Option Addr} {l c : Nat} {xs : List Int} (h : TxB B w ao l c xs) (hBC : B ≤ C) : TxB C w ao l c xs := ⟨h.tx, fun ad ha h0 => Nat.lt_of_lt_of_le (h.low ad ha h0) hBC⟩
theorem TxB.alloc {B : Nat} {w : World} {ao : Option Addr} {l c : Nat} {xs : List Int} (h : TxB B w ao l c xs) (o : Obj) : TxB B (w.alloc o) ao l c xs := ⟨h.tx.alloc o, h.low⟩

theorem may_no {l : List Ent} {k : Nat} {e : Ent} (h : l[k]? = some e) (hf : fitsE e = false) : mayL l = false := by
  cases hm : mayL l with
  | false => rfl
  | true =>
    have := ((mayL_iff l).1 hm).2 e (List.mem_of_getElem? h)
    rw [hf] at this
    cases this
end

section
set_option maxRecDepth 100000
open Go.RowKit

/-- A row that bears the mark of a constant's bytes. -/
theorem tx_mark (w : World) (cs : Array Value) (fr : Nat × Nat) (xs : List Int) (n : Nat) (hc : cs = (xs.map (Value.int .u8)).toArray) (hn : xs.length = n) (hm : n ≤ 1000000) (hr : ∀ x ∈ xs, 0 ≤ x ∧ x ≤ 255) :
    Tx (w.alloc (.cells cs 5 fr)) (some ⟨w.heap.size, 0, none⟩) n n xs := by
  subst hc; subst hn
  refine ⟨rfl, Nat.le_refl _, by unfold maxLen; omega, fun h => (by cases h), fun ad ha j hj => ?_, hr⟩
  cases ha
  rw [Addr.add_lit, Nat.zero_add, World.cell?_alloc_mark]
  simp [List.getD, hj]

theorem conv_a (w : World) : (convert 23 23 (.slice (some ⟨w.heap.size, 0, none⟩) 1 1)).run Try.prog (w.alloc (.cells #[.int .u8 97] 5)) = .ok (.slice (some ⟨w.heap.size, 0, none⟩) 1 1) (w.alloc (.cells #[.int .u8 97] 5 (1, 2))) :=
  Lib.run_convert_bytes_const w 23 5 #[.int .u8 97] 1 1 Try.underlying23 Try.underlying5
end

section
set_option maxRecDepth 100000
open Go.RowKit

/-- An element that lies in none of the blocks X either. -/
def Rx {α : Type} (X : List Nat) (R : Reads α) : Reads α := fun w S u e => R w (S ++ X) u e
theorem Rx.st {α : Type} (X : List Nat) {R : Reads α} (h : Stable R) : Stable (Rx X R) := by
  intro w w' S S' u e hr ho hs
  refine h _ _ _ _ _ _ hr (ho.mono (fun k hk => List.mem_append_left _ hk)) (fun k hk => ?_)
  rcases List.mem_append.1 hk with hk | hk
  · exact (hs k hk).imp_left (List.mem_append_left _)
  · exact .inl (List.mem_append_right _ hk)
theorem Rx.pl {α : Type} {c : Nat} (X : List Nat) {R : Reads α} (h : Plain c R) : Plain c (Rx X R) := fun w S u e hr => h w (S ++ X) u e hr
theorem Rx.weak {α : Type} {X : List Nat} {R : Reads α} (h : Stable R) {w : World} {S : List Nat} {u : List Value} {e : α} (hr : Rx X R w S u e) : R w S u e := h _ _ _ _ _ _ hr (.refl _ _) (fun _ hk => .inl (List.mem_append_left _ hk))

/-- A list that is read and that lies in none of the blocks X. -/
structure Lv {α : Type} (c : Nat) (R : Reads α) (X : List Nat) (w : World) (ao : Option Addr) (len cap : Nat) (es : List α) : Prop where
  lx : Lx c (Rx X R) w ao len cap es
  out : ∀ ad, ao = some ad → 0 < len → ad.block ∉ X

theorem Lx.weak {α : Type} {c : Nat} {R : Reads α} {X : List Nat} (hst : Stable R) {w : World} {ao : Option Addr} {len cap : Nat} {es : List α} (h : Lx c (Rx X R) w ao len cap es) : Lx c R w ao len cap es :=
  ⟨h.len_eq, h.le, h.top, h.bare, fun ad ha j e he => by
    obtain ⟨u, h1, h2⟩ := h.cell ad ha j e he
    exact ⟨u, h1, Rx.weak hst h2⟩⟩
theorem Lv.read {α : Type} {c : Nat} {R : Reads α} {X : List Nat} (hst : Stable R) {w : World} {ao : Option Addr} {len cap : Nat} {es : List α} (h : Lv c R X w ao len cap es) : Lx c R w ao len cap es := h.lx.weak hst

theorem Lv.off {α : Type} {c : Nat} {R : Reads α} {X X' : List Nat} (hst : Stable R) (hc : Plain c R) (h0 : 0 < c) {w w' : World} {ao : Option Addr} {len cap : Nat} {es : List α} (h : Lv c R X w ao len cap es) (ho : Off X w w') (hs : ∀ k ∈ X', k ∈ X ∨ w.heap.size ≤ k) : Lv c R X' w' ao len cap es := by
  have hlen := h.lx.len_eq
  refine ⟨⟨h.lx.len_eq, h.lx.le, h.lx.top, h.lx.bare, fun ad ha j e he => ?_⟩, fun ad ha hl hk => ?_⟩
  · obtain ⟨u, h1, h2⟩ := h.lx.cell ad ha j e he
    have hj := (List.getElem?_eq_some_iff.1 he).1
    exact ⟨u, fun i x hx => ho.cell (h1 i x hx) (by rw [add_block]; exact h.out ad ha (by omega)), hst _ _ _ _ _ _ h2 (by simpa using ho) (by simpa using hs)⟩
  · rcases hs _ hk with e | e
    · exact h.out ad ha hl e
    · obtain ⟨u, h1, h2⟩ := h.lx.cell ad ha 0 (es[0]'(by omega)) (by simp)
      have hu := (hc _ _ _ _ h2).1
      have := World.block_lt_of_cell? _ _ (h1 0 (u[0]'(by omega)) (by simp))
      rw [add_block] at this
      omega
theorem Lv.later {α : Type} {c : Nat} {R : Reads α} {X : List Nat} (hst : Stable R) {w w' : World} {ao : Option Addr} {len cap : Nat} {es : List α} (h : Lv c R X w ao len cap es) (hb : Below w.heap.size w w') : Lv c R X w' ao len cap es := ⟨h.lx.later (Rx.st X hst) hb, h.out⟩
theorem Lv.mono {α : Type} {c : Nat} {R : Reads α} {X X' : List Nat} (hst : Stable R) (hc : Plain c R) (h0 : 0 < c) {w : World} {ao : Option Addr} {len cap : Nat} {es : List α} (h : Lv c R X w ao len cap es) (hs : ∀ k ∈ X', k ∈ X ∨ w.heap.size ≤ k) : Lv c R X' w ao len cap es := h.off hst hc h0 (.refl _ _) hs
theorem Lv.nil {α : Type} (c : Nat) (R : Reads α) (X : List Nat) (w : World) : Lv c R X w none 0 0 [] := ⟨Lx.nil _ _ _, fun _ h => by cases h⟩
theorem Lv.take {α : Type} {c : Nat} {R : Reads α} {X : List Nat} {w : World} {ao : Option Addr} {len cap : Nat} {es : List α} (h : Lv c R X w ao len cap es) (k : Nat) (hk : k ≤ len) : Lv c R X w ao k cap (es.take k) := ⟨h.lx.take k hk, fun ad ha h0 => h.out ad ha (by omega)⟩

/-- A list that the call has made, read. -/
theorem Ls.lv {α : Type} {T c : Nat} {R : Reads α} {X : List Nat} (hst : Stable R) (hp : Plain c R) {w : World} {B n : Nat} {ao : Option Addr} {cap : Nat} {es : List α} (h : Ls T c (Rx X R) w B (.slice ao n cap) es) (hX : ∀ k ∈ X, k < B) : Lv c R X w ao n cap es := by
  obtain ⟨ao', cap', e, hl⟩ := h.read (Rx.st X hst) (Rx.pl X hp)
  simp only [Value.slice.injEq] at e
  obtain ⟨rfl, rfl, rfl⟩ := e
  refine ⟨hl, fun ad ha h0 hk => ?_⟩
  obtain ⟨us, _, ho, _⟩ := h
  rcases ho.2 with ⟨h1, _⟩ | ⟨g, cap2, cur, h1, hb, _⟩
  · simp only [Value.slice.injEq] at h1
    rw [h1.1] at ha; cases ha
  · simp only [Value.slice.injEq] at h1
    rw [h1.1] at ha
    cases ha
    have := hX _ hk
    simp at this
    omega

/-- All of a list's blocks are below the heap's end. -/
theorem Lx.low {w : World} {ao : Option Addr} {len cap : Nat} {es : List Ent} (h : Lx 3 RE w ao len cap es) (X : List Nat) (hX : ∀ k ∈ X, w.heap.size ≤ k) : Lv 3 RE X w ao len cap es := by
  refine Lv.mono (X := []) RE.stable RE.plain (by omega) ⟨⟨h.len_eq, h.le, h.top, h.bare, fun ad ha j e he => ?_⟩, fun _ _ _ => by simp⟩ (fun k hk => .inr (hX k hk))
  exact h.cell ad ha j e he

set_option maxHeartbeats 1000000 in
theorem concat_far (ao : Option Addr) (len cap : Nat) (l : List (List Int)) (w : World) (h : Lx 1 RB w ao len cap l) (hf : l.flatten.length ≤ 900000000) (hlen : len ≤ 1000000) (h0 : 0 < len) :
    Calls Try.prog 37 #[.slice ao len cap] w fun e w' => ∃ bo lb cb, e = .returned (.slice bo lb cb) ∧ Tx w' bo lb cb l.flatten ∧ (∀ ad, bo = some ad → 0 < lb → w.heap.size ≤ ad.block) ∧ Below w.heap.size w w' := by
  have hl := h.len_eq
  · obtain ⟨b, off, rfl, hc⟩ := h.headB h0
    go_enter Try.func37, Try.ntmps37
    go_wp2
    go_loop [3, 5, 11] (fun s _ i => ∃ k m : Nat, k ≤ len ∧ i = .int .i64 k ∧ s = .int .i64 m ∧ m ≤ 900000000 ∧ Hid (m = (l.take k).flatten.length)) (fun _ _ i => len - (intOf i).toNat)
    case atStart => exact ⟨0, 0, by omega, rfl, rfl, by omega, by show _ = _; simp⟩
    case round =>
      obtain ⟨k, m, hk, rfl, rfl, hm9, hm⟩ := hrel
      by_cases hk2 : k < len
      · obtain ⟨eo, el, ec, c1, t1⟩ := hc k (l[k]'(by omega)) (by simp)
        have hel := t1.len_eq
        have hs := flat_take_succ l k (l[k]'(by omega)) (by simp)
        have hle := flat_take_le l (k + 1)
        rw [hs, List.length_append, ← hm.out, hel] at hle
        have hs' : Hid (m + el = (l.take (k + 1)).flatten.length) := by show _ = _; rw [hs, List.length_append, ← hm.out, hel]
        clear hs hel
        have hme : m + el ≤ 900000000 := by omega
        go_wp2
        go_round
        case rel => exact ⟨k + 1, m + el, by omega, by go_num, by go_num, hme, hs'⟩
        case measure => simp [intOf]; omega
      · have hkl : k = len := by omega
        go_wp2_with (go_at_call 61; with_reducible refine (grow_nil m m rfl (by omega) w).mono ?_; rintro e w1 ⟨ao1, cap1, rfl, hown1, hb1⟩)
        go_loopw [6, 8, 27] (fun s _ i wr => ∃ (k q : Nat) (ao2 : Option Addr) (cap2 : Nat), k ≤ len ∧ i = .int .i64 k ∧ s = .slice ao2 q cap2 ∧ q ≤ 900000000 ∧ Hid (q = (l.take k).flatten.length) ∧ wr.ownsRow w.heap.size 5 1 (.slice ao2 q cap2) q ((l.take k).flatten.map (Value.int .u8)) ∧ Hid (Bytes (l.take k).flatten) ∧ Below w.heap.size w wr) (fun _ _ i _ => len - (intOf i).toNat)
        case atStart => exact ⟨0, 0, ao1, cap1, by omega, rfl, rfl, by omega, by show _ = _; simp, by simpa using hown1, by show Bytes _; simp [Bytes], hb1⟩
        case round =>
          obtain ⟨k, q, ao2, cap2, hk, rfl, rfl, hq9, hq, hown, hby, hb⟩ := hrel
          by_cases hk2 : k < len
          · obtain ⟨eo, el, ec, c1, t1⟩ := hc k (l[k]'(by omega)) (by simp)
            have c1 := cell_later hb c1
            have t1 := t1.later hb
            have hel := t1.len_eq
            have hs := flat_take_succ l k (l[k]'(by omega)) (by simp)
            have hle := flat_take_le l (k + 1)
            rw [hs, List.length_append, ← hq.out, hel] at hle
            have hs' : Hid (q + el = (l.take (k + 1)).flatten.length) := by show _ = _; rw [hs, List.length_append, ← hq.out, hel]
            have hsH : Hid ((l.take (k + 1)).flatten = (l.take k).flatten ++ l[k]'(by omega)) := hs
            clear hs hel
            have hme : q + el ≤ 900000000 := by omega
            have hbs := hb.size
            have hbr : ∀ n ∈ (l.take k).flatten, 0 ≤ n ∧ n ≤ 255 := hby.out
            generalize l[k]'(by omega) = xs at t1 hsH
            go_wp2_with (with_reducible show wpList _ _ _ (⟨some 33, _, _, _, _, _⟩ :: _) _ _; refine wpList_append_bytes _ rfl _ _ rfl w.heap.size (.slice ao2 q cap2) q (l.take k).flatten rfl hown hbr eo el ec xs rfl t1 (by omega) hbs ?_; intro a5 l5 c5 w5 hl5 hown5 htx5 b5; subst hl5)
            go_roundw
            case rel =>
              refine ⟨k + 1, q + el, a5, c5, by omega, by go_num, rfl, by omega, hs', by rw [hsH.out]; exact hown5, by show Bytes _; rw [hsH.out]; exact Bytes.app hby.out t1.rng, hb.trans b5⟩
            case measure => simp [intOf]; omega
          · have hkl2 : k = len := by omega
            go_wp2
            go_ret
            obtain ⟨ao3, cap3, e3, htx⟩ := Tx.own hown hby.out
            simp only [Value.slice.injEq, true_and] at e3
            obtain ⟨rfl, rfl⟩ := e3
            refine ⟨_, _, _, rfl, ?_, fun ad ha hq0 => ?_, hb⟩
            · rw [hkl2, List.take_of_length_le (by omega)] at htx
              exact htx
            · obtain ⟨g, hg, hge⟩ := own_head hown hq0
              rw [hg] at ha
              cases ha
              exact hge
end

section
set_option maxRecDepth 100000
open Go.ChangeShapes Go.WideShapes Go.ChangeAt Go.RowKit Go.Deep

theorem Try.cells5 : Try.prog.cellsOf 5 = 1 := by kernel_rfl
theorem Try.cells23 : Try.prog.cellsOf 23 = 1 := by kernel_rfl
theorem Try.cells4 : Try.prog.cellsOf 4 = 1 := by kernel_rfl
theorem Try.cells25 : Try.prog.cellsOf 25 = 3 := by kernel_rfl
theorem Try.laidOut : laidOutB Try.prog = true := by kernel_rfl
theorem Try.readable23 : Try.prog.readableRec 23 = true := by kernel_rfl
theorem Try.row23 : 23 < Try.prog.types.size := of_decide_eq_true (by kernel_rfl)
theorem Try.readable67 : Try.prog.readableRec 67 = true := by kernel_rfl
theorem Try.row67 : 67 < Try.prog.types.size := of_decide_eq_true (by kernel_rfl)
theorem Try.readable22 : Try.prog.readableRec 22 = true := by kernel_rfl
theorem Try.row22 : 22 < Try.prog.types.size := of_decide_eq_true (by kernel_rfl)
def fieldsOf (d : Option TypeDesc) : List (TypeId × Nat) := match d with | some (.struct fs) => fs.toList.map (fun f => (f.type, f.offset)) | _ => []
theorem fields28 : fieldsOf (Try.prog.underlying 25) = [(23, 0), (23, 1), (4, 2)] := by kernel_rfl
theorem und28 : ∃ fs : Array Field, Try.prog.underlying 25 = some (.struct fs) ∧ fs.toList.map (fun f => (f.type, f.offset)) = [(23, 0), (23, 1), (4, 2)] := by
  have h := fields28
  unfold fieldsOf at h
  split at h
  · rename_i fs e; exact ⟨fs, e, h⟩
  · cases h

theorem open_tx {H : Type} {enc : TypeId × Value → H} {W : World} {base : Nat} {v : Value} {d : DataW H} {p : List MemPlace} (hval : Value.okWide Try.prog W .any base 23 v) (h : DataW.Trod enc Try.prog W 0 (fun _ => true) true 23 v d p) :
    ∃ ao la ca xs, v = .slice ao la ca ∧ Tx W ao la ca xs := by
  obtain ⟨a1, len, cap, rfl⟩ := okWide_slice Try.underlying23 hval
  obtain ⟨fuel, hf⟩ := h
  rcases open_ints Try.underlying23 Try.underlying5 Try.cells5 hf with ⟨hcs, _⟩ | ⟨a, len', cap', zs, hcs, _, hl, hm, hz, _, hcell, hwz⟩
  · simp [Value.cells] at hcs
    obtain ⟨rfl, rfl, rfl⟩ := hcs
    exact ⟨none, 0, 0, [], rfl, Tx.nil W⟩
  · simp [Value.cells] at hcs
    obtain ⟨rfl, rfl, rfl⟩ := hcs
    simp only [if_true] at hz
    refine ⟨some a, len, cap, zs.take len, rfl, ⟨by simp; omega, hl, hm, fun h => (by cases h), fun ad ha j hj => ?_, fun n hn => ?_⟩⟩
    · cases ha
      rw [hcell j (by omega)]
      simp [List.getD, hj]
    · have := hwz n (List.mem_of_mem_take hn)
      simp [Lit.wf] at this
      have e1 : IntKind.u8.min = 0 := by decide
      have e2 : IntKind.u8.max = 255 := by decide
      omega

theorem tx_of_trod {H : Type} {enc : TypeId × Value → H} {W : World} {fuel : Nat} {v : Value} {x : DataW H × List MemPlace} (hf : DataW.trod enc Try.prog W 0 (fun _ => true) true fuel 23 [v] = some x) :
    ∃ ao la ca xs, v = .slice ao la ca ∧ Tx W ao la ca xs := by
  rcases open_ints Try.underlying23 Try.underlying5 Try.cells5 hf with ⟨hcs, _⟩ | ⟨a, len', cap', zs, hcs, _, hl, hm, hz, _, hcell, hwz⟩
  · simp at hcs
    subst hcs
    exact ⟨none, 0, 0, [], rfl, Tx.nil W⟩
  · simp at hcs
    subst hcs
    simp only [if_true] at hz
    refine ⟨some a, len', cap', zs.take len', rfl, ⟨by simp; omega, hl, hm, fun h => (by cases h), fun ad ha j hj => ?_, fun n hn => ?_⟩⟩
    · cases ha
      rw [hcell j (by omega)]
      simp [List.getD, hj]
    · have := hwz n (List.mem_of_mem_take hn)
      simp [Lit.wf] at this
      have e1 : IntKind.u8.min = 0 := by decide
      have e2 : IntKind.u8.max = 255 := by decide
      omega

theorem field_at {fs : Array Field} {l : List (TypeId × Nat)} (h : fs.toList.map (fun f => (f.type, f.offset)) = l) (i : Nat) (t : TypeId) (o : Nat) (hi : l[i]? = some (t, o)) : ∃ f, fs[i]? = some f ∧ f.type = t ∧ f.offset = o := by
  rw [← h] at hi
  simp at hi
  obtain ⟨f, hf, h1, h2⟩ := hi
  exact ⟨f, hf, h1, h2⟩

theorem ent_of_trod {H : Type} {enc : TypeId × Value → H} {W : World} {fuel : Nat} {cs : List Value} {x : DataW H × List MemPlace} (hf : DataW.trod enc Try.prog W 0 (fun _ => true) true fuel 25 cs = some x) :
    ∃ e : Ent, RE W [] cs e := by
  obtain ⟨fs, hu, hfs⟩ := und28
  obtain ⟨xs, n, _, _, hl, hlen, hx⟩ := DataW.trod_struct hu hf
  rw [Try.cells25] at hl
  have hsz : xs.length = 3 := by
    have := congrArg List.length hfs
    simp at this
    omega
  match cs, hl with
  | [k, v, g], _ =>
    obtain ⟨f0, a0, b0, c0⟩ := field_at hfs 0 23 0 rfl
    obtain ⟨f1, a1, b1, c1⟩ := field_at hfs 1 23 1 rfl
    obtain ⟨f2, a2, b2, c2⟩ := field_at hfs 2 4 2 rfl
    have h0 := hx 0 f0 a0
    have h1 := hx 1 f1 a1
    have h2 := hx 2 f2 a2
    rw [b0, c0, Try.cells23] at h0
    rw [b1, c1, Try.cells23] at h1
    rw [b2, c2, Try.cells4] at h2
    obtain ⟨y0, e0⟩ : ∃ y, xs[0]? = some y := ⟨_, List.getElem?_eq_getElem (by omega)⟩
    obtain ⟨y1, e1⟩ : ∃ y, xs[1]? = some y := ⟨_, List.getElem?_eq_getElem (by omega)⟩
    obtain ⟨y2, e2⟩ : ∃ y, xs[2]? = some y := ⟨_, List.getElem?_eq_getElem (by omega)⟩
    rw [e0] at h0
    rw [e1] at h1
    rw [e2] at h2
    simp at h0 h1 h2
    obtain ⟨ko, kl, kc, kx, rfl, tk⟩ := tx_of_trod h0
    obtain ⟨vo, vl, vc, vx, rfl, tv⟩ := tx_of_trod h1
    obtain ⟨b, hb, _⟩ := DataW.trod_bool Try.underlying4 h2
    simp at hb
    subst hb
    exact ⟨⟨kx, vx, b⟩, _, _, rfl, tk.at [] (by simp), tv.at [] (by simp)⟩

theorem open_bx {H : Type} {enc : TypeId × Value → H} {W : World} {base : Nat} {v : Value} {d : DataW H} {p : List MemPlace} (hval : Value.okWide Try.prog W .any base 67 v) (h : DataW.Trod enc Try.prog W 0 (fun _ => true) true 67 v d p) :
    ∃ ao la ca xs, v = .slice ao la ca ∧ Lx 1 RB W ao la ca xs := by
  obtain ⟨a1, len, cap, rfl⟩ := okWide_slice Try.underlying67 hval
  obtain ⟨fuel, hf⟩ := h
  rcases open_slice1 Try.underlying67 Try.cells23 hf with ⟨hcs, _⟩ | ⟨a, len', cap', m, n, V, D, Pl, hcs, _, hl, hm, hmm, _, hx⟩
  · simp [Value.cells] at hcs
    obtain ⟨rfl, rfl, rfl⟩ := hcs
    exact ⟨none, 0, 0, [], rfl, Lx.nil _ _ _⟩
  · simp [Value.cells] at hcs
    obtain ⟨rfl, rfl, rfl⟩ := hcs
    simp only [if_true] at hmm
    have hall : ∀ i, ∃ xs : List Int, i < len → RB W [] [V i] xs := by
      intro i
      by_cases hi : i < len
      · obtain ⟨hc, ht⟩ := hx i (by omega)
        obtain ⟨eo, el, ec, xs, hv, t⟩ := tx_of_trod ht
        exact ⟨xs, fun _ => ⟨_, rfl, by rw [hv]; exact t.at [] (by simp)⟩⟩
      · exact ⟨[], fun h => absurd h hi⟩
    obtain ⟨f, hall⟩ := Classical.skolem.1 hall
    refine ⟨some a, len, cap, (List.range len).map f, rfl, ⟨by simp, hl, hm, fun h => (by cases h), fun ad ha j e he => ?_⟩⟩
    cases ha
    have hj : j < len := by have := (List.getElem?_eq_some_iff.1 he).1; simpa using this
    simp [hj] at he
    subst he
    refine ⟨[V j], fun i x hx' => ?_, hall j hj⟩
    have hi : i = 0 := by have := (List.getElem?_eq_some_iff.1 hx').1; simp at this; omega
    subst hi
    simp at hx'
    subst hx'
    rw [Nat.mul_one, Nat.add_zero]
    exact (hx j (by omega)).1

theorem add_add (a : Addr) (i j : Nat) : (a.add i).add j = a.add (i + j) := by
  by_cases hj : j = 0
  · subst hj; simp [Addr.add]
  · by_cases hi : i = 0
    · subst hi; simp [Addr.add]
    · simp [Addr.add, hi, hj, Nat.add_assoc]

theorem open_ex {H : Type} {enc : TypeId × Value → H} {W : World} {base : Nat} {v : Value} {d : DataW H} {p : List MemPlace} (hval : Value.okWide Try.prog W .any base 22 v) (h : DataW.Trod enc Try.prog W 0 (fun _ => true) true 22 v d p) :
    ∃ ao la ca xs, v = .slice ao la ca ∧ Lx 3 RE W ao la ca xs := by
  obtain ⟨a1, len, cap, rfl⟩ := okWide_slice Try.underlying22 hval
  obtain ⟨fuel, hf⟩ := h
  rcases open_slice Try.underlying22 hf with ⟨hcs, _⟩ | ⟨a, len', cap', m, n, D, Pl, hcs, _, hl, hm, hmm, _, hx⟩
  · simp [Value.cells] at hcs
    obtain ⟨rfl, rfl, rfl⟩ := hcs
    exact ⟨none, 0, 0, [], rfl, Lx.nil _ _ _⟩
  · simp [Value.cells] at hcs
    obtain ⟨rfl, rfl, rfl⟩ := hcs
    simp only [if_true] at hmm
    rw [Try.cells25] at hx
    have hall : ∀ i, ∃ e : Ent, i < len → ∃ u : List Value, (∀ (k : Nat) (x : Value), u[k]? = some x → W.cell? (a.add (i * 3 + k)) = some x) ∧ RE W [] u e := by
      intro i
      by_cases hi : i < len
      · obtain ⟨cs', hc, ht⟩ := hx i (by omega)
        obtain ⟨e, he⟩ := ent_of_trod ht
        obtain ⟨_, hcl, hcell⟩ := World.cells?_some hc
        exact ⟨e, fun _ => ⟨cs', fun k x hk => by
          have hk3 : k < 3 := by have := (List.getElem?_eq_some_iff.1 hk).1; omega
          rw [← add_add, hcell k hk3]; exact hk, he⟩⟩
      · exact ⟨⟨[], [], false⟩, fun h => absurd h hi⟩
    obtain ⟨f, hall⟩ := Classical.skolem.1 hall
    refine ⟨some a, len, cap, (List.range len).map f, rfl, ⟨by simp, hl, hm, fun h => (by cases h), fun ad ha j e he => ?_⟩⟩
    cases ha
    have hj : j < len := by have := (List.getElem?_eq_some_iff.1 he).1; simpa using this
    simp [hj] at he
    subst he
    exact hall j hj
end

end Go.Proofs.Yteeemfohehpaeaa
