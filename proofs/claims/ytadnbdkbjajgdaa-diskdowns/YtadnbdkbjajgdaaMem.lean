/- Memory that a thing owns, block by block: what is written elsewhere leaves it as it was. A disk in memory. -/
import Derived.Test.YtadnbdkbjajgdaaRow
namespace Go.Proofs.Ytadnbdkbjajgdaa
open Go.RowKit

/-- All blocks that were there, but those of S, are as they were. -/
structure Off (S : List Nat) (w w' : World) : Prop where
  os : w'.os = w.os
  tape : w'.tape = w.tape
  output : w'.output = w.output
  size : w.heap.size ≤ w'.heap.size
  block : ∀ k, k < w.heap.size → k ∉ S → w'.heap[k]? = w.heap[k]?

theorem Off.refl (S : List Nat) (w : World) : Off S w w := ⟨rfl, rfl, rfl, Nat.le_refl _, fun _ _ _ => rfl⟩
theorem Off.of_below {S : List Nat} {w w' : World} (h : Below w.heap.size w w') : Off S w w' := ⟨h.os, h.tape, h.output, h.size, fun k hk _ => h.block k hk⟩
theorem Off.drew {S : List Nat} {a w : World} (h : Off S a w) : Off S a w.drew := ⟨h.os, h.tape, h.output, h.size, h.block⟩
theorem Off.drewN {S : List Nat} {a w : World} (h : Off S a w) (n : Nat) : Off S a (w.drewN n) := ⟨h.os, h.tape, h.output, h.size, h.block⟩
theorem Off.mono {S T : List Nat} {w w' : World} (h : Off S w w') (hs : ∀ k ∈ S, k ∈ T) : Off T w w' := ⟨h.os, h.tape, h.output, h.size, fun k hk hn => h.block k hk (fun e => hn (hs k e))⟩
theorem Off.trans {S : List Nat} {a b c : World} (h : Off S a b) (k : Off S b c) : Off S a c :=
  ⟨k.os.trans h.os, k.tape.trans h.tape, k.output.trans h.output, Nat.le_trans h.size k.size, fun i hi hn => (k.block i (Nat.lt_of_lt_of_le hi h.size) hn).trans (h.block i hi hn)⟩
theorem Off.setCell {S : List Nat} {a w : World} (h : Off S a w) {p : Addr} (hp : p.block ∈ S) (u : Value) : Off S a (w.setCell p u) :=
  h.trans ⟨rfl, rfl, rfl, by simp [World.setCell], fun k _ hn => Below.heap_setCell _ _ _ _ (fun e => hn (e ▸ hp))⟩
theorem Off.alloc {S : List Nat} {a w : World} (h : Off S a w) (o : Obj) : Off S a (w.alloc o) :=
  h.trans ⟨rfl, rfl, rfl, by simp, fun k hk _ => Below.heap_alloc _ _ _ hk⟩
theorem Off.grown {S : List Nat} {a w w' : World} {row : Option Nat} (h : Off S a w) (hg : w.grownBy w' row) (hr : ∀ k, row = some k → k ∈ S) : Off S a w' :=
  h.trans ⟨hg.os, hg.tape, hg.output, hg.size, fun k hk hn => hg.block k hk (fun e => hn (hr k e.symm))⟩
theorem Off.below {S : List Nat} {B : Nat} {w w' : World} (h : Off S w w') (hs : ∀ k ∈ S, B ≤ k) (hB : B ≤ w.heap.size) : Below B w w' :=
  ⟨h.os, h.tape, h.output, h.size, fun k hk => h.block k (by omega) (fun e => by have := hs k e; omega)⟩
theorem Off.cell {S : List Nat} {w w' : World} (h : Off S w w') {a : Addr} {v : Value} (hc : w.cell? a = some v) (hn : a.block ∉ S) : w'.cell? a = some v := by
  rw [World.cell?_of_block (w := w) (h.block a.block (World.block_lt_of_cell? _ _ hc) hn)]; exact hc

/-- What is owned turns from S to S', and nothing else turns. -/
structure Step (S S' : List Nat) (w w' : World) : Prop where
  off : Off S w w'
  sub : ∀ k ∈ S', k ∈ S ∨ w.heap.size ≤ k
theorem Step.refl (S : List Nat) (w : World) : Step S S w w := ⟨.refl _ _, fun _ h => .inl h⟩
theorem Step.of_below {S : List Nat} {w w' : World} (h : Below w.heap.size w w') : Step S S w w' := ⟨.of_below h, fun _ h => .inl h⟩
theorem Step.trans {S S' S'' : List Nat} {a b c : World} (h : Step S S' a b) (k : Step S' S'' b c) : Step S S'' a c := by
  refine ⟨⟨k.off.os.trans h.off.os, k.off.tape.trans h.off.tape, k.off.output.trans h.off.output, Nat.le_trans h.off.size k.off.size, fun i hi hn => ?_⟩, fun i hi => ?_⟩
  · rw [k.off.block i (Nat.lt_of_lt_of_le hi h.off.size) (fun e => ?_), h.off.block i hi hn]
    rcases h.sub i e with e | e
    · exact hn e
    · omega
  · rcases k.sub i hi with e | e
    · exact h.sub i e
    · exact .inr (Nat.le_trans h.off.size e)
theorem Step.from {S S' : List Nat} {B : Nat} {w w' : World} (h : Step S S' w w') (hs : ∀ k ∈ S, B ≤ k) (hB : B ≤ w.heap.size) : ∀ k ∈ S', B ≤ k := by
  intro k hk
  rcases h.sub k hk with e | e
  · exact hs k e
  · omega
theorem Step.below {S S' : List Nat} {B : Nat} {w w' : World} (h : Step S S' w w') (hs : ∀ k ∈ S, B ≤ k) (hB : B ≤ w.heap.size) : Below B w w' := h.off.below hs hB

/-- A slice's own block, as a list. -/
def own (v : Value) : List Nat := v.ownBlock.toList

theorem rows_off {S : List Nat} {w w' : World} {e : TypeId} {size : Nat} {v : Value} {n : Nat} {xs : List Value} (h : w.ownsRow 0 e size v n xs) (ho : Off S w w') (hd : ∀ k ∈ own v, k ∉ S) : w'.ownsRow 0 e size v n xs := by
  refine ⟨h.1, ?_⟩
  rcases h.2 with h | ⟨g, cap, cur, rfl, hb, hg, r⟩
  · exact .inl h
  · exact .inr ⟨g, cap, cur, rfl, hb, by rw [ho.block g (Array.getElem?_eq_some_iff.1 hg).1 (hd g (by simp [own, Value.ownBlock]))]; exact hg, r⟩

theorem own_lt {w : World} {base : Nat} {e : TypeId} {size : Nat} {v : Value} {n : Nat} {xs : List Value} (h : w.ownsRow base e size v n xs) : ∀ k ∈ own v, k < w.heap.size ∧ base ≤ k := by
  rcases h.2 with ⟨rfl, _⟩ | ⟨g, cap, cur, rfl, hb, hg, r⟩
  · simp [own, Value.ownBlock]
  · intro k hk
    simp [own, Value.ownBlock] at hk
    subst hk
    exact ⟨(Array.getElem?_eq_some_iff.1 hg).1, hb⟩

/-- Three cells a file. -/
def fcells : List Fl → List Value → List Value
  | f :: l, v :: vs => .string f.name :: v :: .int .i64 f.synced :: fcells l vs
  | _, _ => []

theorem fcells_length : ∀ (l : List Fl) (vs : List Value), vs.length = l.length → (fcells l vs).length = l.length * 3
  | [], [], _ => rfl
  | f :: l, v :: vs, h => by simp [fcells, fcells_length l vs (by simpa using h)]; omega
theorem fcells_append : ∀ (l m : List Fl) (vs us : List Value), vs.length = l.length → fcells (l ++ m) (vs ++ us) = fcells l vs ++ fcells m us
  | [], _, [], _, _ => rfl
  | f :: l, m, v :: vs, us, h => by simp [fcells, fcells_append l m vs us (by simpa using h)]
theorem fcells_at : ∀ (l : List Fl) (vs : List Value) (i : Nat) (f : Fl) (v : Value), l[i]? = some f → vs[i]? = some v →
    (fcells l vs)[i * 3]? = some (.string f.name) ∧ (fcells l vs)[i * 3 + 1]? = some v ∧ (fcells l vs)[i * 3 + 2]? = some (.int .i64 f.synced)
  | f :: l, v :: vs, 0, _, _, h, k => by simp at h k; subst h k; simp [fcells]
  | f :: l, v :: vs, i + 1, f', v', h, k => by
    have := fcells_at l vs i f' v' (by simpa using h) (by simpa using k)
    rw [show (i + 1) * 3 = i * 3 + 1 + 1 + 1 by omega]
    simpa [fcells] using this

/-- The files' data: each its own. -/
def Datas (w : World) : List Fl → List Value → Prop
  | f :: l, v :: vs => w.ownsRow 0 5 1 v f.data.length (f.data.map (Value.int .u8)) ∧ Datas w l vs
  | [], [] => True
  | _, _ => False

theorem Datas.len {w : World} : ∀ {l : List Fl} {vs : List Value}, Datas w l vs → vs.length = l.length
  | [], [], _ => rfl
  | _ :: _, _ :: _, h => by simp [Datas.len h.2]
  | [], _ :: _, h => h.elim
  | _ :: _, [], h => h.elim
theorem Datas.at {w : World} : ∀ {l : List Fl} {vs : List Value}, Datas w l vs → ∀ (i : Nat) (f : Fl), l[i]? = some f → ∃ v, vs[i]? = some v ∧ w.ownsRow 0 5 1 v f.data.length (f.data.map (Value.int .u8))
  | f :: l, v :: vs, h, 0, f', e => by simp at e; subst e; exact ⟨v, rfl, h.1⟩
  | f :: l, v :: vs, h, i + 1, f', e => by
    obtain ⟨u, hu, r⟩ := Datas.at h.2 i f' (by simpa using e)
    exact ⟨u, by simpa using hu, r⟩
  | [], [], _, i, f', e => by simp at e
theorem datas_append {w : World} : ∀ {l m : List Fl} {vs us : List Value}, Datas w l vs → Datas w m us → Datas w (l ++ m) (vs ++ us)
  | [], _, [], _, _, k => k
  | _ :: _, _, _ :: _, _, h, k => ⟨h.1, datas_append h.2 k⟩
  | [], _, _ :: _, _, h, _ => h.elim
  | _ :: _, _, [], _, h, _ => h.elim
theorem Datas.take {w : World} : ∀ {l : List Fl} {vs : List Value} (i : Nat), Datas w l vs → Datas w (l.take i) (vs.take i)
  | [], [], i, _ => by simp [Datas]
  | _ :: _, _ :: _, 0, _ => by simp [Datas]
  | _ :: _, _ :: _, i + 1, h => ⟨h.1, Datas.take i h.2⟩
  | [], _ :: _, _, h => h.elim
  | _ :: _, [], _, h => h.elim
theorem Datas.drop {w : World} : ∀ {l : List Fl} {vs : List Value} (i : Nat), Datas w l vs → Datas w (l.drop i) (vs.drop i)
  | [], [], i, _ => by simp [Datas]
  | _ :: _, _ :: _, 0, h => h
  | _ :: _, _ :: _, i + 1, h => Datas.drop i h.2
  | [], _ :: _, _, h => h.elim
  | _ :: _, [], _, h => h.elim
theorem Datas.off {S : List Nat} {w w' : World} (ho : Off S w w') : ∀ {l : List Fl} {vs : List Value}, Datas w l vs → (∀ k ∈ vs.flatMap own, k ∉ S) → Datas w' l vs
  | [], [], _, _ => trivial
  | _ :: _, v :: vs, h, hd => ⟨rows_off h.1 ho (fun k hk => hd k (by simp [hk])), Datas.off ho h.2 (fun k hk => hd k (by rw [List.flatMap_cons]; exact List.mem_append_right _ hk))⟩
  | [], _ :: _, h, _ => h.elim
  | _ :: _, [], h, _ => h.elim
theorem Datas.lt {w : World} : ∀ {l : List Fl} {vs : List Value}, Datas w l vs → ∀ k ∈ vs.flatMap own, k < w.heap.size
  | [], [], _ => by simp
  | _ :: _, v :: vs, h => by
    intro k hk
    rw [List.flatMap_cons] at hk
    rcases List.mem_append.1 hk with hk | hk
    · exact (own_lt h.1 k hk).1
    · exact Datas.lt h.2 k hk
  | [], _ :: _, h => h.elim
  | _ :: _, [], h => h.elim

/-- The disk d lies at block pb of w: its own cell, its list of files, the files' bytes: S are the blocks of all of these, each once. -/
structure Dk (w : World) (pb : Nat) (d : Dm) (fv : Value) (vs : List Value) (S : List Nat) : Prop where
  ok : d.Ok
  head : w.heap[pb]? = some (.cells #[.int .i64 d.limit, fv, .int .i64 d.left, .bool d.down] 61 (0, 0))
  rows : w.ownsRow 0 69 3 fv d.files.length (fcells d.files vs)
  datas : Datas w d.files vs
  whole : S = pb :: (own fv ++ vs.flatMap own)
  once : S.Nodup

theorem Dk.keep {T : List Nat} {w w' : World} {pb : Nat} {d : Dm} {fv : Value} {vs : List Value} {S : List Nat} (h : Dk w pb d fv vs S) (ho : Off T w w') (hd : ∀ k ∈ S, k ∉ T) : Dk w' pb d fv vs S := by
  have hw := h.whole
  refine ⟨h.ok, ?_, rows_off h.rows ho (fun k hk => hd k (by rw [hw]; simp [hk])), h.datas.off ho (fun k hk => hd k (by rw [hw]; exact List.mem_cons_of_mem _ (List.mem_append_right _ hk))), hw, h.once⟩
  rw [ho.block pb (Array.getElem?_eq_some_iff.1 h.head).1 (hd pb (by rw [hw]; simp))]; exact h.head
theorem Dk.later {w w' : World} {pb : Nat} {d : Dm} {fv : Value} {vs : List Value} {S : List Nat} (h : Dk w pb d fv vs S) (hb : Below w.heap.size w w') : Dk w' pb d fv vs S := h.keep (T := []) (.of_below hb) (fun _ _ => by simp)

theorem Dk.lt {w : World} {pb : Nat} {d : Dm} {fv : Value} {vs : List Value} {S : List Nat} (h : Dk w pb d fv vs S) : ∀ k ∈ S, k < w.heap.size := by
  intro k hk
  rw [h.whole] at hk
  rcases List.mem_cons.1 hk with rfl | hk
  · exact (Array.getElem?_eq_some_iff.1 h.head).1
  · rcases List.mem_append.1 hk with hk | hk
    · exact (own_lt h.rows k hk).1
    · exact h.datas.lt k hk

theorem Dk.drew {w : World} {pb : Nat} {d : Dm} {fv : Value} {vs : List Value} {S : List Nat} (h : Dk w pb d fv vs S) : Dk w.drew pb d fv vs S := h.keep (T := []) (Off.refl _ _).drew (fun _ _ => by simp)
theorem Dk.drewN {w : World} {pb : Nat} {d : Dm} {fv : Value} {vs : List Value} {S : List Nat} (h : Dk w pb d fv vs S) (n : Nat) : Dk (w.drewN n) pb d fv vs S := h.keep (T := []) ((Off.refl _ _).drewN n) (fun _ _ => by simp)
theorem Step.drew {S S' : List Nat} {a w : World} (h : Step S S' a w) : Step S S' a w.drew := ⟨h.off.drew, h.sub⟩
theorem Step.drewN {S S' : List Nat} {a w : World} (h : Step S S' a w) (n : Nat) : Step S S' a (w.drewN n) := ⟨h.off.drewN n, h.sub⟩

section
variable {w : World} {pb : Nat} {d : Dm} {fv : Value} {vs : List Value} {S : List Nat}
theorem Dk.c0 (h : Dk w pb d fv vs S) : w.cell? ⟨pb, 0, none⟩ = some (.int .i64 d.limit) := by rw [cell_of_row w pb 0 _ 61 (0, 0) h.head]; rfl
theorem Dk.c1 (h : Dk w pb d fv vs S) : w.cell? ⟨pb, 1, none⟩ = some fv := by rw [cell_of_row w pb 1 _ 61 (0, 0) h.head]; rfl
theorem Dk.c2 (h : Dk w pb d fv vs S) : w.cell? ⟨pb, 2, none⟩ = some (.int .i64 d.left) := by rw [cell_of_row w pb 2 _ 61 (0, 0) h.head]; rfl
theorem Dk.c3 (h : Dk w pb d fv vs S) : w.cell? ⟨pb, 3, none⟩ = some (.bool d.down) := by rw [cell_of_row w pb 3 _ 61 (0, 0) h.head]; rfl
theorem Dk.z (h : Dk w pb d fv vs S) (k : Nat) : w.frozen? ⟨pb, k, none⟩ = false := frozen_of_row w pb k _ 61 h.head
theorem Dk.mem (h : Dk w pb d fv vs S) : pb ∈ S := by rw [h.whole]; simp
end

end Go.Proofs.Ytadnbdkbjajgdaa
