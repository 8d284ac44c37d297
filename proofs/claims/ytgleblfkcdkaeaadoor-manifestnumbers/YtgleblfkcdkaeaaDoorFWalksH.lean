/- The walk of marigraphkeep.Entries. -/
import Derived.Test.YtgleblfkcdkaeaaDoorFWalksG
namespace Go.Proofs.YtgleblfkcdkaeaaDoor
open Go.RowKit

/-- No more bytes than these; none without a key. -/
def cutE (k v : Nat) (e : Ent) : Ent := ⟨if (e.k.take k).length = 0 then [107] else e.k.take k, if e.g = true then [] else e.v.take v, e.g⟩
def keepL (n k v : Nat) (l : List Ent) : List Ent := (l.take n).map (cutE k v)

theorem cut_at (ao : Option Addr) (la ca : Nat) (N : Int) (n : Nat) (xs : List Int) (w : World) (hN : N = (n : Int)) (ha : Tx w ao la ca xs) (hn : n ≤ 1000) :
    Calls Tryd.prog 20 #[.slice ao la ca, .int .i64 N] w fun e w' => ∃ l, e = .returned (.slice ao l ca) ∧ l ≤ n ∧ Tx w ao l ca (xs.take n) ∧ w = w' := by
  subst hN
  refine (cut_any ao la ca n xs w ha (by omega)).mono ?_
  rintro e w' ⟨l, he, hl, ht, hw⟩
  exact ⟨l, he, hl, ht, hw.symm⟩

theorem held2 {wr V : World} {p q : Addr} {x y : Value} (c0 : wr.cell? p = some x) (c2 : wr.cell? q = some y) (hb : Below wr.heap.size wr V) : V.cell? p = some x ∧ V.cell? q = some y ∧ Below wr.heap.size wr V := ⟨cell_later hb c0, cell_later hb c2, hb⟩

/-- A box that may be written. -/
structure Boxf (w : World) (bx : Nat) (k v : Value) (g : Bool) : Prop where
  c0 : w.cell? ⟨bx, 0, none⟩ = some k
  c1 : w.cell? ⟨bx, 1, none⟩ = some v
  c2 : w.cell? ⟨bx, 2, none⟩ = some (.bool g)
  z : ∀ j, w.frozen? ⟨bx, j, none⟩ = false
theorem Boxf.new (w : World) (k v : Value) (g : Bool) : Boxf (w.alloc (.cells #[k, v, .bool g] 24)).drew w.heap.size k v g :=
  ⟨(Box.new w k v g).c0, (Box.new w k v g).c1, (Box.new w k v g).c2, fun j => frozen_of_row (w.alloc (.cells #[k, v, .bool g] 24)) w.heap.size j _ 24 (heap_alloc_new w _)⟩
theorem Boxf.lt {w : World} {bx : Nat} {k v : Value} {g : Bool} (h : Boxf w bx k v g) : bx < w.heap.size := World.block_lt_of_cell? _ _ h.c0

theorem keep_drew {w : World} {ao : Option Addr} {l c : Nat} {xs : List Int} (h : Tx w.drew ao l c xs) : Tx w ao l c xs := ⟨h.len_eq, h.le, h.top, h.bare, h.cell, h.rng⟩
theorem cut_w {w : World} {ao : Option Addr} {l c : Nat} {xs : List Int} (h : Tx w ao l c xs) (n l2 : Nat) (h2 : l2 = (xs.take n).length) : Tx w ao l2 c (xs.take n) := by
  subst h2
  have hl := h.len_eq
  by_cases hn : n ≤ l
  · have := h.take n hn
    rwa [show (xs.take n).length = n by simp; omega]
  · rw [List.take_of_length_le (by omega), hl]; exact h
theorem keepL_succ (l : List Ent) (j k v : Nat) (e : Ent) (h : l[j]? = some e) : keepL (j + 1) k v l = keepL j k v l ++ [cutE k v e] := by
  obtain ⟨hk, rfl⟩ := List.getElem?_eq_some_iff.1 h
  rw [keepL, keepL, List.take_succ_eq_append_getElem hk, List.map_append]; rfl
theorem keepL_len (l : List Ent) (j k v : Nat) (h : j ≤ l.length) : (keepL j k v l).length = j := by simp [keepL]; omega

theorem ls_ent {X wr : World} {v : Value} {B : Nat} {es : List Ent} (hls : Ls 24 3 RE wr B v es) (hb : Below wr.heap.size wr X) (o : Obj) : Ls 24 3 RE (X.alloc o) B v es := hls.later RE.stable (hb.alloc hb.size o)
theorem re_ent {X wr : World} {v : Value} {B : Nat} {es : List Ent} (hls : Ls 24 3 RE wr B v es) {ao bo : Option Addr} {la ca lb cb : Nat} {e : Ent} {G : Bool} (hG : G = e.g) (ta : Tx X ao la ca e.k) (tb : Tx X bo lb cb e.v)
    (fa : ∀ ad, ao = some ad → 0 < la → ad.block < B ∨ wr.heap.size ≤ ad.block) (fb : ∀ ad, bo = some ad → 0 < lb → ad.block < B ∨ wr.heap.size ≤ ad.block) (o : Obj) : RE (X.alloc o) (own v) [.slice ao la ca, .slice bo lb cb, .bool G] e :=
  ⟨_, _, by rw [hG], (ta.alloc o).at _ (fun ad ha h0 hk => by have := hls.lt _ hk; have := fa ad ha h0; omega), (tb.alloc o).at _ (fun ad ha h0 hk => by have := hls.lt _ hk; have := fb ad ha h0; omega)⟩
theorem cells3_new (X : World) (a b c : Value) : ∀ j x, [a, b, c][j]? = some x → (X.alloc (.cells #[a, b, c] 24)).cell? ((⟨X.heap.size, 0, none⟩ : Addr).add j) = some x := fun j x hx => by
  rw [Addr.add_lit, Nat.zero_add, cell_of_row _ X.heap.size j _ 24 (0, 0) (heap_alloc_new X _)]
  simpa using hx
theorem cells3_at (X : World) (g : Nat) (hg : g = X.heap.size) (a b c : Value) : ∀ j x, [a, b, c][j]? = some x → (X.alloc (.cells #[a, b, c] 24)).cell? ((⟨g, 0, none⟩ : Addr).add j) = some x := by subst hg; exact cells3_new X a b c
theorem tx_one_at (Z : World) (g : Nat) (hg : g = Z.heap.size) (x : Int) (h : 0 ≤ x ∧ x ≤ 255) : Tx (Z.alloc (.cells #[.int .u8 x] 5)) (some ⟨g, 0, none⟩) 1 1 [x] := by subst hg; exact tx_one Z x h
theorem tx_beside {X : World} {ao : Option Addr} {l c bx i : Nat} {xs : List Int} (t : Tx X ao l c xs) (hne : ∀ ad, ao = some ad → 0 < l → ad.block ≠ bx) (u : Value) : Tx (X.setCell ⟨bx, i, none⟩ u) ao l c xs :=
  t.off ((Off.refl [bx] X).setCell (p := ⟨bx, i, none⟩) (by simp) u) (fun ad ha h0 hk => by simp at hk; exact hne ad ha h0 hk)
theorem below_ent {w wr X w5 : World} {v : Value} {es : List Ent} {o : Obj} (hls : Ls 24 3 RE wr w.heap.size v es) (hb : Below w.heap.size w wr) (hX : Below wr.heap.size wr X) (ho : Off (own v) (X.alloc o) w5) : Below w.heap.size w w5 :=
  (hb.trans ((hX.alloc hX.size o).mono hb.size)).trans (ho.below (fun k hk => (hls.lt k hk).2) (by have := hb.size; have := hX.size; simp; omega))
theorem size_ent {w wr X : World} (o : Obj) (hb : Below w.heap.size w wr) (hX : Below wr.heap.size wr X) : w.heap.size ≤ (X.alloc o).heap.size := by have := hb.size; have := hX.size; simp; omega

end Go.Proofs.YtgleblfkcdkaeaaDoor
