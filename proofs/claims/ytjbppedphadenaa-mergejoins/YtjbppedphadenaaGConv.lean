/- A text of one sign, as bytes; rows of entries that a call lays. -/
import Derived.Test.YtjbppedphadenaaMOwn
namespace Go.Proofs.Ytjbppedphadenaa
set_option maxRecDepth 100000
open Go.RowKit Go.Sort

/-- A text of one sign, as bytes. -/
theorem wpList_conv1 {ops : Array Oper} {rest : List Oper} {o : Oper} {a : Act} {w : World} {Q : Exit → Act → World → Prop}
    (hg : o.guard = none) (x : Operand) (hop : o.op = .convert 24 24 x) (V : World) (b : Nat) (n : Int) (hb : b = V.heap.size) (hx : a.eval x = .slice (some ⟨b, 0, none⟩) 1 1) (hw : w = V.alloc (.cells #[.int .u8 n] 5)) (h1 : 0 ≤ n) (h2 : n ≤ 255)
    (hK : ∀ W, Tx W (some ⟨b, 0, none⟩) 1 1 [n] → Below V.heap.size V W → wpList Try.prog ops Q rest (a.put o.dst (.slice (some ⟨b, 0, none⟩) 1 1)) W) :
    wpList Try.prog ops Q (o :: rest) a w := by
  subst hb hw
  refine wpList_plain hg fun K hKK => ?_
  have hrun := Lib.run_convert_bytes_const (P := Try.prog) V 24 5 #[.int .u8 n] 1 1 Try.underlying24 Try.underlying5
  unfold Oper.wp
  simp [execOp, hop, hx, hrun, Result.andThen]
  exact hKK _ _ (hK _ (tx_mark V #[.int .u8 n] (1, 2) [n] 1 rfl rfl (by omega) (by simp; omega)) ((Below.refl _ _).alloc (Nat.le_refl _) _))
theorem cells_at (V : World) (cs : Array Value) (t : TypeId) (j : Nat) (x : Value) (h : cs[j]? = some x) : (V.alloc (.cells cs t)).cell? ⟨V.heap.size, j, none⟩ = some x := by
  rw [cell_of_row _ V.heap.size j cs t (0, 0) (heap_alloc_new V _)]; exact h
theorem lv_ent_two (X : List Nat) (V : World) (hX : ∀ q ∈ X, q < V.heap.size) {k v k2 v2 : Value} {e e2 : Ent} (hk : BytesAt V X k e.k) (hv : BytesAt V X v e.v) (hk2 : BytesAt V X k2 e2.k) (hv2 : BytesAt V X v2 e2.v) (G G2 : Bool) (hG : G = e.g) (hG2 : G2 = e2.g) : Lv 3 RE X (V.alloc (.cells #[k, v, .bool G, k2, v2, .bool G2] 26)) (some ⟨V.heap.size, 0, none⟩) 2 2 [e, e2] := by
  have hb : Below V.heap.size V (V.alloc (.cells #[k, v, .bool G, k2, v2, .bool G2] 26)) := (Below.refl _ _).alloc (Nat.le_refl _) _
  refine ⟨⟨rfl, Nat.le_refl _, by unfold maxLen; omega, fun h => (by cases h), fun ad ha j x hx => ?_⟩, fun ad ha _ hk => by cases ha; have := hX _ hk; simp at this⟩
  cases ha
  have hj : j < 2 := by have := (List.getElem?_eq_some_iff.1 hx).1; simpa using this
  have hj2 : j = 0 ∨ j = 1 := by omega
  rcases hj2 with rfl | rfl
  · simp at hx
    subst hx
    refine ⟨[k, v, .bool G], fun i y hy => ?_, k, v, by rw [hG], hk.off (.of_below hb) (fun q hq => .inl (by simpa using hq)), hv.off (.of_below hb) (fun q hq => .inl (by simpa using hq))⟩
    have hi : i < 3 := by have := (List.getElem?_eq_some_iff.1 hy).1; simpa using this
    rw [Addr.add_lit, Nat.zero_mul, Nat.zero_add, Nat.zero_add]
    refine cells_at V _ 26 i y ?_
    have h3 : i = 0 ∨ i = 1 ∨ i = 2 := by omega
    rcases h3 with rfl | rfl | rfl <;> simpa using hy
  · simp at hx
    subst hx
    refine ⟨[k2, v2, .bool G2], fun i y hy => ?_, k2, v2, by rw [hG2], hk2.off (.of_below hb) (fun q hq => .inl (by simpa using hq)), hv2.off (.of_below hb) (fun q hq => .inl (by simpa using hq))⟩
    have hi : i < 3 := by have := (List.getElem?_eq_some_iff.1 hy).1; simpa using this
    rw [Addr.add_lit, Nat.zero_add]
    refine cells_at V _ 26 _ y ?_
    have h3 : i = 0 ∨ i = 1 ∨ i = 2 := by omega
    rcases h3 with rfl | rfl | rfl <;> simpa using hy
/-- An operation under && whose guard said yes. -/
theorem wpList_unguard {P : Program} {ops : Array Oper} {Q : Exit → Act → World → Prop} {a : Act} {w : World} {rest : List Oper} {o : Oper}
    (hw : Region.wanted o (yielded ops a.tmps) = true) (h : wpList P ops Q ({ o with guard := none } :: rest) a w) : wpList P ops Q (o :: rest) a w := by
  have h0 : Region.wanted { o with guard := none } (yielded ops a.tmps) = true := by simp [Region.wanted]
  unfold wpList at h ⊢
  rw [if_pos h0] at h
  rw [if_pos hw]
  exact h

end Go.Proofs.Ytjbppedphadenaa
