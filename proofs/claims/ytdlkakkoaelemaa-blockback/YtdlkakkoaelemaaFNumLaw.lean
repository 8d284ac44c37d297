/- Laws for FrameNumbers: constant texts, lists that are written out, a row of entries that is filled. -/
import Derived.Test.YtdlkakkoaelemaaFWalksP
import Derived.Test.YtdlkakkoaelemaaFKnown
import Derived.Deep.MidRow
namespace Go.Proofs.Ytdlkakkoaelemaa
open Go.RowKit Go.Sort

theorem wpList_unguard {P : Program} {ops : Array Oper} {Q : Exit → Act → World → Prop} {a : Act} {w : World} {rest : List Oper} {o : Oper}
    (hw : Region.wanted o (yielded ops a.tmps) = true) (h : wpList P ops Q ({ o with guard := none } :: rest) a w) : wpList P ops Q (o :: rest) a w := by
  have h0 : Region.wanted { o with guard := none } (yielded ops a.tmps) = true := by simp [Region.wanted]
  unfold wpList at h ⊢
  rw [if_pos h0] at h
  rw [if_pos hw]
  exact h

/-- A constant text as bytes. -/
theorem wpList_convs {ops : Array Oper} {rest : List Oper} {o : Oper} {a : Act} {w : World} {Q : Exit → Act → World → Prop}
    (hg : o.guard = none) (x : Operand) (hop : o.op = .convert 23 23 x) (V : World) (b : Nat) (cs : Array Value) (xs : List Int) (n : Nat) (hb : b = V.heap.size) (hx : a.eval x = .slice (some ⟨b, 0, none⟩) n n) (hw : w = V.alloc (.cells cs 5)) (hc : cs = (xs.map (Value.int .u8)).toArray) (hn : xs.length = n) (hn9 : n ≤ 1000000) (hr : ∀ x ∈ xs, 0 ≤ x ∧ x ≤ 255)
    (hK : ∀ W, Tx W (some ⟨b, 0, none⟩) n n xs → Below V.heap.size V W → wpList Try.prog ops Q rest (a.put o.dst (.slice (some ⟨b, 0, none⟩) n n)) W) :
    wpList Try.prog ops Q (o :: rest) a w := by
  subst hb hw
  refine wpList_plain hg fun K hKK => ?_
  have hrun := Lib.run_convert_bytes_const (P := Try.prog) V 23 5 cs n n Try.underlying23 Try.underlying5
  unfold Oper.wp
  simp [execOp, hop, hx, hrun, Result.andThen]
  exact hKK _ _ (hK _ (tx_mark V cs _ xs n hc hn hn9 hr) ((Below.refl _ _).alloc (Nat.le_refl _) _))

def zerosN (n : Nat) : List Int := List.replicate n 0
theorem zerosN_len (n : Nat) : (zerosN n).length = n := List.length_replicate
def kEnts (n : Nat) : List Ent := List.replicate n ⟨[107], [], true⟩
/-- Zeros that are made. -/
theorem wpList_zeros (w : World) {ops : Array Oper} {rest : List Oper} {o : Oper} {a : Act} {Q : Exit → Act → World → Prop}
    (hg : o.guard = none) (l c : Operand) (hop : o.op = Op.makeSlice 23 l c)
    (kl kc : IntKind) (L C : Int) (n : Nat) (hl : a.eval l = .int kl L) (hc : a.eval c = .int kc C) (hL : L = (n : Int)) (hC : C = (n : Int)) (b : n ≤ 1000000000)
    (hK : ∀ w', Tx w' (some ⟨w.heap.size, 0, none⟩) n n (zerosN n) → Below w.heap.size w w' → wpList Try.prog ops Q rest (a.put o.dst (.slice (some ⟨w.heap.size, 0, none⟩) n n)) w') :
    wpList Try.prog ops Q (o :: rest) a w :=
  wpList_make_bytes w hg l c hop kl kc L C n hl hc hL hC b fun w' r hb => hK w' (r.tx n (by simp) b (fun x hx => by rw [List.eq_of_mem_replicate hx]; omega)) hb

theorem cells_at (V : World) (cs : Array Value) (t : TypeId) (j : Nat) (x : Value) (h : cs[j]? = some x) : (V.alloc (.cells cs t)).cell? ⟨V.heap.size, j, none⟩ = some x := by
  rw [cell_of_row _ V.heap.size j cs t (0, 0) (heap_alloc_new V _)]; exact h

theorem lx_four (w : World) {A B C D : Value} {x y z u : List Int} (ha : BytesAt w [] A x) (hb : BytesAt w [] B y) (hc : BytesAt w [] C z) (hd : BytesAt w [] D u) :
    Lx 1 RB (w.alloc (.cells #[A, B, C, D] 23)) (some ⟨w.heap.size, 0, none⟩) 4 4 [x, y, z, u] ∧ Below w.heap.size w (w.alloc (.cells #[A, B, C, D] 23)) := by
  have hbel : Below w.heap.size w (w.alloc (.cells #[A, B, C, D] 23)) := (Below.refl _ _).alloc (Nat.le_refl _) _
  refine ⟨⟨rfl, Nat.le_refl _, by unfold maxLen; omega, fun h => (by cases h), fun ad h j e he => ?_⟩, hbel⟩
  cases h
  have hj : j < 4 := by have := (List.getElem?_eq_some_iff.1 he).1; simpa using this
  have key : ∀ (v : Value) (q : List Int), BytesAt w [] v q → (#[A, B, C, D] : Array Value)[j]? = some v → e = q → ∃ uu : List Value, (∀ (i : Nat) (y : Value), uu[i]? = some y → (w.alloc (.cells #[A, B, C, D] 23)).cell? ((⟨w.heap.size, 0, none⟩ : Addr).add (j * 1 + i)) = some y) ∧ RB (w.alloc (.cells #[A, B, C, D] 23)) [] uu e := by
    intro v q hq hv heq
    subst heq
    refine ⟨[v], fun i y hy => ?_, v, rfl, hq.off (.of_below hbel) (by simp)⟩
    have hi : i = 0 := by have := (List.getElem?_eq_some_iff.1 hy).1; simp at this; omega
    subst hi
    simp at hy
    subst hy
    rw [Addr.add_lit, Nat.zero_add, Nat.mul_one, Nat.add_zero]
    exact cells_at w _ 23 j v hv
  have h3 : j = 0 ∨ j = 1 ∨ j = 2 ∨ j = 3 := by omega
  rcases h3 with rfl | rfl | rfl | rfl
  · exact key A x ha rfl (by simpa using he.symm)
  · exact key B y hb rfl (by simpa using he.symm)
  · exact key C z hc rfl (by simpa using he.symm)
  · exact key D u hd rfl (by simpa using he.symm)

theorem lx_ent_one (V : World) {k v : Value} {e : Ent} (hk : BytesAt V [] k e.k) (hv : BytesAt V [] v e.v) (G : Bool) (hG : G = e.g) : Lx 3 RE (V.alloc (.cells #[k, v, .bool G] 25)) (some ⟨V.heap.size, 0, none⟩) 1 1 [e] ∧ Below V.heap.size V (V.alloc (.cells #[k, v, .bool G] 25)) := by
  have hb : Below V.heap.size V (V.alloc (.cells #[k, v, .bool G] 25)) := (Below.refl _ _).alloc (Nat.le_refl _) _
  refine ⟨⟨rfl, Nat.le_refl _, by unfold maxLen; omega, fun h => (by cases h), fun ad ha j x hx => ?_⟩, hb⟩
  cases ha
  have hj : j = 0 := by have := (List.getElem?_eq_some_iff.1 hx).1; simp at this; omega
  subst hj
  simp at hx
  subst hx
  refine ⟨[k, v, .bool G], fun i y hy => ?_, k, v, by rw [hG], hk.off (.of_below hb) (by simp), hv.off (.of_below hb) (by simp)⟩
  rw [Addr.add_lit, Nat.zero_mul, Nat.zero_add, Nat.zero_add]
  exact cells_at V _ 25 i y (by simpa using hy)

theorem lx_ent_three (V : World) {k v k2 v2 k3 v3 : Value} {e e2 e3 : Ent} (hk : BytesAt V [] k e.k) (hv : BytesAt V [] v e.v) (hk2 : BytesAt V [] k2 e2.k) (hv2 : BytesAt V [] v2 e2.v) (hk3 : BytesAt V [] k3 e3.k) (hv3 : BytesAt V [] v3 e3.v) (G G2 G3 : Bool) (hG : G = e.g) (hG2 : G2 = e2.g) (hG3 : G3 = e3.g) :
    Lx 3 RE (V.alloc (.cells #[k, v, .bool G, k2, v2, .bool G2, k3, v3, .bool G3] 25)) (some ⟨V.heap.size, 0, none⟩) 3 3 [e, e2, e3] ∧ Below V.heap.size V (V.alloc (.cells #[k, v, .bool G, k2, v2, .bool G2, k3, v3, .bool G3] 25)) := by
  have hb : Below V.heap.size V (V.alloc (.cells #[k, v, .bool G, k2, v2, .bool G2, k3, v3, .bool G3] 25)) := (Below.refl _ _).alloc (Nat.le_refl _) _
  refine ⟨⟨rfl, Nat.le_refl _, by unfold maxLen; omega, fun h => (by cases h), fun ad ha j x hx => ?_⟩, hb⟩
  cases ha
  have hj : j < 3 := by have := (List.getElem?_eq_some_iff.1 hx).1; simpa using this
  have h3 : j = 0 ∨ j = 1 ∨ j = 2 := by omega
  rcases h3 with rfl | rfl | rfl
  · simp at hx
    subst hx
    refine ⟨[k, v, .bool G], fun i y hy => ?_, k, v, by rw [hG], hk.off (.of_below hb) (by simp), hv.off (.of_below hb) (by simp)⟩
    have hi : i < 3 := by have := (List.getElem?_eq_some_iff.1 hy).1; simpa using this
    rw [Addr.add_lit, Nat.zero_add]
    refine cells_at V _ 25 _ y ?_
    have h3 : i = 0 ∨ i = 1 ∨ i = 2 := by omega
    rcases h3 with rfl | rfl | rfl <;> simpa using hy
  · simp at hx
    subst hx
    refine ⟨[k2, v2, .bool G2], fun i y hy => ?_, k2, v2, by rw [hG2], hk2.off (.of_below hb) (by simp), hv2.off (.of_below hb) (by simp)⟩
    have hi : i < 3 := by have := (List.getElem?_eq_some_iff.1 hy).1; simpa using this
    rw [Addr.add_lit, Nat.zero_add]
    refine cells_at V _ 25 _ y ?_
    have h3 : i = 0 ∨ i = 1 ∨ i = 2 := by omega
    rcases h3 with rfl | rfl | rfl <;> simpa using hy
  · simp at hx
    subst hx
    refine ⟨[k3, v3, .bool G3], fun i y hy => ?_, k3, v3, by rw [hG3], hk3.off (.of_below hb) (by simp), hv3.off (.of_below hb) (by simp)⟩
    have hi : i < 3 := by have := (List.getElem?_eq_some_iff.1 hy).1; simpa using this
    rw [Addr.add_lit, Nat.zero_add]
    refine cells_at V _ 25 _ y ?_
    have h3 : i = 0 ∨ i = 1 ∨ i = 2 := by omega
    rcases h3 with rfl | rfl | rfl <;> simpa using hy

/-- A row of n entries, k of them written. -/
structure Er (w : World) (g n k : Nat) : Prop where
  here : w.there g 0 (n * 3)
  cell : ∀ j, j < k → ∃ kb, w.rangeAt g (j * 3) [.slice (some ⟨kb, 0, none⟩) 1 1, .slice none 0 0, .bool true] ∧ kb ≠ g ∧ Tx w (some ⟨kb, 0, none⟩) 1 1 [107]

theorem there_later {w w' : World} {g o n : Nat} (h : w.there g o n) (hb : Below w.heap.size w w') : w'.there g o n := fun j hj => by
  obtain ⟨h1, h2⟩ := h j hj
  obtain ⟨u, hu⟩ := Option.isSome_iff_exists.1 h1
  have hk := World.block_lt_of_cell? w _ hu
  have he := hb.block g hk
  refine ⟨by rw [cell_later hb hu]; rfl, ?_⟩
  have : w'.frozen? ⟨g, o + j, none⟩ = w.frozen? ⟨g, o + j, none⟩ := by simp only [World.frozen?]; rw [he]
  rw [this]; exact h2
theorem Er.lt {w : World} {g n k : Nat} (h : Er w g n k) (hn : 0 < n) : g < w.heap.size := by
  obtain ⟨u, hu⟩ := Option.isSome_iff_exists.1 (h.here 0 (by omega)).1
  exact World.block_lt_of_cell? w _ hu
theorem Er.later {w w' : World} {g n k : Nat} (h : Er w g n k) (hb : Below w.heap.size w w') : Er w' g n k :=
  ⟨there_later h.here hb, fun j hj => by
    obtain ⟨kb, h1, h2, h3⟩ := h.cell j hj
    exact ⟨kb, fun i v hv => cell_later hb (h1 i v hv), h2, h3.later hb⟩⟩
theorem off_setCells (g : Nat) : ∀ (vs : List Value) (o : Nat) (w : World), Off [g] w (w.setCells g o vs)
  | [], _, w => Off.refl _ w
  | v :: r, o, w => ((Off.refl [g] w).setCell (p := ⟨g, o, none⟩) (by simp) v).trans (off_setCells g r (o + 1) _)
theorem Er.put {w : World} {g n k : Nat} (h : Er w g n k) (hk : k < n) (kb : Nat) (hb : kb ≠ g) (t : Tx w (some ⟨kb, 0, none⟩) 1 1 [107]) :
    Er (w.setCells g (k * 3) [.slice (some ⟨kb, 0, none⟩) 1 1, .slice none 0 0, .bool true]) g n (k + 1) := by
  have ho := off_setCells g [.slice (some ⟨kb, 0, none⟩) 1 1, .slice none 0 0, .bool true] (k * 3) w
  refine ⟨World.there_setCells h.here g (k * 3) _, fun j hj => ?_⟩
  by_cases e : j = k
  · subst e
    refine ⟨kb, World.rangeAt_setCells_same w g (j * 3) _ (fun i hi => ?_), hb, t.off ho (fun ad ha _ => by cases ha; simpa using hb)⟩
    have := h.here (j * 3 + i) (by simp at hi; omega)
    rwa [Nat.zero_add] at this
  · obtain ⟨kb', h1, h2, h3⟩ := h.cell j (by omega)
    refine ⟨kb', World.rangeAt_setCells_apart h1 g (k * 3) _ (.inr (.inl (by simp; omega))), h2, h3.off ho (fun ad ha _ => by cases ha; simpa using h2)⟩
theorem Er.made {w : World} {base g n : Nat} {us : List Value} (h : w.ownsRow base 25 3 (.slice (some ⟨g, 0, none⟩) n n) n us) : Er w g n 0 := by
  obtain ⟨_, ⟨h', _⟩ | ⟨g', cap, cur, h', _, hg, _, _, hs, ht⟩⟩ := h
  · simp at h'
  · simp only [Value.slice.injEq, Option.some.injEq, Addr.mk.injEq, and_true, true_and] at h'
    obtain ⟨rfl, rfl⟩ := h'
    refine ⟨fun j hj => ⟨?_, frozen_of_row w g _ _ 25 hg⟩, fun j hj => by omega⟩
    rw [cell_of_row w g _ cur 25 (0, 0) hg]
    simp; omega
theorem Er.read {w : World} {g n k : Nat} (h : Er w g n n) (hk : k ≤ n) (hn : n ≤ 1000000) : Lx 3 RE w (some ⟨g, 0, none⟩) k n (kEnts k) := by
  refine ⟨List.length_replicate, hk, by unfold maxLen; omega, fun h => (by cases h), fun ad ha j x hx => ?_⟩
  cases ha
  have hj : j < k := by have := (List.getElem?_eq_some_iff.1 hx).1; simpa [kEnts] using this
  have hxe : x = ⟨[107], [], true⟩ := List.eq_of_mem_replicate (List.mem_of_getElem? hx)
  subst hxe
  obtain ⟨kb, h1, h2, h3⟩ := h.cell j (by omega)
  refine ⟨_, fun i y hy => ?_, _, _, rfl, h3.at [] (by simp), (Tx.nil w).at [] (by simp)⟩
  rw [Addr.add_lit, Nat.zero_add]
  exact h1 i y hy

/-- Entries that are made. -/
theorem wpList_make_ents (w : World) {ops : Array Oper} {rest : List Oper} {o : Oper} {a : Act} {Q : Exit → Act → World → Prop}
    (hg : o.guard = none) (l c : Operand) (hop : o.op = Op.makeSlice 22 l c)
    (kl kc : IntKind) (L C : Int) (n : Nat) (hl : a.eval l = .int kl L) (hc : a.eval c = .int kc C) (hL : L = (n : Int)) (hC : C = (n : Int)) (b : n ≤ 1000000)
    (hK : ∀ w', Er w' w.heap.size n 0 → Below w.heap.size w w' → wpList Try.prog ops Q rest (a.put o.dst (.slice (some ⟨w.heap.size, 0, none⟩) n n)) w') :
    wpList Try.prog ops Q (o :: rest) a w := by
  obtain ⟨i, hi, hz0, hz1, hz2⟩ := info_parts Try.info25
  refine wpList_make_full w hg l c 22 hop w.heap.size 25 i _ 3 Try.underlying22 hi hz0 hz1 kl kc L C n hl hc hL hC (by rw [hz2]; omega) (by unfold maxLen; omega) (Nat.le_refl _) ?_
  intro w' hown hgrow
  exact hK w' (Er.made hown) ((Below.refl _ _).grown hgrow (Nat.le_refl _) (fun k hk => by cases hk))

theorem info28s : (Try.prog.info? 25).map (·.size) = some 3 := by kernel_rfl

/-- The store of one. -/
theorem wpList_ent {ops : Array Oper} {rest : List Oper} {o : Oper} {a : Act} {w : World} {Q : Exit → Act → World → Prop}
    (hg : o.guard = none) (x y : Operand) (hop : o.op = .store 25 x y) (g n k kb : Nat) (hx : a.eval x = .pointer (some ⟨g, k * 3, none⟩)) (hy : a.eval y = .agg #[.slice (some ⟨kb, 0, none⟩) 1 1, .slice none 0 0, .bool true])
    (h : Er w g n k) (hk : k < n) (hb : kb ≠ g) (t : Tx w (some ⟨kb, 0, none⟩) 1 1 [107]) (B : Nat) (hB : B ≤ g) (hBw : B ≤ w.heap.size)
    (hK : ∀ w', Er w' g n (k + 1) → Below B w w' → wpList Try.prog ops Q rest (a.put o.dst undef) w') : wpList Try.prog ops Q (o :: rest) a w := by
  refine wpList_store_mid hg 25 x y hop g (k * 3) _ hx hy (fun j hj => ?_) info28s (by simp [Value.oneCell']) ?_
  · have := h.here (k * 3 + j) (by simp at hj; omega)
    rwa [Nat.zero_add] at this
  · exact hK _ (h.put hk kb hb t) ((off_setCells g _ _ w).below (by simpa using hB) hBw)

theorem step_app_g {ops : Array Oper} {o : Oper} {a : Act} {w : World} {K : Act → World → Prop} {Q : Exit → Act → World → Prop} {E : Prop}
    (hw : Region.wanted o (yielded ops a.tmps) = true) (s x : Operand) (hop : o.op = Op.call { callee := Callee.builtin Builtin.append, args := #[s, x], argTypes := #[23, 23] })
    (B : Nat) (v : Value) (n : Nat) (xs : List Int) (hs : a.eval s = v) (hown : w.ownsRow B 5 1 v n (xs.map (Value.int .u8)))
    (ao : Option Addr) (m c : Nat) (ys : List Int) (hx : a.eval x = .slice ao m c) (ht : Tx w ao m c ys) (b : n + m ≤ 1000000000) (hB : B ≤ w.heap.size)
    (hK : ∀ bo' q cap' w', Hid (q = n + m) → w'.ownsRow B 5 1 (.slice bo' q cap') q ((xs ++ ys).map (Value.int .u8)) → Below B w w' → K (a.put o.dst (.slice bo' q cap')) w') :
    if Region.wanted o (yielded ops a.tmps) = true then Oper.wp Try.prog o a w K Q else E := by
  rw [if_pos hw]
  obtain ⟨v', w', hrun, hown', hoff, hsub⟩ := run_app B w o.type v n xs hown ao m c ys ht b hB
  obtain ⟨bo', cap', rfl⟩ := own_form hown'
  unfold Oper.wp
  simp [execOp, hop, resolve, invoke, builtin, hs, hx, hrun, Result.andThen]
  exact hK bo' (n + m) cap' w' rfl hown' (hoff.below (fun k hk => (own_lt hown k hk).2) hB)

end Go.Proofs.Ytdlkakkoaelemaa
