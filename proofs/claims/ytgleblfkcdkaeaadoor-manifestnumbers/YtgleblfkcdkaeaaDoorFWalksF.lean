/- 'append' onto bytes that a call owns: what it gives, and what stays. The walks of frame.addNumber, addEntry, fits. -/
import Derived.Test.YtgleblfkcdkaeaaDoorFWalksE
namespace Go.Proofs.YtgleblfkcdkaeaaDoor

section
open Go.RowKit

theorem run_app (B : Nat) (w : World) (ty : TypeId) (v : Value) (n : Nat) (xs : List Int) (hown : w.ownsRow B 5 1 v n (xs.map (Value.int .u8)))
    (ao : Option Addr) (m c : Nat) (ys : List Int) (ht : Tx w ao m c ys) (b : n + m ≤ 1000000000) (hB : B ≤ w.heap.size) :
    ∃ v' w', (Builtin.append_ #[27, 27] ty #[v, .slice ao m c]).run Tryd.prog w = .ok v' w' ∧ w'.ownsRow B 5 1 v' (n + m) ((xs ++ ys).map (Value.int .u8)) ∧ Off (own v) w w' ∧ (∀ k ∈ own v', k ∈ own v ∨ w.heap.size ≤ k) := by
  obtain ⟨i, hi, hz0, hz1, hz2⟩ := info_parts Tryd.info5
  cases ao with
  | none =>
    obtain ⟨rfl, rfl⟩ := ht.bare rfl
    have hy : ys = [] := List.eq_nil_of_length_eq_zero ht.len_eq
    subst hy
    refine ⟨v, w, run_append_owned_none (P := Tryd.prog) (w := w) B 27 ty 5 i 1 Tryd.underlying27 hi v n _ hown, by simpa using hown, .refl _ _, fun k hk => .inl hk⟩
  | some ad =>
    obtain ⟨v', w', hrun, hown', hgrow, _, hat⟩ := run_append_own_at (P := Tryd.prog) w B 27 ty 5 i (.int .u8 0) 1 1 Tryd.underlying27 hi hz0 hz1 hz2 rfl (by decide) v n _ hown ad m c (ys.map (Value.int .u8)) (by simp [ht.len_eq])
      (fun j u hu => by
        have hjl : j < ys.length := by
          have := (List.getElem?_eq_some_iff.1 hu).1
          simpa using this
        rw [ht.cell ad rfl j (by rw [← ht.len_eq]; exact hjl)]
        simp [hjl] at hu
        simp [List.getD, hjl, hu]) (ints_oneCell _ _) (by unfold maxLen; omega) (by omega) hB
    rw [← List.map_append] at hown'
    refine ⟨v', w', hrun, hown', (Off.refl _ _).grown hgrow (fun k hk => by simp [own, hk]), fun k hk => ?_⟩
    rcases hat with e | e
    · left; unfold own at hk ⊢; rwa [e] at hk
    · right; unfold own at hk; rw [e] at hk; simp at hk; omega

theorem step_app {ops : Array Oper} {o : Oper} {a : Act} {w : World} {K : Act → World → Prop} {Q : Exit → Act → World → Prop} {E : Prop}
    (hg : o.guard = none) (s x : Operand) (hop : o.op = Op.call { callee := Callee.builtin Builtin.append, args := #[s, x], argTypes := #[27, 27] })
    (B : Nat) (v : Value) (n : Nat) (xs : List Int) (hs : a.eval s = v) (hown : w.ownsRow B 5 1 v n (xs.map (Value.int .u8)))
    (ao : Option Addr) (m c : Nat) (ys : List Int) (hx : a.eval x = .slice ao m c) (ht : Tx w ao m c ys) (b : n + m ≤ 1000000000) (hB : B ≤ w.heap.size)
    (hK : ∀ bo' cap' w', w'.ownsRow B 5 1 (.slice bo' (n + m) cap') (n + m) ((xs ++ ys).map (Value.int .u8)) → Off (own v) w w' → (∀ k ∈ own (.slice bo' (n + m) cap'), k ∈ own v ∨ w.heap.size ≤ k) → K (a.put o.dst (.slice bo' (n + m) cap')) w') :
    if Region.wanted o (yielded ops a.tmps) = true then Oper.wp Tryd.prog o a w K Q else E := by
  have hw : Region.wanted o (yielded ops a.tmps) = true := by simp [Region.wanted, hg]
  rw [if_pos hw]
  obtain ⟨v', w', hrun, hown', hoff, hsub⟩ := run_app B w o.type v n xs hown ao m c ys ht b hB
  obtain ⟨bo', cap', rfl⟩ := own_form hown'
  unfold Oper.wp
  simp [execOp, hop, resolve, invoke, builtin, hs, hx, hrun, Result.andThen]
  exact hK bo' cap' w' hown' hoff hsub

theorem wpList_app {ops : Array Oper} {rest : List Oper} {o : Oper} {a : Act} {w : World} {Q : Exit → Act → World → Prop}
    (hg : o.guard = none) (s x : Operand) (hop : o.op = Op.call { callee := Callee.builtin Builtin.append, args := #[s, x], argTypes := #[27, 27] })
    (B : Nat) (v : Value) (n : Nat) (xs : List Int) (hs : a.eval s = v) (hown : w.ownsRow B 5 1 v n (xs.map (Value.int .u8)))
    (ao : Option Addr) (m c : Nat) (ys : List Int) (hx : a.eval x = .slice ao m c) (ht : Tx w ao m c ys) (b : n + m ≤ 1000000000) (hB : B ≤ w.heap.size)
    (hK : ∀ bo' cap' w', w'.ownsRow B 5 1 (.slice bo' (n + m) cap') (n + m) ((xs ++ ys).map (Value.int .u8)) → Off (own v) w w' → (∀ k ∈ own (.slice bo' (n + m) cap'), k ∈ own v ∨ w.heap.size ≤ k) → wpList Tryd.prog ops Q rest (a.put o.dst (.slice bo' (n + m) cap')) w') :
    wpList Tryd.prog ops Q (o :: rest) a w := by
  refine wpList_plain hg fun K hKK => ?_
  obtain ⟨v', w', hrun, hown', hoff, hsub⟩ := run_app B w o.type v n xs hown ao m c ys ht b hB
  obtain ⟨bo', cap', rfl⟩ := own_form hown'
  unfold Oper.wp
  simp [execOp, hop, resolve, invoke, builtin, hs, hx, hrun, Result.andThen]
  exact hKK _ _ (hK bo' cap' w' hown' hoff hsub)
end

section
open Go.RowKit

theorem Lx.headE {w : World} {ao : Option Addr} {len cap : Nat} {l : List Ent} (h : Lx 3 RE w ao len cap l) (h0 : 0 < len) :
    ∃ b off, ao = some ⟨b, off, none⟩ ∧ ∀ j e, l[j]? = some e → ∃ ko kl kc vo vl vc, w.cell? ⟨b, off + j * 3, none⟩ = some (.slice ko kl kc) ∧ w.cell? ⟨b, off + j * 3 + 1, none⟩ = some (.slice vo vl vc) ∧ w.cell? ⟨b, off + j * 3 + 2, none⟩ = some (.bool e.g) ∧ Tx w ko kl kc e.k ∧ Tx w vo vl vc e.v := by
  obtain ⟨b, off, rfl, hc⟩ := h.head RE.plain (by omega) h0
  refine ⟨b, off, rfl, fun j e he => ?_⟩
  obtain ⟨u, h1, k, v, rfl, ⟨ko, kl, kc, rfl, tk, _⟩, ⟨vo, vl, vc, rfl, tv, _⟩⟩ := hc j e he
  exact ⟨ko, kl, kc, vo, vl, vc, by simpa using h1 0 _ rfl, by simpa [Nat.add_assoc] using h1 1 _ rfl, by simpa [Nat.add_assoc] using h1 2 _ rfl, tk, tv⟩

theorem own_later {w w' : World} {B : Nat} {v : Value} {n : Nat} {xs : List Value} (h : w.ownsRow B 5 1 v n xs) (hb : Below w.heap.size w w') : w'.ownsRow B 5 1 v n xs := rows_offB (S := []) h (.of_below hb) (by simp)

/-- A text that lies below B. -/
structure TxB (B : Nat) (w : World) (ao : Option Addr) (l c : Nat) (xs : List Int) : Prop where
  tx : Tx w ao l c xs
  low : ∀ ad, ao = some ad → 0 < l → ad.block < B
theorem TxB.later {B : Nat} {w w' : World} {ao : Option Addr} {l c : Nat} {xs : List Int} (h : TxB B w ao l c xs) (hb : Below B w w') : TxB B w' ao l c xs :=
  ⟨⟨h.1.len_eq, h.1.le, h.1.top, h.1.bare, fun ad ha j hj => by
    rw [World.cell?_of_block (w := w) (hb.block (ad.add j).block (by rw [add_block]; exact h.2 ad ha (by omega)))]; exact h.1.cell ad ha j hj, h.1.rng⟩, h.2⟩
theorem Tx.low {w : World} {ao : Option Addr} {l c : Nat} {xs : List Int} (h : Tx w ao l c xs) : TxB w.heap.size w ao l c xs := ⟨h, fun ad ha h0 => h.lt ad ha h0⟩

/-- Bytes that the call owns, from B on. -/
structure Gr (B : Nat) (w : World) (ao : Option Addr) (n cap : Nat) (xs : List Int) : Prop where
  own : w.ownsRow B 5 1 (.slice ao n cap) n (xs.map (Value.int .u8))
  rng : ∀ x ∈ xs, 0 ≤ x ∧ x ≤ 255
  hB : B ≤ w.heap.size
/-- What was owned as v is owned as v': nothing else has turned. -/
structure Moves (v v' : Value) (w w' : World) : Prop where
  off : Off (own v) w w'
  sub : ∀ k ∈ own v', k ∈ own v ∨ w.heap.size ≤ k

theorem Gr.nil (w : World) : Gr w.heap.size w none 0 0 [] := ⟨⟨rfl, .inl ⟨rfl, rfl⟩⟩, by simp, Nat.le_refl _⟩
theorem Gr.len {B : Nat} {w : World} {ao : Option Addr} {n cap : Nat} {xs : List Int} (h : Gr B w ao n cap xs) : xs.length = n := by simpa using h.own.1
theorem Gr.later {B : Nat} {w w' : World} {ao : Option Addr} {n cap : Nat} {xs : List Int} (h : Gr B w ao n cap xs) (hb : Below w.heap.size w w') : Gr B w' ao n cap xs := ⟨own_later h.own hb, h.rng, Nat.le_trans h.hB hb.size⟩
theorem Gr.alloc {B : Nat} {w : World} {ao : Option Addr} {n cap : Nat} {xs : List Int} (h : Gr B w ao n cap xs) (o : Obj) : Gr B (w.alloc o) ao n cap xs := h.later ((Below.refl _ _).alloc (Nat.le_refl _) o)
theorem Gr.lt {B : Nat} {w : World} {ao : Option Addr} {n cap : Nat} {xs : List Int} (h : Gr B w ao n cap xs) : ∀ k ∈ Go.Proofs.YtgleblfkcdkaeaaDoor.own (.slice ao n cap), k < w.heap.size ∧ B ≤ k := own_lt h.own
theorem Gr.tx {B : Nat} {w : World} {ao : Option Addr} {n cap : Nat} {xs : List Int} (h : Gr B w ao n cap xs) : Tx w ao n cap xs := by
  obtain ⟨ao', cap', e, t⟩ := Tx.own h.own h.rng
  simp only [Value.slice.injEq, true_and] at e
  obtain ⟨rfl, rfl⟩ := e
  exact t
theorem gr_le {B B' : Nat} {w w' : World} {a a' : Option Addr} {n n' c c' : Nat} {xs L : List Int} (g : Gr B w a n c xs) (g' : Gr B' w' a' n' c' (xs ++ L)) {m q : Nat} (h : L.length = m) (hq : n + m ≤ q) : n' ≤ q := by
  have h1 := g.len
  have h2 := g'.len
  rw [List.length_append] at h2
  omega
theorem Moves.refl (v : Value) (w : World) : Moves v v w w := ⟨.refl _ _, fun _ h => .inl h⟩
theorem Moves.trans {u v x : Value} {a b c : World} (h : Moves u v a b) (k : Moves v x b c) : Moves u x a c := by
  refine ⟨⟨k.off.os.trans h.off.os, k.off.tape.trans h.off.tape, k.off.output.trans h.off.output, Nat.le_trans h.off.size k.off.size, fun i hi hn => ?_⟩, fun i hi => ?_⟩
  · rw [k.off.block i (Nat.lt_of_lt_of_le hi h.off.size) (fun e => ?_), h.off.block i hi hn]
    rcases h.sub i e with e | e
    · exact hn e
    · omega
  · rcases k.sub i hi with e | e
    · exact h.sub i e
    · exact .inr (Nat.le_trans h.off.size e)
theorem Moves.of_below {v : Value} {w w' : World} (h : Below w.heap.size w w') : Moves v v w w' := ⟨.of_below h, fun _ h => .inl h⟩
theorem Moves.below {B : Nat} {w w' : World} {ao : Option Addr} {n cap : Nat} {xs : List Int} {v' : Value} (h : Moves (.slice ao n cap) v' w w') (g : Gr B w ao n cap xs) : Below B w w' := h.off.below (fun k hk => (g.lt k hk).2) g.hB
theorem Moves.cell {v v' : Value} {w w' : World} (h : Moves v v' w w') {bx j : Nat} {u : Value} (hc : w.cell? ⟨bx, j, none⟩ = some u) (hn : bx ∉ own v) : w'.cell? ⟨bx, j, none⟩ = some u := h.off.cell hc hn
theorem Moves.out {v v' : Value} {w w' : World} (h : Moves v v' w w') {bx : Nat} (hn : bx ∉ own v) (hl : bx < w.heap.size) : bx ∉ own v' := fun e => (h.sub bx e).elim hn (fun h => by omega)

/-- 'append(out, b...)'. -/
theorem wpList_gr {ops : Array Oper} {rest : List Oper} {o : Oper} {a : Act} {w : World} {Q : Exit → Act → World → Prop}
    (hg : o.guard = none) (s x : Operand) (hop : o.op = Op.call { callee := Callee.builtin Builtin.append, args := #[s, x], argTypes := #[27, 27] })
    (B : Nat) (bo : Option Addr) (n cap : Nat) (xs : List Int) (hs : a.eval s = .slice bo n cap) (h : Gr B w bo n cap xs)
    (ao : Option Addr) (m c : Nat) (ys : List Int) (hx : a.eval x = .slice ao m c) (ht : Tx w ao m c ys) (b : n + m ≤ 1000000000)
    (hK : ∀ bo' n' cap' w', Hid (n' = n + m) → Gr B w' bo' n' cap' (xs ++ ys) → Moves (.slice bo n cap) (.slice bo' n' cap') w w' → wpList Tryd.prog ops Q rest (a.put o.dst (.slice bo' n' cap')) w') :
    wpList Tryd.prog ops Q (o :: rest) a w :=
  wpList_app hg s x hop B (.slice bo n cap) n xs hs h.own ao m c ys hx ht b h.hB (fun bo' cap' w' h1 h2 h3 => hK bo' _ cap' w' rfl ⟨h1, fun x hx => (List.mem_append.1 hx).elim (h.rng x) (ht.rng x), Nat.le_trans h.hB h2.size⟩ ⟨h2, h3⟩)

/-- An entry in a box of its own: its three cells. -/
structure Box (w : World) (bx : Nat) (k v : Value) (g : Bool) : Prop where
  c0 : w.cell? ⟨bx, 0, none⟩ = some k
  c1 : w.cell? ⟨bx, 1, none⟩ = some v
  c2 : w.cell? ⟨bx, 2, none⟩ = some (.bool g)
theorem Box.new (w : World) (k v : Value) (g : Bool) : Box (w.alloc (.cells #[k, v, .bool g] 24)) w.heap.size k v g := by
  have h : ∀ j u, [k, v, .bool g][j]? = some u → (w.alloc (.cells #[k, v, .bool g] 24)).cell? ⟨w.heap.size, j, none⟩ = some u := fun j u hu => by
    rw [cell_of_row _ w.heap.size j _ 24 (0, 0) (heap_alloc_new w _)]
    simpa using hu
  exact ⟨h 0 k rfl, h 1 v rfl, h 2 _ rfl⟩
theorem Box.lt {w : World} {bx : Nat} {k v : Value} {g : Bool} (h : Box w bx k v g) : bx < w.heap.size := World.block_lt_of_cell? _ _ h.c0
theorem Box.moves {w w' : World} {bx : Nat} {k v x y : Value} {g : Bool} (h : Box w bx k v g) (m : Moves x y w w') (hn : bx ∉ own x) : Box w' bx k v g ∧ bx ∉ own y := ⟨⟨m.cell h.c0 hn, m.cell h.c1 hn, m.cell h.c2 hn⟩, m.out hn h.lt⟩
theorem Box.later {w w' : World} {bx : Nat} {k v : Value} {g : Bool} (h : Box w bx k v g) (hb : Below w.heap.size w w') : Box w' bx k v g := ⟨cell_later hb h.c0, cell_later hb h.c1, cell_later hb h.c2⟩
theorem fresh_own {B : Nat} {w : World} {ao : Option Addr} {n cap : Nat} {xs : List Int} (g : Gr B w ao n cap xs) : w.heap.size ∉ own (.slice ao n cap) := fun h => by have := (g.lt _ h).1; omega

theorem encE_gone (e : Ent) (h : e.g = true) : encE e = [0] ++ [(e.k.length : Int)] ++ e.k := by simp [encE, h]
theorem encE_there (e : Ent) (h : e.g = false) : encE e = [1] ++ [(e.k.length : Int)] ++ e.k ++ low 2 e.v.length ++ e.v := by simp [encE, h]

end

end Go.Proofs.YtgleblfkcdkaeaaDoor
