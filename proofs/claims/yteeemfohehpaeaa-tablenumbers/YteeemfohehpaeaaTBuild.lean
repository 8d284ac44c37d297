/- The walk of table.Build: a range over slices.Chunk. -/
import Derived.Test.YteeemfohehpaeaaTChunk
import Derived.Test.YteeemfohehpaeaaTMod
import Derived.Test.YteeemfohehpaeaaPE
namespace Go.Proofs.Yteeemfohehpaeaa
set_option maxRecDepth 100000
open Go.RowKit Go.Shelf Go.Sort

/-- All blocks below n, but those of S, are as they were. -/
structure Kept (n : Nat) (S : List Nat) (A B : World) : Prop where
  os : B.os = A.os
  tape : B.tape = A.tape
  output : B.output = A.output
  size : A.heap.size ≤ B.heap.size
  block : ∀ k, k < n → k ∉ S → B.heap[k]? = A.heap[k]?
theorem Kept.refl (n : Nat) (S : List Nat) (A : World) : Kept n S A A := ⟨rfl, rfl, rfl, Nat.le_refl _, fun _ _ _ => rfl⟩
theorem Kept.trans {n : Nat} {S : List Nat} {A B C : World} (h : Kept n S A B) (k : Kept n S B C) : Kept n S A C :=
  ⟨k.os.trans h.os, k.tape.trans h.tape, k.output.trans h.output, Nat.le_trans h.size k.size, fun i hi hn => (k.block i hi hn).trans (h.block i hi hn)⟩
theorem Kept.of_below {n : Nat} {S : List Nat} {A B : World} (h : Below A.heap.size A B) (hn : n ≤ A.heap.size) : Kept n S A B :=
  ⟨h.os, h.tape, h.output, h.size, fun k hk _ => h.block k (by omega)⟩
theorem Kept.of_off {n : Nat} {S T : List Nat} {A B : World} (h : Off T A B) (hn : n ≤ A.heap.size) (hT : ∀ k ∈ T, k < n → k ∈ S) : Kept n S A B :=
  ⟨h.os, h.tape, h.output, h.size, fun k hk hS => h.block k (by omega) (fun hkT => hS (hT k hkT hk))⟩
theorem Kept.cell {n : Nat} {S : List Nat} {A B : World} (h : Kept n S A B) (p : Addr) (hp : p.block < n) (hS : p.block ∉ S) : B.cell? p = A.cell? p := World.cell?_of_block (h.block p.block hp hS)
theorem Kept.below {n : Nat} {S : List Nat} {A B : World} {b : Nat} (h : Kept n S A B) (hb : b ≤ n) (hS : ∀ k ∈ S, b ≤ k) : Below b A B :=
  ⟨h.os, h.tape, h.output, h.size, fun k hk => h.block k (by omega) (fun hkS => by have := hS k hkS; omega)⟩
theorem ko_below {W W' : World} (h : Below W.heap.size W W') : KeepsOthers W W' := ⟨h.size, fun k _ hk _ => (h.block k (Array.getElem?_eq_some_iff.1 hk).1).trans hk⟩
theorem ko_off {S : List Nat} {W W' : World} (h : Off S W W') (hc : ∀ k ∈ S, ∃ o : Obj, W.heap[k]? = some o ∧ o.isCells = true) : KeepsOthers W W' :=
  ⟨h.size, fun k o hk ho => (h.block k (Array.getElem?_eq_some_iff.1 hk).1 (fun hS => by obtain ⟨o', ho', hc'⟩ := hc k hS; rw [hk] at ho'; cases ho'; rw [ho] at hc'; cases hc')).trans hk⟩
theorem gr_cells {B : Nat} {w : World} {ao : Option Addr} {n cap : Nat} {xs : List Int} (h : Gr B w ao n cap xs) : ∀ k ∈ own (.slice ao n cap), ∃ o : Obj, w.heap[k]? = some o ∧ o.isCells = true := by
  intro k hk
  rcases h.own.2 with ⟨h1, _⟩ | ⟨g, cap', cur, h1, _, hg, _⟩
  · rw [h1] at hk; simp [own, Value.ownBlock] at hk
  · rw [h1] at hk
    simp [own, Value.ownBlock] at hk
    subst hk
    exact ⟨_, hg, rfl⟩
theorem off_grown {W W' : World} {row : Option Nat} (hg : W.grownBy W' row) : Off row.toList W W' := ⟨hg.os, hg.tape, hg.output, hg.size, fun k hk hn => hg.block k hk (fun e => hn (by rw [← e]; simp))⟩
theorem Gr.kept {B : Nat} {W W' : World} {row : Option Nat} {ao : Option Addr} {n cap : Nat} {xs : List Int} (h : Gr B W ao n cap xs) (hg : W.grownBy W' row) (hr : ∀ r, row = some r → ∃ o : Obj, W.heap[r]? = some o ∧ o.isCells = false) : Gr B W' ao n cap xs :=
  ⟨rows_offB h.own (off_grown hg) (fun k hk hk2 => by
    obtain ⟨o, ho, hc⟩ := gr_cells h k hk
    obtain ⟨o', ho', hc'⟩ := hr k (by simpa using hk2)
    rw [ho] at ho'; cases ho'; rw [hc] at hc'; cases hc'), h.rng, Nat.le_trans h.hB hg.size⟩

theorem wpListIn_gr {F : Fence} {q : Nat} {ops : Array Oper} {rest : List Oper} {o : Oper} {a : Act} {w : World} {Q : Exit → Act → World → Prop}
    (hg : o.guard = none) (s x : Operand) (hop : o.op = Op.call { callee := Callee.builtin Builtin.append, args := #[s, x], argTypes := #[23, 23] })
    (B : Nat) (bo : Option Addr) (n cap : Nat) (xs : List Int) (hs : a.eval s = .slice bo n cap) (h : Gr B w bo n cap xs)
    (ao : Option Addr) (m c : Nat) (ys : List Int) (hx : a.eval x = .slice ao m c) (ht : Tx w ao m c ys) (b : n + m ≤ 1000000000)
    (hK : ∀ bo' n' cap' w', Hid (n' = n + m) → Gr B w' bo' n' cap' (xs ++ ys) → Moves (.slice bo n cap) (.slice bo' n' cap') w w' → wpListIn F q Try.prog ops Q rest (a.put o.dst (.slice bo' n' cap')) w') :
    wpListIn F q Try.prog ops Q (o :: rest) a w := by
  refine wpListIn_plain hg fun K hKK => ?_
  obtain ⟨v', w', hrun, hown', hoff, hsub⟩ := run_app B w o.type (.slice bo n cap) n xs h.own ao m c ys ht b h.hB
  obtain ⟨bo', cap', rfl⟩ := own_form hown'
  unfold Oper.wpIn
  refine ⟨?_, ?_⟩
  · simp [Oper.about, hop, resolve, Target.leads, Sem.run_pure]
  · rw [Oper.semAt_plain F _ _ (by rw [hop]; intro c hc'; cases hc')]
    simp [execOp, hop, resolve, invoke, builtin, hs, hx, hrun, Result.andThen]
    exact hKK _ _ (hK bo' _ cap' w' rfl ⟨hown', fun x hx => (List.mem_append.1 hx).elim (h.rng x) (ht.rng x), Nat.le_trans h.hB hoff.size⟩ ⟨hoff, hsub⟩)

/-- What holds of Build's own memory: five boxes, two rows that grow. -/
structure TJ (w W1 W : World) (X Y K : List Int) (bo : Option Addr) (bn bc : Nat) (lo : Option Addr) (ln lc : Nat) (ko : Option Addr) (kl kc : Nat) : Prop where
  c0 : W.cell? ⟨w.heap.size, 0, none⟩ = some (.slice none 0 0)
  c1 : W.cell? ⟨w.heap.size + 1, 0, none⟩ = some (.int .i64 0)
  c2 : W.cell? ⟨w.heap.size + 2, 0, none⟩ = some (.slice bo bn bc)
  c3 : W.cell? ⟨w.heap.size + 3, 0, none⟩ = some (.slice lo ln lc)
  c4 : W.cell? ⟨w.heap.size + 4, 0, none⟩ = some (.slice ko kl kc)
  z0 : W.frozen? ⟨w.heap.size, 0, none⟩ = false
  z1 : W.frozen? ⟨w.heap.size + 1, 0, none⟩ = false
  z2 : W.frozen? ⟨w.heap.size + 2, 0, none⟩ = false
  z3 : W.frozen? ⟨w.heap.size + 3, 0, none⟩ = false
  z4 : W.frozen? ⟨w.heap.size + 4, 0, none⟩ = false
  gb : Gr (w.heap.size + 7) W bo bn bc X
  gl : Gr (w.heap.size + 7) W lo ln lc Y
  dis : ∀ q ∈ own (.slice lo ln lc), q ∉ own (.slice bo bn bc)
  tk : Tx w ko kl kc K
  kle : kl ≤ 1000000000000
  kp : Kept (w.heap.size + 7) [w.heap.size, w.heap.size + 1, w.heap.size + 2, w.heap.size + 3, w.heap.size + 4] W1 W

theorem TJ.kept {w W1 W : World} {X Y K : List Int} {bo : Option Addr} {bn bc : Nat} {lo : Option Addr} {ln lc : Nat} {ko : Option Addr} {kl kc : Nat} {W' : World} {row : Option Nat} (h : TJ w W1 W X Y K bo bn bc lo ln lc ko kl kc) (hg : W.grownBy W' row) (hr : ∀ r, row = some r → w.heap.size + 7 ≤ r ∧ ∃ o : Obj, W.heap[r]? = some o ∧ o.isCells = false) : TJ w W1 W' X Y K bo bn bc lo ln lc ko kl kc :=
  have hr2 := fun r e => (hr r e).2
  ⟨cell_kept h.c0 hg hr2, cell_kept h.c1 hg hr2, cell_kept h.c2 hg hr2, cell_kept h.c3 hg hr2, cell_kept h.c4 hg hr2,
   (frozen_kept h.c0 hg hr2).trans h.z0, (frozen_kept h.c1 hg hr2).trans h.z1, (frozen_kept h.c2 hg hr2).trans h.z2, (frozen_kept h.c3 hg hr2).trans h.z3, (frozen_kept h.c4 hg hr2).trans h.z4,
   h.gb.kept hg hr2, h.gl.kept hg hr2, h.dis, h.tk, h.kle,
   ⟨hg.os.trans h.kp.os, hg.tape.trans h.kp.tape, hg.output.trans h.kp.output, Nat.le_trans h.kp.size hg.size, fun k hk hS => by
     by_cases hkW : k < W.heap.size
     · exact (hg.block k hkW (fun e => by have := (hr k e.symm).1; omega)).trans (h.kp.block k hk hS)
     · have := h.gb.hB; omega⟩⟩
theorem frozen_off {S : List Nat} {w w' : World} {a : Addr} {v : Value} (ho : Off S w w') (hc : w.cell? a = some v) (hn : a.block ∉ S) : w'.frozen? a = w.frozen? a :=
  World.frozen?_of_block (ho.block a.block (World.block_lt_of_cell? _ _ hc) hn)
/-- What turns rows of its own alone, or nothing that was there. -/
theorem TJ.off {w W1 W : World} {X Y K : List Int} {bo : Option Addr} {bn bc : Nat} {lo : Option Addr} {ln lc : Nat} {ko : Option Addr} {kl kc : Nat} {W' : World} {S : List Nat} (h : TJ w W1 W X Y K bo bn bc lo ln lc ko kl kc) (ho : Off S W W') (hS : ∀ k ∈ S, w.heap.size + 7 ≤ k) {bo' lo' : Option Addr} {bn' bc' ln' lc' : Nat} {X' Y' : List Int} (_gb : Gr (w.heap.size + 7) W' bo' bn' bc' X') (_gl : Gr (w.heap.size + 7) W' lo' ln' lc' Y') (_dis : ∀ q ∈ own (.slice lo' ln' lc'), q ∉ own (.slice bo' bn' bc')) :
    W'.cell? ⟨w.heap.size, 0, none⟩ = some (.slice none 0 0) ∧ W'.cell? ⟨w.heap.size + 1, 0, none⟩ = some (.int .i64 0) ∧ W'.cell? ⟨w.heap.size + 2, 0, none⟩ = some (.slice bo bn bc) ∧ W'.cell? ⟨w.heap.size + 3, 0, none⟩ = some (.slice lo ln lc) ∧ W'.cell? ⟨w.heap.size + 4, 0, none⟩ = some (.slice ko kl kc) ∧
    W'.frozen? ⟨w.heap.size, 0, none⟩ = false ∧ W'.frozen? ⟨w.heap.size + 1, 0, none⟩ = false ∧ W'.frozen? ⟨w.heap.size + 2, 0, none⟩ = false ∧ W'.frozen? ⟨w.heap.size + 3, 0, none⟩ = false ∧ W'.frozen? ⟨w.heap.size + 4, 0, none⟩ = false ∧
    Kept (w.heap.size + 7) [w.heap.size, w.heap.size + 1, w.heap.size + 2, w.heap.size + 3, w.heap.size + 4] W1 W' := by
  have hn : ∀ j, j < 7 → w.heap.size + j ∉ S := fun j hj hk => by have := hS _ hk; omega
  exact ⟨ho.cell h.c0 (hn 0 (by omega)), ho.cell h.c1 (hn 1 (by omega)), ho.cell h.c2 (hn 2 (by omega)), ho.cell h.c3 (hn 3 (by omega)), ho.cell h.c4 (hn 4 (by omega)),
    (frozen_off ho h.c0 (hn 0 (by omega))).trans h.z0, (frozen_off ho h.c1 (hn 1 (by omega))).trans h.z1, (frozen_off ho h.c2 (hn 2 (by omega))).trans h.z2, (frozen_off ho h.c3 (hn 3 (by omega))).trans h.z3, (frozen_off ho h.c4 (hn 4 (by omega))).trans h.z4,
    h.kp.trans (Kept.of_off ho h.gb.hB (fun k hk hlt => by have := hS k hk; omega))⟩
theorem TJ.later {w W1 W : World} {X Y K : List Int} {bo : Option Addr} {bn bc : Nat} {lo : Option Addr} {ln lc : Nat} {ko : Option Addr} {kl kc : Nat} {W' : World} (h : TJ w W1 W X Y K bo bn bc lo ln lc ko kl kc) (hb : Below W.heap.size W W') : TJ w W1 W' X Y K bo bn bc lo ln lc ko kl kc := by
  have gb := h.gb.later hb
  have gl := h.gl.later hb
  obtain ⟨a0, a1, a2, a3, a4, b0, b1, b2, b3, b4, kp⟩ := h.off (S := []) (.of_below hb) (by simp) gb gl h.dis
  exact ⟨a0, a1, a2, a3, a4, b0, b1, b2, b3, b4, gb, gl, h.dis, h.tk, h.kle, kp⟩
theorem gr_set {B : Nat} {w : World} {ao : Option Addr} {n cap : Nat} {xs : List Int} (h : Gr B w ao n cap xs) (p : Addr) (hp : p.block < B) (u : Value) : Gr B (w.setCell p u) ao n cap xs :=
  ⟨rows_offB h.own ((Off.refl [p.block] w).setCell (by simp) u) (fun k hk hk2 => by have := (h.lt k hk).2; simp at hk2; omega), h.rng, by simpa [World.setCell] using h.hB⟩
theorem kept_set {n : Nat} {S : List Nat} {A B : World} (h : Kept n S A B) (p : Addr) (hp : p.block ∈ S) (u : Value) : Kept n S A (B.setCell p u) :=
  ⟨h.os, h.tape, h.output, Nat.le_trans h.size (by simp [World.setCell]), fun k hk hS => (Below.heap_setCell _ _ _ _ (fun e => hS (by first | (rw [e]; exact hp) | (rw [← e]; exact hp)))).trans (h.block k hk hS)⟩
/-- The blocks' row has grown, and is kept. -/
theorem TJ.put2 {w W1 W : World} {X Y K : List Int} {bo : Option Addr} {bn bc : Nat} {lo : Option Addr} {ln lc : Nat} {ko : Option Addr} {kl kc : Nat} {W' : World} (h : TJ w W1 W X Y K bo bn bc lo ln lc ko kl kc) {bo' : Option Addr} {bn' bc' : Nat} {X' : List Int} (gb : Gr (w.heap.size + 7) W' bo' bn' bc' X') (mv : Moves (.slice bo bn bc) (.slice bo' bn' bc') W W') :
    TJ w W1 (W'.setCell ⟨w.heap.size + 2, 0, none⟩ (.slice bo' bn' bc')) X' Y K bo' bn' bc' lo ln lc ko kl kc := by
  obtain ⟨gl, dis⟩ := mv.other h.gl h.dis
  obtain ⟨a0, a1, a2, a3, a4, b0, b1, b2, b3, b4, kp⟩ := h.off mv.off (fun k hk => (h.gb.lt k hk).2) gb gl dis
  exact ⟨by rw [World.cell?_setCell_other _ _ _ _ (by simp)]; exact a0, by rw [World.cell?_setCell_other _ _ _ _ (by simp)]; exact a1, World.cell?_setCell_same _ _ _ a2, by rw [World.cell?_setCell_other _ _ _ _ (by simp)]; exact a3, by rw [World.cell?_setCell_other _ _ _ _ (by simp)]; exact a4,
    by rw [World.frozen?_setCell]; exact b0, by rw [World.frozen?_setCell]; exact b1, by rw [World.frozen?_setCell]; exact b2, by rw [World.frozen?_setCell]; exact b3, by rw [World.frozen?_setCell]; exact b4,
    gr_set gb _ (by simp) _, gr_set gl _ (by simp) _, dis, h.tk, h.kle, kept_set kp _ (by simp) _⟩
/-- The lengths' row has grown, and is kept. -/
theorem TJ.put3 {w W1 W : World} {X Y K : List Int} {bo : Option Addr} {bn bc : Nat} {lo : Option Addr} {ln lc : Nat} {ko : Option Addr} {kl kc : Nat} {W' : World} (h : TJ w W1 W X Y K bo bn bc lo ln lc ko kl kc) {lo' : Option Addr} {ln' lc' : Nat} {Y' : List Int} (gl : Gr (w.heap.size + 7) W' lo' ln' lc' Y') (mv : Moves (.slice lo ln lc) (.slice lo' ln' lc') W W') :
    TJ w W1 (W'.setCell ⟨w.heap.size + 3, 0, none⟩ (.slice lo' ln' lc')) X Y' K bo bn bc lo' ln' lc' ko kl kc := by
  obtain ⟨gb, dis'⟩ := mv.other h.gb (fun q hq hq2 => h.dis q hq2 hq)
  have dis : ∀ q ∈ own (.slice lo' ln' lc'), q ∉ own (.slice bo bn bc) := fun q hq hq2 => dis' q hq2 hq
  obtain ⟨a0, a1, a2, a3, a4, b0, b1, b2, b3, b4, kp⟩ := h.off mv.off (fun k hk => (h.gl.lt k hk).2) gb gl dis
  exact ⟨by rw [World.cell?_setCell_other _ _ _ _ (by simp)]; exact a0, by rw [World.cell?_setCell_other _ _ _ _ (by simp)]; exact a1, by rw [World.cell?_setCell_other _ _ _ _ (by simp)]; exact a2, World.cell?_setCell_same _ _ _ a3, by rw [World.cell?_setCell_other _ _ _ _ (by simp)]; exact a4,
    by rw [World.frozen?_setCell]; exact b0, by rw [World.frozen?_setCell]; exact b1, by rw [World.frozen?_setCell]; exact b2, by rw [World.frozen?_setCell]; exact b3, by rw [World.frozen?_setCell]; exact b4,
    gr_set gb _ (by simp) _, gr_set gl _ (by simp) _, dis, h.tk, h.kle, kept_set kp _ (by simp) _⟩
/-- Another Key is kept. -/
theorem TJ.put4 {w W1 W : World} {X Y K : List Int} {bo : Option Addr} {bn bc : Nat} {lo : Option Addr} {ln lc : Nat} {ko : Option Addr} {kl kc : Nat} (h : TJ w W1 W X Y K bo bn bc lo ln lc ko kl kc) {ko' : Option Addr} {kl' kc' : Nat} {K' : List Int} (tk : Tx w ko' kl' kc' K') (kle : kl' ≤ 1000000000000) :
    TJ w W1 (W.setCell ⟨w.heap.size + 4, 0, none⟩ (.slice ko' kl' kc')) X Y K' bo bn bc lo ln lc ko' kl' kc' :=
  ⟨by rw [World.cell?_setCell_other _ _ _ _ (by simp)]; exact h.c0, by rw [World.cell?_setCell_other _ _ _ _ (by simp)]; exact h.c1, by rw [World.cell?_setCell_other _ _ _ _ (by simp)]; exact h.c2, by rw [World.cell?_setCell_other _ _ _ _ (by simp)]; exact h.c3, World.cell?_setCell_same _ _ _ h.c4,
    by rw [World.frozen?_setCell]; exact h.z0, by rw [World.frozen?_setCell]; exact h.z1, by rw [World.frozen?_setCell]; exact h.z2, by rw [World.frozen?_setCell]; exact h.z3, by rw [World.frozen?_setCell]; exact h.z4,
    gr_set h.gb _ (by simp) _, gr_set h.gl _ (by simp) _, h.dis, tk, kle, kept_set h.kp _ (by simp) _⟩

theorem TJ.rebase {w W1 W : World} {X Y K : List Int} {bo : Option Addr} {bn bc : Nat} {lo : Option Addr} {ln lc : Nat} {ko : Option Addr} {kl kc : Nat} (h : TJ w W1 W X Y K bo bn bc lo ln lc ko kl kc) : TJ w W W X Y K bo bn bc lo ln lc ko kl kc :=
  ⟨h.c0, h.c1, h.c2, h.c3, h.c4, h.z0, h.z1, h.z2, h.z3, h.z4, h.gb, h.gl, h.dis, h.tk, h.kle, Kept.refl _ _ _⟩
theorem TJ.at2 {w W1 W : World} {X Y K : List Int} {bo : Option Addr} {bn bc : Nat} {lo : Option Addr} {ln lc : Nat} {ko : Option Addr} {kl kc : Nat} {W' : World} {v' : Value} (h : TJ w W1 W X Y K bo bn bc lo ln lc ko kl kc) (mv : Moves (.slice bo bn bc) v' W W') : W'.cell? ⟨w.heap.size + 2, 0, none⟩ = some (.slice bo bn bc) ∧ W'.frozen? ⟨w.heap.size + 2, 0, none⟩ = false := by
  have hn : w.heap.size + 2 ∉ own (.slice bo bn bc) := fun hk => by have := (h.gb.lt _ hk).2; omega
  exact ⟨mv.off.cell h.c2 hn, (frozen_off mv.off h.c2 hn).trans h.z2⟩
theorem TJ.at3 {w W1 W : World} {X Y K : List Int} {bo : Option Addr} {bn bc : Nat} {lo : Option Addr} {ln lc : Nat} {ko : Option Addr} {kl kc : Nat} {W' : World} {v' : Value} (h : TJ w W1 W X Y K bo bn bc lo ln lc ko kl kc) (mv : Moves (.slice lo ln lc) v' W W') : W'.cell? ⟨w.heap.size + 3, 0, none⟩ = some (.slice lo ln lc) ∧ W'.frozen? ⟨w.heap.size + 3, 0, none⟩ = false := by
  have hn : w.heap.size + 3 ∉ own (.slice lo ln lc) := fun hk => by have := (h.gl.lt _ hk).2; omega
  exact ⟨mv.off.cell h.c3 hn, (frozen_off mv.off h.c3 hn).trans h.z3⟩
theorem run_gr (B : Nat) (w : World) (ty : TypeId) (bo : Option Addr) (n cap : Nat) (xs : List Int) (h : Gr B w bo n cap xs) (ao : Option Addr) (m c : Nat) (ys : List Int) (ht : Tx w ao m c ys) (b : n + m ≤ 1000000000) :
    ∃ bo' n' cap' w', (Builtin.append_ #[23, 23] ty #[.slice bo n cap, .slice ao m c]).run Try.prog w = .ok (.slice bo' n' cap') w' ∧ Hid (n' = n + m) ∧ Gr B w' bo' n' cap' (xs ++ ys) ∧ Moves (.slice bo n cap) (.slice bo' n' cap') w w' := by
  obtain ⟨v', w', hrun, hown', hoff, hsub⟩ := run_app B w ty (.slice bo n cap) n xs h.own ao m c ys ht b h.hB
  obtain ⟨bo', cap', rfl⟩ := own_form hown'
  exact ⟨bo', _, cap', w', hrun, rfl, ⟨hown', fun x hx => (List.mem_append.1 hx).elim (h.rng x) (ht.rng x), Nat.le_trans h.hB hoff.size⟩, ⟨hoff, hsub⟩⟩

theorem step_gr_in {F : Fence} {q : Nat} {ops : Array Oper} {o : Oper} {a : Act} {w : World} {K : Act → World → Prop} {Q : Exit → Act → World → Prop} {E : Prop}
    (hg : o.guard = none) (s x : Operand) (hop : o.op = Op.call { callee := Callee.builtin Builtin.append, args := #[s, x], argTypes := #[23, 23] })
    (B : Nat) (bo : Option Addr) (n cap : Nat) (xs : List Int) (hs : a.eval s = .slice bo n cap) (h : Gr B w bo n cap xs)
    (ao : Option Addr) (m c : Nat) (ys : List Int) (hx : a.eval x = .slice ao m c) (ht : Tx w ao m c ys) (b : n + m ≤ 1000000000)
    (hK : ∀ bo' n' cap' w', Hid (n' = n + m) → Gr B w' bo' n' cap' (xs ++ ys) → Moves (.slice bo n cap) (.slice bo' n' cap') w w' → K (a.put o.dst (.slice bo' n' cap')) w') :
    if Region.wanted o (yielded ops a.tmps) = true then Oper.wpIn F q Try.prog o a w K Q else E := by
  have hw : Region.wanted o (yielded ops a.tmps) = true := by simp [Region.wanted, hg]
  rw [if_pos hw]
  obtain ⟨bo', n', cap', w', hrun, h1, h2, h3⟩ := run_gr B w o.type bo n cap xs h ao m c ys ht b
  unfold Oper.wpIn
  refine ⟨?_, ?_⟩
  · simp [Oper.about, hop, resolve, Target.leads, Sem.run_pure]
  · rw [Oper.semAt_plain F _ _ (by rw [hop]; intro c hc'; cases hc')]
    simp [execOp, hop, resolve, invoke, builtin, hs, hx, hrun, Result.andThen]
    exact hK bo' n' cap' w' h1 h2 h3

theorem wpListIn_convs {F : Fence} {q : Nat} {ops : Array Oper} {rest : List Oper} {o : Oper} {a : Act} {w : World} {Q : Exit → Act → World → Prop}
    (hg : o.guard = none) (x : Operand) (hop : o.op = .convert 23 23 x) (V : World) (b : Nat) (cs : Array Value) (xs : List Int) (n : Nat) (hb : b = V.heap.size) (hx : a.eval x = .slice (some ⟨b, 0, none⟩) n n) (hw : w = V.alloc (.cells cs 5)) (hc : cs = (xs.map (Value.int .u8)).toArray) (hn : xs.length = n) (hn9 : n ≤ 1000000) (hr : ∀ x ∈ xs, 0 ≤ x ∧ x ≤ 255)
    (hK : ∀ W, Tx W (some ⟨b, 0, none⟩) n n xs → Below V.heap.size V W → wpListIn F q Try.prog ops Q rest (a.put o.dst (.slice (some ⟨b, 0, none⟩) n n)) W) :
    wpListIn F q Try.prog ops Q (o :: rest) a w := by
  subst hb hw
  refine wpListIn_plain hg fun K hKK => ?_
  have hrun := Lib.run_convert_bytes_const (P := Try.prog) V 23 5 cs n n Try.underlying23 Try.underlying5
  unfold Oper.wpIn
  refine ⟨?_, ?_⟩
  · simp [Oper.about, hop]
  · rw [Oper.semAt_plain F _ _ (by rw [hop]; intro c hc'; cases hc')]
    simp [execOp, hop, hx, hrun, Result.andThen]
    exact hKK _ _ (hK _ (tx_mark V cs _ xs n hc hn hn9 hr) ((Below.refl _ _).alloc (Nat.le_refl _) _))
/-- A list of texts in a block of its own. -/
theorem lx_rows (w : World) (vs : List Value) (xss : List (List Int)) (n : Nat) (hn : xss.length = n) (hv : vs.length = n) (hn9 : n ≤ 1000) (h : ∀ (j : Nat) (v : Value) (xs : List Int), vs[j]? = some v → xss[j]? = some xs → BytesAt w [] v xs) : Lx 1 RB (w.alloc (.cells vs.toArray 23)) (some ⟨w.heap.size, 0, none⟩) n n xss := by
  have hb : Below w.heap.size w (w.alloc (.cells vs.toArray 23)) := (Below.refl _ _).alloc (Nat.le_refl _) _
  refine ⟨hn, Nat.le_refl _, by unfold maxLen; omega, fun h => (by cases h), fun ad ha j e he => ?_⟩
  cases ha
  have hj := (List.getElem?_eq_some_iff.1 he).1
  have hvj : vs[j]? = some (vs[j]'(by omega)) := by simp
  refine ⟨[vs[j]'(by omega)], fun i x hx => ?_, ⟨_, rfl, (h j _ e hvj he).off (.of_below hb) (fun k hk => by simp at hk)⟩⟩
  obtain ⟨rfl, rfl⟩ : i = 0 ∧ x = vs[j]'(by omega) := by
    have hi := (List.getElem?_eq_some_iff.1 hx).1
    have : i = 0 := by simpa using hi
    subst this
    exact ⟨rfl, by simpa using hx.symm⟩
  rw [Addr.add_lit, cell_of_row _ w.heap.size _ _ 23 (0, 0) (heap_alloc_new w _)]
  simp

/-- What holds between two rounds of Build. -/
def TI (w : World) (m : List Ent) (js : List Nat) (W1 W : World) (bo : Option Addr) (bn bc : Nat) (lo : Option Addr) (ln lc : Nat) (ko : Option Addr) (kl kc : Nat) : Prop :=
  TJ w W1 W (bodyT m js) (lensT m js) (lastK [] (catT m js)) bo bn bc lo ln lc ko kl kc ∧ okL [] (catT m js) = true ∧ bn ≤ js.length * 34885

/-- A part of a list. -/
theorem Lx.part {α : Type} {R : Reads α} {w : World} {b off len cap : Nat} {es : List α} (h : Lx 3 R w (some ⟨b, off, none⟩) len cap es) (k n : Nat) (hk : k + n ≤ len) : Lx 3 R w (some ⟨b, off + k * 3, none⟩) n n ((es.drop k).take n) := by
  have hl := h.len_eq
  refine ⟨by simp; omega, Nat.le_refl _, by have := h.top; have := h.le; omega, fun ha => (by cases ha), fun ad ha j e he => ?_⟩
  cases ha
  rw [List.getElem?_take] at he
  split at he
  · rw [List.getElem?_drop] at he
    obtain ⟨u, h1, h2⟩ := h.cell _ rfl (k + j) e he
    refine ⟨u, fun i x hx => ?_, h2⟩
    have := h1 i x hx
    rw [Addr.add_lit] at this ⊢
    rw [← this, show off + k * 3 + (j * 3 + i) = off + ((k + j) * 3 + i) by omega]
  · cases he
end Go.Proofs.Yteeemfohehpaeaa
