/- Heads and their sources in memory. -/
import Derived.Test.YtjbppedphadenaaGMod
import Derived.Test.YtjbppedphadenaaMOwn
namespace Go.Proofs.Ytjbppedphadenaa
set_option maxRecDepth 100000
open Go.RowKit Go.Sort

def ptr (n : Nd) : Value := .pointer (some ⟨n.b, 0, none⟩)
def fnNext (r : Nat) : Value := .func (Fn.func 19) #[.pointer (some ⟨r, 0, none⟩)] #[]
structure NdIn (w : World) (n : Nd) : Prop where
  head : w.heap[n.b]? = some (.cells #[n.kv, n.vv, .bool n.e.g, .int .i64 (n.age : Int), fnNext n.r] 56 (0, 0))
  row : w.heap[n.r]? = some (.cells #[.slice n.lo n.ll n.lc] 42 (0, 0))
structure NdOk (w0 : World) (n : Nd) : Prop where
  k : BytesAt w0 [] n.kv n.e.k
  v : BytesAt w0 [] n.vv n.e.v
  lx : Lx 3 RE w0 n.lo n.ll n.lc n.rest
  sk : n.e.k.length ≤ 1000000000
  sv : n.e.v.length ≤ 1000000000
  sr : ∀ e ∈ n.rest, e.k.length ≤ 1000000000 ∧ e.v.length ≤ 1000000000
structure Hs (w0 w : World) (S : List Nat) (hb : Nat) (v : Value) (hs : List Nd) : Prop where
  below : Below w0.heap.size w0 w
  cell : w.heap[hb]? = some (.cells #[v] 39 (0, 0))
  row : w.ownsRow w0.heap.size 54 1 v hs.length (hs.map ptr)
  nodes : ∀ n ∈ hs, NdIn w n ∧ NdOk w0 n
  nb : (hs.map (·.b)).Nodup
  nr : (hs.map (·.r)).Nodup
  inb : hb ∈ S
  inv : ∀ k ∈ own v, k ∈ S
  ins : ∀ n ∈ hs, n.b ∈ S ∧ n.r ∈ S
  low : ∀ k ∈ S, w0.heap.size ≤ k
  top : ∀ k ∈ S, k < w.heap.size
theorem heap_lt {w : World} {k : Nat} {o : Obj} (h : w.heap[k]? = some o) : k < w.heap.size := (Array.getElem?_eq_some_iff.1 h).1
theorem Hs.off {w0 w w' : World} {S T : List Nat} {hb : Nat} {v : Value} {hs : List Nd} (h : Hs w0 w S hb v hs) (ho : Off T w w') (hT : ∀ k ∈ T, k ∉ S) (hT0 : ∀ k ∈ T, w0.heap.size ≤ k) : Hs w0 w' S hb v hs := by
  have hblk : ∀ k, k < w.heap.size → k ∈ S → w'.heap[k]? = w.heap[k]? := fun k hk hS => ho.block k hk (fun hT' => hT k hT' hS)
  refine ⟨h.below.trans (ho.below hT0 h.below.size), ?_, rows_offB h.row ho (fun k hk hT' => hT k hT' (h.inv k hk)), fun n hn => ⟨⟨?_, ?_⟩, (h.nodes n hn).2⟩, h.nb, h.nr, h.inb, h.inv, h.ins, h.low, fun k hk => Nat.lt_of_lt_of_le (h.top k hk) ho.size⟩
  · rw [hblk hb (heap_lt h.cell) h.inb]; exact h.cell
  · have h1 := (h.nodes n hn).1.head
    rw [hblk _ (heap_lt h1) (h.ins n hn).1]; exact h1
  · have h1 := (h.nodes n hn).1.row
    rw [hblk _ (heap_lt h1) (h.ins n hn).2]; exact h1
theorem Hs.later {w0 w w' : World} {S : List Nat} {hb : Nat} {v : Value} {hs : List Nd} (h : Hs w0 w S hb v hs) (b : Below w.heap.size w w') : Hs w0 w' S hb v hs :=
  h.off (T := []) (.of_below b) (by simp) (by simp)
theorem Hs.form {w0 w : World} {S : List Nat} {hb : Nat} {v : Value} {hs : List Nd} (h : Hs w0 w S hb v hs) : ∃ ao cap, v = .slice ao hs.length cap := own_form h.row
theorem Hs.len {w0 w : World} {S : List Nat} {hb : Nat} {v : Value} {hs : List Nd} (h : Hs w0 w S hb v hs) : hs.length ≤ maxLen := by
  rcases h.row.2 with ⟨_, h0⟩ | ⟨g, c, cur, _, _, _, hn, hm, _⟩
  · rw [h0]; exact Nat.zero_le _
  · omega
/-- The row of heads: its cells. -/
theorem Hs.at_ {w0 w : World} {S : List Nat} {hb : Nat} {v : Value} {hs : List Nd} (h : Hs w0 w S hb v hs) (h0 : 0 < hs.length) : ∃ g cap, v = .slice (some ⟨g, 0, none⟩) hs.length cap ∧ hs.length ≤ cap ∧ cap ≤ maxLen ∧
    (∀ (j : Nat) (x : Nd), hs[j]? = some x → w.cell? ⟨g, j, none⟩ = some (ptr x)) ∧ ∀ j, w.frozen? ⟨g, j, none⟩ = false := by
  obtain ⟨hl, h4⟩ := h.row
  rcases h4 with ⟨h', hn⟩ | ⟨g, c, cur, h', hb, hg, hn, hm, hs', ht⟩
  · omega
  · refine ⟨g, c, h', hn, hm, fun j x hx => ?_, fun j => frozen_of_row w g _ _ 54 hg⟩
    have hj := (List.getElem?_eq_some_iff.1 hx).1
    rw [cell_of_row w g j cur 54 (0, 0) hg]
    have hu : (hs.map ptr)[j]? = some (ptr x) := by simp [hx]
    rw [← ht, List.getElem?_take, if_pos (by omega)] at hu
    simpa using hu
theorem Hs.cell0 {w0 w : World} {S : List Nat} {hb : Nat} {v : Value} {hs : List Nd} (h : Hs w0 w S hb v hs) : w.cell? ⟨hb, 0, none⟩ = some v ∧ w.frozen? ⟨hb, 0, none⟩ = false :=
  ⟨by rw [cell_of_row w hb 0 _ 39 (0, 0) h.cell]; rfl, frozen_of_row w hb 0 _ 39 h.cell⟩
/-- A head: its cells. -/
structure NdC (w : World) (n : Nd) (ko : Option Addr) (kl kc : Nat) (vo : Option Addr) (vl vc : Nat) : Prop where
  kv : n.kv = .slice ko kl kc
  vv : n.vv = .slice vo vl vc
  c0 : w.cell? ⟨n.b, 0, none⟩ = some (.slice ko kl kc)
  c1 : w.cell? ⟨n.b, 1, none⟩ = some (.slice vo vl vc)
  c2 : w.cell? ⟨n.b, 2, none⟩ = some (.bool n.e.g)
  c3 : w.cell? ⟨n.b, 3, none⟩ = some (.int .i64 (n.age : Int))
  c4 : w.cell? ⟨n.b, 4, none⟩ = some (fnNext n.r)
  z : ∀ j, w.frozen? ⟨n.b, j, none⟩ = false
  tk : Tx w ko kl kc n.e.k
  tv : Tx w vo vl vc n.e.v
  sk : kl ≤ 1000000000
  sv : vl ≤ 1000000000
theorem Hs.node {w0 w : World} {S : List Nat} {hb : Nat} {v : Value} {hs : List Nd} (h : Hs w0 w S hb v hs) {n : Nd} (hn : n ∈ hs) : ∃ ko kl kc vo vl vc, NdC w n ko kl kc vo vl vc := by
  obtain ⟨h1, h2⟩ := h.nodes n hn
  obtain ⟨ko, kl, kc, ek, tk, _⟩ := h2.k
  obtain ⟨vo, vl, vc, ev, tv, _⟩ := h2.v
  have sk := h2.sk
  have sv := h2.sv
  rw [tk.len_eq] at sk
  rw [tv.len_eq] at sv
  have hh := h1.head
  refine ⟨ko, kl, kc, vo, vl, vc, ek, ev, ?_, ?_, ?_, ?_, ?_, fun j => frozen_of_row w n.b j _ 56 hh, tk.later h.below, tv.later h.below, sk, sv⟩
  · rw [cell_of_row w n.b 0 _ 56 (0, 0) hh, ek]; rfl
  · rw [cell_of_row w n.b 1 _ 56 (0, 0) hh, ev]; rfl
  · rw [cell_of_row w n.b 2 _ 56 (0, 0) hh]; rfl
  · rw [cell_of_row w n.b 3 _ 56 (0, 0) hh]; rfl
  · rw [cell_of_row w n.b 4 _ 56 (0, 0) hh]; rfl
/-- The same heads in another order: a pointer's place is written. -/
theorem Hs.set {w0 w : World} {S : List Nat} {hb : Nat} {g n cap : Nat} {hs : List Nd} {i j : Nat} {x y : Nd} (h : Hs w0 w S hb (.slice (some ⟨g, 0, none⟩) n cap) hs) (hi : hs[i]? = some x) (hj : hs[j]? = some y) :
    Hs w0 ((w.setCell ⟨g, i, none⟩ (ptr y)).setCell ⟨g, j, none⟩ (ptr x)) S hb (.slice (some ⟨g, 0, none⟩) n cap) (swapL hs i j x y) ∧ Off S w ((w.setCell ⟨g, i, none⟩ (ptr y)).setCell ⟨g, j, none⟩ (ptr x)) := by
  have hil := (List.getElem?_eq_some_iff.1 hi).1
  have hjl := (List.getElem?_eq_some_iff.1 hj).1
  have hgS : g ∈ S := h.inv g (by simp [own, Value.ownBlock])
  obtain ⟨hl, h4⟩ := h.row
  rcases h4 with ⟨h', hn⟩ | ⟨g', c, cur, h', hb', hg, hn, hm, hs', ht⟩
  · omega
  · simp only [Value.slice.injEq, Option.some.injEq, Addr.mk.injEq, and_true] at h'
    obtain ⟨rfl, rfl, rfl⟩ := h'
    have e1 := heap_setCell_same w g i cur 54 (ptr y) hg
    have e2 := heap_setCell_same (w.setCell ⟨g, i, none⟩ (ptr y)) g j _ 54 (ptr x) e1
    have hoth : ∀ k, k ≠ g → ((w.setCell ⟨g, i, none⟩ (ptr y)).setCell ⟨g, j, none⟩ (ptr x)).heap[k]? = w.heap[k]? := fun k hk => by
      rw [Below.heap_setCell _ _ _ _ hk, Below.heap_setCell _ _ _ _ hk]
    have ho : Off S w ((w.setCell ⟨g, i, none⟩ (ptr y)).setCell ⟨g, j, none⟩ (ptr x)) := ((Off.refl S w).setCell (p := ⟨g, i, none⟩) hgS _).setCell (p := ⟨g, j, none⟩) hgS _
    have hp := swapL_perm hi hj
    refine ⟨⟨h.below.trans (ho.below h.low h.below.size), ?_, ?_, fun m hm' => ⟨⟨?_, ?_⟩, (h.nodes m (hp.mem_iff.1 hm')).2⟩, (hp.map _).nodup_iff.2 h.nb, (hp.map _).nodup_iff.2 h.nr, h.inb, h.inv, fun m hm' => h.ins m (hp.mem_iff.1 hm'), h.low, fun k hk => Nat.lt_of_lt_of_le (h.top k hk) ho.size⟩, ho⟩
    · rw [hoth hb (fun e => by have := h.cell; rw [e, hg] at this; simp at this)]; exact h.cell
    · refine ⟨by simp [swapL], .inr ⟨g, cap, (cur.setIfInBounds i (ptr y)).setIfInBounds j (ptr x), by rw [swapL_len], hb', e2, by rw [swapL_len]; exact hn, hm, by simpa using hs', ?_⟩⟩
      rw [Array.toList_setIfInBounds, Array.toList_setIfInBounds, List.take_set, List.take_set, swapL_len, ht, swapL, List.map_set, List.map_set]
    · have h1 := (h.nodes m (hp.mem_iff.1 hm')).1.head
      rw [hoth _ (fun e => by rw [e, hg] at h1; simp at h1)]; exact h1
    · have h1 := (h.nodes m (hp.mem_iff.1 hm')).1.row
      rw [hoth _ (fun e => by rw [e, hg] at h1; simp at h1)]; exact h1

/- Where the methods of *heads lead. -/
theorem nil_len (a : Addr) (w : World) : (nilAhead 185 51 (.pointer (some a)) "Len").run Try.prog w = .ok (some false) w := by kernel_rfl
theorem nil_less (a : Addr) (w : World) : (nilAhead 185 51 (.pointer (some a)) "Less").run Try.prog w = .ok (some false) w := by kernel_rfl
theorem nil_swap (a : Addr) (w : World) : (nilAhead 185 51 (.pointer (some a)) "Swap").run Try.prog w = .ok (some false) w := by kernel_rfl
theorem nil_push (a : Addr) (w : World) : (nilAhead 185 51 (.pointer (some a)) "Push").run Try.prog w = .ok (some false) w := by kernel_rfl
theorem nil_pop (a : Addr) (w : World) : (nilAhead 185 51 (.pointer (some a)) "Pop").run Try.prog w = .ok (some false) w := by kernel_rfl
theorem method_push (a : Addr) (w : World) : (method 185 51 (.pointer (some a)) "Push").run Try.prog w = .ok (55, .pointer (some a)) w := by kernel_rfl
theorem method_pop (a : Addr) (w : World) : (method 185 51 (.pointer (some a)) "Pop").run Try.prog w = .ok (54, .pointer (some a)) w := by kernel_rfl
theorem load39 (w : World) (hb : Nat) (v : Value) (h : w.cell? ⟨hb, 0, none⟩ = some v) : (loadVar 39 ⟨hb, 0, none⟩).run Try.prog w = .ok v w := by
  have e1 : (isAgg 39).run Try.prog w = .ok false w := by kernel_rfl
  simp [loadVar, Sem.run_bind, e1, h]
theorem method_len (hb : Nat) (v : Value) (w : World) (h : w.cell? ⟨hb, 0, none⟩ = some v) : (method 185 51 (.pointer (some ⟨hb, 0, none⟩)) "Len").run Try.prog w = .ok (51, v) w := by
  have e : (method 185 51 (.pointer (some ⟨hb, 0, none⟩)) "Len").run Try.prog w = (loadVar 39 ⟨hb, 0, none⟩ >>= fun v => pure (51, v)).run Try.prog w := by kernel_rfl
  rw [e, Sem.run_bind, load39 w hb v h]; rfl
theorem method_less (hb : Nat) (v : Value) (w : World) (h : w.cell? ⟨hb, 0, none⟩ = some v) : (method 185 51 (.pointer (some ⟨hb, 0, none⟩)) "Less").run Try.prog w = .ok (52, v) w := by
  have e : (method 185 51 (.pointer (some ⟨hb, 0, none⟩)) "Less").run Try.prog w = (loadVar 39 ⟨hb, 0, none⟩ >>= fun v => pure (52, v)).run Try.prog w := by kernel_rfl
  rw [e, Sem.run_bind, load39 w hb v h]; rfl
theorem method_swap (hb : Nat) (v : Value) (w : World) (h : w.cell? ⟨hb, 0, none⟩ = some v) : (method 185 51 (.pointer (some ⟨hb, 0, none⟩)) "Swap").run Try.prog w = .ok (53, v) w := by
  have e : (method 185 51 (.pointer (some ⟨hb, 0, none⟩)) "Swap").run Try.prog w = (loadVar 39 ⟨hb, 0, none⟩ >>= fun v => pure (53, v)).run Try.prog w := by kernel_rfl
  rw [e, Sem.run_bind, load39 w hb v h]; rfl
end Go.Proofs.Ytjbppedphadenaa
