/- A source more: its head, asked for and pushed. -/
import Derived.Test.YtjbppedphadenaaGNext
namespace Go.Proofs.Ytjbppedphadenaa
set_option maxRecDepth 100000
open Go.RowKit Go.Sort

theorem Hs.offr {w0 w w' : World} {S : List Nat} {hb : Nat} {v : Value} {hs : List Nd} (h : Hs w0 w S hb v hs) {r : Nat} {cs : Array Value} (hr : w.heap[r]? = some (.cells cs 42 (0, 0))) (fr : ∀ m ∈ hs, m.r ≠ r) (lr : w0.heap.size ≤ r) (ho : Off [r] w w') : Hs w0 w' S hb v hs := by
  have hcell := h.cell
  have hblk : ∀ k, k < w.heap.size → k ≠ r → w'.heap[k]? = w.heap[k]? := fun k hk hS => ho.block k hk (by simpa using hS)
  have hbr : hb ≠ r := fun e => by rw [e, hr] at hcell; simp at hcell
  refine ⟨h.below.trans (ho.below (by simpa using lr) h.below.size), ?_, rows_offB h.row ho (fun k hk hT' => ?_), fun n hn => ⟨⟨?_, ?_⟩, (h.nodes n hn).2⟩, h.nb, h.nr, h.inb, h.inv, h.ins, h.low, fun k hk => Nat.lt_of_lt_of_le (h.top k hk) ho.size⟩
  · rw [hblk hb (heap_lt h.cell) hbr]; exact h.cell
  · have : k = r := by simpa using hT'
    subst this
    rcases h.row.2 with ⟨e, _⟩ | ⟨g, c, cur, e, _, hg, _⟩
    · subst e; simp [own, Value.ownBlock] at hk
    · subst e; simp [own, Value.ownBlock] at hk; subst hk; rw [hr] at hg; simp at hg
  · have h1 := (h.nodes n hn).1.head
    rw [hblk _ (heap_lt h1) (fun e => by rw [e, hr] at h1; simp at h1)]; exact h1
  · have h1 := (h.nodes n hn).1.row
    rw [hblk _ (heap_lt h1) (fr n hn)]; exact h1
set_option maxHeartbeats 4000000 in
theorem add_some {w0 w : World} {S : List Nat} {hb : Nat} {v : Value} {hs : List Nd} (h : Hs w0 w S hb v hs) (hh : HeapOn hs hs.length) (sm : hs.length ≤ 100000) (age r : Nat) (lo : Option Addr) (ll lc : Nat) (e : Ent) (rest : List Ent)
    (hrow : w.heap[r]? = some (.cells #[.slice lo ll lc] 42 (0, 0))) (L : Lx 3 RE w0 lo ll lc (e :: rest)) (sl : ll ≤ 1000000) (sk : ∀ x ∈ e :: rest, x.k.length ≤ 1000000000 ∧ x.v.length ≤ 1000000000) (fr : ∀ m ∈ hs, m.r ≠ r) (lr : w0.heap.size ≤ r) :
    Calls Try.prog 18 #[.pointer (some ⟨hb, 0, none⟩), .int .i64 age, fnNext r] w fun x w' => x = .returned (.tuple #[]) ∧ ∃ v' S' hs' n, Hs w0 w' S' hb v' hs' ∧ HeapOn hs' hs'.length ∧ hs'.Perm (hs ++ [n]) ∧ n.age = age ∧ n.e = e ∧ n.rest = rest ∧ n.r = r := by
  have hnx := next_some w0 w r lo ll lc e rest h.below hrow L sl
  unfold fnNext
  go_enter Try.func18, Try.ntmps18
  go_wp2_with fail
  with_reducible refine hnx.mono ?_
  clear hnx
  rintro x V ⟨kv, vv, lo', ll', lc', rfl, hr', L', _, bk, bv, O⟩
  have HV := h.offr hrow fr lr O
  have hlV := heap_lt hr'
  obtain ⟨ko, kl, kc, rfl, tk, _⟩ := bk
  obtain ⟨vo, vl, vc, rfl, tv, _⟩ := bv
  obtain ⟨G, hG⟩ : ∃ G, e.g = G := ⟨_, rfl⟩
  rw [hG]
  -- the box of the entry, the head
  have bA : Below V.heap.size V (V.alloc (.cells #[.slice ko kl kc, .slice vo vl vc, .bool G] 26)) := (Below.refl _ _).alloc (Nat.le_refl _) _
  have bB : Below V.heap.size V ((V.alloc (.cells #[.slice ko kl kc, .slice vo vl vc, .bool G] 26)).alloc (.cells #[.slice ko kl kc, .slice vo vl vc, .bool G, .int .i64 age, .func (Fn.func 19) #[.pointer (some ⟨r, 0, none⟩)] #[]] 56)) := bA.alloc (by simp) _
  have HB := HV.later bB
  have hsz := HV.below.size
  have hp := hp_push (n := ⟨V.heap.size + 1, r, .slice ko kl kc, .slice vo vl vc, e, age, lo', ll', lc', rest⟩) HB hh
    ⟨by
      have := heap_alloc_new (V.alloc (.cells #[.slice ko kl kc, .slice vo vl vc, .bool G] 26)) (.cells #[.slice ko kl kc, .slice vo vl vc, .bool G, .int .i64 age, .func (Fn.func 19) #[.pointer (some ⟨r, 0, none⟩)] #[]] 56)
      simpa [fnNext, hG] using this, by rw [bB.block r hlV]; exact hr'⟩
    ⟨⟨ko, kl, kc, rfl, tk, fun _ _ _ => by simp⟩, ⟨vo, vl, vc, rfl, tv, fun _ _ _ => by simp⟩, L', (sk e (by simp)).1, (sk e (by simp)).2, fun x hx => sk x (by simp [hx])⟩
    (fun m hm => by have := heap_lt (HV.nodes m hm).1.head; simp; omega) (fun m hm => fr m hm) (by simp; omega) lr sm
  clear hh hrow L fr h HV HB
  unfold ptr at hp
  go_wp2_with fail
  with_reducible refine hp.mono ?_
  clear hp
  rintro x V2 ⟨rfl, v', S', hs', H2, hH2, P2⟩
  go_wp2
  go_end0
  exact ⟨rfl, v', S', hs', _, H2, hH2, P2, rfl, rfl, rfl, rfl⟩
set_option maxHeartbeats 4000000 in
theorem add_none (hb age r : Nat) (lo : Option Addr) (lc : Nat) (w : World) (hrow : w.heap[r]? = some (.cells #[.slice lo 0 lc] 42 (0, 0))) :
    Calls Try.prog 18 #[.pointer (some ⟨hb, 0, none⟩), .int .i64 age, fnNext r] w fun x w' => x = .returned (.tuple #[]) ∧ Below w.heap.size w w' := by
  have hnx := next_none w r lo lc hrow
  unfold fnNext
  go_enter Try.func18, Try.ntmps18
  go_wp2_with fail
  with_reducible refine hnx.mono ?_
  clear hnx
  rintro x V ⟨rfl, bV⟩
  have bE := bV.alloc bV.size (.cells #[.slice none 0 0, .slice none 0 0, .bool false] 26)
  go_wp2
  go_end0
  exact ⟨rfl, bE⟩
end Go.Proofs.Ytjbppedphadenaa
