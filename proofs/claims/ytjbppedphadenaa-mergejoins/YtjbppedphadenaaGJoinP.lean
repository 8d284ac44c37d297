/- Join's two loops, as plain data. -/
import Derived.Test.YtjbppedphadenaaGTake
import Derived.Test.YtjbppedphadenaaMLaw
namespace Go.Proofs.Ytjbppedphadenaa
set_option maxRecDepth 100000
open Go.RowKit Go.Sort

def cost : List Nd → Nat
  | [] => 0
  | n :: l => n.rest.length + 1 + cost l
theorem cost_perm {a b : List Nd} (h : a.Perm b) : cost a = cost b := by
  induction h with
  | nil => rfl
  | cons x _ ih => simp only [cost, ih]
  | swap x y l => simp only [cost]; omega
  | trans _ _ h1 h2 => exact h1.trans h2
theorem cost_len : ∀ hs : List Nd, hs.length ≤ cost hs
  | [] => Nat.le_refl _
  | n :: l => by have := cost_len l; simp only [cost, List.length_cons]; omega
theorem cost_app (hs : List Nd) (n : Nd) : cost (hs ++ [n]) = cost hs + (n.rest.length + 1) := by
  rw [cost_perm (List.perm_append_comm), List.singleton_append, cost]; omega
theorem cost_next {t : Nd} {tl hs' : List Nd} (h : nextsP t tl hs') : cost hs' + 1 = cost (t :: tl) := by
  rcases h with ⟨h1, p⟩ | ⟨t', _, h1, p⟩
  · rw [cost_perm p]; simp only [cost, h1, List.length_nil]; omega
  · rw [cost_perm p]; simp only [cost, h1, List.length_cons]; omega
theorem len_next {t : Nd} {tl hs' : List Nd} (h : nextsP t tl hs') : hs'.length ≤ tl.length + 1 := by
  rcases h with ⟨_, p⟩ | ⟨t', _, _, p⟩
  · rw [p.length_eq]; omega
  · rw [p.length_eq]; simp

structure AddI (ls : List (List Ent)) (i : Nat) (hs : List Nd) : Prop where
  a1 : ∀ n ∈ hs, n.age < i ∧ ls[n.age]? = some (n.e :: n.rest)
  a2 : ∀ a, a < i → ∀ x r, ls[a]? = some (x :: r) → ∃ n ∈ hs, n.age = a ∧ n.e = x ∧ n.rest = r
  nd : (hs.map (·.age)).Nodup
theorem AddI.start (ls : List (List Ent)) : AddI ls 0 [] := ⟨by simp, fun a h => (by omega), by simp⟩
theorem AddI.none {ls : List (List Ent)} {i : Nat} {hs : List Nd} (h : AddI ls i hs) (hi : ls[i]? = some []) : AddI ls (i + 1) hs :=
  ⟨fun n hn => ⟨by have := (h.a1 n hn).1; omega, (h.a1 n hn).2⟩, fun a ha x r hx => by
    by_cases e : a = i
    · subst e; rw [hi] at hx; simp at hx
    · exact h.a2 a (by omega) x r hx, h.nd⟩
theorem AddI.some {ls : List (List Ent)} {i : Nat} {hs hs' : List Nd} {n : Nd} (h : AddI ls i hs) (hi : ls[i]? = some (n.e :: n.rest)) (ha : n.age = i) (p : hs'.Perm (hs ++ [n])) : AddI ls (i + 1) hs' := by
  refine ⟨fun m hm => ?_, fun a haa x r hx => ?_, ?_⟩
  · rcases List.mem_append.1 (p.mem_iff.1 hm) with h1 | h1
    · exact ⟨by have := (h.a1 m h1).1; omega, (h.a1 m h1).2⟩
    · have : m = n := by simpa using h1
      subst this
      exact ⟨by omega, by rw [ha]; exact hi⟩
  · by_cases e : a = i
    · subst e
      rw [hi] at hx
      simp at hx
      exact ⟨n, p.mem_iff.2 (by simp), ha, hx.1, hx.2⟩
    · obtain ⟨m, hm, r⟩ := h.a2 a (by omega) x r hx
      exact ⟨m, p.mem_iff.2 (by simp [hm]), r⟩
  · refine (p.map _).nodup_iff.2 ?_
    rw [List.map_append, List.nodup_append]
    refine ⟨h.nd, by simp, fun a ha' b hb => ?_⟩
    obtain ⟨m, hm, rfl⟩ := List.mem_map.1 ha'
    have : b = n.age := by simpa using hb
    subst this
    have := (h.a1 m hm).1
    omega
theorem AddI.ji {ls : List (List Ent)} {hs : List Nd} (h : AddI ls ls.length hs) : JI ls [] hs := by
  refine ⟨fun a l hal => ⟨[], l, rfl, by simp, ?_⟩, fun n hn => ⟨_, (h.a1 n hn).2⟩, h.nd, by simp, by simp, by simp⟩
  cases l with
  | nil => exact .inl ⟨rfl, fun n hn e => by have := (h.a1 n hn).2; rw [e, hal] at this; simp at this⟩
  | cons x r =>
    obtain ⟨n, hn, ha, hx, hr⟩ := h.a2 a (List.getElem?_eq_some_iff.1 hal).1 x r hal
    exact .inr ⟨n, hn, ha, by rw [hx, hr]⟩

/-- What is written in S leaves the list. -/
theorem Ls.offX {S : List Nat} {w w' : World} {B : Nat} {v : Value} {es : List Ent} (h : Ls 26 3 (REx S) w B v es) (ho : Off S w w') (hS : ∀ k ∈ S, k < B) : Ls 26 3 (REx S) w' B v es := by
  have hlt := h.lt
  obtain ⟨us, h1, h2, h3⟩ := h
  refine ⟨us, h1, rows_offB h2 ho (fun k hk hk' => by have := hS k hk'; have := (hlt k hk).2; omega), fun i u e hu he => ?_⟩
  obtain ⟨k, v', hu', hk, hv⟩ := h3 i u e hu he
  have ho' : Off (own v ++ S) w w' := ho.mono (by simp +contextual)
  exact ⟨k, v', hu', hk.off ho' (fun k hk => .inl hk), hv.off ho' (fun k hk => .inl hk)⟩
/-- The last one's Key. -/
theorem Ls.last {S : List Nat} {w : World} {B m cap : Nat} {ao : Option Addr} {es : List Ent} (h : Ls 26 3 (REx S) w B (.slice ao m cap) es) {y : Ent} (hy : es.getLast? = some y) :
    ∃ g ko kl kc, ao = some ⟨g, 0, none⟩ ∧ m = es.length ∧ w.cell? ⟨g, (m - 1) * 3, none⟩ = some (.slice ko kl kc) ∧ Tx w ko kl kc y.k ∧ m ≤ cap ∧ cap ≤ maxLen := by
  have hne : es ≠ [] := by intro e; subst e; simp at hy
  have hpos : 0 < es.length := List.length_pos_iff.2 hne
  obtain ⟨ao', cap', e, hl⟩ := h.read (REx.st S) (REx.pl S)
  simp only [Value.slice.injEq] at e
  obtain ⟨rfl, rfl, rfl⟩ := e
  obtain ⟨b, off, e1, hc⟩ := hl.head (REx.pl S) (by omega) hpos
  obtain ⟨us, h1, h2, h3⟩ := h
  have hoff : off = 0 := by
    rcases h2.2 with ⟨e2, _⟩ | ⟨g, c, cur, e2, _⟩
    · rw [e1] at e2; simp at e2
    · rw [e1] at e2; simp at e2; exact e2.1.2
  subst hoff
  rw [List.getLast?_eq_getElem?] at hy
  obtain ⟨u, g1, k, v, rfl, ⟨ko, kl, kc, rfl, tk, _⟩, _⟩ := hc _ y hy
  refine ⟨b, ko, kl, kc, e1, rfl, by simpa using g1 0 _ rfl, tk, hl.le, hl.top⟩
theorem outStep_app {out : List Ent} {e : Ent} (h : out = [] ∨ ∃ y, out.getLast? = some y ∧ lessB y.k e.k = true) : outStep out e = out ++ [norm e] := by rw [outStep, if_pos h]
theorem outStep_not {out : List Ent} {e y : Ent} (hy : out.getLast? = some y) (h : lessB y.k e.k = false) : outStep out e = out := by
  rw [outStep, if_neg]
  rintro (rfl | ⟨z, hz, hl⟩)
  · simp at hy
  · rw [hy] at hz; cases hz; rw [h] at hl; cases hl
/-- A new one, in memory of its own. -/
theorem rex_nw {S : List Nat} {V1 V2 W : World} {v : Value} {B : Nat} {es : List Ent} (hls : Ls 26 3 (REx S) V1 B v es) (hS : ∀ k ∈ S, k < V1.heap.size) {ko : Option Addr} {kl kc : Nat} {vo : Option Addr} {vl vc : Nat} {e : Ent} {G : Bool} (hG : e.g = G)
    (nk : Nw V1.heap.size V2 ko kl kc e.k) (nv : Nw V1.heap.size V2 vo vl vc (if G = true then [] else e.v)) (hb : Below V2.heap.size V2 W) : REx S W (own v) [.slice ko kl kc, .slice vo vl vc, .bool G] (norm e) := by
  have hout : ∀ k, V1.heap.size ≤ k → k ∉ own v ++ S := fun k hk hm => by
    rcases List.mem_append.1 hm with h1 | h1
    · have := (hls.lt k h1).1; omega
    · have := hS k h1; omega
  refine ⟨_, _, by rw [norm_g, hG], ⟨ko, kl, kc, rfl, by rw [norm_k]; exact nk.tx.later hb, fun ad ha _ => hout _ (nk.far ad ha)⟩, ⟨vo, vl, vc, rfl, by rw [norm_val e hG]; exact nv.tx.later hb, fun ad ha _ => hout _ (nv.far ad ha)⟩⟩
end Go.Proofs.Ytjbppedphadenaa
