/- Where an entry of a table lies: plain facts. -/
import Derived.Test.YteeemfohehpaeaaTOpenQ
import Derived.Test.YteeemfohehpaeaaTPlace
namespace Go.Proofs.Yteeemfohehpaeaa

theorem okL_pw : ∀ (l : List Ent) (p : List Int), okL p l = true → l.Pairwise (fun a b => lessB a.k b.k = true)
  | [], _, _ => .nil
  | e :: l, p, h => by
    simp only [okL, Bool.and_eq_true] at h
    refine .cons (fun x hx => ?_) (okL_pw l e.k h.2)
    obtain ⟨j, hj, rfl⟩ := List.getElem_of_mem hx
    exact okL_all l e.k h.2 j _ (by simp)
theorem lastK_mem : ∀ (l : List Ent) (p : List Int), okL p l = true → 1 ≤ l.length → ∃ e ∈ l, e.k = lastK p l ∧ ∀ x ∈ l, x.k = e.k ∨ lessB x.k e.k = true
  | [], _, _, h => by simp at h
  | [e], _, _, _ => ⟨e, by simp, rfl, by simp⟩
  | e :: f :: l, p, h, _ => by
    simp only [okL, Bool.and_eq_true] at h
    have h2 : okL e.k (f :: l) = true := by simp only [okL, Bool.and_eq_true]; exact h.2
    obtain ⟨g, hg, h3, h4⟩ := lastK_mem (f :: l) e.k h2 (by simp)
    refine ⟨g, List.mem_cons_of_mem _ hg, h3, fun x hx => ?_⟩
    rcases List.mem_cons.1 hx with rfl | hx
    · obtain ⟨j, hj, rfl⟩ := List.getElem_of_mem hg
      exact .inr (okL_all (f :: l) x.k h2 j _ (by simp))
    · exact h4 x hx

theorem PkR.cross {m : List Ent} {ps : List Pk} {ls : List (List Ent)} (h : PkR m ps ls) {i j : Nat} {l l' : List Ent} (hij : i < j) (hi : ls[i]? = some l) (hj : ls[j]? = some l') : ∀ x ∈ l, ∀ y ∈ l', lessB x.k y.k = true := by
  have hp := okL_pw m [] h.ok
  rw [h.fl, List.pairwise_flatten] at hp
  obtain ⟨hi1, rfl⟩ := List.getElem?_eq_some_iff.1 hi
  obtain ⟨hj1, rfl⟩ := List.getElem?_eq_some_iff.1 hj
  exact (List.pairwise_iff_getElem.1 hp.2) i j hi1 hj1 hij
theorem PkR.blk {m : List Ent} {ps : List Pk} {ls : List (List Ent)} (h : PkR m ps ls) {i : Nat} {p : Pk} (hp : ps[i]? = some p) : ∃ l, ls[i]? = some l ∧ allB p.1 = some l ∧ p.2 = lastK [] l ∧ 1 ≤ l.length ∧ okL [] l = true ∧ ∃ e ∈ l, e.k = p.2 ∧ ∀ x ∈ l, x.k = e.k ∨ lessB x.k e.k = true := by
  have hi := (List.getElem?_eq_some_iff.1 hp).1
  have hl : ls[i]? = some (ls[i]'(by rw [h.len]; exact hi)) := by simp
  obtain ⟨h1, h2⟩ := h.at_ i p _ hp hl
  obtain ⟨v1, _, v3⟩ := all_len3 h1
  obtain ⟨e, he, h3, h4⟩ := lastK_mem _ [] v3 v1
  exact ⟨_, hl, h1, h2, v1, v3, e, he, by rw [h3, h2], h4⟩
theorem PkR.mono {m : List Ent} {ps : List Pk} {ls : List (List Ent)} (h : PkR m ps ls) (i j : Nat) (p q : Pk) (hij : i < j) (hp : ps[i]? = some p) (hq : ps[j]? = some q) : lessB p.2 q.2 = true := by
  obtain ⟨l, hl, _, _, _, _, e, he, h3, _⟩ := h.blk hp
  obtain ⟨l', hl', _, _, _, _, e', he', h3', _⟩ := h.blk hq
  rw [← h3, ← h3']
  exact h.cross hij hl hl' e he e' he'
theorem PkR.key_le {m : List Ent} {ps : List Pk} {ls : List (List Ent)} (h : PkR m ps ls) : ∀ p ∈ ps, p.2.length ≤ 1000000 := by
  intro p hp
  obtain ⟨i, hi, rfl⟩ := List.getElem_of_mem hp
  obtain ⟨l, _, h1, h2, _, v3, _⟩ := h.blk (i := i) (p := ps[i]) (by simp)
  rw [h2]
  have := okL_last255 l [] v3 (by simp)
  omega
theorem PkR.mem {m : List Ent} {ps : List Pk} {ls : List (List Ent)} (h : PkR m ps ls) {e : Ent} (he : e ∈ m) : ∃ (i : Nat) (l : List Ent), ls[i]? = some l ∧ e ∈ l := by
  rw [h.fl] at he
  obtain ⟨l, hl, hel⟩ := List.mem_flatten.1 he
  obtain ⟨i, hi, rfl⟩ := List.getElem_of_mem hl
  exact ⟨i, _, by simp, hel⟩

/-- The entry of a Key. -/
def getL (m : List Ent) (ks : List Int) : Option Ent := m.find? (fun e => e.k == ks)
theorem getL_some {m : List Ent} (ho : okL [] m = true) {e : Ent} (he : e ∈ m) : getL m e.k = some e := by
  cases h : getL m e.k with
  | none =>
    rw [getL, List.find?_eq_none] at h
    have := h e he
    simp at this
  | some x =>
    have h1 := List.find?_some h
    have h2 := List.mem_of_find?_eq_some h
    simp at h1
    obtain ⟨i, hi, rfl⟩ := List.getElem_of_mem he
    obtain ⟨j, hj, rfl⟩ := List.getElem_of_mem h2
    rcases Nat.lt_trichotomy i j with hij | hij | hij
    · have := okL_lt m [] ho i j _ _ hij (List.getElem?_eq_getElem hi) (List.getElem?_eq_getElem hj)
      rw [h1, lessB_irr] at this; cases this
    · subst hij; rfl
    · have := okL_lt m [] ho j i _ _ hij (List.getElem?_eq_getElem hj) (List.getElem?_eq_getElem hi)
      rw [h1, lessB_irr] at this; cases this
theorem getL_none {m : List Ent} {ks : List Int} (h : ∀ e ∈ m, ¬ e.k = ks) : getL m ks = none := by
  rw [getL, List.find?_eq_none]
  intro x hx; simp [h x hx]
/-- Behind all of the blocks. -/
theorem PkR.get_out {m : List Ent} {ps : List Pk} {ls : List (List Ent)} (h : PkR m ps ls) {ks : List Int} {n : Nat} (hp : PlaceL ps ks n) (hn : n = ps.length) : getL m ks = none := by
  refine getL_none (fun e he hk => ?_)
  obtain ⟨i, l, hl, hel⟩ := h.mem he
  have hi : i < ps.length := by rw [← h.len]; exact (List.getElem?_eq_some_iff.1 hl).1
  have hps : ps[i]? = some ps[i] := by simp
  obtain ⟨l', hl', _, _, _, _, x, hx, h3, h4⟩ := h.blk hps
  rw [hl] at hl'; cases hl'
  have h5 := hp.lo i _ (by omega) hps
  rw [← h3] at h5
  rcases h4 e hel with h6 | h6
  · rw [← h6, hk, lessB_irr] at h5; cases h5
  · have := lessB_trans _ _ _ h6 h5; rw [hk, lessB_irr] at this; cases this
/-- In the block that does not end ahead of it, or nowhere. -/
theorem PkR.get_in {m : List Ent} {ps : List Pk} {ls : List (List Ent)} (h : PkR m ps ls) {ks : List Int} {n : Nat} (hp : PlaceL ps ks n) {p : Pk} (hn : ps[n]? = some p) {l : List Ent} (hl : ls[n]? = some l) {e : Ent} (he : e ∈ m) (hk : e.k = ks) : e ∈ l := by
  obtain ⟨i, l', hl', hel⟩ := h.mem he
  have hi : i < ps.length := by rw [← h.len]; exact (List.getElem?_eq_some_iff.1 hl').1
  have hps : ps[i]? = some ps[i] := by simp
  obtain ⟨l2, hl2, _, _, _, _, x, hx, h3, h4⟩ := h.blk hps
  rw [hl'] at hl2; cases hl2
  rcases Nat.lt_trichotomy i n with hin | hin | hin
  · exfalso
    have h5 := hp.lo i _ hin hps
    rw [← h3] at h5
    rcases h4 e hel with h6 | h6
    · rw [← h6, hk, lessB_irr] at h5; cases h5
    · have := lessB_trans _ _ _ h6 h5; rw [hk, lessB_irr] at this; cases this
  · subst hin; rw [hl] at hl'; cases hl'; exact hel
  · exfalso
    obtain ⟨l3, hl3, _, _, _, _, y, hy, h7, _⟩ := h.blk hn
    have h8 := h.cross hin hl3 hl' y hy e hel
    rw [h7, hk] at h8
    have := hp.hi p hn
    rw [h8] at this; cases this
theorem PkR.sub {m : List Ent} {ps : List Pk} {ls : List (List Ent)} (h : PkR m ps ls) {n : Nat} {l : List Ent} (hl : ls[n]? = some l) {e : Ent} (he : e ∈ l) : e ∈ m := by
  rw [h.fl, List.mem_flatten]
  exact ⟨l, List.mem_of_getElem? hl, he⟩
end Go.Proofs.Yteeemfohehpaeaa
