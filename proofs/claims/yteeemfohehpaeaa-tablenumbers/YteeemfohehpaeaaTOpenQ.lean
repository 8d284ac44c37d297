/- What Open makes of the blocks: plain facts; a table that is open. -/
import Derived.Test.YteeemfohehpaeaaTCut
import Derived.Test.YteeemfohehpaeaaTTab
import Derived.Test.YteeemfohehpaeaaTPlain
namespace Go.Proofs.Yteeemfohehpaeaa
set_option maxRecDepth 100000
open Go.RowKit Go.Sort

theorem all_len3 {xs : List Int} {es : List Ent} (h : allB xs = some es) : 1 ≤ es.length ∧ es.length ≤ 255 ∧ okL [] es = true := by
  obtain ⟨h1, _⟩ := (allB_iff xs es).1 h
  obtain ⟨m1, _⟩ := (validB_iff es xs).1 h1
  exact (mayB_iff 255 es).1 m1
theorem openT_eq (xs : List Int) : openT xs = match cutsT xs with | none => none | some ts => addsT 0 [] ts := by
  unfold openT cutsT
  cases partsT xs with
  | none => rfl
  | some p => rfl

/-- A table's blocks, and the entries that they hold. -/
structure PkR (m : List Ent) (ps : List Pk) (ls : List (List Ent)) : Prop where
  fl : m = ls.flatten
  len : ls.length = ps.length
  at_ : ∀ (i : Nat) (p : Pk) (l : List Ent), ps[i]? = some p → ls[i]? = some l → allB p.1 = some l ∧ p.2 = lastK [] l
  ok : okL [] m = true
  cnt : ps.length = (m.length + 7) / 8
  le : m.length ≤ 65535
  sz : ∀ p ∈ ps, p.1.length ≤ 900000000

/-- How far adding has come. -/
structure AddsR (ts : List (List Int)) (k : Nat) (a : List Int) (m : List Ent) (ps : List Pk) (ls : List (List Ent)) : Prop where
  pk : PkR m ps ls
  la : lastK [] m = a
  ga : (ps.getLast?.map (·.2)).getD [] = a
  came : addsT 0 [] ts = (addsT m.length a (ts.drop k)).map (m ++ ·)
  k_eq : ps.length = k
  a_le : a.length ≤ 255
theorem AddsR.start (ts : List (List Int)) : AddsR ts 0 [] [] [] [] := ⟨⟨rfl, rfl, by simp, rfl, rfl, by simp, by simp⟩, rfl, rfl, by simp, rfl, by simp⟩
theorem okL_last255 : ∀ (l : List Ent) (a : List Int), okL a l = true → a.length ≤ 255 → (lastK a l).length ≤ 255
  | [], _, _, h => h
  | e :: l, a, h, _ => by
    simp only [okL, Bool.and_eq_true] at h
    exact okL_last255 l e.k h.2 ((fitsE_iff e).1 h.1.1).2.1
theorem lastK_ne (l : List Ent) (a b : List Int) (h : 1 ≤ l.length) : lastK a l = lastK b l := by
  cases l with
  | nil => simp at h
  | cons e l => rfl
theorem addT_some {c : Nat} {a xs : List Int} {l : List Ent} (h : addT c a xs = some l) : allB xs = some l ∧ l.length ≤ 8 ∧ c % 8 = 0 ∧ c + l.length ≤ 65535 ∧ okL a l = true := by
  unfold addT at h
  split at h
  · cases h
  · rename_i l' hl
    split at h
    · cases h
      rename_i hh
      exact ⟨hl, hh⟩
    · cases h
theorem AddsR.step {ts : List (List Int)} {k : Nat} {a : List Int} {m : List Ent} {ps : List Pk} {ls : List (List Ent)} (h : AddsR ts k a m ps ls) {x : List Int} (hx : ts[k]? = some x) {l : List Ent} (ha : addT m.length a x = some l) (hxl : x.length ≤ 900000000) : AddsR ts (k + 1) (lastK [] l) (m ++ l) (ps ++ [(x, lastK [] l)]) (ls ++ [l]) := by
  obtain ⟨h1, h2, h3, h4, h5⟩ := addT_some ha
  obtain ⟨v1, _, v3⟩ := all_len3 h1
  have hll : lastK a l = lastK [] l := lastK_ne l a [] v1
  have hd : ts.drop k = x :: ts.drop (k + 1) := by
    obtain ⟨hk, rfl⟩ := List.getElem?_eq_some_iff.1 hx
    exact List.drop_eq_getElem_cons hk
  refine ⟨⟨by rw [h.pk.fl]; simp, by simp [h.pk.len], fun i p l' hp hl' => ?_, by rw [okL_app, h.pk.ok, h.la, h5]; rfl, ?_, by rw [List.length_append]; omega, fun p hp => ?_⟩, ?_, by simp, ?_, by simp [h.k_eq], ?_⟩
  · by_cases hi : i < ps.length
    · rw [List.getElem?_append_left hi] at hp
      rw [List.getElem?_append_left (by rw [h.pk.len]; exact hi)] at hl'
      exact h.pk.at_ i p l' hp hl'
    · rw [List.getElem?_append_right (by omega)] at hp
      rw [List.getElem?_append_right (by rw [h.pk.len]; omega), h.pk.len] at hl'
      have hi0 : i - ps.length = 0 := by have := (List.getElem?_eq_some_iff.1 hp).1; simpa using this
      rw [hi0] at hp hl'
      simp at hp hl'
      subst hp hl'
      exact ⟨h1, rfl⟩
  · have := h.pk.cnt
    rw [List.length_append, List.length_append, List.length_singleton]; omega
  · rcases List.mem_append.1 hp with hp | hp
    · exact h.pk.sz p hp
    · simp at hp; subst hp; exact hxl
  · rw [lastK_app, h.la, hll]
  · rw [h.came, hd, addsT, ha]
    simp only
    rw [hll, List.length_append]
    cases addsT (m.length + l.length) (lastK [] l) (ts.drop (k + 1)) <;> simp
  · exact okL_last255 l [] v3 (by simp)
theorem AddsR.no {ts : List (List Int)} {k : Nat} {a : List Int} {m : List Ent} {ps : List Pk} {ls : List (List Ent)} (h : AddsR ts k a m ps ls) {x : List Int} (hx : ts[k]? = some x) (ha : addT m.length a x = none) : addsT 0 [] ts = none := by
  have hd : ts.drop k = x :: ts.drop (k + 1) := by
    obtain ⟨hk, rfl⟩ := List.getElem?_eq_some_iff.1 hx
    exact List.drop_eq_getElem_cons hk
  rw [h.came, hd, addsT, ha]; rfl
theorem AddsR.done {ts : List (List Int)} {k : Nat} {a : List Int} {m : List Ent} {ps : List Pk} {ls : List (List Ent)} (h : AddsR ts k a m ps ls) (hk : k = ts.length) : addsT 0 [] ts = some m := by
  rw [h.came, List.drop_eq_nil_of_le (by omega), addsT]; simp

/-- A table that is open. -/
def Tb (w : World) (pb : Nat) (m : List Ent) : Prop := ∃ ps ls ro rl rc, Tt w pb ps m.length ro rl rc ∧ PkR m ps ls
theorem Tb.later {w w' : World} {pb : Nat} {m : List Ent} (h : Tb w pb m) (hb : Below w.heap.size w w') : Tb w' pb m := by
  obtain ⟨ps, ls, ro, rl, rc, h1, h2⟩ := h
  exact ⟨ps, ls, ro, rl, rc, h1.later hb, h2⟩

theorem cutT_len : ∀ (c : Nat) (bl ls : List Int) (ts : List (List Int)), cutT c bl ls = some ts → ts.length = c ∧ ∀ t ∈ ts, t.length ≤ bl.length
  | 0, bl, ls, ts, h => by
    unfold cutT at h
    split at h
    · cases h; simp
    · cases h
  | c + 1, bl, ls, ts, h => by
    unfold cutT at h
    split at h
    · cases h
    · cases hc : cutT c (bl.drop (getN ls 4).toNat) (ls.drop 4) with
      | none => rw [hc] at h; cases h
      | some r =>
        rw [hc] at h
        cases h
        obtain ⟨h1, h2⟩ := cutT_len c _ _ r hc
        refine ⟨by simp [h1], fun t ht => ?_⟩
        rcases List.mem_cons.1 ht with rfl | ht
        · rw [List.length_take]; omega
        · have := h2 t ht; rw [List.length_drop] at this; omega
theorem cutsT_len {xs : List Int} {ts : List (List Int)} (h : cutsT xs = some ts) : ts.length ≤ xs.length ∧ ∀ t ∈ ts, t.length ≤ xs.length := by
  unfold cutsT at h
  split at h
  · cases h
  · rename_i a b hp
    obtain ⟨h1, h2⟩ := cutT_len _ _ _ _ h
    have ha : a.length ≤ xs.length ∧ b.length ≤ xs.length := by
      unfold partsT at hp
      split at hp
      · cases hp
      · split at hp
        · cases hp
        · split at hp
          · cases hp
          · simp only at hp
            split at hp
            · cases hp
            · simp only [Option.some.injEq, Prod.mk.injEq] at hp
              obtain ⟨rfl, rfl⟩ := hp
              constructor
              · rw [List.length_take]; omega
              · simp only [List.length_drop, List.length_take]; omega
    exact ⟨by omega, fun t ht => by have := h2 t ht; omega⟩
end Go.Proofs.Yteeemfohehpaeaa
