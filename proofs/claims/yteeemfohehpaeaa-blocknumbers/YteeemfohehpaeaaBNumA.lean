/- Laws for BlockNumbers: a Value in the midst of a list taken away; what is small fits. -/
import Derived.Test.YteeemfohehpaeaaTNumA
import Derived.Test.YteeemfohehpaeaaBBack
namespace Go.Proofs.Yteeemfohehpaeaa
set_option maxRecDepth 100000
open Go.RowKit Go.Sort

theorem mid_get {α : Type} (a : List α) (x : α) (b : List α) (d : Nat) : (a ++ x :: b)[a.length + 1 + d]? = b[d]? := by
  rw [List.getElem?_append_right (by omega), show a.length + 1 + d - a.length = d + 1 by omega, List.getElem?_cons_succ]
theorem mid_at0 {α : Type} (a : List α) (x : α) (b : List α) : (a ++ x :: b)[a.length]? = some x := by simp
theorem mid_split {α : Type} (us : List α) (m : Nat) (h : m < us.length) : ∃ a x b, us = a ++ x :: b ∧ a.length = m :=
  ⟨us.take m, us[m], us.drop (m + 1), by rw [List.getElem_cons_drop, List.take_append_drop], by rw [List.length_take]; omega⟩
theorem plain3 {w : World} {S : List Nat} {us : List (List Value)} {es : List Ent} (hl : us.length = es.length) (h : ∀ (j : Nat) (u : List Value) (e : Ent), us[j]? = some u → es[j]? = some e → RE w S u e) : ∀ u ∈ us, u.length = 3 := fun u hu => by
  obtain ⟨i, hi, rfl⟩ := List.getElem_of_mem hu
  have hi2 : i < es.length := by omega
  exact (RE.plain _ _ _ _ (h i us[i] (es[i]'hi2) (by simp) (by simp))).1
/-- The Value in the midst is taken away. -/
theorem ls_val {w : World} {B g n cap : Nat} {e : Ent} {es1 es2 : List Ent} (h : Ls 25 3 RE w B (.slice (some ⟨g, 0, none⟩) n cap) (es1 ++ e :: es2)) :
    Ls 25 3 RE (w.setCell ⟨g, es1.length * 3 + 1, none⟩ (.slice none 0 0)) B (.slice (some ⟨g, 0, none⟩) n cap) (es1 ++ ⟨e.k, [], e.g⟩ :: es2) := by
  obtain ⟨us, h1, h2, h3⟩ := h
  have h1' : us.length = es1.length + (es2.length + 1) := by simpa using h1
  obtain ⟨us1, u, us2, rfl, hl⟩ := mid_split us es1.length (by omega)
  have hl2 : us2.length = es2.length := by simp at h1'; omega
  have hu3 := plain3 h1 h3
  obtain ⟨k, v, rfl, hk, hv⟩ := h3 es1.length u e (by rw [← hl]; exact mid_at0 _ _ _) (mid_at0 _ _ _)
  have ho : Off [g] w (w.setCell ⟨g, es1.length * 3 + 1, none⟩ (.slice none 0 0)) := (Off.refl _ _).setCell (p := ⟨g, es1.length * 3 + 1, none⟩) (by simp) _
  have hown : own (.slice (some ⟨g, 0, none⟩) n cap) = [g] := rfl
  have hflat := flat_len3 us1 (fun x hx => hu3 x (by simp [hx]))
  refine ⟨us1 ++ [k, .slice none 0 0, .bool e.g] :: us2, by simpa using h1, ?_, fun j u y hu hy => ?_⟩
  · obtain ⟨hl0, h4⟩ := h2
    rcases h4 with ⟨h', _⟩ | ⟨g', c, cur, h', hb, hg, hn, hm, hs, ht⟩
    · cases h'
    · simp only [Value.slice.injEq, Option.some.injEq, Addr.mk.injEq, and_true] at h'
      obtain ⟨rfl, h5, rfl⟩ := h'
      refine ⟨by have := hl0; simp at this ⊢; omega, .inr ⟨g, cap, cur.setIfInBounds (es1.length * 3 + 1) (.slice none 0 0), by rw [h5]; simp, hb, heap_setCell_same w g _ _ 25 _ hg, by simpa using hn, hm, by simpa using hs, ?_⟩⟩
      rw [Array.toList_setIfInBounds, List.take_set]
      simp only [List.length_append, List.length_cons] at ht ⊢
      rw [ht, List.flatten_append, List.flatten_append, List.set_append_right _ _ (by omega), hflat, hl]
      congr 1
      rw [List.flatten_cons, List.flatten_cons, Nat.add_sub_cancel_left]
      rfl
  · by_cases hj : j < us1.length
    · rw [List.getElem?_append_left hj] at hu
      rw [List.getElem?_append_left (by omega)] at hy
      exact RE.stable _ _ _ _ _ _ (h3 j u y (by rw [List.getElem?_append_left hj]; exact hu) (by rw [List.getElem?_append_left (by omega)]; exact hy)) ho (fun k hk => .inl hk)
    · by_cases hj2 : j = es1.length
      · subst hj2
        rw [← hl, mid_at0] at hu
        rw [mid_at0] at hy
        simp only [Option.some.injEq] at hu hy
        subst hu hy
        exact ⟨k, .slice none 0 0, rfl, hk.off (S := own (.slice (some ⟨g, 0, none⟩) n cap)) (by rw [hown]; exact ho) (fun k hk => .inl hk), none, 0, 0, rfl, Tx.nil _, fun _ h => by cases h⟩
      · obtain ⟨d, rfl⟩ : ∃ d, j = es1.length + 1 + d := ⟨j - (es1.length + 1), by omega⟩
        rw [← hl, mid_get] at hu
        rw [mid_get] at hy
        exact RE.stable _ _ _ _ _ _ (h3 (es1.length + 1 + d) u y (by rw [← hl, mid_get]; exact hu) (by rw [mid_get]; exact hy)) ho (fun k hk => .inl hk)
theorem mid_cells {w : World} {B n cap : Nat} {ao : Option Addr} {e : Ent} {es1 es2 : List Ent} (h : Ls 25 3 RE w B (.slice ao n cap) (es1 ++ e :: es2)) : ∃ g vv, ao = some ⟨g, 0, none⟩ ∧ w.cell? ⟨g, es1.length * 3 + 1, none⟩ = some vv ∧ w.cell? ⟨g, es1.length * 3 + 2, none⟩ = some (.bool e.g) ∧ w.frozen? ⟨g, es1.length * 3 + 1, none⟩ = false ∧ B ≤ g := by
  obtain ⟨us, h1, h2, h3⟩ := h
  have h1' : us.length = es1.length + (es2.length + 1) := by simpa using h1
  obtain ⟨us1, u, us2, rfl, hl⟩ := mid_split us es1.length (by omega)
  have hu3 := plain3 h1 h3
  obtain ⟨k, v, rfl, _, _⟩ := h3 es1.length u e (by rw [← hl]; exact mid_at0 _ _ _) (mid_at0 _ _ _)
  have hflat := flat_len3 us1 (fun x hx => hu3 x (by simp [hx]))
  rcases h2.2 with ⟨_, h4⟩ | ⟨g, c, cur, h', hb, hg, hn2, hm, hs, ht⟩
  · simp at h4
  · simp only [Value.slice.injEq] at h'
    obtain ⟨rfl, h5, rfl⟩ := h'
    have hcell : ∀ j x, [k, v, Value.bool e.g][j]? = some x → w.cell? ⟨g, es1.length * 3 + j, none⟩ = some x := fun j x hx => by
      have hj : j < 3 := by have := (List.getElem?_eq_some_iff.1 hx).1; simpa using this
      rw [cell_of_row w g _ cur 25 (0, 0) hg]
      have hx2 : ((us1 ++ [k, v, Value.bool e.g] :: us2).flatten)[es1.length * 3 + j]? = some x := by
        rw [List.flatten_append, List.getElem?_append_right (by rw [hflat, hl]; omega), hflat, hl, Nat.add_sub_cancel_left, List.flatten_cons, List.getElem?_append_left (by simpa using hj)]
        exact hx
      rw [← ht, List.getElem?_take, if_pos (by simp; omega)] at hx2
      simpa using hx2
    exact ⟨g, v, rfl, hcell 1 _ rfl, hcell 2 _ rfl, frozen_of_row w g _ _ 25 hg, hb⟩
theorem ls_readN {w : World} {B n cap : Nat} {ao : Option Addr} {es : List Ent} (h : Ls 25 3 RE w B (.slice ao n cap) es) : Lx 3 RE w ao n cap es := by
  obtain ⟨ao9, cap9, e9, hx9⟩ := h.read RE.stable RE.plain
  simp only [Value.slice.injEq] at e9
  obtain ⟨rfl, e10, rfl⟩ := e9
  rw [← e10] at hx9
  exact hx9
def Sm (l : List Ent) : Prop := ∀ e ∈ l, 1 ≤ e.k.length ∧ e.k.length ≤ 12 ∧ e.v.length ≤ 20
theorem Sm.nil : Sm [] := fun e h => by cases h
theorem Sm.snoc {l : List Ent} {e : Ent} (h : Sm l) (h1 : 1 ≤ e.k.length) (h2 : e.k.length ≤ 12) (h3 : e.v.length ≤ 20) : Sm (l ++ [e]) := fun x hx => by
  rcases List.mem_append.1 hx with hx | hx
  · exact h x hx
  · simp at hx; subst hx; exact ⟨h1, h2, h3⟩
theorem Sm.val {l1 l2 : List Ent} {e : Ent} (h : Sm (l1 ++ e :: l2)) : Sm (l1 ++ ⟨e.k, [], e.g⟩ :: l2) := fun x hx => by
  rcases List.mem_append.1 hx with hx | hx
  · exact h x (by simp [hx])
  · rcases List.mem_cons.1 hx with rfl | hx
    · have := h e (by simp)
      exact ⟨this.1, this.2.1, by simp⟩
    · exact h x (by simp [hx])
theorem Sm.rise {l : List Ent} (h : Sm l) : Sm (riseL l) := fun e he => h e (rise_mem l e he)
theorem rise_pos (l : List Ent) (h : 1 ≤ l.length) : 1 ≤ (riseL l).length := by
  rcases List.eq_nil_or_concat l with rfl | ⟨a, b, rfl⟩
  · simp at h
  · rw [List.concat_eq_append, rise_snoc]
    exact (ins_len b _).2
theorem Sm.may {l : List Ent} (h : Sm l) (h1 : 1 ≤ l.length) (h2 : l.length ≤ 255) : mayB 255 (riseL l) = true :=
  (mayB_iff 255 _).2 ⟨rise_pos l h1, by have := rise_len l; omega, rise_ok l (fun e he => (fitsE_iff e).2 ⟨(h e he).1, by have := (h e he).2.1; omega, .inr (by have := (h e he).2.2; omega)⟩)⟩
theorem Sm.block {l : List Ent} (h : Sm l) (h2 : l.length ≤ 255) : (blockL l).length ≤ 20000 := by
  have := body_small_of 37 l 0 [] (fun e he => by have := h e he; omega)
  rw [blockL_length]; unfold cntB; omega
def Kl (l : List Ent) : Prop := ∀ e ∈ l, e.k.length ≤ 12
theorem Kl.nil : Kl [] := fun e h => by cases h
theorem Kl.snoc {l : List Ent} {e : Ent} (h : Kl l) (h1 : e.k.length ≤ 12) : Kl (l ++ [e]) := fun x hx => by
  rcases List.mem_append.1 hx with hx | hx
  · exact h x hx
  · simp at hx; subst hx; exact h1
theorem Kl.take {l : List Ent} (h : Kl l) (n : Nat) : ∀ e ∈ l.take n, e.k.length ≤ 1000000000000 := fun e he => by have := h e (List.mem_of_mem_take he); omega
theorem Kl.keys {l : List Ent} (h : Kl l) : ∀ e ∈ l, e.k.length ≤ 1000000000000 := fun e he => by have := h e he; omega
end Go.Proofs.Yteeemfohehpaeaa
