/- Laws for regions that draw: bytes of a text that is no constant, bytes that are made; a Value of the last entry taken away. -/
import Derived.Test.YteeemfohehpaeaaPC
import Derived.Lib.ConvBytes
namespace Go.Proofs.Yteeemfohehpaeaa
set_option maxRecDepth 100000
open Go.RowKit Go.Sort

def numsOf (s : ByteArray) : List Int := s.data.toList.map (fun b => (b.toNat : Int))
theorem numsOf_len (s : ByteArray) : (numsOf s).length = s.size := by simp [numsOf]
theorem below_bytesWorld (w : World) (s : ByteArray) : Below w.heap.size w (Lib.bytesWorld w 5 s) :=
  ⟨rfl, rfl, rfl, by rw [Lib.bytesWorld_size]; omega, fun k hk => Lib.bytesWorld_at_old w 5 s k hk⟩
theorem tx_bytesWorld (w : World) (s : ByteArray) (hs : s.size ≤ 1000000) : Tx (Lib.bytesWorld w 5 s) (some ⟨w.heap.size, 0, none⟩) s.size (grownCap w s.size 0 5) (numsOf s) := by
  refine ⟨numsOf_len s, grownCap_ge w s.size 0 5, grownCap_le_maxLen w s.size 0 5 (by unfold maxLen; omega), fun h => (by cases h), fun ad ha j hj => ?_, fun n hn => ?_⟩
  · cases ha
    rw [Addr.add_lit, Nat.zero_add, Lib.bytesWorld_cell w 5 s j hj]
    have hj' : j < s.data.size := hj
    have h1 : s.data.toList[j]? = some (s.data[j]'hj') := by simp
    simp only [numsOf, List.getD, List.getElem?_map, h1]
    rfl
  · obtain ⟨b, _, rfl⟩ := List.mem_map.1 hn
    have := b.toNat_lt
    omega
theorem conv_fn (s : ByteArray) (hs : s.size ≤ 1000000) (n : Nat) (hn : s.size = n) (xs : List Int) (hxs : numsOf s = xs) : ∃ (cp : World → Nat) (bw : World → World), ∀ W, (convert 9 23 (.string s)).run Try.prog W = .ok (.slice (some ⟨W.heap.size, 0, none⟩) n (cp W)) (bw W) ∧ Tx (bw W) (some ⟨W.heap.size, 0, none⟩) n (cp W) xs ∧ Below W.heap.size W (bw W) := by
  subst hn hxs
  exact ⟨fun W => grownCap W s.size 0 5, fun W => Lib.bytesWorld W 5 s, fun W => ⟨Lib.run_convert_string_bytes (P := Try.prog) W 9 23 5 s Try.underlying9 Try.underlying23 Try.underlying5, tx_bytesWorld W s hs, below_bytesWorld W s⟩⟩
theorem make_fn (n : Nat) (b : n ≤ 1000000) : ∃ mw : World → World, ∀ W, (Instr.makeSlice 23 (.int .i64 (n : Int)) (.int .i64 (n : Int))).run Try.prog W = .ok (.slice (some ⟨W.heap.size, 0, none⟩) n n) (mw W) ∧ Tx (mw W) (some ⟨W.heap.size, 0, none⟩) n n (List.replicate n 0) ∧ Below W.heap.size W (mw W) := by
  have h : ∀ W : World, ∃ w', (Instr.makeSlice 23 (.int .i64 (n : Int)) (.int .i64 (n : Int))).run Try.prog W = .ok (.slice (some ⟨W.heap.size, 0, none⟩) n n) w' ∧ Tx w' (some ⟨W.heap.size, 0, none⟩) n n (List.replicate n 0) ∧ Below W.heap.size W w' := fun W => by
    obtain ⟨i, hi, hz0, hz1, hz2⟩ := info_parts Try.info5
    obtain ⟨w', hrun, r1, r2⟩ := run_make_full (P := Try.prog) W W.heap.size 23 5 i (.int .u8 0) 1 Try.underlying23 hi hz0 hz1 .i64 .i64 n (by rw [hz2]; omega) (by unfold maxLen; omega) (Nat.le_refl _)
    exact ⟨w', hrun, (Row.made r1).tx n (by simp) (by omega) (by intro q hq; have := List.eq_of_mem_replicate hq; omega), (Below.refl _ _).grown r2 (Nat.le_refl _) (fun k hk => by cases hk)⟩
  exact Classical.skolem.1 h
abbrev abc : ByteArray := { data := #[97, 98, 99, 100, 101, 102, 103, 104, 105, 106] }
theorem nums_cut : ∀ d, d < 10 → numsOf (abc.extract d (d + 1)) = [97 + (d : Int)] := by decide
theorem size_cut : ∀ d, d < 10 → (abc.extract d (d + 1)).size = 1 := by decide
theorem nums_app (a b : ByteArray) : numsOf (a ++ b) = numsOf a ++ numsOf b := by
  simp [numsOf]
/-- The last one's Value is taken away. -/
theorem ls_nilv {w : World} {B g n cap : Nat} {e : Ent} {es : List Ent} (h : Ls 25 3 RE w B (.slice (some ⟨g, 0, none⟩) n cap) (es ++ [e])) :
    Ls 25 3 RE (w.setCell ⟨g, es.length * 3 + 1, none⟩ (.slice none 0 0)) B (.slice (some ⟨g, 0, none⟩) n cap) (es ++ [⟨e.k, [], e.g⟩]) := by
  obtain ⟨us, h1, h2, h3⟩ := h
  obtain ⟨us', u, rfl⟩ : ∃ us' u, us = us' ++ [u] := by
    rcases List.eq_nil_or_concat us with rfl | ⟨a, b, rfl⟩
    · simp at h1
    · exact ⟨a, b, by simp⟩
  have hl : us'.length = es.length := by simpa using h1
  obtain ⟨k, v, rfl, hk, hv⟩ := h3 es.length u e (by rw [← hl]; simp) (by simp)
  have ho : Off [g] w (w.setCell ⟨g, es.length * 3 + 1, none⟩ (.slice none 0 0)) := (Off.refl _ _).setCell (p := ⟨g, es.length * 3 + 1, none⟩) (by simp) _
  have hown : own (.slice (some ⟨g, 0, none⟩) n cap) = [g] := rfl
  have hu3 : ∀ u ∈ us', u.length = 3 := fun u hu => by
    obtain ⟨i, hi, rfl⟩ := List.getElem_of_mem hu
    have hi2 : i < es.length := by omega
    exact (RE.plain _ _ _ _ (h3 i us'[i] (es[i]'hi2) (by rw [List.getElem?_append_left hi]; simp) (by rw [List.getElem?_append_left hi2]; simp))).1
  have hfl : ∀ (us : List (List Value)), (∀ u ∈ us, u.length = 3) → us.flatten.length = us.length * 3 := by
    intro us
    induction us with
    | nil => simp
    | cons x us ih =>
      intro hx
      rw [List.flatten_cons, List.length_append, hx x (by simp), ih (fun u hu => hx u (by simp [hu])), List.length_cons]; omega
  have hflat := hfl us' hu3
  refine ⟨us' ++ [[k, .slice none 0 0, .bool e.g]], by simpa using h1, ?_, fun j u y hu hy => ?_⟩
  · obtain ⟨hl0, h4⟩ := h2
    rcases h4 with ⟨h', _⟩ | ⟨g', c, cur, h', hb, hg, hn, hm, hs, ht⟩
    · cases h'
    · simp only [Value.slice.injEq, Option.some.injEq, Addr.mk.injEq, and_true] at h'
      obtain ⟨rfl, h5, rfl⟩ := h'
      refine ⟨by have := hl0; simp at this ⊢; omega, .inr ⟨g, cap, cur.setIfInBounds (es.length * 3 + 1) (.slice none 0 0), by rw [h5]; simp, hb, heap_setCell_same w g _ _ 25 _ hg, by simpa using hn, hm, by simpa using hs, ?_⟩⟩
      rw [Array.toList_setIfInBounds, List.take_set]
      simp only [List.length_append, List.length_cons, List.length_nil] at ht ⊢
      rw [ht, List.flatten_append, List.flatten_append, List.set_append_right _ _ (by omega), hflat, hl]
      congr 1
      simp
  · by_cases hj : j < us'.length
    · rw [List.getElem?_append_left hj] at hu
      rw [List.getElem?_append_left (by omega)] at hy
      exact RE.stable _ _ _ _ _ _ (h3 j u y (by rw [List.getElem?_append_left hj]; exact hu) (by rw [List.getElem?_append_left (by omega)]; exact hy)) ho (fun k hk => .inl hk)
    · have hj2 : j = es.length := by
        have := (List.getElem?_eq_some_iff.1 hu).1
        simp at this; omega
      subst hj2
      rw [← hl] at hu
      simp at hu hy
      subst hu hy
      exact ⟨k, .slice none 0 0, rfl, hk.off (S := own (.slice (some ⟨g, 0, none⟩) n cap)) (by rw [hown]; exact ho) (fun k hk => .inl hk), none, 0, 0, rfl, Tx.nil _, fun _ h => by cases h⟩
theorem flat_len3 : ∀ (us : List (List Value)), (∀ u ∈ us, u.length = 3) → us.flatten.length = us.length * 3
  | [], _ => by simp
  | x :: us, hx => by
    rw [List.flatten_cons, List.length_append, hx x (by simp), flat_len3 us (fun u hu => hx u (by simp [hu])), List.length_cons]; omega
theorem last_at {w : World} {B n cap : Nat} {ao : Option Addr} {e : Ent} {es : List Ent} (h : Ls 25 3 RE w B (.slice ao n cap) (es ++ [e])) : ∃ g vv, ao = some ⟨g, 0, none⟩ ∧ n = es.length + 1 ∧ w.cell? ⟨g, es.length * 3 + 1, none⟩ = some vv ∧ w.cell? ⟨g, es.length * 3 + 2, none⟩ = some (.bool e.g) ∧ w.frozen? ⟨g, es.length * 3 + 1, none⟩ = false ∧ B ≤ g ∧ es.length + 1 ≤ cap ∧ cap ≤ maxLen := by
  obtain ⟨us, h1, h2, h3⟩ := h
  obtain ⟨us', u, rfl⟩ : ∃ us' u, us = us' ++ [u] := by
    rcases List.eq_nil_or_concat us with rfl | ⟨a, b, rfl⟩
    · simp at h1
    · exact ⟨a, b, by simp⟩
  have hl : us'.length = es.length := by simpa using h1
  obtain ⟨k, v, rfl, _, _⟩ := h3 es.length u e (by rw [← hl]; simp) (by simp)
  have hu3 : ∀ u ∈ us', u.length = 3 := fun u hu => by
    obtain ⟨i, hi, rfl⟩ := List.getElem_of_mem hu
    have hi2 : i < es.length := by omega
    exact (RE.plain _ _ _ _ (h3 i us'[i] (es[i]'hi2) (by rw [List.getElem?_append_left hi]; simp) (by rw [List.getElem?_append_left hi2]; simp))).1
  have hflat := flat_len3 us' hu3
  rcases h2.2 with ⟨_, h4⟩ | ⟨g, c, cur, h', hb, hg, hn2, hm, hs, ht⟩
  · simp at h4
  · simp only [Value.slice.injEq] at h'
    obtain ⟨rfl, h5, rfl⟩ := h'
    have hcell : ∀ j x, [k, v, Value.bool e.g][j]? = some x → w.cell? ⟨g, es.length * 3 + j, none⟩ = some x := fun j x hx => by
      have hj : j < 3 := by have := (List.getElem?_eq_some_iff.1 hx).1; simpa using this
      rw [cell_of_row w g _ cur 25 (0, 0) hg]
      have hx2 : ((us' ++ [[k, v, Value.bool e.g]]).flatten)[es.length * 3 + j]? = some x := by
        rw [List.flatten_append, List.getElem?_append_right (by rw [hflat, hl]; omega), hflat, hl, Nat.add_sub_cancel_left]
        simpa using hx
      rw [← ht, List.getElem?_take, if_pos (by simp; omega)] at hx2
      simpa using hx2
    exact ⟨g, v, rfl, by simpa using h5, hcell 1 _ rfl, hcell 2 _ rfl, frozen_of_row w g _ _ 25 hg, hb, by simpa using hn2, hm⟩
theorem hid_eqT {a b : Nat} (h : a = b) : Hid (a = b) := h
def keyT (i : Nat) : List Int := [107, 97 + ((i / 10 : Nat) : Int), 97 + ((i % 10 : Nat) : Int)]
def entT (i : Nat) : Ent := ⟨keyT i, if i % 7 = 3 then [] else List.replicate (i % 4) 0, decide (i % 7 = 3)⟩
def lT (n : Nat) : List Ent := (List.range n).map entT
theorem lT_succ (n : Nat) : lT (n + 1) = lT n ++ [entT n] := by simp [lT, List.range_succ]
theorem lT_len (n : Nat) : (lT n).length = n := by simp [lT]
theorem lT_take (n : Nat) (h : n ≤ 40) : (lT 40).take n = lT n := by
  unfold lT
  rw [← List.map_take, List.take_range, Nat.min_eq_left h]
theorem lT_ok : ∀ n, n ≤ 40 → okL [] (lT n) = true := by decide
theorem lT_may (n : Nat) (h1 : 1 ≤ n) (h2 : n ≤ 40) : mayB 65535 (lT n) = true := (mayB_iff 65535 _).2 ⟨by rw [lT_len]; exact h1, by rw [lT_len]; omega, lT_ok n h2⟩
theorem lT_key (n : Nat) : ∀ e ∈ lT n, e.k.length = 3 := fun e he => by
  obtain ⟨q, _, rfl⟩ := List.mem_map.1 he
  rfl
end Go.Proofs.Yteeemfohehpaeaa
