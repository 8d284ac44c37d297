/- Tables as plain lists of numbers: blocks of eight, their lengths, where the index begins. -/
import Derived.Test.YteeemfohehpaeaaPA
import Derived.Test.YteeemfohehpaeaaBBack
namespace Go.Proofs.Yteeemfohehpaeaa

/-- The i-th block's entries. -/
def blk (m : List Ent) (i : Nat) : List Ent := (m.drop (8 * i)).take 8
def nbl (m : List Ent) : Nat := (m.length + 7) / 8
def catT (m : List Ent) (js : List Nat) : List Ent := (js.map (blk m)).flatten
def bodyT (m : List Ent) (js : List Nat) : List Int := (js.map fun i => blockL (blk m i)).flatten
def lensT (m : List Ent) (js : List Nat) : List Int := (js.map fun i => low 4 ((blockL (blk m i)).length : Int)).flatten
def tailT (m : List Ent) (js : List Nat) : List Int := low 2 (js.length : Int) ++ (lensT m js ++ (low 4 ((bodyT m js).length : Int) ++ [109, 97, 114, 105]))
def tableL (m : List Ent) : List Int := bodyT m (List.range (nbl m)) ++ tailT m (List.range (nbl m))

theorem catT_snoc (m : List Ent) (js : List Nat) (i : Nat) : catT m (js ++ [i]) = catT m js ++ blk m i := by simp [catT]
theorem bodyT_snoc (m : List Ent) (js : List Nat) (i : Nat) : bodyT m (js ++ [i]) = bodyT m js ++ blockL (blk m i) := by simp [bodyT]
theorem lensT_snoc (m : List Ent) (js : List Nat) (i : Nat) : lensT m (js ++ [i]) = lensT m js ++ low 4 ((blockL (blk m i)).length : Int) := by simp [lensT]
theorem lensT_length (m : List Ent) (js : List Nat) : (lensT m js).length = 4 * js.length := by
  induction js with
  | nil => rfl
  | cons i js ih => simp only [lensT, List.map_cons, List.flatten_cons, List.length_append, length_low, List.length_cons] at ih ⊢; omega
theorem catT_range (m : List Ent) : ∀ k, catT m (List.range k) = m.take (8 * k)
  | 0 => by simp [catT]
  | k + 1 => by rw [List.range_succ, catT_snoc, catT_range m k, show 8 * (k + 1) = 8 * k + 8 by omega, List.take_add]; rfl
theorem catT_all (m : List Ent) : catT m (List.range (nbl m)) = m := by rw [catT_range, List.take_of_length_le]; unfold nbl; omega
theorem blk_length (m : List Ent) (i : Nat) : (blk m i).length = min 8 (m.length - 8 * i) := by simp [blk]
theorem blk_mem (m : List Ent) (i : Nat) : ∀ e ∈ blk m i, e ∈ m := fun _ h => List.mem_of_mem_drop (List.mem_of_mem_take h)

theorem okL_cons (a : List Int) (e : Ent) (r : List Ent) : okL a (e :: r) = (okL [] (e :: r) && lessB a e.k) := by
  simp only [okL]
  cases h : fitsE e with
  | false => simp
  | true =>
    have h1 := ((fitsE_iff e).1 h).1
    have hpos : lessB [] e.k = true := by
      cases hk : e.k with
      | nil => rw [hk] at h1; simp at h1
      | cons a r => simp [lessB]
    rw [hpos]
    cases lessB a e.k <;> simp
theorem blk_cons (m : List Ent) (i : Nat) (h : 8 * i < m.length) : ∃ r, blk m i = (m[8 * i]'h) :: r := by
  unfold blk
  rw [List.drop_eq_getElem_cons h]
  exact ⟨_, rfl⟩
theorem blk_first (m : List Ent) (i : Nat) (h : 8 * i < m.length) : (blk m i)[0]? = some (m[8 * i]'h) := by
  obtain ⟨r, hr⟩ := blk_cons m i h
  rw [hr]; rfl
theorem okL_blk (m : List Ent) (i : Nat) (h : 8 * i < m.length) (a : List Int) : okL a (blk m i) = (okL [] (blk m i) && lessB a (m[8 * i]'h).k) := by
  obtain ⟨r, hr⟩ := blk_cons m i h
  rw [hr]; exact okL_cons a _ r
theorem may_blk (m : List Ent) (i : Nat) (h : 8 * i < m.length) : mayB 255 (blk m i) = okL [] (blk m i) := by
  have := blk_length m i
  unfold mayB
  rw [decide_eq_true (by omega)]; simp
theorem body_blk (m : List Ent) (i : Nat) (h : okL [] (blk m i) = true) : (bodyL 0 [] (blk m i)).length ≤ 34880 := by
  have h1 := bodyL_le (blk m i) 0 [] (okL_fits _ _ h)
  have := blk_length m i
  omega
theorem fit_blk (m : List Ent) (i : Nat) (h : okL [] (blk m i) = true) : fitB 0 0 [] (blk m i) = true := fitB_of _ 0 0 [] (by have := body_blk m i h; omega)
theorem block_blk (m : List Ent) (i : Nat) (h : okL [] (blk m i) = true) : (blockL (blk m i)).length ≤ 34885 := by
  have := body_blk m i h
  have := blk_length m i
  rw [blockL_length]; unfold cntB; omega
theorem lastK_app : ∀ (l m : List Ent) (p : List Int), lastK p (l ++ m) = lastK (lastK p l) m
  | [], _, _ => rfl
  | x :: l, m, _ => lastK_app l m x.k
theorem lastK_of (l : List Ent) (p : List Int) (e : Ent) (h : l[l.length - 1]? = some e) : lastK p l = e.k := by
  have h2 : l = l.take (l.length - 1) ++ [e] := by
    have hl := (List.getElem?_eq_some_iff.1 h).1
    have := List.take_succ_eq_append_getElem hl
    rw [show l.length - 1 + 1 = l.length by omega, List.take_length] at this
    rw [(List.getElem?_eq_some_iff.1 h).2] at this
    exact this
  rw [h2, lastK_snoc]
end Go.Proofs.Yteeemfohehpaeaa
