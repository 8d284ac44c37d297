/- What was built is opened: plain facts. -/
import Derived.Test.YteeemfohehpaeaaTOpenM
namespace Go.Proofs.Yteeemfohehpaeaa
open Go.RowKit

theorem openT_parts (X Y : List Int) (nb : Nat) (hX : X.length < 4294967296) (hn : 1 ≤ nb ∧ nb ≤ 65535) (hY : Y.length = 4 * nb) :
    partsT (X ++ (low 2 (nb : Int) ++ (Y ++ (low 4 (X.length : Int) ++ [109, 97, 114, 105])))) = some (X, Y) := by
  have hl : (X ++ (low 2 (nb : Int) ++ (Y ++ (low 4 (X.length : Int) ++ [109, 97, 114, 105])))).length = X.length + 2 + Y.length + 8 := by simp [length_low]; omega
  have e1 : X ++ (low 2 (nb : Int) ++ (Y ++ (low 4 (X.length : Int) ++ [109, 97, 114, 105]))) = (X ++ low 2 (nb : Int) ++ Y ++ low 4 (X.length : Int)) ++ [109, 97, 114, 105] := by simp
  have e2 : X ++ (low 2 (nb : Int) ++ (Y ++ (low 4 (X.length : Int) ++ [109, 97, 114, 105]))) = (X ++ low 2 (nb : Int) ++ Y) ++ (low 4 (X.length : Int) ++ [109, 97, 114, 105]) := by simp
  have d1 : (X ++ (low 2 (nb : Int) ++ (Y ++ (low 4 (X.length : Int) ++ [109, 97, 114, 105])))).drop (X.length + 2 + Y.length + 8 - 4) = [109, 97, 114, 105] := by
    rw [e1]; exact List.drop_left' (by simp [length_low]; omega)
  have d2 : (X ++ (low 2 (nb : Int) ++ (Y ++ (low 4 (X.length : Int) ++ [109, 97, 114, 105])))).drop (X.length + 2 + Y.length + 8 - 8) = low 4 (X.length : Int) ++ [109, 97, 114, 105] := by
    rw [e2]; exact List.drop_left' (by simp [length_low]; omega)
  have g4 := (getN_low 4 (X.length : Int) (by omega) [109, 97, 114, 105]).2
  rw [show ((4 : Nat) : Int) = 4 from rfl, show (256 : Int) ^ 4 = 4294967296 by decide, Int.emod_eq_of_lt (by omega) (by omega)] at g4
  have d3 : ((X ++ (low 2 (nb : Int) ++ (Y ++ (low 4 (X.length : Int) ++ [109, 97, 114, 105])))).drop X.length).take (X.length + 2 + Y.length + 8 - 8 - X.length) = low 2 (nb : Int) ++ Y := by
    rw [List.drop_left' rfl, ← List.append_assoc]
    exact List.take_left' (by simp [length_low]; omega)
  have g2 := (getN_low 2 (nb : Int) (by omega) Y).2
  rw [show ((2 : Nat) : Int) = 2 from rfl, show (256 : Int) ^ 2 = 65536 by decide, Int.emod_eq_of_lt (by omega) (by omega)] at g2
  unfold partsT
  rw [hl, if_neg (by omega), if_neg (by rw [d1]; simp [mariL]), d2, g4, if_neg (by omega)]
  simp only [Int.toNat_natCast, d3, g2]
  rw [if_neg (by simp [length_low, hY]; omega), List.take_left' rfl, List.drop_left' (length_low _ _)]

theorem cutT_blocks (m : List Ent) : ∀ js : List Nat, (∀ i ∈ js, (blockL (blk m i)).length < 4294967296) → cutT js.length (bodyT m js) (lensT m js) = some (js.map fun i => blockL (blk m i))
  | [], _ => rfl
  | i :: js, h => by
    have ih := cutT_blocks m js (fun j hj => h j (by simp [hj]))
    have hb := h i (by simp)
    have e1 : bodyT m (i :: js) = blockL (blk m i) ++ bodyT m js := by simp [bodyT]
    have e2 : lensT m (i :: js) = low 4 ((blockL (blk m i)).length : Int) ++ lensT m js := by simp [lensT]
    rw [List.map_cons]
    generalize blockL (blk m i) = b at hb e1 e2 ⊢
    have g4 := (getN_low 4 (b.length : Int) (by omega) (lensT m js)).2
    rw [show ((4 : Nat) : Int) = 4 from rfl, show (256 : Int) ^ 4 = 4294967296 by decide, Int.emod_eq_of_lt (by omega) (by omega)] at g4
    rw [List.length_cons, cutT, e1, e2, g4, if_neg (by simp; omega), Int.toNat_natCast, List.drop_left' rfl, List.take_left' rfl, List.drop_left' (length_low _ _), ih]
    rfl

theorem addT_blk (m : List Ent) (i : Nat) (hi : 8 * i < m.length) (hm : m.length ≤ 65535) (hok : okL [] m = true) (hn : m.map norm = m) : addT (8 * i) (lastK [] (m.take (8 * i))) (blockL (blk m i)) = some (blk m i) := by
  have hs : m = m.take (8 * i) ++ (blk m i ++ (m.drop (8 * i)).drop 8) := by
    unfold blk
    rw [List.take_append_drop, List.take_append_drop]
  have hk : okL (lastK [] (m.take (8 * i))) (blk m i) = true := by
    have h := hok
    rw [hs, okL_app, okL_app] at h
    simp only [Bool.and_eq_true] at h
    exact h.2.1
  have hk0 : okL [] (blk m i) = true := by
    have := okL_blk m i hi (lastK [] (m.take (8 * i)))
    rw [hk] at this
    cases h : okL [] (blk m i) with
    | true => rfl
    | false => rw [h] at this; simp at this
  have hnorm : (blk m i).map norm = blk m i := by
    have : ∀ e ∈ blk m i, norm e = e := fun e he => by
      have h1 := blk_mem m i e he
      obtain ⟨j, hj, rfl⟩ := List.getElem_of_mem h1
      have h2 : (m.map norm)[j]? = m[j]? := by rw [hn]
      simpa [hj] using h2
    exact (List.map_congr_left this).trans (List.map_id _)
  have hl := blk_length m i
  have hall : allB (blockL (blk m i)) = some (blk m i) := (allB_iff _ _).2 ⟨(validB_iff _ _).2 ⟨by rw [may_blk m i hi]; exact hk0, fit_blk m i hk0, rfl⟩, hnorm⟩
  unfold addT
  rw [hall]
  simp only
  rw [if_pos ⟨by omega, by omega, by omega, hk⟩]

theorem addsT_blocks (m : List Ent) (hm : m.length ≤ 65535) (hok : okL [] m = true) (hn : m.map norm = m) : ∀ (n j : Nat), j + n = nbl m → addsT (min (8 * j) m.length) (lastK [] (m.take (8 * j))) ((List.range' j n).map fun i => blockL (blk m i)) = some (m.drop (8 * j))
  | 0, j, h => by
    have hd : m.drop (8 * j) = [] := List.drop_eq_nil_of_le (by unfold nbl at h; omega)
    rw [hd]; rfl
  | n + 1, j, h => by
    have hj : 8 * j < m.length := by unfold nbl at h; omega
    have ih := addsT_blocks m hm hok hn n (j + 1) (by omega)
    have ha := addT_blk m j hj hm hok hn
    have hl := blk_length m j
    have ht : m.take (8 * (j + 1)) = m.take (8 * j) ++ blk m j := by rw [show 8 * (j + 1) = 8 * j + 8 by omega, List.take_add]; rfl
    have hd : m.drop (8 * j) = blk m j ++ m.drop (8 * (j + 1)) := by
      unfold blk
      rw [show 8 * (j + 1) = 8 * j + 8 by omega, ← List.drop_drop, List.take_append_drop]
    rw [List.range'_succ, List.map_cons, addsT, show min (8 * j) m.length = 8 * j by omega, ha]
    simp only
    rw [show 8 * j + (blk m j).length = min (8 * (j + 1)) m.length by rw [hl]; omega, ← lastK_app, ← ht, ih, hd]
    rfl

theorem openT_table (m : List Ent) (h1 : 1 ≤ m.length) (hm : m.length ≤ 65535) (hok : okL [] m = true) (hn : m.map norm = m) : openT (tableL m) = some m := by
  have hall : ∀ i ∈ List.range (nbl m), okL [] (blk m i) = true := fun i hi => by
    have hi8 : 8 * i < m.length := by have := List.mem_range.1 hi; unfold nbl at this; omega
    have h2 := addT_blk m i hi8 hm hok hn
    unfold addT at h2
    split at h2
    · cases h2
    · rename_i l hl
      split at h2
      · cases h2
        obtain ⟨v1, _⟩ := (allB_iff _ _).1 hl
        exact ((mayB_iff _ _).1 ((validB_iff _ _).1 v1).1).2.2
      · cases h2
  have hlen : ∀ js : List Nat, (∀ i ∈ js, okL [] (blk m i) = true) → (bodyT m js).length ≤ js.length * 34885 := by
    intro js
    induction js with
    | nil => intro _; simp [bodyT]
    | cons i js ih =>
      intro h
      have h1 := ih (fun j hj => h j (by simp [hj]))
      have h2 := block_blk m i (h i (by simp))
      have e1 : bodyT m (i :: js) = blockL (blk m i) ++ bodyT m js := by simp [bodyT]
      rw [e1, List.length_append, List.length_cons, Nat.add_mul]; omega
  have hnb : 1 ≤ nbl m ∧ nbl m ≤ 8192 := by unfold nbl; omega
  have hX := hlen (List.range (nbl m)) hall
  rw [List.length_range] at hX
  have hp := openT_parts (bodyT m (List.range (nbl m))) (lensT m (List.range (nbl m))) (nbl m) (by omega) (by omega) (by rw [lensT_length, List.length_range])
  have hc := cutT_blocks m (List.range (nbl m)) (fun i hi => by have := block_blk m i (hall i hi); omega)
  have ha := addsT_blocks m hm hok hn (nbl m) 0 (by omega)
  unfold openT tableL tailT
  rw [List.length_range, hp]
  simp only
  rw [lensT_length, List.length_range, Nat.mul_div_cancel_left _ (by omega)]
  rw [List.length_range] at hc
  rw [hc]
  simp only
  rw [List.range_eq_range']
  simpa [lastK] using ha
end Go.Proofs.Yteeemfohehpaeaa
