/- Plain facts: a disk that has one file, a log; what its calls make of it. -/
import Derived.Test.YtkbhhidmndhnoaaWMod
import Derived.Test.YtkbhhidmndhnoaaDLaw
namespace Go.Proofs.Ytkbhhidmndhnoaa

/-- Batches as a file's bytes. -/
def rowB (l : List (List Ent)) : List Int := rowL (l.map batchL)
theorem rowL_append (a b : List (List Int)) : rowL (a ++ b) = rowL a ++ rowL b := by simp [rowL]
theorem rowB_append (a b : List (List Ent)) : rowB (a ++ b) = rowB a ++ rowB b := by simp [rowB, rowL_append]
theorem rowB_one (l : List Ent) : rowB [l] = recL (batchL l) := by simp [rowB, rowL]
theorem rowB_snoc (a : List (List Ent)) (l : List Ent) : rowB (a ++ [l]) = rowB a ++ recL (batchL l) := by rw [rowB_append, rowB_one]
theorem rowB_nil : rowB [] = [] := rfl

theorem allL_pre : ∀ (l : List (List Int)), (∀ x ∈ l, x.length ≤ 1048576) → ∀ c, ∃ m, m ≤ l.length ∧ allL ((rowL l).take c) = (l.take m, (rowL (l.take m)).length, true) ∧ (∀ j, j ≤ l.length → (rowL (l.take j)).length ≤ c → j ≤ m)
  | [], _, c => ⟨0, by simp, by simp [rowL, allL_short], fun j hj _ => by simpa using hj⟩
  | x :: l, h, c => by
    have hx := h x (by simp)
    have hl := length_recL x
    have er : rowL (x :: l) = recL x ++ rowL l := rfl
    by_cases hc : x.length + 6 ≤ c
    · obtain ⟨m, h1, h2, h3⟩ := allL_pre l (fun y hy => h y (by simp [hy])) (c - (x.length + 6))
      have et : (rowL (x :: l)).take c = recL x ++ (rowL l).take (c - (x.length + 6)) := by
        rw [er, List.take_append, hl, List.take_of_length_le (by omega)]
      refine ⟨m + 1, by simp; omega, ?_, fun j hj hjc => ?_⟩
      · rw [et, allL_rec x hx, h2]
        have e2 : rowL ((x :: l).take (m + 1)) = recL x ++ rowL (l.take m) := rfl
        rw [e2]
        simp [hl]
      · cases j with
        | zero => omega
        | succ j =>
          have e2 : rowL ((x :: l).take (j + 1)) = recL x ++ rowL (l.take j) := rfl
          rw [e2, List.length_append, hl] at hjc
          have := h3 j (by simpa using hj) (by omega)
          omega
    · refine ⟨0, by omega, ?_, fun j hj hjc => ?_⟩
      · have et : (rowL (x :: l)).take c = (recL x).take c := by
          rw [er, List.take_append_of_le_length (by omega)]
        rw [et]
        have hlen : ((recL x).take c).length = c := by simp; omega
        by_cases h6 : c < 6
        · rw [allL_short (by omega)]; simp [rowL]
        · obtain ⟨g1, g2⟩ := goodH_rec x hx []
          rw [List.append_nil] at g1 g2
          have t3 : ∀ j, j < c → ((recL x).take c).getD j 0 = (recL x).getD j 0 := fun j hj => by simp [List.getD, hj]
          have n1 : num3 ((recL x).take c) = num3 (recL x) := by
            simp only [num3]; rw [t3 0 (by omega), t3 1 (by omega), t3 2 (by omega)]
          have n2 : num3 (((recL x).take c).drop 3) = num3 ((recL x).drop 3) := by
            have d3 : ∀ j, j + 3 < c → (((recL x).take c).drop 3).getD j 0 = ((recL x).drop 3).getD j 0 := fun j hj => by simp [List.getD, List.getElem?_drop, show 3 + j < c by omega]
            simp only [num3]; rw [d3 0 (by omega), d3 1 (by omega), d3 2 (by omega)]
          rw [allL_torn (by omega) (by simp only [goodH] at g1 ⊢; rw [n1, n2]; exact g1) (by rw [n1, g2]; omega)]
          simp [rowL]
      · cases j with
        | zero => omega
        | succ j =>
          have e2 : rowL ((x :: l).take (j + 1)) = recL x ++ rowL (l.take j) := rfl
          rw [e2, List.length_append, hl] at hjc
          omega

/-- Batches that may be, and that are not long. -/
def Fine (l : List (List Ent)) : Prop := ∀ es ∈ l, mayL es = true ∧ (batchL es).length ≤ 1000
theorem Fine.take {l : List (List Ent)} (h : Fine l) (k : Nat) : Fine (l.take k) := fun es he => h es (List.mem_of_mem_take he)
theorem Fine.app {l m : List (List Ent)} (h : Fine l) (k : Fine m) : Fine (l ++ m) := fun es he => (List.mem_append.1 he).elim (h es) (k es)
theorem Fine.nil : Fine [] := by simp [Fine]
def normB (l : List (List Ent)) : List (List Ent) := l.map (·.map norm)

theorem decL_batches : ∀ (l : List (List Ent)), Fine l → decL (l.map batchL) = some (normB l)
  | [], _ => rfl
  | es :: l, h => by
    have h1 := entries_batch es (h es (by simp)).1
    have h2 := decL_batches l (fun x hx => h x (by simp [hx]))
    simp [decL, h1, h2, normB]

theorem rowB_length : ∀ (l : List (List Ent)), Fine l → (rowB l).length ≤ 1006 * l.length
  | [], _ => by simp [rowB, rowL]
  | es :: l, h => by
    have h1 := (h es (by simp)).2
    have h2 := rowB_length l (fun x hx => h x (by simp [hx]))
    have e : rowB (es :: l) = recL (batchL es) ++ rowB l := rfl
    rw [e, List.length_append, length_recL, List.length_cons]; omega

theorem allB_pre (l : List (List Ent)) (h : Fine l) (c : Nat) : ∃ m, m ≤ l.length ∧ allL ((rowB l).take c) = ((l.take m).map batchL, (rowB (l.take m)).length, true) ∧ (∀ j, j ≤ l.length → (rowB (l.take j)).length ≤ c → j ≤ m) := by
  obtain ⟨m, h1, h2, h3⟩ := allL_pre (l.map batchL) (fun x hx => by
    obtain ⟨es, he, rfl⟩ := List.mem_map.1 hx
    have := (h es he).2; omega) c
  refine ⟨m, by simpa using h1, ?_, fun j hj hjc => h3 j (by simpa using hj) (by rw [← List.map_take]; exact hjc)⟩
  rw [rowB, h2, ← List.map_take]; rfl
theorem rowB_take (l : List (List Ent)) (m : Nat) : (rowB l).take (rowB (l.take m)).length = rowB (l.take m) := by
  have : rowB l = rowB (l.take m) ++ rowB (l.drop m) := by rw [← rowB_append, List.take_append_drop]
  rw [this, List.take_left]
theorem rowB_take_le (l : List (List Ent)) (m : Nat) : (rowB (l.take m)).length ≤ (rowB l).length := by
  have : rowB l = rowB (l.take m) ++ rowB (l.drop m) := by rw [← rowB_append, List.take_append_drop]
  rw [this]; simp

/-- A disk that has one file. -/
def one (lim : Nat) (nm : ByteArray) (xs : List Int) (s : Nat) (left : Int) (down : Bool) : Dm := ⟨lim, [⟨nm, xs, s⟩], left, down⟩
theorem get_one (nm : ByteArray) (xs : List Int) (s : Nat) : get [⟨nm, xs, s⟩] nm = some ⟨nm, xs, s⟩ := by simp [get]
theorem put_one (nm : ByteArray) (xs ys : List Int) (s t : Nat) : put [⟨nm, xs, s⟩] ⟨nm, ys, t⟩ = [⟨nm, ys, t⟩] := by simp [put, lo, hi, nlt_irrefl]
theorem used_one (nm : ByteArray) (xs : List Int) (s : Nat) : used [⟨nm, xs, s⟩] = xs.length := by simp [used]
theorem create_one (lim : Nat) (nm : ByteArray) (hn : okName nm = true) : (⟨lim, [], 0, false⟩ : Dm).create nm = (one lim nm [] 0 0 false, 0) := by
  rw [create_calm rfl rfl hn]; simp [one, put, lo, hi]
theorem append_one (lim : Nat) (nm : ByteArray) (xs b : List Int) (s : Nat) (h : xs.length + b.length ≤ lim) : (one lim nm xs s 0 false).append nm b = (one lim nm (xs ++ b) s 0 false, 0) := by
  rw [append_calm rfl rfl (get_one nm xs s) b (by simp only [one, used_one]; omega)]; simp [one, put_one]
theorem sync_one (lim : Nat) (nm : ByteArray) (xs : List Int) (s : Nat) : (one lim nm xs s 0 false).sync nm = (one lim nm xs xs.length 0 false, 0) := by
  rw [sync_calm rfl rfl (get_one nm xs s)]; simp [one, put_one]
theorem cut_one (lim : Nat) (nm : ByteArray) (xs : List Int) (s n : Nat) (h : n ≤ xs.length) : (one lim nm xs s 0 false).cut nm n = (one lim nm (xs.take n) n 0 false, 0) := by
  rw [cut_calm rfl rfl (get_one nm xs s) n h]; simp [one, put_one]
theorem crash_one (lim : Nat) (nm : ByteArray) (xs : List Int) (s : Nat) (l : Int) (dn : Bool) (keep : Int) (hs : s ≤ xs.length) : ∃ k, s ≤ k ∧ k ≤ xs.length ∧ (one lim nm xs s l dn).crash keep = one lim nm (xs.take k) k 0 false :=
  ⟨s + min keep.toNat (xs.length - s), by omega, by omega, by simp [one, Dm.crash, Fl.crash]⟩

/-- Open of a disk that has no such file. -/
theorem open_new (lim : Nat) (nm : ByteArray) (hn : okName nm = true) : openM ⟨lim, [], 0, false⟩ nm = (one lim nm [] 0 0 false, [], 0) := by
  have hl : loadM ⟨lim, [], 0, false⟩ nm = (one lim nm [] 0 0 false, [], 0) := by
    have : get ([] : List Fl) nm = none := rfl
    simp only [loadM, this, create_one lim nm hn]
  simp [openM, hl, decL]
/-- Open of any bytes. -/
theorem load_one (lim : Nat) (nm : ByteArray) (xs : List Int) (s : Nat) (hs : s = xs.length) : loadM (one lim nm xs s 0 false) nm = if (allL xs).2.2 = false then (one lim nm xs s 0 false, [], 14) else (one lim nm (xs.take (allL xs).2.1) (allL xs).2.1 0 false, (allL xs).1, 0) := by
  subst hs
  have hg : get (one lim nm xs xs.length 0 false).files nm = some ⟨nm, xs, xs.length⟩ := get_one nm xs _
  obtain ⟨_, _, h3⟩ := allL_small _ xs (Nat.le_refl _)
  simp only [loadM, hg]
  split
  · rfl
  · split
    · rw [cut_one _ _ _ _ _ h3]
    · have e : (allL xs).2.1 = xs.length := by omega
      rw [e, List.take_length]
theorem open_one (lim : Nat) (nm : ByteArray) (xs : List Int) (s : Nat) (hs : s = xs.length) (recs : List (List Int)) (n : Nat) (ok : Bool) (hA : allL xs = (recs, n, ok)) :
    openM (one lim nm xs s 0 false) nm = if ok = false then (one lim nm xs s 0 false, [], (14 : Int)) else match decL recs with | none => (one lim nm (xs.take n) n 0 false, [], (14 : Int)) | some ess => (one lim nm (xs.take n) n 0 false, ess, 0) := by
  have hl := load_one lim nm xs s hs
  rw [hA] at hl
  unfold openM
  rw [hl]
  cases ok with
  | false => simp
  | true => cases hd : decL recs <;> simp [hd]
/-- Open of a log's own bytes, cut off. -/
theorem open_pre (lim : Nat) (nm : ByteArray) (l : List (List Ent)) (hl : Fine l) (c : Nat) (hc : c ≤ (rowB l).length) : ∃ m, m ≤ l.length ∧ openM (one lim nm ((rowB l).take c) c 0 false) nm = (one lim nm (rowB (l.take m)) (rowB (l.take m)).length 0 false, normB (l.take m), 0) ∧ (∀ j, j ≤ l.length → (rowB (l.take j)).length ≤ c → j ≤ m) ∧ (rowB (l.take m)).length ≤ c := by
  obtain ⟨m, h1, h2, h3⟩ := allB_pre l hl c
  have hlen : ((rowB l).take c).length = c := by simp; omega
  have hle : (rowB (l.take m)).length ≤ c := by
    obtain ⟨_, _, g⟩ := allL_small _ ((rowB l).take c) (Nat.le_refl _)
    rw [h2] at g
    simp only at g
    omega
  refine ⟨m, h1, ?_, h3, hle⟩
  rw [open_one lim nm _ c hlen.symm _ _ _ h2, decL_batches _ (hl.take m)]
  simp only [Bool.true_eq_false, if_false]
  rw [List.take_take, Nat.min_eq_left hle, rowB_take]
/-- Open of a log's own bytes, whole: nothing turns. -/
theorem open_whole (lim : Nat) (nm : ByteArray) (l : List (List Ent)) (hl : Fine l) (s : Nat) (left : Int) (dn : Bool) : openM (one lim nm (rowB l) s left dn) nm = (one lim nm (rowB l) s left dn, normB l, 0) := by
  have hA : allL (rowB l) = (l.map batchL, (rowB l).length, true) := allL_row _ (fun x hx => by
    obtain ⟨es, he, rfl⟩ := List.mem_map.1 hx
    have := (hl es he).2; omega)
  have hg : get (one lim nm (rowB l) s left dn).files nm = some ⟨nm, rowB l, s⟩ := get_one nm _ _
  have hL : loadM (one lim nm (rowB l) s left dn) nm = (one lim nm (rowB l) s left dn, l.map batchL, 0) := by
    simp only [loadM, hg, hA]; simp
  simp [openM, hL, decL_batches l hl]

/-- Batches one by one the same. -/
def sameB (a b : List (List Ent)) : Prop := a.length = b.length ∧ ∀ (i : Nat) (x y : List Ent), a[i]? = some x → b[i]? = some y → sameL x y = true
theorem sameB_norm (l : List (List Ent)) : sameB (normB l) l := by
  refine ⟨by simp [normB], fun i x y hx hy => ?_⟩
  simp only [normB, List.getElem?_map, hy, Option.map_some, Option.some.injEq] at hx
  rw [← hx, sameL_iff]
  simp [norm_norm]
theorem sameB_refl (l : List (List Ent)) : sameB l l := ⟨rfl, fun i x y hx hy => by rw [hx] at hy; cases hy; exact sameL_refl x⟩
theorem normB_len (l : List (List Ent)) : (normB l).length = l.length := by simp [normB]

end Go.Proofs.Ytkbhhidmndhnoaa
