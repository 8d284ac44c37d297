/- A log as plain data: what Open finds on a disk, and what becomes of it. -/
import Derived.Test.YtkbhhidmndhnoaaFMod2
import Derived.Test.YtkbhhidmndhnoaaDMod
namespace Go.Proofs.Ytkbhhidmndhnoaa

/-- The whole records of the file; they are left alone there. -/
def loadM (d : Dm) (nm : ByteArray) : Dm × List (List Int) × Int :=
  match get d.files nm with
  | none => ((d.create nm).1, [], (d.create nm).2)
  | some f =>
    if (allL f.data).2.2 = false then (d, [], 14)
    else if (allL f.data).2.1 < f.data.length then ((d.cut nm (allL f.data).2.1).1, (allL f.data).1, (d.cut nm (allL f.data).2.1).2)
    else (d, (allL f.data).1, 0)

def decL : List (List Int) → Option (List (List Ent))
  | [] => some []
  | x :: l =>
    match entriesL x with
    | none => none
    | some es =>
      match decL l with
      | none => none
      | some r => some (es :: r)

theorem decL_snoc : ∀ (l : List (List Int)) (x : List Int) (out : List (List Ent)) (es : List Ent), decL l = some out → entriesL x = some es → decL (l ++ [x]) = some (out ++ [es])
  | [], x, out, es, h, k => by
    simp [decL] at h
    subst h
    simp [decL, k]
  | y :: l, x, out, es, h, k => by
    rw [decL] at h
    cases h1 : entriesL y with
    | none => rw [h1] at h; cases h
    | some e1 =>
      rw [h1] at h
      simp only at h
      cases h2 : decL l with
      | none => rw [h2] at h; cases h
      | some r =>
        rw [h2] at h
        simp at h
        subst h
        have ih := decL_snoc l x r es h2 k
        simp [decL, h1, ih]
theorem decL_bad : ∀ (l : List (List Int)) (j : Nat) (x : List Int), l[j]? = some x → entriesL x = none → decL l = none
  | [], j, x, h, _ => by simp at h
  | y :: l, 0, x, h, k => by
    simp at h
    subst h
    simp [decL, k]
  | y :: l, j + 1, x, h, k => by
    have ih := decL_bad l j x (by simpa using h) k
    rw [decL]
    cases entriesL y with
    | none => rfl
    | some es => simp [ih]
theorem decL_len : ∀ (l : List (List Int)) (out : List (List Ent)), decL l = some out → out.length = l.length
  | [], out, h => by
    simp [decL] at h
    subst h; rfl
  | y :: l, out, h => by
    rw [decL] at h
    cases h1 : entriesL y with
    | none => rw [h1] at h; cases h
    | some e1 =>
      rw [h1] at h
      simp only at h
      cases h2 : decL l with
      | none => rw [h2] at h; cases h
      | some r =>
        rw [h2] at h
        simp at h
        subst h
        simp [decL_len l r h2]
/-- No record is too long. -/
theorem allL_small : ∀ (n : Nat) (xs : List Int), xs.length ≤ n → (∀ x ∈ (allL xs).1, x.length ≤ 1048576) ∧ (allL xs).1.length ≤ xs.length ∧ (allL xs).2.1 ≤ xs.length
  | 0, xs, h => by
    rw [allL_short (by omega)]; simp
  | n + 1, xs, h => by
    by_cases h6 : xs.length < 6
    · rw [allL_short h6]; simp
    · cases hg : goodH xs with
      | false => rw [allL_bad h6 hg]; simp
      | true =>
        have hg' : num3 xs ≤ 1048576 := by simp [goodH] at hg; exact hg.2
        by_cases ht : xs.length < 6 + (num3 xs).toNat
        · rw [allL_torn h6 hg ht]; simp
        · by_cases hneg : 0 ≤ num3 xs
          · have e := allL_step h6 hg (num3 xs).toNat (by omega) ht
            obtain ⟨i1, i2, i3⟩ := allL_small n (xs.drop (6 + (num3 xs).toNat)) (by simp; omega)
            rw [e]
            simp only [List.length_drop] at i2 i3
            refine ⟨fun x hx => ?_, by simp; omega, by simp; omega⟩
            rcases List.mem_cons.1 hx with rfl | hx
            · simp; omega
            · exact i1 x hx
          · have e : allL xs = ((xs.drop 6).take (num3 xs).toNat :: (allL (xs.drop (6 + (num3 xs).toNat))).1, 6 + (num3 xs).toNat + (allL (xs.drop (6 + (num3 xs).toNat))).2.1, (allL (xs.drop (6 + (num3 xs).toNat))).2.2) := by
              rw [allL, if_neg h6, if_neg (by simp [hg]), if_neg ht]
            obtain ⟨i1, i2, i3⟩ := allL_small n (xs.drop (6 + (num3 xs).toNat)) (by simp; omega)
            rw [e]
            simp only [List.length_drop] at i2 i3
            refine ⟨fun x hx => ?_, by simp; omega, by simp; omega⟩
            rcases List.mem_cons.1 hx with rfl | hx
            · simp; omega
            · exact i1 x hx

/-- What Open does: the disk behind it, the batches, the refusal. -/
def openM (d : Dm) (nm : ByteArray) : Dm × List (List Ent) × Int :=
  if (loadM d nm).2.2 = 0 then
    match decL (loadM d nm).2.1 with
    | none => ((loadM d nm).1, [], 14)
    | some ess => ((loadM d nm).1, ess, 0)
  else ((loadM d nm).1, [], (loadM d nm).2.2)

end Go.Proofs.Ytkbhhidmndhnoaa
