/- What the reading of a row answers is small. -/
import Derived.Test.YtgleblfkcdkaeaaDoorFMod2
namespace Go.Proofs.YtgleblfkcdkaeaaDoor
set_option maxRecDepth 100000

/-- No record is too long. -/
theorem allL_small : ∀ (n : Nat) (xs : List Int), xs.length ≤ n → (∀ x ∈ (allL xs).1, x.length ≤ 1048576) ∧ (allL xs).1.length ≤ xs.length ∧ (allL xs).2.1 ≤ xs.length
  | 0, xs, h => by
    rw [allL_short (by omega)]; simp
  | n + 1, xs, h => by
    by_cases h6 : xs.length < 6
    · rw [allL_short h6]; simp
    · cases hg : goodH xs with
      | false => rw [allL_bad h6 hg]; simp
      | true =>
        have hg' : num3 xs ≤ 1048576 := by simp [goodH] at hg; exact hg.2
        by_cases ht : xs.length < 6 + (num3 xs).toNat
        · rw [allL_torn h6 hg ht]; simp
        · by_cases hneg : 0 ≤ num3 xs
          · have e := allL_step h6 hg (num3 xs).toNat (by omega) ht
            obtain ⟨i1, i2, i3⟩ := allL_small n (xs.drop (6 + (num3 xs).toNat)) (by simp; omega)
            rw [e]
            simp only [List.length_drop] at i2 i3
            refine ⟨fun x hx => ?_, by simp; omega, by simp; omega⟩
            rcases List.mem_cons.1 hx with rfl | hx
            · simp; omega
            · exact i1 x hx
          · have e : allL xs = ((xs.drop 6).take (num3 xs).toNat :: (allL (xs.drop (6 + (num3 xs).toNat))).1, 6 + (num3 xs).toNat + (allL (xs.drop (6 + (num3 xs).toNat))).2.1, (allL (xs.drop (6 + (num3 xs).toNat))).2.2) := by
              rw [allL, if_neg h6, if_neg (by simp [hg]), if_neg ht]
            obtain ⟨i1, i2, i3⟩ := allL_small n (xs.drop (6 + (num3 xs).toNat)) (by simp; omega)
            rw [e]
            simp only [List.length_drop] at i2 i3
            refine ⟨fun x hx => ?_, by simp; omega, by simp; omega⟩
            rcases List.mem_cons.1 hx with rfl | hx
            · simp; omega
            · exact i1 x hx

end Go.Proofs.YtgleblfkcdkaeaaDoor
