/- Plain facts on the order of lists: numbers stand as their bytes do; what begins with a text stands ahead of what comes next. -/
import Derived.Test.YtaojhaicbjnhiaaMath
namespace Go.Proofs.Ytaojhaicbjnhiaa

theorem lex_num (x y a b P : Int) (ha : 0 ≤ a) (ha2 : a < P) (hb : 0 ≤ b) (hb2 : b < P) : (x * P + a < y * P + b) ↔ (x < y ∨ (x = y ∧ a < b)) := by
  constructor
  · intro h
    rcases Int.lt_trichotomy x y with hxy | hxy | hxy
    · exact .inl hxy
    · subst hxy; exact .inr ⟨rfl, by omega⟩
    · have h1 := Int.mul_le_mul_of_nonneg_right (show y + 1 ≤ x by omega) (show 0 ≤ P by omega)
      rw [Int.add_mul] at h1
      omega
  · intro h
    rcases h with hxy | ⟨rfl, hab⟩
    · have h1 := Int.mul_le_mul_of_nonneg_right (show x + 1 ≤ y by omega) (show 0 ≤ P by omega)
      rw [Int.add_mul] at h1
      omega
    · omega

theorem mod_top (m P : Int) (hP : 0 < P) : m % (P * 256) = m / P % 256 * P + m % P := by
  have h1 := Int.emod_nonneg m (show P ≠ 0 by omega)
  have h2 := Int.emod_lt_of_pos m hP
  have h3 := Int.mul_ediv_add_emod m P
  have h4 := Int.mul_ediv_add_emod (m / P) 256
  have h5 := Int.emod_nonneg (m / P) (show (256 : Int) ≠ 0 by decide)
  have h6 := Int.emod_lt_of_pos (m / P) (show (0 : Int) < 256 by decide)
  generalize m / P % 256 = x at *
  generalize m / P / 256 = q at *
  generalize m % P = a at *
  generalize m / P = d at *
  have e : m = (x * P + a) + P * 256 * q := by grind
  have hb : x * P ≤ 255 * P := Int.mul_le_mul_of_nonneg_right (by omega) (by omega)
  have hb0 : 0 ≤ x * P := Int.mul_nonneg h5 (by omega)
  rw [e, Int.add_mul_emod_self_left, Int.emod_eq_of_lt (by omega) (by omega)]

theorem lessB_low (m n : Int) : ∀ k, lessB (low k m) (low k n) = decide (m % 256 ^ k < n % 256 ^ k)
  | 0 => by simp [low, lessB]
  | k + 1 => by
    have ih := lessB_low m n k
    have hp : (0 : Int) < 256 ^ k := Int.pow_pos (by decide)
    rw [Int.pow_succ, mod_top m _ hp, mod_top n _ hp]
    have hl := lex_num (m / 256 ^ k % 256) (n / 256 ^ k % 256) (m % 256 ^ k) (n % 256 ^ k) (256 ^ k) (Int.emod_nonneg _ (by omega)) (Int.emod_lt_of_pos _ hp) (Int.emod_nonneg _ (by omega)) (Int.emod_lt_of_pos _ hp)
    simp only [low, lessB, ih]
    rw [Bool.eq_iff_iff]
    simp only [Bool.or_eq_true, Bool.and_eq_true, beq_iff_eq, decide_eq_true_eq]
    exact hl.symm

theorem lessB_u64 (m n : Int) (m1 : 0 ≤ m) (m2 : m < 18446744073709551616) (n1 : 0 ≤ n) (n2 : n < 18446744073709551616) : lessB (low 8 m) (low 8 n) = decide (m < n) := by
  rw [lessB_low]
  have e1 : m % 256 ^ 8 = m := by omega
  have e2 : n % 256 ^ 8 = n := by omega
  rw [e1, e2]

theorem lessB_front (ps us vs : List Int) : lessB (ps ++ us) (ps ++ vs) = lessB us vs := by
  induction ps with
  | nil => rfl
  | cons p ps ih => simp [lessB, ih]

theorem lessB_next (xs ys : List Int) (h : tip xs ≠ 0) : lessB (xs ++ ys) (nextL xs) = true := by
  have h1 := tip_le xs
  have hp : tip xs - 1 < xs.length := by omega
  have e1 : xs = xs.take (tip xs - 1) ++ xs.getD (tip xs - 1) 0 :: xs.drop (tip xs - 1 + 1) := by
    have : xs.getD (tip xs - 1) 0 = xs[tip xs - 1] := by simp [List.getD, hp]
    rw [this, ← List.drop_eq_getElem_cons hp, List.take_append_drop]
  have e2 : nextL xs = xs.take (tip xs - 1) ++ [xs.getD (tip xs - 1) 0 + 1] := by simp [nextL, h]
  generalize xs.getD (tip xs - 1) 0 = x at *
  generalize tip xs - 1 = p at *
  rw [e2]
  have e3 : xs ++ ys = xs.take p ++ (x :: (xs.drop (p + 1) ++ ys)) := by
    conv => lhs; rw [e1]
    simp
  rw [e3, lessB_front]
  simp [lessB]
  omega

theorem lessB_next0 (xs : List Int) (h : tip xs ≠ 0) : lessB xs (nextL xs) = true := by simpa using lessB_next xs [] h

theorem lessB_back (xs ys : List Int) : lessB (xs ++ ys) xs = false := by
  have := lessB_front xs ys []
  rw [List.append_nil] at this
  rw [this]
  cases ys <;> rfl

theorem shared_front (xs ys : List Int) : shared xs (xs ++ ys) = xs.length :=
  shared_eq xs (xs ++ ys) xs.length (by omega) (by simp) (fun j hj => by simp [List.getD, hj, List.getElem?_append_left hj]) (.inl rfl)

end Go.Proofs.Ytaojhaicbjnhiaa
