/- Plain texts, no Go: the value of a row of decimal digits; what rat.whole reads. -/
import Derived.Lib.ItoaNum
import Derived.Lib.Strings
namespace Go.Proofs.YtcloepkaieifpaaDoor

def decStep (o : Option Nat) (c : UInt8) : Option Nat := o.bind fun a => if 48 ≤ c.toNat ∧ c.toNat ≤ 57 then some (a * 10 + (c.toNat - 48)) else none
/-- The value of a row of decimal digits; none, if there is another byte. -/
def decV (l : List UInt8) : Option Nat := l.foldl decStep (some 0)

theorem decV_snoc (l : List UInt8) (c : UInt8) : decV (l ++ [c]) = decStep (decV l) c := by unfold decV; simp
theorem foldl_none (l : List UInt8) : l.foldl decStep none = none := by
  induction l with
  | nil => rfl
  | cons c l ih => exact ih
theorem decV_append_none (a b : List UInt8) (h : decV a = none) : decV (a ++ b) = none := by
  unfold decV at *; rw [List.foldl_append, h, foldl_none]
theorem decStep_lt {o : Option Nat} {c : UInt8} {a : Nat} (h : decStep o c = some a) : ∃ b, o = some b ∧ 48 ≤ c.toNat ∧ c.toNat ≤ 57 ∧ a = b * 10 + (c.toNat - 48) := by
  unfold decStep at h
  cases o with
  | none => simp at h
  | some b =>
    by_cases hc : 48 ≤ c.toNat ∧ c.toNat ≤ 57
    · simp [hc] at h; exact ⟨b, rfl, hc.1, hc.2, h.symm⟩
    · simp [hc] at h
theorem decV_lt : ∀ (k : Nat) (l : List UInt8), l.length = k → ∀ a, decV l = some a → a < 10 ^ k
  | 0, l, h, a, hv => by
    have : l = [] := List.length_eq_zero_iff.1 h
    subst this
    simp [decV] at hv; omega
  | k + 1, l, h, a, hv => by
    obtain ⟨l', c, rfl⟩ : ∃ l' c, l = l' ++ [c] := by
      have hne : l ≠ [] := by intro e; subst e; simp at h
      exact ⟨l.dropLast, l.getLast hne, (List.dropLast_concat_getLast hne).symm⟩
    rw [decV_snoc] at hv
    obtain ⟨b, hb, c1, c2, rfl⟩ := decStep_lt hv
    have := decV_lt k l' (by simpa using h) b hb
    rw [Nat.pow_succ]; omega
theorem decV_le (l : List UInt8) (k : Nat) (h : l.length ≤ k) (a : Nat) (hv : decV l = some a) : a < 10 ^ k :=
  Nat.lt_of_lt_of_le (decV_lt _ l rfl a hv) (Nat.pow_le_pow_right (by omega) h)

/-- The digits of u are read as u. -/
theorem decV_dec (u : Nat) : decV (Lib.decDigits u) = some u := by
  induction u using Nat.strongRecOn with
  | ind u ih =>
    rw [Lib.decDigits]
    by_cases h : u < 10
    · rw [dif_pos h]
      simp [decV, decStep]; omega
    · rw [dif_neg h, decV_snoc, ih (u / 10) (by omega)]
      simp [decStep]; omega

/-- The rest behind a sign. -/
def unsign (l : List UInt8) : List UInt8 := if l.head? = some 45 then l.tail else l
/-- What rat.whole reads (at most m digits); none: it panics. -/
def wholeV (m : Nat) (l : List UInt8) : Option Int :=
  if (unsign l).length = 0 ∨ m < (unsign l).length then none else (decV (unsign l)).map fun a => if (unsign l).length < l.length then -(a : Int) else (a : Int)

theorem trim_is (l : List UInt8) : Lib.trimPrefix l [45] = unsign l := by
  unfold Lib.trimPrefix Lib.hasPrefix unsign
  cases l with
  | nil => rfl
  | cons c l =>
    by_cases h : c = 45
    · subst h; simp
    · have h' : (45 : UInt8) ≠ c := fun e => h e.symm
      simp [h, h']

theorem dec_digit (u : Nat) : ∀ c ∈ Lib.decDigits u, 48 ≤ c.toNat ∧ c.toNat ≤ 57 := by
  induction u using Nat.strongRecOn with
  | ind u ih =>
    rw [Lib.decDigits]
    by_cases h : u < 10
    · rw [dif_pos h]; intro c hc
      simp at hc; subst hc; simp; omega
    · rw [dif_neg h]; intro c hc
      simp at hc
      rcases hc with hc | hc
      · exact ih _ (by omega) c hc
      · subst hc; simp; omega
theorem dec_ne (u : Nat) : Lib.decDigits u ≠ [] := by
  rw [Lib.decDigits]; split <;> simp

theorem unsign_dec (u : Nat) : unsign (Lib.decDigits u) = Lib.decDigits u := by
  unfold unsign
  rw [if_neg]
  intro h
  have := dec_digit u 45 (List.mem_of_mem_head? (by rw [h]; rfl))
  simp at this

theorem unsign_itoa (n : Int) : unsign (Lib.itoa n) = Lib.decDigits n.natAbs := by
  unfold Lib.itoa
  by_cases h : n < 0
  · rw [if_pos h]; rfl
  · rw [if_neg h, unsign_dec]; congr 1; omega
theorem itoa_longer (n : Int) : ((unsign (Lib.itoa n)).length < (Lib.itoa n).length) ↔ n < 0 := by
  rw [unsign_itoa]
  unfold Lib.itoa
  by_cases h : n < 0
  · rw [if_pos h]; simp [h]
  · rw [if_neg h]
    have : n.natAbs = n.toNat := by omega
    rw [this]; simp; omega

/-- What is written of a number that has at most m digits is read as it. -/
theorem wholeV_itoa (m : Nat) (n : Int) (h : (Lib.decDigits n.natAbs).length ≤ m) : wholeV m (Lib.itoa n) = some n := by
  unfold wholeV
  have hne : (Lib.decDigits n.natAbs).length ≠ 0 := fun e => dec_ne _ (List.length_eq_zero_iff.1 e)
  rw [unsign_itoa, if_neg (by omega), decV_dec]
  have := itoa_longer n
  rw [unsign_itoa] at this
  refine congrArg some (show (if (Lib.decDigits n.natAbs).length < (Lib.itoa n).length then -(n.natAbs : Int) else (n.natAbs : Int)) = n from ?_)
  by_cases hn : n < 0
  · rw [if_pos (this.2 hn)]; omega
  · rw [if_neg (fun e => hn (this.1 e))]; omega

theorem wholeV_bd (m : Nat) (l : List UInt8) (n : Int) (h : wholeV m l = some n) : -(10 ^ m : Nat) < n ∧ n < (10 ^ m : Nat) := by
  unfold wholeV at h
  by_cases hc : (unsign l).length = 0 ∨ m < (unsign l).length
  · rw [if_pos hc] at h; simp at h
  · rw [if_neg hc] at h
    cases hv : decV (unsign l) with
    | none => rw [hv] at h; simp at h
    | some a =>
      rw [hv] at h
      have := decV_le (unsign l) m (by omega) a hv
      simp at h
      split at h <;> (subst h; omega)
end Go.Proofs.YtcloepkaieifpaaDoor
