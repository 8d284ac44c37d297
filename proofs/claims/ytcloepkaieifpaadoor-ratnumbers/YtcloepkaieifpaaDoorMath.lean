/- Plain numbers, no Go: the greatest common divisor by remainders, and what rat.New answers. -/
namespace Go.Proofs.YtcloepkaieifpaaDoor

/-- The greatest common divisor of two integers' sizes, as an integer. -/
def gcdI (a b : Int) : Int := (Nat.gcd a.natAbs b.natAbs : Nat)

theorem gcdI_step (a b : Int) (ha : 0 ≤ a) (hb : 0 ≤ b) : gcdI b (a % b) = gcdI a b := by
  unfold gcdI
  obtain ⟨x, rfl⟩ := Int.eq_ofNat_of_zero_le ha
  obtain ⟨y, rfl⟩ := Int.eq_ofNat_of_zero_le hb
  have e : ((x : Int) % (y : Int)).natAbs = x % y := by omega
  rw [e]
  have := Nat.gcd_rec y x
  simp only [Int.natAbs_natCast]
  rw [Nat.gcd_comm y (x % y), ← this, Nat.gcd_comm]

theorem gcdI_zero (a : Int) (ha : 0 ≤ a) : gcdI a 0 = a := by
  unfold gcdI
  simp; omega

theorem gcdI_nonneg (a b : Int) : 0 ≤ gcdI a b := by unfold gcdI; omega

theorem gcdI_abs (a b : Int) : gcdI (a.natAbs : Int) (b.natAbs : Int) = gcdI a b := by
  unfold gcdI; simp

/-- The size of an integer, as an integer. -/
def absI (n : Int) : Int := (n.natAbs : Nat)
theorem absI_nonneg (n : Int) : 0 ≤ absI n := by unfold absI; omega
theorem absI_pos (n : Int) (h : n ≠ 0) : 1 ≤ absI n := by unfold absI; omega
theorem absI_le (n : Int) (h1 : -9223372036854775808 ≤ n) (h2 : n ≤ 9223372036854775807) : absI n ≤ 9223372036854775808 := by unfold absI; omega
theorem absI_neg (n : Int) (h : n < 0) : absI n = -n := by unfold absI; omega
theorem absI_of_nonneg (n : Int) (h : 0 ≤ n) : absI n = n := by unfold absI; omega
theorem gcdI_absI (a b : Int) : gcdI (absI a) (absI b) = gcdI a b := gcdI_abs a b

/-- Is n / d a right number? -/
def rightB (n d : Int) : Bool := decide (1 ≤ d) && decide (d ≤ 2147483647) && decide (-2147483647 ≤ n) && decide (n ≤ 2147483647) && decide (gcdI n d = 1)

theorem rightB_iff (n d : Int) : rightB n d = true ↔ 1 ≤ d ∧ d ≤ 2147483647 ∧ -2147483647 ≤ n ∧ n ≤ 2147483647 ∧ gcdI n d = 1 := by
  unfold rightB; simp [and_assoc]

/-- rat.New's answer: the top, the bottom, the refusal. -/
def newN (n d : Int) : Int := if d = 0 ∨ 2147483647 < absI n / gcdI n d ∨ 2147483647 < absI d / gcdI n d then 0 else if n < 0 ↔ d < 0 then absI n / gcdI n d else -(absI n / gcdI n d)
def newD (n d : Int) : Int := if d = 0 ∨ 2147483647 < absI n / gcdI n d ∨ 2147483647 < absI d / gcdI n d then 0 else absI d / gcdI n d
def newE (n d : Int) : Int := if d = 0 then 1 else if 2147483647 < absI n / gcdI n d ∨ 2147483647 < absI d / gcdI n d then 23 else 0

theorem gcdI_pos (n d : Int) (h : d ≠ 0) : 1 ≤ gcdI n d := by
  unfold gcdI
  have : 0 < Nat.gcd n.natAbs d.natAbs := Nat.gcd_pos_of_pos_right _ (by omega)
  omega

theorem gcdI_dvd_left (n d : Int) : gcdI n d ∣ n := Int.natAbs_dvd_natAbs.1 (by unfold gcdI; exact Nat.gcd_dvd_left _ _)
theorem gcdI_dvd_right (n d : Int) : gcdI n d ∣ d := Int.natAbs_dvd_natAbs.1 (by unfold gcdI; exact Nat.gcd_dvd_right _ _)

theorem gcdI_le (n d : Int) (h : d ≠ 0) : gcdI n d ≤ absI d := by
  unfold gcdI absI
  have : Nat.gcd n.natAbs d.natAbs ≤ d.natAbs := Nat.gcd_le_right _ (by omega)
  omega

theorem div_le (a g : Int) (ha : 0 ≤ a) (hg : 1 ≤ g) : 0 ≤ a / g ∧ a / g ≤ a := by
  constructor
  · exact Int.ediv_nonneg ha (by omega)
  · exact Int.ediv_le_self g ha

/-- No number from 2 to below k divides both. -/
def Low (a b k : Int) : Prop := ∀ j : Int, 2 ≤ j → j < k → ¬ (j ∣ a ∧ j ∣ b)

theorem Low.start (a b : Int) : Low a b 2 := fun _ h h' => absurd h' (by omega)
theorem Low.step {a b k : Int} (h : Low a b k) (h1 : ¬ (a.tmod k = 0 ∧ b % k = 0)) : Low a b (k + 1) := by
  intro j j1 j2 ⟨d1, d2⟩
  by_cases e : j = k
  · subst e
    exact h1 ⟨Int.dvd_iff_tmod_eq_zero.1 d1, Int.emod_eq_zero_of_dvd d2⟩
  · exact h j j1 (by omega) ⟨d1, d2⟩
theorem Low.div {a b k : Int} (h : Low a b k) (h1 : a.tmod k = 0) (h2 : b % k = 0) : Low (a.tdiv k) (b / k) k := by
  intro j j1 j2 ⟨d1, d2⟩
  refine h j j1 j2 ⟨?_, ?_⟩
  · rw [← Int.tdiv_mul_cancel_of_tmod_eq_zero h1]; exact Int.dvd_trans d1 (Int.dvd_mul_right _ _)
  · rw [← Int.ediv_mul_cancel (Int.dvd_of_emod_eq_zero h2)]; exact Int.dvd_trans d2 (Int.dvd_mul_right _ _)
theorem tdiv_bd (a k : Int) (h1 : -60 ≤ a) (h2 : a ≤ 60) : -60 ≤ a.tdiv k ∧ a.tdiv k ≤ 60 := by
  have h := Int.natAbs_tdiv a k
  have h' : a.natAbs.div k.natAbs ≤ a.natAbs := Nat.div_le_self _ _
  omega
theorem div_bd (b k : Int) (h1 : 1 ≤ b) (h2 : 2 ≤ k) (h3 : b % k = 0) : 1 ≤ b / k ∧ b / k < b := by
  have e : b / k * k = b := Int.ediv_mul_cancel (Int.dvd_of_emod_eq_zero h3)
  have p : 0 ≤ b / k := Int.ediv_nonneg (by omega) (by omega)
  constructor
  · by_cases z : b / k = 0
    · rw [z] at e; omega
    · omega
  · have : b / k * 2 ≤ b / k * k := Int.mul_le_mul_of_nonneg_left h2 p
    by_cases z : b / k = 0
    · rw [z] at e; omega
    · omega
theorem Low.done {a b k : Int} (h : Low a b k) (h1 : b < k) (a1 : -60 ≤ a) (a2 : a ≤ 60) (b1 : 1 ≤ b) (b2 : b ≤ 12) : rightB a b = true := by
  rw [rightB_iff]
  refine ⟨b1, by omega, by omega, by omega, ?_⟩
  have p := gcdI_pos a b (by omega)
  have q := gcdI_le a b (by omega)
  rw [absI_of_nonneg b (by omega)] at q
  by_cases e : gcdI a b = 1
  · exact e
  · refine absurd ⟨?_, ?_⟩ (h (gcdI a b) (by omega) (by omega))
    · exact gcdI_dvd_left a b
    · exact gcdI_dvd_right a b

theorem mul_bd (M K a b : Int) (a1 : -M ≤ a) (a2 : a ≤ M) (b1 : -K ≤ b) (b2 : b ≤ K) : -(M * K) ≤ a * b ∧ a * b ≤ M * K := by
  have hM : 0 ≤ M := by omega
  have hK : 0 ≤ K := by omega
  have h : (a * b).natAbs ≤ M.natAbs * K.natAbs := by
    rw [Int.natAbs_mul]
    exact Nat.mul_le_mul (by omega) (by omega)
  have e : ((M.natAbs * K.natAbs : Nat) : Int) = M * K := by
    rw [Int.natCast_mul, Int.natAbs_of_nonneg hM, Int.natAbs_of_nonneg hK]
  omega

/-- -1, 0, 1: a is below b, the same, above. -/
def cmpI (a b : Int) : Int := if a < b then -1 else if b < a then 1 else 0

theorem cmpI_bd (a b : Int) : -1 ≤ cmpI a b ∧ cmpI a b ≤ 1 := by unfold cmpI; split <;> (try split) <;> omega
theorem cmpI_swap (a b : Int) : cmpI b a = -cmpI a b := by
  unfold cmpI
  by_cases h : a < b
  · have h' : ¬ b < a := by omega
    simp [h, h']
  · by_cases h' : b < a <;> simp [h, h']
theorem cmpI_self (a : Int) : cmpI a a = 0 := by unfold cmpI; simp
theorem cmpI_zero (a b : Int) : cmpI a b = 0 ↔ a = b := by
  unfold cmpI; split
  · constructor <;> intro <;> omega
  · split
    · constructor <;> intro <;> omega
    · constructor <;> intro <;> omega
theorem cmpI_pos (a b : Int) : 0 < cmpI a b ↔ b < a := by
  unfold cmpI; split
  · constructor <;> intro <;> omega
  · split
    · constructor <;> intro <;> omega
    · constructor <;> intro <;> omega

/-- Of right numbers: the cross products are the same just if the parts are. -/
theorem right_inj {an ad bn bd : Int} (ha : rightB an ad = true) (hb : rightB bn bd = true) (h : an * bd = bn * ad) : an = bn ∧ ad = bd := by
  obtain ⟨a1, -, -, -, ga⟩ := (rightB_iff an ad).1 ha
  obtain ⟨b1, -, -, -, gb⟩ := (rightB_iff bn bd).1 hb
  have ca : Nat.Coprime an.natAbs ad.natAbs := by unfold gcdI at ga; unfold Nat.Coprime; omega
  have cb : Nat.Coprime bn.natAbs bd.natAbs := by unfold gcdI at gb; unfold Nat.Coprime; omega
  have hN : an.natAbs * bd.natAbs = bn.natAbs * ad.natAbs := by rw [← Int.natAbs_mul, ← Int.natAbs_mul, h]
  have d1 : ad.natAbs ∣ bd.natAbs := by
    refine ca.symm.dvd_of_dvd_mul_left ?_
    rw [hN]; exact Nat.dvd_mul_left _ _
  have d2 : bd.natAbs ∣ ad.natAbs := by
    refine cb.symm.dvd_of_dvd_mul_left ?_
    rw [← hN]; exact Nat.dvd_mul_left _ _
  have e := Nat.dvd_antisymm d1 d2
  have ed : ad = bd := by omega
  refine ⟨?_, ed⟩
  subst ed
  exact Int.eq_of_mul_eq_mul_right (by omega) h

theorem le_trans3 {an ad bn bd cn cd : Int} (a1 : 1 ≤ ad) (b1 : 1 ≤ bd) (c1 : 1 ≤ cd) (h1 : an * bd ≤ bn * ad) (h2 : bn * cd ≤ cn * bd) : an * cd ≤ cn * ad := by
  have k1 : an * bd * cd ≤ bn * ad * cd := Int.mul_le_mul_of_nonneg_right h1 (by omega)
  have k2 : bn * cd * ad ≤ cn * bd * ad := Int.mul_le_mul_of_nonneg_right h2 (by omega)
  have e1 : an * bd * cd = an * cd * bd := by rw [Int.mul_assoc, Int.mul_comm bd cd, ← Int.mul_assoc]
  have e2 : bn * ad * cd = bn * cd * ad := by rw [Int.mul_assoc, Int.mul_comm ad cd, ← Int.mul_assoc]
  have e3 : cn * bd * ad = cn * ad * bd := by rw [Int.mul_assoc, Int.mul_comm bd ad, ← Int.mul_assoc]
  have : an * cd * bd ≤ cn * ad * bd := by rw [← e1, ← e3]; omega
  exact Int.le_of_mul_le_mul_right this (by omega)

end Go.Proofs.YtcloepkaieifpaaDoor
