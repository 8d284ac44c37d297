/- Plain numbers, no Go: what rat.New answers is right, and the same number; sums and products by the laws of numbers. -/
import Derived.Test.YtcloepkaieifpaaDoorMath
namespace Go.Proofs.YtcloepkaieifpaaDoor

theorem mul_ne {a b : Int} (ha : a ≠ 0) (hb : b ≠ 0) : a * b ≠ 0 := Int.mul_ne_zero ha hb

/-- Small parts are never refused. -/
theorem newE_small (n d : Int) (hd : d ≠ 0) (h1 : absI n ≤ 2147483647) (h2 : absI d ≤ 2147483647) : newE n d = 0 := by
  have hg := gcdI_pos n d hd
  obtain ⟨t1, t2⟩ := div_le (absI n) (gcdI n d) (absI_nonneg n) hg
  obtain ⟨t3, t4⟩ := div_le (absI d) (gcdI n d) (absI_nonneg d) hg
  unfold newE
  rw [if_neg hd, if_neg (by omega)]

theorem newE_zero (n d : Int) (h : newE n d = 0) : d ≠ 0 ∧ absI n / gcdI n d ≤ 2147483647 ∧ absI d / gcdI n d ≤ 2147483647 := by
  unfold newE at h
  by_cases hd : d = 0
  · rw [if_pos hd] at h; omega
  · rw [if_neg hd] at h
    by_cases ho : 2147483647 < absI n / gcdI n d ∨ 2147483647 < absI d / gcdI n d
    · rw [if_pos ho] at h; omega
    · omega

theorem new_is (n d : Int) (h : newE n d = 0) : newN n d = (if n < 0 ↔ d < 0 then absI n / gcdI n d else -(absI n / gcdI n d)) ∧ newD n d = absI d / gcdI n d := by
  obtain ⟨h0, h1, h2⟩ := newE_zero n d h
  have ho : ¬ (d = 0 ∨ 2147483647 < absI n / gcdI n d ∨ 2147483647 < absI d / gcdI n d) := by omega
  unfold newN newD
  exact ⟨if_neg ho, if_neg ho⟩

theorem absI_natAbs (n : Int) : (absI n).natAbs = n.natAbs := by unfold absI; simp

/-- The top and the bottom, parted by their greatest common divisor: nothing divides both any more. -/
theorem gcd_parts (n d : Int) (hd : d ≠ 0) : gcdI (absI n / gcdI n d) (absI d / gcdI n d) = 1 := by
  have hp : 0 < Nat.gcd n.natAbs d.natAbs := Nat.gcd_pos_of_pos_right _ (by omega)
  have e1 : absI n / gcdI n d = ((n.natAbs / Nat.gcd n.natAbs d.natAbs : Nat) : Int) := by unfold absI gcdI; exact (Int.natCast_ediv _ _).symm
  have e2 : absI d / gcdI n d = ((d.natAbs / Nat.gcd n.natAbs d.natAbs : Nat) : Int) := by unfold absI gcdI; exact (Int.natCast_ediv _ _).symm
  rw [e1, e2]
  unfold gcdI
  simp only [Int.natAbs_natCast]
  have := Nat.gcd_div_gcd_div_gcd_of_pos_right (n := n.natAbs) (m := d.natAbs) (by omega)
  omega

theorem gcdI_neg (a b : Int) : gcdI (-a) b = gcdI a b := by unfold gcdI; simp

theorem parts_mul (n d : Int) : absI n / gcdI n d * gcdI n d = absI n ∧ absI d / gcdI n d * gcdI n d = absI d := by
  constructor
  · exact Int.ediv_mul_cancel (Int.natAbs_dvd_natAbs.1 (by rw [absI_natAbs]; exact Int.natAbs_dvd_natAbs.2 (gcdI_dvd_left n d)))
  · exact Int.ediv_mul_cancel (Int.natAbs_dvd_natAbs.1 (by rw [absI_natAbs]; exact Int.natAbs_dvd_natAbs.2 (gcdI_dvd_right n d)))

/-- What New answers is right. -/
theorem new_right (n d : Int) (h : newE n d = 0) : rightB (newN n d) (newD n d) = true := by
  obtain ⟨h0, h1, h2⟩ := newE_zero n d h
  obtain ⟨e1, e2⟩ := new_is n d h
  have hg := gcdI_pos n d h0
  have hk := gcd_parts n d h0
  have p1 := (div_le (absI n) (gcdI n d) (absI_nonneg n) hg).1
  have p2 := (div_le (absI d) (gcdI n d) (absI_nonneg d) hg).1
  have hm := (parts_mul n d).2
  have ha := absI_pos d h0
  have hp : 1 ≤ absI d / gcdI n d := by
    by_cases z : absI d / gcdI n d = 0
    · rw [z] at hm; omega
    · omega
  rw [rightB_iff, e1, e2]
  by_cases hs : n < 0 ↔ d < 0
  · rw [if_pos hs]; exact ⟨hp, h2, by omega, h1, hk⟩
  · rw [if_neg hs]; exact ⟨hp, h2, by omega, by omega, by rw [gcdI_neg]; exact hk⟩

theorem absI_cases (n : Int) : (n < 0 ∧ absI n = -n) ∨ (0 ≤ n ∧ absI n = n) := by unfold absI; omega

/-- What New answers is the same number. -/
theorem new_eq (n d : Int) (h : newE n d = 0) : newN n d * d = n * newD n d := by
  obtain ⟨h0, -, -⟩ := newE_zero n d h
  obtain ⟨e1, e2⟩ := new_is n d h
  obtain ⟨m1, m2⟩ := parts_mul n d
  have hg := gcdI_pos n d h0
  rw [e1, e2]
  generalize absI n / gcdI n d = t at *
  generalize absI d / gcdI n d = b at *
  generalize gcdI n d = g at *
  refine Int.eq_of_mul_eq_mul_right (show g ≠ 0 by omega) ?_
  rcases absI_cases n with ⟨n1, n2⟩ | ⟨n1, n2⟩ <;> rcases absI_cases d with ⟨d1, d2⟩ | ⟨d1, d2⟩ <;> rw [n2] at m1 <;> rw [d2] at m2
  · rw [if_pos (by omega)]; grind
  · rw [if_neg (by omega)]; grind
  · rw [if_neg (by omega)]; grind
  · rw [if_pos (by omega)]; grind

/-- The parts of what New answers are no greater than its arguments'. -/
theorem new_bd (n d : Int) (h : newE n d = 0) : absI (newN n d) ≤ absI n ∧ newD n d ≤ absI d := by
  obtain ⟨h0, -, -⟩ := newE_zero n d h
  obtain ⟨e1, e2⟩ := new_is n d h
  have hg := gcdI_pos n d h0
  obtain ⟨t1, t2⟩ := div_le (absI n) (gcdI n d) (absI_nonneg n) hg
  obtain ⟨t3, t4⟩ := div_le (absI d) (gcdI n d) (absI_nonneg d) hg
  rw [e1, e2]
  refine ⟨?_, t4⟩
  split
  · rw [absI_of_nonneg _ t1]; exact t2
  · unfold absI at *; omega

/-- (a + b) - b = a, part by part. -/
theorem back_plain {an ad bn bd xn xd sn sd : Int} (hb : bd ≠ 0) (hx : xd ≠ 0)
    (e1 : xn * (ad * bd) = (an * bd + bn * ad) * xd) (e2 : sn * (xd * bd) = (xn * bd - bn * xd) * sd) : sn * ad = an * sd := by
  refine Int.eq_of_mul_eq_mul_right (mul_ne hx hb) ?_
  grind

/-- a * (b + c) = a * b + a * c, part by part. -/
theorem spread_plain {an ad bn bd cn cd ln ld pn pd mn md qn qd tn td : Int} (ha : ad ≠ 0) (hb : bd ≠ 0) (hc : cd ≠ 0) (hl : ld ≠ 0) (hm : md ≠ 0) (hq : qd ≠ 0)
    (el : ln * (bd * cd) = (bn * cd + cn * bd) * ld) (ep : pn * (ad * ld) = an * ln * pd)
    (em : mn * (ad * bd) = an * bn * md) (eq : qn * (ad * cd) = an * cn * qd)
    (et : tn * (md * qd) = (mn * qd + qn * md) * td) : pn * td = tn * pd := by
  have p1 : pn * (ad * (bd * cd)) = an * (bn * cd + cn * bd) * pd := by
    refine Int.eq_of_mul_eq_mul_right hl ?_
    grind
  have t1 : tn * (ad * (bd * cd)) = an * (bn * cd + cn * bd) * td := by
    refine Int.eq_of_mul_eq_mul_right (mul_ne hm hq) ?_
    grind
  refine Int.eq_of_mul_eq_mul_right (mul_ne ha (mul_ne hb hc)) ?_
  grind

/-- a + b stands to a as b stands to 0. -/
theorem side_plain {an ad bn bd xn xd : Int} (ha : 1 ≤ ad) (hb : 1 ≤ bd) (hx : 1 ≤ xd)
    (e1 : xn * (ad * bd) = (an * bd + bn * ad) * xd) : cmpI (xn * ad) (an * xd) = cmpI (bn * 1) (0 * bd) := by
  have k : (xn * ad - an * xd) * bd = bn * (ad * xd) := by grind
  have pos : 0 < ad * xd := Int.mul_pos (by omega) (by omega)
  have hz : (0 : Int) * bd = 0 := Int.zero_mul _
  have ho : bn * 1 = bn := Int.mul_one _
  rw [hz, ho]
  generalize hy : xn * ad - an * xd = y at k
  have hlt : xn * ad < an * xd ↔ y < 0 := by omega
  have hgt : an * xd < xn * ad ↔ 0 < y := by omega
  have s1 : y < 0 ↔ bn < 0 := by
    constructor
    · intro h
      have : y * bd < 0 := Int.mul_neg_of_neg_of_pos h (by omega)
      rw [k] at this
      exact Int.lt_of_not_ge fun h' => by have := Int.mul_nonneg h' (Int.le_of_lt pos); omega
    · intro h
      have : bn * (ad * xd) < 0 := Int.mul_neg_of_neg_of_pos h pos
      rw [← k] at this
      exact Int.lt_of_not_ge fun h' => by have := Int.mul_nonneg h' (show 0 ≤ bd by omega); omega
  have s2 : 0 < y ↔ 0 < bn := by
    constructor
    · intro h
      have : 0 < y * bd := Int.mul_pos h (by omega)
      rw [k] at this
      exact Int.lt_of_not_ge fun h' => by have := Int.mul_nonneg (show 0 ≤ -bn by omega) (Int.le_of_lt pos); rw [Int.neg_mul] at this; omega
    · intro h
      have : 0 < bn * (ad * xd) := Int.mul_pos h pos
      rw [← k] at this
      exact Int.lt_of_not_ge fun h' => by have := Int.mul_nonneg (show 0 ≤ -y by omega) (show 0 ≤ bd by omega); rw [Int.neg_mul] at this; omega
  unfold cmpI
  simp only [hlt, hgt, s1, s2]

end Go.Proofs.YtcloepkaieifpaaDoor
