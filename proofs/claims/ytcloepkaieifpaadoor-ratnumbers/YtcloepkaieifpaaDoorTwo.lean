/- The walks of the statements' own helpers: news, two and parses are true, whatever they are given. -/
import Derived.Test.YtcloepkaieifpaaDoorRefD
import Derived.Test.YtcloepkaieifpaaDoorRefH
import Derived.Lib.QuietBelow
namespace Go.Proofs.YtcloepkaieifpaaDoor
open Go.RowKit Go.Sort

theorem cell_on {w : World} {a : Addr} {v : Value} (o : Obj) (h : w.cell? a = some v) : (w.alloc o).cell? a = some v := by
  rw [World.cell?_alloc_lt _ _ _ (World.block_lt_of_cell? _ _ h)]; exact h

/-- What add answers: top, bottom, refusal. -/
def addT (an ad bn bd : Int) : Int × Int × Int := if (rightB an ad && rightB bn bd) = true then (newN (an * bd + bn * ad) (ad * bd), newD (an * bd + bn * ad) (ad * bd), newE (an * bd + bn * ad) (ad * bd)) else (0, 0, 1)
theorem add_all (an ad bn bd : Int) (an1 : -9223372036854775808 ≤ an) (an2 : an ≤ 9223372036854775807) (ad1 : -9223372036854775808 ≤ ad) (ad2 : ad ≤ 9223372036854775807) (bn1 : -9223372036854775808 ≤ bn) (bn2 : bn ≤ 9223372036854775807) (bd1 : -9223372036854775808 ≤ bd) (bd2 : bd ≤ 9223372036854775807) (w : World) :
    Calls Tryd.prog 21 #[.agg #[.int .i64 an, .int .i64 ad], .agg #[.int .i64 bn, .int .i64 bd]] w fun e w' => e = .returned (.tuple #[.agg #[.int .i64 (addT an ad bn bd).1, .int .i64 (addT an ad bn bd).2.1], .int .i64 (addT an ad bn bd).2.2]) ∧ Below w.heap.size w w' := by
  unfold addT
  by_cases h : (rightB an ad && rightB bn bd) = true
  · have h' := h
    rw [Bool.and_eq_true] at h'
    rw [if_pos h]
    exact add_right an ad bn bd h'.1 h'.2 w
  · rw [if_neg h]
    exact add_wrong an ad bn bd an1 an2 ad1 ad2 bn1 bn2 bd1 bd2 (by simpa using h) w
theorem refadd_all (an ad bn bd : Int) (an1 : -9223372036854775808 ≤ an) (an2 : an ≤ 9223372036854775807) (ad1 : -9223372036854775808 ≤ ad) (ad2 : ad ≤ 9223372036854775807) (bn1 : -9223372036854775808 ≤ bn) (bn2 : bn ≤ 9223372036854775807) (bd1 : -9223372036854775808 ≤ bd) (bd2 : bd ≤ 9223372036854775807) (w : World) :
    Calls Tryd.prog 25 #[.int .u8 43, .agg #[.int .i64 an, .int .i64 ad], .agg #[.int .i64 bn, .int .i64 bd]] w fun e w' => e = .returned (.tuple #[.agg #[.int .i64 (addT an ad bn bd).1, .int .i64 (addT an ad bn bd).2.1], .int .i64 (addT an ad bn bd).2.2]) ∧ Below w.heap.size w w' := by
  unfold addT
  by_cases h : (rightB an ad && rightB bn bd) = true
  · have h' := h
    rw [Bool.and_eq_true] at h'
    rw [if_pos h]
    exact refadd_right an ad bn bd h'.1 h'.2 w
  · rw [if_neg h]
    exact refadd_wrong an ad bn bd an1 an2 ad1 ad2 bn1 bn2 bd1 bd2 (by simpa using h) w
/-- What sub answers: top, bottom, refusal. -/
def subT (an ad bn bd : Int) : Int × Int × Int := if (rightB an ad && rightB bn bd) = true then (newN (an * bd - bn * ad) (ad * bd), newD (an * bd - bn * ad) (ad * bd), newE (an * bd - bn * ad) (ad * bd)) else (0, 0, 1)
theorem sub_all (an ad bn bd : Int) (an1 : -9223372036854775808 ≤ an) (an2 : an ≤ 9223372036854775807) (ad1 : -9223372036854775808 ≤ ad) (ad2 : ad ≤ 9223372036854775807) (bn1 : -9223372036854775808 ≤ bn) (bn2 : bn ≤ 9223372036854775807) (bd1 : -9223372036854775808 ≤ bd) (bd2 : bd ≤ 9223372036854775807) (w : World) :
    Calls Tryd.prog 22 #[.agg #[.int .i64 an, .int .i64 ad], .agg #[.int .i64 bn, .int .i64 bd]] w fun e w' => e = .returned (.tuple #[.agg #[.int .i64 (subT an ad bn bd).1, .int .i64 (subT an ad bn bd).2.1], .int .i64 (subT an ad bn bd).2.2]) ∧ Below w.heap.size w w' := by
  unfold subT
  by_cases h : (rightB an ad && rightB bn bd) = true
  · have h' := h
    rw [Bool.and_eq_true] at h'
    rw [if_pos h]
    exact sub_right an ad bn bd h'.1 h'.2 w
  · rw [if_neg h]
    exact sub_wrong an ad bn bd an1 an2 ad1 ad2 bn1 bn2 bd1 bd2 (by simpa using h) w
theorem refsub_all (an ad bn bd : Int) (an1 : -9223372036854775808 ≤ an) (an2 : an ≤ 9223372036854775807) (ad1 : -9223372036854775808 ≤ ad) (ad2 : ad ≤ 9223372036854775807) (bn1 : -9223372036854775808 ≤ bn) (bn2 : bn ≤ 9223372036854775807) (bd1 : -9223372036854775808 ≤ bd) (bd2 : bd ≤ 9223372036854775807) (w : World) :
    Calls Tryd.prog 25 #[.int .u8 45, .agg #[.int .i64 an, .int .i64 ad], .agg #[.int .i64 bn, .int .i64 bd]] w fun e w' => e = .returned (.tuple #[.agg #[.int .i64 (subT an ad bn bd).1, .int .i64 (subT an ad bn bd).2.1], .int .i64 (subT an ad bn bd).2.2]) ∧ Below w.heap.size w w' := by
  unfold subT
  by_cases h : (rightB an ad && rightB bn bd) = true
  · have h' := h
    rw [Bool.and_eq_true] at h'
    rw [if_pos h]
    exact refsub_right an ad bn bd h'.1 h'.2 w
  · rw [if_neg h]
    exact refsub_wrong an ad bn bd an1 an2 ad1 ad2 bn1 bn2 bd1 bd2 (by simpa using h) w
/-- What mul answers: top, bottom, refusal. -/
def mulT (an ad bn bd : Int) : Int × Int × Int := if (rightB an ad && rightB bn bd) = true then (newN (an * bn) (ad * bd), newD (an * bn) (ad * bd), newE (an * bn) (ad * bd)) else (0, 0, 1)
theorem mul_all (an ad bn bd : Int) (an1 : -9223372036854775808 ≤ an) (an2 : an ≤ 9223372036854775807) (ad1 : -9223372036854775808 ≤ ad) (ad2 : ad ≤ 9223372036854775807) (bn1 : -9223372036854775808 ≤ bn) (bn2 : bn ≤ 9223372036854775807) (bd1 : -9223372036854775808 ≤ bd) (bd2 : bd ≤ 9223372036854775807) (w : World) :
    Calls Tryd.prog 23 #[.agg #[.int .i64 an, .int .i64 ad], .agg #[.int .i64 bn, .int .i64 bd]] w fun e w' => e = .returned (.tuple #[.agg #[.int .i64 (mulT an ad bn bd).1, .int .i64 (mulT an ad bn bd).2.1], .int .i64 (mulT an ad bn bd).2.2]) ∧ Below w.heap.size w w' := by
  unfold mulT
  by_cases h : (rightB an ad && rightB bn bd) = true
  · have h' := h
    rw [Bool.and_eq_true] at h'
    rw [if_pos h]
    exact mul_right an ad bn bd h'.1 h'.2 w
  · rw [if_neg h]
    exact mul_wrong an ad bn bd an1 an2 ad1 ad2 bn1 bn2 bd1 bd2 (by simpa using h) w
theorem refmul_all (an ad bn bd : Int) (an1 : -9223372036854775808 ≤ an) (an2 : an ≤ 9223372036854775807) (ad1 : -9223372036854775808 ≤ ad) (ad2 : ad ≤ 9223372036854775807) (bn1 : -9223372036854775808 ≤ bn) (bn2 : bn ≤ 9223372036854775807) (bd1 : -9223372036854775808 ≤ bd) (bd2 : bd ≤ 9223372036854775807) (w : World) :
    Calls Tryd.prog 25 #[.int .u8 42, .agg #[.int .i64 an, .int .i64 ad], .agg #[.int .i64 bn, .int .i64 bd]] w fun e w' => e = .returned (.tuple #[.agg #[.int .i64 (mulT an ad bn bd).1, .int .i64 (mulT an ad bn bd).2.1], .int .i64 (mulT an ad bn bd).2.2]) ∧ Below w.heap.size w w' := by
  unfold mulT
  by_cases h : (rightB an ad && rightB bn bd) = true
  · have h' := h
    rw [Bool.and_eq_true] at h'
    rw [if_pos h]
    exact refmul_right an ad bn bd h'.1 h'.2 w
  · rw [if_neg h]
    exact refmul_wrong an ad bn bd an1 an2 ad1 ad2 bn1 bn2 bd1 bd2 (by simpa using h) w
/-- What div answers: top, bottom, refusal. -/
def divT (an ad bn bd : Int) : Int × Int × Int := if (rightB an ad && rightB bn bd) = true ∧ bn ≠ 0 then (newN (an * bd) (ad * bn), newD (an * bd) (ad * bn), newE (an * bd) (ad * bn)) else (0, 0, 1)
theorem div_all (an ad bn bd : Int) (an1 : -9223372036854775808 ≤ an) (an2 : an ≤ 9223372036854775807) (ad1 : -9223372036854775808 ≤ ad) (ad2 : ad ≤ 9223372036854775807) (bn1 : -9223372036854775808 ≤ bn) (bn2 : bn ≤ 9223372036854775807) (bd1 : -9223372036854775808 ≤ bd) (bd2 : bd ≤ 9223372036854775807) (w : World) :
    Calls Tryd.prog 24 #[.agg #[.int .i64 an, .int .i64 ad], .agg #[.int .i64 bn, .int .i64 bd]] w fun e w' => e = .returned (.tuple #[.agg #[.int .i64 (divT an ad bn bd).1, .int .i64 (divT an ad bn bd).2.1], .int .i64 (divT an ad bn bd).2.2]) ∧ Below w.heap.size w w' := by
  unfold divT
  by_cases h : (rightB an ad && rightB bn bd) = true
  · have h' := h
    rw [Bool.and_eq_true] at h'
    by_cases h0 : bn = 0
    · subst h0
      rw [if_neg (fun hc => hc.2 rfl)]
      exact div_zero an ad bd h'.1 h'.2 w
    · rw [if_pos ⟨h, h0⟩]
      exact div_right an ad bn bd h'.1 h'.2 h0 w
  · rw [if_neg (fun hc => h hc.1)]
    exact div_wrong an ad bn bd an1 an2 ad1 ad2 bn1 bn2 bd1 bd2 (by simpa using h) w
theorem refdiv_all (an ad bn bd : Int) (an1 : -9223372036854775808 ≤ an) (an2 : an ≤ 9223372036854775807) (ad1 : -9223372036854775808 ≤ ad) (ad2 : ad ≤ 9223372036854775807) (bn1 : -9223372036854775808 ≤ bn) (bn2 : bn ≤ 9223372036854775807) (bd1 : -9223372036854775808 ≤ bd) (bd2 : bd ≤ 9223372036854775807) (w : World) :
    Calls Tryd.prog 25 #[.int .u8 47, .agg #[.int .i64 an, .int .i64 ad], .agg #[.int .i64 bn, .int .i64 bd]] w fun e w' => e = .returned (.tuple #[.agg #[.int .i64 (divT an ad bn bd).1, .int .i64 (divT an ad bn bd).2.1], .int .i64 (divT an ad bn bd).2.2]) ∧ Below w.heap.size w w' := by
  unfold divT
  by_cases h : (rightB an ad && rightB bn bd) = true
  · have h' := h
    rw [Bool.and_eq_true] at h'
    by_cases h0 : bn = 0
    · subst h0
      rw [if_neg (fun hc => hc.2 rfl)]
      exact refdiv_zero an ad bd h'.1 h'.2 w
    · rw [if_pos ⟨h, h0⟩]
      exact refdiv_right an ad bn bd h'.1 h'.2 h0 w
  · rw [if_neg (fun hc => h hc.1)]
    exact refdiv_wrong an ad bn bd an1 an2 ad1 ad2 bn1 bn2 bd1 bd2 (by simpa using h) w

theorem right_bel (n d : Int) (n1 : -9223372036854775808 ≤ n) (n2 : n ≤ 9223372036854775807) (d1 : -9223372036854775808 ≤ d) (d2 : d ≤ 9223372036854775807) (w : World) :
    Calls Tryd.prog 17 #[.agg #[.int .i64 n, .int .i64 d]] w fun e w' => e = .returned (.bool (rightB n d)) ∧ Below w.heap.size w w' :=
  (right_any n d n1 n2 d1 d2 w).mono fun _ _ ⟨he, m, hw⟩ => ⟨he, hw ▸ below_drewN ((Below.refl _ _).alloc (Nat.le_refl _) _) m⟩

set_option maxHeartbeats 1000000 in
theorem news_any (n d : Int) (n1 : -9223372036854775808 ≤ n) (n2 : n ≤ 9223372036854775807) (d1 : -9223372036854775808 ≤ d) (d2 : d ≤ 9223372036854775807) (w : World) :
    Calls Tryd.prog 6 #[.int .i64 n, .int .i64 d] w fun e w' => e = .returned (.bool true) ∧ Below w.heap.size w w' := by
  go_enter Tryd.func6, Tryd.ntmps6
  go_wp2_with fail
  have hB : Below w.heap.size w w := Below.refl _ _
  with_reducible refine (new_any n d n1 n2 d1 d2 w).mono ?_
  rintro e u1 ⟨rfl, hb1⟩
  replace hB := below_via hB hb1 hB.size
  clear hb1
  go_wp2_with fail
  have hbn : Below u1.heap.size u1 (u1.alloc (Obj.cells #[Value.int IntKind.i64 (newN n d), Value.int IntKind.i64 (newD n d)] 26)) := (Below.refl _ _).alloc (Nat.le_refl _) _
  replace hB := below_via hB hbn hB.size
  clear hbn
  have g0n : (u1.alloc (Obj.cells #[Value.int IntKind.i64 (newN n d), Value.int IntKind.i64 (newD n d)] 26)).cell? ⟨u1.heap.size, 0, none⟩ = some (.int .i64 (newN n d)) := by simp [go_sem]
  have g0d : (u1.alloc (Obj.cells #[Value.int IntKind.i64 (newN n d), Value.int IntKind.i64 (newD n d)] 26)).cell? ⟨u1.heap.size, 1, none⟩ = some (.int .i64 (newD n d)) := by simp [go_sem]
  generalize (u1.alloc (Obj.cells #[Value.int IntKind.i64 (newN n d), Value.int IntKind.i64 (newD n d)] 26)) = V2 at hB g0n g0d ⊢
  with_reducible refine (refnew_any n d n1 n2 d1 d2 V2).mono ?_
  rintro e u3 ⟨rfl, hb3⟩
  replace hB := below_via hB hb3 hB.size
  replace g0n := cell_later hb3 g0n
  replace g0d := cell_later hb3 g0d
  clear hb3
  have og0n := fun o => cell_on o g0n
  have og0d := fun o => cell_on o g0d
  go_wp2_with fail
  clear og0n og0d
  have hbn : Below u3.heap.size u3 (u3.alloc (Obj.cells #[Value.int IntKind.i64 (newN n d), Value.int IntKind.i64 (newD n d)] 26)) := (Below.refl _ _).alloc (Nat.le_refl _) _
  replace hB := below_via hB hbn hB.size
  replace g0n := cell_later hbn g0n
  replace g0d := cell_later hbn g0d
  clear hbn
  have g1n : (u3.alloc (Obj.cells #[Value.int IntKind.i64 (newN n d), Value.int IntKind.i64 (newD n d)] 26)).cell? ⟨u3.heap.size, 0, none⟩ = some (.int .i64 (newN n d)) := by simp [go_sem]
  have g1d : (u3.alloc (Obj.cells #[Value.int IntKind.i64 (newN n d), Value.int IntKind.i64 (newD n d)] 26)).cell? ⟨u3.heap.size, 1, none⟩ = some (.int .i64 (newD n d)) := by simp [go_sem]
  generalize (u3.alloc (Obj.cells #[Value.int IntKind.i64 (newN n d), Value.int IntKind.i64 (newD n d)] 26)) = V4 at hB g0n g0d g1n g1d ⊢
  with_reducible refine (of_any n n1 n2 V4).mono ?_
  rintro e u5 ⟨rfl, hb5⟩
  replace hB := below_via hB hb5 hB.size
  replace g0n := cell_later hb5 g0n
  replace g0d := cell_later hb5 g0d
  replace g1n := cell_later hb5 g1n
  replace g1d := cell_later hb5 g1d
  clear hb5
  have og0n := fun o => cell_on o g0n
  have og0d := fun o => cell_on o g0d
  have og1n := fun o => cell_on o g1n
  have og1d := fun o => cell_on o g1d
  go_wp2_with fail
  clear og0n og0d og1n og1d
  have hbn : Below u5.heap.size u5 (u5.alloc (Obj.cells #[Value.int IntKind.i64 (newN n 1), Value.int IntKind.i64 (newD n 1)] 26)) := (Below.refl _ _).alloc (Nat.le_refl _) _
  replace hB := below_via hB hbn hB.size
  replace g0n := cell_later hbn g0n
  replace g0d := cell_later hbn g0d
  replace g1n := cell_later hbn g1n
  replace g1d := cell_later hbn g1d
  clear hbn
  have g2n : (u5.alloc (Obj.cells #[Value.int IntKind.i64 (newN n 1), Value.int IntKind.i64 (newD n 1)] 26)).cell? ⟨u5.heap.size, 0, none⟩ = some (.int .i64 (newN n 1)) := by simp [go_sem]
  have g2d : (u5.alloc (Obj.cells #[Value.int IntKind.i64 (newN n 1), Value.int IntKind.i64 (newD n 1)] 26)).cell? ⟨u5.heap.size, 1, none⟩ = some (.int .i64 (newD n 1)) := by simp [go_sem]
  generalize (u5.alloc (Obj.cells #[Value.int IntKind.i64 (newN n 1), Value.int IntKind.i64 (newD n 1)] 26)) = V6 at hB g0n g0d g1n g1d g2n g2d ⊢
  with_reducible refine (refnew_any n 1 n1 n2 (by omega) (by omega) V6).mono ?_
  rintro e u7 ⟨rfl, hb7⟩
  replace hB := below_via hB hb7 hB.size
  replace g0n := cell_later hb7 g0n
  replace g0d := cell_later hb7 g0d
  replace g1n := cell_later hb7 g1n
  replace g1d := cell_later hb7 g1d
  replace g2n := cell_later hb7 g2n
  replace g2d := cell_later hb7 g2d
  clear hb7
  have og0n := fun o => cell_on o g0n
  have og0d := fun o => cell_on o g0d
  have og1n := fun o => cell_on o g1n
  have og1d := fun o => cell_on o g1d
  have og2n := fun o => cell_on o g2n
  have og2d := fun o => cell_on o g2d
  go_wp2
  go_ret
  exact ⟨rfl, hB.alloc hB.size _⟩

set_option maxRecDepth 100000 in
set_option maxHeartbeats 4000000 in
theorem two_any (an ad bn bd : Int) (an1 : -9223372036854775808 ≤ an) (an2 : an ≤ 9223372036854775807) (ad1 : -9223372036854775808 ≤ ad) (ad2 : ad ≤ 9223372036854775807) (bn1 : -9223372036854775808 ≤ bn) (bn2 : bn ≤ 9223372036854775807) (bd1 : -9223372036854775808 ≤ bd) (bd2 : bd ≤ 9223372036854775807) (w : World) (tab : Tab w) :
    Calls Tryd.prog 7 #[.agg #[.int .i64 an, .int .i64 ad], .agg #[.int .i64 bn, .int .i64 bd]] w fun e w' => e = .returned (.bool true) ∧ Below w.heap.size w w' := by
  go_enter Tryd.func7, Tryd.ntmps7
  go_wp2_with fail
  have hB : Below w.heap.size w ((w.alloc (Obj.cells #[Value.int IntKind.i64 an, Value.int IntKind.i64 ad] 26)).alloc (Obj.cells #[Value.int IntKind.i64 bn, Value.int IntKind.i64 bd] 26)) := ((Below.refl _ _).alloc (Nat.le_refl _) _).alloc (by simp) _
  replace tab := tab.below hB
  have gan : ((w.alloc (Obj.cells #[Value.int IntKind.i64 an, Value.int IntKind.i64 ad] 26)).alloc (Obj.cells #[Value.int IntKind.i64 bn, Value.int IntKind.i64 bd] 26)).cell? ⟨w.heap.size, 0, none⟩ = some (.int .i64 an) := by simp [go_sem]
  have gad : ((w.alloc (Obj.cells #[Value.int IntKind.i64 an, Value.int IntKind.i64 ad] 26)).alloc (Obj.cells #[Value.int IntKind.i64 bn, Value.int IntKind.i64 bd] 26)).cell? ⟨w.heap.size, 1, none⟩ = some (.int .i64 ad) := by simp [go_sem]
  have gbn : ((w.alloc (Obj.cells #[Value.int IntKind.i64 an, Value.int IntKind.i64 ad] 26)).alloc (Obj.cells #[Value.int IntKind.i64 bn, Value.int IntKind.i64 bd] 26)).cell? ⟨w.heap.size + 1, 0, none⟩ = some (.int .i64 bn) := by simp [go_sem]
  have gbd : ((w.alloc (Obj.cells #[Value.int IntKind.i64 an, Value.int IntKind.i64 ad] 26)).alloc (Obj.cells #[Value.int IntKind.i64 bn, Value.int IntKind.i64 bd] 26)).cell? ⟨w.heap.size + 1, 1, none⟩ = some (.int .i64 bd) := by simp [go_sem]
  generalize ((w.alloc (Obj.cells #[Value.int IntKind.i64 an, Value.int IntKind.i64 ad] 26)).alloc (Obj.cells #[Value.int IntKind.i64 bn, Value.int IntKind.i64 bd] 26)) = V0 at hB tab gan gad gbn gbd ⊢
  with_reducible refine (add_all an ad bn bd an1 an2 ad1 ad2 bn1 bn2 bd1 bd2 V0).mono ?_
  rintro e u1 ⟨rfl, hb1⟩
  replace hB := below_via hB hb1 hB.size
  replace tab := tab.below hb1
  replace gan := cell_later hb1 gan
  replace gad := cell_later hb1 gad
  replace gbn := cell_later hb1 gbn
  replace gbd := cell_later hb1 gbd
  clear hb1
  have ogan := fun o => cell_on o gan
  have ogad := fun o => cell_on o gad
  have ogbn := fun o => cell_on o gbn
  have ogbd := fun o => cell_on o gbd
  go_wp2_with fail
  clear ogan ogad ogbn ogbd
  have hbn : Below u1.heap.size u1 (u1.alloc (Obj.cells #[Value.int IntKind.i64 (addT an ad bn bd).1, Value.int IntKind.i64 (addT an ad bn bd).2.1] 26)) := (Below.refl _ _).alloc (Nat.le_refl _) _
  replace hB := below_via hB hbn hB.size
  replace tab := tab.below hbn
  replace gan := cell_later hbn gan
  replace gad := cell_later hbn gad
  replace gbn := cell_later hbn gbn
  replace gbd := cell_later hbn gbd
  clear hbn
  have g0n : (u1.alloc (Obj.cells #[Value.int IntKind.i64 (addT an ad bn bd).1, Value.int IntKind.i64 (addT an ad bn bd).2.1] 26)).cell? ⟨u1.heap.size, 0, none⟩ = some (.int .i64 (addT an ad bn bd).1) := by simp [go_sem]
  have g0d : (u1.alloc (Obj.cells #[Value.int IntKind.i64 (addT an ad bn bd).1, Value.int IntKind.i64 (addT an ad bn bd).2.1] 26)).cell? ⟨u1.heap.size, 1, none⟩ = some (.int .i64 (addT an ad bn bd).2.1) := by simp [go_sem]
  generalize (u1.alloc (Obj.cells #[Value.int IntKind.i64 (addT an ad bn bd).1, Value.int IntKind.i64 (addT an ad bn bd).2.1] 26)) = V2 at hB tab gan gad gbn gbd g0n g0d ⊢
  with_reducible refine (sub_all an ad bn bd an1 an2 ad1 ad2 bn1 bn2 bd1 bd2 V2).mono ?_
  rintro e u3 ⟨rfl, hb3⟩
  replace hB := below_via hB hb3 hB.size
  replace tab := tab.below hb3
  replace gan := cell_later hb3 gan
  replace gad := cell_later hb3 gad
  replace gbn := cell_later hb3 gbn
  replace gbd := cell_later hb3 gbd
  replace g0n := cell_later hb3 g0n
  replace g0d := cell_later hb3 g0d
  clear hb3
  have ogan := fun o => cell_on o gan
  have ogad := fun o => cell_on o gad
  have ogbn := fun o => cell_on o gbn
  have ogbd := fun o => cell_on o gbd
  have og0n := fun o => cell_on o g0n
  have og0d := fun o => cell_on o g0d
  go_wp2_with fail
  clear ogan ogad ogbn ogbd og0n og0d
  have hbn : Below u3.heap.size u3 (u3.alloc (Obj.cells #[Value.int IntKind.i64 (subT an ad bn bd).1, Value.int IntKind.i64 (subT an ad bn bd).2.1] 26)) := (Below.refl _ _).alloc (Nat.le_refl _) _
  replace hB := below_via hB hbn hB.size
  replace tab := tab.below hbn
  replace gan := cell_later hbn gan
  replace gad := cell_later hbn gad
  replace gbn := cell_later hbn gbn
  replace gbd := cell_later hbn gbd
  replace g0n := cell_later hbn g0n
  replace g0d := cell_later hbn g0d
  clear hbn
  have g1n : (u3.alloc (Obj.cells #[Value.int IntKind.i64 (subT an ad bn bd).1, Value.int IntKind.i64 (subT an ad bn bd).2.1] 26)).cell? ⟨u3.heap.size, 0, none⟩ = some (.int .i64 (subT an ad bn bd).1) := by simp [go_sem]
  have g1d : (u3.alloc (Obj.cells #[Value.int IntKind.i64 (subT an ad bn bd).1, Value.int IntKind.i64 (subT an ad bn bd).2.1] 26)).cell? ⟨u3.heap.size, 1, none⟩ = some (.int .i64 (subT an ad bn bd).2.1) := by simp [go_sem]
  generalize (u3.alloc (Obj.cells #[Value.int IntKind.i64 (subT an ad bn bd).1, Value.int IntKind.i64 (subT an ad bn bd).2.1] 26)) = V4 at hB tab gan gad gbn gbd g0n g0d g1n g1d ⊢
  with_reducible refine (mul_all an ad bn bd an1 an2 ad1 ad2 bn1 bn2 bd1 bd2 V4).mono ?_
  rintro e u5 ⟨rfl, hb5⟩
  replace hB := below_via hB hb5 hB.size
  replace tab := tab.below hb5
  replace gan := cell_later hb5 gan
  replace gad := cell_later hb5 gad
  replace gbn := cell_later hb5 gbn
  replace gbd := cell_later hb5 gbd
  replace g0n := cell_later hb5 g0n
  replace g0d := cell_later hb5 g0d
  replace g1n := cell_later hb5 g1n
  replace g1d := cell_later hb5 g1d
  clear hb5
  have ogan := fun o => cell_on o gan
  have ogad := fun o => cell_on o gad
  have ogbn := fun o => cell_on o gbn
  have ogbd := fun o => cell_on o gbd
  have og0n := fun o => cell_on o g0n
  have og0d := fun o => cell_on o g0d
  have og1n := fun o => cell_on o g1n
  have og1d := fun o => cell_on o g1d
  go_wp2_with fail
  clear ogan ogad ogbn ogbd og0n og0d og1n og1d
  have hbn : Below u5.heap.size u5 (u5.alloc (Obj.cells #[Value.int IntKind.i64 (mulT an ad bn bd).1, Value.int IntKind.i64 (mulT an ad bn bd).2.1] 26)) := (Below.refl _ _).alloc (Nat.le_refl _) _
  replace hB := below_via hB hbn hB.size
  replace tab := tab.below hbn
  replace gan := cell_later hbn gan
  replace gad := cell_later hbn gad
  replace gbn := cell_later hbn gbn
  replace gbd := cell_later hbn gbd
  replace g0n := cell_later hbn g0n
  replace g0d := cell_later hbn g0d
  replace g1n := cell_later hbn g1n
  replace g1d := cell_later hbn g1d
  clear hbn
  have g2n : (u5.alloc (Obj.cells #[Value.int IntKind.i64 (mulT an ad bn bd).1, Value.int IntKind.i64 (mulT an ad bn bd).2.1] 26)).cell? ⟨u5.heap.size, 0, none⟩ = some (.int .i64 (mulT an ad bn bd).1) := by simp [go_sem]
  have g2d : (u5.alloc (Obj.cells #[Value.int IntKind.i64 (mulT an ad bn bd).1, Value.int IntKind.i64 (mulT an ad bn bd).2.1] 26)).cell? ⟨u5.heap.size, 1, none⟩ = some (.int .i64 (mulT an ad bn bd).2.1) := by simp [go_sem]
  generalize (u5.alloc (Obj.cells #[Value.int IntKind.i64 (mulT an ad bn bd).1, Value.int IntKind.i64 (mulT an ad bn bd).2.1] 26)) = V6 at hB tab gan gad gbn gbd g0n g0d g1n g1d g2n g2d ⊢
  with_reducible refine (div_all an ad bn bd an1 an2 ad1 ad2 bn1 bn2 bd1 bd2 V6).mono ?_
  rintro e u7 ⟨rfl, hb7⟩
  replace hB := below_via hB hb7 hB.size
  replace tab := tab.below hb7
  replace gan := cell_later hb7 gan
  replace gad := cell_later hb7 gad
  replace gbn := cell_later hb7 gbn
  replace gbd := cell_later hb7 gbd
  replace g0n := cell_later hb7 g0n
  replace g0d := cell_later hb7 g0d
  replace g1n := cell_later hb7 g1n
  replace g1d := cell_later hb7 g1d
  replace g2n := cell_later hb7 g2n
  replace g2d := cell_later hb7 g2d
  clear hb7
  have ogan := fun o => cell_on o gan
  have ogad := fun o => cell_on o gad
  have ogbn := fun o => cell_on o gbn
  have ogbd := fun o => cell_on o gbd
  have og0n := fun o => cell_on o g0n
  have og0d := fun o => cell_on o g0d
  have og1n := fun o => cell_on o g1n
  have og1d := fun o => cell_on o g1d
  have og2n := fun o => cell_on o g2n
  have og2d := fun o => cell_on o g2d
  go_wp2_with fail
  clear ogan ogad ogbn ogbd og0n og0d og1n og1d og2n og2d
  have hbn : Below u7.heap.size u7 (u7.alloc (Obj.cells #[Value.int IntKind.i64 (divT an ad bn bd).1, Value.int IntKind.i64 (divT an ad bn bd).2.1] 26)) := (Below.refl _ _).alloc (Nat.le_refl _) _
  replace hB := below_via hB hbn hB.size
  replace tab := tab.below hbn
  replace gan := cell_later hbn gan
  replace gad := cell_later hbn gad
  replace gbn := cell_later hbn gbn
  replace gbd := cell_later hbn gbd
  replace g0n := cell_later hbn g0n
  replace g0d := cell_later hbn g0d
  replace g1n := cell_later hbn g1n
  replace g1d := cell_later hbn g1d
  replace g2n := cell_later hbn g2n
  replace g2d := cell_later hbn g2d
  clear hbn
  have g3n : (u7.alloc (Obj.cells #[Value.int IntKind.i64 (divT an ad bn bd).1, Value.int IntKind.i64 (divT an ad bn bd).2.1] 26)).cell? ⟨u7.heap.size, 0, none⟩ = some (.int .i64 (divT an ad bn bd).1) := by simp [go_sem]
  have g3d : (u7.alloc (Obj.cells #[Value.int IntKind.i64 (divT an ad bn bd).1, Value.int IntKind.i64 (divT an ad bn bd).2.1] 26)).cell? ⟨u7.heap.size, 1, none⟩ = some (.int .i64 (divT an ad bn bd).2.1) := by simp [go_sem]
  generalize (u7.alloc (Obj.cells #[Value.int IntKind.i64 (divT an ad bn bd).1, Value.int IntKind.i64 (divT an ad bn bd).2.1] 26)) = V8 at hB tab gan gad gbn gbd g0n g0d g1n g1d g2n g2d g3n g3d ⊢
  with_reducible refine (refadd_all an ad bn bd an1 an2 ad1 ad2 bn1 bn2 bd1 bd2 V8).mono ?_
  rintro e u9 ⟨rfl, hb9⟩
  replace hB := below_via hB hb9 hB.size
  replace tab := tab.below hb9
  replace gan := cell_later hb9 gan
  replace gad := cell_later hb9 gad
  replace gbn := cell_later hb9 gbn
  replace gbd := cell_later hb9 gbd
  replace g0n := cell_later hb9 g0n
  replace g0d := cell_later hb9 g0d
  replace g1n := cell_later hb9 g1n
  replace g1d := cell_later hb9 g1d
  replace g2n := cell_later hb9 g2n
  replace g2d := cell_later hb9 g2d
  replace g3n := cell_later hb9 g3n
  replace g3d := cell_later hb9 g3d
  clear hb9
  have ogan := fun o => cell_on o gan
  have ogad := fun o => cell_on o gad
  have ogbn := fun o => cell_on o gbn
  have ogbd := fun o => cell_on o gbd
  have og0n := fun o => cell_on o g0n
  have og0d := fun o => cell_on o g0d
  have og1n := fun o => cell_on o g1n
  have og1d := fun o => cell_on o g1d
  have og2n := fun o => cell_on o g2n
  have og2d := fun o => cell_on o g2d
  have og3n := fun o => cell_on o g3n
  have og3d := fun o => cell_on o g3d
  go_wp2_with fail
  clear ogan ogad ogbn ogbd og0n og0d og1n og1d og2n og2d og3n og3d
  have hbn : Below u9.heap.size u9 (u9.alloc (Obj.cells #[Value.int IntKind.i64 (addT an ad bn bd).1, Value.int IntKind.i64 (addT an ad bn bd).2.1] 26)) := (Below.refl _ _).alloc (Nat.le_refl _) _
  replace hB := below_via hB hbn hB.size
  replace tab := tab.below hbn
  replace gan := cell_later hbn gan
  replace gad := cell_later hbn gad
  replace gbn := cell_later hbn gbn
  replace gbd := cell_later hbn gbd
  replace g0n := cell_later hbn g0n
  replace g0d := cell_later hbn g0d
  replace g1n := cell_later hbn g1n
  replace g1d := cell_later hbn g1d
  replace g2n := cell_later hbn g2n
  replace g2d := cell_later hbn g2d
  replace g3n := cell_later hbn g3n
  replace g3d := cell_later hbn g3d
  clear hbn
  have g4n : (u9.alloc (Obj.cells #[Value.int IntKind.i64 (addT an ad bn bd).1, Value.int IntKind.i64 (addT an ad bn bd).2.1] 26)).cell? ⟨u9.heap.size, 0, none⟩ = some (.int .i64 (addT an ad bn bd).1) := by simp [go_sem]
  have g4d : (u9.alloc (Obj.cells #[Value.int IntKind.i64 (addT an ad bn bd).1, Value.int IntKind.i64 (addT an ad bn bd).2.1] 26)).cell? ⟨u9.heap.size, 1, none⟩ = some (.int .i64 (addT an ad bn bd).2.1) := by simp [go_sem]
  generalize (u9.alloc (Obj.cells #[Value.int IntKind.i64 (addT an ad bn bd).1, Value.int IntKind.i64 (addT an ad bn bd).2.1] 26)) = V10 at hB tab gan gad gbn gbd g0n g0d g1n g1d g2n g2d g3n g3d g4n g4d ⊢
  with_reducible refine (refsub_all an ad bn bd an1 an2 ad1 ad2 bn1 bn2 bd1 bd2 V10).mono ?_
  rintro e u11 ⟨rfl, hb11⟩
  replace hB := below_via hB hb11 hB.size
  replace tab := tab.below hb11
  replace gan := cell_later hb11 gan
  replace gad := cell_later hb11 gad
  replace gbn := cell_later hb11 gbn
  replace gbd := cell_later hb11 gbd
  replace g0n := cell_later hb11 g0n
  replace g0d := cell_later hb11 g0d
  replace g1n := cell_later hb11 g1n
  replace g1d := cell_later hb11 g1d
  replace g2n := cell_later hb11 g2n
  replace g2d := cell_later hb11 g2d
  replace g3n := cell_later hb11 g3n
  replace g3d := cell_later hb11 g3d
  replace g4n := cell_later hb11 g4n
  replace g4d := cell_later hb11 g4d
  clear hb11
  have ogan := fun o => cell_on o gan
  have ogad := fun o => cell_on o gad
  have ogbn := fun o => cell_on o gbn
  have ogbd := fun o => cell_on o gbd
  have og0n := fun o => cell_on o g0n
  have og0d := fun o => cell_on o g0d
  have og1n := fun o => cell_on o g1n
  have og1d := fun o => cell_on o g1d
  have og2n := fun o => cell_on o g2n
  have og2d := fun o => cell_on o g2d
  have og3n := fun o => cell_on o g3n
  have og3d := fun o => cell_on o g3d
  have og4n := fun o => cell_on o g4n
  have og4d := fun o => cell_on o g4d
  go_wp2_with fail
  clear ogan ogad ogbn ogbd og0n og0d og1n og1d og2n og2d og3n og3d og4n og4d
  have hbn : Below u11.heap.size u11 (u11.alloc (Obj.cells #[Value.int IntKind.i64 (subT an ad bn bd).1, Value.int IntKind.i64 (subT an ad bn bd).2.1] 26)) := (Below.refl _ _).alloc (Nat.le_refl _) _
  replace hB := below_via hB hbn hB.size
  replace tab := tab.below hbn
  replace gan := cell_later hbn gan
  replace gad := cell_later hbn gad
  replace gbn := cell_later hbn gbn
  replace gbd := cell_later hbn gbd
  replace g0n := cell_later hbn g0n
  replace g0d := cell_later hbn g0d
  replace g1n := cell_later hbn g1n
  replace g1d := cell_later hbn g1d
  replace g2n := cell_later hbn g2n
  replace g2d := cell_later hbn g2d
  replace g3n := cell_later hbn g3n
  replace g3d := cell_later hbn g3d
  replace g4n := cell_later hbn g4n
  replace g4d := cell_later hbn g4d
  clear hbn
  have g5n : (u11.alloc (Obj.cells #[Value.int IntKind.i64 (subT an ad bn bd).1, Value.int IntKind.i64 (subT an ad bn bd).2.1] 26)).cell? ⟨u11.heap.size, 0, none⟩ = some (.int .i64 (subT an ad bn bd).1) := by simp [go_sem]
  have g5d : (u11.alloc (Obj.cells #[Value.int IntKind.i64 (subT an ad bn bd).1, Value.int IntKind.i64 (subT an ad bn bd).2.1] 26)).cell? ⟨u11.heap.size, 1, none⟩ = some (.int .i64 (subT an ad bn bd).2.1) := by simp [go_sem]
  generalize (u11.alloc (Obj.cells #[Value.int IntKind.i64 (subT an ad bn bd).1, Value.int IntKind.i64 (subT an ad bn bd).2.1] 26)) = V12 at hB tab gan gad gbn gbd g0n g0d g1n g1d g2n g2d g3n g3d g4n g4d g5n g5d ⊢
  with_reducible refine (refmul_all an ad bn bd an1 an2 ad1 ad2 bn1 bn2 bd1 bd2 V12).mono ?_
  rintro e u13 ⟨rfl, hb13⟩
  replace hB := below_via hB hb13 hB.size
  replace tab := tab.below hb13
  replace gan := cell_later hb13 gan
  replace gad := cell_later hb13 gad
  replace gbn := cell_later hb13 gbn
  replace gbd := cell_later hb13 gbd
  replace g0n := cell_later hb13 g0n
  replace g0d := cell_later hb13 g0d
  replace g1n := cell_later hb13 g1n
  replace g1d := cell_later hb13 g1d
  replace g2n := cell_later hb13 g2n
  replace g2d := cell_later hb13 g2d
  replace g3n := cell_later hb13 g3n
  replace g3d := cell_later hb13 g3d
  replace g4n := cell_later hb13 g4n
  replace g4d := cell_later hb13 g4d
  replace g5n := cell_later hb13 g5n
  replace g5d := cell_later hb13 g5d
  clear hb13
  have ogan := fun o => cell_on o gan
  have ogad := fun o => cell_on o gad
  have ogbn := fun o => cell_on o gbn
  have ogbd := fun o => cell_on o gbd
  have og0n := fun o => cell_on o g0n
  have og0d := fun o => cell_on o g0d
  have og1n := fun o => cell_on o g1n
  have og1d := fun o => cell_on o g1d
  have og2n := fun o => cell_on o g2n
  have og2d := fun o => cell_on o g2d
  have og3n := fun o => cell_on o g3n
  have og3d := fun o => cell_on o g3d
  have og4n := fun o => cell_on o g4n
  have og4d := fun o => cell_on o g4d
  have og5n := fun o => cell_on o g5n
  have og5d := fun o => cell_on o g5d
  go_wp2_with fail
  clear ogan ogad ogbn ogbd og0n og0d og1n og1d og2n og2d og3n og3d og4n og4d og5n og5d
  have hbn : Below u13.heap.size u13 (u13.alloc (Obj.cells #[Value.int IntKind.i64 (mulT an ad bn bd).1, Value.int IntKind.i64 (mulT an ad bn bd).2.1] 26)) := (Below.refl _ _).alloc (Nat.le_refl _) _
  replace hB := below_via hB hbn hB.size
  replace tab := tab.below hbn
  replace gan := cell_later hbn gan
  replace gad := cell_later hbn gad
  replace gbn := cell_later hbn gbn
  replace gbd := cell_later hbn gbd
  replace g0n := cell_later hbn g0n
  replace g0d := cell_later hbn g0d
  replace g1n := cell_later hbn g1n
  replace g1d := cell_later hbn g1d
  replace g2n := cell_later hbn g2n
  replace g2d := cell_later hbn g2d
  replace g3n := cell_later hbn g3n
  replace g3d := cell_later hbn g3d
  replace g4n := cell_later hbn g4n
  replace g4d := cell_later hbn g4d
  replace g5n := cell_later hbn g5n
  replace g5d := cell_later hbn g5d
  clear hbn
  have g6n : (u13.alloc (Obj.cells #[Value.int IntKind.i64 (mulT an ad bn bd).1, Value.int IntKind.i64 (mulT an ad bn bd).2.1] 26)).cell? ⟨u13.heap.size, 0, none⟩ = some (.int .i64 (mulT an ad bn bd).1) := by simp [go_sem]
  have g6d : (u13.alloc (Obj.cells #[Value.int IntKind.i64 (mulT an ad bn bd).1, Value.int IntKind.i64 (mulT an ad bn bd).2.1] 26)).cell? ⟨u13.heap.size, 1, none⟩ = some (.int .i64 (mulT an ad bn bd).2.1) := by simp [go_sem]
  generalize (u13.alloc (Obj.cells #[Value.int IntKind.i64 (mulT an ad bn bd).1, Value.int IntKind.i64 (mulT an ad bn bd).2.1] 26)) = V14 at hB tab gan gad gbn gbd g0n g0d g1n g1d g2n g2d g3n g3d g4n g4d g5n g5d g6n g6d ⊢
  with_reducible refine (refdiv_all an ad bn bd an1 an2 ad1 ad2 bn1 bn2 bd1 bd2 V14).mono ?_
  rintro e u15 ⟨rfl, hb15⟩
  replace hB := below_via hB hb15 hB.size
  replace tab := tab.below hb15
  replace gan := cell_later hb15 gan
  replace gad := cell_later hb15 gad
  replace gbn := cell_later hb15 gbn
  replace gbd := cell_later hb15 gbd
  replace g0n := cell_later hb15 g0n
  replace g0d := cell_later hb15 g0d
  replace g1n := cell_later hb15 g1n
  replace g1d := cell_later hb15 g1d
  replace g2n := cell_later hb15 g2n
  replace g2d := cell_later hb15 g2d
  replace g3n := cell_later hb15 g3n
  replace g3d := cell_later hb15 g3d
  replace g4n := cell_later hb15 g4n
  replace g4d := cell_later hb15 g4d
  replace g5n := cell_later hb15 g5n
  replace g5d := cell_later hb15 g5d
  replace g6n := cell_later hb15 g6n
  replace g6d := cell_later hb15 g6d
  clear hb15
  have ogan := fun o => cell_on o gan
  have ogad := fun o => cell_on o gad
  have ogbn := fun o => cell_on o gbn
  have ogbd := fun o => cell_on o gbd
  have og0n := fun o => cell_on o g0n
  have og0d := fun o => cell_on o g0d
  have og1n := fun o => cell_on o g1n
  have og1d := fun o => cell_on o g1d
  have og2n := fun o => cell_on o g2n
  have og2d := fun o => cell_on o g2d
  have og3n := fun o => cell_on o g3n
  have og3d := fun o => cell_on o g3d
  have og4n := fun o => cell_on o g4n
  have og4d := fun o => cell_on o g4d
  have og5n := fun o => cell_on o g5n
  have og5d := fun o => cell_on o g5d
  have og6n := fun o => cell_on o g6n
  have og6d := fun o => cell_on o g6d
  go_wp2_with fail
  clear ogan ogad ogbn ogbd og0n og0d og1n og1d og2n og2d og3n og3d og4n og4d og5n og5d og6n og6d
  have hbn : Below u15.heap.size u15 (u15.alloc (Obj.cells #[Value.int IntKind.i64 (divT an ad bn bd).1, Value.int IntKind.i64 (divT an ad bn bd).2.1] 26)) := (Below.refl _ _).alloc (Nat.le_refl _) _
  replace hB := below_via hB hbn hB.size
  replace tab := tab.below hbn
  replace gan := cell_later hbn gan
  replace gad := cell_later hbn gad
  replace gbn := cell_later hbn gbn
  replace gbd := cell_later hbn gbd
  replace g0n := cell_later hbn g0n
  replace g0d := cell_later hbn g0d
  replace g1n := cell_later hbn g1n
  replace g1d := cell_later hbn g1d
  replace g2n := cell_later hbn g2n
  replace g2d := cell_later hbn g2d
  replace g3n := cell_later hbn g3n
  replace g3d := cell_later hbn g3d
  replace g4n := cell_later hbn g4n
  replace g4d := cell_later hbn g4d
  replace g5n := cell_later hbn g5n
  replace g5d := cell_later hbn g5d
  replace g6n := cell_later hbn g6n
  replace g6d := cell_later hbn g6d
  clear hbn
  have g7n : (u15.alloc (Obj.cells #[Value.int IntKind.i64 (divT an ad bn bd).1, Value.int IntKind.i64 (divT an ad bn bd).2.1] 26)).cell? ⟨u15.heap.size, 0, none⟩ = some (.int .i64 (divT an ad bn bd).1) := by simp [go_sem]
  have g7d : (u15.alloc (Obj.cells #[Value.int IntKind.i64 (divT an ad bn bd).1, Value.int IntKind.i64 (divT an ad bn bd).2.1] 26)).cell? ⟨u15.heap.size, 1, none⟩ = some (.int .i64 (divT an ad bn bd).2.1) := by simp [go_sem]
  generalize (u15.alloc (Obj.cells #[Value.int IntKind.i64 (divT an ad bn bd).1, Value.int IntKind.i64 (divT an ad bn bd).2.1] 26)) = V16 at hB tab gan gad gbn gbd g0n g0d g1n g1d g2n g2d g3n g3d g4n g4d g5n g5d g6n g6d g7n g7d ⊢
  replace gan := fun d os => cell_regrown gan d os
  replace gad := fun d os => cell_regrown gad d os
  replace gbn := fun d os => cell_regrown gbn d os
  replace gbd := fun d os => cell_regrown gbd d os
  replace g0n := fun d os => cell_regrown g0n d os
  replace g0d := fun d os => cell_regrown g0d d os
  replace g1n := fun d os => cell_regrown g1n d os
  replace g1d := fun d os => cell_regrown g1d d os
  replace g2n := fun d os => cell_regrown g2n d os
  replace g2d := fun d os => cell_regrown g2d d os
  replace g3n := fun d os => cell_regrown g3n d os
  replace g3d := fun d os => cell_regrown g3d d os
  replace g4n := fun d os => cell_regrown g4n d os
  replace g4d := fun d os => cell_regrown g4d d os
  replace g5n := fun d os => cell_regrown g5n d os
  replace g5d := fun d os => cell_regrown g5d d os
  replace g6n := fun d os => cell_regrown g6n d os
  replace g6d := fun d os => cell_regrown g6d d os
  replace g7n := fun d os => cell_regrown g7n d os
  replace g7d := fun d os => cell_regrown g7d d os
  have HT : ∀ d os, Tab (grow (redrawn V16 d) os) := fun d os => tab.below (below_regrown V16 d os)
  refine wp_region_quiet_below (by kernel_rfl) (by kernel_rfl) ?_
  repeat (quiet_step (first | (go_at_call 26; exact Calls.regrown_of (cmp_all an ad bn bd an1 an2 ad1 ad2 bn1 bn2 bd1 bd2 _)) | (go_at_call 27; exact Calls.regrown_of (refcmp_all an ad bn bd an1 an2 ad1 ad2 bn1 bn2 bd1 bd2 _)) | (go_at_call 17; exact Calls.regrown_of (right_bel an ad an1 an2 ad1 ad2 _)) | (go_at_call 28; exact Calls.regrown_of (refright_below an ad an1 an2 ad1 ad2 _)) | (go_at_call 16; exact Calls.regrown_of (text_any an ad an1 an2 ad1 ad2 _ (HT _ _))) | (go_at_call 14; exact Calls.regrown_of (reftext_any an ad an1 an2 ad1 ad2 _))))
  refine wpQuiet_nil ?_
  intro _ hw'
  obtain ⟨⟨dq, osq⟩, hw''⟩ := hw'
  subst hw''
  go_wp2
  go_ret
  exact ⟨rfl, below_via hB (below_regrown V16 dq osq) hB.size⟩

set_option maxHeartbeats 1000000 in
theorem parses_any (s : ByteArray) (hs : s.size ≤ maxLen) (w : World) (tab : Tab w) :
    Calls Tryd.prog 8 #[.string s] w fun e w' => e = .returned (.bool true) ∧ Below w.heap.size w w' := by
  have hB : Below w.heap.size w w := Below.refl _ _
  by_cases ex : ∃ n d, rightB n d = true ∧ textL n d = s.data.toList
  · obtain ⟨n, d, hr, hx⟩ := ex
    have HX : Hid (textL n d = s.data.toList) := hx
    clear hx
    go_enter Tryd.func8, Tryd.ntmps8
    go_wp2_with fail
    with_reducible refine (parse_yes w tab s hs n d hr HX.out).mono ?_
    rintro e u1 ⟨rfl, hb1⟩
    replace hB := below_via hB hb1 hB.size
    replace tab := tab.below hb1
    clear hb1
    go_wp2_with fail
    have hbn : Below u1.heap.size u1 (u1.alloc (Obj.cells #[Value.int IntKind.i64 n, Value.int IntKind.i64 d] 26)) := (Below.refl _ _).alloc (Nat.le_refl _) _
    replace hB := below_via hB hbn hB.size
    replace tab := tab.below hbn
    clear hbn
    have gan : (u1.alloc (Obj.cells #[Value.int IntKind.i64 n, Value.int IntKind.i64 d] 26)).cell? ⟨u1.heap.size, 0, none⟩ = some (.int .i64 n) := by simp [go_sem]
    have gad : (u1.alloc (Obj.cells #[Value.int IntKind.i64 n, Value.int IntKind.i64 d] 26)).cell? ⟨u1.heap.size, 1, none⟩ = some (.int .i64 d) := by simp [go_sem]
    generalize (u1.alloc (Obj.cells #[Value.int IntKind.i64 n, Value.int IntKind.i64 d] 26)) = V2 at hB tab gan gad ⊢
    with_reducible refine (refparse_yes V2 s hs n d hr HX.out).mono ?_
    rintro e u3 ⟨rfl, hb3⟩
    replace hB := below_via hB hb3 hB.size
    replace tab := tab.below hb3
    replace gan := cell_later hb3 gan
    replace gad := cell_later hb3 gad
    clear hb3
    have ogan := fun o => cell_on o gan
    have ogad := fun o => cell_on o gad
    go_wp2
    go_ret
    exact ⟨rfl, hB.alloc hB.size _⟩
  · have HX : Hid (∀ n d, rightB n d = true → textL n d ≠ s.data.toList) := fun n d hr hx => ex ⟨n, d, hr, hx⟩
    clear ex
    go_enter Tryd.func8, Tryd.ntmps8
    go_wp2_with fail
    with_reducible refine (parse_not w tab s hs HX.out).mono ?_
    rintro e u1 ⟨rfl, hb1⟩
    replace hB := below_via hB hb1 hB.size
    replace tab := tab.below hb1
    clear hb1
    go_wp2_with fail
    have hbn : Below u1.heap.size u1 (u1.alloc (Obj.cells #[Value.int IntKind.i64 0, Value.int IntKind.i64 0] 26)) := (Below.refl _ _).alloc (Nat.le_refl _) _
    replace hB := below_via hB hbn hB.size
    replace tab := tab.below hbn
    clear hbn
    have gan : (u1.alloc (Obj.cells #[Value.int IntKind.i64 0, Value.int IntKind.i64 0] 26)).cell? ⟨u1.heap.size, 0, none⟩ = some (.int .i64 0) := by simp [go_sem]
    have gad : (u1.alloc (Obj.cells #[Value.int IntKind.i64 0, Value.int IntKind.i64 0] 26)).cell? ⟨u1.heap.size, 1, none⟩ = some (.int .i64 0) := by simp [go_sem]
    generalize (u1.alloc (Obj.cells #[Value.int IntKind.i64 0, Value.int IntKind.i64 0] 26)) = V2 at hB tab gan gad ⊢
    with_reducible refine (refparse_not V2 s hs HX.out).mono ?_
    rintro e u3 ⟨rfl, hb3⟩
    replace hB := below_via hB hb3 hB.size
    replace tab := tab.below hb3
    replace gan := cell_later hb3 gan
    replace gad := cell_later hb3 gad
    clear hb3
    have ogan := fun o => cell_on o gan
    have ogad := fun o => cell_on o gad
    go_wp2
    go_ret
    exact ⟨rfl, hB.alloc hB.size _⟩
end Go.Proofs.YtcloepkaieifpaaDoor
