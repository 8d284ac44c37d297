/- The walk of the document's own Parse, road by road. -/
import Derived.Test.YtcloepkaieifpaaDoorRefF
import Derived.Test.YtcloepkaieifpaaDoorTextF
namespace Go.Proofs.YtcloepkaieifpaaDoor
open Go.RowKit Go.Sort

theorem frozen_on {w wx : World} {a : Addr} {v : Value} (hb : Below w.heap.size w wx) (hc : w.cell? a = some v) (hf : w.frozen? a = false) : wx.frozen? a = false :=
  (hb.frozen (World.block_lt_of_cell? _ _ hc)).trans hf
theorem at_not (s : ByteArray) (h : 47 ∉ s.data.toList) (k : Nat) (hk : k < s.size) : ((s[k].toNat : Int) == 47) = false := by
  rw [beq_eq_false_iff_ne]
  intro e
  apply h
  have e' : s[k] = 47 := UInt8.toNat_inj.1 (by show s[k].toNat = 47; omega)
  rw [← e']
  exact List.getElem_mem (l := s.data.toList) (n := k) (by simpa using hk)
theorem at_front (s : ByteArray) (a b : List UInt8) (h : s.data.toList = a ++ 47 :: b) (ha : 47 ∉ a) (k : Nat) (hk : k < a.length) (hk' : k < s.size) : ((s[k].toNat : Int) == 47) = false := by
  rw [beq_eq_false_iff_ne]
  intro e
  apply ha
  have e' : s[k] = 47 := UInt8.toNat_inj.1 (by show s[k].toNat = 47; omega)
  have e2 : s[k] = a[k] := by
    have : s.data.toList[k]'(by simpa using hk') = a[k] := by simp only [h]; rw [List.getElem_append_left hk]
    exact this
  rw [← e', e2]
  exact List.getElem_mem hk
theorem at_slash (s : ByteArray) (a b : List UInt8) (h : s.data.toList = a ++ 47 :: b) (hk' : a.length < s.size) : ((s[a.length].toNat : Int) == 47) = true := by
  have : s.data.toList[a.length]'(by simpa using hk') = 47 := by simp only [h]; simp
  have e : s[a.length] = 47 := this
  rw [e]; rfl
theorem whole_slice (s : ByteArray) : (s.extract 0 s.size).data.toList = s.data.toList := by
  rw [Lib.extract_data]; simp only [List.drop_zero, Nat.sub_zero]
  exact List.take_of_length_le (by simp)
theorem number_slice (s : ByteArray) (w : World) (hs : s.size ≤ maxLen) :
    Calls Tryd.prog 43 #[.string (s.extract 0 s.size)] w fun e w' => e = .returned (.tuple #[.int .i64 (numN s.data.toList), .bool (numB s.data.toList)]) ∧ w' = w := by
  have h := refnumber_any (s.extract 0 s.size) w (by simpa using hs)
  rwa [whole_slice] at h
theorem num_bd (l : List UInt8) : -9223372036854775808 ≤ numN l ∧ numN l ≤ 9223372036854775807 := by
  unfold numN
  cases h : wholeV 18 l with
  | none => simp
  | some n => have := wholeV_bd 18 l n h; simp; omega

theorem two_set (V : World) (b : Nat) (x y p q : Value) (h1 : V.cell? ⟨b, 0, none⟩ = some p) (h2 : V.cell? ⟨b, 1, none⟩ = some q) :
    ((V.setCell ⟨b, 0, none⟩ x).setCell ⟨b, 1, none⟩ y).cell? ⟨b, 0, none⟩ = some x ∧ ((V.setCell ⟨b, 0, none⟩ x).setCell ⟨b, 1, none⟩ y).cell? ⟨b, 1, none⟩ = some y := by
  have e1 : (V.setCell ⟨b, 0, none⟩ x).cell? ⟨b, 1, none⟩ = some q := by rw [World.cell?_setCell_other _ _ _ _ (by simp)]; exact h2
  refine ⟨?_, World.cell?_setCell_same _ _ _ e1⟩
  rw [World.cell?_setCell_other _ _ _ _ (by simp)]; exact World.cell?_setCell_same _ _ _ h1

set_option maxHeartbeats 800000 in
theorem refparse1_bad (w : World) (s : ByteArray) (hc : 47 ∉ s.data.toList) (hs : s.size ≤ maxLen) (hok : numB s.data.toList = false) :
    Calls Tryd.prog 29 #[.string s] w fun e w' => e = .returned (.tuple #[.agg #[.int .i64 0, .int .i64 0], .int .i64 12]) ∧ Below w.heap.size w w' := by
  have n1 := num_bd s.data.toList
  have hs' := hs
  unfold maxLen at hs'
  go_enter Tryd.func29, Tryd.ntmps29
  go_wp2
  go_loop [5, 6] (fun a i => ∃ k : Nat, k ≤ s.size ∧ i = .int .i64 k ∧ a = .int .i64 s.size) (fun _ i => s.size - (intOf i).toNat)
  case atStart => exact ⟨0, Nat.zero_le _, rfl, rfl⟩
  case round =>
    obtain ⟨k, hk, rfl, rfl⟩ := hrel
    by_cases hlt : k < s.size
    · have hb := at_not s hc k hlt
      go_wp2
      go_round
      case rel => exact ⟨k + 1, by omega, by go_num, rfl⟩
      case measure => simp [intOf]; omega
    · have hke : ¬ (k : Int) < (s.size : Int) := by omega
      go_wp2_with fail
      first | with_reducible refine (refnumber_any s _ hs).mono ?_ | with_reducible refine (number_slice s _ hs).mono ?_
      rintro e w' ⟨rfl, hw'⟩
      rw [hw']
      clear hw' w'
      go_wp2
      exact bodyPost_ret (v := .tuple #[.agg #[.int .i64 0, .int .i64 0], .int .i64 12]) (by simp [results, Tryd.results29, go_sem]) rfl ⟨rfl, by repeat (first | exact Below.refl _ _ | refine below_drewN ?_ _ | refine Below.setCell ?_ (by first | omega | (simp <;> omega)) _ | refine Below.alloc ?_ (by first | omega | (simp <;> omega)) _)⟩

set_option maxHeartbeats 800000 in
theorem refparse1_wrong (w : World) (s : ByteArray) (hc : 47 ∉ s.data.toList) (hs : s.size ≤ maxLen) (hok : numB s.data.toList = true) (hr : rightB (numN s.data.toList) 1 = false) :
    Calls Tryd.prog 29 #[.string s] w fun e w' => e = .returned (.tuple #[.agg #[.int .i64 0, .int .i64 0], .int .i64 12]) ∧ Below w.heap.size w w' := by
  have n1 := num_bd s.data.toList
  have hs' := hs
  unfold maxLen at hs'
  go_enter Tryd.func29, Tryd.ntmps29
  go_wp2
  go_loop [5, 6] (fun a i => ∃ k : Nat, k ≤ s.size ∧ i = .int .i64 k ∧ a = .int .i64 s.size) (fun _ i => s.size - (intOf i).toNat)
  case atStart => exact ⟨0, Nat.zero_le _, rfl, rfl⟩
  case round =>
    obtain ⟨k, hk, rfl, rfl⟩ := hrel
    by_cases hlt : k < s.size
    · have hb := at_not s hc k hlt
      go_wp2
      go_round
      case rel => exact ⟨k + 1, by omega, by go_num, rfl⟩
      case measure => simp [intOf]; omega
    · have hke : ¬ (k : Int) < (s.size : Int) := by omega
      go_wp2_with fail
      first | with_reducible refine (refnumber_any s _ hs).mono ?_ | with_reducible refine (number_slice s _ hs).mono ?_
      rintro e w' ⟨rfl, hw'⟩
      rw [hw']
      clear hw' w'
      go_wp2_with fail
      have hB : Below w.heap.size w ((w.alloc (Obj.cells #[Value.int IntKind.i64 0, Value.int IntKind.i64 0] 26)).alloc (Obj.cells #[Value.int IntKind.i64 (numN s.data.toList), Value.int IntKind.i64 1] 26)) := ((Below.refl _ _).alloc (Nat.le_refl _) _).alloc (by simp) _
      have c0 : ((w.alloc (Obj.cells #[Value.int IntKind.i64 0, Value.int IntKind.i64 0] 26)).alloc (Obj.cells #[Value.int IntKind.i64 (numN s.data.toList), Value.int IntKind.i64 1] 26)).cell? ⟨w.heap.size, 0, none⟩ = some (.int .i64 0) := by simp [go_sem]
      have c1 : ((w.alloc (Obj.cells #[Value.int IntKind.i64 0, Value.int IntKind.i64 0] 26)).alloc (Obj.cells #[Value.int IntKind.i64 (numN s.data.toList), Value.int IntKind.i64 1] 26)).cell? ⟨w.heap.size, 1, none⟩ = some (.int .i64 0) := by simp [go_sem]
      have c2 : ((w.alloc (Obj.cells #[Value.int IntKind.i64 0, Value.int IntKind.i64 0] 26)).alloc (Obj.cells #[Value.int IntKind.i64 (numN s.data.toList), Value.int IntKind.i64 1] 26)).cell? ⟨w.heap.size + 1, 0, none⟩ = some (.int .i64 (numN s.data.toList)) := by simp [go_sem]
      have c3 : ((w.alloc (Obj.cells #[Value.int IntKind.i64 0, Value.int IntKind.i64 0] 26)).alloc (Obj.cells #[Value.int IntKind.i64 (numN s.data.toList), Value.int IntKind.i64 1] 26)).cell? ⟨w.heap.size + 1, 1, none⟩ = some (.int .i64 1) := by simp [go_sem]
      have f0 : ((w.alloc (Obj.cells #[Value.int IntKind.i64 0, Value.int IntKind.i64 0] 26)).alloc (Obj.cells #[Value.int IntKind.i64 (numN s.data.toList), Value.int IntKind.i64 1] 26)).frozen? ⟨w.heap.size, 0, none⟩ = false := by simp [go_sem]
      have f1 : ((w.alloc (Obj.cells #[Value.int IntKind.i64 0, Value.int IntKind.i64 0] 26)).alloc (Obj.cells #[Value.int IntKind.i64 (numN s.data.toList), Value.int IntKind.i64 1] 26)).frozen? ⟨w.heap.size, 1, none⟩ = false := by simp [go_sem]
      generalize ((w.alloc (Obj.cells #[Value.int IntKind.i64 0, Value.int IntKind.i64 0] 26)).alloc (Obj.cells #[Value.int IntKind.i64 (numN s.data.toList), Value.int IntKind.i64 1] 26)) = V at hB c0 c1 c2 c3 f0 f1 ⊢
      refine (refright_below _ _ n1.1 n1.2 (by omega) (by omega) V).mono ?_
      rintro e V1 ⟨rfl, hb1⟩
      replace hB := below_via hB hb1 hB.size
      replace f0 := frozen_on hb1 c0 f0
      replace f1 := frozen_on hb1 c1 f1
      replace c0 := cell_later hb1 c0
      replace c1 := cell_later hb1 c1
      replace c2 := cell_later hb1 c2
      replace c3 := cell_later hb1 c3
      clear hb1
      go_wp2
      obtain ⟨s1, s2⟩ := two_set _ w.heap.size (.int .i64 0) (.int .i64 0) _ _ c0 c1
      exact bodyPost_ret (v := .tuple #[.agg #[.int .i64 0, .int .i64 0], .int .i64 12]) (by simp [results, Tryd.results29, go_sem, s1, s2]) rfl ⟨rfl, by repeat (first | exact hB | refine Below.setCell ?_ (by simp) _)⟩

set_option maxHeartbeats 800000 in
theorem refparse1_other (w : World) (s : ByteArray) (hc : 47 ∉ s.data.toList) (hs : s.size ≤ maxLen) (hok : numB s.data.toList = true) (hr : rightB (numN s.data.toList) 1 = true) (hx : textL (numN s.data.toList) 1 ≠ s.data.toList) :
    Calls Tryd.prog 29 #[.string s] w fun e w' => e = .returned (.tuple #[.agg #[.int .i64 0, .int .i64 0], .int .i64 12]) ∧ Below w.heap.size w w' := by
  have n1 := num_bd s.data.toList
  have hs' := hs
  unfold maxLen at hs'
  have hne : (textL (numN s.data.toList) 1 == s.toList) = false := by rw [ByteArray.toList_eq, beq_eq_false_iff_ne]; exact hx
  have HX : Hid True := trivial
  clear hx HX
  go_enter Tryd.func29, Tryd.ntmps29
  go_wp2
  go_loop [5, 6] (fun a i => ∃ k : Nat, k ≤ s.size ∧ i = .int .i64 k ∧ a = .int .i64 s.size) (fun _ i => s.size - (intOf i).toNat)
  case atStart => exact ⟨0, Nat.zero_le _, rfl, rfl⟩
  case round =>
    obtain ⟨k, hk, rfl, rfl⟩ := hrel
    by_cases hlt : k < s.size
    · have hb := at_not s hc k hlt
      go_wp2
      go_round
      case rel => exact ⟨k + 1, by omega, by go_num, rfl⟩
      case measure => simp [intOf]; omega
    · have hke : ¬ (k : Int) < (s.size : Int) := by omega
      go_wp2_with fail
      first | with_reducible refine (refnumber_any s _ hs).mono ?_ | with_reducible refine (number_slice s _ hs).mono ?_
      rintro e w' ⟨rfl, hw'⟩
      rw [hw']
      clear hw' w'
      go_wp2_with fail
      have hB : Below w.heap.size w ((w.alloc (Obj.cells #[Value.int IntKind.i64 0, Value.int IntKind.i64 0] 26)).alloc (Obj.cells #[Value.int IntKind.i64 (numN s.data.toList), Value.int IntKind.i64 1] 26)) := ((Below.refl _ _).alloc (Nat.le_refl _) _).alloc (by simp) _
      have c0 : ((w.alloc (Obj.cells #[Value.int IntKind.i64 0, Value.int IntKind.i64 0] 26)).alloc (Obj.cells #[Value.int IntKind.i64 (numN s.data.toList), Value.int IntKind.i64 1] 26)).cell? ⟨w.heap.size, 0, none⟩ = some (.int .i64 0) := by simp [go_sem]
      have c1 : ((w.alloc (Obj.cells #[Value.int IntKind.i64 0, Value.int IntKind.i64 0] 26)).alloc (Obj.cells #[Value.int IntKind.i64 (numN s.data.toList), Value.int IntKind.i64 1] 26)).cell? ⟨w.heap.size, 1, none⟩ = some (.int .i64 0) := by simp [go_sem]
      have c2 : ((w.alloc (Obj.cells #[Value.int IntKind.i64 0, Value.int IntKind.i64 0] 26)).alloc (Obj.cells #[Value.int IntKind.i64 (numN s.data.toList), Value.int IntKind.i64 1] 26)).cell? ⟨w.heap.size + 1, 0, none⟩ = some (.int .i64 (numN s.data.toList)) := by simp [go_sem]
      have c3 : ((w.alloc (Obj.cells #[Value.int IntKind.i64 0, Value.int IntKind.i64 0] 26)).alloc (Obj.cells #[Value.int IntKind.i64 (numN s.data.toList), Value.int IntKind.i64 1] 26)).cell? ⟨w.heap.size + 1, 1, none⟩ = some (.int .i64 1) := by simp [go_sem]
      have f0 : ((w.alloc (Obj.cells #[Value.int IntKind.i64 0, Value.int IntKind.i64 0] 26)).alloc (Obj.cells #[Value.int IntKind.i64 (numN s.data.toList), Value.int IntKind.i64 1] 26)).frozen? ⟨w.heap.size, 0, none⟩ = false := by simp [go_sem]
      have f1 : ((w.alloc (Obj.cells #[Value.int IntKind.i64 0, Value.int IntKind.i64 0] 26)).alloc (Obj.cells #[Value.int IntKind.i64 (numN s.data.toList), Value.int IntKind.i64 1] 26)).frozen? ⟨w.heap.size, 1, none⟩ = false := by simp [go_sem]
      generalize ((w.alloc (Obj.cells #[Value.int IntKind.i64 0, Value.int IntKind.i64 0] 26)).alloc (Obj.cells #[Value.int IntKind.i64 (numN s.data.toList), Value.int IntKind.i64 1] 26)) = V at hB c0 c1 c2 c3 f0 f1 ⊢
      refine (refright_below _ _ n1.1 n1.2 (by omega) (by omega) V).mono ?_
      rintro e V1 ⟨rfl, hb1⟩
      replace hB := below_via hB hb1 hB.size
      replace f0 := frozen_on hb1 c0 f0
      replace f1 := frozen_on hb1 c1 f1
      replace c0 := cell_later hb1 c0
      replace c1 := cell_later hb1 c1
      replace c2 := cell_later hb1 c2
      replace c3 := cell_later hb1 c3
      clear hb1
      go_wp2_with fail
      refine (reftext_any _ _ n1.1 n1.2 (by omega) (by omega) V1).mono ?_
      rintro e V2 ⟨rfl, hb2⟩
      replace hB := below_via hB hb2 hB.size
      replace f0 := frozen_on hb2 c0 f0
      replace f1 := frozen_on hb2 c1 f1
      replace c0 := cell_later hb2 c0
      replace c1 := cell_later hb2 c1
      replace c2 := cell_later hb2 c2
      replace c3 := cell_later hb2 c3
      clear hb2
      go_wp2
      obtain ⟨s1, s2⟩ := two_set _ w.heap.size (.int .i64 0) (.int .i64 0) _ _ c0 c1
      exact bodyPost_ret (v := .tuple #[.agg #[.int .i64 0, .int .i64 0], .int .i64 12]) (by simp [results, Tryd.results29, go_sem, s1, s2]) rfl ⟨rfl, by repeat (first | exact hB | refine Below.setCell ?_ (by simp) _)⟩

set_option maxHeartbeats 800000 in
theorem refparse1_good (w : World) (s : ByteArray) (hc : 47 ∉ s.data.toList) (hs : s.size ≤ maxLen) (hok : numB s.data.toList = true) (hr : rightB (numN s.data.toList) 1 = true) (hx : textL (numN s.data.toList) 1 = s.data.toList) :
    Calls Tryd.prog 29 #[.string s] w fun e w' => e = .returned (.tuple #[.agg #[.int .i64 (numN s.data.toList), .int .i64 1], .int .i64 0]) ∧ Below w.heap.size w w' := by
  have n1 := num_bd s.data.toList
  have hs' := hs
  unfold maxLen at hs'
  have heq : (textL (numN s.data.toList) 1 == s.toList) = true := by rw [ByteArray.toList_eq, beq_iff_eq]; exact hx
  clear hx
  go_enter Tryd.func29, Tryd.ntmps29
  go_wp2
  go_loop [5, 6] (fun a i => ∃ k : Nat, k ≤ s.size ∧ i = .int .i64 k ∧ a = .int .i64 s.size) (fun _ i => s.size - (intOf i).toNat)
  case atStart => exact ⟨0, Nat.zero_le _, rfl, rfl⟩
  case round =>
    obtain ⟨k, hk, rfl, rfl⟩ := hrel
    by_cases hlt : k < s.size
    · have hb := at_not s hc k hlt
      go_wp2
      go_round
      case rel => exact ⟨k + 1, by omega, by go_num, rfl⟩
      case measure => simp [intOf]; omega
    · have hke : ¬ (k : Int) < (s.size : Int) := by omega
      go_wp2_with fail
      first | with_reducible refine (refnumber_any s _ hs).mono ?_ | with_reducible refine (number_slice s _ hs).mono ?_
      rintro e w' ⟨rfl, hw'⟩
      rw [hw']
      clear hw' w'
      go_wp2_with fail
      have hB : Below w.heap.size w ((w.alloc (Obj.cells #[Value.int IntKind.i64 0, Value.int IntKind.i64 0] 26)).alloc (Obj.cells #[Value.int IntKind.i64 (numN s.data.toList), Value.int IntKind.i64 1] 26)) := ((Below.refl _ _).alloc (Nat.le_refl _) _).alloc (by simp) _
      have c0 : ((w.alloc (Obj.cells #[Value.int IntKind.i64 0, Value.int IntKind.i64 0] 26)).alloc (Obj.cells #[Value.int IntKind.i64 (numN s.data.toList), Value.int IntKind.i64 1] 26)).cell? ⟨w.heap.size, 0, none⟩ = some (.int .i64 0) := by simp [go_sem]
      have c1 : ((w.alloc (Obj.cells #[Value.int IntKind.i64 0, Value.int IntKind.i64 0] 26)).alloc (Obj.cells #[Value.int IntKind.i64 (numN s.data.toList), Value.int IntKind.i64 1] 26)).cell? ⟨w.heap.size, 1, none⟩ = some (.int .i64 0) := by simp [go_sem]
      have c2 : ((w.alloc (Obj.cells #[Value.int IntKind.i64 0, Value.int IntKind.i64 0] 26)).alloc (Obj.cells #[Value.int IntKind.i64 (numN s.data.toList), Value.int IntKind.i64 1] 26)).cell? ⟨w.heap.size + 1, 0, none⟩ = some (.int .i64 (numN s.data.toList)) := by simp [go_sem]
      have c3 : ((w.alloc (Obj.cells #[Value.int IntKind.i64 0, Value.int IntKind.i64 0] 26)).alloc (Obj.cells #[Value.int IntKind.i64 (numN s.data.toList), Value.int IntKind.i64 1] 26)).cell? ⟨w.heap.size + 1, 1, none⟩ = some (.int .i64 1) := by simp [go_sem]
      have f0 : ((w.alloc (Obj.cells #[Value.int IntKind.i64 0, Value.int IntKind.i64 0] 26)).alloc (Obj.cells #[Value.int IntKind.i64 (numN s.data.toList), Value.int IntKind.i64 1] 26)).frozen? ⟨w.heap.size, 0, none⟩ = false := by simp [go_sem]
      have f1 : ((w.alloc (Obj.cells #[Value.int IntKind.i64 0, Value.int IntKind.i64 0] 26)).alloc (Obj.cells #[Value.int IntKind.i64 (numN s.data.toList), Value.int IntKind.i64 1] 26)).frozen? ⟨w.heap.size, 1, none⟩ = false := by simp [go_sem]
      generalize ((w.alloc (Obj.cells #[Value.int IntKind.i64 0, Value.int IntKind.i64 0] 26)).alloc (Obj.cells #[Value.int IntKind.i64 (numN s.data.toList), Value.int IntKind.i64 1] 26)) = V at hB c0 c1 c2 c3 f0 f1 ⊢
      refine (refright_below _ _ n1.1 n1.2 (by omega) (by omega) V).mono ?_
      rintro e V1 ⟨rfl, hb1⟩
      replace hB := below_via hB hb1 hB.size
      replace f0 := frozen_on hb1 c0 f0
      replace f1 := frozen_on hb1 c1 f1
      replace c0 := cell_later hb1 c0
      replace c1 := cell_later hb1 c1
      replace c2 := cell_later hb1 c2
      replace c3 := cell_later hb1 c3
      clear hb1
      go_wp2_with fail
      refine (reftext_any _ _ n1.1 n1.2 (by omega) (by omega) V1).mono ?_
      rintro e V2 ⟨rfl, hb2⟩
      replace hB := below_via hB hb2 hB.size
      replace f0 := frozen_on hb2 c0 f0
      replace f1 := frozen_on hb2 c1 f1
      replace c0 := cell_later hb2 c0
      replace c1 := cell_later hb2 c1
      replace c2 := cell_later hb2 c2
      replace c3 := cell_later hb2 c3
      clear hb2
      go_wp2
      obtain ⟨s1, s2⟩ := two_set _ w.heap.size (.int .i64 (numN s.data.toList)) (.int .i64 1) _ _ c0 c1
      exact bodyPost_ret (v := .tuple #[.agg #[.int .i64 (numN s.data.toList), .int .i64 1], .int .i64 0]) (by simp [results, Tryd.results29, go_sem, s1, s2]) rfl ⟨rfl, by repeat (first | exact hB | refine Below.setCell ?_ (by simp) _)⟩

set_option maxHeartbeats 800000 in
theorem refparse2_bad1 (w : World) (s : ByteArray) (a b : List UInt8) (h : s.data.toList = a ++ 47 :: b) (ha : 47 ∉ a) (hs : s.size ≤ maxLen) (hok : numB a = false) :
    Calls Tryd.prog 29 #[.string s] w fun e w' => e = .returned (.tuple #[.agg #[.int .i64 0, .int .i64 0], .int .i64 12]) ∧ Below w.heap.size w w' := by
  have n1 := num_bd a
  have n2 := num_bd b
  have hs' := hs
  unfold maxLen at hs'
  have hz : a.length + 1 + b.length = s.size := by
    have := congrArg List.length h
    simp at this; omega
  have x1 : s.extract 0 a.length = ⟨a.toArray⟩ := of_list (by rw [Lib.extract_data, h]; simp)
  have x2 : s.extract (a.length + 1) s.size = ⟨b.toArray⟩ := of_list (by rw [Lib.extract_data, h, ← hz]; simp)
  have za : (⟨a.toArray⟩ : ByteArray).size ≤ maxLen := by show a.length ≤ maxLen; unfold maxLen; omega
  have zb : (⟨b.toArray⟩ : ByteArray).size ≤ maxLen := by show b.length ≤ maxLen; unfold maxLen; omega
  have hnum1 := refnumber_any ⟨a.toArray⟩ (w := ((w.alloc (Obj.cells #[Value.int IntKind.i64 0, Value.int IntKind.i64 0] 26)).alloc (Obj.cells #[Value.int IntKind.i64 0, Value.int IntKind.i64 1] 26))) za
  have hnum2 := refnumber_any ⟨b.toArray⟩ (w := ((w.alloc (Obj.cells #[Value.int IntKind.i64 0, Value.int IntKind.i64 0] 26)).alloc (Obj.cells #[Value.int IntKind.i64 (numN a), Value.int IntKind.i64 1] 26))) zb
  have k1 : Calls Tryd.prog 43 #[.string ⟨a.toArray⟩] ((w.alloc (Obj.cells #[Value.int IntKind.i64 0, Value.int IntKind.i64 0] 26)).alloc (Obj.cells #[Value.int IntKind.i64 0, Value.int IntKind.i64 1] 26)) fun e w' => e = .returned (.tuple #[.int .i64 (numN a), .bool (numB a)]) ∧ w' = ((w.alloc (Obj.cells #[Value.int IntKind.i64 0, Value.int IntKind.i64 0] 26)).alloc (Obj.cells #[Value.int IntKind.i64 0, Value.int IntKind.i64 1] 26)) := by simpa using hnum1
  have k2 : Calls Tryd.prog 43 #[.string ⟨b.toArray⟩] ((w.alloc (Obj.cells #[Value.int IntKind.i64 0, Value.int IntKind.i64 0] 26)).alloc (Obj.cells #[Value.int IntKind.i64 (numN a), Value.int IntKind.i64 1] 26)) fun e w' => e = .returned (.tuple #[.int .i64 (numN b), .bool (numB b)]) ∧ w' = ((w.alloc (Obj.cells #[Value.int IntKind.i64 0, Value.int IntKind.i64 0] 26)).alloc (Obj.cells #[Value.int IntKind.i64 (numN a), Value.int IntKind.i64 1] 26)) := by simpa using hnum2
  have HN1 : Hid (Calls Tryd.prog 43 #[.string ⟨a.toArray⟩] ((w.alloc (Obj.cells #[Value.int IntKind.i64 0, Value.int IntKind.i64 0] 26)).alloc (Obj.cells #[Value.int IntKind.i64 0, Value.int IntKind.i64 1] 26)) fun e w' => e = .returned (.tuple #[.int .i64 (numN a), .bool (numB a)]) ∧ w' = ((w.alloc (Obj.cells #[Value.int IntKind.i64 0, Value.int IntKind.i64 0] 26)).alloc (Obj.cells #[Value.int IntKind.i64 0, Value.int IntKind.i64 1] 26))) := k1
  have HN2 : Hid (Calls Tryd.prog 43 #[.string ⟨b.toArray⟩] ((w.alloc (Obj.cells #[Value.int IntKind.i64 0, Value.int IntKind.i64 0] 26)).alloc (Obj.cells #[Value.int IntKind.i64 (numN a), Value.int IntKind.i64 1] 26)) fun e w' => e = .returned (.tuple #[.int .i64 (numN b), .bool (numB b)]) ∧ w' = ((w.alloc (Obj.cells #[Value.int IntKind.i64 0, Value.int IntKind.i64 0] 26)).alloc (Obj.cells #[Value.int IntKind.i64 (numN a), Value.int IntKind.i64 1] 26))) := k2
  clear k1 k2
  have y3 : a.length < s.size := by omega
  have hsl := at_slash s a b h y3
  have HF : Hid (∀ (k : Nat) (_ : k < a.length) (hk' : k < s.size), ((s[k].toNat : Int) == 47) = false) := fun k hk hk' => at_front s a b h ha k hk hk'
  have y1 : (a.length : Int) < (s.size : Int) := by omega
  have y2 : (a.length : Int) + 1 ≤ (s.size : Int) := by omega
  clear hnum1 hnum2 za zb
  have HH : Hid (s.data.toList = a ++ 47 :: b) := h
  clear h hz
  go_enter Tryd.func29, Tryd.ntmps29
  go_wp2
  go_loop [5, 6] (fun t i => ∃ k : Nat, k ≤ a.length ∧ i = .int .i64 k ∧ t = .int .i64 s.size) (fun _ i => a.length - (intOf i).toNat)
  case atStart => exact ⟨0, Nat.zero_le _, rfl, rfl⟩
  case round =>
    obtain ⟨k, hk, rfl, rfl⟩ := hrel
    by_cases hlt : k < a.length
    · have hks : k < s.size := by omega
      have hb := HF.out k hlt hks
      go_wp2
      go_round
      case rel => exact ⟨k + 1, by omega, by go_num, rfl⟩
      case measure => simp [intOf]; omega
    · have hk' : k = a.length := by omega
      subst hk'
      clear hlt hk HF
      go_wp2_with fail
      with_reducible refine HN1.out.mono ?_
      rintro e w' ⟨rfl, hw'⟩
      rw [hw']
      clear hw' w' HN1
      go_wp2_with fail
      with_reducible refine HN2.out.mono ?_
      rintro e w' ⟨rfl, hw'⟩
      rw [hw']
      clear hw' w' HN2
      go_wp2
      exact bodyPost_ret (v := .tuple #[.agg #[.int .i64 0, .int .i64 0], .int .i64 12]) (by simp [results, Tryd.results29, go_sem]) rfl ⟨rfl, by repeat (first | exact Below.refl _ _ | refine below_drewN ?_ _ | refine Below.setCell ?_ (by first | omega | (simp <;> omega)) _ | refine Below.alloc ?_ (by first | omega | (simp <;> omega)) _)⟩

set_option maxHeartbeats 800000 in
theorem refparse2_bad2 (w : World) (s : ByteArray) (a b : List UInt8) (h : s.data.toList = a ++ 47 :: b) (ha : 47 ∉ a) (hs : s.size ≤ maxLen) (hok : numB a = true) (hok2 : numB b = false) :
    Calls Tryd.prog 29 #[.string s] w fun e w' => e = .returned (.tuple #[.agg #[.int .i64 0, .int .i64 0], .int .i64 12]) ∧ Below w.heap.size w w' := by
  have n1 := num_bd a
  have n2 := num_bd b
  have hs' := hs
  unfold maxLen at hs'
  have hz : a.length + 1 + b.length = s.size := by
    have := congrArg List.length h
    simp at this; omega
  have x1 : s.extract 0 a.length = ⟨a.toArray⟩ := of_list (by rw [Lib.extract_data, h]; simp)
  have x2 : s.extract (a.length + 1) s.size = ⟨b.toArray⟩ := of_list (by rw [Lib.extract_data, h, ← hz]; simp)
  have za : (⟨a.toArray⟩ : ByteArray).size ≤ maxLen := by show a.length ≤ maxLen; unfold maxLen; omega
  have zb : (⟨b.toArray⟩ : ByteArray).size ≤ maxLen := by show b.length ≤ maxLen; unfold maxLen; omega
  have hnum1 := refnumber_any ⟨a.toArray⟩ (w := ((w.alloc (Obj.cells #[Value.int IntKind.i64 0, Value.int IntKind.i64 0] 26)).alloc (Obj.cells #[Value.int IntKind.i64 0, Value.int IntKind.i64 1] 26))) za
  have hnum2 := refnumber_any ⟨b.toArray⟩ (w := ((w.alloc (Obj.cells #[Value.int IntKind.i64 0, Value.int IntKind.i64 0] 26)).alloc (Obj.cells #[Value.int IntKind.i64 (numN a), Value.int IntKind.i64 1] 26))) zb
  have k1 : Calls Tryd.prog 43 #[.string ⟨a.toArray⟩] ((w.alloc (Obj.cells #[Value.int IntKind.i64 0, Value.int IntKind.i64 0] 26)).alloc (Obj.cells #[Value.int IntKind.i64 0, Value.int IntKind.i64 1] 26)) fun e w' => e = .returned (.tuple #[.int .i64 (numN a), .bool (numB a)]) ∧ w' = ((w.alloc (Obj.cells #[Value.int IntKind.i64 0, Value.int IntKind.i64 0] 26)).alloc (Obj.cells #[Value.int IntKind.i64 0, Value.int IntKind.i64 1] 26)) := by simpa using hnum1
  have k2 : Calls Tryd.prog 43 #[.string ⟨b.toArray⟩] ((w.alloc (Obj.cells #[Value.int IntKind.i64 0, Value.int IntKind.i64 0] 26)).alloc (Obj.cells #[Value.int IntKind.i64 (numN a), Value.int IntKind.i64 1] 26)) fun e w' => e = .returned (.tuple #[.int .i64 (numN b), .bool (numB b)]) ∧ w' = ((w.alloc (Obj.cells #[Value.int IntKind.i64 0, Value.int IntKind.i64 0] 26)).alloc (Obj.cells #[Value.int IntKind.i64 (numN a), Value.int IntKind.i64 1] 26)) := by simpa using hnum2
  have HN1 : Hid (Calls Tryd.prog 43 #[.string ⟨a.toArray⟩] ((w.alloc (Obj.cells #[Value.int IntKind.i64 0, Value.int IntKind.i64 0] 26)).alloc (Obj.cells #[Value.int IntKind.i64 0, Value.int IntKind.i64 1] 26)) fun e w' => e = .returned (.tuple #[.int .i64 (numN a), .bool (numB a)]) ∧ w' = ((w.alloc (Obj.cells #[Value.int IntKind.i64 0, Value.int IntKind.i64 0] 26)).alloc (Obj.cells #[Value.int IntKind.i64 0, Value.int IntKind.i64 1] 26))) := k1
  have HN2 : Hid (Calls Tryd.prog 43 #[.string ⟨b.toArray⟩] ((w.alloc (Obj.cells #[Value.int IntKind.i64 0, Value.int IntKind.i64 0] 26)).alloc (Obj.cells #[Value.int IntKind.i64 (numN a), Value.int IntKind.i64 1] 26)) fun e w' => e = .returned (.tuple #[.int .i64 (numN b), .bool (numB b)]) ∧ w' = ((w.alloc (Obj.cells #[Value.int IntKind.i64 0, Value.int IntKind.i64 0] 26)).alloc (Obj.cells #[Value.int IntKind.i64 (numN a), Value.int IntKind.i64 1] 26))) := k2
  clear k1 k2
  have y3 : a.length < s.size := by omega
  have hsl := at_slash s a b h y3
  have HF : Hid (∀ (k : Nat) (_ : k < a.length) (hk' : k < s.size), ((s[k].toNat : Int) == 47) = false) := fun k hk hk' => at_front s a b h ha k hk hk'
  have y1 : (a.length : Int) < (s.size : Int) := by omega
  have y2 : (a.length : Int) + 1 ≤ (s.size : Int) := by omega
  clear hnum1 hnum2 za zb
  have HH : Hid (s.data.toList = a ++ 47 :: b) := h
  clear h hz
  go_enter Tryd.func29, Tryd.ntmps29
  go_wp2
  go_loop [5, 6] (fun t i => ∃ k : Nat, k ≤ a.length ∧ i = .int .i64 k ∧ t = .int .i64 s.size) (fun _ i => a.length - (intOf i).toNat)
  case atStart => exact ⟨0, Nat.zero_le _, rfl, rfl⟩
  case round =>
    obtain ⟨k, hk, rfl, rfl⟩ := hrel
    by_cases hlt : k < a.length
    · have hks : k < s.size := by omega
      have hb := HF.out k hlt hks
      go_wp2
      go_round
      case rel => exact ⟨k + 1, by omega, by go_num, rfl⟩
      case measure => simp [intOf]; omega
    · have hk' : k = a.length := by omega
      subst hk'
      clear hlt hk HF
      go_wp2_with fail
      with_reducible refine HN1.out.mono ?_
      rintro e w' ⟨rfl, hw'⟩
      rw [hw']
      clear hw' w' HN1
      go_wp2_with fail
      with_reducible refine HN2.out.mono ?_
      rintro e w' ⟨rfl, hw'⟩
      rw [hw']
      clear hw' w' HN2
      go_wp2
      exact bodyPost_ret (v := .tuple #[.agg #[.int .i64 0, .int .i64 0], .int .i64 12]) (by simp [results, Tryd.results29, go_sem]) rfl ⟨rfl, by repeat (first | exact Below.refl _ _ | refine below_drewN ?_ _ | refine Below.setCell ?_ (by first | omega | (simp <;> omega)) _ | refine Below.alloc ?_ (by first | omega | (simp <;> omega)) _)⟩

set_option maxHeartbeats 800000 in
theorem refparse2_wrong (w : World) (s : ByteArray) (a b : List UInt8) (h : s.data.toList = a ++ 47 :: b) (ha : 47 ∉ a) (hs : s.size ≤ maxLen) (hok : numB a = true) (hok2 : numB b = true) (hr : rightB (numN a) (numN b) = false) :
    Calls Tryd.prog 29 #[.string s] w fun e w' => e = .returned (.tuple #[.agg #[.int .i64 0, .int .i64 0], .int .i64 12]) ∧ Below w.heap.size w w' := by
  have n1 := num_bd a
  have n2 := num_bd b
  have hs' := hs
  unfold maxLen at hs'
  have hz : a.length + 1 + b.length = s.size := by
    have := congrArg List.length h
    simp at this; omega
  have x1 : s.extract 0 a.length = ⟨a.toArray⟩ := of_list (by rw [Lib.extract_data, h]; simp)
  have x2 : s.extract (a.length + 1) s.size = ⟨b.toArray⟩ := of_list (by rw [Lib.extract_data, h, ← hz]; simp)
  have za : (⟨a.toArray⟩ : ByteArray).size ≤ maxLen := by show a.length ≤ maxLen; unfold maxLen; omega
  have zb : (⟨b.toArray⟩ : ByteArray).size ≤ maxLen := by show b.length ≤ maxLen; unfold maxLen; omega
  have hnum1 := refnumber_any ⟨a.toArray⟩ (w := ((w.alloc (Obj.cells #[Value.int IntKind.i64 0, Value.int IntKind.i64 0] 26)).alloc (Obj.cells #[Value.int IntKind.i64 0, Value.int IntKind.i64 1] 26))) za
  have hnum2 := refnumber_any ⟨b.toArray⟩ (w := ((w.alloc (Obj.cells #[Value.int IntKind.i64 0, Value.int IntKind.i64 0] 26)).alloc (Obj.cells #[Value.int IntKind.i64 (numN a), Value.int IntKind.i64 1] 26))) zb
  have k1 : Calls Tryd.prog 43 #[.string ⟨a.toArray⟩] ((w.alloc (Obj.cells #[Value.int IntKind.i64 0, Value.int IntKind.i64 0] 26)).alloc (Obj.cells #[Value.int IntKind.i64 0, Value.int IntKind.i64 1] 26)) fun e w' => e = .returned (.tuple #[.int .i64 (numN a), .bool (numB a)]) ∧ w' = ((w.alloc (Obj.cells #[Value.int IntKind.i64 0, Value.int IntKind.i64 0] 26)).alloc (Obj.cells #[Value.int IntKind.i64 0, Value.int IntKind.i64 1] 26)) := by simpa using hnum1
  have k2 : Calls Tryd.prog 43 #[.string ⟨b.toArray⟩] ((w.alloc (Obj.cells #[Value.int IntKind.i64 0, Value.int IntKind.i64 0] 26)).alloc (Obj.cells #[Value.int IntKind.i64 (numN a), Value.int IntKind.i64 1] 26)) fun e w' => e = .returned (.tuple #[.int .i64 (numN b), .bool (numB b)]) ∧ w' = ((w.alloc (Obj.cells #[Value.int IntKind.i64 0, Value.int IntKind.i64 0] 26)).alloc (Obj.cells #[Value.int IntKind.i64 (numN a), Value.int IntKind.i64 1] 26)) := by simpa using hnum2
  have HN1 : Hid (Calls Tryd.prog 43 #[.string ⟨a.toArray⟩] ((w.alloc (Obj.cells #[Value.int IntKind.i64 0, Value.int IntKind.i64 0] 26)).alloc (Obj.cells #[Value.int IntKind.i64 0, Value.int IntKind.i64 1] 26)) fun e w' => e = .returned (.tuple #[.int .i64 (numN a), .bool (numB a)]) ∧ w' = ((w.alloc (Obj.cells #[Value.int IntKind.i64 0, Value.int IntKind.i64 0] 26)).alloc (Obj.cells #[Value.int IntKind.i64 0, Value.int IntKind.i64 1] 26))) := k1
  have HN2 : Hid (Calls Tryd.prog 43 #[.string ⟨b.toArray⟩] ((w.alloc (Obj.cells #[Value.int IntKind.i64 0, Value.int IntKind.i64 0] 26)).alloc (Obj.cells #[Value.int IntKind.i64 (numN a), Value.int IntKind.i64 1] 26)) fun e w' => e = .returned (.tuple #[.int .i64 (numN b), .bool (numB b)]) ∧ w' = ((w.alloc (Obj.cells #[Value.int IntKind.i64 0, Value.int IntKind.i64 0] 26)).alloc (Obj.cells #[Value.int IntKind.i64 (numN a), Value.int IntKind.i64 1] 26))) := k2
  clear k1 k2
  have y3 : a.length < s.size := by omega
  have hsl := at_slash s a b h y3
  have HF : Hid (∀ (k : Nat) (_ : k < a.length) (hk' : k < s.size), ((s[k].toNat : Int) == 47) = false) := fun k hk hk' => at_front s a b h ha k hk hk'
  have y1 : (a.length : Int) < (s.size : Int) := by omega
  have y2 : (a.length : Int) + 1 ≤ (s.size : Int) := by omega
  clear hnum1 hnum2 za zb
  have HH : Hid (s.data.toList = a ++ 47 :: b) := h
  clear h hz
  go_enter Tryd.func29, Tryd.ntmps29
  go_wp2
  go_loop [5, 6] (fun t i => ∃ k : Nat, k ≤ a.length ∧ i = .int .i64 k ∧ t = .int .i64 s.size) (fun _ i => a.length - (intOf i).toNat)
  case atStart => exact ⟨0, Nat.zero_le _, rfl, rfl⟩
  case round =>
    obtain ⟨k, hk, rfl, rfl⟩ := hrel
    by_cases hlt : k < a.length
    · have hks : k < s.size := by omega
      have hb := HF.out k hlt hks
      go_wp2
      go_round
      case rel => exact ⟨k + 1, by omega, by go_num, rfl⟩
      case measure => simp [intOf]; omega
    · have hk' : k = a.length := by omega
      subst hk'
      clear hlt hk HF
      go_wp2_with fail
      with_reducible refine HN1.out.mono ?_
      rintro e w' ⟨rfl, hw'⟩
      rw [hw']
      clear hw' w' HN1
      go_wp2_with fail
      with_reducible refine HN2.out.mono ?_
      rintro e w' ⟨rfl, hw'⟩
      rw [hw']
      clear hw' w' HN2
      go_wp2_with fail
      have hB : Below w.heap.size w ((w.alloc (Obj.cells #[Value.int IntKind.i64 0, Value.int IntKind.i64 0] 26)).alloc (Obj.cells #[Value.int IntKind.i64 (numN a), Value.int IntKind.i64 (numN b)] 26)) := ((Below.refl _ _).alloc (Nat.le_refl _) _).alloc (by simp) _
      have c0 : ((w.alloc (Obj.cells #[Value.int IntKind.i64 0, Value.int IntKind.i64 0] 26)).alloc (Obj.cells #[Value.int IntKind.i64 (numN a), Value.int IntKind.i64 (numN b)] 26)).cell? ⟨w.heap.size, 0, none⟩ = some (.int .i64 0) := by simp [go_sem]
      have c1 : ((w.alloc (Obj.cells #[Value.int IntKind.i64 0, Value.int IntKind.i64 0] 26)).alloc (Obj.cells #[Value.int IntKind.i64 (numN a), Value.int IntKind.i64 (numN b)] 26)).cell? ⟨w.heap.size, 1, none⟩ = some (.int .i64 0) := by simp [go_sem]
      have c2 : ((w.alloc (Obj.cells #[Value.int IntKind.i64 0, Value.int IntKind.i64 0] 26)).alloc (Obj.cells #[Value.int IntKind.i64 (numN a), Value.int IntKind.i64 (numN b)] 26)).cell? ⟨w.heap.size + 1, 0, none⟩ = some (.int .i64 (numN a)) := by simp [go_sem]
      have c3 : ((w.alloc (Obj.cells #[Value.int IntKind.i64 0, Value.int IntKind.i64 0] 26)).alloc (Obj.cells #[Value.int IntKind.i64 (numN a), Value.int IntKind.i64 (numN b)] 26)).cell? ⟨w.heap.size + 1, 1, none⟩ = some (.int .i64 (numN b)) := by simp [go_sem]
      have f0 : ((w.alloc (Obj.cells #[Value.int IntKind.i64 0, Value.int IntKind.i64 0] 26)).alloc (Obj.cells #[Value.int IntKind.i64 (numN a), Value.int IntKind.i64 (numN b)] 26)).frozen? ⟨w.heap.size, 0, none⟩ = false := by simp [go_sem]
      have f1 : ((w.alloc (Obj.cells #[Value.int IntKind.i64 0, Value.int IntKind.i64 0] 26)).alloc (Obj.cells #[Value.int IntKind.i64 (numN a), Value.int IntKind.i64 (numN b)] 26)).frozen? ⟨w.heap.size, 1, none⟩ = false := by simp [go_sem]
      generalize ((w.alloc (Obj.cells #[Value.int IntKind.i64 0, Value.int IntKind.i64 0] 26)).alloc (Obj.cells #[Value.int IntKind.i64 (numN a), Value.int IntKind.i64 (numN b)] 26)) = V at hB c0 c1 c2 c3 f0 f1 ⊢
      refine (refright_below _ _ n1.1 n1.2 n2.1 n2.2 V).mono ?_
      rintro e V1 ⟨rfl, hb1⟩
      replace hB := below_via hB hb1 hB.size
      replace f0 := frozen_on hb1 c0 f0
      replace f1 := frozen_on hb1 c1 f1
      replace c0 := cell_later hb1 c0
      replace c1 := cell_later hb1 c1
      replace c2 := cell_later hb1 c2
      replace c3 := cell_later hb1 c3
      clear hb1
      go_wp2
      obtain ⟨s1, s2⟩ := two_set _ w.heap.size (.int .i64 0) (.int .i64 0) _ _ c0 c1
      exact bodyPost_ret (v := .tuple #[.agg #[.int .i64 0, .int .i64 0], .int .i64 12]) (by simp [results, Tryd.results29, go_sem, s1, s2]) rfl ⟨rfl, by repeat (first | exact hB | refine Below.setCell ?_ (by simp) _)⟩

set_option maxHeartbeats 800000 in
theorem refparse2_other (w : World) (s : ByteArray) (a b : List UInt8) (h : s.data.toList = a ++ 47 :: b) (ha : 47 ∉ a) (hs : s.size ≤ maxLen) (hok : numB a = true) (hok2 : numB b = true) (hr : rightB (numN a) (numN b) = true) (hx : textL (numN a) (numN b) ≠ s.data.toList) :
    Calls Tryd.prog 29 #[.string s] w fun e w' => e = .returned (.tuple #[.agg #[.int .i64 0, .int .i64 0], .int .i64 12]) ∧ Below w.heap.size w w' := by
  have n1 := num_bd a
  have n2 := num_bd b
  have hs' := hs
  unfold maxLen at hs'
  have hz : a.length + 1 + b.length = s.size := by
    have := congrArg List.length h
    simp at this; omega
  have x1 : s.extract 0 a.length = ⟨a.toArray⟩ := of_list (by rw [Lib.extract_data, h]; simp)
  have x2 : s.extract (a.length + 1) s.size = ⟨b.toArray⟩ := of_list (by rw [Lib.extract_data, h, ← hz]; simp)
  have za : (⟨a.toArray⟩ : ByteArray).size ≤ maxLen := by show a.length ≤ maxLen; unfold maxLen; omega
  have zb : (⟨b.toArray⟩ : ByteArray).size ≤ maxLen := by show b.length ≤ maxLen; unfold maxLen; omega
  have hnum1 := refnumber_any ⟨a.toArray⟩ (w := ((w.alloc (Obj.cells #[Value.int IntKind.i64 0, Value.int IntKind.i64 0] 26)).alloc (Obj.cells #[Value.int IntKind.i64 0, Value.int IntKind.i64 1] 26))) za
  have hnum2 := refnumber_any ⟨b.toArray⟩ (w := ((w.alloc (Obj.cells #[Value.int IntKind.i64 0, Value.int IntKind.i64 0] 26)).alloc (Obj.cells #[Value.int IntKind.i64 (numN a), Value.int IntKind.i64 1] 26))) zb
  have k1 : Calls Tryd.prog 43 #[.string ⟨a.toArray⟩] ((w.alloc (Obj.cells #[Value.int IntKind.i64 0, Value.int IntKind.i64 0] 26)).alloc (Obj.cells #[Value.int IntKind.i64 0, Value.int IntKind.i64 1] 26)) fun e w' => e = .returned (.tuple #[.int .i64 (numN a), .bool (numB a)]) ∧ w' = ((w.alloc (Obj.cells #[Value.int IntKind.i64 0, Value.int IntKind.i64 0] 26)).alloc (Obj.cells #[Value.int IntKind.i64 0, Value.int IntKind.i64 1] 26)) := by simpa using hnum1
  have k2 : Calls Tryd.prog 43 #[.string ⟨b.toArray⟩] ((w.alloc (Obj.cells #[Value.int IntKind.i64 0, Value.int IntKind.i64 0] 26)).alloc (Obj.cells #[Value.int IntKind.i64 (numN a), Value.int IntKind.i64 1] 26)) fun e w' => e = .returned (.tuple #[.int .i64 (numN b), .bool (numB b)]) ∧ w' = ((w.alloc (Obj.cells #[Value.int IntKind.i64 0, Value.int IntKind.i64 0] 26)).alloc (Obj.cells #[Value.int IntKind.i64 (numN a), Value.int IntKind.i64 1] 26)) := by simpa using hnum2
  have HN1 : Hid (Calls Tryd.prog 43 #[.string ⟨a.toArray⟩] ((w.alloc (Obj.cells #[Value.int IntKind.i64 0, Value.int IntKind.i64 0] 26)).alloc (Obj.cells #[Value.int IntKind.i64 0, Value.int IntKind.i64 1] 26)) fun e w' => e = .returned (.tuple #[.int .i64 (numN a), .bool (numB a)]) ∧ w' = ((w.alloc (Obj.cells #[Value.int IntKind.i64 0, Value.int IntKind.i64 0] 26)).alloc (Obj.cells #[Value.int IntKind.i64 0, Value.int IntKind.i64 1] 26))) := k1
  have HN2 : Hid (Calls Tryd.prog 43 #[.string ⟨b.toArray⟩] ((w.alloc (Obj.cells #[Value.int IntKind.i64 0, Value.int IntKind.i64 0] 26)).alloc (Obj.cells #[Value.int IntKind.i64 (numN a), Value.int IntKind.i64 1] 26)) fun e w' => e = .returned (.tuple #[.int .i64 (numN b), .bool (numB b)]) ∧ w' = ((w.alloc (Obj.cells #[Value.int IntKind.i64 0, Value.int IntKind.i64 0] 26)).alloc (Obj.cells #[Value.int IntKind.i64 (numN a), Value.int IntKind.i64 1] 26))) := k2
  clear k1 k2
  have y3 : a.length < s.size := by omega
  have hsl := at_slash s a b h y3
  have HF : Hid (∀ (k : Nat) (_ : k < a.length) (hk' : k < s.size), ((s[k].toNat : Int) == 47) = false) := fun k hk hk' => at_front s a b h ha k hk hk'
  have y1 : (a.length : Int) < (s.size : Int) := by omega
  have y2 : (a.length : Int) + 1 ≤ (s.size : Int) := by omega
  clear hnum1 hnum2 za zb
  have hne : (textL (numN a) (numN b) == s.toList) = false := by rw [ByteArray.toList_eq, beq_eq_false_iff_ne]; exact hx
  clear hx
  have HH : Hid (s.data.toList = a ++ 47 :: b) := h
  clear h hz
  go_enter Tryd.func29, Tryd.ntmps29
  go_wp2
  go_loop [5, 6] (fun t i => ∃ k : Nat, k ≤ a.length ∧ i = .int .i64 k ∧ t = .int .i64 s.size) (fun _ i => a.length - (intOf i).toNat)
  case atStart => exact ⟨0, Nat.zero_le _, rfl, rfl⟩
  case round =>
    obtain ⟨k, hk, rfl, rfl⟩ := hrel
    by_cases hlt : k < a.length
    · have hks : k < s.size := by omega
      have hb := HF.out k hlt hks
      go_wp2
      go_round
      case rel => exact ⟨k + 1, by omega, by go_num, rfl⟩
      case measure => simp [intOf]; omega
    · have hk' : k = a.length := by omega
      subst hk'
      clear hlt hk HF
      go_wp2_with fail
      with_reducible refine HN1.out.mono ?_
      rintro e w' ⟨rfl, hw'⟩
      rw [hw']
      clear hw' w' HN1
      go_wp2_with fail
      with_reducible refine HN2.out.mono ?_
      rintro e w' ⟨rfl, hw'⟩
      rw [hw']
      clear hw' w' HN2
      go_wp2_with fail
      have hB : Below w.heap.size w ((w.alloc (Obj.cells #[Value.int IntKind.i64 0, Value.int IntKind.i64 0] 26)).alloc (Obj.cells #[Value.int IntKind.i64 (numN a), Value.int IntKind.i64 (numN b)] 26)) := ((Below.refl _ _).alloc (Nat.le_refl _) _).alloc (by simp) _
      have c0 : ((w.alloc (Obj.cells #[Value.int IntKind.i64 0, Value.int IntKind.i64 0] 26)).alloc (Obj.cells #[Value.int IntKind.i64 (numN a), Value.int IntKind.i64 (numN b)] 26)).cell? ⟨w.heap.size, 0, none⟩ = some (.int .i64 0) := by simp [go_sem]
      have c1 : ((w.alloc (Obj.cells #[Value.int IntKind.i64 0, Value.int IntKind.i64 0] 26)).alloc (Obj.cells #[Value.int IntKind.i64 (numN a), Value.int IntKind.i64 (numN b)] 26)).cell? ⟨w.heap.size, 1, none⟩ = some (.int .i64 0) := by simp [go_sem]
      have c2 : ((w.alloc (Obj.cells #[Value.int IntKind.i64 0, Value.int IntKind.i64 0] 26)).alloc (Obj.cells #[Value.int IntKind.i64 (numN a), Value.int IntKind.i64 (numN b)] 26)).cell? ⟨w.heap.size + 1, 0, none⟩ = some (.int .i64 (numN a)) := by simp [go_sem]
      have c3 : ((w.alloc (Obj.cells #[Value.int IntKind.i64 0, Value.int IntKind.i64 0] 26)).alloc (Obj.cells #[Value.int IntKind.i64 (numN a), Value.int IntKind.i64 (numN b)] 26)).cell? ⟨w.heap.size + 1, 1, none⟩ = some (.int .i64 (numN b)) := by simp [go_sem]
      have f0 : ((w.alloc (Obj.cells #[Value.int IntKind.i64 0, Value.int IntKind.i64 0] 26)).alloc (Obj.cells #[Value.int IntKind.i64 (numN a), Value.int IntKind.i64 (numN b)] 26)).frozen? ⟨w.heap.size, 0, none⟩ = false := by simp [go_sem]
      have f1 : ((w.alloc (Obj.cells #[Value.int IntKind.i64 0, Value.int IntKind.i64 0] 26)).alloc (Obj.cells #[Value.int IntKind.i64 (numN a), Value.int IntKind.i64 (numN b)] 26)).frozen? ⟨w.heap.size, 1, none⟩ = false := by simp [go_sem]
      generalize ((w.alloc (Obj.cells #[Value.int IntKind.i64 0, Value.int IntKind.i64 0] 26)).alloc (Obj.cells #[Value.int IntKind.i64 (numN a), Value.int IntKind.i64 (numN b)] 26)) = V at hB c0 c1 c2 c3 f0 f1 ⊢
      refine (refright_below _ _ n1.1 n1.2 n2.1 n2.2 V).mono ?_
      rintro e V1 ⟨rfl, hb1⟩
      replace hB := below_via hB hb1 hB.size
      replace f0 := frozen_on hb1 c0 f0
      replace f1 := frozen_on hb1 c1 f1
      replace c0 := cell_later hb1 c0
      replace c1 := cell_later hb1 c1
      replace c2 := cell_later hb1 c2
      replace c3 := cell_later hb1 c3
      clear hb1
      go_wp2_with fail
      refine (reftext_any _ _ n1.1 n1.2 n2.1 n2.2 V1).mono ?_
      rintro e V2 ⟨rfl, hb2⟩
      replace hB := below_via hB hb2 hB.size
      replace f0 := frozen_on hb2 c0 f0
      replace f1 := frozen_on hb2 c1 f1
      replace c0 := cell_later hb2 c0
      replace c1 := cell_later hb2 c1
      replace c2 := cell_later hb2 c2
      replace c3 := cell_later hb2 c3
      clear hb2
      go_wp2
      obtain ⟨s1, s2⟩ := two_set _ w.heap.size (.int .i64 0) (.int .i64 0) _ _ c0 c1
      exact bodyPost_ret (v := .tuple #[.agg #[.int .i64 0, .int .i64 0], .int .i64 12]) (by simp [results, Tryd.results29, go_sem, s1, s2]) rfl ⟨rfl, by repeat (first | exact hB | refine Below.setCell ?_ (by simp) _)⟩

set_option maxHeartbeats 800000 in
theorem refparse2_good (w : World) (s : ByteArray) (a b : List UInt8) (h : s.data.toList = a ++ 47 :: b) (ha : 47 ∉ a) (hs : s.size ≤ maxLen) (hok : numB a = true) (hok2 : numB b = true) (hr : rightB (numN a) (numN b) = true) (hx : textL (numN a) (numN b) = s.data.toList) :
    Calls Tryd.prog 29 #[.string s] w fun e w' => e = .returned (.tuple #[.agg #[.int .i64 (numN a), .int .i64 (numN b)], .int .i64 0]) ∧ Below w.heap.size w w' := by
  have n1 := num_bd a
  have n2 := num_bd b
  have hs' := hs
  unfold maxLen at hs'
  have hz : a.length + 1 + b.length = s.size := by
    have := congrArg List.length h
    simp at this; omega
  have x1 : s.extract 0 a.length = ⟨a.toArray⟩ := of_list (by rw [Lib.extract_data, h]; simp)
  have x2 : s.extract (a.length + 1) s.size = ⟨b.toArray⟩ := of_list (by rw [Lib.extract_data, h, ← hz]; simp)
  have za : (⟨a.toArray⟩ : ByteArray).size ≤ maxLen := by show a.length ≤ maxLen; unfold maxLen; omega
  have zb : (⟨b.toArray⟩ : ByteArray).size ≤ maxLen := by show b.length ≤ maxLen; unfold maxLen; omega
  have hnum1 := refnumber_any ⟨a.toArray⟩ (w := ((w.alloc (Obj.cells #[Value.int IntKind.i64 0, Value.int IntKind.i64 0] 26)).alloc (Obj.cells #[Value.int IntKind.i64 0, Value.int IntKind.i64 1] 26))) za
  have hnum2 := refnumber_any ⟨b.toArray⟩ (w := ((w.alloc (Obj.cells #[Value.int IntKind.i64 0, Value.int IntKind.i64 0] 26)).alloc (Obj.cells #[Value.int IntKind.i64 (numN a), Value.int IntKind.i64 1] 26))) zb
  have k1 : Calls Tryd.prog 43 #[.string ⟨a.toArray⟩] ((w.alloc (Obj.cells #[Value.int IntKind.i64 0, Value.int IntKind.i64 0] 26)).alloc (Obj.cells #[Value.int IntKind.i64 0, Value.int IntKind.i64 1] 26)) fun e w' => e = .returned (.tuple #[.int .i64 (numN a), .bool (numB a)]) ∧ w' = ((w.alloc (Obj.cells #[Value.int IntKind.i64 0, Value.int IntKind.i64 0] 26)).alloc (Obj.cells #[Value.int IntKind.i64 0, Value.int IntKind.i64 1] 26)) := by simpa using hnum1
  have k2 : Calls Tryd.prog 43 #[.string ⟨b.toArray⟩] ((w.alloc (Obj.cells #[Value.int IntKind.i64 0, Value.int IntKind.i64 0] 26)).alloc (Obj.cells #[Value.int IntKind.i64 (numN a), Value.int IntKind.i64 1] 26)) fun e w' => e = .returned (.tuple #[.int .i64 (numN b), .bool (numB b)]) ∧ w' = ((w.alloc (Obj.cells #[Value.int IntKind.i64 0, Value.int IntKind.i64 0] 26)).alloc (Obj.cells #[Value.int IntKind.i64 (numN a), Value.int IntKind.i64 1] 26)) := by simpa using hnum2
  have HN1 : Hid (Calls Tryd.prog 43 #[.string ⟨a.toArray⟩] ((w.alloc (Obj.cells #[Value.int IntKind.i64 0, Value.int IntKind.i64 0] 26)).alloc (Obj.cells #[Value.int IntKind.i64 0, Value.int IntKind.i64 1] 26)) fun e w' => e = .returned (.tuple #[.int .i64 (numN a), .bool (numB a)]) ∧ w' = ((w.alloc (Obj.cells #[Value.int IntKind.i64 0, Value.int IntKind.i64 0] 26)).alloc (Obj.cells #[Value.int IntKind.i64 0, Value.int IntKind.i64 1] 26))) := k1
  have HN2 : Hid (Calls Tryd.prog 43 #[.string ⟨b.toArray⟩] ((w.alloc (Obj.cells #[Value.int IntKind.i64 0, Value.int IntKind.i64 0] 26)).alloc (Obj.cells #[Value.int IntKind.i64 (numN a), Value.int IntKind.i64 1] 26)) fun e w' => e = .returned (.tuple #[.int .i64 (numN b), .bool (numB b)]) ∧ w' = ((w.alloc (Obj.cells #[Value.int IntKind.i64 0, Value.int IntKind.i64 0] 26)).alloc (Obj.cells #[Value.int IntKind.i64 (numN a), Value.int IntKind.i64 1] 26))) := k2
  clear k1 k2
  have y3 : a.length < s.size := by omega
  have hsl := at_slash s a b h y3
  have HF : Hid (∀ (k : Nat) (_ : k < a.length) (hk' : k < s.size), ((s[k].toNat : Int) == 47) = false) := fun k hk hk' => at_front s a b h ha k hk hk'
  have y1 : (a.length : Int) < (s.size : Int) := by omega
  have y2 : (a.length : Int) + 1 ≤ (s.size : Int) := by omega
  clear hnum1 hnum2 za zb
  have heq : (textL (numN a) (numN b) == s.toList) = true := by rw [ByteArray.toList_eq, beq_iff_eq]; exact hx
  clear hx
  have HH : Hid (s.data.toList = a ++ 47 :: b) := h
  clear h hz
  go_enter Tryd.func29, Tryd.ntmps29
  go_wp2
  go_loop [5, 6] (fun t i => ∃ k : Nat, k ≤ a.length ∧ i = .int .i64 k ∧ t = .int .i64 s.size) (fun _ i => a.length - (intOf i).toNat)
  case atStart => exact ⟨0, Nat.zero_le _, rfl, rfl⟩
  case round =>
    obtain ⟨k, hk, rfl, rfl⟩ := hrel
    by_cases hlt : k < a.length
    · have hks : k < s.size := by omega
      have hb := HF.out k hlt hks
      go_wp2
      go_round
      case rel => exact ⟨k + 1, by omega, by go_num, rfl⟩
      case measure => simp [intOf]; omega
    · have hk' : k = a.length := by omega
      subst hk'
      clear hlt hk HF
      go_wp2_with fail
      with_reducible refine HN1.out.mono ?_
      rintro e w' ⟨rfl, hw'⟩
      rw [hw']
      clear hw' w' HN1
      go_wp2_with fail
      with_reducible refine HN2.out.mono ?_
      rintro e w' ⟨rfl, hw'⟩
      rw [hw']
      clear hw' w' HN2
      go_wp2_with fail
      have hB : Below w.heap.size w ((w.alloc (Obj.cells #[Value.int IntKind.i64 0, Value.int IntKind.i64 0] 26)).alloc (Obj.cells #[Value.int IntKind.i64 (numN a), Value.int IntKind.i64 (numN b)] 26)) := ((Below.refl _ _).alloc (Nat.le_refl _) _).alloc (by simp) _
      have c0 : ((w.alloc (Obj.cells #[Value.int IntKind.i64 0, Value.int IntKind.i64 0] 26)).alloc (Obj.cells #[Value.int IntKind.i64 (numN a), Value.int IntKind.i64 (numN b)] 26)).cell? ⟨w.heap.size, 0, none⟩ = some (.int .i64 0) := by simp [go_sem]
      have c1 : ((w.alloc (Obj.cells #[Value.int IntKind.i64 0, Value.int IntKind.i64 0] 26)).alloc (Obj.cells #[Value.int IntKind.i64 (numN a), Value.int IntKind.i64 (numN b)] 26)).cell? ⟨w.heap.size, 1, none⟩ = some (.int .i64 0) := by simp [go_sem]
      have c2 : ((w.alloc (Obj.cells #[Value.int IntKind.i64 0, Value.int IntKind.i64 0] 26)).alloc (Obj.cells #[Value.int IntKind.i64 (numN a), Value.int IntKind.i64 (numN b)] 26)).cell? ⟨w.heap.size + 1, 0, none⟩ = some (.int .i64 (numN a)) := by simp [go_sem]
      have c3 : ((w.alloc (Obj.cells #[Value.int IntKind.i64 0, Value.int IntKind.i64 0] 26)).alloc (Obj.cells #[Value.int IntKind.i64 (numN a), Value.int IntKind.i64 (numN b)] 26)).cell? ⟨w.heap.size + 1, 1, none⟩ = some (.int .i64 (numN b)) := by simp [go_sem]
      have f0 : ((w.alloc (Obj.cells #[Value.int IntKind.i64 0, Value.int IntKind.i64 0] 26)).alloc (Obj.cells #[Value.int IntKind.i64 (numN a), Value.int IntKind.i64 (numN b)] 26)).frozen? ⟨w.heap.size, 0, none⟩ = false := by simp [go_sem]
      have f1 : ((w.alloc (Obj.cells #[Value.int IntKind.i64 0, Value.int IntKind.i64 0] 26)).alloc (Obj.cells #[Value.int IntKind.i64 (numN a), Value.int IntKind.i64 (numN b)] 26)).frozen? ⟨w.heap.size, 1, none⟩ = false := by simp [go_sem]
      generalize ((w.alloc (Obj.cells #[Value.int IntKind.i64 0, Value.int IntKind.i64 0] 26)).alloc (Obj.cells #[Value.int IntKind.i64 (numN a), Value.int IntKind.i64 (numN b)] 26)) = V at hB c0 c1 c2 c3 f0 f1 ⊢
      refine (refright_below _ _ n1.1 n1.2 n2.1 n2.2 V).mono ?_
      rintro e V1 ⟨rfl, hb1⟩
      replace hB := below_via hB hb1 hB.size
      replace f0 := frozen_on hb1 c0 f0
      replace f1 := frozen_on hb1 c1 f1
      replace c0 := cell_later hb1 c0
      replace c1 := cell_later hb1 c1
      replace c2 := cell_later hb1 c2
      replace c3 := cell_later hb1 c3
      clear hb1
      go_wp2_with fail
      refine (reftext_any _ _ n1.1 n1.2 n2.1 n2.2 V1).mono ?_
      rintro e V2 ⟨rfl, hb2⟩
      replace hB := below_via hB hb2 hB.size
      replace f0 := frozen_on hb2 c0 f0
      replace f1 := frozen_on hb2 c1 f1
      replace c0 := cell_later hb2 c0
      replace c1 := cell_later hb2 c1
      replace c2 := cell_later hb2 c2
      replace c3 := cell_later hb2 c3
      clear hb2
      go_wp2
      obtain ⟨s1, s2⟩ := two_set _ w.heap.size (.int .i64 (numN a)) (.int .i64 (numN b)) _ _ c0 c1
      exact bodyPost_ret (v := .tuple #[.agg #[.int .i64 (numN a), .int .i64 (numN b)], .int .i64 0]) (by simp [results, Tryd.results29, go_sem, s1, s2]) rfl ⟨rfl, by repeat (first | exact hB | refine Below.setCell ?_ (by simp) _)⟩

end Go.Proofs.YtcloepkaieifpaaDoor
