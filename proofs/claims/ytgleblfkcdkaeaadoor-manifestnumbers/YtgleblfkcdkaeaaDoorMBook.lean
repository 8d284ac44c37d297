/- The statements' own helpers over lists of tables: whether two are the same, a new disk, names of files. -/
import Derived.Test.YtgleblfkcdkaeaaDoorMReadM
import Derived.Test.YtgleblfkcdkaeaaDoorShelf
namespace Go.Proofs.YtgleblfkcdkaeaaDoor
set_option maxRecDepth 100000
open Go.RowKit Go.Sort

set_option maxHeartbeats 4000000 in
theorem sameI_any (ao bo : Option Addr) (la ca lb cb : Nat) (l m : List Int) (w : World) (ha : Lx 1 RI w ao la ca l) (hm : Lx 1 RI w bo lb cb m) (sa : la ≤ 1000000) (sb : lb ≤ 1000000) :
    Calls Tryd.prog 42 #[.slice ao la ca, .slice bo lb cb] w fun e w' => e = .returned (.bool (decide (l = m))) ∧ Below w.heap.size w w' := by
  have e1 := ha.len_eq
  have e2 := hm.len_eq
  by_cases hlen : la = lb
  · subst hlen
    by_cases h0 : 0 < la
    · obtain ⟨b, off, rfl, hc⟩ := ha.headI h0
      obtain ⟨b', off', rfl, hc'⟩ := hm.headI h0
      have hle := ha.le
      have hle' := hm.le
      go_enter Tryd.func42, Tryd.ntmps42
      go_wp2
      go_loopw [5] (fun i wr => ∃ k : Nat, k ≤ la ∧ i = .int .i64 k ∧ Hid (l.take k = m.take k) ∧ Below w.heap.size w wr) (fun i _ => la - (intOf i).toNat)
      case atStart => exact ⟨0, by omega, rfl, by show l.take 0 = m.take 0; simp, Below.refl _ _⟩
      case round =>
        obtain ⟨k, hk, rfl, heq, hb⟩ := hrel
        by_cases hk2 : k < la
        · have hx : l[k]? = some (l[k]'(by omega)) := by simp
          have hy : m[k]? = some (m[k]'(by omega)) := by simp
          obtain ⟨c0, r1, r2⟩ := hc k _ hx
          obtain ⟨d0, q1, q2⟩ := hc' k _ hy
          generalize l[k]'(by omega) = x at hx c0 r1 r2
          generalize m[k]'(by omega) = y at hy d0 q1 q2
          have hX : Hid (l[k]? = some x) := hx
          have hY : Hid (m[k]? = some y) := hy
          clear hx hy
          have c0 : wr.drew.cell? ⟨b, off + k, none⟩ = some (.int .i64 x) := cell_later hb.drew c0
          have d0 : wr.drew.cell? ⟨b', off' + k, none⟩ = some (.int .i64 y) := cell_later hb.drew d0
          have hbd := hb.drew
          clear hc hc' ha hm e1 e2
          by_cases hxy : x = y
          · subst hxy
            have hnext : Hid (l.take (k + 1) = m.take (k + 1)) := by
              show _ = _
              obtain ⟨h1, h2⟩ := List.getElem?_eq_some_iff.1 hX.out
              obtain ⟨h3, h4⟩ := List.getElem?_eq_some_iff.1 hY.out
              rw [List.take_succ_eq_append_getElem h1, List.take_succ_eq_append_getElem h3, heq.out, h2, h4]
            clear heq hX hY
            go_wp2
            go_region
            go_wp2
            go_round
            case rel => exact ⟨k + 1, by omega, by go_num, hnext, hbd⟩
            case measure => simp [intOf]; omega
          · have hno : Hid (l ≠ m) := fun h => by
              have h1 := hX.out
              rw [h, hY.out] at h1
              exact hxy (Option.some.inj h1).symm
            clear heq hX hY
            go_wp2
            go_region
            go_wp2
            go_ret
            exact ⟨ret_bool (decide_eq_false hno.out).symm, hbd⟩
        · have hkk : k = la := by omega
          have hyes : l = m := by
            have h := heq.out
            rw [hkk] at h
            rwa [show la = l.length by omega, List.take_length, show l.length = m.length by omega, List.take_length] at h
          have hY : Hid (l = m) := hyes
          clear hyes heq hc hc' e1 e2
          go_wp2
          go_ret
          exact ⟨ret_bool (decide_eq_true hY.out).symm, hb⟩
    · have h00 : la = 0 := by omega
      subst h00
      have h1 : l = [] := List.eq_nil_of_length_eq_zero e1
      have h2 : m = [] := List.eq_nil_of_length_eq_zero e2
      subst h1 h2
      go_enter Tryd.func42, Tryd.ntmps42
      go_wp2
      refine wp_loop_rounds 1 ?_
      rw [rounds_succ]
      go_wp2
      go_ret
      exact ⟨ret_bool (by simp), Below.refl _ _⟩
  · have hno : Hid (l ≠ m) := fun h => hlen (by rw [← e1, ← e2, h])
    go_enter Tryd.func42, Tryd.ntmps42
    go_wp2
    go_ret
    exact ⟨ret_bool (decide_eq_false hno.out).symm, Below.refl _ _⟩

set_option maxHeartbeats 4000000 in
theorem same_man (ao bo : Option Addr) (la ca lb cb : Nat) (l m : List Int) (a b c d : Int) (w : World) (ha : Lx 1 RI w ao la ca l) (hm : Lx 1 RI w bo lb cb m) (sa : la ≤ 1000000) (sb : lb ≤ 1000000) :
    Calls Tryd.prog 16 #[.agg #[.slice ao la ca, .int .i64 a, .int .i64 b], .agg #[.slice bo lb cb, .int .i64 c, .int .i64 d]] w fun e w' => e = .returned (.bool (decide (l = m) && decide (a = c) && decide (b = d))) ∧ Below w.heap.size w w' := by
  obtain ⟨V, hV, c0, c1, c2, hb, _, hs⟩ := man_box w ao la ca a b
  obtain ⟨U, hU, d0, d1, d2, hb2, _, _⟩ := man_box V bo lb cb c d
  have hbU := below_trans hb hb2
  have hcall := sameI_any ao bo la ca lb cb l m U (ha.later RI.stable hbU) (hm.later RI.stable hbU) sa sb
  have c0 := cell_later hb2 c0
  have c1 := cell_later hb2 c1
  have c2 := cell_later hb2 c2
  rw [hs] at d0 d1 d2
  go_enter Tryd.func16, Tryd.ntmps16
  go_wp2_with fail
  rw [← hV, ← hU]
  clear hV hU
  with_reducible refine hcall.mono ?_
  rintro e W ⟨rfl, hb3⟩
  have c1 := cell_later hb3 c1
  have c2 := cell_later hb3 c2
  have d1 := cell_later hb3 d1
  have d2 := cell_later hb3 d2
  have hW := below_trans hbU hb3
  clear c0 d0 ha hm
  by_cases h1 : l = m
  · rw [decide_eq_true h1]
    have hT : Hid (l = m) := h1
    clear h1
    by_cases h2 : a = c
    · subst h2
      by_cases h3 : b = d
      · subst h3
        go_wp2
        go_ret
        exact ⟨ret_bool (by simp [hT.out]), hW⟩
      · go_wp2
        go_ret
        exact ⟨ret_bool (by simp [h3]), hW⟩
    · go_wp2
      go_ret
      exact ⟨ret_bool (by simp [h2]), hW⟩
  · rw [decide_eq_false h1]
    have hT : Hid (¬ l = m) := h1
    clear h1
    go_wp2
    go_ret
    exact ⟨ret_bool (by simp [hT.out]), hW⟩

theorem fresh_x (w : World) : Calls Tryd.prog 11 #[] w fun e w' => e = .returned (.pointer (some ⟨w.heap.size, 0, none⟩)) ∧ Dx w.heap.size [] w' w.heap.size ⟨16777216, [], 0, false⟩ ∧ Below w.heap.size w w' := by
  have hn := new_x 16777216 16777216 rfl (by omega) w
  go_enter Tryd.func11, Tryd.ntmps11
  go_wp2_with fail
  with_reducible refine hn.mono ?_
  rintro e w1 ⟨rfl, hd, hb⟩
  go_wp2
  go_ret
  exact ⟨rfl, hd, hb⟩

theorem itoa_small (n : Int) (h0 : 0 ≤ n) (h1 : n < 100) (w : World) : Calls Tryd.prog 43 #[.int .i64 n] w fun e w' => e = .returned (.string ⟨(Lib.decDigits n.toNat).toArray⟩) ∧ w = w' := by
  have := Tryd.strconv_Itoa_small n.toNat (by omega) w
  rw [show ((n.toNat : Nat) : Int) = n by omega] at this
  exact this.mono fun e w' ⟨h1, h2⟩ => ⟨h1, h2.symm⟩

theorem table12 (w : World) : Calls Tryd.prog 21 #[.int .i64 12] w fun e w' => e = .returned (.string ⟨#[116, 49, 50]⟩) ∧ w = w' := by
  have h := itoa_small 12 (by omega) (by omega) w
  have hd : (⟨(Lib.decDigits (12 : Int).toNat).toArray⟩ : ByteArray) = ⟨#[49, 50]⟩ := by decide +kernel
  rw [hd] at h
  go_enter Tryd.func21, Tryd.ntmps21
  go_wp2_with fail
  with_reducible refine h.mono ?_
  rintro e w1 ⟨rfl, rfl⟩
  go_wp2
  go_ret
  exact ⟨rfl, rfl⟩
theorem wal0 (w : World) : Calls Tryd.prog 23 #[.int .i64 0] w fun e w' => e = .returned (.string ⟨#[119, 48]⟩) ∧ w = w' := by
  have h := itoa_small 0 (by omega) (by omega) w
  have hd : (⟨(Lib.decDigits (0 : Int).toNat).toArray⟩ : ByteArray) = ⟨#[48]⟩ := by decide +kernel
  rw [hd] at h
  go_enter Tryd.func23, Tryd.ntmps23
  go_wp2_with fail
  with_reducible refine h.mono ?_
  rintro e w1 ⟨rfl, rfl⟩
  go_wp2
  go_ret
  exact ⟨rfl, rfl⟩
end Go.Proofs.YtgleblfkcdkaeaaDoor
