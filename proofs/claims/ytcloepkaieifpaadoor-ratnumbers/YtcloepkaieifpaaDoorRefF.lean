/- The walks of the document's own Text and Number. -/
import Derived.Test.YtcloepkaieifpaaDoorRefE
import Derived.Test.YtcloepkaieifpaaDoorTextB
namespace Go.Proofs.YtcloepkaieifpaaDoor
open Go.RowKit Go.Sort

theorem refright_below (n d : Int) (h1 : -9223372036854775808 ≤ n) (h2 : n ≤ 9223372036854775807) (h3 : -9223372036854775808 ≤ d) (h4 : d ≤ 9223372036854775807) (w : World) :
    Calls Tryd.prog 28 #[.agg #[.int .i64 n, .int .i64 d]] w fun e w' => e = .returned (.bool (rightB n d)) ∧ Below w.heap.size w w' :=
  (refright_any n d h1 h2 h3 h4 w).mono fun _ _ ⟨he, m, hw⟩ => ⟨he, hw ▸ below_drewN ((Below.refl _ _).alloc (Nat.le_refl _) _) m⟩

set_option maxHeartbeats 800000 in
theorem reftext_any (n d : Int) (h1 : -9223372036854775808 ≤ n) (h2 : n ≤ 9223372036854775807) (h3 : -9223372036854775808 ≤ d) (h4 : d ≤ 9223372036854775807) (w : World) :
    Calls Tryd.prog 14 #[.agg #[.int .i64 n, .int .i64 d]] w fun e w' => e = .returned (.string ⟨(textL n d).toArray⟩) ∧ Below w.heap.size w w' := by
  by_cases hr : rightB n d = true
  · by_cases hd : d = 1
    · subst hd
      have hx : textL n 1 = Lib.itoa n := by unfold textL; rw [if_pos hr, if_pos rfl]
      rw [hx]
      go_enter Tryd.func14, Tryd.ntmps14
      go_wp2_with (first | (go_at_call 28; refine (refright_any _ _ (by omega) (by omega) (by omega) (by omega) _).mono ?_; rintro e w' ⟨rfl, m, rfl⟩) | (go_at_call 32; refine (refwhole_any n (by omega) (by omega) _).mono ?_; rintro e w1 ⟨rfl, rfl⟩))
      go_ret
      exact ⟨rfl, by repeat (first | exact Below.refl _ _ | refine below_drewN ?_ _ | refine Below.alloc ?_ (by first | omega | (simp <;> omega)) _)⟩
    · have hx : textL n d = Lib.itoa n ++ 47 :: Lib.itoa d := by unfold textL; rw [if_pos hr, if_neg hd]
      rw [hx]
      have hd' : (d == 1) = false := by simp [hd]
      have l1 := itoa_len n h1 h2
      have l2 := itoa_len d h3 h4
      have l3 : ¬ 9223372036854775807 < (Lib.itoa n).length + 1 := by omega
      have l4 : ¬ 9223372036854775807 < (Lib.itoa n).length + 1 + (Lib.itoa d).length := by omega
      go_enter Tryd.func14, Tryd.ntmps14
      go_wp2_with (go_at_call 28; refine (refright_below _ _ (by omega) (by omega) (by omega) (by omega) _).mono ?_; rintro e V ⟨rfl, hbV⟩; obtain ⟨hc1, hf1⟩ := bcell hbV)
      have hB : Below w.heap.size w V := below_via ((Below.refl _ _).alloc (Nat.le_refl _) _) hbV (by simp)
      go_quiet (first | (go_at_call 32; exact Calls.quiet_of_same (refwhole_any _ (by omega) (by omega) _)))
      go_wp2
      go_ret
      exact ⟨ret_str (by rw [show (⟨#[47]⟩ : ByteArray) = ⟨[(47 : UInt8)].toArray⟩ from rfl, ba_append, ba_append]; simp), below_drewN hB _⟩
  · have hr' : rightB n d = false := by simpa using hr
    have hx : textL n d = [63] := by unfold textL; rw [if_neg hr]
    rw [hx]
    go_enter Tryd.func14, Tryd.ntmps14
    go_wp2_with (first | (go_at_call 28; refine (refright_any _ _ (by omega) (by omega) (by omega) (by omega) _).mono ?_; rintro e w' ⟨rfl, m, rfl⟩))
    go_ret
    exact ⟨rfl, by repeat (first | exact Below.refl _ _ | refine below_drewN ?_ _ | refine Below.alloc ?_ (by first | omega | (simp <;> omega)) _)⟩

/-- What the document's own Number tells. -/
def numN (l : List UInt8) : Int := (wholeV 18 l).getD 0
def numB (l : List UInt8) : Bool := match wholeV 18 l with
  | some n => Lib.itoa n == l
  | none => false
theorem num_none {l : List UInt8} (h : wholeV 18 l = none) : numN l = 0 ∧ numB l = false := by unfold numN numB; rw [h]; exact ⟨rfl, rfl⟩
theorem num_some {l : List UInt8} {n : Int} (h : wholeV 18 l = some n) : numN l = n ∧ numB l = (Lib.itoa n == l) := by unfold numN numB; rw [h]; exact ⟨rfl, rfl⟩
theorem wholeV_none {m : Nat} {l : List UInt8} (h : decV (unsign l) = none) : wholeV m l = none := by unfold wholeV; rw [h]; split <;> rfl
theorem wholeV_some {m : Nat} {l : List UInt8} {v : Nat} (h : decV (unsign l) = some v) (h1 : ¬ (unsign l).length = 0) (h2 : ¬ m < (unsign l).length) : wholeV m l = some (if (unsign l).length < l.length then -(v : Int) else (v : Int)) := by
  unfold wholeV; rw [if_neg (by omega), h]; rfl

theorem head_45 (s : ByteArray) (h : s.data.toList.head? = some 45) : ∃ hp : 0 < s.size, s[0] = 45 := by
  obtain ⟨⟨l⟩⟩ := s
  cases l with
  | nil => simp at h
  | cons c l => simp at h; subst h; exact ⟨by show 0 < List.length _; simp, rfl⟩
theorem head_not (s : ByteArray) (h : ¬ s.data.toList.head? = some 45) (hp : 0 < s.size) : s[0] ≠ 45 := by
  obtain ⟨⟨l⟩⟩ := s
  cases l with
  | nil => exact absurd hp (by show ¬ 0 < List.length _; simp)
  | cons c l => intro e; apply h; simp; exact e

/-- What is behind the sign: the loop over its digits, and the end. -/
theorem tail_1 (s : ByteArray) (h : s.data.toList.head? = some 45) : (s.extract 1 s.size).data.toList = unsign s.data.toList := by
  rw [Lib.extract_data]
  unfold unsign
  rw [if_pos h, List.take_of_length_le (by simp), List.drop_one]

theorem ret_tuple2 {a b a' b' : Value} (h1 : a = a') (h2 : b = b') : Ending.returned (.tuple #[a, b]) = .returned (.tuple #[a', b']) := by rw [h1, h2]

set_option maxHeartbeats 1000000 in
theorem number_signed (s : ByteArray) (w : World) (_hs : s.size ≤ maxLen) (hp : 0 < s.size) (h45' : ((s[0].toNat : Int) == 45) = true) (hL : (unsign s.data.toList).length = s.size - 1) (ht : (s.extract 1 s.size).data.toList = unsign s.data.toList) :
    Calls Tryd.prog 43 #[.string s] w fun e w' => e = .returned (.tuple #[.int .i64 (numN s.data.toList), .bool (numB s.data.toList)]) ∧ w' = w := by
  have hs := _hs
  unfold maxLen at hs
  have hp' : (0 : Int) < (s.size : Int) := by omega
  have HT : Hid ((s.extract 1 s.size).data.toList = unsign s.data.toList) := ht
  clear ht
  by_cases z1 : s.size - 1 < 1
  · have z1' : ((s.size - 1 : Nat) : Int) < 1 := by omega
    obtain ⟨e1, e2⟩ := num_none (l := s.data.toList) (by unfold wholeV; rw [if_pos (by omega)])
    rw [e1, e2]
    clear e1 e2 hL
    go_enter Tryd.func43, Tryd.ntmps43
    go_wp2
    go_ret2
    exact ⟨rfl, rfl⟩
  by_cases z2 : 18 < s.size - 1
  · have z2' : (18 : Int) < ((s.size - 1 : Nat) : Int) := by omega
    have z1' : 1 ≤ ((s.size - 1 : Nat) : Int) := by omega
    obtain ⟨e1, e2⟩ := num_none (l := s.data.toList) (by unfold wholeV; rw [if_pos (by omega)])
    rw [e1, e2]
    clear e1 e2 hL
    go_enter Tryd.func43, Tryd.ntmps43
    go_wp2
    go_ret2
    exact ⟨rfl, rfl⟩
  have z1' : 1 ≤ ((s.size - 1 : Nat) : Int) := by omega
  have z2' : ((s.size - 1 : Nat) : Int) ≤ 18 := by omega
  have HL : Hid ((unsign s.data.toList).length = s.size - 1) := hL
  clear hL
  go_enter Tryd.func43, Tryd.ntmps43
  go_wp2
  go_loop [5, 6] (fun a i => ∃ k v : Nat, k ≤ s.size - 1 ∧ i = .int .i64 k ∧ Hid (decV ((unsign s.data.toList).take k) = some v) ∧ a = .int .i64 v) (fun _ i => s.size - 1 - (intOf i).toNat)
  case atStart => exact ⟨0, 0, Nat.zero_le _, rfl, rfl, rfl⟩
  case round =>
    obtain ⟨k, v, hk, rfl, hv, rfl⟩ := hrel
    by_cases hlt : k < s.size - 1
    · have hvb : v < 100000000000000000 := decV_le _ 17 (by simp; omega) v hv.out
      have hkD : k < (s.extract 1 s.size).size := by simp; omega
      have hts : (unsign s.data.toList).take (k + 1) = (unsign s.data.toList).take k ++ [(s.extract 1 s.size)[k]] := by rw [← HT.out]; exact take_snoc (s.extract 1 s.size) k hkD
      have bad : Hid (¬ (48 ≤ (s.extract 1 s.size)[k].toNat ∧ (s.extract 1 s.size)[k].toNat ≤ 57) → numN s.data.toList = 0 ∧ numB s.data.toList = false) := fun hc => by
        have n1 : decV ((unsign s.data.toList).take (k + 1)) = none := by rw [hts, decV_snoc, hv.out]; simp only [decStep, Option.bind_some]; rw [if_neg hc]
        have n2 : decV (unsign s.data.toList) = none := by
          rw [← List.take_append_drop (k + 1) (unsign s.data.toList)]; exact decV_append_none _ _ n1
        exact num_none (wholeV_none n2)
      have good : Hid (48 ≤ (s.extract 1 s.size)[k].toNat ∧ (s.extract 1 s.size)[k].toNat ≤ 57 → decV ((unsign s.data.toList).take (k + 1)) = some (v * 10 + ((s.extract 1 s.size)[k].toNat - 48))) := fun hc => by
        rw [hts, decV_snoc, hv.out]; simp only [decStep, Option.bind_some]; rw [if_pos hc]
      clear hts
      go_wp2
      all_goals first
        | (go_round
           case rel => exact ⟨k + 1, v * 10 + ((s.extract 1 s.size)[k].toNat - 48), by omega, by go_num, good.out (by omega), by congr 1; omega⟩
           case measure => simp [intOf]; omega)
        | (go_ret2
           obtain ⟨e1, e2⟩ := bad.out (by omega)
           exact ⟨by rw [e1, e2]; rfl, rfl⟩)
    · have hvb : v < 1000000000000000000 := decV_le _ 18 (by simp; omega) v hv.out
      have hv' : decV (unsign s.data.toList) = some v := by
        have := hv.out
        rwa [List.take_of_length_le (by rw [HL.out]; omega)] at this
      have hw := wholeV_some (m := 18) hv' (by rw [HL.out]; omega) (by rw [HL.out]; omega)
      rw [if_pos (by rw [HL.out]; simp <;> omega)] at hw
      obtain ⟨e1, e2⟩ := num_some hw
      have E1 : Hid (numN s.data.toList = (-(v : Int))) := e1
      have E2 : Hid (numB s.data.toList = (Lib.itoa (-(v : Int)) == s.data.toList)) := e2
      clear e1 e2 hw hv' hv
      go_wp2_with (go_at_call 32; refine (refwhole_any _ (by omega) (by omega) _).mono ?_; rintro e w' ⟨rfl, rfl⟩)
      go_ret2
      exact ⟨ret_tuple2 (by rw [E1.out]; rfl) (by rw [E2.out, ← ByteArray.toList_eq]; rfl), rfl⟩

set_option maxHeartbeats 1000000 in
theorem number_plain (s : ByteArray) (w : World) (_hs : s.size ≤ maxLen) (h45 : ∀ hp : 0 < s.size, ((s[0].toNat : Int) == 45) = false) (hL : (unsign s.data.toList).length = s.size) (ht : s.data.toList = unsign s.data.toList) :
    Calls Tryd.prog 43 #[.string s] w fun e w' => e = .returned (.tuple #[.int .i64 (numN s.data.toList), .bool (numB s.data.toList)]) ∧ w' = w := by
  have hs := _hs
  unfold maxLen at hs
  have HT : Hid (s.data.toList = unsign s.data.toList) := ht
  clear ht
  by_cases z1 : s.size < 1
  · have z1' : ((s.size : Nat) : Int) < 1 := by omega
    obtain ⟨e1, e2⟩ := num_none (l := s.data.toList) (by unfold wholeV; rw [if_pos (by omega)])
    rw [e1, e2]
    clear e1 e2 hL
    have z3 : ¬ (0 : Int) < (s.size : Int) := by omega
    go_enter Tryd.func43, Tryd.ntmps43
    go_wp2
    go_ret2
    exact ⟨rfl, rfl⟩
  have hp' : (0 : Int) < (s.size : Int) := by omega
  have h45' := h45 (Nat.not_lt.1 z1)
  by_cases z2 : 18 < s.size
  · have z2' : (18 : Int) < ((s.size : Nat) : Int) := by omega
    have z1' : 1 ≤ ((s.size : Nat) : Int) := by omega
    obtain ⟨e1, e2⟩ := num_none (l := s.data.toList) (by unfold wholeV; rw [if_pos (by omega)])
    rw [e1, e2]
    clear e1 e2 hL
    go_enter Tryd.func43, Tryd.ntmps43
    go_wp2
    go_ret2
    exact ⟨rfl, rfl⟩
  have z1' : 1 ≤ ((s.size : Nat) : Int) := by omega
  have z2' : ((s.size : Nat) : Int) ≤ 18 := by omega
  have HL : Hid ((unsign s.data.toList).length = s.size) := hL
  clear hL
  go_enter Tryd.func43, Tryd.ntmps43
  go_wp2
  go_loop [5, 6] (fun a i => ∃ k v : Nat, k ≤ s.size ∧ i = .int .i64 k ∧ Hid (decV ((unsign s.data.toList).take k) = some v) ∧ a = .int .i64 v) (fun _ i => s.size - (intOf i).toNat)
  case atStart => exact ⟨0, 0, Nat.zero_le _, rfl, rfl, rfl⟩
  case round =>
    obtain ⟨k, v, hk, rfl, hv, rfl⟩ := hrel
    by_cases hlt : k < s.size
    · have hvb : v < 100000000000000000 := decV_le _ 17 (by simp; omega) v hv.out
      have hkD : k < s.size := by omega
      have hts : (unsign s.data.toList).take (k + 1) = (unsign s.data.toList).take k ++ [s[k]] := by rw [← HT.out]; exact take_snoc s k hkD
      have bad : Hid (¬ (48 ≤ s[k].toNat ∧ s[k].toNat ≤ 57) → numN s.data.toList = 0 ∧ numB s.data.toList = false) := fun hc => by
        have n1 : decV ((unsign s.data.toList).take (k + 1)) = none := by rw [hts, decV_snoc, hv.out]; simp only [decStep, Option.bind_some]; rw [if_neg hc]
        have n2 : decV (unsign s.data.toList) = none := by
          rw [← List.take_append_drop (k + 1) (unsign s.data.toList)]; exact decV_append_none _ _ n1
        exact num_none (wholeV_none n2)
      have good : Hid (48 ≤ s[k].toNat ∧ s[k].toNat ≤ 57 → decV ((unsign s.data.toList).take (k + 1)) = some (v * 10 + (s[k].toNat - 48))) := fun hc => by
        rw [hts, decV_snoc, hv.out]; simp only [decStep, Option.bind_some]; rw [if_pos hc]
      clear hts
      go_wp2
      all_goals first
        | (go_round
           case rel => exact ⟨k + 1, v * 10 + (s[k].toNat - 48), by omega, by go_num, good.out (by omega), by congr 1; omega⟩
           case measure => simp [intOf]; omega)
        | (go_ret2
           obtain ⟨e1, e2⟩ := bad.out (by omega)
           exact ⟨by rw [e1, e2]; rfl, rfl⟩)
    · have hvb : v < 1000000000000000000 := decV_le _ 18 (by simp; omega) v hv.out
      have hv' : decV (unsign s.data.toList) = some v := by
        have := hv.out
        rwa [List.take_of_length_le (by rw [HL.out]; omega)] at this
      have hw := wholeV_some (m := 18) hv' (by rw [HL.out]; omega) (by rw [HL.out]; omega)
      rw [if_neg (by rw [HL.out]; simp <;> omega)] at hw
      obtain ⟨e1, e2⟩ := num_some hw
      have E1 : Hid (numN s.data.toList = (v : Int)) := e1
      have E2 : Hid (numB s.data.toList = (Lib.itoa (v : Int) == s.data.toList)) := e2
      clear e1 e2 hw hv' hv
      go_wp2_with (go_at_call 32; refine (refwhole_any _ (by omega) (by omega) _).mono ?_; rintro e w' ⟨rfl, rfl⟩)
      go_ret2
      exact ⟨ret_tuple2 (by rw [E1.out]; rfl) (by rw [E2.out, ← ByteArray.toList_eq]; rfl), rfl⟩

theorem refnumber_any (s : ByteArray) (w : World) (hs : s.size ≤ maxLen) :
    Calls Tryd.prog 43 #[.string s] w fun e w' => e = .returned (.tuple #[.int .i64 (numN s.data.toList), .bool (numB s.data.toList)]) ∧ w' = w := by
  by_cases hm : s.data.toList.head? = some 45
  · obtain ⟨hp, h45⟩ := head_45 s hm
    have ht := tail_1 s hm
    exact number_signed s w hs hp (by rw [h45]; rfl) (by rw [← ht, Lib.extract_data]; simp) ht
  · have hu : unsign s.data.toList = s.data.toList := by unfold unsign; rw [if_neg hm]
    refine number_plain s w hs (fun hp => ?_) (by rw [hu]; simp) hu.symm
    have h := head_not s hm hp
    rw [beq_eq_false_iff_ne]
    intro e
    apply h
    apply UInt8.toNat_inj.1
    show s[0].toNat = 45
    omega

end Go.Proofs.YtcloepkaieifpaaDoor
