/- rat.Parse: a text of a right number is read as it; any other text is refused. -/
import Derived.Test.YtcloepkaieifpaaDoorTextE
namespace Go.Proofs.YtcloepkaieifpaaDoor
open Go.RowKit Go.Sort

theorem right_abs {n d : Int} (h : rightB n d = true) : absI n ≤ 2147483647 ∧ absI d ≤ 2147483647 ∧ n.natAbs < 10 ^ 10 ∧ d.natAbs < 10 ^ 10 ∧ d ≠ 0 := by
  obtain ⟨a1, a2, a3, a4, -⟩ := (rightB_iff n d).1 h
  unfold absI
  omega
/-- New of a right number's parts is that number. -/
theorem new_self {n d : Int} (h : rightB n d = true) : newE n d = 0 ∧ newN n d = n ∧ newD n d = d := by
  obtain ⟨a1, a2, -, -, a5⟩ := right_abs h
  have h0 := newE_small n d a5 a1 a2
  obtain ⟨e1, e2⟩ := right_inj (new_right n d h0) h (new_eq n d h0)
  exact ⟨h0, e1, e2⟩
theorem no_slash (n : Int) : (47 : UInt8) ∉ Lib.itoa n := by
  unfold Lib.itoa
  split
  · simp; intro h; have := dec_digit _ _ h; simp at this
  · intro h; have := dec_digit _ _ h; simp at this
theorem whole_of {n d : Int} (h : rightB n d = true) : wholeV 10 (Lib.itoa n) = some n ∧ wholeV 10 (Lib.itoa d) = some d := by
  obtain ⟨-, -, a3, a4, -⟩ := right_abs h
  exact ⟨wholeV_itoa 10 n (dec_len 9 _ a3), wholeV_itoa 10 d (dec_len 9 _ a4)⟩
theorem itoa_max (n : Int) (h0 : n.natAbs < 10 ^ 10) : (Lib.itoa n).length ≤ maxLen := by
  have := itoa_len n (by omega) (by omega)
  unfold maxLen; omega

theorem parse_yes (w : World) (tab : Tab w) (s : ByteArray) (hs : s.size ≤ maxLen) (n d : Int) (h : rightB n d = true) (hx : textL n d = s.data.toList) :
    Calls Tryd.prog 15 #[.string s] w fun e w' => e = .returned (.tuple #[.agg #[.int .i64 n, .int .i64 d], .int .i64 0]) ∧ Below w.heap.size w w' := by
  obtain ⟨k0, k1, k2⟩ := new_self h
  obtain ⟨w1, w2⟩ := whole_of h
  obtain ⟨-, -, b1, b2, -⟩ := right_abs h
  by_cases hd : d = 1
  · subst hd
    have ht : textL n 1 = Lib.itoa n := by unfold textL; rw [if_pos h, if_pos rfl]
    have := parse_good1 w s (by rw [← hx, ht]; exact no_slash n) hs n (by rw [← hx, ht]; exact w1) k0 (by rw [k1, k2]; exact hx) tab
    rwa [k1, k2] at this
  · have ht : textL n d = Lib.itoa n ++ 47 :: Lib.itoa d := by unfold textL; rw [if_pos h, if_neg hd]
    have := parse_good2 w s (Lib.itoa n) (Lib.itoa d) (by rw [← hx, ht]) (no_slash n) hs (itoa_max n b1) (itoa_max d b2) n d w2 w1 k0 (by rw [k1, k2]; exact hx) tab
    rwa [k1, k2] at this

theorem parse_not (w : World) (tab : Tab w) (s : ByteArray) (hs : s.size ≤ maxLen) (h : ∀ n d, rightB n d = true → textL n d ≠ s.data.toList) :
    Calls Tryd.prog 15 #[.string s] w fun e w' => e = .returned (.tuple #[.agg #[.int .i64 0, .int .i64 0], .int .i64 12]) ∧ Below w.heap.size w w' := by
  by_cases hc : (47 : UInt8) ∈ s.data.toList
  · obtain ⟨a, b, hab, ha⟩ := List.eq_append_cons_of_mem hc
    have hz : a.length + 1 + b.length = s.size := by
      have := congrArg List.length hab
      simp at this; omega
    have za : a.length ≤ maxLen := by omega
    have zb : b.length ≤ maxLen := by omega
    cases hb : wholeV 10 b with
    | none => exact parse_bottom w s a b hab ha hs zb hb
    | some d =>
      cases ht : wholeV 10 a with
      | none => exact parse_top2 w s a b hab ha hs za zb d hb ht
      | some n =>
        by_cases hE : newE n d = 0
        · exact parse_other2 w s a b hab ha hs za zb n d hb ht hE (h _ _ (new_right n d hE)) tab
        · exact parse_refused2 w s a b hab ha hs za zb n d hb ht hE
  · cases ht : wholeV 10 s.data.toList with
    | none => exact parse_top1 w s hc hs ht
    | some n =>
      by_cases hE : newE n 1 = 0
      · exact parse_other1 w s hc hs n ht hE (h _ _ (new_right n 1 hE)) tab
      · exact parse_refused1 w s hc hs n ht hE
end Go.Proofs.YtcloepkaieifpaaDoor
