/- The document's own Parse: a text of a right number is read as it; any other text is refused. -/
import Derived.Test.YtcloepkaieifpaaDoorRefG
namespace Go.Proofs.YtcloepkaieifpaaDoor
open Go.RowKit Go.Sort

theorem num_of {n d : Int} (h : rightB n d = true) : (numN (Lib.itoa n) = n ∧ numB (Lib.itoa n) = true) ∧ (numN (Lib.itoa d) = d ∧ numB (Lib.itoa d) = true) := by
  obtain ⟨-, -, a3, a4, -⟩ := right_abs h
  have k1 : wholeV 18 (Lib.itoa n) = some n := wholeV_itoa 18 n (Nat.le_trans (dec_len 9 _ a3) (by omega))
  have k2 : wholeV 18 (Lib.itoa d) = some d := wholeV_itoa 18 d (Nat.le_trans (dec_len 9 _ a4) (by omega))
  obtain ⟨p1, p2⟩ := num_some k1
  obtain ⟨p3, p4⟩ := num_some k2
  exact ⟨⟨p1, by rw [p2]; simp⟩, ⟨p3, by rw [p4]; simp⟩⟩

theorem refparse_yes (w : World) (s : ByteArray) (hs : s.size ≤ maxLen) (n d : Int) (h : rightB n d = true) (hx : textL n d = s.data.toList) :
    Calls Tryd.prog 29 #[.string s] w fun e w' => e = .returned (.tuple #[.agg #[.int .i64 n, .int .i64 d], .int .i64 0]) ∧ Below w.heap.size w w' := by
  obtain ⟨⟨k1, k2⟩, ⟨k3, k4⟩⟩ := num_of h
  by_cases hd : d = 1
  · subst hd
    have ht : textL n 1 = Lib.itoa n := by unfold textL; rw [if_pos h, if_pos rfl]
    have hl : s.data.toList = Lib.itoa n := by rw [← hx, ht]
    have := refparse1_good w s (by rw [hl]; exact no_slash n) hs (by rw [hl]; exact k2) (by rw [hl, k1]; exact h) (by rw [hl, k1, ht])
    rwa [hl, k1] at this
  · have ht : textL n d = Lib.itoa n ++ 47 :: Lib.itoa d := by unfold textL; rw [if_pos h, if_neg hd]
    have := refparse2_good w s (Lib.itoa n) (Lib.itoa d) (by rw [← hx, ht]) (no_slash n) hs k2 k4 (by rw [k1, k3]; exact h) (by rw [k1, k3]; exact hx)
    rwa [k1, k3] at this

theorem refparse_not (w : World) (s : ByteArray) (hs : s.size ≤ maxLen) (h : ∀ n d, rightB n d = true → textL n d ≠ s.data.toList) :
    Calls Tryd.prog 29 #[.string s] w fun e w' => e = .returned (.tuple #[.agg #[.int .i64 0, .int .i64 0], .int .i64 12]) ∧ Below w.heap.size w w' := by
  by_cases hc : (47 : UInt8) ∈ s.data.toList
  · obtain ⟨a, b, hab, ha⟩ := List.eq_append_cons_of_mem hc
    cases h1 : numB a with
    | false => exact refparse2_bad1 w s a b hab ha hs h1
    | true =>
      cases h2 : numB b with
      | false => exact refparse2_bad2 w s a b hab ha hs h1 h2
      | true =>
        cases hr : rightB (numN a) (numN b) with
        | false => exact refparse2_wrong w s a b hab ha hs h1 h2 hr
        | true => exact refparse2_other w s a b hab ha hs h1 h2 hr (h _ _ hr)
  · cases h1 : numB s.data.toList with
    | false => exact refparse1_bad w s hc hs h1
    | true =>
      cases hr : rightB (numN s.data.toList) 1 with
      | false => exact refparse1_wrong w s hc hs h1 hr
      | true => exact refparse1_other w s hc hs h1 hr (h _ _ hr)
end Go.Proofs.YtcloepkaieifpaaDoor
