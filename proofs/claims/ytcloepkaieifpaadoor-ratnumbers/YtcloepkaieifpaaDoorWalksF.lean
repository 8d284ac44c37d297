/- The walk of the statements' own helper 'known': two runs of chapter 1 come out as they must. -/
import Derived.Test.YtcloepkaieifpaaDoorWalksE
namespace Go.Proofs.YtcloepkaieifpaaDoor
open Go.RowKit

theorem add_known (w : World) :
    Calls Tryd.prog 21 #[.agg #[.int .i64 1, .int .i64 2], .agg #[.int .i64 1, .int .i64 3]] w fun e w' => e = .returned (.tuple #[.agg #[.int .i64 5, .int .i64 6], .int .i64 0]) ∧ Below w.heap.size w w' := by
  have h := add_right 1 2 1 3 (by decide) (by decide) w
  rwa [show newN (1 * 3 + 1 * 2) (2 * 3) = 5 by decide, show newD (1 * 3 + 1 * 2) (2 * 3) = 6 by decide, show newE (1 * 3 + 1 * 2) (2 * 3) = 0 by decide] at h
theorem new_known (w : World) :
    Calls Tryd.prog 18 #[.int .i64 4, .int .i64 (-6)] w fun e w' => e = .returned (.tuple #[.agg #[.int .i64 (-2), .int .i64 3], .int .i64 0]) ∧ Below w.heap.size w w' := by
  have h := new_any 4 (-6) (by decide) (by decide) (by decide) (by decide) w
  rwa [show newN 4 (-6) = -2 by decide, show newD 4 (-6) = 3 by decide, show newE 4 (-6) = 0 by decide] at h

theorem known_any (w : World) :
    Calls Tryd.prog 10 #[] w fun e w' => e = .returned (.bool true) ∧ Below w.heap.size w w' := by
  go_enter Tryd.func10, Tryd.ntmps10
  go_wp2_with (first | (go_at_call 21; refine (add_known _).mono ?_; rintro e w1 ⟨rfl, hb1⟩; obtain ⟨hc1, hf1⟩ := bcell hb1; have hz1 := hb1.size) | (go_at_call 18; refine (new_known _).mono ?_; rintro e w2 ⟨rfl, hb2⟩; obtain ⟨hc2, hf2⟩ := bcell hb2; have hz2 : w1.heap.size < w2.heap.size := (by have := hb2.size; simp at this; omega)))
  go_ret
  exact ⟨rfl, by repeat (first | exact Below.refl _ _ | refine below_drewN ?_ _ | refine Below.setCell ?_ (by first | omega | (simp <;> omega)) _ | refine Below.alloc ?_ (by first | omega | (simp <;> omega)) _ | refine Below.drew ?_ | refine below_via ?_ hb1 (by first | omega | (simp <;> omega)) | refine below_via ?_ hb2 (by first | omega | (simp <;> omega)))⟩
end Go.Proofs.YtcloepkaieifpaaDoor
