/- The walk of the statements' own 'batch': Batch against the document's. -/
import Derived.Test.YtondfbjldonogaaWalksP
import Derived.Deep.RegionHeld3
namespace Go.Proofs.Ytondfbjldonogaa
open Go.RowKit

theorem below_tr {w W w1 : World} (h : Below w.heap.size w W) (h2 : Below W.heap.size W w1) : Below w.heap.size w w1 := h.trans (h2.mono h.size)

set_option maxHeartbeats 4000000 in
theorem batch_any (ao : Option Addr) (la ca : Nat) (l : List Ent) (w : World) (h : Lx 3 RE w ao la ca l) :
    Calls Try.prog 12 #[.slice ao la ca] w fun e w' => e = .returned (.bool true) ∧ Below w.heap.size w w' := by
  cases hm : mayL l with
  | false =>
    have hmH : Hid (mayL l = false) := hm
    have m1 := fun V (hV : Below w.heap.size w V) => may_any ao la ca l V (h.later RE.stable hV)
    rw [hm] at m1
    have f1 := fbatch_no ao la ca l w h hm
    clear hm
    go_enter Try.func12, Try.ntmps12
    go_wp2_with (first
      | (go_at_call 24; with_reducible refine f1.mono ?_; rintro e w1 ⟨rfl, b1⟩)
      | (go_at_call 30; with_reducible refine (m1 w1 b1).mono ?_; rintro e w2 ⟨rfl, rfl⟩))
    go_ret
    exact ⟨rfl, b1⟩
  | true =>
    have m1 := fun V (hV : Below w.heap.size w V) => may_any ao la ca l V (h.later RE.stable hV)
    rw [hm] at m1
    have f1 := fbatch_yes ao la ca l w h hm
    have r1 := fun V (hV : Below w.heap.size w V) => rbatch_any ao la ca l V (h.later RE.stable hV) hm
    generalize batchL l = X at f1 r1
    clear hm
    go_enter Try.func12, Try.ntmps12
    go_wp2_with (first
      | (go_at_call 24; with_reducible refine f1.mono ?_; rintro e w1 ⟨bo, lb, cb, rfl, t1, b1⟩)
      | (go_at_call 30; with_reducible refine (m1 w1 b1).mono ?_; rintro e w2 ⟨rfl, rfl⟩))
    have g0 := (t1.later ((Below.refl _ _).drew)).string
    go_region_held (fun w' => Below w1.heap.size w1 w') (first | assumption | exact (Below.refl _ _).drew) (first
      | (go_at_call 10; with_reducible refine (r1 _ ?_).mono ?_; exact below_tr b1 (by assumption); rintro e v1 ⟨zo, zl, zc, rfl, gZ, d1⟩; have D1 := below_tr (w := w1) (by assumption) d1; have gp := (t1.later D1).string; have gz := gZ.tx.string))
    all_goals go_wp2
    all_goals go_ret
    all_goals exact ⟨rfl, below_tr b1 (by assumption)⟩

end Go.Proofs.Ytondfbjldonogaa
