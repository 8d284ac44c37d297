/- The walk of the statements' own 'order': Less, Shared and Next against the document's. -/
import Derived.Test.YtaojhaicbjnhiaaWalksB
import Derived.Test.YtaojhaicbjnhiaaWalksC
import Derived.Test.YtaojhaicbjnhiaaWalksF
namespace Go.Proofs.Ytaojhaicbjnhiaa
open Go.RowKit

set_option maxHeartbeats 800000 in
theorem order_any (ao bo : Option Addr) (la ca lb cb : Nat) (xs ys : List Int) (w : World) (ha : Tx w ao la ca xs) (hb : Tx w bo lb cb ys) (sa : la ≤ 1000) (sb : lb ≤ 1000) :
    Calls Try.prog 8 #[.slice ao la ca, .slice bo lb cb] w fun e w' => e = .returned (.bool true) ∧ Below w.heap.size w w' := by
  go_enter Try.func8, Try.ntmps8
  go_wp2_with (first | (go_at_call 16; with_reducible refine (next_any ao la ca xs w ha sa).mono ?_; rintro e w1 ⟨o1, l1, c1, rfl, t1, b1⟩; have ha1 := ha.later b1; have hb1 := hb.later b1) | (go_at_call 21; with_reducible refine (refnext_any ao la ca xs w1 ha1 sa).mono ?_; rintro e w2 ⟨o2, l2, c2, rfl, t2, b2⟩; have B2 := b1.trans (b2.mono b1.size); have ha2 := ha1.later b2; have hb2 := hb1.later b2; have t12 := t1.later b2) | (go_at_call 15; with_reducible refine (less_any ao bo la ca lb cb xs ys w2 ha2 hb2 (by omega) (by omega)).mono ?_; rintro e w3 ⟨rfl, b3⟩; have B3 := B2.trans (b3.mono B2.size); have ha3 := ha2.later b3; have hb3 := hb2.later b3; have t13 := t12.later b3; have t23 := t2.later b3) | (go_at_call 22; with_reducible refine (refless_any ao bo la ca lb cb xs ys w3 ha3 hb3).mono ?_; rintro e w3' ⟨rfl, rfl⟩) | (go_at_call 17; with_reducible refine (shared_any ao bo la ca lb cb xs ys w3 ha3 hb3 (by omega) (by omega)).mono ?_; rintro e w4 ⟨rfl, b4⟩; have B4 := B3.trans (b4.mono B3.size); have ha4 := ha3.later b4; have hb4 := hb3.later b4; have t14 := t13.later b4; have t24 := t23.later b4) | (go_at_call 23; with_reducible refine (refshared_any ao bo la ca lb cb xs ys w4 ha4 hb4 (by omega) (by omega)).mono ?_; rintro e w5 ⟨rfl, b5⟩; have B5 := B4.trans (b5.mono B4.size); have g1 := (t14.later b5).string; have g2 := (t24.later b5).string))
  go_ret
  exact ⟨rfl, B5⟩

end Go.Proofs.Ytaojhaicbjnhiaa
