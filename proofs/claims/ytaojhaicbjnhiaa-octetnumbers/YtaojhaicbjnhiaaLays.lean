/- The walk of the statements' own 'lays': Get and Put against the document's. -/
import Derived.Test.YtaojhaicbjnhiaaWalksB
import Derived.Test.YtaojhaicbjnhiaaWalksD
import Derived.Test.YtaojhaicbjnhiaaWalksG
import Derived.Deep.RegionHeld3
namespace Go.Proofs.Ytaojhaicbjnhiaa
open Go.RowKit

theorem below_trans {w W w1 : World} (h : Below w.heap.size w W) (h2 : Below W.heap.size W w1) : Below w.heap.size w w1 := h.trans (h2.mono h.size)

set_option maxHeartbeats 1600000 in
theorem lays_any (ao : Option Addr) (la ca : Nat) (n size : Int) (xs : List Int) (w : World) (ha : Tx w ao la ca xs) (sa : la ≤ 1000) (n1 : 0 ≤ n) (n2 : n < 18446744073709551616) (h1 : -9223372036854775808 ≤ size) (h2 : size ≤ 9223372036854775807) :
    Calls Try.prog 7 #[.slice ao la ca, .int .u64 n, .int .i64 size] w fun e w' => e = .returned (.bool true) ∧ Below w.heap.size w w' := by
  go_enter Try.func7, Try.ntmps7
  go_wp2_with (first | (go_at_call 18; with_reducible refine (get_any ao la ca size xs w ha (by omega) h1 h2).mono ?_; rintro e w1 ⟨rfl, rfl⟩) | (go_at_call 19; with_reducible refine (refget_any ao la ca size xs w ha (by omega) h1 h2).mono ?_; rintro e w2 ⟨rfl, rfl⟩))
  go_region_held (fun w' => Below w.heap.size w w') (first | assumption | exact (Below.refl _ _).drew) (first | (go_at_call 14; with_reducible refine (put_any ao la ca n size xs _ ?_ sa n1 n2 h1 h2).mono ?_; exact ha.later (by assumption); rintro e w1 ⟨o1, l1, c1, rfl, t1, b1⟩; have B1 := below_trans (w := w) (by assumption) b1; have g1 := t1.string; try have g2' := (t2.later b1).string) | (go_at_call 20; with_reducible refine (refput_any ao la ca n size xs _ ?_ sa n1 n2 h1 h2).mono ?_; exact ha.later (by assumption); rintro e w2 ⟨o2, l2, c2, rfl, t2, b2⟩; have B2 := below_trans (w := w) (by assumption) b2; have g2 := t2.string; try have g1' := (t1.later b2).string))
  all_goals go_wp2
  all_goals go_ret
  all_goals exact ⟨rfl, by assumption⟩

end Go.Proofs.Ytaojhaicbjnhiaa
