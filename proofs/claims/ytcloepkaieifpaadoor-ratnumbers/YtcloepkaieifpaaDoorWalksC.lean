/- The walks of marigraphbook.Within and marigraphkeep.Rat: a small right number comes out, whatever goes in. -/
import Derived.Test.YtcloepkaieifpaaDoorWalksA
namespace Go.Proofs.YtcloepkaieifpaaDoor
open Go.RowKit

theorem within_any (n lo hi : Int) (h1 : -9223372036854775808 ≤ n) (h2 : n ≤ 9223372036854775807) (l1 : -1000 ≤ lo) (l2 : lo ≤ hi) (l3 : hi ≤ 1000) (w : World) :
    Calls Tryd.prog 12 #[.int .i64 n, .int .i64 lo, .int .i64 hi] w fun e w' => ∃ r : Int, lo ≤ r ∧ r ≤ hi ∧ e = .returned (.int .i64 r) ∧ w' = w := by
  have m1 := Int.tmod_lt_of_pos n (show 0 < hi - lo + 1 by omega)
  have m2 := Int.lt_tmod_of_pos n (show 0 < hi - lo + 1 by omega)
  by_cases c1 : lo ≤ n
  · by_cases c2 : n ≤ hi
    · go_enter Tryd.func12, Tryd.ntmps12
      go_wp2
      go_ret
      exact ⟨n, c1, c2, rfl, rfl⟩
    · by_cases c3 : n.tmod (hi - lo + 1) < 0
      · go_enter Tryd.func12, Tryd.ntmps12
        go_wp2
        go_ret
        exact ⟨lo + (n.tmod (hi - lo + 1) + hi - lo + 1), by omega, by omega, rfl, rfl⟩
      · go_enter Tryd.func12, Tryd.ntmps12
        go_wp2
        go_ret
        exact ⟨lo + n.tmod (hi - lo + 1), by omega, by omega, rfl, rfl⟩
  · by_cases c3 : n.tmod (hi - lo + 1) < 0
    · go_enter Tryd.func12, Tryd.ntmps12
      go_wp2
      go_ret
      exact ⟨lo + (n.tmod (hi - lo + 1) + hi - lo + 1), by omega, by omega, rfl, rfl⟩
    · go_enter Tryd.func12, Tryd.ntmps12
      go_wp2
      go_ret
      exact ⟨lo + n.tmod (hi - lo + 1), by omega, by omega, rfl, rfl⟩

theorem rat_any (x y : Int) (h1 : -9223372036854775808 ≤ x) (h2 : x ≤ 9223372036854775807) (h3 : -9223372036854775808 ≤ y) (h4 : y ≤ 9223372036854775807) (w : World) :
    Calls Tryd.prog 11 #[.int .i64 x, .int .i64 y] w fun e w' => ∃ n : Int, -60 ≤ n ∧ n ≤ 60 ∧ ∃ d : Int, 1 ≤ d ∧ d ≤ 12 ∧ rightB n d = true ∧ e = .returned (.agg #[.int .i64 n, .int .i64 d]) ∧ Below w.heap.size w w' := by
  go_enter Tryd.func11, Tryd.ntmps11
  go_wp2_with (go_at_call 12; refine (within_any _ _ _ (by omega) (by omega) (by omega) (by omega) (by omega) _).mono ?_; rintro e w' ⟨r, r1, r2, rfl, rfl⟩)
  go_loopw [5, 6, 7] (fun s t k u => ∃ a b c : Int, -60 ≤ a ∧ a ≤ 60 ∧ 1 ≤ b ∧ b ≤ 12 ∧ 2 ≤ c ∧ c ≤ 13 ∧ Low a b c ∧ s = .int .i64 a ∧ t = .int .i64 b ∧ k = .int .i64 c ∧ ∃ n, u = (w.alloc (Obj.cells #[Value.int IntKind.i64 0, Value.int IntKind.i64 0] 26)).drewN n) (fun _ _ k _ => (13 - intOf k).toNat)
  case atStart => exact ⟨_, _, 2, by assumption, by assumption, by assumption, by assumption, by omega, by omega, Low.start _ _, rfl, rfl, rfl, 0, rfl⟩
  case round =>
    obtain ⟨a, b, c, a1, a2, b1, b2, c1, c2, hl, rfl, rfl, rfl, n, rfl⟩ := hrel
    by_cases hc : c ≤ b
    · go_wp2
      go_loopw [5, 6] (fun s t u => ∃ a' b' : Int, -60 ≤ a' ∧ a' ≤ 60 ∧ 1 ≤ b' ∧ b' ≤ 12 ∧ Low a' b' c ∧ s = .int .i64 a' ∧ t = .int .i64 b' ∧ ∃ n, u = (w.alloc (Obj.cells #[Value.int IntKind.i64 0, Value.int IntKind.i64 0] 26)).drewN n) (fun _ t _ => (intOf t).toNat)
      case atStart => exact ⟨_, _, a1, a2, b1, b2, hl, rfl, rfl, _, rfl⟩
      case round =>
        obtain ⟨a', b', p1, p2, q1, q2, hl', rfl, rfl, n', rfl⟩ := hrel
        clear hl
        by_cases t1 : a'.tmod c = 0
        · by_cases t2 : b' % c = 0
          · obtain ⟨e1, e2⟩ := tdiv_bd a' c p1 p2
            obtain ⟨e3, e4⟩ := div_bd b' c q1 c1 t2
            have e5 := hl'.div t1 t2
            go_wp2
            go_quiet (fail)
            go_wp2
            go_roundw
            case rel => exact ⟨_, _, e1, e2, e3, by omega, e5, rfl, rfl, _, World.drewN_drewN _ _ _⟩
            case measure => simp [intOf]; omega
          · have e6 := hl'.step (fun h => t2 h.2)
            go_wp2
            go_roundw
            case rel => exact ⟨a', b', c + 1, p1, p2, q1, q2, by omega, by omega, e6, rfl, rfl, rfl, _, rfl⟩
            case measure => simp [intOf]; omega
        · have e6 := hl'.step (fun h => t1 h.1)
          go_wp2
          go_roundw
          case rel => exact ⟨a', b', c + 1, p1, p2, q1, q2, by omega, by omega, e6, rfl, rfl, rfl, _, rfl⟩
          case measure => simp [intOf]; omega
    · go_wp2
      exact bodyPost_ret (v := .agg #[.int .i64 a, .int .i64 b]) (by simp [results, Tryd.results11, go_sem]) rfl ⟨a, a1, a2, b, b1, b2, hl.done (by omega) a1 a2 b1 b2, rfl, by repeat (first | exact Below.refl _ _ | refine below_drewN ?_ _ | refine Below.setCell ?_ (by simp) _ | refine Below.alloc ?_ (by simp) _ | refine Below.drew ?_)⟩
end Go.Proofs.YtcloepkaieifpaaDoor
