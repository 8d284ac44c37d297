/- The walks of octet.Shared, octet.Less, octet.Get and marigraphkeep.Cut. -/
import Derived.Test.YtdlkakkoaelemaaFWalksA
import Derived.Test.YtdlkakkoaelemaaOMath
namespace Go.Proofs.Ytdlkakkoaelemaa
open Go.RowKit


theorem shared_any (ao bo : Option Addr) (la ca lb cb : Nat) (xs ys : List Int) (w : World) (ha : Tx w ao la ca xs) (hb : Tx w bo lb cb ys) (sa : la ≤ 140737488351232) (sb : lb ≤ 140737488351232) :
    Calls Try.prog 35 #[.slice ao la ca, .slice bo lb cb] w fun e w' => e = .returned (.int .i64 (shared xs ys)) ∧ Below w.heap.size w w' := by
  have e1 := ha.len_eq
  have e2 := hb.len_eq
  by_cases h0 : 0 < la ∧ 0 < lb
  · obtain ⟨ab, af, rfl, hca⟩ := ha.head h0.1
    obtain ⟨bb, bf, rfl, hcb⟩ := hb.head h0.2
    go_enter Try.func35, Try.ntmps35
    go_wp2
    all_goals
      go_loopw [6, 13] (fun _ i wr => ∃ k : Nat, k ≤ la ∧ k ≤ lb ∧ i = .int .i64 k ∧ Hid (∀ j, j < k → xs.getD j 0 = ys.getD j 0) ∧ Below w.heap.size w wr) (fun _ i _ => la - (intOf i).toNat)
      case atStart => exact ⟨0, by omega, by omega, rfl, fun j hj => (by omega), Below.refl _ _⟩
      case round =>
        obtain ⟨k, hka, hkb, rfl, heq, hbel⟩ := hrel
        by_cases hk : k < la ∧ k < lb
        · have c1 := cell_later hbel (hca k hk.1)
          have c2 := cell_later hbel (hcb k hk.2)
          have r1 := ha.rngAt k
          have r2 := hb.rngAt k
          generalize hx : xs.getD k 0 = x at c1 r1
          generalize hy : ys.getD k 0 = y at c2 r2
          by_cases hxy : x = y
          · have h1 : (x != y) = false := by simp [hxy]
            go_wp2
            go_quiet (fail)
            go_wp2
            go_roundw
            case rel =>
              refine ⟨k + 1, by omega, by omega, by go_num, fun j hj => ?_, below_drewN hbel _⟩
              by_cases hjk : j = k
              · subst hjk; rw [hx, hy, hxy]
              · exact heq j (by omega)
            case measure => simp [intOf]; omega
          · have h1 : (x != y) = true := by simp [hxy]
            go_wp2
            go_quiet (fail)
            go_wp2
            go_ret
            exact ⟨ret_int (by rw [shared_eq xs ys k (by omega) (by omega) heq (.inr (.inr (by rw [hx, hy]; exact hxy)))]), below_drewN hbel _⟩
        · go_wp2
          go_ret
          exact ⟨ret_int (by rw [shared_eq xs ys k (by omega) (by omega) heq (by omega)]; omega), hbel⟩
  · have hz : shared xs ys = 0 := by have := shared_le xs ys; omega
    go_enter Try.func35, Try.ntmps35
    go_wp2
    all_goals
      refine wp_loop_rounds 1 ?_
      rw [rounds_succ]
      go_wp2
      go_ret
      exact ⟨ret_int (by rw [hz]; omega), Below.refl _ _⟩

end Go.Proofs.Ytdlkakkoaelemaa
