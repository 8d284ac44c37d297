/- The walks of octet.Less, marigraphkeep.Cut, octet.Get. -/
import Derived.Test.YtdlkakkoaelemaaOWalksA
namespace Go.Proofs.Ytdlkakkoaelemaa
open Go.RowKit

theorem less_any (ao bo : Option Addr) (la ca lb cb : Nat) (xs ys : List Int) (w : World) (ha : Tx w ao la ca xs) (hb : Tx w bo lb cb ys) (sa : la ≤ 140737488351232) (sb : lb ≤ 140737488351232) :
    Calls Try.prog 30 #[.slice ao la ca, .slice bo lb cb] w fun e w' => e = .returned (.bool (lessB xs ys)) ∧ Below w.heap.size w w' := by
  have e1 := ha.len_eq
  have e2 := hb.len_eq
  have hs := shared_le xs ys
  have hend := lessB_end xs ys
  have hat := lessB_at xs ys
  have hsh := shared_any ao bo la ca lb cb xs ys w ha hb sa sb
  generalize shared xs ys = k at hs hend hat hsh
  by_cases h0 : k = la ∨ k = lb
  · by_cases h1 : k = la
    · have t1 : ((k : Int) == (la : Int)) = true := by simp [h1]
      go_enter Try.func30, Try.ntmps30
      go_wp2_with (go_at_call 35; with_reducible refine hsh.mono ?_; rintro e w1 ⟨rfl, hb1⟩)
      go_ret
      exact ⟨ret_bool (by rw [hend (by omega), e1, e2]), hb1⟩
    · have t1 : ((k : Int) == (la : Int)) = false := by simp; omega
      have t2 : ((k : Int) == (lb : Int)) = true := by simp; omega
      go_enter Try.func30, Try.ntmps30
      go_wp2_with (go_at_call 35; with_reducible refine hsh.mono ?_; rintro e w1 ⟨rfl, hb1⟩)
      go_ret
      exact ⟨ret_bool (by rw [hend (by omega), e1, e2]), hb1⟩
  · obtain ⟨ab, af, rfl, hca⟩ := ha.head (by omega)
    obtain ⟨bb, bf, rfl, hcb⟩ := hb.head (by omega)
    have c1 := hca k (by omega)
    have c2 := hcb k (by omega)
    have t1 : ((k : Int) == (la : Int)) = false := by simp; omega
    have t2 : ((k : Int) == (lb : Int)) = false := by simp; omega
    generalize hx : xs.getD k 0 = x at c1 hat
    generalize hy : ys.getD k 0 = y at c2 hat
    go_enter Try.func30, Try.ntmps30
    go_wp2_with (go_at_call 35; with_reducible refine hsh.mono ?_; rintro e w1 ⟨rfl, hb1⟩; have d1 := cell_later hb1 c1; have d2 := cell_later hb1 c2)
    go_quiet (fail)
    go_wp2
    go_ret
    exact ⟨ret_bool (by rw [hat (by omega) (by omega)]), below_drewN hb1 _⟩

end Go.Proofs.Ytdlkakkoaelemaa
