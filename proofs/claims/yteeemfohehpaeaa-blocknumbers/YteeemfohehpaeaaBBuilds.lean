/- The walk of the statements' own 'builds': Build against the document's. -/
import Derived.Test.YteeemfohehpaeaaPE
import Derived.Test.YteeemfohehpaeaaBRefA
import Derived.Test.YteeemfohehpaeaaBRefC
namespace Go.Proofs.Yteeemfohehpaeaa
set_option maxRecDepth 100000
open Go.RowKit Go.Sort

theorem below_tr {w W w1 : World} (h : Below w.heap.size w W) (h2 : Below W.heap.size W w1) : Below w.heap.size w w1 := h.trans (h2.mono h.size)

set_option maxHeartbeats 8000000 in
theorem builds_any (ao : Option Addr) (len cap : Nat) (l : List Ent) (w : World) (h : Lx 3 RE w ao len cap l) (hs : ∀ e ∈ l, e.k.length ≤ 1000000000000) :
    Calls Try.prog 12 #[.slice ao len cap] w fun e w' => e = .returned (.bool true) ∧ Below w.heap.size w w' := by
  have hmC := fun (W : World) (hW : Below w.heap.size w W) => rmay_any ao len cap l W (h.later RE.stable hW)
  cases hmay : mayB 255 l with
  | false =>
    rw [hmay] at hmC
    have hbu := build_arg ao len cap l w h hs hmay
    go_enter Try.func12, Try.ntmps12
    go_wp2_with (first
      | (go_at_call 32; with_reducible refine hbu.mono ?_; rintro e W1 ⟨rfl, b1⟩; have hm1 := hmC W1 b1)
      | (go_at_call 21; with_reducible refine hm1.mono ?_; rintro e W2 ⟨rfl, b2⟩))
    go_ret
    exact ⟨rfl, below_tr b1 b2⟩
  | true =>
    rw [hmay] at hmC
    have hfC := fun (W : World) (hW : Below w.heap.size w W) => rfits_any ao len cap l W (h.later RE.stable hW) hmay
    cases hfit : fitB 0 0 [] l with
    | false =>
      rw [hfit] at hfC
      have hbu := build_long ao len cap l w h hs hmay hfit
      go_enter Try.func12, Try.ntmps12
      go_wp2_with (first
        | (go_at_call 32; with_reducible refine hbu.mono ?_; rintro e W1 ⟨rfl, b1⟩; have hm1 := hmC W1 b1)
        | (go_at_call 21; with_reducible refine hm1.mono ?_; rintro e W2 ⟨rfl, b2⟩; have B2 := below_tr b1 b2; have hf2 := hfC W2 B2)
        | (go_at_call 33; with_reducible refine hf2.mono ?_; rintro e W3 ⟨rfl, b3⟩))
      go_ret
      exact ⟨rfl, below_tr B2 b3⟩
    | true =>
      rw [hfit] at hfC
      have hbu := build_yes ao len cap l w h hs hmay hfit (blockL l) rfl
      have hrb := fun (W : World) (hW : Below w.heap.size w W) => rbuild_any ao len cap l W (h.later RE.stable hW) hmay
      generalize blockL l = bs at hbu hrb
      go_enter Try.func12, Try.ntmps12
      go_wp2_with (first
        | (go_at_call 32; with_reducible refine hbu.mono ?_; rintro e W1 ⟨bo, lb, cb, rfl, t1, b1⟩; have hm1 := hmC W1 b1)
        | (go_at_call 21; with_reducible refine hm1.mono ?_; rintro e W2 ⟨rfl, b2⟩; have B2 := below_tr b1 b2; have hf2 := hfC W2 B2)
        | (go_at_call 33; with_reducible refine hf2.mono ?_; rintro e W3 ⟨rfl, b3⟩; have B3 := below_tr B2 b3; have t3 := (t1.later b2).later b3))
      have s0 := (t3.later ((Below.refl W3.heap.size W3).drew)).string
      have hr3 : Calls Try.prog 10 #[.slice ao len cap] W3.drew fun e W4 => ∃ qo lq cq, e = .returned (.slice qo lq cq) ∧ (convert 23 9 (.slice qo lq cq)).run Try.prog W4 = .ok (.string (strOfNums bs)) W4 ∧ (convert 23 9 (.slice bo lb cb)).run Try.prog W4 = .ok (.string (strOfNums bs)) W4 ∧ Below W3.heap.size W3 W4 := by
        refine (hrb W3.drew B3.drew).mono ?_
        rintro e W4 ⟨qo, lq, cq, rfl, g4, b4⟩
        have B4 : Below W3.heap.size W3 W4 := ((Below.refl W3.heap.size W3).drew).trans b4
        exact ⟨qo, lq, cq, rfl, g4.tx.string, (t3.later B4).string, B4⟩
      clear hmC hfC hrb hm1 hf2 hbu
      generalize strOfNums bs = SB at s0 hr3
      go_region_held (fun w' => Below W3.heap.size W3 w') (first | assumption | exact (Below.refl _ _).drew) (first | (go_at_call 10; with_reducible refine hr3.mono ?_; rintro e W4 ⟨qo, lq, cq, rfl, s4, s5, B4⟩))
      all_goals
        try simp only [List.getElem_toArray, List.getElem_cons_succ, List.getElem_cons_zero, List.setIfInBounds_toArray, List.set_cons_zero, List.set_cons_succ]
        go_wp2
        go_ret
        exact ⟨rfl, below_tr B3 B4⟩

end Go.Proofs.Yteeemfohehpaeaa
