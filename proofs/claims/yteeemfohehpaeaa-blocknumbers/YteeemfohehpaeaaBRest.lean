/- The walk of block.Restarts; what the callees answer, case by case. -/
import Derived.Test.YteeemfohehpaeaaPE
import Derived.Test.YteeemfohehpaeaaBBack
import Derived.Test.YteeemfohehpaeaaBRefE
namespace Go.Proofs.Yteeemfohehpaeaa
set_option maxRecDepth 100000
open Go.RowKit

theorem restarts_no (ao : Option Addr) (la ca : Nat) (xs : List Int) (w : World) (ha : Tx w ao la ca xs) (sa : la ≤ 900000000) (h : allB xs = none) :
    Calls Try.prog 31 #[.slice ao la ca] w fun e w' => e = .returned (.tuple #[.slice none 0 0, .bool false]) ∧ Below w.heap.size w w' := by
  have hal := all_nope ao la ca xs w ha sa h
  go_enter Try.func31, Try.ntmps31
  go_wp2_with (go_at_call 28; with_reducible refine hal.mono ?_; rintro e W1 ⟨rfl, b1⟩)
  go_ret2
  exact ⟨rfl, b1⟩

theorem restarts_yes (ao : Option Addr) (la ca : Nat) (xs : List Int) (w : World) (ha : Tx w ao la ca xs) (sa : la ≤ 900000000) (l : List Ent) (h : allB xs = some l) :
    Calls Try.prog 31 #[.slice ao la ca] w fun e w' => ∃ bo cb, e = .returned (.tuple #[.slice bo (cntB l) cb, .bool true]) ∧ (∃ g o, bo = some ⟨g, o, none⟩ ∧ w'.cell? ⟨g, o, none⟩ = some (.int .i64 0)) ∧ Below w.heap.size w w' := by
  have hal := all_yes [] ao la ca xs w ha sa (by simp) l h
  have hst := fun (W : World) (hW : Below w.heap.size w W) => readstarts_yes ao la ca xs W (ha.later hW) sa l h
  go_enter Try.func31, Try.ntmps31
  go_wp2_with (first
    | (go_at_call 28; with_reducible refine hal.mono ?_; rintro e W1 ⟨bo, lb, cb, rfl, x1, b1⟩; have hs1 := hst W1 b1)
    | (go_at_call 55; with_reducible refine hs1.mono ?_; rintro e W2 ⟨ro, rc, rfl, hc, b2⟩))
  go_ret2
  exact ⟨ro, rc, rfl, hc, b1.trans (b2.mono b1.size)⟩

theorem rall_yes (ao : Option Addr) (la ca : Nat) (xs : List Int) (w : World) (ha : Tx w ao la ca xs) (sa : la ≤ 900000000) (es : List Ent) (h : allB xs = some es) :
    Calls Try.prog 29 #[.slice ao la ca] w fun e w' => ∃ bo lb cb, e = .returned (.tuple #[.slice bo lb cb, .bool true]) ∧ Lx 3 RE w' bo lb cb es ∧ Below w.heap.size w w' := by
  refine (rall_any ao la ca xs w ha sa).mono ?_
  rintro e w' (⟨es', bo, lb, cb, h1, rfl, hl, hb⟩ | ⟨h1, _, _⟩)
  · rw [h] at h1; cases h1; exact ⟨bo, lb, cb, rfl, hl, hb⟩
  · rw [h] at h1; cases h1
theorem rall_nope (ao : Option Addr) (la ca : Nat) (xs : List Int) (w : World) (ha : Tx w ao la ca xs) (sa : la ≤ 900000000) (h : allB xs = none) :
    Calls Try.prog 29 #[.slice ao la ca] w fun e w' => e = .returned (.tuple #[.slice none 0 0, .bool false]) ∧ Below w.heap.size w w' := by
  refine (rall_any ao la ca xs w ha sa).mono ?_
  rintro e w' (⟨es', bo, lb, cb, h1, _⟩ | ⟨_, h1, hb⟩)
  · rw [h] at h1; cases h1
  · exact ⟨h1, hb⟩
theorem seek_nope (ao : Option Addr) (la ca : Nat) (xs : List Int) (bo : Option Addr) (lb cb : Nat) (ks : List Int) (w : World) (ha : Tx w ao la ca xs) (hk : Tx w bo lb cb ks) (sa : la ≤ 900000000) (sk : lb ≤ 900000000) (hm : allB xs = none) :
    Calls Try.prog 30 #[.slice ao la ca, .slice bo lb cb] w fun e w' => e = .returned (.tuple #[.agg #[.slice none 0 0, .slice none 0 0, .bool false], .bool false]) ∧ Below w.heap.size w w' := by
  refine (seek_any ao la ca xs bo lb cb ks w ha hk sa sk).mono ?_
  have he : entsOf xs = [] := by unfold entsOf; rw [hm]; rfl
  rintro e w' ⟨⟨en', ko, kl, kc, vo, vl, vc, h1, _⟩ | ⟨_, h1⟩, hb⟩
  · rw [he] at h1; cases h1
  · exact ⟨h1, hb⟩
theorem all_len {xs : List Int} {es : List Ent} (h : allB xs = some es) : 1 ≤ es.length ∧ es.length ≤ 255 ∧ okL [] es = true := by
  obtain ⟨h1, _⟩ := (allB_iff xs es).1 h
  obtain ⟨m1, _⟩ := (validB_iff es xs).1 h1
  exact (mayB_iff 255 es).1 m1

end Go.Proofs.Yteeemfohehpaeaa
