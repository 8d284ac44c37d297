/- The walk of the statements' own 'known'. -/
import Derived.Test.YtondfbjldonogaaWalksG
namespace Go.Proofs.Ytondfbjldonogaa
open Go.RowKit

/-- A row that bears the mark of a constant's bytes. -/
theorem tx_mark (w : World) (cs : Array Value) (fr : Nat × Nat) (xs : List Int) (n : Nat) (hc : cs = (xs.map (Value.int .u8)).toArray) (hn : xs.length = n) (hm : n ≤ 1000000) (hr : ∀ x ∈ xs, 0 ≤ x ∧ x ≤ 255) :
    Tx (w.alloc (.cells cs 5 fr)) (some ⟨w.heap.size, 0, none⟩) n n xs := by
  subst hc; subst hn
  refine ⟨rfl, Nat.le_refl _, by unfold maxLen; omega, fun h => (by cases h), fun ad ha j hj => ?_, hr⟩
  cases ha
  rw [Addr.add_lit, Nat.zero_add, World.cell?_alloc_mark]
  simp [List.getD, hj]

theorem conv_a (w : World) : (convert 22 22 (.slice (some ⟨w.heap.size, 0, none⟩) 1 1)).run Try.prog (w.alloc (.cells #[.int .u8 97] 5)) = .ok (.slice (some ⟨w.heap.size, 0, none⟩) 1 1) (w.alloc (.cells #[.int .u8 97] 5 (1, 2))) :=
  Lib.run_convert_bytes_const w 22 5 #[.int .u8 97] 1 1 Try.underlying22 Try.underlying5

theorem known_put (w : World) : Calls Try.prog 13 #[.slice none 0 0, .slice (some ⟨w.heap.size, 0, none⟩) 1 1] (w.alloc (.cells #[.int .u8 97] 5 (1, 2))) fun e w' => ∃ bo lb cb, e = .returned (.tuple #[.slice bo lb cb, .int .i64 0]) ∧ Tx w' bo lb cb [0, 0, 1, 255, 255, 254, 97] ∧ Below w.heap.size w w' := by
  refine (fput_any none _ 0 0 1 1 [] [97] _ (Tx.nil _) (tx_mark w #[.int .u8 97] (1, 2) [97] 1 rfl rfl (by omega) (by simp)) (by omega) (by omega)).mono ?_
  rintro e w' ⟨bo, lb, cb, rfl, ht, hb⟩
  have e1 : [] ++ recL [97] = [0, 0, 1, 255, 255, 254, 97] := by decide
  rw [e1] at ht
  exact ⟨bo, lb, cb, rfl, ht, ((Below.refl w.heap.size w).alloc (Nat.le_refl _) _).trans (hb.mono (by simp))⟩
theorem known_batch (w : World) : Calls Try.prog 24 #[.slice none 0 0] w fun e w' => ∃ bo lb cb, e = .returned (.tuple #[.slice bo lb cb, .int .i64 0]) ∧ Tx w' bo lb cb [0, 0] ∧ Below w.heap.size w w' := by
  refine (fbatch_yes none 0 0 [] w (Lx.nil _ _ _) rfl).mono ?_
  rintro e w' ⟨bo, lb, cb, rfl, ht, hb⟩
  have e1 : batchL [] = [0, 0] := by decide
  rw [e1] at ht
  exact ⟨bo, lb, cb, rfl, ht, hb⟩

theorem known_any (w : World) : Calls Try.prog 14 #[] w fun e w' => e = .returned (.bool true) ∧ Below w.heap.size w w' := by
  have s1 : strOfNums [0, 0, 1, 255, 255, 254, 97] = ⟨#[0, 0, 1, 255, 255, 254, 97]⟩ := rfl
  have s2 : strOfNums [0, 0] = ⟨#[0, 0]⟩ := rfl
  have g0 := conv_a w
  go_enter Try.func14, Try.ntmps14
  go_wp2_with (first | (go_at_call 13; with_reducible refine (known_put w).mono ?_; rintro e w1 ⟨bo, lb, cb, rfl, ht1, hb1⟩) | (go_at_call 24; with_reducible refine (known_batch w1).mono ?_; rintro e w2 ⟨b2, l2, c2, rfl, ht2, hb2⟩; have g1 := (ht1.later hb2).string; have g2 := ht2.string; rw [s1] at g1; rw [s2] at g2))
  go_ret
  exact ⟨rfl, hb1.trans (hb2.mono hb1.size)⟩

end Go.Proofs.Ytondfbjldonogaa
