/- The walk of the statements' own 'known'. -/
import Derived.Test.YtaojhaicbjnhiaaWalksB
import Derived.Test.YtaojhaicbjnhiaaWalksD
import Derived.Test.YtaojhaicbjnhiaaWalksE
import Derived.Lib.SmallJoins
namespace Go.Proofs.Ytaojhaicbjnhiaa
open Go.RowKit

theorem tx_lit (w : World) (cs : Array Value) (xs : List Int) (n : Nat) (hc : cs = (xs.map (Value.int .u8)).toArray) (hn : xs.length = n) (hm : n ≤ 1000000) (hr : ∀ x ∈ xs, 0 ≤ x ∧ x ≤ 255) :
    Tx (w.alloc (.cells cs 5)) (some ⟨w.heap.size, 0, none⟩) n n xs := by
  subst hc
  have hr' : Row (w.alloc (.cells (xs.map (Value.int .u8)).toArray 5)) w.heap.size xs := heap_alloc_new w _
  exact hr'.tx n hn hm hr

theorem known_next (w : World) : Calls Try.prog 16 #[.slice (some ⟨w.heap.size, 0, none⟩) 2 2] (w.alloc (.cells #[.int .u8 1, .int .u8 255] 5)) fun e w' => ∃ bo lb cb, e = .returned (.tuple #[.slice bo lb cb, .bool true]) ∧ Tx w' bo lb cb [2] ∧ Below w.heap.size w w' := by
  refine (next_any (some ⟨w.heap.size, 0, none⟩) 2 2 [1, 255] _ (tx_lit w _ [1, 255] 2 rfl rfl (by omega) (by simp)) (by omega)).mono ?_
  rintro e w' ⟨bo, lb, cb, rfl, ht, hb⟩
  have e1 : nextL [1, 255] = [2] := by decide
  rw [e1] at ht
  exact ⟨bo, lb, cb, rfl, ht, ((Below.refl w.heap.size w).alloc (Nat.le_refl _) _).trans (hb.mono (by simp))⟩

theorem known_put (w : World) : Calls Try.prog 14 #[.slice none 0 0, .int .u64 258, .int .i64 3] w fun e w' => ∃ bo lb cb, e = .returned (.slice bo lb cb) ∧ Tx w' bo lb cb [0, 1, 2] ∧ Below w.heap.size w w' := by
  refine (put_any none 0 0 258 3 [] w (Tx.nil w) (by omega) (by omega) (by omega) (by omega) (by omega)).mono ?_
  rintro e w' ⟨bo, lb, cb, rfl, ht, hb⟩
  have e1 : [] ++ low (clampN 3) 258 = [0, 1, 2] := by decide
  rw [e1] at ht
  exact ⟨bo, lb, cb, rfl, ht, hb⟩

/-- The same of a row that bears the mark of a constant's bytes. -/
theorem tx_mark (w : World) (cs : Array Value) (fr : Nat × Nat) (xs : List Int) (n : Nat) (hc : cs = (xs.map (Value.int .u8)).toArray) (hn : xs.length = n) (hm : n ≤ 1000000) (hr : ∀ x ∈ xs, 0 ≤ x ∧ x ≤ 255) :
    Tx (w.alloc (.cells cs 5 fr)) (some ⟨w.heap.size, 0, none⟩) n n xs := by
  subst hc; subst hn
  refine ⟨rfl, Nat.le_refl _, by unfold maxLen; omega, fun h => (by cases h), fun ad ha j hj => ?_, hr⟩
  cases ha
  rw [Addr.add_lit, Nat.zero_add, World.cell?_alloc_mark]
  simp [List.getD, hj]

theorem known_less (w : World) : Calls Try.prog 15 #[.slice (some ⟨w.heap.size, 0, none⟩) 1 1, .slice (some ⟨w.heap.size + 1, 0, none⟩) 2 2] ((w.alloc (.cells #[.int .u8 97] 5 (1, 2))).alloc (.cells #[.int .u8 97, .int .u8 98] 5 (2, 3))) fun e w' => e = .returned (.bool true) ∧ Below w.heap.size w w' := by
  have h1 := tx_mark w #[.int .u8 97] (1, 2) [97] 1 rfl rfl (by omega) (by simp)
  have h2 := tx_mark (w.alloc (.cells #[.int .u8 97] 5 (1, 2))) #[.int .u8 97, .int .u8 98] (2, 3) [97, 98] 2 rfl rfl (by omega) (by simp)
  have hs : (w.alloc (.cells #[.int .u8 97] 5 (1, 2))).heap.size = w.heap.size + 1 := by simp
  rw [hs] at h2
  refine (less_any _ _ 1 1 2 2 [97] [97, 98] _ (h1.later ((Below.refl _ _).alloc (Nat.le_refl _) _)) h2 (by omega) (by omega)).mono ?_
  rintro e w' ⟨rfl, hb⟩
  exact ⟨rfl, (((Below.refl w.heap.size w).alloc (Nat.le_refl _) _).alloc (by simp) _).trans (hb.mono (by simp; omega))⟩

theorem conv_a (w : World) : (convert 23 23 (.slice (some ⟨w.heap.size, 0, none⟩) 1 1)).run Try.prog (w.alloc (.cells #[.int .u8 97] 5)) = .ok (.slice (some ⟨w.heap.size, 0, none⟩) 1 1) (w.alloc (.cells #[.int .u8 97] 5 (1, 2))) :=
  Lib.run_convert_bytes_const w 23 5 #[.int .u8 97] 1 1 Try.underlying23 Try.underlying5
theorem conv_ab (w : World) (g : Nat) (hg : g = w.heap.size) : (convert 23 23 (.slice (some ⟨g, 0, none⟩) 2 2)).run Try.prog (w.alloc (.cells #[.int .u8 97, .int .u8 98] 5)) = .ok (.slice (some ⟨g, 0, none⟩) 2 2) (w.alloc (.cells #[.int .u8 97, .int .u8 98] 5 (2, 3))) := by
  subst hg
  exact Lib.run_convert_bytes_const w 23 5 #[.int .u8 97, .int .u8 98] 2 2 Try.underlying23 Try.underlying5

theorem known_any (w : World) : Calls Try.prog 9 #[] w fun e w' => e = .returned (.bool true) ∧ Below w.heap.size w w' := by
  have s2 : strOfNums [2] = ⟨#[2]⟩ := rfl
  have s012 : strOfNums [0, 1, 2] = ⟨#[0, 1, 2]⟩ := rfl
  go_enter Try.func9, Try.ntmps9
  go_wp2_with (first | (go_at_call 16; with_reducible refine (known_next w).mono ?_; rintro e w1 ⟨bo, lb, cb, rfl, ht1, hb1⟩) | (go_at_call 14; with_reducible refine (known_put w1).mono ?_; rintro e w2 ⟨b2, l2, c2, rfl, ht2, hb2⟩; have g1 := (ht1.later hb2).string; have g2 := ht2.string; rw [s2] at g1; rw [s012] at g2; have g3 := conv_a w2; have g4 := conv_ab (w2.alloc (.cells #[.int .u8 97] 5 (1, 2))) (w2.heap.size + 1) (by simp)) | (go_at_call 15; with_reducible refine (known_less w2).mono ?_; rintro e w3 ⟨rfl, hb3⟩))
  go_ret
  exact ⟨rfl, (hb1.trans (hb2.mono hb1.size)).trans (hb3.mono (Nat.le_trans hb1.size hb2.size))⟩

end Go.Proofs.Ytaojhaicbjnhiaa
