/- The walk of the statements' own 'known'. -/
import Derived.Test.YtdlkakkoaelemaaFWalksG
namespace Go.Proofs.Ytdlkakkoaelemaa
open Go.RowKit

/-- A row that bears the mark of a constant's bytes. -/
theorem tx_mark (w : World) (cs : Array Value) (fr : Nat × Nat) (xs : List Int) (n : Nat) (hc : cs = (xs.map (Value.int .u8)).toArray) (hn : xs.length = n) (hm : n ≤ 1000000) (hr : ∀ x ∈ xs, 0 ≤ x ∧ x ≤ 255) :
    Tx (w.alloc (.cells cs 5 fr)) (some ⟨w.heap.size, 0, none⟩) n n xs := by
  subst hc; subst hn
  refine ⟨rfl, Nat.le_refl _, by unfold maxLen; omega, fun h => (by cases h), fun ad ha j hj => ?_, hr⟩
  cases ha
  rw [Addr.add_lit, Nat.zero_add, World.cell?_alloc_mark]
  simp [List.getD, hj]

theorem conv_a (w : World) : (convert 23 23 (.slice (some ⟨w.heap.size, 0, none⟩) 1 1)).run Try.prog (w.alloc (.cells #[.int .u8 97] 5)) = .ok (.slice (some ⟨w.heap.size, 0, none⟩) 1 1) (w.alloc (.cells #[.int .u8 97] 5 (1, 2))) :=
  Lib.run_convert_bytes_const w 23 5 #[.int .u8 97] 1 1 Try.underlying23 Try.underlying5

end Go.Proofs.Ytdlkakkoaelemaa
