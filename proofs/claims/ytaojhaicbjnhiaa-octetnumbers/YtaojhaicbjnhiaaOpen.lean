/- A slice of bytes that came in: what it reads as. -/
import Derived.Test.YtaojhaicbjnhiaaTx
import Derived.ProofKit
import Derived.OpenShut
namespace Go.Proofs.Ytaojhaicbjnhiaa
open Go.ChangeShapes Go.WideShapes Go.ChangeAt Go.RowKit

theorem Try.cells5 : Try.prog.cellsOf 5 = 1 := by kernel_rfl
theorem Try.laidOut : laidOutB Try.prog = true := by kernel_rfl
theorem Try.readable23 : Try.prog.readableRec 23 = true := by kernel_rfl
theorem Try.row23 : 23 < Try.prog.types.size := of_decide_eq_true (by kernel_rfl)

theorem open_tx {H : Type} {enc : TypeId × Value → H} {W : World} {base : Nat} {v : Value} {d : DataW H} {p : List MemPlace} (hval : Value.okWide Try.prog W .any base 23 v) (h : DataW.Trod enc Try.prog W 0 (fun _ => true) true 23 v d p) :
    ∃ ao la ca xs, v = .slice ao la ca ∧ Tx W ao la ca xs := by
  obtain ⟨a1, len, cap, rfl⟩ := okWide_slice Try.underlying23 hval
  obtain ⟨fuel, hf⟩ := h
  rcases open_ints Try.underlying23 Try.underlying5 Try.cells5 hf with ⟨hcs, _⟩ | ⟨a, len', cap', zs, hcs, _, hl, hm, hz, _, hcell, hwz⟩
  · simp [Value.cells] at hcs
    obtain ⟨rfl, rfl, rfl⟩ := hcs
    exact ⟨none, 0, 0, [], rfl, Tx.nil W⟩
  · simp [Value.cells] at hcs
    obtain ⟨rfl, rfl, rfl⟩ := hcs
    simp only [if_true] at hz
    refine ⟨some a, len, cap, zs.take len, rfl, ⟨by simp; omega, hl, hm, fun h => (by cases h), fun ad ha j hj => ?_, fun n hn => ?_⟩⟩
    · cases ha
      rw [hcell j (by omega)]
      simp [List.getD, hj]
    · have := hwz n (List.mem_of_mem_take hn)
      simp [Lit.wf] at this
      have e1 : IntKind.u8.min = 0 := by decide
      have e2 : IntKind.u8.max = 255 := by decide
      omega

end Go.Proofs.Ytaojhaicbjnhiaa
