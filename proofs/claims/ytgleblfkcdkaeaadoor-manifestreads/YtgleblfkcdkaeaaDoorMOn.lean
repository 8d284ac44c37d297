/- The statements' on: a disk with one file. -/
import Derived.Test.YtgleblfkcdkaeaaDoorMBook
namespace Go.Proofs.YtgleblfkcdkaeaaDoor
set_option maxRecDepth 100000
open Go.RowKit Go.Sort

theorem put_l0 (x : List Int) (s : Nat) : put [] ⟨nmList, x, s⟩ = [fL x s] := by simp [put, lo, hi, fL]
theorem put_l1 (x y : List Int) (s t : Nat) : put [fL y t] ⟨nmList, x, s⟩ = [fL x s] := by simp [put, lo, hi, fL, nlt_irrefl]

set_option maxHeartbeats 4000000 in
theorem on_x (ao : Option Addr) (la ca : Nat) (xs : List Int) (w : World) (h : Tx w ao la ca xs) (hl : la ≤ 1000) :
    Calls Tryd.prog 25 #[.string nmList, .slice ao la ca] w fun e w' => e = .returned (.pointer (some ⟨w.heap.size, 0, none⟩)) ∧ Dx w.heap.size [] w' w.heap.size ⟨16777216, [fL xs xs.length], 0, false⟩ ∧ Below w.heap.size w w' := by
  have e1 := h.len_eq
  have h1 : (⟨16777216, [], 0, false⟩ : Dm).create nmList = (⟨16777216, [fL [] 0], 0, false⟩, 0) := by
    rw [create_calm rfl rfl ok_list]; exact congrArg (fun l => ((⟨16777216, l, 0, false⟩ : Dm), (0 : Int))) (put_l0 [] 0)
  have h2 : (⟨16777216, [fL [] 0], 0, false⟩ : Dm).append nmList xs = (⟨16777216, [fL xs 0], 0, false⟩, 0) := by
    rw [append_calm rfl rfl (get_l1 [] 0) xs (by simp [used, fL]; omega)]; exact congrArg (fun l => ((⟨16777216, l, 0, false⟩ : Dm), (0 : Int))) (put_l1 xs [] 0 0)
  have h3 : (⟨16777216, [fL xs 0], 0, false⟩ : Dm).sync nmList = (⟨16777216, [fL xs xs.length], 0, false⟩, 0) := by
    rw [sync_calm rfl rfl (get_l1 xs 0)]; exact congrArg (fun l => ((⟨16777216, l, 0, false⟩ : Dm), (0 : Int))) (put_l1 xs xs xs.length 0)
  go_enter Tryd.func25, Tryd.ntmps25
  go_wp2_with fail
  with_reducible refine (fresh_x w).mono ?_
  rintro e W1 ⟨rfl, x1, b1⟩
  go_wp2_with fail
  with_reducible refine (create_x x1 nmList _ 0 h1 (by simp) list_size).mono ?_
  rintro e W2 ⟨rfl, x2, k2⟩
  have b2 := b1.trans (k2.below x1.size)
  go_wp2_with fail
  with_reducible refine (append_x x2 nmList ao la ca xs (h.later b2) (fun ad ha h0 => .inl (h.lt ad ha h0)) (by omega) _ 0 h2 (by simp)).mono ?_
  rintro e W3 ⟨rfl, x3, k3⟩
  have b3 := b2.trans (k3.below x2.size)
  go_wp2_with fail
  with_reducible refine (sync_x x3 nmList _ 0 h3 (by simp)).mono ?_
  rintro e W4 ⟨rfl, x4, k4⟩
  go_wp2
  go_ret
  exact ⟨rfl, x4, b3.trans (k4.below x3.size)⟩
end Go.Proofs.YtgleblfkcdkaeaaDoor
