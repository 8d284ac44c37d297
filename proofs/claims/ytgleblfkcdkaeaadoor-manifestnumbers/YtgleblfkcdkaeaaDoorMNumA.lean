/- ManifestNumbers' helpers: a row of ints that is written, one by one; lists in a row. -/
import Derived.Test.YtgleblfkcdkaeaaDoorMCrash
import Derived.Test.YtgleblfkcdkaeaaDoorMEncs
namespace Go.Proofs.YtgleblfkcdkaeaaDoor
set_option maxRecDepth 100000
open Go.RowKit Go.Sort

/-- A block of ints. -/
def RwI (w : World) (g : Nat) (zs : List Int) : Prop := w.heap[g]? = some (.cells (zs.map (Value.int .i64)).toArray 3 (0, 0))
theorem RwI.cell {w : World} {g : Nat} {zs : List Int} (h : RwI w g zs) (j : Nat) (hj : j < zs.length) : w.cell? ⟨g, j, none⟩ = some (.int .i64 (zs.getD j 0)) := by
  rw [cell_of_row w g _ _ 3 (0, 0) h]
  simp [List.getD, hj]
theorem RwI.free {w : World} {g : Nat} {zs : List Int} (h : RwI w g zs) (j : Nat) : w.frozen? ⟨g, j, none⟩ = false := frozen_of_row w g j _ 3 h
theorem RwI.set {w : World} {g : Nat} {zs : List Int} (h : RwI w g zs) (j : Nat) (x : Int) : RwI (w.setCell ⟨g, j, none⟩ (.int .i64 x)) g (zs.set j x) := by
  have := heap_setCell_same w g j _ 3 (.int .i64 x) h
  unfold RwI
  rw [this]
  simp [List.map_set]
theorem RwI.lx {w : World} {g : Nat} {zs : List Int} (h : RwI w g zs) (n : Nat) (hn : zs.length = n) (hm : n ≤ 1000000) (hr : ∀ x ∈ zs, i64ok x) : Lx 1 RI w (some ⟨g, 0, none⟩) n n zs := lx_cells w g zs _ n rfl hn hm hr h

def upto (k : Nat) : List Int := (List.range k).map (fun i : Nat => (i : Int)) ++ List.replicate (256 - k) 0
theorem upto_len (k : Nat) (h : k ≤ 256) : (upto k).length = 256 := by simp [upto]; omega
theorem upto_set (k : Nat) (h : k < 256) : (upto k).set k (k : Int) = upto (k + 1) := by
  unfold upto
  have hl : ((List.range k).map (fun i : Nat => (i : Int))).length = k := by simp
  have e : ∀ (a b : List Int), a.length = k → (a ++ b).set k (k : Int) = a ++ b.set 0 (k : Int) := fun a b h => by rw [List.set_append, if_neg (by omega), h, Nat.sub_self]
  rw [e _ _ hl, show 256 - k = (256 - (k + 1)) + 1 by omega, List.replicate_succ, List.set_cons_zero, List.range_succ]
  simp
theorem upto_all : upto 256 = (List.range 256).map (fun i : Nat => (i : Int)) := by simp [upto]
end Go.Proofs.YtgleblfkcdkaeaaDoor
