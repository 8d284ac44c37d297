/- What Open reads, as plain lists of numbers: the index, the blocks, what is known of each. -/
import Derived.Test.YteeemfohehpaeaaTMod
import Derived.Test.YteeemfohehpaeaaPB
namespace Go.Proofs.Yteeemfohehpaeaa
open Go.RowKit

def mariL : List Int := [109, 97, 114, 105]
/-- The bytes of the blocks, and those of their lengths. -/
def partsT (xs : List Int) : Option (List Int × List Int) :=
  if xs.length < 8 then none
  else if xs.drop (xs.length - 4) ≠ mariL then none
  else if ((xs.length - 8 : Nat) : Int) < getN (xs.drop (xs.length - 8)) 4 then none
  else
    let g := (getN (xs.drop (xs.length - 8)) 4).toNat
    let i := (xs.drop g).take (xs.length - 8 - g)
    if getN i 2 < 1 ∨ i.length ≠ 2 + (getN i 2).toNat * 4 then none else some (xs.take g, i.drop 2)
/-- The blocks' texts. -/
def cutT : Nat → List Int → List Int → Option (List (List Int))
  | 0, bl, _ => if bl.length = 0 then some [] else none
  | c + 1, bl, ls => if (bl.length : Int) < getN ls 4 then none else (cutT c (bl.drop (getN ls 4).toNat) (ls.drop 4)).map (bl.take (getN ls 4).toNat :: ·)
/-- One block more, behind c entries of which a is the last Key. -/
def addT (c : Nat) (a : List Int) (text : List Int) : Option (List Ent) :=
  match allB text with
  | none => none
  | some l => if l.length ≤ 8 ∧ c % 8 = 0 ∧ c + l.length ≤ 65535 ∧ okL a l = true then some l else none
def addsT : Nat → List Int → List (List Int) → Option (List Ent)
  | _, _, [] => some []
  | c, a, x :: r =>
    match addT c a x with
    | none => none
    | some l => (addsT (c + l.length) (lastK a l) r).map (l ++ ·)
def openT (xs : List Int) : Option (List Ent) :=
  match partsT xs with
  | none => none
  | some (a, b) =>
    match cutT (b.length / 4) a b with
    | none => none
    | some ts => addsT 0 [] ts

theorem joinB_nn (n c : Int) : 0 ≤ joinB n c := by
  have h : joinB n c = IntKind.u64.wrap ((BitVec.ofInt IntKind.u64.bits (IntKind.u64.wrap (n * 256)) ||| BitVec.ofInt IntKind.u64.bits c).toNat : Int) := rfl
  rw [h, IntKind.wrap_u64]; omega
theorem val_nn (xs : List Int) : 0 ≤ val xs := by
  rcases List.eq_nil_or_concat xs with rfl | ⟨r, x, rfl⟩
  · simp [val]
  · rw [val, List.concat_eq_append, List.foldl_append]; exact joinB_nn _ _
theorem getN_nn (xs : List Int) (k : Int) : 0 ≤ getN xs k := by
  unfold getN
  split
  · exact val_nn _
  · omega
end Go.Proofs.Yteeemfohehpaeaa
