/-
  No cell of these rows narrows 'for every input' (looked for: loops, veiled, ifaces, maps, wideKeys, modest, calm, conditions, laid).
  DERIVED. THE GIVEN ROWS OF THIS SEAT. 6 by the template 'for every input the law returns true; each argument reads behind the call as it read before'; 0 by the template 'total and deterministic' (their statements: YtadnbdkbjajgdaaTotals.lean).
  GIVEN WITH THE SEED: the statements are not yours to turn. If you find one false, say at which input.
  Laid BY PROGRAM, IN A SANDBOX (cutbox-rows.mjs): the forced cells as the released guide's own fill.sh prints them over the translation e1a6a3605c6c3528… (all of the seat's roots in one cut). By AI agents, Wed Nov 11 2026. No macro, syntax, notation, axiom, sorry.
-/
import Derived.Test.YtadnbdkbjajgdaaChecked
import GoSem.Claim
import GoSem.ClaimJoined
import GoSem.ClaimMapViews
import Derived.JoinedTies
import Derived.KernelRfl
namespace Go.Proofs.Ytadnbdkbjajgdaa
/- THE CELL 'sum', in the pinned program and in every row, IS THE sha256 OF THE DUMP (.gsa) THAT YtadnbdkbjajgdaaProg.lean LOADS. Nothing in Lean hashes anything: it is a label: what it is worth is what the hold of that sum in a sandbox is worth. -/
noncomputable def Try.pinned : Pinned := { name := "ytadnbdkbjajgdaa", sum := "e1a6a3605c6c35285ff5c4524342b2335476a05adc8c32f8d640ceff24999122", checked := Try.checked }
namespace Rows
def none {H : Type} : Left H := { results := [], args := [] }

/-- 'marigraphlaw3.DiskNumbers': WHATEVER THE INPUT: true; the input reads as it did. -/
def diskNumbersSpec : ChangeSpec := { name := "diskNumbers", fn := fun _ => fun
  | [] => { results := [.lit (.bool true)], args := [] }
  | _ => none }
def diskNumbersRow : OpenClaim := { program := "ytadnbdkbjajgdaa", sum := "e1a6a3605c6c35285ff5c4524342b2335476a05adc8c32f8d640ceff24999122", func := "marigraph/marigraphlaw3.DiskNumbers", spec := "diskNumbers", inPlace := ["slices.overlaps[marigraph/disk.file]"], apart := false }
def DiskNumbersSaid : Prop := diskNumbersRow.holds Try.pinned (OpenSpec.ofChange diskNumbersSpec)

/-- ITS FALSE NEIGHBOUR: 'it returns false'. Refute it at one input. -/
def diskNumbersWrong : ChangeSpec := { name := "diskNumbers", fn := fun _ => fun
  | [] => { results := [.lit (.bool false)], args := [] }
  | _ => none }
def DiskNumbersWrongFalsely : Prop := diskNumbersRow.holds Try.pinned (OpenSpec.ofChange diskNumbersWrong)

/-- 'marigraphlaw3.DiskPlays': WHATEVER THE INPUT: true; the input reads as it did. -/
def diskPlaysSpec : ChangeSpec := { name := "diskPlays", fn := fun _ => fun
  | [d1, d2] => { results := [.lit (.bool true)], args := [d1, d2] }
  | _ => none }
def diskPlaysRow : OpenClaim := { program := "ytadnbdkbjajgdaa", sum := "e1a6a3605c6c35285ff5c4524342b2335476a05adc8c32f8d640ceff24999122", func := "marigraph/marigraphlaw3.DiskPlays", spec := "diskPlays", inPlace := ["slices.overlaps[marigraph/disk.file]"], apart := false }
def DiskPlaysSaid : Prop := diskPlaysRow.holds Try.pinned (OpenSpec.ofChange diskPlaysSpec)

/-- ITS FALSE NEIGHBOUR: 'it returns false'. Refute it at one input. -/
def diskPlaysWrong : ChangeSpec := { name := "diskPlays", fn := fun _ => fun
  | [d1, d2] => { results := [.lit (.bool false)], args := [d1, d2] }
  | _ => none }
def DiskPlaysWrongFalsely : Prop := diskPlaysRow.holds Try.pinned (OpenSpec.ofChange diskPlaysWrong)

/-- 'marigraphlaw3.DiskKeeps': WHATEVER THE INPUT: true; the input reads as it did. -/
def diskKeepsSpec : ChangeSpec := { name := "diskKeeps", fn := fun _ => fun
  | [d1, d2, d3, d4] => { results := [.lit (.bool true)], args := [d1, d2, d3, d4] }
  | _ => none }
def diskKeepsRow : OpenClaim := { program := "ytadnbdkbjajgdaa", sum := "e1a6a3605c6c35285ff5c4524342b2335476a05adc8c32f8d640ceff24999122", func := "marigraph/marigraphlaw3.DiskKeeps", spec := "diskKeeps", inPlace := ["slices.overlaps[marigraph/disk.file]"], apart := false }
def DiskKeepsSaid : Prop := diskKeepsRow.holds Try.pinned (OpenSpec.ofChange diskKeepsSpec)

/-- ITS FALSE NEIGHBOUR: 'it returns false'. Refute it at one input. -/
def diskKeepsWrong : ChangeSpec := { name := "diskKeeps", fn := fun _ => fun
  | [d1, d2, d3, d4] => { results := [.lit (.bool false)], args := [d1, d2, d3, d4] }
  | _ => none }
def DiskKeepsWrongFalsely : Prop := diskKeepsRow.holds Try.pinned (OpenSpec.ofChange diskKeepsWrong)

/-- 'marigraphlaw3.DiskDowns': WHATEVER THE INPUT: true; the input reads as it did. -/
def diskDownsSpec : ChangeSpec := { name := "diskDowns", fn := fun _ => fun
  | [d1, d2, d3] => { results := [.lit (.bool true)], args := [d1, d2, d3] }
  | _ => none }
def diskDownsRow : OpenClaim := { program := "ytadnbdkbjajgdaa", sum := "e1a6a3605c6c35285ff5c4524342b2335476a05adc8c32f8d640ceff24999122", func := "marigraph/marigraphlaw3.DiskDowns", spec := "diskDowns", inPlace := ["slices.overlaps[marigraph/disk.file]"], apart := false }
def DiskDownsSaid : Prop := diskDownsRow.holds Try.pinned (OpenSpec.ofChange diskDownsSpec)

/-- ITS FALSE NEIGHBOUR: 'it returns false'. Refute it at one input. -/
def diskDownsWrong : ChangeSpec := { name := "diskDowns", fn := fun _ => fun
  | [d1, d2, d3] => { results := [.lit (.bool false)], args := [d1, d2, d3] }
  | _ => none }
def DiskDownsWrongFalsely : Prop := diskDownsRow.holds Try.pinned (OpenSpec.ofChange diskDownsWrong)

/-- 'marigraphlaw3.DiskNames': WHATEVER THE INPUT: true; the input reads as it did. -/
def diskNamesSpec : ChangeSpec := { name := "diskNames", fn := fun _ => fun
  | [d1, d2] => { results := [.lit (.bool true)], args := [d1, d2] }
  | _ => none }
def diskNamesRow : OpenClaim := { program := "ytadnbdkbjajgdaa", sum := "e1a6a3605c6c35285ff5c4524342b2335476a05adc8c32f8d640ceff24999122", func := "marigraph/marigraphlaw3.DiskNames", spec := "diskNames", inPlace := ["slices.overlaps[marigraph/disk.file]"], apart := false }
def DiskNamesSaid : Prop := diskNamesRow.holds Try.pinned (OpenSpec.ofChange diskNamesSpec)

/-- ITS FALSE NEIGHBOUR: 'it returns false'. Refute it at one input. -/
def diskNamesWrong : ChangeSpec := { name := "diskNames", fn := fun _ => fun
  | [d1, d2] => { results := [.lit (.bool false)], args := [d1, d2] }
  | _ => none }
def DiskNamesWrongFalsely : Prop := diskNamesRow.holds Try.pinned (OpenSpec.ofChange diskNamesWrong)

/-- 'marigraphlaw3.DiskLimits': WHATEVER THE INPUT: true; the input reads as it did. -/
def diskLimitsSpec : ChangeSpec := { name := "diskLimits", fn := fun _ => fun
  | [d1, d2] => { results := [.lit (.bool true)], args := [d1, d2] }
  | _ => none }
def diskLimitsRow : OpenClaim := { program := "ytadnbdkbjajgdaa", sum := "e1a6a3605c6c35285ff5c4524342b2335476a05adc8c32f8d640ceff24999122", func := "marigraph/marigraphlaw3.DiskLimits", spec := "diskLimits", inPlace := ["slices.overlaps[marigraph/disk.file]"], apart := false }
def DiskLimitsSaid : Prop := diskLimitsRow.holds Try.pinned (OpenSpec.ofChange diskLimitsSpec)

/-- ITS FALSE NEIGHBOUR: 'it returns false'. Refute it at one input. -/
def diskLimitsWrong : ChangeSpec := { name := "diskLimits", fn := fun _ => fun
  | [d1, d2] => { results := [.lit (.bool false)], args := [d1, d2] }
  | _ => none }
def DiskLimitsWrongFalsely : Prop := diskLimitsRow.holds Try.pinned (OpenSpec.ofChange diskLimitsWrong)

/- THE SECOND FORM. 'bulk': how many values and letters a reading holds, each counted each time it is reached (what is shared counts as often as it is met; a slice's spare places count too). A statement '..UptoSaid' is the law's where the arguments, and the package variables that the reading takes, are together of bulk at most 1048576: NARROWER than '..Said'. Prove '..Said' where nothing that the law and all that it calls make is longer than what came in: it says more and counts as full. Else prove '..UptoSaid'. A law counts once. -/
mutual
def uptoBulk {H : Type} : DataW H → Nat
  | .lit (.string bytes) => bytes.length + 1
  | .lit _ => 1
  | .nil => 1
  | .ptr d => uptoBulk d + 1
  | .slice elems spare => uptoBulkAll elems + uptoBulkAll spare + 1
  | .agg parts => uptoBulkAll parts + 1
  | .iface _ d => uptoBulk d + 1
  | .map entries => uptoBulkEntries entries + 1
  | .held _ => 1
def uptoBulkAll {H : Type} : List (DataW H) → Nat
  | [] => 0
  | d :: r => uptoBulk d + uptoBulkAll r
def uptoBulkEntries {H : Type} : List (Lit × DataW H) → Nat
  | [] => 0
  | x :: r => uptoBulkEntry x + uptoBulkEntries r
def uptoBulkEntry {H : Type} : Lit × DataW H → Nat
  | (.string bytes, d) => bytes.length + uptoBulk d + 1
  | (_, d) => uptoBulk d + 1
 end
def uptoSmall : (H : Type) → List (DataW H) → Bool := fun _ ds => decide (uptoBulkAll ds ≤ 1048576)
def OpenSpec.upto (s : _root_.Go.ChangeSpec) : _root_.Go.OpenSpec := { _root_.Go.OpenSpec.ofChange s with cond := some uptoSmall }

/-- 'marigraphlaw3.DiskNumbers', WHERE WHAT IT READS IS OF BULK AT MOST 1048576: true; the input reads as it did. -/
def diskNumbersUptoRow : OpenClaim := { program := "ytadnbdkbjajgdaa", sum := "e1a6a3605c6c35285ff5c4524342b2335476a05adc8c32f8d640ceff24999122", func := "marigraph/marigraphlaw3.DiskNumbers", spec := "diskNumbers", inPlace := ["slices.overlaps[marigraph/disk.file]"], apart := false, narrowed := true }
def DiskNumbersUptoSaid : Prop := diskNumbersUptoRow.holds Try.pinned (OpenSpec.upto diskNumbersSpec)

/-- 'marigraphlaw3.DiskPlays', WHERE WHAT IT READS IS OF BULK AT MOST 1048576: true; the input reads as it did. -/
def diskPlaysUptoRow : OpenClaim := { program := "ytadnbdkbjajgdaa", sum := "e1a6a3605c6c35285ff5c4524342b2335476a05adc8c32f8d640ceff24999122", func := "marigraph/marigraphlaw3.DiskPlays", spec := "diskPlays", inPlace := ["slices.overlaps[marigraph/disk.file]"], apart := false, narrowed := true }
def DiskPlaysUptoSaid : Prop := diskPlaysUptoRow.holds Try.pinned (OpenSpec.upto diskPlaysSpec)

/-- 'marigraphlaw3.DiskKeeps', WHERE WHAT IT READS IS OF BULK AT MOST 1048576: true; the input reads as it did. -/
def diskKeepsUptoRow : OpenClaim := { program := "ytadnbdkbjajgdaa", sum := "e1a6a3605c6c35285ff5c4524342b2335476a05adc8c32f8d640ceff24999122", func := "marigraph/marigraphlaw3.DiskKeeps", spec := "diskKeeps", inPlace := ["slices.overlaps[marigraph/disk.file]"], apart := false, narrowed := true }
def DiskKeepsUptoSaid : Prop := diskKeepsUptoRow.holds Try.pinned (OpenSpec.upto diskKeepsSpec)

/-- 'marigraphlaw3.DiskDowns', WHERE WHAT IT READS IS OF BULK AT MOST 1048576: true; the input reads as it did. -/
def diskDownsUptoRow : OpenClaim := { program := "ytadnbdkbjajgdaa", sum := "e1a6a3605c6c35285ff5c4524342b2335476a05adc8c32f8d640ceff24999122", func := "marigraph/marigraphlaw3.DiskDowns", spec := "diskDowns", inPlace := ["slices.overlaps[marigraph/disk.file]"], apart := false, narrowed := true }
def DiskDownsUptoSaid : Prop := diskDownsUptoRow.holds Try.pinned (OpenSpec.upto diskDownsSpec)

/-- 'marigraphlaw3.DiskNames', WHERE WHAT IT READS IS OF BULK AT MOST 1048576: true; the input reads as it did. -/
def diskNamesUptoRow : OpenClaim := { program := "ytadnbdkbjajgdaa", sum := "e1a6a3605c6c35285ff5c4524342b2335476a05adc8c32f8d640ceff24999122", func := "marigraph/marigraphlaw3.DiskNames", spec := "diskNames", inPlace := ["slices.overlaps[marigraph/disk.file]"], apart := false, narrowed := true }
def DiskNamesUptoSaid : Prop := diskNamesUptoRow.holds Try.pinned (OpenSpec.upto diskNamesSpec)

/-- 'marigraphlaw3.DiskLimits', WHERE WHAT IT READS IS OF BULK AT MOST 1048576: true; the input reads as it did. -/
def diskLimitsUptoRow : OpenClaim := { program := "ytadnbdkbjajgdaa", sum := "e1a6a3605c6c35285ff5c4524342b2335476a05adc8c32f8d640ceff24999122", func := "marigraph/marigraphlaw3.DiskLimits", spec := "diskLimits", inPlace := ["slices.overlaps[marigraph/disk.file]"], apart := false, narrowed := true }
def DiskLimitsUptoSaid : Prop := diskLimitsUptoRow.holds Try.pinned (OpenSpec.upto diskLimitsSpec)

end Rows
end Go.Proofs.Ytadnbdkbjajgdaa
