/-
  DERIVED. GIVEN WITH THE SEED: THE CARDS: each row of YtgleblfkcdkaeaaDoorRows.lean that lists a variable, with what it lists TIED to the program's text (the seventh form; the later family's looks); each row that meets fmt, with fmt's text TOLD by the authors' own Lean function (tested against real Go, not proved from fmt's source: count such statements apart). THE CARD IS WHAT COUNTS. Prove the row's statement (the work); the ties are given (YtgleblfkcdkaeaaDoorTie.lean); close each card by the builder's one call (the guide's Derived/Test/ToyasCard.lean, 'card_holds'). Laid BY PROGRAM, IN A SANDBOX (cutbox-door.mjs). By AI agents, Wed Nov 11 2026. No macro, syntax, notation, axiom, sorry.
-/
import Derived.Test.YtgleblfkcdkaeaaDoorRows
import GoSem.ClaimSeven
namespace Go.Proofs.YtgleblfkcdkaeaaDoor
namespace Rows

/-- THE TIED CARD OF 'marigraphlaw10.ManifestNumbers'. -/
def manifestNumbersCard : Claim7 := { stood := { row := manifestNumbersRow, standIns := [], harness := (true, "c66a729e1ce1cc9a03d32ec667025c17a70695239f5d2332647cdcfd5164ecd8"), looks := false }, kinds := [], alts := [], laidByText := true, laidKinds := [.data, .data, .data], laidTests := true, laidLooks := .later }
def ManifestNumbersCardSaid : Prop := Claim7.holds Tryd.pinned (.plain (OpenSpec.ofChange manifestNumbersSpec)) manifestNumbersCard

/-- THE TIED CARD OF 'marigraphlaw10.ManifestTells'. -/
def manifestTellsCard : Claim7 := { stood := { row := manifestTellsRow, standIns := [], harness := (true, "c66a729e1ce1cc9a03d32ec667025c17a70695239f5d2332647cdcfd5164ecd8"), looks := false }, kinds := [], alts := [], laidByText := true, laidKinds := [.data, .data, .data], laidTests := true, laidLooks := .later }
def ManifestTellsCardSaid : Prop := Claim7.holds Tryd.pinned (.plain (OpenSpec.ofChange manifestTellsSpec)) manifestTellsCard

/-- THE TIED CARD OF 'marigraphlaw10.ManifestReads'. -/
def manifestReadsCard : Claim7 := { stood := { row := manifestReadsRow, standIns := [], harness := (true, "c66a729e1ce1cc9a03d32ec667025c17a70695239f5d2332647cdcfd5164ecd8"), looks := false }, kinds := [], alts := [], laidByText := true, laidKinds := [.data, .data, .data], laidTests := true, laidLooks := .later }
def ManifestReadsCardSaid : Prop := Claim7.holds Tryd.pinned (.plain (OpenSpec.ofChange manifestReadsSpec)) manifestReadsCard

/-- THE TIED CARD OF 'marigraphlaw10.ManifestCrashes'. -/
def manifestCrashesCard : Claim7 := { stood := { row := manifestCrashesRow, standIns := [], harness := (true, "c66a729e1ce1cc9a03d32ec667025c17a70695239f5d2332647cdcfd5164ecd8"), looks := false }, kinds := [], alts := [], laidByText := true, laidKinds := [.data, .data, .data], laidTests := true, laidLooks := .later }
def ManifestCrashesCardSaid : Prop := Claim7.holds Tryd.pinned (.plain (OpenSpec.ofChange manifestCrashesSpec)) manifestCrashesCard

/-- THE TIED CARD OF 'marigraphlaw10.ManifestChains'. -/
def manifestChainsCard : Claim7 := { stood := { row := manifestChainsRow, standIns := [], harness := (true, "c66a729e1ce1cc9a03d32ec667025c17a70695239f5d2332647cdcfd5164ecd8"), looks := false }, kinds := [], alts := [], laidByText := true, laidKinds := [.data, .data, .data], laidTests := true, laidLooks := .later }
def ManifestChainsCardSaid : Prop := Claim7.holds Tryd.pinned (.plain (OpenSpec.ofChange manifestChainsSpec)) manifestChainsCard

/-- THE SECOND FORM's CARD OF 'marigraphlaw10.ManifestNumbers'. -/
def manifestNumbersUptoCard : Claim7 := { stood := { row := manifestNumbersUptoRow, standIns := [], harness := (true, "c66a729e1ce1cc9a03d32ec667025c17a70695239f5d2332647cdcfd5164ecd8"), looks := false }, kinds := [], alts := [], laidByText := true, laidKinds := [.data, .data, .data], laidTests := true, laidLooks := .later }
def ManifestNumbersUptoCardSaid : Prop := Claim7.holds Tryd.pinned (.plain (OpenSpec.upto manifestNumbersSpec)) manifestNumbersUptoCard

/-- THE SECOND FORM's CARD OF 'marigraphlaw10.ManifestTells'. -/
def manifestTellsUptoCard : Claim7 := { stood := { row := manifestTellsUptoRow, standIns := [], harness := (true, "c66a729e1ce1cc9a03d32ec667025c17a70695239f5d2332647cdcfd5164ecd8"), looks := false }, kinds := [], alts := [], laidByText := true, laidKinds := [.data, .data, .data], laidTests := true, laidLooks := .later }
def ManifestTellsUptoCardSaid : Prop := Claim7.holds Tryd.pinned (.plain (OpenSpec.upto manifestTellsSpec)) manifestTellsUptoCard

/-- THE SECOND FORM's CARD OF 'marigraphlaw10.ManifestReads'. -/
def manifestReadsUptoCard : Claim7 := { stood := { row := manifestReadsUptoRow, standIns := [], harness := (true, "c66a729e1ce1cc9a03d32ec667025c17a70695239f5d2332647cdcfd5164ecd8"), looks := false }, kinds := [], alts := [], laidByText := true, laidKinds := [.data, .data, .data], laidTests := true, laidLooks := .later }
def ManifestReadsUptoCardSaid : Prop := Claim7.holds Tryd.pinned (.plain (OpenSpec.upto manifestReadsSpec)) manifestReadsUptoCard

/-- THE SECOND FORM's CARD OF 'marigraphlaw10.ManifestCrashes'. -/
def manifestCrashesUptoCard : Claim7 := { stood := { row := manifestCrashesUptoRow, standIns := [], harness := (true, "c66a729e1ce1cc9a03d32ec667025c17a70695239f5d2332647cdcfd5164ecd8"), looks := false }, kinds := [], alts := [], laidByText := true, laidKinds := [.data, .data, .data], laidTests := true, laidLooks := .later }
def ManifestCrashesUptoCardSaid : Prop := Claim7.holds Tryd.pinned (.plain (OpenSpec.upto manifestCrashesSpec)) manifestCrashesUptoCard

/-- THE SECOND FORM's CARD OF 'marigraphlaw10.ManifestChains'. -/
def manifestChainsUptoCard : Claim7 := { stood := { row := manifestChainsUptoRow, standIns := [], harness := (true, "c66a729e1ce1cc9a03d32ec667025c17a70695239f5d2332647cdcfd5164ecd8"), looks := false }, kinds := [], alts := [], laidByText := true, laidKinds := [.data, .data, .data], laidTests := true, laidLooks := .later }
def ManifestChainsUptoCardSaid : Prop := Claim7.holds Tryd.pinned (.plain (OpenSpec.upto manifestChainsSpec)) manifestChainsUptoCard
end Rows
end Go.Proofs.YtgleblfkcdkaeaaDoor
