/-
  DERIVED. GIVEN WITH THE SEED: THE CARDS: each row of YtcloepkaieifpaaDoorRows.lean that lists a variable, with what it lists TIED to the program's text (the seventh form; the later family's looks); each row that meets fmt, with fmt's text TOLD by the authors' own Lean function (tested against real Go, not proved from fmt's source: count such statements apart). THE CARD IS WHAT COUNTS. Prove the row's statement (the work); the ties are given (YtcloepkaieifpaaDoorTie.lean); close each card by the builder's one call (the guide's Derived/Test/ToyasCard.lean, 'card_holds'). Laid BY PROGRAM, IN A SANDBOX (cutbox-door.mjs). By AI agents, Wed Nov 11 2026. No macro, syntax, notation, axiom, sorry.
-/
import Derived.Test.YtcloepkaieifpaaDoorRows
import GoSem.ClaimSeven
namespace Go.Proofs.YtcloepkaieifpaaDoor
namespace Rows

/-- THE TIED CARD OF 'marigraphlaw1.RatNumbers'. -/
def ratNumbersCard : Claim7 := { stood := { row := ratNumbersRow, standIns := [], harness := (true, "5d2d7c5ea223e2b508b7bfc58e7e614e3c6597b907da8f1b94f98a5bb01d7638"), looks := false }, kinds := [], alts := [], laidByText := true, laidKinds := [.data, .data, .data], laidTests := true, laidLooks := .later }
def RatNumbersCardSaid : Prop := Claim7.holds Tryd.pinned (.plain (OpenSpec.ofChange ratNumbersSpec)) ratNumbersCard

/-- THE TIED CARD OF 'marigraphlaw1.RatTells'. -/
def ratTellsCard : Claim7 := { stood := { row := ratTellsRow, standIns := [], harness := (true, "5d2d7c5ea223e2b508b7bfc58e7e614e3c6597b907da8f1b94f98a5bb01d7638"), looks := false }, kinds := [], alts := [], laidByText := true, laidKinds := [.data, .data, .data], laidTests := true, laidLooks := .later }
def RatTellsCardSaid : Prop := Claim7.holds Tryd.pinned (.plain (OpenSpec.ofChange ratTellsSpec)) ratTellsCard

/-- THE TIED CARD OF 'marigraphlaw1.RatBack'. -/
def ratBackCard : Claim7 := { stood := { row := ratBackRow, standIns := [], harness := (true, "5d2d7c5ea223e2b508b7bfc58e7e614e3c6597b907da8f1b94f98a5bb01d7638"), looks := false }, kinds := [], alts := [], laidByText := true, laidKinds := [.data, .data, .data], laidTests := true, laidLooks := .later }
def RatBackCardSaid : Prop := Claim7.holds Tryd.pinned (.plain (OpenSpec.ofChange ratBackSpec)) ratBackCard

/-- THE SECOND FORM's CARD OF 'marigraphlaw1.RatNumbers'. -/
def ratNumbersUptoCard : Claim7 := { stood := { row := ratNumbersUptoRow, standIns := [], harness := (true, "5d2d7c5ea223e2b508b7bfc58e7e614e3c6597b907da8f1b94f98a5bb01d7638"), looks := false }, kinds := [], alts := [], laidByText := true, laidKinds := [.data, .data, .data], laidTests := true, laidLooks := .later }
def RatNumbersUptoCardSaid : Prop := Claim7.holds Tryd.pinned (.plain (OpenSpec.upto ratNumbersSpec)) ratNumbersUptoCard

/-- THE SECOND FORM's CARD OF 'marigraphlaw1.RatTells'. -/
def ratTellsUptoCard : Claim7 := { stood := { row := ratTellsUptoRow, standIns := [], harness := (true, "5d2d7c5ea223e2b508b7bfc58e7e614e3c6597b907da8f1b94f98a5bb01d7638"), looks := false }, kinds := [], alts := [], laidByText := true, laidKinds := [.data, .data, .data], laidTests := true, laidLooks := .later }
def RatTellsUptoCardSaid : Prop := Claim7.holds Tryd.pinned (.plain (OpenSpec.upto ratTellsSpec)) ratTellsUptoCard

/-- THE SECOND FORM's CARD OF 'marigraphlaw1.RatBack'. -/
def ratBackUptoCard : Claim7 := { stood := { row := ratBackUptoRow, standIns := [], harness := (true, "5d2d7c5ea223e2b508b7bfc58e7e614e3c6597b907da8f1b94f98a5bb01d7638"), looks := false }, kinds := [], alts := [], laidByText := true, laidKinds := [.data, .data, .data], laidTests := true, laidLooks := .later }
def RatBackUptoCardSaid : Prop := Claim7.holds Tryd.pinned (.plain (OpenSpec.upto ratBackSpec)) ratBackUptoCard
end Rows
end Go.Proofs.YtcloepkaieifpaaDoor
