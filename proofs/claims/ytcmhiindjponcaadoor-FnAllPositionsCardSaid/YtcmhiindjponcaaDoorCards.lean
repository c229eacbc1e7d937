/-
  DERIVED. GIVEN WITH THE SEED: THE CARDS: each row of YtcmhiindjponcaaDoorRows.lean that lists a variable, with what it lists TIED to the program's text (the seventh form; the later family's looks); each row that meets fmt, with fmt's text TOLD by the authors' own Lean function (tested against real Go, not proved from fmt's source: count such statements apart). THE CARD IS WHAT COUNTS. Prove the row's statement (the work); the ties are given (YtcmhiindjponcaaDoorTie.lean); close each card by the builder's one call (the guide's Derived/Test/ToyasCard.lean, 'card_holds'). Laid BY PROGRAM, IN A SANDBOX (cutbox-door.mjs). By AI agents, Wed Nov 11 2026. No macro, syntax, notation, axiom, sorry.
-/
import Derived.Test.YtcmhiindjponcaaDoorRows
import GoSem.ClaimSeven
namespace Go.Proofs.YtcmhiindjponcaaDoor
namespace Rows

/-- THE TIED CARD OF 'laws.FnAllPositions'. -/
def fnAllPositionsCard : Claim7 := { stood := { row := fnAllPositionsRow, standIns := [], harness := (true, "d81b99cc7466ce78aad39736528ca67e4e252d24711135242c0c9833b33e9ce7"), looks := false }, kinds := [], alts := [], laidByText := true, laidKinds := [.data, .data, .data], laidTests := true, laidLooks := .later }
def FnAllPositionsCardSaid : Prop := Claim7.holds Tryd.pinned (.plain (OpenSpec.ofChange fnAllPositionsSpec)) fnAllPositionsCard

/-- THE SECOND FORM's CARD OF 'laws.FnAllPositions'. -/
def fnAllPositionsUptoCard : Claim7 := { stood := { row := fnAllPositionsUptoRow, standIns := [], harness := (true, "d81b99cc7466ce78aad39736528ca67e4e252d24711135242c0c9833b33e9ce7"), looks := false }, kinds := [], alts := [], laidByText := true, laidKinds := [.data, .data, .data], laidTests := true, laidLooks := .later }
def FnAllPositionsUptoCardSaid : Prop := Claim7.holds Tryd.pinned (.plain (OpenSpec.upto fnAllPositionsSpec)) fnAllPositionsUptoCard
end Rows
end Go.Proofs.YtcmhiindjponcaaDoor
