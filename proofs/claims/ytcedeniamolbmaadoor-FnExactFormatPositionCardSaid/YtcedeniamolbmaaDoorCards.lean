/-
  DERIVED. GIVEN WITH THE SEED: THE CARDS: each row of YtcedeniamolbmaaDoorRows.lean that lists a variable, with what it lists TIED to the program's text (the seventh form; the later family's looks); each row that meets fmt, with fmt's text TOLD by the authors' own Lean function (tested against real Go, not proved from fmt's source: count such statements apart). THE CARD IS WHAT COUNTS. Prove the row's statement (the work); the ties are given (YtcedeniamolbmaaDoorTie.lean); close each card by the builder's one call (the guide's Derived/Test/ToyasCard.lean, 'card_holds'). Laid BY PROGRAM, IN A SANDBOX (cutbox-door.mjs). By AI agents, Wed Nov 11 2026. No macro, syntax, notation, axiom, sorry.
-/
import Derived.Test.YtcedeniamolbmaaDoorRows
import GoSem.ClaimSeven
namespace Go.Proofs.YtcedeniamolbmaaDoor
namespace Rows

/-- THE TIED CARD OF 'laws.FnAllPositions'. -/
def fnAllPositionsCard : Claim7 := { stood := { row := fnAllPositionsRow, standIns := [], harness := (true, "5a28d2f020970b5f8dd3e29eb6ae377e8e034fef13ba001e99154401b062b0c2"), looks := false }, kinds := [], alts := [], laidByText := true, laidKinds := [.data, .data, .data], laidTests := true, laidLooks := .later }
def FnAllPositionsCardSaid : Prop := Claim7.holds Tryd.pinned (.plain (OpenSpec.ofChange fnAllPositionsSpec)) fnAllPositionsCard

/-- THE TIED CARD OF 'laws.FnExactFormatPosition'. -/
def fnExactFormatPositionCard : Claim7 := { stood := { row := fnExactFormatPositionRow, standIns := [], harness := (true, "5a28d2f020970b5f8dd3e29eb6ae377e8e034fef13ba001e99154401b062b0c2"), looks := false }, kinds := [], alts := [], laidByText := true, laidKinds := [.data, .data, .data], laidTests := true, laidLooks := .later }
def FnExactFormatPositionCardSaid : Prop := Claim7.holds Tryd.pinned (.plain (OpenSpec.ofChange fnExactFormatPositionSpec)) fnExactFormatPositionCard

/-- THE SECOND FORM's CARD OF 'laws.FnAllPositions'. -/
def fnAllPositionsUptoCard : Claim7 := { stood := { row := fnAllPositionsUptoRow, standIns := [], harness := (true, "5a28d2f020970b5f8dd3e29eb6ae377e8e034fef13ba001e99154401b062b0c2"), looks := false }, kinds := [], alts := [], laidByText := true, laidKinds := [.data, .data, .data], laidTests := true, laidLooks := .later }
def FnAllPositionsUptoCardSaid : Prop := Claim7.holds Tryd.pinned (.plain (OpenSpec.upto fnAllPositionsSpec)) fnAllPositionsUptoCard

/-- THE SECOND FORM's CARD OF 'laws.FnExactFormatPosition'. -/
def fnExactFormatPositionUptoCard : Claim7 := { stood := { row := fnExactFormatPositionUptoRow, standIns := [], harness := (true, "5a28d2f020970b5f8dd3e29eb6ae377e8e034fef13ba001e99154401b062b0c2"), looks := false }, kinds := [], alts := [], laidByText := true, laidKinds := [.data, .data, .data], laidTests := true, laidLooks := .later }
def FnExactFormatPositionUptoCardSaid : Prop := Claim7.holds Tryd.pinned (.plain (OpenSpec.upto fnExactFormatPositionSpec)) fnExactFormatPositionUptoCard
end Rows
end Go.Proofs.YtcedeniamolbmaaDoor
