/-
  DERIVED. GIVEN WITH THE SEED: THE CARDS: each row of YtidbokheeieifaaDoorRows.lean that lists a variable, with what it lists TIED to the program's text (the seventh form; the later family's looks); each row that meets fmt, with fmt's text TOLD by the authors' own Lean function (tested against real Go, not proved from fmt's source: count such statements apart). THE CARD IS WHAT COUNTS. Prove the row's statement (the work); the ties are given (YtidbokheeieifaaDoorTie.lean); close each card by the builder's one call (the guide's Derived/Test/ToyasCard.lean, 'card_holds'). Laid BY PROGRAM, IN A SANDBOX (cutbox-door.mjs). By AI agents, Wed Nov 11 2026. No macro, syntax, notation, axiom, sorry.
-/
import Derived.Test.YtidbokheeieifaaDoorRows
import GoSem.ClaimSeven
namespace Go.Proofs.YtidbokheeieifaaDoor
namespace Rows

/-- THE TIED CARD OF 'laws.FnExactFormatGuard'. -/
def fnExactFormatGuardCard : Claim7 := { stood := { row := fnExactFormatGuardRow, standIns := [], harness := (true, "46ba6cc9d09ac3b6009cc128c0760e19b6a0984d86d04634280566cca1a43d17"), looks := true }, kinds := [], alts := [], laidByText := true, laidKinds := [.data, .data, .data], laidTests := true, laidLooks := .later }
def FnExactFormatGuardCardSaid : Prop := Claim7.holds Tryd.pinned (.plain (OpenSpec.ofChange fnExactFormatGuardSpec)) fnExactFormatGuardCard

/-- THE SECOND FORM's CARD OF 'laws.FnExactFormatGuard'. -/
def fnExactFormatGuardUptoCard : Claim7 := { stood := { row := fnExactFormatGuardUptoRow, standIns := [], harness := (true, "46ba6cc9d09ac3b6009cc128c0760e19b6a0984d86d04634280566cca1a43d17"), looks := true }, kinds := [], alts := [], laidByText := true, laidKinds := [.data, .data, .data], laidTests := true, laidLooks := .later }
def FnExactFormatGuardUptoCardSaid : Prop := Claim7.holds Tryd.pinned (.plain (OpenSpec.upto fnExactFormatGuardSpec)) fnExactFormatGuardUptoCard
end Rows
end Go.Proofs.YtidbokheeieifaaDoor
