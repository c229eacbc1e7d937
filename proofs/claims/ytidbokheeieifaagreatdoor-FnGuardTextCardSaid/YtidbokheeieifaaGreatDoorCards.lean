/-
  DERIVED. GIVEN WITH THE SEED: THE CARDS: each row of YtidbokheeieifaaGreatDoorRows.lean that lists a variable, with what it lists TIED to the program's text (the seventh form; the later family's looks); each row that meets fmt, with fmt's text TOLD by the authors' own Lean function (tested against real Go, not proved from fmt's source: count such statements apart). THE CARD IS WHAT COUNTS. Prove the row's statement (the work); the ties are given (YtidbokheeieifaaGreatDoorTie.lean); close each card by the builder's one call (the guide's Derived/Test/ToyasCard.lean, 'card_holds'). Laid BY PROGRAM, IN A SANDBOX (cutbox-door.mjs). By AI agents, Wed Nov 11 2026. No macro, syntax, notation, axiom, sorry.
-/
import Derived.Test.YtidbokheeieifaaGreatDoorRows
import GoSem.ClaimSeven
namespace Go.Proofs.YtidbokheeieifaaGreatDoor
namespace Rows

/-- THE TIED CARD OF 'laws.FnGuardText'. -/
def fnGuardTextCard : Claim7 := { stood := { row := fnGuardTextRow, standIns := [], harness := (true, "9dd1573cacaf7be3b9ea914ee63177ee6599caf160f8b9cdc8378540ca498ea5"), looks := true }, kinds := [], alts := [], laidByText := true, laidKinds := [.data, .data, .data, .sentinel, .sentinel], laidTests := true, laidLooks := .later }
def FnGuardTextCardSaid : Prop := Claim7.holds Tryz.pinned (.plain (OpenSpec.ofChange fnGuardTextSpec)) fnGuardTextCard

/-- THE TIED CARD OF 'laws.FnExactParseGuard'. -/
def fnExactParseGuardCard : Claim7 := { stood := { row := fnExactParseGuardRow, standIns := [], harness := (true, "9dd1573cacaf7be3b9ea914ee63177ee6599caf160f8b9cdc8378540ca498ea5"), looks := true }, kinds := [], alts := [], laidByText := true, laidKinds := [.data, .data, .data, .sentinel, .sentinel], laidTests := true, laidLooks := .later }
def FnExactParseGuardCardSaid : Prop := Claim7.holds Tryz.pinned (.plain (OpenSpec.ofChange fnExactParseGuardSpec)) fnExactParseGuardCard

/-- THE SECOND FORM's CARD OF 'laws.FnGuardText'. -/
def fnGuardTextUptoCard : Claim7 := { stood := { row := fnGuardTextUptoRow, standIns := [], harness := (true, "9dd1573cacaf7be3b9ea914ee63177ee6599caf160f8b9cdc8378540ca498ea5"), looks := true }, kinds := [], alts := [], laidByText := true, laidKinds := [.data, .data, .data, .sentinel, .sentinel], laidTests := true, laidLooks := .later }
def FnGuardTextUptoCardSaid : Prop := Claim7.holds Tryz.pinned (.plain (OpenSpec.upto fnGuardTextSpec)) fnGuardTextUptoCard

/-- THE SECOND FORM's CARD OF 'laws.FnExactParseGuard'. -/
def fnExactParseGuardUptoCard : Claim7 := { stood := { row := fnExactParseGuardUptoRow, standIns := [], harness := (true, "9dd1573cacaf7be3b9ea914ee63177ee6599caf160f8b9cdc8378540ca498ea5"), looks := true }, kinds := [], alts := [], laidByText := true, laidKinds := [.data, .data, .data, .sentinel, .sentinel], laidTests := true, laidLooks := .later }
def FnExactParseGuardUptoCardSaid : Prop := Claim7.holds Tryz.pinned (.plain (OpenSpec.upto fnExactParseGuardSpec)) fnExactParseGuardUptoCard
end Rows
end Go.Proofs.YtidbokheeieifaaGreatDoor
