/-
  laws.FnExactFormatGuard returns true at every guard: FormatGuard answers as its model does and changes no argument. The tables of the library that it reads are as the program's text lays them (the card ties them).
-/
import Derived.Test.YtidbokheeieifaaDoorQ14
import Derived.Test.YtidbokheeieifaaDoorCards
import Derived.Test.YtidbokheeieifaaDoorTie
import Derived.SevenTiedAt
namespace Go.Proofs.YtidbokheeieifaaDoor
open Go.ChangeShapes Go.WideShapes Go.ChangeAt Go.RowKit

theorem laidOut : laidOutB Tryd.prog = true := by kernel_rfl

theorem exFmtG_met (os : Os) (args : Array Value) : laidMetH Tryd.prog Rows.fnExactFormatGuardRow.laid ((World.doorLaid Tryd.prog 400 os).forCall (fun _ _ => 0) ⟨#[], args, []⟩).memory :=
  laidMetH_of_parts3 (fuel := 8) (laidMet_of_run' 8 (by kernel_rfl) (by kernel_rfl)) (by kernel_rfl) (by kernel_rfl)

end Go.Proofs.YtidbokheeieifaaDoor
