/-
  spec.CountTerm returns how many terms there are in a term.
  spec.DepthOfTerm returns how deep a term is.
  spec.CountTerm and spec.DepthOfTerm, together. No walk.
-/
import Derived.Test.YteelakhaaipebaaQ2
namespace Go.Proofs.Yteelakhaaipebaa
open Go.RowKit

end Go.Proofs.Yteelakhaaipebaa
namespace Go.Proofs.Yteelakhaaipebaa
open Go.RowKit

end Go.Proofs.Yteelakhaaipebaa
namespace Go.Proofs.Yteelakhaaipebaa
open Go.RowKit

end Go.Proofs.Yteelakhaaipebaa
