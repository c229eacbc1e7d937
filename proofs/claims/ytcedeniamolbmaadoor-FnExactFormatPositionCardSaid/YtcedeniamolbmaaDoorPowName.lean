/-
  The name of the library's table of powers of ten.
-/
import Derived.Test.YtcedeniamolbmaaDoorRows
namespace Go.Proofs.YtcedeniamolbmaaDoor
/-- The library's table of powers of ten (a stage's row that lists it first gives the name). -/
def powName : String := Rows.fnExactFormatPositionRow.named.headD "x"
end Go.Proofs.YtcedeniamolbmaaDoor
