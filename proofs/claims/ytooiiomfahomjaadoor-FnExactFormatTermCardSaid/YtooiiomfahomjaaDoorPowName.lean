/-
  The name of the library's table of powers of ten.
-/
import Derived.Test.YtooiiomfahomjaaDoorRows
namespace Go.Proofs.YtooiiomfahomjaaDoor
/-- The library's table of powers of ten (a stage's row that lists it first gives the name). -/
def powName : String := Rows.fnExactFormatTermRow.named.headD "x"
end Go.Proofs.YtooiiomfahomjaaDoor
