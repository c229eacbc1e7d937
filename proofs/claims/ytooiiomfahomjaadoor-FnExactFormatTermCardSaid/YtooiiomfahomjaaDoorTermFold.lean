/-
  spec.CountTerm and spec.DepthOfTerm, together. No walk.
-/
import Derived.Test.YtooiiomfahomjaaDoorTermCount
import Derived.Test.YtooiiomfahomjaaDoorTermDepth
namespace Go.Proofs.YtooiiomfahomjaaDoor
open Go.RowKit

end Go.Proofs.YtooiiomfahomjaaDoor
