/-
  What a sort of names hands back. No walk.
-/
import Derived.Test.YtbechogdijkgjaaStrsG
import Derived.Test.YtbechogdijkgjaaNamesM
namespace Go.Proofs.Ytbechogdijkgjaa
open Go.RowKit

/-- What a sort of names hands back. -/
def SortEnd (ps : List ByteArray) (w : World) (e : Ending) (w' : World) : Prop :=
  ∃ (v : Value) (rs : List ByteArray), e = .returned v ∧ SortedOf ps rs ∧ rs.length ≤ ps.length ∧ w'.ownsRow w.heap.size 9 1 v rs.length (rs.map Value.string) ∧ Below w.heap.size w w'
end Go.Proofs.Ytbechogdijkgjaa
