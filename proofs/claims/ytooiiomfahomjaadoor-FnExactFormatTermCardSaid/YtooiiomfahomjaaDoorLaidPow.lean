/-
  What the library's table of powers of ten holds when the call begins.
-/
import Derived.Test.YtooiiomfahomjaaDoorItoa
import Derived.ProofKit
import Derived.SizedLaws
import Derived.LaidMore
import Derived.OpenShut
import Derived.Stop.Joined
import Derived.Stop.LaidErr
import Derived.LaidHandle
import Derived.MakeChecks
namespace Go.Proofs.YtooiiomfahomjaaDoor
open Go.ChangeShapes Go.WideShapes Go.RowKit

theorem own : ownKnob Tryd.prog.godebug = none := by kernel_rfl
theorem tPow : (Tryd.prog.globals[0]?).map (·.type) = some 136 := by kernel_rfl
theorem cU64 : Tryd.prog.cellsOf 125 = 1 := by kernel_rfl
theorem cPow : Tryd.prog.cellsOf 136 = 20 := by kernel_rfl
theorem powData : (Rows.laid_internal_strconv_uint64pow10 : DataW Unit) = Lib.tabData .u64 Lib.pow10Tab := by kernel_rfl

/-- From the three tables' list. -/
theorem pow_of_laid {W : World} {r : List (String × DataW Unit)} (h : laidMet Tryd.prog ((powName, Rows.laid_internal_strconv_uint64pow10) :: r) W) : PowTab W := by
  rw [powData] at h
  exact Lib.tabIs_of_head gPow tPow Tryd.underlying136 Tryd.underlying125 cU64 cPow h

theorem PowTab.low {W : World} (h : PowTab W) : 0 < W.heap.size := by
  have h1 := World.var?_cell gPow h 0
  have h2 : ((Lib.pow10Tab.map fun z => Value.int .u64 z).toArray)[0]? = some (.int .u64 1) := by simp [Lib.pow10Tab]
  rw [h2] at h1
  exact World.block_lt_of_cell? W _ h1

end Go.Proofs.YtooiiomfahomjaaDoor
