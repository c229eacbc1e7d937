/-
  impl.FormatInt returns the decimal numeral of its argument, for every int, where the table of powers of ten is as the library lays it.
-/
import Derived.Test.YtooiiomfahomjaaDoorPowName
import Derived.Test.YtooiiomfahomjaaDoorLays
import Derived.Shelf.Strconv.Itoa3
import Derived.Lib.AppendIntMem
import Derived.WalkKit
import Derived.WalkSpells
import Derived.WalkLawsBesides
namespace Go.Proofs.YtooiiomfahomjaaDoor
open Go.RowKit

/-- The table of powers of ten holds them. -/
def PowTab (w : World) : Prop := Lib.TabIs Tryd.prog w powName .u64 Lib.pow10Tab
theorem gPow : Tryd.prog.globalNamed powName = some 0 := by kernel_rfl
theorem PowTab.below {B : Nat} {w w' : World} (h : PowTab w) (hb : Below B w w') (hB : 0 < B) : PowTab w' := var?_below hb gPow hB h

set_option maxHeartbeats 400000 in
/-- impl.FormatInt: the decimal numeral, for every int. -/
theorem iFormat_any (n : Int) (w : World) (h0 : -9223372036854775808 ≤ n) (h1 : n ≤ 9223372036854775807) (ht : PowTab w) :
    Calls Tryd.prog 32 #[.int .i64 n] w fun e w' => e = .returned (.string ⟨(Lib.itoa n).toArray⟩) ∧ Below w.heap.size w w' := by
  go_enter Tryd.func32, Tryd.ntmps32
  go_wp2_with (go_at_call 57; refine (Any.strconv_Itoa Tryd.laysM171 n h0 h1 _ ht).mono ?_; rintro e w' ⟨rfl, k, os, rfl⟩)
  go_ret
  exact ⟨rfl, Lib.below_grow _ _ (Nat.le_refl _) _ _⟩
end Go.Proofs.YtooiiomfahomjaaDoor
