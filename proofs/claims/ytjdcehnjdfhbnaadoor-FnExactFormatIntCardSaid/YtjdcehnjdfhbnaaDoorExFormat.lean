/-
  The law on FormatInt answers true at every int: its walk.
-/
import Derived.Test.YtjdcehnjdfhbnaaDoorFmt
import Derived.Test.YtjdcehnjdfhbnaaDoorItoa
namespace Go.Proofs.YtjdcehnjdfhbnaaDoor
open Go.RowKit

set_option maxHeartbeats 400000 in
theorem exFormat_any (n : Int) (w : World) (h0 : -9223372036854775808 ≤ n) (h1 : n ≤ 9223372036854775807) (ht : PowTab w) (hs : 0 < w.heap.size) :
    Calls Tryd.prog 5 #[.int .i64 n] w fun e w' => e = .returned (.bool true) ∧ Below w.heap.size w w' := by
  have HT := Lib.hid ht; clear ht
  go_enter Tryd.func5, Tryd.ntmps5
  go_wp2_with fail
  refine (sFormat_any n _ h0 h1).mono ?_
  rintro e w1 ⟨rfl, hb1⟩
  go_wp2_with fail
  refine (iFormat_any n _ h0 h1 (HT.out.below hb1 hs)).mono ?_
  rintro e w2 ⟨rfl, hb2⟩
  have hb := hb1.trans (hb2.mono hb1.size)
  clear hb1 hb2
  go_wp2
  go_ret
  exact ⟨rfl, hb⟩
end Go.Proofs.YtjdcehnjdfhbnaaDoor
