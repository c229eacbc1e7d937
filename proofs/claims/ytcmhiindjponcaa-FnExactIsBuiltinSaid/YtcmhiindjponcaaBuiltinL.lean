/-
  The law on IsBuiltin answers true at every string.
-/
import Derived.Test.YtcmhiindjponcaaBuiltin
namespace Go.Proofs.Ytcmhiindjponcaa
open Go.RowKit

set_option maxRecDepth 100000 in
theorem exBuiltin_any (s : ByteArray) (w : World) : Calls Try.prog 5 #[.string s] w (TrueEnd w) := by
  by_cases hs : 1048576 < s.size
  · go_enter Try.func5, Try.ntmps5
    go_wp2
    go_ret
    exact ⟨rfl, Below.refl _ _⟩
  · have hs2 : s.size ≤ 1048576 := by omega
    obtain ⟨b, hb⟩ : ∃ b, b = builtinB s := ⟨_, rfl⟩
    have HS := Lib.hid (sBuiltin_any s w)
    have HI := Lib.hid (iBuiltin_any s w)
    unfold BuiltEnd at HS HI
    rw [← hb] at HS HI
    have hq : (b != b) = false := by simp
    clear hb
    go_enter Try.func5, Try.ntmps5
    go_wp2_with fail
    refine HS.out.mono ?_
    rintro e w1 ⟨rfl, rfl⟩
    go_wp2_with fail
    refine HI.out.mono ?_
    rintro e w1 ⟨rfl, rfl⟩
    go_wp2
    go_ret
    exact ⟨rfl, Below.refl _ _⟩
end Go.Proofs.Ytcmhiindjponcaa
