/-
  impl.IsBuiltin and its model spec.IsBuiltin tell the names plus, minus and times.
-/
import Derived.Test.YtcmhiindjponcaaOwn
import Derived.WalkLawsBesides
import Derived.Lib.Hide
namespace Go.Proofs.Ytcmhiindjponcaa
open Go.RowKit

abbrev kPlus : ByteArray := ⟨#[112, 108, 117, 115]⟩
abbrev kMinus : ByteArray := ⟨#[109, 105, 110, 117, 115]⟩
abbrev kTimes : ByteArray := ⟨#[116, 105, 109, 101, 115]⟩
abbrev kWord : ByteArray := ⟨#[119, 111, 114, 100]⟩

/-- Is the name that of a built-in operator? -/
def builtinB (s : ByteArray) : Bool := (s.toList == [112, 108, 117, 115]) || (s.toList == [109, 105, 110, 117, 115]) || (s.toList == [116, 105, 109, 101, 115])
def BuiltEnd (s : ByteArray) (w : World) (e : Ending) (w' : World) : Prop := e = .returned (.bool (builtinB s)) ∧ w' = w

/-- The ways a name goes. -/
theorem builtin_ways (s : ByteArray) : (s.toList = [112, 108, 117, 115] ∧ (s.toList == [112, 108, 117, 115]) = true ∧ builtinB s = true) ∨
    (¬ s.toList = [112, 108, 117, 115] ∧ (s.toList == [112, 108, 117, 115]) = false ∧ s.toList = [109, 105, 110, 117, 115] ∧ (s.toList == [109, 105, 110, 117, 115]) = true ∧ builtinB s = true) ∨
    (¬ s.toList = [112, 108, 117, 115] ∧ (s.toList == [112, 108, 117, 115]) = false ∧ ¬ s.toList = [109, 105, 110, 117, 115] ∧ (s.toList == [109, 105, 110, 117, 115]) = false ∧ s.toList = [116, 105, 109, 101, 115] ∧ (s.toList == [116, 105, 109, 101, 115]) = true ∧ builtinB s = true) ∨
    (¬ s.toList = [112, 108, 117, 115] ∧ (s.toList == [112, 108, 117, 115]) = false ∧ ¬ s.toList = [109, 105, 110, 117, 115] ∧ (s.toList == [109, 105, 110, 117, 115]) = false ∧ ¬ s.toList = [116, 105, 109, 101, 115] ∧ (s.toList == [116, 105, 109, 101, 115]) = false ∧ builtinB s = false) := by
  unfold builtinB
  by_cases h1 : s.toList = [112, 108, 117, 115]
  · left; simp [h1]
  by_cases h2 : s.toList = [109, 105, 110, 117, 115]
  · right; left; simp [h2]
  by_cases h3 : s.toList = [116, 105, 109, 101, 115]
  · right; right; left; simp [h3]
  · right; right; right; simp [h1, h2, h3]

set_option maxRecDepth 100000 in
theorem iBuiltin_any (s : ByteArray) (w : World) : Calls Try.prog 26 #[.string s] w (BuiltEnd s w) := by
  rcases builtin_ways s with ⟨p1, b1, hb⟩ | ⟨p1, b1, p2, b2, hb⟩ | ⟨p1, b1, p2, b2, p3, b3, hb⟩ | ⟨p1, b1, p2, b2, p3, b3, hb⟩
  · have HB := Lib.hid hb; clear hb p1
    go_enter Try.func26, Try.ntmps26
    go_wp2
    go_ret
    exact ⟨by rw [HB.out]; rfl, rfl⟩
  · have HB := Lib.hid hb; clear hb p1 p2
    go_enter Try.func26, Try.ntmps26
    go_wp2
    go_ret
    exact ⟨by rw [HB.out]; rfl, rfl⟩
  · have HB := Lib.hid hb; clear hb p1 p2 p3
    go_enter Try.func26, Try.ntmps26
    go_wp2
    go_ret
    exact ⟨by rw [HB.out]; rfl, rfl⟩
  · have HB := Lib.hid hb; clear hb p1 p2 p3
    go_enter Try.func26, Try.ntmps26
    go_wp2
    go_ret
    exact ⟨by rw [HB.out]; rfl, rfl⟩

set_option maxRecDepth 100000 in
theorem sBuiltin_any (s : ByteArray) (w : World) : Calls Try.prog 27 #[.string s] w (BuiltEnd s w) := by
  rcases builtin_ways s with ⟨p1, b1, hb⟩ | ⟨p1, b1, p2, b2, hb⟩ | ⟨p1, b1, p2, b2, p3, b3, hb⟩ | ⟨p1, b1, p2, b2, p3, b3, hb⟩
  · have HB := Lib.hid hb; clear hb p1
    go_enter Try.func27, Try.ntmps27
    go_wp2
    go_ret
    exact ⟨by rw [HB.out]; rfl, rfl⟩
  · have HB := Lib.hid hb; clear hb p1 p2
    go_enter Try.func27, Try.ntmps27
    go_wp2
    go_ret
    exact ⟨by rw [HB.out]; rfl, rfl⟩
  · have HB := Lib.hid hb; clear hb p1 p2 p3
    go_enter Try.func27, Try.ntmps27
    go_wp2
    go_ret
    exact ⟨by rw [HB.out]; rfl, rfl⟩
  · have HB := Lib.hid hb; clear hb p1 p2 p3
    go_enter Try.func27, Try.ntmps27
    go_wp2
    go_ret
    exact ⟨by rw [HB.out]; rfl, rfl⟩

end Go.Proofs.Ytcmhiindjponcaa
