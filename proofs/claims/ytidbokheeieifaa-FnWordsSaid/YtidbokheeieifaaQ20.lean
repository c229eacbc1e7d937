/-
  impl.IsBuiltin and its model spec.IsBuiltin tell the names plus, minus and times.
  Words and what the built-in operators make of them; a term whose built-in operators have been evaluated from the inside out. No walk.
  impl.formOf says what a node is by its kind alone; type assertions on the forms.
  spec.DepthOfTerm returns how deep a term is.
  impl.IsName, impl.IsVarName and their models spec.IsName, spec.IsVarName tell the strings of 1 to 8 bytes that begin with a letter of their kind and go on in lower-case letters and digits; the laws on them answer true at every string.
  spec.IsValidTerm tells the terms of at most 60 nodes, at most 16 deep, whose every node has one of the three forms.
  impl.IsVarName tells the names of variables.
-/
import Derived.Test.YtidbokheeieifaaQ2
import Derived.WalkLawsBesides
import Derived.Lib.Hide
namespace Go.Proofs.Ytidbokheeieifaa
open Go.RowKit

abbrev kPlus : ByteArray := ⟨#[112, 108, 117, 115]⟩
abbrev kMinus : ByteArray := ⟨#[109, 105, 110, 117, 115]⟩
abbrev kTimes : ByteArray := ⟨#[116, 105, 109, 101, 115]⟩
abbrev kWord : ByteArray := ⟨#[119, 111, 114, 100]⟩

/-- Is the name that of a built-in operator? -/
def builtinB (s : ByteArray) : Bool := (s.toList == [112, 108, 117, 115]) || (s.toList == [109, 105, 110, 117, 115]) || (s.toList == [116, 105, 109, 101, 115])
def BuiltEnd (s : ByteArray) (w : World) (e : Ending) (w' : World) : Prop := e = .returned (.bool (builtinB s)) ∧ w' = w

/-- The ways a name goes. -/
theorem builtin_ways (s : ByteArray) : (s.toList = [112, 108, 117, 115] ∧ (s.toList == [112, 108, 117, 115]) = true ∧ builtinB s = true) ∨
    (¬ s.toList = [112, 108, 117, 115] ∧ (s.toList == [112, 108, 117, 115]) = false ∧ s.toList = [109, 105, 110, 117, 115] ∧ (s.toList == [109, 105, 110, 117, 115]) = true ∧ builtinB s = true) ∨
    (¬ s.toList = [112, 108, 117, 115] ∧ (s.toList == [112, 108, 117, 115]) = false ∧ ¬ s.toList = [109, 105, 110, 117, 115] ∧ (s.toList == [109, 105, 110, 117, 115]) = false ∧ s.toList = [116, 105, 109, 101, 115] ∧ (s.toList == [116, 105, 109, 101, 115]) = true ∧ builtinB s = true) ∨
    (¬ s.toList = [112, 108, 117, 115] ∧ (s.toList == [112, 108, 117, 115]) = false ∧ ¬ s.toList = [109, 105, 110, 117, 115] ∧ (s.toList == [109, 105, 110, 117, 115]) = false ∧ ¬ s.toList = [116, 105, 109, 101, 115] ∧ (s.toList == [116, 105, 109, 101, 115]) = false ∧ builtinB s = false) := by
  unfold builtinB
  by_cases h1 : s.toList = [112, 108, 117, 115]
  · left; simp [h1]
  by_cases h2 : s.toList = [109, 105, 110, 117, 115]
  · right; left; simp [h2]
  by_cases h3 : s.toList = [116, 105, 109, 101, 115]
  · right; right; left; simp [h3]
  · right; right; right; simp [h1, h2, h3]

set_option maxRecDepth 100000 in
theorem iBuiltin_any (s : ByteArray) (w : World) : Calls Try.prog 164 #[.string s] w (BuiltEnd s w) := by
  rcases builtin_ways s with ⟨p1, b1, hb⟩ | ⟨p1, b1, p2, b2, hb⟩ | ⟨p1, b1, p2, b2, p3, b3, hb⟩ | ⟨p1, b1, p2, b2, p3, b3, hb⟩
  · have HB := Lib.hid hb; clear hb p1
    go_enter Try.func164, Try.ntmps164
    go_wp2
    go_ret
    exact ⟨by rw [HB.out]; rfl, rfl⟩
  · have HB := Lib.hid hb; clear hb p1 p2
    go_enter Try.func164, Try.ntmps164
    go_wp2
    go_ret
    exact ⟨by rw [HB.out]; rfl, rfl⟩
  · have HB := Lib.hid hb; clear hb p1 p2 p3
    go_enter Try.func164, Try.ntmps164
    go_wp2
    go_ret
    exact ⟨by rw [HB.out]; rfl, rfl⟩
  · have HB := Lib.hid hb; clear hb p1 p2 p3
    go_enter Try.func164, Try.ntmps164
    go_wp2
    go_ret
    exact ⟨by rw [HB.out]; rfl, rfl⟩

set_option maxRecDepth 100000 in
theorem sBuiltin_any (s : ByteArray) (w : World) : Calls Try.prog 60 #[.string s] w (BuiltEnd s w) := by
  rcases builtin_ways s with ⟨p1, b1, hb⟩ | ⟨p1, b1, p2, b2, hb⟩ | ⟨p1, b1, p2, b2, p3, b3, hb⟩ | ⟨p1, b1, p2, b2, p3, b3, hb⟩
  · have HB := Lib.hid hb; clear hb p1
    go_enter Try.func60, Try.ntmps60
    go_wp2
    go_ret
    exact ⟨by rw [HB.out]; rfl, rfl⟩
  · have HB := Lib.hid hb; clear hb p1 p2
    go_enter Try.func60, Try.ntmps60
    go_wp2
    go_ret
    exact ⟨by rw [HB.out]; rfl, rfl⟩
  · have HB := Lib.hid hb; clear hb p1 p2 p3
    go_enter Try.func60, Try.ntmps60
    go_wp2
    go_ret
    exact ⟨by rw [HB.out]; rfl, rfl⟩
  · have HB := Lib.hid hb; clear hb p1 p2 p3
    go_enter Try.func60, Try.ntmps60
    go_wp2
    go_ret
    exact ⟨by rw [HB.out]; rfl, rfl⟩

end Go.Proofs.Ytidbokheeieifaa
namespace Go.Proofs.Ytidbokheeieifaa
open Go.RowKit

/-- A node with m arguments is a word, and has no other fields. -/
def wordV (k n : Int) (s : ByteArray) (m : Nat) : Bool := (k == 3) && ((decide (0 ≤ n) && decide (n ≤ 3)) && ((s.toList == []) && decide (m = 0)))
def wordB : T → Bool
  | .node k n s xs => wordV k n s xs.length
theorem wordV_iff (k n : Int) (s : ByteArray) (m : Nat) : wordV k n s m = true ↔ k = 3 ∧ 0 ≤ n ∧ n ≤ 3 ∧ s.toList = [] ∧ m = 0 := by
  unfold wordV; simp [and_assoc]
/-- The number of a word. -/
def numT : T → Int
  | .node _ n _ _ => n
/-- What an operator makes of two numbers. -/
def opW (s : ByteArray) (x y : Int) : Int := ((if s.toList == [112, 108, 117, 115] then x + y else if s.toList == [109, 105, 110, 117, 115] then x - y else x * y).tmod 4 + 4).tmod 4
/-- An application is its word, if it has one. -/
def goesB (k n : Int) (s : ByteArray) (ys : List T) : Bool :=
  (k == 2) && ((n == 0) && (builtinB s && (decide (ys.length = 2) && (((ys[0]?).map wordB).getD false && ((ys[1]?).map wordB).getD false))))
def red1 (k n : Int) (s : ByteArray) (ys : List T) : T :=
  if goesB k n s ys = true then .node 3 (opW s (((ys[0]?).map numT).getD 0) (((ys[1]?).map numT).getD 0)) ByteArray.empty [] else .node k n s ys
def redT : T → T
  | .node k n s xs => red1 k n s (xs.map redT)
theorem redT_node (k n : Int) (s : ByteArray) (xs : List T) : redT (.node k n s xs) = red1 k n s (xs.map redT) := by rw [redT]
theorem red1_no {k n : Int} {s : ByteArray} {ys : List T} (h : goesB k n s ys = false) : red1 k n s ys = .node k n s ys := by unfold red1; rw [h]; rfl
theorem red1_yes {k n : Int} {s : ByteArray} {ys : List T} (h : goesB k n s ys = true) : red1 k n s ys = .node 3 (opW s (((ys[0]?).map numT).getD 0) (((ys[1]?).map numT).getD 0)) ByteArray.empty [] := by unfold red1; rw [if_pos h]
theorem cT_red1 (k n : Int) (s : ByteArray) (ys : List T) : cT (red1 k n s ys) ≤ 1 + cS ys := by
  unfold red1
  split
  · rw [cT_node]; simp [cS]
  · rw [cT_node]; exact Nat.le_refl _
theorem cS_mapLe (f : T → T) (xs : List T) (h : ∀ x ∈ xs, cT (f x) ≤ cT x) : cS (xs.map f) ≤ cS xs := by
  induction xs with
  | nil => exact Nat.le_refl _
  | cons x xs ih =>
    have h1 := h x (by simp)
    have h2 := ih fun y hy => h y (by simp [hy])
    simp only [List.map_cons, cS, List.sum_cons] at *
    omega
theorem cT_red : ∀ t, cT (redT t) ≤ cT t
  | .node k n s xs => by
    rw [redT_node, cT_node]
    have h1 := cT_red1 k n s (xs.map redT)
    have h2 := cS_mapLe redT xs fun x _ => cT_red x
    omega
end Go.Proofs.Ytidbokheeieifaa
namespace Go.Proofs.Ytidbokheeieifaa
open Go.RowKit

/-- What formOf hands back. -/
def FormEnd (k n : Int) (s : ByteArray) (u : Value) (w : World) (e : Ending) (w' : World) : Prop :=
  ∃ ty x, e = .returned (.iface ty (.agg #[x])) ∧ w' = boxed w k n s u ∧ ((k = 1 ∧ ty = 198 ∧ x = .string s) ∨ (k = 2 ∧ ty = 204 ∧ x = .string s) ∨ (k = 3 ∧ ty = 206 ∧ x = .int .i64 n))

set_option maxRecDepth 100000 in
set_option maxHeartbeats 400000 in
theorem form1_any (n : Int) (s : ByteArray) (u : Value) (w : World) :
    Calls Try.prog 140 #[tv 1 n s u] w (fun e w' => e = .returned (.iface 198 (.agg #[.string s])) ∧ w' = boxed w 1 n s u) := by
  go_enter Try.func140, Try.ntmps140
  go_wp2
  go_ret
  exact ⟨rfl, rfl⟩
set_option maxRecDepth 100000 in
set_option maxHeartbeats 400000 in
theorem form2_any (n : Int) (s : ByteArray) (u : Value) (w : World) :
    Calls Try.prog 140 #[tv 2 n s u] w (fun e w' => e = .returned (.iface 204 (.agg #[.string s])) ∧ w' = boxed w 2 n s u) := by
  go_enter Try.func140, Try.ntmps140
  go_wp2
  go_ret
  exact ⟨rfl, rfl⟩
set_option maxRecDepth 100000 in
set_option maxHeartbeats 400000 in
theorem form3_any (n : Int) (s : ByteArray) (u : Value) (w : World) :
    Calls Try.prog 140 #[tv 3 n s u] w (fun e w' => e = .returned (.iface 206 (.agg #[.int .i64 n])) ∧ w' = boxed w 3 n s u) := by
  go_enter Try.func140, Try.ntmps140
  go_wp2
  go_ret
  exact ⟨rfl, rfl⟩
set_option maxRecDepth 100000 in
set_option maxHeartbeats 400000 in
theorem form0_any (k n : Int) (s : ByteArray) (u : Value) (w : World) (h1 : k ≠ 1) (h2 : k ≠ 2) (h3 : k ≠ 3) :
    Calls Try.prog 140 #[tv k n s u] w (fun e w' => e = .returned (.iface 222 (.agg #[])) ∧ w' = boxed w k n s u) := by
  have h1' : (k == 1) = false := by rw [beq_eq_false_iff_ne]; exact h1
  have h2' : (k == 2) = false := by rw [beq_eq_false_iff_ne]; exact h2
  have h3' : (k == 3) = false := by rw [beq_eq_false_iff_ne]; exact h3
  go_enter Try.func140, Try.ntmps140
  go_wp2
  go_ret
  exact ⟨rfl, rfl⟩

theorem asVV (v : Value) (W : World) : (Instr.typeAssert (.iface 198 v) 201 198 true).run Try.prog W = .ok (.tuple #[v, .bool true]) W := by kernel_rfl
theorem asVO (v : Value) (W : World) : (Instr.typeAssert (.iface 198 v) 201 204 true).run Try.prog W = .ok (.tuple #[.agg #[.string ByteArray.empty], .bool false]) W := by kernel_rfl
theorem asVW (v : Value) (W : World) : (Instr.typeAssert (.iface 198 v) 201 206 true).run Try.prog W = .ok (.tuple #[.agg #[.int .i64 0], .bool false]) W := by kernel_rfl
theorem asOV (v : Value) (W : World) : (Instr.typeAssert (.iface 204 v) 201 198 true).run Try.prog W = .ok (.tuple #[.agg #[.string ByteArray.empty], .bool false]) W := by kernel_rfl
theorem asOO (v : Value) (W : World) : (Instr.typeAssert (.iface 204 v) 201 204 true).run Try.prog W = .ok (.tuple #[v, .bool true]) W := by kernel_rfl
theorem asOW (v : Value) (W : World) : (Instr.typeAssert (.iface 204 v) 201 206 true).run Try.prog W = .ok (.tuple #[.agg #[.int .i64 0], .bool false]) W := by kernel_rfl
theorem asWV (v : Value) (W : World) : (Instr.typeAssert (.iface 206 v) 201 198 true).run Try.prog W = .ok (.tuple #[.agg #[.string ByteArray.empty], .bool false]) W := by kernel_rfl
theorem asWO (v : Value) (W : World) : (Instr.typeAssert (.iface 206 v) 201 204 true).run Try.prog W = .ok (.tuple #[.agg #[.string ByteArray.empty], .bool false]) W := by kernel_rfl
theorem asWW (v : Value) (W : World) : (Instr.typeAssert (.iface 206 v) 201 206 true).run Try.prog W = .ok (.tuple #[v, .bool true]) W := by kernel_rfl
theorem asUV (v : Value) (W : World) : (Instr.typeAssert (.iface 222 v) 201 198 true).run Try.prog W = .ok (.tuple #[.agg #[.string ByteArray.empty], .bool false]) W := by kernel_rfl
theorem asUO (v : Value) (W : World) : (Instr.typeAssert (.iface 222 v) 201 204 true).run Try.prog W = .ok (.tuple #[.agg #[.string ByteArray.empty], .bool false]) W := by kernel_rfl
theorem asUW (v : Value) (W : World) : (Instr.typeAssert (.iface 222 v) 201 206 true).run Try.prog W = .ok (.tuple #[.agg #[.int .i64 0], .bool false]) W := by kernel_rfl
end Go.Proofs.Ytidbokheeieifaa
namespace Go.Proofs.Ytidbokheeieifaa
open Go.RowKit

end Go.Proofs.Ytidbokheeieifaa
namespace Go.Proofs.Ytidbokheeieifaa
open Go.RowKit

/-- A lower-case letter or a digit. -/
def Cont (b : Int) : Prop := (97 ≤ b ∧ b ≤ 122) ∨ (48 ≤ b ∧ b ≤ 57)
/-- The byte at place k. -/
def byteAt (s : ByteArray) (k : Nat) : Int := if h : k < s.size then (s[k].toNat : Int) else 0
theorem byteAt_lt (s : ByteArray) (k : Nat) (h : k < s.size) : byteAt s k = (s[k].toNat : Int) := by simp [byteAt, h]
/-- A name whose first byte lies from lo to hi. -/
def Nm (lo hi : Int) (s : ByteArray) : Prop := 1 ≤ s.size ∧ s.size ≤ 8 ∧ lo ≤ byteAt s 0 ∧ byteAt s 0 ≤ hi ∧ ∀ k, 1 ≤ k → k < s.size → Cont (byteAt s k)
/-- A call that answers whether X holds and changes nothing. -/
def Tells (X : Prop) (w : World) (e : Ending) (w' : World) : Prop := ∃ b, e = .returned (.bool b) ∧ (b = true ↔ X) ∧ w' = w

theorem nm_apart (s : ByteArray) (h : Nm 97 122 s) (k : Nm 65 90 s) : False := by
  have := h.2.2.1; have := k.2.2.2.1; omega

set_option maxRecDepth 100000 in
theorem iCont_any (b : Int) (w : World) (h0 : 0 ≤ b) (h1 : b ≤ 255) :
    Calls Try.prog 171 #[.int .u8 b] w (Tells (Cont b) w) := by
  by_cases a1 : 97 ≤ b
  · by_cases a2 : b ≤ 122
    · go_enter Try.func171, Try.ntmps171
      go_wp2
      go_ret
      exact ⟨true, rfl, by simp [Cont]; omega, rfl⟩
    · have a4 : 48 ≤ b := by omega
      have a5 : ¬ b ≤ 57 := by omega
      go_enter Try.func171, Try.ntmps171
      go_wp2
      go_ret
      exact ⟨false, rfl, by simp [Cont]; omega, rfl⟩
  · by_cases a4 : 48 ≤ b
    · by_cases a5 : b ≤ 57
      · go_enter Try.func171, Try.ntmps171
        go_wp2
        go_ret
        exact ⟨true, rfl, by simp [Cont]; omega, rfl⟩
      · go_enter Try.func171, Try.ntmps171
        go_wp2
        go_ret
        exact ⟨false, rfl, by simp [Cont]; omega, rfl⟩
    · go_enter Try.func171, Try.ntmps171
      go_wp2
      go_ret
      exact ⟨false, rfl, by simp [Cont]; omega, rfl⟩

set_option maxRecDepth 100000 in
theorem sIn_any (n lo hi : Int) (w : World) :
    Calls Try.prog 112 #[.int .i64 n, .int .i64 lo, .int .i64 hi] w (Tells (lo ≤ n ∧ n ≤ hi) w) := by
  by_cases a1 : lo ≤ n
  · by_cases a2 : n ≤ hi
    · go_enter Try.func112, Try.ntmps112
      go_wp2
      go_ret
      exact ⟨true, rfl, by simp [a2]; omega, rfl⟩
    · go_enter Try.func112, Try.ntmps112
      go_wp2
      go_ret
      exact ⟨false, rfl, by simp; omega, rfl⟩
  · go_enter Try.func112, Try.ntmps112
    go_wp2
    go_ret
    exact ⟨false, rfl, by simp; omega, rfl⟩

/-- What comes behind the first byte. -/
def Rest (s : ByteArray) : Prop := (∀ k, 1 ≤ k → k < s.size → Cont (byteAt s k)) ∧ 1 ≤ s.size ∧ s.size ≤ 8

theorem byte_range (b : UInt8) : 0 ≤ (b.toNat : Int) ∧ (b.toNat : Int) ≤ 255 := by have := b.toNat_lt; omega

set_option maxRecDepth 100000 in
set_option maxHeartbeats 800000 in
theorem iFrom_any (s : ByteArray) (lo hi : Int) (w : World) (hs : s.size ≤ 9223372036854775807) :
    Calls Try.prog 163 #[.string s, .int .u8 lo, .int .u8 hi] w (Tells (Nm lo hi s) w) := by
  by_cases h0 : s.size = 0
  · have h0' : ((s.size : Int) == 0) = true := by rw [h0]; rfl
    go_enter Try.func163, Try.ntmps163
    go_wp2
    go_ret
    exact ⟨false, rfl, ⟨fun h => by simp at h, fun h => by have := h.1; omega⟩, rfl⟩
  · have h0' : ((s.size : Int) == 0) = false := by rw [beq_eq_false_iff_ne]; omega
    by_cases h8 : 8 < s.size
    · go_enter Try.func163, Try.ntmps163
      go_wp2
      go_ret
      exact ⟨false, rfl, ⟨fun h => by simp at h, fun h => by have := h.2.1; omega⟩, rfl⟩
    · have hp : 0 < s.size := by omega
      have H0 := Lib.hid (byteAt_lt s 0 hp)
      by_cases hl : (s[0].toNat : Int) < lo
      · go_enter Try.func163, Try.ntmps163
        go_wp2
        go_ret
        exact ⟨false, rfl, ⟨fun h => by simp at h, fun h => by have := h.2.2.1; have := H0.out; omega⟩, rfl⟩
      · by_cases hh : hi < (s[0].toNat : Int)
        · go_enter Try.func163, Try.ntmps163
          go_wp2
          go_ret
          exact ⟨false, rfl, ⟨fun h => by simp at h, fun h => by have := h.2.2.2.1; have := H0.out; omega⟩, rfl⟩
        · go_enter Try.func163, Try.ntmps163
          go_wp2
          go_loop [7] (fun i => ∃ k : Nat, 1 ≤ k ∧ k ≤ s.size ∧ i = .int .i64 k ∧ Hid (∀ j, 1 ≤ j → j < k → Cont (byteAt s j))) (fun i => s.size - (intOf i).toNat)
          case atStart => exact ⟨1, Nat.le_refl _, by omega, rfl, Lib.hid (fun j h1 h2 => by omega)⟩
          case round =>
            obtain ⟨k, hk1, hk, rfl, HC⟩ := hrel
            by_cases hlt : k < s.size
            · obtain ⟨hb0, hb1⟩ := byte_range s[k]
              have HB := Lib.hid (byteAt_lt s k hlt)
              go_wp2_with fail
              refine (iCont_any _ _ hb0 hb1).mono ?_
              rintro e w1 ⟨b1, rfl, hq1, rfl⟩
              have HQ1 := Lib.hid hq1; clear hq1
              cases b1 with
              | true =>
                go_wp2
                go_round
                case rel =>
                  refine ⟨k + 1, by omega, by omega, by go_num, Lib.hid fun j h1 h2 => ?_⟩
                  by_cases hj : j < k
                  · exact HC.out j h1 hj
                  · obtain rfl : j = k := by omega
                    rw [HB.out]
                    exact HQ1.out.1 (by simp)
                case measure => simp [intOf]; omega
              | false =>
                go_wp2
                go_ret
                refine ⟨false, rfl, ⟨fun h => by simp at h, fun h => ?_⟩, rfl⟩
                have h2 := h.2.2.2.2 k hk1 hlt
                rw [HB.out] at h2
                exact HQ1.out.2 h2
            · go_wp2
              go_ret
              refine ⟨true, rfl, ⟨fun _ => ?_, fun _ => rfl⟩, rfl⟩
              refine ⟨by omega, by omega, ?_, ?_, fun j a b => HC.out j a (by omega)⟩
              · rw [H0.out]; omega
              · rw [H0.out]; omega

set_option maxRecDepth 100000 in
theorem iName_any (s : ByteArray) (w : World) (hs : s.size ≤ 9223372036854775807) :
    Calls Try.prog 145 #[.string s] w (Tells (Nm 97 122 s) w) := by
  go_enter Try.func145, Try.ntmps145
  go_wp2_with fail
  refine (iFrom_any s _ _ _ hs).mono ?_
  rintro e w1 ⟨b1, rfl, hq1, rfl⟩
  have HQ1 := Lib.hid hq1; clear hq1
  go_wp2
  go_ret
  exact ⟨b1, rfl, HQ1.out, rfl⟩

theorem no_empty (s : ByteArray) (h : s.size = 0) : s = ⟨#[]⟩ := by
  obtain ⟨d⟩ := s
  have : d = #[] := Array.eq_empty_of_size_eq_zero h
  rw [this]
theorem some_byte (s : ByteArray) (h : s.size ≠ 0) : s.toList.isEmpty = false ∧ ¬ s.toList = [] := by
  have h2 : ¬ s.toList = [] := by
    rw [ByteArray.toList_eq]
    intro e
    have := congrArg List.length e
    simp at this
    exact h (by simpa using this)
  exact ⟨by simpa using h2, h2⟩

theorem nm_rest {lo hi : Int} {s : ByteArray} : Nm lo hi s ↔ (lo ≤ byteAt s 0 ∧ byteAt s 0 ≤ hi) ∧ Rest s := by
  constructor
  · rintro ⟨a, b, c, d, e⟩; exact ⟨⟨c, d⟩, e, a, b⟩
  · rintro ⟨⟨c, d⟩, e, a, b⟩; exact ⟨a, b, c, d, e⟩
theorem nm_no {lo hi : Int} {s : ByteArray} (h : s.size = 0) : ¬ Nm lo hi s := fun k => by have := k.1; omega

theorem tells_same {X : Prop} {a b : Bool} (h : a = true ↔ X) (k : b = true ↔ X) : (a == b) = true ∧ (a != b) = false := by
  have : a = b := by cases a <;> cases b <;> simp_all
  subst this; simp
end Go.Proofs.Ytidbokheeieifaa
namespace Go.Proofs.Ytidbokheeieifaa
open Go.RowKit

/-- A call that answers whether X holds and leaves what was there. -/
def TellsT (X : Prop) (w : World) (e : Ending) (w' : World) : Prop := ∃ b, e = .returned (.bool b) ∧ (b = true ↔ X) ∧ Below w.heap.size w w'

/-- One node has one of the three forms. -/
def NodeOk (k n : Int) (s : ByteArray) (m : Nat) : Prop :=
  (k = 1 ∧ Nm 65 90 s ∧ n = 0 ∧ m = 0) ∨ (k = 2 ∧ Nm 97 122 s ∧ n = 0) ∨ (k = 3 ∧ s.size = 0 ∧ 0 ≤ n ∧ n ≤ 3 ∧ m = 0)

/-! ### all nodes -/
/-- Every node of a term has one of the three forms. -/
def OkT : T → Prop
  | .node k n s xs => NodeOk k n s xs.length ∧ ∀ x ∈ xs, OkT x
theorem okT_node (k n : Int) (s : ByteArray) (xs : List T) : OkT (.node k n s xs) ↔ NodeOk k n s xs.length ∧ ∀ x ∈ xs, OkT x := by rw [OkT]

/-! ### no more than so many nodes -/
/-- A valid term. -/
def ValidT (t : T) : Prop := cT t ≤ 60 ∧ dT t ≤ 16 ∧ OkT t

end Go.Proofs.Ytidbokheeieifaa
namespace Go.Proofs.Ytidbokheeieifaa
open Go.RowKit

set_option maxRecDepth 100000 in
theorem iVar_any (s : ByteArray) (w : World) (hs : s.size ≤ 9223372036854775807) :
    Calls Try.prog 144 #[.string s] w (Tells (Nm 65 90 s) w) := by
  go_enter Try.func144, Try.ntmps144
  go_wp2_with fail
  refine (iFrom_any s _ _ _ hs).mono ?_
  rintro e w1 ⟨b1, rfl, hq1, rfl⟩
  have HQ1 := Lib.hid hq1; clear hq1
  go_wp2
  go_ret
  exact ⟨b1, rfl, HQ1.out, rfl⟩
end Go.Proofs.Ytidbokheeieifaa
