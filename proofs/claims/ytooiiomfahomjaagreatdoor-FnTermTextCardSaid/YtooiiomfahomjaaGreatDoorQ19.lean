/-
  impl.formOf says what a node is by its kind alone; impl.isInvalidNode tells whether a node has none of the three forms.
-/
import Derived.Test.YtooiiomfahomjaaGreatDoorQ10
import Derived.Test.YtooiiomfahomjaaGreatDoorQ9
namespace Go.Proofs.YtooiiomfahomjaaGreatDoor
open Go.RowKit

/-- What formOf hands back. -/
def FormEnd (k n : Int) (s : ByteArray) (u : Value) (w : World) (e : Ending) (w' : World) : Prop :=
  ∃ ty x, e = .returned (.iface ty (.agg #[x])) ∧ w' = boxed w k n s u ∧ ((k = 1 ∧ ty = 74 ∧ x = .string s) ∨ (k = 2 ∧ ty = 75 ∧ x = .string s) ∨ (k = 3 ∧ ty = 77 ∧ x = .int .i64 n))

set_option maxRecDepth 100000 in
set_option maxHeartbeats 400000 in
theorem form1_any (n : Int) (s : ByteArray) (u : Value) (w : World) :
    Calls Tryz.prog 49 #[tv 1 n s u] w (fun e w' => e = .returned (.iface 74 (.agg #[.string s])) ∧ w' = boxed w 1 n s u) := by
  go_enter Tryz.func49, Tryz.ntmps49
  go_wp2
  go_ret
  exact ⟨rfl, rfl⟩
set_option maxRecDepth 100000 in
set_option maxHeartbeats 400000 in
theorem form2_any (n : Int) (s : ByteArray) (u : Value) (w : World) :
    Calls Tryz.prog 49 #[tv 2 n s u] w (fun e w' => e = .returned (.iface 75 (.agg #[.string s])) ∧ w' = boxed w 2 n s u) := by
  go_enter Tryz.func49, Tryz.ntmps49
  go_wp2
  go_ret
  exact ⟨rfl, rfl⟩
set_option maxRecDepth 100000 in
set_option maxHeartbeats 400000 in
theorem form3_any (n : Int) (s : ByteArray) (u : Value) (w : World) :
    Calls Tryz.prog 49 #[tv 3 n s u] w (fun e w' => e = .returned (.iface 77 (.agg #[.int .i64 n])) ∧ w' = boxed w 3 n s u) := by
  go_enter Tryz.func49, Tryz.ntmps49
  go_wp2
  go_ret
  exact ⟨rfl, rfl⟩
set_option maxRecDepth 100000 in
set_option maxHeartbeats 400000 in
theorem form0_any (k n : Int) (s : ByteArray) (u : Value) (w : World) (h1 : k ≠ 1) (h2 : k ≠ 2) (h3 : k ≠ 3) :
    Calls Tryz.prog 49 #[tv k n s u] w (fun e w' => e = .returned (.iface 82 (.agg #[])) ∧ w' = boxed w k n s u) := by
  have h1' : (k == 1) = false := by rw [beq_eq_false_iff_ne]; exact h1
  have h2' : (k == 2) = false := by rw [beq_eq_false_iff_ne]; exact h2
  have h3' : (k == 3) = false := by rw [beq_eq_false_iff_ne]; exact h3
  go_enter Tryz.func49, Tryz.ntmps49
  go_wp2
  go_ret
  exact ⟨rfl, rfl⟩

theorem asVV (v : Value) (W : World) : (Instr.typeAssert (.iface 74 v) 71 74 true).run Tryz.prog W = .ok (.tuple #[v, .bool true]) W := by kernel_rfl
theorem asVO (v : Value) (W : World) : (Instr.typeAssert (.iface 74 v) 71 75 true).run Tryz.prog W = .ok (.tuple #[.agg #[.string ByteArray.empty], .bool false]) W := by kernel_rfl
theorem asVW (v : Value) (W : World) : (Instr.typeAssert (.iface 74 v) 71 77 true).run Tryz.prog W = .ok (.tuple #[.agg #[.int .i64 0], .bool false]) W := by kernel_rfl
theorem asOV (v : Value) (W : World) : (Instr.typeAssert (.iface 75 v) 71 74 true).run Tryz.prog W = .ok (.tuple #[.agg #[.string ByteArray.empty], .bool false]) W := by kernel_rfl
theorem asOO (v : Value) (W : World) : (Instr.typeAssert (.iface 75 v) 71 75 true).run Tryz.prog W = .ok (.tuple #[v, .bool true]) W := by kernel_rfl
theorem asOW (v : Value) (W : World) : (Instr.typeAssert (.iface 75 v) 71 77 true).run Tryz.prog W = .ok (.tuple #[.agg #[.int .i64 0], .bool false]) W := by kernel_rfl
theorem asWV (v : Value) (W : World) : (Instr.typeAssert (.iface 77 v) 71 74 true).run Tryz.prog W = .ok (.tuple #[.agg #[.string ByteArray.empty], .bool false]) W := by kernel_rfl
theorem asWO (v : Value) (W : World) : (Instr.typeAssert (.iface 77 v) 71 75 true).run Tryz.prog W = .ok (.tuple #[.agg #[.string ByteArray.empty], .bool false]) W := by kernel_rfl
theorem asWW (v : Value) (W : World) : (Instr.typeAssert (.iface 77 v) 71 77 true).run Tryz.prog W = .ok (.tuple #[v, .bool true]) W := by kernel_rfl
theorem asUV (v : Value) (W : World) : (Instr.typeAssert (.iface 82 v) 71 74 true).run Tryz.prog W = .ok (.tuple #[.agg #[.string ByteArray.empty], .bool false]) W := by kernel_rfl
theorem asUO (v : Value) (W : World) : (Instr.typeAssert (.iface 82 v) 71 75 true).run Tryz.prog W = .ok (.tuple #[.agg #[.string ByteArray.empty], .bool false]) W := by kernel_rfl
theorem asUW (v : Value) (W : World) : (Instr.typeAssert (.iface 82 v) 71 77 true).run Tryz.prog W = .ok (.tuple #[.agg #[.int .i64 0], .bool false]) W := by kernel_rfl

/-- Behind the box, formOf's box and the form's own block. -/
theorem boxes_below (w : World) (k n : Int) (s : ByteArray) (u : Value) (o : Obj) : Below w.heap.size w ((boxed (boxed w k n s u) k n s u).alloc o) :=
  ((boxed_below w k n s u).trans ((boxed_below _ k n s u).mono (boxed_below w k n s u).size)).alloc (by simp; omega) _


set_option maxRecDepth 100000 in
set_option maxHeartbeats 1600000 in
theorem bad1_any (n : Int) (s : ByteArray) (a : Option Addr) (m cap : Nat) (w : World) (hs : s.size ≤ 9223372036854775807) :
    Calls Tryz.prog 33 #[tv 1 n s (.slice a m cap)] w (TellsT (¬ NodeOk 1 n s m) w) := by
  have HB0 := Lib.hid (boxes_below w 1 n s (.slice a m cap) (.cells #[.string s] 74))
  have hv := asVV
  go_enter Tryz.func33, Tryz.ntmps33
  go_wp2_with (go_at_call 49; refine (form1_any _ _ _ _).mono ?_; rintro e w1 ⟨rfl, rfl⟩)
  refine (iVar_any s _ hs).mono ?_
  rintro e w1 ⟨b1, rfl, hq, rfl⟩
  have HQ := Lib.hid hq; clear hq
  cases b1 with
  | false =>
    go_wp2
    go_ret
    refine ⟨true, rfl, ⟨fun _ h => ?_, fun h => rfl⟩, HB0.out⟩
    rcases h with ⟨_, h, _⟩ | ⟨h, _⟩ | ⟨h, _⟩
    · exact absurd h (fun q => by have := HQ.out.2 q; simp at this)
    · omega
    · omega
  | true =>
    by_cases hn : n = 0
    · subst hn
      by_cases hm : m = 0
      · subst hm
        go_wp2
        go_ret
        exact ⟨false, rfl, ⟨fun h => by simp at h, fun h => absurd (Or.inl ⟨rfl, HQ.out.1 (by simp), rfl, rfl⟩) h⟩, HB0.out⟩
      · have hm' : 0 < m := by omega
        go_wp2
        go_ret
        refine ⟨true, rfl, ⟨fun _ h => ?_, fun h => rfl⟩, HB0.out⟩
        rcases h with ⟨_, _, _, h⟩ | ⟨h, _⟩ | ⟨h, _⟩ <;> omega
    · have hn' : (n != 0) = true := by simpa using hn
      go_wp2
      go_ret
      refine ⟨true, rfl, ⟨fun _ h => ?_, fun h => rfl⟩, HB0.out⟩
      rcases h with ⟨_, _, h, _⟩ | ⟨h, _⟩ | ⟨h, _⟩ <;> omega

set_option maxRecDepth 100000 in
set_option maxHeartbeats 1600000 in
theorem bad2_any (n : Int) (s : ByteArray) (a : Option Addr) (m cap : Nat) (w : World) (hs : s.size ≤ 9223372036854775807) :
    Calls Tryz.prog 33 #[tv 2 n s (.slice a m cap)] w (TellsT (¬ NodeOk 2 n s m) w) := by
  have HB0 := Lib.hid (boxes_below w 2 n s (.slice a m cap) (.cells #[.string s] 75))
  have hv := asOV
  have ho := asOO
  go_enter Tryz.func33, Tryz.ntmps33
  go_wp2_with (go_at_call 49; refine (form2_any _ _ _ _).mono ?_; rintro e w1 ⟨rfl, rfl⟩)
  refine (iName_any s _ hs).mono ?_
  rintro e w1 ⟨b1, rfl, hq, rfl⟩
  have HQ := Lib.hid hq; clear hq
  cases b1 with
  | false =>
    go_wp2
    go_ret
    refine ⟨true, rfl, ⟨fun _ h => ?_, fun h => rfl⟩, HB0.out⟩
    rcases h with ⟨h, _⟩ | ⟨_, h, _⟩ | ⟨h, _⟩
    · omega
    · exact absurd h (fun q => by have := HQ.out.2 q; simp at this)
    · omega
  | true =>
    by_cases hn : n = 0
    · subst hn
      go_wp2
      go_ret
      exact ⟨false, rfl, ⟨fun h => by simp at h, fun h => absurd (Or.inr (Or.inl ⟨rfl, HQ.out.1 (by simp), rfl⟩)) h⟩, HB0.out⟩
    · have hn' : (n != 0) = true := by simpa using hn
      go_wp2
      go_ret
      refine ⟨true, rfl, ⟨fun _ h => ?_, fun h => rfl⟩, HB0.out⟩
      rcases h with ⟨h, _⟩ | ⟨_, _, h⟩ | ⟨h, _⟩ <;> omega

set_option maxRecDepth 100000 in
set_option maxHeartbeats 1600000 in
theorem bad3_any (n : Int) (s : ByteArray) (a : Option Addr) (m cap : Nat) (w : World) :
    Calls Tryz.prog 33 #[tv 3 n s (.slice a m cap)] w (TellsT (¬ NodeOk 3 n s m) w) := by
  have HB0 := Lib.hid (boxes_below w 3 n s (.slice a m cap) (.cells #[.int .i64 n] 77))
  have hv := asWV
  have ho := asWO
  have hw := asWW
  by_cases hn0 : n < 0
  · go_enter Tryz.func33, Tryz.ntmps33
    go_wp2_with (go_at_call 49; refine (form3_any _ _ _ _).mono ?_; rintro e w1 ⟨rfl, rfl⟩)
    go_ret
    refine ⟨true, rfl, ⟨fun _ h => ?_, fun h => rfl⟩, HB0.out⟩
    rcases h with ⟨h, _⟩ | ⟨h, _⟩ | ⟨_, _, h, _⟩ <;> omega
  · have hn1 : 0 ≤ n := by omega
    by_cases hn4 : 4 ≤ n
    · go_enter Tryz.func33, Tryz.ntmps33
      go_wp2_with (go_at_call 49; refine (form3_any _ _ _ _).mono ?_; rintro e w1 ⟨rfl, rfl⟩)
      go_ret
      refine ⟨true, rfl, ⟨fun _ h => ?_, fun h => rfl⟩, HB0.out⟩
      rcases h with ⟨h, _⟩ | ⟨h, _⟩ | ⟨_, _, _, h, _⟩ <;> omega
    · have hn3 : n < 4 := by omega
      by_cases h0 : s.size = 0
      · obtain rfl := no_empty s h0
        by_cases hm : m = 0
        · subst hm
          go_enter Tryz.func33, Tryz.ntmps33
          go_wp2_with (go_at_call 49; refine (form3_any _ _ _ _).mono ?_; rintro e w1 ⟨rfl, rfl⟩)
          go_ret
          refine ⟨(decide (n < 0) || decide (4 ≤ n)), rfl, ⟨fun h => ?_, fun h => absurd (Or.inr (Or.inr ⟨rfl, rfl, hn1, by omega, rfl⟩)) h⟩, HB0.out⟩
          have q1 : decide (n < 0) = false := decide_eq_false (by omega)
          have q2 : decide (4 ≤ n) = false := decide_eq_false (by omega)
          rw [q1, q2] at h
          cases h
        · have hm' : (0 : Int) < (m : Int) := by omega
          go_enter Tryz.func33, Tryz.ntmps33
          go_wp2_with (go_at_call 49; refine (form3_any _ _ _ _).mono ?_; rintro e w1 ⟨rfl, rfl⟩)
          go_ret
          refine ⟨_, rfl, ⟨fun _ h => ?_, fun h => by simp; omega⟩, HB0.out⟩
          rcases h with ⟨h, _⟩ | ⟨h, _⟩ | ⟨_, _, _, _, h⟩ <;> omega
      · obtain ⟨hb, hb'⟩ := some_byte s h0
        go_enter Tryz.func33, Tryz.ntmps33
        go_wp2_with (go_at_call 49; refine (form3_any _ _ _ _).mono ?_; rintro e w1 ⟨rfl, rfl⟩)
        go_ret
        refine ⟨true, rfl, ⟨fun _ h => ?_, fun h => rfl⟩, HB0.out⟩
        rcases h with ⟨h, _⟩ | ⟨h, _⟩ | ⟨_, h, _⟩ <;> omega

set_option maxRecDepth 100000 in
set_option maxHeartbeats 1600000 in
theorem bad0_any (k n : Int) (s : ByteArray) (a : Option Addr) (m cap : Nat) (w : World) (h1 : k ≠ 1) (h2 : k ≠ 2) (h3 : k ≠ 3) :
    Calls Tryz.prog 33 #[tv k n s (.slice a m cap)] w (TellsT (¬ NodeOk k n s m) w) := by
  have HB0 := Lib.hid ((boxed_below w k n s (.slice a m cap)).trans ((boxed_below _ k n s (.slice a m cap)).mono (boxed_below w k n s (.slice a m cap)).size))
  have hv := asUV
  have ho := asUO
  have hw := asUW
  have H1 := Lib.hid h1
  have H2 := Lib.hid h2
  have H3 := Lib.hid h3
  clear h1 h2 h3
  go_enter Tryz.func33, Tryz.ntmps33
  go_wp2_with (go_at_call 49; refine (form0_any _ _ _ _ _ H1.out H2.out H3.out).mono ?_; rintro e w1 ⟨rfl, rfl⟩)
  go_ret
  refine ⟨true, rfl, ⟨fun _ h => ?_, fun h => rfl⟩, HB0.out⟩
  have := H1.out; have := H2.out; have := H3.out
  rcases h with ⟨h, _⟩ | ⟨h, _⟩ | ⟨h, _⟩ <;> omega

theorem bad_any (k n : Int) (s : ByteArray) (a : Option Addr) (m cap : Nat) (w : World) (hs : s.size ≤ maxLen) :
    Calls Tryz.prog 33 #[tv k n s (.slice a m cap)] w (TellsT (¬ NodeOk k n s m) w) := by
  have hs2 : s.size ≤ 9223372036854775807 := by unfold maxLen at hs; omega
  by_cases h1 : k = 1
  · subst h1; exact bad1_any n s a m cap w hs2
  · by_cases h2 : k = 2
    · subst h2; exact bad2_any n s a m cap w hs2
    · by_cases h3 : k = 3
      · subst h3; exact bad3_any n s a m cap w
      · exact bad0_any k n s a m cap w h1 h2 h3
end Go.Proofs.YtooiiomfahomjaaGreatDoor
