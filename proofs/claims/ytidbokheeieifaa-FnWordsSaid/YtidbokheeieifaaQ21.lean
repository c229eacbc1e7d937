/-
  impl.isInvalidNode tells whether a node has none of the three forms.
-/
import Derived.Test.YtidbokheeieifaaQ20
namespace Go.Proofs.Ytidbokheeieifaa
open Go.RowKit

/-- Behind the box, formOf's box and the form's own block. -/
theorem boxes_below (w : World) (k n : Int) (s : ByteArray) (u : Value) (o : Obj) : Below w.heap.size w ((boxed (boxed w k n s u) k n s u).alloc o) :=
  ((boxed_below w k n s u).trans ((boxed_below _ k n s u).mono (boxed_below w k n s u).size)).alloc (by simp; omega) _


set_option maxRecDepth 100000 in
set_option maxHeartbeats 1600000 in
theorem bad1_any (n : Int) (s : ByteArray) (a : Option Addr) (m cap : Nat) (w : World) (hs : s.size ≤ 9223372036854775807) :
    Calls Try.prog 116 #[tv 1 n s (.slice a m cap)] w (TellsT (¬ NodeOk 1 n s m) w) := by
  have HB0 := Lib.hid (boxes_below w 1 n s (.slice a m cap) (.cells #[.string s] 198))
  have hv := asVV
  go_enter Try.func116, Try.ntmps116
  go_wp2_with (go_at_call 140; refine (form1_any _ _ _ _).mono ?_; rintro e w1 ⟨rfl, rfl⟩)
  refine (iVar_any s _ hs).mono ?_
  rintro e w1 ⟨b1, rfl, hq, rfl⟩
  have HQ := Lib.hid hq; clear hq
  cases b1 with
  | false =>
    go_wp2
    go_ret
    refine ⟨true, rfl, ⟨fun _ h => ?_, fun h => rfl⟩, HB0.out⟩
    rcases h with ⟨_, h, _⟩ | ⟨h, _⟩ | ⟨h, _⟩
    · exact absurd h (fun q => by have := HQ.out.2 q; simp at this)
    · omega
    · omega
  | true =>
    by_cases hn : n = 0
    · subst hn
      by_cases hm : m = 0
      · subst hm
        go_wp2
        go_ret
        exact ⟨false, rfl, ⟨fun h => by simp at h, fun h => absurd (Or.inl ⟨rfl, HQ.out.1 (by simp), rfl, rfl⟩) h⟩, HB0.out⟩
      · have hm' : 0 < m := by omega
        go_wp2
        go_ret
        refine ⟨true, rfl, ⟨fun _ h => ?_, fun h => rfl⟩, HB0.out⟩
        rcases h with ⟨_, _, _, h⟩ | ⟨h, _⟩ | ⟨h, _⟩ <;> omega
    · have hn' : (n != 0) = true := by simpa using hn
      go_wp2
      go_ret
      refine ⟨true, rfl, ⟨fun _ h => ?_, fun h => rfl⟩, HB0.out⟩
      rcases h with ⟨_, _, h, _⟩ | ⟨h, _⟩ | ⟨h, _⟩ <;> omega

set_option maxRecDepth 100000 in
set_option maxHeartbeats 1600000 in
theorem bad2_any (n : Int) (s : ByteArray) (a : Option Addr) (m cap : Nat) (w : World) (hs : s.size ≤ 9223372036854775807) :
    Calls Try.prog 116 #[tv 2 n s (.slice a m cap)] w (TellsT (¬ NodeOk 2 n s m) w) := by
  have HB0 := Lib.hid (boxes_below w 2 n s (.slice a m cap) (.cells #[.string s] 204))
  have hv := asOV
  have ho := asOO
  go_enter Try.func116, Try.ntmps116
  go_wp2_with (go_at_call 140; refine (form2_any _ _ _ _).mono ?_; rintro e w1 ⟨rfl, rfl⟩)
  refine (iName_any s _ hs).mono ?_
  rintro e w1 ⟨b1, rfl, hq, rfl⟩
  have HQ := Lib.hid hq; clear hq
  cases b1 with
  | false =>
    go_wp2
    go_ret
    refine ⟨true, rfl, ⟨fun _ h => ?_, fun h => rfl⟩, HB0.out⟩
    rcases h with ⟨h, _⟩ | ⟨_, h, _⟩ | ⟨h, _⟩
    · omega
    · exact absurd h (fun q => by have := HQ.out.2 q; simp at this)
    · omega
  | true =>
    by_cases hn : n = 0
    · subst hn
      go_wp2
      go_ret
      exact ⟨false, rfl, ⟨fun h => by simp at h, fun h => absurd (Or.inr (Or.inl ⟨rfl, HQ.out.1 (by simp), rfl⟩)) h⟩, HB0.out⟩
    · have hn' : (n != 0) = true := by simpa using hn
      go_wp2
      go_ret
      refine ⟨true, rfl, ⟨fun _ h => ?_, fun h => rfl⟩, HB0.out⟩
      rcases h with ⟨h, _⟩ | ⟨_, _, h⟩ | ⟨h, _⟩ <;> omega

set_option maxRecDepth 100000 in
set_option maxHeartbeats 1600000 in
theorem bad3_any (n : Int) (s : ByteArray) (a : Option Addr) (m cap : Nat) (w : World) :
    Calls Try.prog 116 #[tv 3 n s (.slice a m cap)] w (TellsT (¬ NodeOk 3 n s m) w) := by
  have HB0 := Lib.hid (boxes_below w 3 n s (.slice a m cap) (.cells #[.int .i64 n] 206))
  have hv := asWV
  have ho := asWO
  have hw := asWW
  by_cases hn0 : n < 0
  · go_enter Try.func116, Try.ntmps116
    go_wp2_with (go_at_call 140; refine (form3_any _ _ _ _).mono ?_; rintro e w1 ⟨rfl, rfl⟩)
    go_ret
    refine ⟨true, rfl, ⟨fun _ h => ?_, fun h => rfl⟩, HB0.out⟩
    rcases h with ⟨h, _⟩ | ⟨h, _⟩ | ⟨_, _, h, _⟩ <;> omega
  · have hn1 : 0 ≤ n := by omega
    by_cases hn4 : 4 ≤ n
    · go_enter Try.func116, Try.ntmps116
      go_wp2_with (go_at_call 140; refine (form3_any _ _ _ _).mono ?_; rintro e w1 ⟨rfl, rfl⟩)
      go_ret
      refine ⟨true, rfl, ⟨fun _ h => ?_, fun h => rfl⟩, HB0.out⟩
      rcases h with ⟨h, _⟩ | ⟨h, _⟩ | ⟨_, _, _, h, _⟩ <;> omega
    · have hn3 : n < 4 := by omega
      by_cases h0 : s.size = 0
      · obtain rfl := no_empty s h0
        by_cases hm : m = 0
        · subst hm
          go_enter Try.func116, Try.ntmps116
          go_wp2_with (go_at_call 140; refine (form3_any _ _ _ _).mono ?_; rintro e w1 ⟨rfl, rfl⟩)
          go_ret
          refine ⟨(decide (n < 0) || decide (4 ≤ n)), rfl, ⟨fun h => ?_, fun h => absurd (Or.inr (Or.inr ⟨rfl, rfl, hn1, by omega, rfl⟩)) h⟩, HB0.out⟩
          have q1 : decide (n < 0) = false := decide_eq_false (by omega)
          have q2 : decide (4 ≤ n) = false := decide_eq_false (by omega)
          rw [q1, q2] at h
          cases h
        · have hm' : (0 : Int) < (m : Int) := by omega
          go_enter Try.func116, Try.ntmps116
          go_wp2_with (go_at_call 140; refine (form3_any _ _ _ _).mono ?_; rintro e w1 ⟨rfl, rfl⟩)
          go_ret
          refine ⟨_, rfl, ⟨fun _ h => ?_, fun h => by simp; omega⟩, HB0.out⟩
          rcases h with ⟨h, _⟩ | ⟨h, _⟩ | ⟨_, _, _, _, h⟩ <;> omega
      · obtain ⟨hb, hb'⟩ := some_byte s h0
        go_enter Try.func116, Try.ntmps116
        go_wp2_with (go_at_call 140; refine (form3_any _ _ _ _).mono ?_; rintro e w1 ⟨rfl, rfl⟩)
        go_ret
        refine ⟨true, rfl, ⟨fun _ h => ?_, fun h => rfl⟩, HB0.out⟩
        rcases h with ⟨h, _⟩ | ⟨h, _⟩ | ⟨_, h, _⟩ <;> omega

set_option maxRecDepth 100000 in
set_option maxHeartbeats 1600000 in
theorem bad0_any (k n : Int) (s : ByteArray) (a : Option Addr) (m cap : Nat) (w : World) (h1 : k ≠ 1) (h2 : k ≠ 2) (h3 : k ≠ 3) :
    Calls Try.prog 116 #[tv k n s (.slice a m cap)] w (TellsT (¬ NodeOk k n s m) w) := by
  have HB0 := Lib.hid ((boxed_below w k n s (.slice a m cap)).trans ((boxed_below _ k n s (.slice a m cap)).mono (boxed_below w k n s (.slice a m cap)).size))
  have hv := asUV
  have ho := asUO
  have hw := asUW
  have H1 := Lib.hid h1
  have H2 := Lib.hid h2
  have H3 := Lib.hid h3
  clear h1 h2 h3
  go_enter Try.func116, Try.ntmps116
  go_wp2_with (go_at_call 140; refine (form0_any _ _ _ _ _ H1.out H2.out H3.out).mono ?_; rintro e w1 ⟨rfl, rfl⟩)
  go_ret
  refine ⟨true, rfl, ⟨fun _ h => ?_, fun h => rfl⟩, HB0.out⟩
  have := H1.out; have := H2.out; have := H3.out
  rcases h with ⟨h, _⟩ | ⟨h, _⟩ | ⟨h, _⟩ <;> omega

theorem bad_any (k n : Int) (s : ByteArray) (a : Option Addr) (m cap : Nat) (w : World) (hs : s.size ≤ maxLen) :
    Calls Try.prog 116 #[tv k n s (.slice a m cap)] w (TellsT (¬ NodeOk k n s m) w) := by
  have hs2 : s.size ≤ 9223372036854775807 := by unfold maxLen at hs; omega
  by_cases h1 : k = 1
  · subst h1; exact bad1_any n s a m cap w hs2
  · by_cases h2 : k = 2
    · subst h2; exact bad2_any n s a m cap w hs2
    · by_cases h3 : k = 3
      · subst h3; exact bad3_any n s a m cap w
      · exact bad0_any k n s a m cap w h1 h2 h3
end Go.Proofs.Ytidbokheeieifaa
