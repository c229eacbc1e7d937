/-
  A slice of strings: what it holds. No walk.
  A slice of strings that came in, or that was made: small facts. No walk.
  impl.Join returns the elements with the separator between them.
  impl.formOf says what a node is by its kind alone; impl.isInvalidNode tells whether a node has none of the three forms.
-/
import Derived.Test.YtooiiomfahomjaaDoorRows
import Derived.Test.YtooiiomfahomjaaDoorQ4
import Derived.Test.YtooiiomfahomjaaDoorQ12
import Derived.Test.YtooiiomfahomjaaDoorQ3
import Derived.Test.YtooiiomfahomjaaDoorQ11
import Derived.WalkKit
import Derived.WalkSpells
import Derived.WalkLawsBesides
import Derived.Lib.Hide
import Derived.BigQuiet
import Derived.Deep.QuietTactic
import Derived.ProofKit
import Derived.Shelf.Strings.OnBuilder
namespace Go.Proofs.YtooiiomfahomjaaDoor
open Go.RowKit

/-- The slice value v holds the strings ps. -/
def StrsAt (w : World) (v : Value) (ps : List ByteArray) : Prop :=
  ∃ a cap, v = .slice a ps.length cap ∧ (ps = [] ∨ ∃ b o, a = some ⟨b, o, none⟩ ∧ ∀ i p, ps[i]? = some p → w.cell? ⟨b, o + i, none⟩ = some (.string p))

theorem StrsAt.of_owns {w : World} {B : Nat} {e : TypeId} {v : Value} {ps : List ByteArray} (h : w.ownsRow B e 1 v ps.length (ps.map Value.string)) : StrsAt w v ps := by
  rcases h.2 with ⟨rfl, h0⟩ | ⟨g, cap, cur, rfl, _, _, _, _, _, _⟩
  · exact ⟨none, 0, by rw [h0], Or.inl (List.eq_nil_of_length_eq_zero h0)⟩
  · refine ⟨_, cap, rfl, Or.inr ⟨g, 0, rfl, fun i p hp => ?_⟩⟩
    have hi : i < ps.length := (List.getElem?_eq_some_iff.1 hp).1
    rw [Nat.zero_add, h.cellAt i (by omega)]
    simp [hp]
theorem StrsAt.drewN {w : World} {v : Value} {ps : List ByteArray} (h : StrsAt w v ps) (n : Nat) : StrsAt (w.drewN n) v ps := by
  obtain ⟨a, cap, rfl, h⟩ := h
  refine ⟨a, cap, rfl, ?_⟩
  rcases h with h | ⟨b, o, rfl, h⟩
  · exact Or.inl h
  · exact Or.inr ⟨b, o, rfl, fun i p hp => by simpa using h i p hp⟩

end Go.Proofs.YtooiiomfahomjaaDoor
namespace Go.Proofs.YtooiiomfahomjaaDoor
open Go.RowKit

theorem infoStr' : (Tryd.prog.info? 9).map (fun i => (i.zero, i.size, i.bytes)) = some (some (.string ByteArray.empty), 1, 16) := by kernel_rfl

/-- A slice of strings that came in. -/
theorem strsAt_of_open {w : World} {a : Addr} {len cap : Nat} {ss : List ByteArray} (hl : len ≤ ss.length)
    (hc : ∀ i, i < ss.length → w.cell? (a.add i) = some (.string (ss.getD i ByteArray.empty))) : StrsAt w (.slice (some a) len cap) (ss.take len) := by
  have hlen : (ss.take len).length = len := by simp; omega
  refine ⟨some a, cap, by rw [hlen], ?_⟩
  by_cases h0 : len = 0
  · left; rw [h0]; simp
  · right
    have h := hc 0 (by omega)
    have hs := World.cell?_spot h
    obtain ⟨b, o, sp⟩ := a
    have hsp : sp = none := by simpa [Addr.add] using hs
    subst hsp
    refine ⟨b, o, rfl, fun i p hp => ?_⟩
    have hi : i < len := by have := (List.getElem?_eq_some_iff.1 hp).1; omega
    have hx := hc i (by omega)
    have e : (⟨b, o, none⟩ : Addr).add i = ⟨b, o + i, none⟩ := by
      unfold Addr.add
      split
      · rename_i h; subst h; rfl
      · rfl
    rw [e] at hx
    rw [hx]
    rw [List.getElem?_take, if_pos hi] at hp
    simp [List.getD, hp]

theorem StrsAt.below {w w' : World} {v : Value} {ps : List ByteArray} (h : StrsAt w v ps) (hb : Below w.heap.size w w') : StrsAt w' v ps := by
  obtain ⟨a, cap, rfl, h⟩ := h
  refine ⟨a, cap, rfl, ?_⟩
  rcases h with h | ⟨b, o, rfl, h⟩
  · exact Or.inl h
  · refine Or.inr ⟨b, o, rfl, fun i p hp => ?_⟩
    have hc := h i p hp
    rw [hb.cell (World.block_lt_of_cell? w _ hc)]; exact hc
end Go.Proofs.YtooiiomfahomjaaDoor
namespace Go.Proofs.YtooiiomfahomjaaDoor
open Go.RowKit

def JoinEnd (ps : List ByteArray) (sep : ByteArray) (w : World) (e : Ending) (w' : World) : Prop :=
  e = .returned (.string ⟨(Lib.join (ps.map (·.data.toList)) sep.data.toList).toArray⟩) ∧ Below w.heap.size w w'

set_option maxRecDepth 100000 in
set_option maxHeartbeats 400000 in
theorem iJoin_any (B : Nat) (v : Value) (ps : List ByteArray) (sep : ByteArray) (w : World) (hl : ps.length + total ps ≤ 33554432) (hs : sep.size ≤ 1048576)
    (hown : w.ownsRow B 9 1 v ps.length (ps.map Value.string)) :
    Calls Tryd.prog 33 #[v, .string sep] w (JoinEnd ps sep w) := by
  have hjl := join_length sep.data.toList ps
  have e3 : sep.data.toList.length = sep.size := by simp
  have h4 : ps.length * sep.data.toList.length ≤ 33554432 * 1048576 := Nat.mul_le_mul (by omega) (by omega)
  have hj : (Lib.join (ps.map (·.data.toList)) sep.data.toList).length ≤ 140737488355328 := by omega
  have HJ := Lib.hid hj; clear hj hjl h4 e3
  have hc : Calls Tryd.prog 58 #[v, .string sep] w (JoinEnd ps sep w) := by
    rcases hown.2 with ⟨rfl, h0⟩ | ⟨g, cap, cur, rfl, hbg, hg, hnc, hcm, hcs, htk⟩
    · have hp : ps = [] := List.eq_nil_of_length_eq_zero h0
      subst hp
      exact (Any.strings_Join_none Tryd.lays156 Tryd.Builder_Extra_156 none 0 sep w).mono fun e w' ⟨he, hw⟩ => ⟨he, hw ▸ Below.refl _ _⟩
    · exact (Any.strings_Join Tryd.lays156 Tryd.Builder_Extra_156 g 0 cap ps sep w (fun j x hx => by
        have hj : j < ps.length := (List.getElem?_eq_some_iff.1 hx).1
        rw [Nat.zero_add, hown.cellAt j (by omega)]
        simp [hx]) (hown.lt g rfl).2 (by omega) hnc HJ.out).mono fun e w' h => h
  have HC := Lib.hid hc; clear hc
  go_enter Tryd.func33, Tryd.ntmps33
  go_wp2_with fail
  refine HC.out.mono ?_
  rintro e w1 ⟨rfl, hb⟩
  go_wp2
  go_ret
  exact ⟨rfl, hb⟩

end Go.Proofs.YtooiiomfahomjaaDoor
namespace Go.Proofs.YtooiiomfahomjaaDoor
open Go.RowKit

/-- What formOf hands back. -/
def FormEnd (k n : Int) (s : ByteArray) (u : Value) (w : World) (e : Ending) (w' : World) : Prop :=
  ∃ ty x, e = .returned (.iface ty (.agg #[x])) ∧ w' = boxed w k n s u ∧ ((k = 1 ∧ ty = 111 ∧ x = .string s) ∨ (k = 2 ∧ ty = 112 ∧ x = .string s) ∨ (k = 3 ∧ ty = 114 ∧ x = .int .i64 n))

set_option maxRecDepth 100000 in
set_option maxHeartbeats 400000 in
theorem form1_any (n : Int) (s : ByteArray) (u : Value) (w : World) :
    Calls Tryd.prog 84 #[tv 1 n s u] w (fun e w' => e = .returned (.iface 111 (.agg #[.string s])) ∧ w' = boxed w 1 n s u) := by
  go_enter Tryd.func84, Tryd.ntmps84
  go_wp2
  go_ret
  exact ⟨rfl, rfl⟩
set_option maxRecDepth 100000 in
set_option maxHeartbeats 400000 in
theorem form2_any (n : Int) (s : ByteArray) (u : Value) (w : World) :
    Calls Tryd.prog 84 #[tv 2 n s u] w (fun e w' => e = .returned (.iface 112 (.agg #[.string s])) ∧ w' = boxed w 2 n s u) := by
  go_enter Tryd.func84, Tryd.ntmps84
  go_wp2
  go_ret
  exact ⟨rfl, rfl⟩
set_option maxRecDepth 100000 in
set_option maxHeartbeats 400000 in
theorem form3_any (n : Int) (s : ByteArray) (u : Value) (w : World) :
    Calls Tryd.prog 84 #[tv 3 n s u] w (fun e w' => e = .returned (.iface 114 (.agg #[.int .i64 n])) ∧ w' = boxed w 3 n s u) := by
  go_enter Tryd.func84, Tryd.ntmps84
  go_wp2
  go_ret
  exact ⟨rfl, rfl⟩
set_option maxRecDepth 100000 in
set_option maxHeartbeats 400000 in
theorem form0_any (k n : Int) (s : ByteArray) (u : Value) (w : World) (h1 : k ≠ 1) (h2 : k ≠ 2) (h3 : k ≠ 3) :
    Calls Tryd.prog 84 #[tv k n s u] w (fun e w' => e = .returned (.iface 120 (.agg #[])) ∧ w' = boxed w k n s u) := by
  have h1' : (k == 1) = false := by rw [beq_eq_false_iff_ne]; exact h1
  have h2' : (k == 2) = false := by rw [beq_eq_false_iff_ne]; exact h2
  have h3' : (k == 3) = false := by rw [beq_eq_false_iff_ne]; exact h3
  go_enter Tryd.func84, Tryd.ntmps84
  go_wp2
  go_ret
  exact ⟨rfl, rfl⟩

theorem asVV (v : Value) (W : World) : (Instr.typeAssert (.iface 111 v) 108 111 true).run Tryd.prog W = .ok (.tuple #[v, .bool true]) W := by kernel_rfl
theorem asVO (v : Value) (W : World) : (Instr.typeAssert (.iface 111 v) 108 112 true).run Tryd.prog W = .ok (.tuple #[.agg #[.string ByteArray.empty], .bool false]) W := by kernel_rfl
theorem asVW (v : Value) (W : World) : (Instr.typeAssert (.iface 111 v) 108 114 true).run Tryd.prog W = .ok (.tuple #[.agg #[.int .i64 0], .bool false]) W := by kernel_rfl
theorem asOV (v : Value) (W : World) : (Instr.typeAssert (.iface 112 v) 108 111 true).run Tryd.prog W = .ok (.tuple #[.agg #[.string ByteArray.empty], .bool false]) W := by kernel_rfl
theorem asOO (v : Value) (W : World) : (Instr.typeAssert (.iface 112 v) 108 112 true).run Tryd.prog W = .ok (.tuple #[v, .bool true]) W := by kernel_rfl
theorem asOW (v : Value) (W : World) : (Instr.typeAssert (.iface 112 v) 108 114 true).run Tryd.prog W = .ok (.tuple #[.agg #[.int .i64 0], .bool false]) W := by kernel_rfl
theorem asWV (v : Value) (W : World) : (Instr.typeAssert (.iface 114 v) 108 111 true).run Tryd.prog W = .ok (.tuple #[.agg #[.string ByteArray.empty], .bool false]) W := by kernel_rfl
theorem asWO (v : Value) (W : World) : (Instr.typeAssert (.iface 114 v) 108 112 true).run Tryd.prog W = .ok (.tuple #[.agg #[.string ByteArray.empty], .bool false]) W := by kernel_rfl
theorem asWW (v : Value) (W : World) : (Instr.typeAssert (.iface 114 v) 108 114 true).run Tryd.prog W = .ok (.tuple #[v, .bool true]) W := by kernel_rfl
theorem asUV (v : Value) (W : World) : (Instr.typeAssert (.iface 120 v) 108 111 true).run Tryd.prog W = .ok (.tuple #[.agg #[.string ByteArray.empty], .bool false]) W := by kernel_rfl
theorem asUO (v : Value) (W : World) : (Instr.typeAssert (.iface 120 v) 108 112 true).run Tryd.prog W = .ok (.tuple #[.agg #[.string ByteArray.empty], .bool false]) W := by kernel_rfl
theorem asUW (v : Value) (W : World) : (Instr.typeAssert (.iface 120 v) 108 114 true).run Tryd.prog W = .ok (.tuple #[.agg #[.int .i64 0], .bool false]) W := by kernel_rfl

/-- Behind the box, formOf's box and the form's own block. -/
theorem boxes_below (w : World) (k n : Int) (s : ByteArray) (u : Value) (o : Obj) : Below w.heap.size w ((boxed (boxed w k n s u) k n s u).alloc o) :=
  ((boxed_below w k n s u).trans ((boxed_below _ k n s u).mono (boxed_below w k n s u).size)).alloc (by simp; omega) _


set_option maxRecDepth 100000 in
set_option maxHeartbeats 1600000 in
theorem bad1_any (n : Int) (s : ByteArray) (a : Option Addr) (m cap : Nat) (w : World) (hs : s.size ≤ 9223372036854775807) :
    Calls Tryd.prog 65 #[tv 1 n s (.slice a m cap)] w (TellsT (¬ NodeOk 1 n s m) w) := by
  have HB0 := Lib.hid (boxes_below w 1 n s (.slice a m cap) (.cells #[.string s] 111))
  have hv := asVV
  go_enter Tryd.func65, Tryd.ntmps65
  go_wp2_with (go_at_call 84; refine (form1_any _ _ _ _).mono ?_; rintro e w1 ⟨rfl, rfl⟩)
  refine (iVar_any s _ hs).mono ?_
  rintro e w1 ⟨b1, rfl, hq, rfl⟩
  have HQ := Lib.hid hq; clear hq
  cases b1 with
  | false =>
    go_wp2
    go_ret
    refine ⟨true, rfl, ⟨fun _ h => ?_, fun h => rfl⟩, HB0.out⟩
    rcases h with ⟨_, h, _⟩ | ⟨h, _⟩ | ⟨h, _⟩
    · exact absurd h (fun q => by have := HQ.out.2 q; simp at this)
    · omega
    · omega
  | true =>
    by_cases hn : n = 0
    · subst hn
      by_cases hm : m = 0
      · subst hm
        go_wp2
        go_ret
        exact ⟨false, rfl, ⟨fun h => by simp at h, fun h => absurd (Or.inl ⟨rfl, HQ.out.1 (by simp), rfl, rfl⟩) h⟩, HB0.out⟩
      · have hm' : 0 < m := by omega
        go_wp2
        go_ret
        refine ⟨true, rfl, ⟨fun _ h => ?_, fun h => rfl⟩, HB0.out⟩
        rcases h with ⟨_, _, _, h⟩ | ⟨h, _⟩ | ⟨h, _⟩ <;> omega
    · have hn' : (n != 0) = true := by simpa using hn
      go_wp2
      go_ret
      refine ⟨true, rfl, ⟨fun _ h => ?_, fun h => rfl⟩, HB0.out⟩
      rcases h with ⟨_, _, h, _⟩ | ⟨h, _⟩ | ⟨h, _⟩ <;> omega

set_option maxRecDepth 100000 in
set_option maxHeartbeats 1600000 in
theorem bad2_any (n : Int) (s : ByteArray) (a : Option Addr) (m cap : Nat) (w : World) (hs : s.size ≤ 9223372036854775807) :
    Calls Tryd.prog 65 #[tv 2 n s (.slice a m cap)] w (TellsT (¬ NodeOk 2 n s m) w) := by
  have HB0 := Lib.hid (boxes_below w 2 n s (.slice a m cap) (.cells #[.string s] 112))
  have hv := asOV
  have ho := asOO
  go_enter Tryd.func65, Tryd.ntmps65
  go_wp2_with (go_at_call 84; refine (form2_any _ _ _ _).mono ?_; rintro e w1 ⟨rfl, rfl⟩)
  refine (iName_any s _ hs).mono ?_
  rintro e w1 ⟨b1, rfl, hq, rfl⟩
  have HQ := Lib.hid hq; clear hq
  cases b1 with
  | false =>
    go_wp2
    go_ret
    refine ⟨true, rfl, ⟨fun _ h => ?_, fun h => rfl⟩, HB0.out⟩
    rcases h with ⟨h, _⟩ | ⟨_, h, _⟩ | ⟨h, _⟩
    · omega
    · exact absurd h (fun q => by have := HQ.out.2 q; simp at this)
    · omega
  | true =>
    by_cases hn : n = 0
    · subst hn
      go_wp2
      go_ret
      exact ⟨false, rfl, ⟨fun h => by simp at h, fun h => absurd (Or.inr (Or.inl ⟨rfl, HQ.out.1 (by simp), rfl⟩)) h⟩, HB0.out⟩
    · have hn' : (n != 0) = true := by simpa using hn
      go_wp2
      go_ret
      refine ⟨true, rfl, ⟨fun _ h => ?_, fun h => rfl⟩, HB0.out⟩
      rcases h with ⟨h, _⟩ | ⟨_, _, h⟩ | ⟨h, _⟩ <;> omega

set_option maxRecDepth 100000 in
set_option maxHeartbeats 1600000 in
theorem bad3_any (n : Int) (s : ByteArray) (a : Option Addr) (m cap : Nat) (w : World) :
    Calls Tryd.prog 65 #[tv 3 n s (.slice a m cap)] w (TellsT (¬ NodeOk 3 n s m) w) := by
  have HB0 := Lib.hid (boxes_below w 3 n s (.slice a m cap) (.cells #[.int .i64 n] 114))
  have hv := asWV
  have ho := asWO
  have hw := asWW
  by_cases hn0 : n < 0
  · go_enter Tryd.func65, Tryd.ntmps65
    go_wp2_with (go_at_call 84; refine (form3_any _ _ _ _).mono ?_; rintro e w1 ⟨rfl, rfl⟩)
    go_ret
    refine ⟨true, rfl, ⟨fun _ h => ?_, fun h => rfl⟩, HB0.out⟩
    rcases h with ⟨h, _⟩ | ⟨h, _⟩ | ⟨_, _, h, _⟩ <;> omega
  · have hn1 : 0 ≤ n := by omega
    by_cases hn4 : 4 ≤ n
    · go_enter Tryd.func65, Tryd.ntmps65
      go_wp2_with (go_at_call 84; refine (form3_any _ _ _ _).mono ?_; rintro e w1 ⟨rfl, rfl⟩)
      go_ret
      refine ⟨true, rfl, ⟨fun _ h => ?_, fun h => rfl⟩, HB0.out⟩
      rcases h with ⟨h, _⟩ | ⟨h, _⟩ | ⟨_, _, _, h, _⟩ <;> omega
    · have hn3 : n < 4 := by omega
      by_cases h0 : s.size = 0
      · obtain rfl := no_empty s h0
        by_cases hm : m = 0
        · subst hm
          go_enter Tryd.func65, Tryd.ntmps65
          go_wp2_with (go_at_call 84; refine (form3_any _ _ _ _).mono ?_; rintro e w1 ⟨rfl, rfl⟩)
          go_ret
          refine ⟨(decide (n < 0) || decide (4 ≤ n)), rfl, ⟨fun h => ?_, fun h => absurd (Or.inr (Or.inr ⟨rfl, rfl, hn1, by omega, rfl⟩)) h⟩, HB0.out⟩
          have q1 : decide (n < 0) = false := decide_eq_false (by omega)
          have q2 : decide (4 ≤ n) = false := decide_eq_false (by omega)
          rw [q1, q2] at h
          cases h
        · have hm' : (0 : Int) < (m : Int) := by omega
          go_enter Tryd.func65, Tryd.ntmps65
          go_wp2_with (go_at_call 84; refine (form3_any _ _ _ _).mono ?_; rintro e w1 ⟨rfl, rfl⟩)
          go_ret
          refine ⟨_, rfl, ⟨fun _ h => ?_, fun h => by simp; omega⟩, HB0.out⟩
          rcases h with ⟨h, _⟩ | ⟨h, _⟩ | ⟨_, _, _, _, h⟩ <;> omega
      · obtain ⟨hb, hb'⟩ := some_byte s h0
        go_enter Tryd.func65, Tryd.ntmps65
        go_wp2_with (go_at_call 84; refine (form3_any _ _ _ _).mono ?_; rintro e w1 ⟨rfl, rfl⟩)
        go_ret
        refine ⟨true, rfl, ⟨fun _ h => ?_, fun h => rfl⟩, HB0.out⟩
        rcases h with ⟨h, _⟩ | ⟨h, _⟩ | ⟨_, h, _⟩ <;> omega

set_option maxRecDepth 100000 in
set_option maxHeartbeats 1600000 in
theorem bad0_any (k n : Int) (s : ByteArray) (a : Option Addr) (m cap : Nat) (w : World) (h1 : k ≠ 1) (h2 : k ≠ 2) (h3 : k ≠ 3) :
    Calls Tryd.prog 65 #[tv k n s (.slice a m cap)] w (TellsT (¬ NodeOk k n s m) w) := by
  have HB0 := Lib.hid ((boxed_below w k n s (.slice a m cap)).trans ((boxed_below _ k n s (.slice a m cap)).mono (boxed_below w k n s (.slice a m cap)).size))
  have hv := asUV
  have ho := asUO
  have hw := asUW
  have H1 := Lib.hid h1
  have H2 := Lib.hid h2
  have H3 := Lib.hid h3
  clear h1 h2 h3
  go_enter Tryd.func65, Tryd.ntmps65
  go_wp2_with (go_at_call 84; refine (form0_any _ _ _ _ _ H1.out H2.out H3.out).mono ?_; rintro e w1 ⟨rfl, rfl⟩)
  go_ret
  refine ⟨true, rfl, ⟨fun _ h => ?_, fun h => rfl⟩, HB0.out⟩
  have := H1.out; have := H2.out; have := H3.out
  rcases h with ⟨h, _⟩ | ⟨h, _⟩ | ⟨h, _⟩ <;> omega

theorem bad_any (k n : Int) (s : ByteArray) (a : Option Addr) (m cap : Nat) (w : World) (hs : s.size ≤ maxLen) :
    Calls Tryd.prog 65 #[tv k n s (.slice a m cap)] w (TellsT (¬ NodeOk k n s m) w) := by
  have hs2 : s.size ≤ 9223372036854775807 := by unfold maxLen at hs; omega
  by_cases h1 : k = 1
  · subst h1; exact bad1_any n s a m cap w hs2
  · by_cases h2 : k = 2
    · subst h2; exact bad2_any n s a m cap w hs2
    · by_cases h3 : k = 3
      · subst h3; exact bad3_any n s a m cap w
      · exact bad0_any k n s a m cap w h1 h2 h3
end Go.Proofs.YtooiiomfahomjaaDoor
