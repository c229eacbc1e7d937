/-
  laws.markText: 'm' and the decimal numeral.
-/
import Derived.Test.YtooiiomfahomjaaFmtG
import Derived.Test.YtooiiomfahomjaaMathA
import Derived.Test.YtooiiomfahomjaaOwn
import Derived.Deep.RegionHeld3
namespace Go.Proofs.Ytooiiomfahomjaa
open Go.RowKit

/-- The k-th mark. -/
def mark (k : Nat) : ByteArray := ⟨((109 : UInt8) :: decPos k).toArray⟩
def MarkEnd (k : Nat) (w : World) (e : Ending) (w' : World) : Prop := e = .returned (.string (mark k)) ∧ Below w.heap.size w w'

set_option maxRecDepth 100000 in
set_option maxHeartbeats 400000 in
theorem markText_any (n : Nat) (w : World) (h0 : 1 ≤ n) (h1 : (n : Int) ≤ 9223372036854775807) :
    Calls Try.prog 52 #[.int .i64 n] w (MarkEnd n w) := by
  have hz : decide ((n : Int) ≤ 0) = false := by simp; omega
  go_enter Try.func52, Try.ntmps52
  go_wp2
  go_loopw [0, 3] (fun a o wr => ∃ (m : Nat) (out : List UInt8), (m : Int) ≤ 9223372036854775807 ∧ a = .int .i64 m ∧ o = .string ⟨out.toArray⟩ ∧ decPos m ++ out = decPos n ∧ Below w.heap.size w wr) (fun a _ _ => (intOf a).toNat)
  case atStart => exact ⟨n, [], by omega, rfl, rfl, by simp, Below.refl _ _⟩
  case round =>
    obtain ⟨m, out, hm, rfl, rfl, hd, hb⟩ := hrel
    have HD := Lib.hid hd; clear hd
    have hlen : out.length ≤ 20 := by
      have e := congrArg List.length HD.out
      have l := decPos_length_le n (by omega)
      rw [List.length_append] at e
      omega
    by_cases hm0 : m = 0
    · subst hm0
      go_wp2
      go_ret
      refine ⟨?_, hb⟩
      show Ending.returned (.string (⟨#[109]⟩ ++ ⟨out.toArray⟩)) = _
      rw [cons_str]
      have := HD.out
      rw [decPos_zero, List.nil_append] at this
      rw [this]; rfl
    · have hmp : 1 ≤ m := by omega
      have hp : (0 : Int) ≤ (m : Int) % 10 := by omega
      have hp2 : (m : Int) % 10 ≤ 9 := by omega
      have hcv := conv_one wr (48 + m % 10) (48 + (m : Int) % 10) (by omega) (by omega)
      have hstep := decPos_step (u := m) hm0 out
      clear hm0
      have HS := Lib.hid hstep; clear hstep
      go_wp2
      go_roundw
      case rel =>
        refine ⟨m / 10, UInt8.ofNat (48 + m % 10) :: out, by omega, by go_num, ?_, by rw [HS.out, HD.out], hb.alloc (by have := hb.size; omega) _⟩
        rw [digit_val, cons_str]
      case measure => simp [intOf]; omega

theorem markText_int (x : Int) (n : Nat) (w : World) (hx : x = (n : Int)) (h0 : 1 ≤ n) (h1 : (n : Int) ≤ 9223372036854775807) :
    Calls Try.prog 52 #[.int .i64 x] w (MarkEnd n w) := by
  subst hx; exact markText_any n w h0 h1

theorem held_call {wr w1 : World} {a : Addr} {v : Value} (hb1 : Below wr.drew.heap.size wr.drew w1) (hg : a.block < wr.heap.size) (h : wr.cell? a = some v) : w1.cell? a = some v ∧ Below wr.heap.size wr w1 := by
  have hb : Below wr.heap.size wr wr.drew := (Below.refl _ _).drew
  exact ⟨by rw [(hb.trans hb1).cell hg]; exact h, hb.trans hb1⟩
theorem held_draw {wr : World} {a : Addr} {v : Value} (h : wr.cell? a = some v) : wr.drew.cell? a = some v ∧ Below wr.heap.size wr wr.drew :=
  ⟨h, (Below.refl _ _).drew⟩
end Go.Proofs.Ytooiiomfahomjaa
