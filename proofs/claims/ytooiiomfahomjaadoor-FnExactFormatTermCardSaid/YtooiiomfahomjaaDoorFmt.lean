/-
  spec.FormatInt returns the decimal numeral of its argument, for every int.
-/
import Derived.Test.YtooiiomfahomjaaDoorRows
import Derived.Test.YtooiiomfahomjaaDoorMathA
import Derived.Test.YtooiiomfahomjaaDoorFmtG
import Derived.WalkKit
import Derived.WalkSpells
import Derived.WalkLawsBesides
import Derived.Laws.IdiomStrings
import Derived.Lib.Hide
namespace Go.Proofs.YtooiiomfahomjaaDoor
open Go.RowKit
set_option maxHeartbeats 400000 in
theorem sFormat_zero (w : World) :
    Calls Tryd.prog 34 #[.int .i64 0] w fun e w' => e = .returned (.string ⟨(Lib.itoa 0).toArray⟩) ∧ Below w.heap.size w w' := by
  go_enter Tryd.func34, Tryd.ntmps34
  have hz : ((0 : Int) == 0) = true := rfl
  go_wp2
  go_ret
  exact ⟨by rw [itoa_zero]; rfl, Below.refl _ _⟩

set_option maxRecDepth 100000 in
set_option maxHeartbeats 400000 in
theorem sFormat_pos (n : Int) (w : World) (h0 : 1 ≤ n) (h1 : n ≤ 9223372036854775807) :
    Calls Tryd.prog 34 #[.int .i64 n] w fun e w' => e = .returned (.string ⟨(Lib.itoa n).toArray⟩) ∧ Below w.heap.size w w' := by
  have hz : (n == 0) = false := by simp; omega
  have hl : decide (n < 0) = false := by simp; omega
  go_enter Tryd.func34, Tryd.ntmps34
  go_wp2
  go_loopw [0, 4] (fun a o wr => ∃ (m : Nat) (out : List UInt8), (m : Int) ≤ 9223372036854775807 ∧ a = .int .i64 m ∧ o = .string ⟨out.toArray⟩ ∧ decPos m ++ out = decPos n.toNat ∧ Below w.heap.size w wr) (fun a _ _ => (intOf a).toNat)
  case atStart => exact ⟨n.toNat, [], by omega, by congr 1; omega, rfl, by simp, Below.refl _ _⟩
  case round =>
    obtain ⟨m, out, hm, rfl, rfl, hd, hb⟩ := hrel
    have HD := Lib.hid hd; clear hd
    by_cases hm0 : m = 0
    · subst hm0
      go_wp2
      go_ret
      refine ⟨ret_str ?_, hb⟩
      rw [itoa_pos (by omega), ← HD.out, decPos_zero]; rfl
    · have hne : ((m : Int) != 0) = true := by simp; omega
      have hp : (0 : Int) ≤ (m : Int) % 10 := by omega
      have hp2 : (m : Int) % 10 ≤ 9 := by omega
      have hcv := conv_one wr (48 + m % 10) (48 + (m : Int) % 10) (by omega) (by omega)
      have hstep := decPos_step (u := m) hm0 out
      have hlen : out.length ≤ 20 := by
        have e := congrArg List.length HD.out
        have l := decPos_length_le n.toNat (by omega)
        rw [List.length_append] at e
        omega
      have hmp : 1 ≤ m := by omega
      clear hm0
      have HS := Lib.hid hstep; clear hstep
      go_wp2
      go_roundw
      case rel =>
        refine ⟨m / 10, UInt8.ofNat (48 + m % 10) :: out, by omega, by go_num, ?_, by rw [HS.out, HD.out], hb.alloc (by have := hb.size; omega) _⟩
        rw [digit_val, cons_str]
      case measure => simp [intOf]; omega

theorem tmod_neg {x : Int} (h : x ≤ 0) : x.tmod 10 = -((x.natAbs % 10 : Nat) : Int) := by
  obtain ⟨u, rfl⟩ : ∃ u : Nat, x = -(u : Int) := ⟨x.natAbs, by omega⟩
  rw [Int.neg_tmod, Int.natAbs_neg, Int.natAbs_natCast, Int.tmod_eq_emod_of_nonneg (by omega)]
  omega
theorem tdiv_neg {x : Int} (h : x ≤ 0) : x.tdiv 10 = -((x.natAbs / 10 : Nat) : Int) := by
  obtain ⟨u, rfl⟩ : ∃ u : Nat, x = -(u : Int) := ⟨x.natAbs, by omega⟩
  rw [Int.neg_tdiv, Int.natAbs_neg, Int.natAbs_natCast, Int.tdiv_eq_ediv_of_nonneg (by omega)]
  omega

set_option maxRecDepth 100000 in
set_option maxHeartbeats 800000 in
theorem sFormat_neg (n : Int) (w : World) (h0 : n ≤ -1) (h1 : -9223372036854775808 ≤ n) :
    Calls Tryd.prog 34 #[.int .i64 n] w fun e w' => e = .returned (.string ⟨(Lib.itoa n).toArray⟩) ∧ Below w.heap.size w w' := by
  have hz : (n == 0) = false := by simp; omega
  have hl : decide (n < 0) = true := by simp; omega
  go_enter Tryd.func34, Tryd.ntmps34
  go_wp2
  go_loopw [0, 4, 5] (fun a o _ wr => ∃ (x : Int) (out : List UInt8), x ≤ 0 ∧ -9223372036854775808 ≤ x ∧ a = .int .i64 x ∧ o = .string ⟨out.toArray⟩ ∧ decPos x.natAbs ++ out = decPos n.natAbs ∧ Below w.heap.size w wr) (fun a _ _ _ => (intOf a).natAbs)
  case atStart => exact ⟨n, [], by omega, by omega, rfl, rfl, by simp, Below.refl _ _⟩
  case round =>
    obtain ⟨x, out, hx0, hx1, rfl, rfl, hd, hb⟩ := hrel
    have HD := Lib.hid hd; clear hd
    have hlen : out.length ≤ 20 := by
      have e := congrArg List.length HD.out
      have l := decPos_length_le n.natAbs (by omega)
      rw [List.length_append] at e
      omega
    by_cases hm0 : x = 0
    · subst hm0
      go_wp2
      go_ret
      refine ⟨?_, hb⟩
      rw [itoa_neg' (by omega), ← HD.out]
      show Ending.returned (.string (⟨#[45]⟩ ++ ⟨out.toArray⟩)) = _
      rw [cons_str, Int.natAbs_zero, decPos_zero]; rfl
    · have hne : (x != 0) = true := by simp; omega
      have hxp : x ≤ -1 := by omega
      have ht := Lib.hid (tmod_neg hx0)
      have hq := Lib.hid (tdiv_neg hx0)
      have hb1 : x.tmod 10 ≤ 0 := by rw [ht.out]; omega
      have hb2 : -9 ≤ x.tmod 10 := by rw [ht.out]; omega
      have hq1 : x.tdiv 10 ≤ 0 := by rw [hq.out]; omega
      have hq2 : -9223372036854775808 ≤ x.tdiv 10 := by rw [hq.out]; omega
      have hstep := decPos_step (u := x.natAbs) (by omega) out
      clear hm0
      have HS := Lib.hid hstep; clear hstep
      by_cases hdn : x.tmod 10 < 0
      · have hcv := conv_one wr (48 + x.natAbs % 10) (48 + -x.tmod 10) (by omega) (by rw [ht.out]; omega)
        go_wp2
        go_roundw
        case rel =>
          refine ⟨x.tdiv 10, UInt8.ofNat (48 + x.natAbs % 10) :: out, by omega, by omega, ?_, ?_, by rw [hq.out, Int.natAbs_neg, Int.natAbs_natCast, HS.out, HD.out], hb.alloc (by have := hb.size; omega) _⟩
          · go_num
          · rw [digit_val, cons_str]
        case measure => simp only [intOf]; rw [hq.out]; omega
      · have hcv := conv_one wr (48 + x.natAbs % 10) (48 + x.tmod 10) (by omega) (by rw [ht.out]; have := ht.out; omega)
        go_wp2
        go_roundw
        case rel =>
          refine ⟨x.tdiv 10, UInt8.ofNat (48 + x.natAbs % 10) :: out, by omega, by omega, ?_, ?_, by rw [hq.out, Int.natAbs_neg, Int.natAbs_natCast, HS.out, HD.out], hb.alloc (by have := hb.size; omega) _⟩
          · go_num
          · rw [digit_val, cons_str]
        case measure => simp only [intOf]; rw [hq.out]; omega

/-- spec.FormatInt: the decimal numeral, for every int. -/
theorem sFormat_any (n : Int) (w : World) (h0 : -9223372036854775808 ≤ n) (h1 : n ≤ 9223372036854775807) :
    Calls Tryd.prog 34 #[.int .i64 n] w fun e w' => e = .returned (.string ⟨(Lib.itoa n).toArray⟩) ∧ Below w.heap.size w w' := by
  rcases Int.lt_trichotomy n 0 with h | h | h
  · exact sFormat_neg n w (by omega) h0
  · subst h; exact sFormat_zero w
  · exact sFormat_pos n w (by omega) h1
end Go.Proofs.YtooiiomfahomjaaDoor
