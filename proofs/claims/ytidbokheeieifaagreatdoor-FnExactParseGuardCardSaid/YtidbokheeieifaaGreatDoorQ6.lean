/-
  spec.FormatInt returns the decimal numeral of its argument, for every int.
  spec.l5Text and spec.FormatTerm return a term's representation.
  A slice of strings: what it holds. No walk.
  A slice of strings that came in, or that was made: small facts. No walk.
  The names of the library's tables and variables that the reading and the writing of numbers need.
  impl.FormatInt returns the decimal numeral of its argument, for every int, where the table of powers of ten is as the library lays it.
  impl.Join returns the elements with the separator between them.
  impl.formOf says what a node is by its kind alone; type assertions on the forms.
  impl.IsVarName tells the names of variables.
-/
import Derived.Test.YtidbokheeieifaaGreatDoorRows
import Derived.Test.YtidbokheeieifaaGreatDoorQ5
import Derived.Test.YtidbokheeieifaaGreatDoorQ1
import Derived.Test.YtidbokheeieifaaGreatDoorQ2
import Derived.WalkKit
import Derived.WalkSpells
import Derived.WalkLawsBesides
import Derived.Laws.IdiomStrings
import Derived.Lib.Hide
import Derived.BigQuiet
import Derived.Deep.QuietTactic
import Derived.ProofKit
import Derived.Shelf.Strconv.Itoa3
import Derived.Lib.AppendIntMem
import Derived.Shelf.Strings.OnBuilder
namespace Go.Proofs.YtidbokheeieifaaGreatDoor
open Go.RowKit
set_option maxHeartbeats 400000 in
theorem sFormat_zero (w : World) :
    Calls Tryz.prog 80 #[.int .i64 0] w fun e w' => e = .returned (.string ⟨(Lib.itoa 0).toArray⟩) ∧ Below w.heap.size w w' := by
  go_enter Tryz.func80, Tryz.ntmps80
  have hz : ((0 : Int) == 0) = true := rfl
  go_wp2
  go_ret
  exact ⟨by rw [itoa_zero]; rfl, Below.refl _ _⟩

set_option maxRecDepth 100000 in
set_option maxHeartbeats 400000 in
theorem sFormat_pos (n : Int) (w : World) (h0 : 1 ≤ n) (h1 : n ≤ 9223372036854775807) :
    Calls Tryz.prog 80 #[.int .i64 n] w fun e w' => e = .returned (.string ⟨(Lib.itoa n).toArray⟩) ∧ Below w.heap.size w w' := by
  have hz : (n == 0) = false := by simp; omega
  have hl : decide (n < 0) = false := by simp; omega
  go_enter Tryz.func80, Tryz.ntmps80
  go_wp2
  go_loopw [0, 4] (fun a o wr => ∃ (m : Nat) (out : List UInt8), (m : Int) ≤ 9223372036854775807 ∧ a = .int .i64 m ∧ o = .string ⟨out.toArray⟩ ∧ decPos m ++ out = decPos n.toNat ∧ Below w.heap.size w wr) (fun a _ _ => (intOf a).toNat)
  case atStart => exact ⟨n.toNat, [], by omega, by congr 1; omega, rfl, by simp, Below.refl _ _⟩
  case round =>
    obtain ⟨m, out, hm, rfl, rfl, hd, hb⟩ := hrel
    have HD := Lib.hid hd; clear hd
    by_cases hm0 : m = 0
    · subst hm0
      go_wp2
      go_ret
      refine ⟨ret_str ?_, hb⟩
      rw [itoa_pos (by omega), ← HD.out, decPos_zero]; rfl
    · have hne : ((m : Int) != 0) = true := by simp; omega
      have hp : (0 : Int) ≤ (m : Int) % 10 := by omega
      have hp2 : (m : Int) % 10 ≤ 9 := by omega
      have hcv := conv_one wr (48 + m % 10) (48 + (m : Int) % 10) (by omega) (by omega)
      have hstep := decPos_step (u := m) hm0 out
      have hlen : out.length ≤ 20 := by
        have e := congrArg List.length HD.out
        have l := decPos_length_le n.toNat (by omega)
        rw [List.length_append] at e
        omega
      have hmp : 1 ≤ m := by omega
      clear hm0
      have HS := Lib.hid hstep; clear hstep
      go_wp2
      go_roundw
      case rel =>
        refine ⟨m / 10, UInt8.ofNat (48 + m % 10) :: out, by omega, by go_num, ?_, by rw [HS.out, HD.out], hb.alloc (by have := hb.size; omega) _⟩
        rw [digit_val, cons_str]
      case measure => simp [intOf]; omega

theorem tmod_neg {x : Int} (h : x ≤ 0) : x.tmod 10 = -((x.natAbs % 10 : Nat) : Int) := by
  obtain ⟨u, rfl⟩ : ∃ u : Nat, x = -(u : Int) := ⟨x.natAbs, by omega⟩
  rw [Int.neg_tmod, Int.natAbs_neg, Int.natAbs_natCast, Int.tmod_eq_emod_of_nonneg (by omega)]
  omega
theorem tdiv_neg {x : Int} (h : x ≤ 0) : x.tdiv 10 = -((x.natAbs / 10 : Nat) : Int) := by
  obtain ⟨u, rfl⟩ : ∃ u : Nat, x = -(u : Int) := ⟨x.natAbs, by omega⟩
  rw [Int.neg_tdiv, Int.natAbs_neg, Int.natAbs_natCast, Int.tdiv_eq_ediv_of_nonneg (by omega)]
  omega

set_option maxRecDepth 100000 in
set_option maxHeartbeats 800000 in
theorem sFormat_neg (n : Int) (w : World) (h0 : n ≤ -1) (h1 : -9223372036854775808 ≤ n) :
    Calls Tryz.prog 80 #[.int .i64 n] w fun e w' => e = .returned (.string ⟨(Lib.itoa n).toArray⟩) ∧ Below w.heap.size w w' := by
  have hz : (n == 0) = false := by simp; omega
  have hl : decide (n < 0) = true := by simp; omega
  go_enter Tryz.func80, Tryz.ntmps80
  go_wp2
  go_loopw [0, 4, 5] (fun a o _ wr => ∃ (x : Int) (out : List UInt8), x ≤ 0 ∧ -9223372036854775808 ≤ x ∧ a = .int .i64 x ∧ o = .string ⟨out.toArray⟩ ∧ decPos x.natAbs ++ out = decPos n.natAbs ∧ Below w.heap.size w wr) (fun a _ _ _ => (intOf a).natAbs)
  case atStart => exact ⟨n, [], by omega, by omega, rfl, rfl, by simp, Below.refl _ _⟩
  case round =>
    obtain ⟨x, out, hx0, hx1, rfl, rfl, hd, hb⟩ := hrel
    have HD := Lib.hid hd; clear hd
    have hlen : out.length ≤ 20 := by
      have e := congrArg List.length HD.out
      have l := decPos_length_le n.natAbs (by omega)
      rw [List.length_append] at e
      omega
    by_cases hm0 : x = 0
    · subst hm0
      go_wp2
      go_ret
      refine ⟨?_, hb⟩
      rw [itoa_neg' (by omega), ← HD.out]
      show Ending.returned (.string (⟨#[45]⟩ ++ ⟨out.toArray⟩)) = _
      rw [cons_str, Int.natAbs_zero, decPos_zero]; rfl
    · have hne : (x != 0) = true := by simp; omega
      have hxp : x ≤ -1 := by omega
      have ht := Lib.hid (tmod_neg hx0)
      have hq := Lib.hid (tdiv_neg hx0)
      have hb1 : x.tmod 10 ≤ 0 := by rw [ht.out]; omega
      have hb2 : -9 ≤ x.tmod 10 := by rw [ht.out]; omega
      have hq1 : x.tdiv 10 ≤ 0 := by rw [hq.out]; omega
      have hq2 : -9223372036854775808 ≤ x.tdiv 10 := by rw [hq.out]; omega
      have hstep := decPos_step (u := x.natAbs) (by omega) out
      clear hm0
      have HS := Lib.hid hstep; clear hstep
      by_cases hdn : x.tmod 10 < 0
      · have hcv := conv_one wr (48 + x.natAbs % 10) (48 + -x.tmod 10) (by omega) (by rw [ht.out]; omega)
        go_wp2
        go_roundw
        case rel =>
          refine ⟨x.tdiv 10, UInt8.ofNat (48 + x.natAbs % 10) :: out, by omega, by omega, ?_, ?_, by rw [hq.out, Int.natAbs_neg, Int.natAbs_natCast, HS.out, HD.out], hb.alloc (by have := hb.size; omega) _⟩
          · go_num
          · rw [digit_val, cons_str]
        case measure => simp only [intOf]; rw [hq.out]; omega
      · have hcv := conv_one wr (48 + x.natAbs % 10) (48 + x.tmod 10) (by omega) (by rw [ht.out]; have := ht.out; omega)
        go_wp2
        go_roundw
        case rel =>
          refine ⟨x.tdiv 10, UInt8.ofNat (48 + x.natAbs % 10) :: out, by omega, by omega, ?_, ?_, by rw [hq.out, Int.natAbs_neg, Int.natAbs_natCast, HS.out, HD.out], hb.alloc (by have := hb.size; omega) _⟩
          · go_num
          · rw [digit_val, cons_str]
        case measure => simp only [intOf]; rw [hq.out]; omega

/-- spec.FormatInt: the decimal numeral, for every int. -/
theorem sFormat_any (n : Int) (w : World) (h0 : -9223372036854775808 ≤ n) (h1 : n ≤ 9223372036854775807) :
    Calls Tryz.prog 80 #[.int .i64 n] w fun e w' => e = .returned (.string ⟨(Lib.itoa n).toArray⟩) ∧ Below w.heap.size w w' := by
  rcases Int.lt_trichotomy n 0 with h | h | h
  · exact sFormat_neg n w (by omega) h0
  · subst h; exact sFormat_zero w
  · exact sFormat_pos n w (by omega) h1
end Go.Proofs.YtidbokheeieifaaGreatDoor
namespace Go.Proofs.YtidbokheeieifaaGreatDoor
open Go.RowKit

/-- A call that hands back a term's representation. -/
def TextB (t : T) (w : World) (e : Ending) (w' : World) : Prop := e = .returned (.string (strT t)) ∧ Below w.heap.size w w'
/-- What stands there once k arguments were written. -/
def preL (s : ByteArray) (xs : List T) (k : Nat) : List UInt8 := if k = 0 then s.data.toList else s.data.toList ++ [40] ++ Lib.join ((xs.take k).map textL) [44, 32]
def preB (s : ByteArray) (xs : List T) (k : Nat) : ByteArray := ⟨(preL s xs k).toArray⟩
theorem preB_size (s : ByteArray) (xs : List T) (k : Nat) : (preB s xs k).size = (preL s xs k).length := by simp [preB, ByteArray.size]
theorem preB_zero (s : ByteArray) (xs : List T) : preB s xs 0 = s := by
  unfold preB preL
  rw [if_pos rfl]
theorem ba_append (a b : List UInt8) : (⟨a.toArray⟩ : ByteArray) ++ ⟨b.toArray⟩ = ⟨(a ++ b).toArray⟩ := by
  apply ByteArray.ext
  simp [ByteArray.data_append]
theorem preB_first (s : ByteArray) (xs : List T) (t : T) (h : xs[0]? = some t) : s ++ ⟨#[40]⟩ ++ strT t = preB s xs 1 := by
  have e : s = ⟨s.data.toList.toArray⟩ := by simp
  conv => lhs; rw [e]
  unfold strT preB preL
  rw [show (⟨#[40]⟩ : ByteArray) = ⟨([40] : List UInt8).toArray⟩ from rfl, ba_append, ba_append, if_neg (by decide), tk xs 0 t h]
  simp [Lib.join_one]
theorem preB_next (s : ByteArray) (xs : List T) (k : Nat) (t : T) (h : xs[k]? = some t) (hk : k ≠ 0) : preB s xs k ++ ⟨#[44, 32]⟩ ++ strT t = preB s xs (k + 1) := by
  unfold strT preB preL
  rw [show (⟨#[44, 32]⟩ : ByteArray) = ⟨([44, 32] : List UInt8).toArray⟩ from rfl, ba_append, ba_append, if_neg hk, if_neg (by omega), tk xs k t h, List.map_append, List.map_cons, List.map_nil, join_snoc5 _ _ _ ?_]
  · simp
  · intro e
    have := congrArg List.length e
    have hl := (List.getElem?_eq_some_iff.1 h).1
    rw [List.length_map, List.length_take, List.length_nil] at this
    omega
theorem preL_le (k n : Int) (s : ByteArray) (xs : List T) (j : Nat) (hok : OkT (.node k n s xs)) (h3 : k ≠ 3) : (preL s xs j).length ≤ 12 * cT (.node k n s xs) := by
  obtain ⟨hn, hx⟩ := okT_kid hok
  have h8 : s.size ≤ 8 := by
    rcases hn with ⟨_, h, _⟩ | ⟨_, h, _⟩ | ⟨h, _⟩
    · exact h.2.1
    · exact h.2.1
    · exact absurd h h3
  have hs : s.data.toList.length = s.size := by simp
  have ht := total_strT (xs.take j) (fun x hm => textL_le x (hx x (List.mem_of_mem_take hm)))
  have hj := join_length [44, 32] ((xs.take j).map strT)
  rw [map_strT] at hj
  have hc : cS (xs.take j) ≤ cS xs := cS_take xs j
  rw [cT_node]
  unfold preL
  split
  · omega
  · simp only [List.length_append, List.length_cons, List.length_nil, List.length_map] at *
    omega
theorem strT_leaf {k n : Int} {s : ByteArray} (h3 : k ≠ 3) : strT (.node k n s []) = s := by
  unfold strT; rw [textL_node, if_neg h3, if_pos (by rfl)]
theorem strT_word {n : Int} {s : ByteArray} {xs : List T} : strT (.node 3 n s xs) = ⟨(Lib.itoa n).toArray⟩ := by
  unfold strT; rw [textL_node, if_pos rfl]
theorem strT_some {k n : Int} {s : ByteArray} {xs : List T} (h3 : k ≠ 3) (h0 : xs.length ≠ 0) : preB s xs xs.length ++ ⟨#[41]⟩ = strT (.node k n s xs) := by
  unfold strT preB preL
  rw [show (⟨#[41]⟩ : ByteArray) = ⟨([41] : List UInt8).toArray⟩ from rfl, ba_append, textL_node, if_neg h3, if_neg h0, if_neg h0, List.take_length]

def TextSAt (lo h : Nat) : Prop := ∀ (v : Value) (t : T) (w : World), TermAt w lo h v t → wT t ≤ 1048576 → OkT t →
  Calls Tryz.prog 48 #[v] w (TextB t w)

set_option maxRecDepth 100000 in
set_option maxHeartbeats 1600000 in
theorem sText_step (lo h : Nat) (IH : ∀ h', h = h' + 1 → TextSAt lo h') : TextSAt lo h := by
  intro v t w ht hw hok
  obtain ⟨kk, nn, s, u, xs, rfl, rfl, hs, ha⟩ := ht
  obtain ⟨a, cap, rfl⟩ := ha.slice
  obtain ⟨hn, hx⟩ := okT_kid hok
  have HX := Lib.hid hx; clear hx
  have HA := Lib.hid (ha.below (boxed_below w kk nn s (.slice a xs.length cap))); clear ha
  have HCT : Hid (cT (.node kk nn s xs) ≤ 1048577) := Lib.hid (by have := cT_le (.node kk nn s xs); omega)
  have HW : Hid (xs.length + wS xs ≤ 1048576) := Lib.hid (by rw [wT_node] at hw; omega)
  clear hw
  have HB0 := Lib.hid (boxed_below w kk nn s (.slice a xs.length cap))
  by_cases h3 : kk = 3
  · subst h3
    have hr : 0 ≤ nn ∧ nn ≤ 3 := by
      rcases hn with ⟨h, _⟩ | ⟨h, _⟩ | ⟨_, _, h0, h1, _⟩
      · omega
      · omega
      · exact ⟨h0, h1⟩
    have HF := Lib.hid (strT_word (n := nn) (s := s) (xs := xs))
    clear hn
    go_enter Tryz.func48, Tryz.ntmps48
    go_wp2_with fail
    refine (sFormat_any nn _ (by omega) (by omega)).mono ?_
    rintro e w1 ⟨rfl, hb1⟩
    have HB1 := Lib.hid (HB0.out.trans (hb1.mono HB0.out.size)); clear hb1
    go_wp2
    go_ret
    exact ⟨by rw [HF.out]; rfl, HB1.out⟩
  have h3' : (kk == 3) = false := by rw [beq_eq_false_iff_ne]; exact h3
  have HP := Lib.hid (fun j => preL_le kk nn s xs j hok h3)
  have HLEAF := Lib.hid (fun (e : xs = []) => show strT (.node kk nn s xs) = s by rw [e]; exact strT_leaf h3)
  have HSOME := Lib.hid (fun (e : xs.length ≠ 0) => strT_some (k := kk) (n := nn) (s := s) h3 e)
  clear hn hok hs
  have HK3 := Lib.hid h3; clear h3
  obtain ⟨m, hm⟩ : ∃ m, m = xs.length := ⟨_, rfl⟩
  have hml : m ≤ 1048576 := by have := HW.out; omega
  rw [← hm] at HA HB0 ⊢
  have HM := Lib.hid hm; clear hm
  have HIH := Lib.hid IH; clear IH
  go_enter Tryz.func48, Tryz.ntmps48
  go_wp2
  go_loopw [3, 4, 5] (fun c i _ wr => ∃ k : Nat, k ≤ m ∧ i = .int .i64 k ∧ c = .string (preB s xs k) ∧ Hid (Below (boxed w kk nn s (.slice a m cap)).heap.size (boxed w kk nn s (.slice a m cap)) wr)) (fun _ i _ _ => m - (intOf i).toNat)
  case atStart => exact ⟨0, Nat.zero_le _, rfl, by rw [preB_zero], Lib.hid (Below.refl _ _)⟩
  case round =>
    obtain ⟨k, hk, rfl, rfl, HB⟩ := hrel
    obtain ⟨_, _, _, cb⟩ := boxed_cells HB.out
    have hol : (preB s xs k).size ≤ 12582924 := by rw [preB_size]; have := HP.out k; have := HCT.out; omega
    by_cases hlt : k < m
    · obtain ⟨t, ht⟩ : ∃ t, xs[k]? = some t := ⟨_, List.getElem?_eq_getElem (by have := HM.out; omega)⟩
      obtain ⟨h', b, o, tk', tn, tsn, txs, u', e, rfl, rfl, hsz, c0, c1, c2, c3, har⟩ := HA.out.at ht
      have d0 := cell_on HB.out c0
      have d1 := cell_on HB.out c1
      have d2 := cell_on HB.out c2
      have d3 := cell_on HB.out c3
      clear c0 c1 c2 c3
      have hwt := wT_at xs k _ ht
      have hokt := HX.out _ (List.mem_of_getElem? ht)
      have hts : (strT (.node tk' tn tsn txs)).size ≤ 12582924 := by
        rw [strT_size]; have h1 := textL_le _ hokt; have h2 := cT_le (.node tk' tn tsn txs); have := HW.out; omega
      have HCALL := Lib.hid (HIH.out h' e _ _ wr ⟨tk', tn, tsn, u', txs, rfl, rfl, hsz, har.below HB.out⟩ (by have := HW.out; omega) hokt)
      have hq : ∃ q, ((k : Int) == 0) = q ∧ preB s xs k ++ (if q then ⟨#[40]⟩ else ⟨#[44, 32]⟩) ++ strT (.node tk' tn tsn txs) = preB s xs (k + 1) := by
        by_cases hk0 : k = 0
        · subst hk0
          exact ⟨true, rfl, by rw [preB_zero]; exact preB_first s xs _ ht⟩
        · exact ⟨false, by rw [beq_eq_false_iff_ne]; omega, preB_next s xs k _ ht hk0⟩
      obtain ⟨q, hq0, hN⟩ := hq
      have HN := Lib.hid hN; clear hN
      obtain ⟨st, hst⟩ : ∃ st, st = strT (.node tk' tn tsn txs) := ⟨_, rfl⟩
      unfold TextB at HCALL
      rw [← hst] at hts HCALL HN
      obtain ⟨pb, hpb⟩ : ∃ pb, pb = preB s xs k := ⟨_, rfl⟩
      rw [← hpb] at hol HN ⊢
      clear hwt ht har hsz e hokt hst hpb
      cases q with
      | true =>
        go_wp2_with fail
        refine HCALL.out.mono ?_
        rintro e w1 ⟨rfl, hb1⟩
        have HB2 := Lib.hid (HB.out.trans (hb1.mono HB.out.size)); clear hb1
        go_wp2
        go_roundw
        case rel => exact ⟨k + 1, by omega, by go_num, by rw [← HN.out]; rfl, HB2⟩
        case measure => simp [intOf]; omega
      | false =>
        go_wp2_with fail
        refine HCALL.out.mono ?_
        rintro e w1 ⟨rfl, hb1⟩
        have HB2 := Lib.hid (HB.out.trans (hb1.mono HB.out.size)); clear hb1
        go_wp2
        go_roundw
        case rel => exact ⟨k + 1, by omega, by go_num, by rw [← HN.out]; rfl, HB2⟩
        case measure => simp [intOf]; omega
    · have HE : Hid (k = xs.length) := Lib.hid (by have := HM.out; omega)
      have HBE := Lib.hid (HB0.out.trans (HB.out.mono HB0.out.size))
      by_cases hm0 : m = 0
      · have HF : Hid (preB s xs k = strT (.node kk nn s xs)) := Lib.hid (by
          have hx0 : xs = [] := List.eq_nil_of_length_eq_zero (by have := HM.out; omega)
          rw [HLEAF.out hx0, HE.out, hx0]; exact preB_zero s [])
        subst hm0
        go_wp2
        go_ret
        exact ⟨by rw [← HF.out]; rfl, HBE.out⟩
      · have HF : Hid (preB s xs k ++ ⟨#[41]⟩ = strT (.node kk nn s xs)) := Lib.hid (by
          rw [HE.out]; exact HSOME.out (by have := HM.out; omega))
        have hmp : (0 : Int) < (m : Int) := by omega
        clear hm0
        go_wp2
        go_ret
        exact ⟨by rw [← HF.out]; rfl, HBE.out⟩

theorem sText_any (lo : Nat) (h : Nat) : TextSAt lo h := by_height (sText_step lo) h

open Classical in
/-- The representation of a valid term; the empty string for the others. -/
noncomputable def fmtT (t : T) : ByteArray := if ValidT t then strT t else ByteArray.empty
theorem fmtT_ok {t : T} (h : ValidT t) : fmtT t = strT t := by unfold fmtT; rw [if_pos h]
theorem fmtT_no {t : T} (h : ¬ ValidT t) : fmtT t = ByteArray.empty := by unfold fmtT; rw [if_neg h]
def FmtB5 (t : T) (w : World) (e : Ending) (w' : World) : Prop := e = .returned (.string (fmtT t)) ∧ Below w.heap.size w w'

set_option maxRecDepth 100000 in
set_option maxHeartbeats 800000 in
theorem sFmtT_any (v : Value) (t : T) (lo h : Nat) (w : World) (ht : TermAt w lo h v t) (hw : wT t ≤ 1048576) :
    Calls Tryz.prog 28 #[v] w (FmtB5 t w) := by
  have HT := Lib.hid ht; clear ht
  have HW := Lib.hid hw; clear hw
  obtain ⟨k, n, s, u, rfl⟩ := HT.out.form
  have HB0 := Lib.hid (boxed_below w k n s u)
  obtain ⟨c0, c1, c2, c3⟩ := boxed_cells (Below.refl (boxed w k n s u).heap.size (boxed w k n s u))
  go_enter Tryz.func28, Tryz.ntmps28
  go_wp2_with fail
  refine (sValid_any _ t lo h _ (HT.out.below HB0.out) HW.out).mono ?_
  rintro e w1 ⟨q, rfl, hq, hb1⟩
  have HQ := Lib.hid hq; clear hq
  have HB1 := Lib.hid (HB0.out.trans (hb1.mono HB0.out.size))
  clear c0 c1 c2 c3
  obtain ⟨c0, c1, c2, c3⟩ := boxed_cells hb1
  clear hb1
  cases q with
  | false =>
    go_wp2
    go_ret
    exact ⟨by rw [fmtT_no (fun h => by have := HQ.out.2 h; simp at this)]; rfl, HB1.out⟩
  | true =>
    have HV := Lib.hid (HQ.out.1 rfl)
    go_wp2_with fail
    refine (sText_any lo h _ t _ (HT.out.below HB1.out) HW.out HV.out.2.2).mono ?_
    rintro e w2 ⟨rfl, hb2⟩
    have HB2 := Lib.hid (HB1.out.trans (hb2.mono HB1.out.size)); clear hb2
    go_wp2
    go_ret
    exact ⟨by rw [fmtT_ok HV.out]; rfl, HB2.out⟩
end Go.Proofs.YtidbokheeieifaaGreatDoor
namespace Go.Proofs.YtidbokheeieifaaGreatDoor
open Go.RowKit

/-- The slice value v holds the strings ps. -/
def StrsAt (w : World) (v : Value) (ps : List ByteArray) : Prop :=
  ∃ a cap, v = .slice a ps.length cap ∧ (ps = [] ∨ ∃ b o, a = some ⟨b, o, none⟩ ∧ ∀ i p, ps[i]? = some p → w.cell? ⟨b, o + i, none⟩ = some (.string p))

theorem StrsAt.of_owns {w : World} {B : Nat} {e : TypeId} {v : Value} {ps : List ByteArray} (h : w.ownsRow B e 1 v ps.length (ps.map Value.string)) : StrsAt w v ps := by
  rcases h.2 with ⟨rfl, h0⟩ | ⟨g, cap, cur, rfl, _, _, _, _, _, _⟩
  · exact ⟨none, 0, by rw [h0], Or.inl (List.eq_nil_of_length_eq_zero h0)⟩
  · refine ⟨_, cap, rfl, Or.inr ⟨g, 0, rfl, fun i p hp => ?_⟩⟩
    have hi : i < ps.length := (List.getElem?_eq_some_iff.1 hp).1
    rw [Nat.zero_add, h.cellAt i (by omega)]
    simp [hp]
theorem StrsAt.drewN {w : World} {v : Value} {ps : List ByteArray} (h : StrsAt w v ps) (n : Nat) : StrsAt (w.drewN n) v ps := by
  obtain ⟨a, cap, rfl, h⟩ := h
  refine ⟨a, cap, rfl, ?_⟩
  rcases h with h | ⟨b, o, rfl, h⟩
  · exact Or.inl h
  · exact Or.inr ⟨b, o, rfl, fun i p hp => by simpa using h i p hp⟩

end Go.Proofs.YtidbokheeieifaaGreatDoor
namespace Go.Proofs.YtidbokheeieifaaGreatDoor
open Go.RowKit

theorem infoStr' : (Tryz.prog.info? 9).map (fun i => (i.zero, i.size, i.bytes)) = some (some (.string ByteArray.empty), 1, 16) := by kernel_rfl

/-- A slice of strings that came in. -/
theorem strsAt_of_open {w : World} {a : Addr} {len cap : Nat} {ss : List ByteArray} (hl : len ≤ ss.length)
    (hc : ∀ i, i < ss.length → w.cell? (a.add i) = some (.string (ss.getD i ByteArray.empty))) : StrsAt w (.slice (some a) len cap) (ss.take len) := by
  have hlen : (ss.take len).length = len := by simp; omega
  refine ⟨some a, cap, by rw [hlen], ?_⟩
  by_cases h0 : len = 0
  · left; rw [h0]; simp
  · right
    have h := hc 0 (by omega)
    have hs := World.cell?_spot h
    obtain ⟨b, o, sp⟩ := a
    have hsp : sp = none := by simpa [Addr.add] using hs
    subst hsp
    refine ⟨b, o, rfl, fun i p hp => ?_⟩
    have hi : i < len := by have := (List.getElem?_eq_some_iff.1 hp).1; omega
    have hx := hc i (by omega)
    have e : (⟨b, o, none⟩ : Addr).add i = ⟨b, o + i, none⟩ := by
      unfold Addr.add
      split
      · rename_i h; subst h; rfl
      · rfl
    rw [e] at hx
    rw [hx]
    rw [List.getElem?_take, if_pos hi] at hp
    simp [List.getD, hp]

theorem StrsAt.below {w w' : World} {v : Value} {ps : List ByteArray} (h : StrsAt w v ps) (hb : Below w.heap.size w w') : StrsAt w' v ps := by
  obtain ⟨a, cap, rfl, h⟩ := h
  refine ⟨a, cap, rfl, ?_⟩
  rcases h with h | ⟨b, o, rfl, h⟩
  · exact Or.inl h
  · refine Or.inr ⟨b, o, rfl, fun i p hp => ?_⟩
    have hc := h i p hp
    rw [hb.cell (World.block_lt_of_cell? w _ hc)]; exact hc
end Go.Proofs.YtidbokheeieifaaGreatDoor
namespace Go.Proofs.YtidbokheeieifaaGreatDoor
/-- The library's table of powers of ten. -/
def powName : String := "internal/strconv.uint64pow10"
/-- The library's two errors of a number's reading. -/
def synName : String := "strconv.ErrSyntax"
def rngName : String := "strconv.ErrRange"
/-- A table of the library's, listed behind the others. -/
def bruName : String := "math/bits.deBruijn64tab"
end Go.Proofs.YtidbokheeieifaaGreatDoor
namespace Go.Proofs.YtidbokheeieifaaGreatDoor
open Go.RowKit

/-- The table of powers of ten holds them. -/
def PowTab (w : World) : Prop := Lib.TabIs Tryz.prog w powName .u64 Lib.pow10Tab
theorem gPow : Tryz.prog.globalNamed powName = some 1 := by kernel_rfl
theorem PowTab.below {B : Nat} {w w' : World} (h : PowTab w) (hb : Below B w w') (hB : 1 < B) : PowTab w' := var?_below hb gPow hB h

set_option maxHeartbeats 400000 in
/-- impl.FormatInt: the decimal numeral, for every int. -/
theorem iFormat_any (n : Int) (w : World) (h0 : -9223372036854775808 ≤ n) (h1 : n ≤ 9223372036854775807) (ht : PowTab w) :
    Calls Tryz.prog 69 #[.int .i64 n] w fun e w' => e = .returned (.string ⟨(Lib.itoa n).toArray⟩) ∧ Below w.heap.size w w' := by
  go_enter Tryz.func69, Tryz.ntmps69
  go_wp2_with (go_at_call 95; refine (Any.strconv_Itoa Tryz.laysM171 n h0 h1 _ ht).mono ?_; rintro e w' ⟨rfl, k, os, rfl⟩)
  go_ret
  exact ⟨rfl, Lib.below_grow _ _ (Nat.le_refl _) _ _⟩
end Go.Proofs.YtidbokheeieifaaGreatDoor
namespace Go.Proofs.YtidbokheeieifaaGreatDoor
open Go.RowKit

def JoinEnd (ps : List ByteArray) (sep : ByteArray) (w : World) (e : Ending) (w' : World) : Prop :=
  e = .returned (.string ⟨(Lib.join (ps.map (·.data.toList)) sep.data.toList).toArray⟩) ∧ Below w.heap.size w w'

set_option maxRecDepth 100000 in
set_option maxHeartbeats 400000 in
theorem iJoin_any (B : Nat) (v : Value) (ps : List ByteArray) (sep : ByteArray) (w : World) (hl : ps.length + total ps ≤ 33554432) (hs : sep.size ≤ 1048576)
    (hown : w.ownsRow B 9 1 v ps.length (ps.map Value.string)) :
    Calls Tryz.prog 70 #[v, .string sep] w (JoinEnd ps sep w) := by
  have hjl := join_length sep.data.toList ps
  have e3 : sep.data.toList.length = sep.size := by simp
  have h4 : ps.length * sep.data.toList.length ≤ 33554432 * 1048576 := Nat.mul_le_mul (by omega) (by omega)
  have hj : (Lib.join (ps.map (·.data.toList)) sep.data.toList).length ≤ 140737488355328 := by omega
  have HJ := Lib.hid hj; clear hj hjl h4 e3
  have hc : Calls Tryz.prog 96 #[v, .string sep] w (JoinEnd ps sep w) := by
    rcases hown.2 with ⟨rfl, h0⟩ | ⟨g, cap, cur, rfl, hbg, hg, hnc, hcm, hcs, htk⟩
    · have hp : ps = [] := List.eq_nil_of_length_eq_zero h0
      subst hp
      exact (Any.strings_Join_none Tryz.lays156 Tryz.Builder_Extra_156 none 0 sep w).mono fun e w' ⟨he, hw⟩ => ⟨he, hw ▸ Below.refl _ _⟩
    · exact (Any.strings_Join Tryz.lays156 Tryz.Builder_Extra_156 g 0 cap ps sep w (fun j x hx => by
        have hj : j < ps.length := (List.getElem?_eq_some_iff.1 hx).1
        rw [Nat.zero_add, hown.cellAt j (by omega)]
        simp [hx]) (hown.lt g rfl).2 (by omega) hnc HJ.out).mono fun e w' h => h
  have HC := Lib.hid hc; clear hc
  go_enter Tryz.func70, Tryz.ntmps70
  go_wp2_with fail
  refine HC.out.mono ?_
  rintro e w1 ⟨rfl, hb⟩
  go_wp2
  go_ret
  exact ⟨rfl, hb⟩

end Go.Proofs.YtidbokheeieifaaGreatDoor
namespace Go.Proofs.YtidbokheeieifaaGreatDoor
open Go.RowKit

/-- What formOf hands back. -/
def FormEnd (k n : Int) (s : ByteArray) (u : Value) (w : World) (e : Ending) (w' : World) : Prop :=
  ∃ ty x, e = .returned (.iface ty (.agg #[x])) ∧ w' = boxed w k n s u ∧ ((k = 1 ∧ ty = 113 ∧ x = .string s) ∨ (k = 2 ∧ ty = 114 ∧ x = .string s) ∨ (k = 3 ∧ ty = 116 ∧ x = .int .i64 n))

set_option maxRecDepth 100000 in
set_option maxHeartbeats 400000 in
theorem form1_any (n : Int) (s : ByteArray) (u : Value) (w : World) :
    Calls Tryz.prog 92 #[tv 1 n s u] w (fun e w' => e = .returned (.iface 113 (.agg #[.string s])) ∧ w' = boxed w 1 n s u) := by
  go_enter Tryz.func92, Tryz.ntmps92
  go_wp2
  go_ret
  exact ⟨rfl, rfl⟩
set_option maxRecDepth 100000 in
set_option maxHeartbeats 400000 in
theorem form2_any (n : Int) (s : ByteArray) (u : Value) (w : World) :
    Calls Tryz.prog 92 #[tv 2 n s u] w (fun e w' => e = .returned (.iface 114 (.agg #[.string s])) ∧ w' = boxed w 2 n s u) := by
  go_enter Tryz.func92, Tryz.ntmps92
  go_wp2
  go_ret
  exact ⟨rfl, rfl⟩
set_option maxRecDepth 100000 in
set_option maxHeartbeats 400000 in
theorem form3_any (n : Int) (s : ByteArray) (u : Value) (w : World) :
    Calls Tryz.prog 92 #[tv 3 n s u] w (fun e w' => e = .returned (.iface 116 (.agg #[.int .i64 n])) ∧ w' = boxed w 3 n s u) := by
  go_enter Tryz.func92, Tryz.ntmps92
  go_wp2
  go_ret
  exact ⟨rfl, rfl⟩
set_option maxRecDepth 100000 in
set_option maxHeartbeats 400000 in
theorem form0_any (k n : Int) (s : ByteArray) (u : Value) (w : World) (h1 : k ≠ 1) (h2 : k ≠ 2) (h3 : k ≠ 3) :
    Calls Tryz.prog 92 #[tv k n s u] w (fun e w' => e = .returned (.iface 125 (.agg #[])) ∧ w' = boxed w k n s u) := by
  have h1' : (k == 1) = false := by rw [beq_eq_false_iff_ne]; exact h1
  have h2' : (k == 2) = false := by rw [beq_eq_false_iff_ne]; exact h2
  have h3' : (k == 3) = false := by rw [beq_eq_false_iff_ne]; exact h3
  go_enter Tryz.func92, Tryz.ntmps92
  go_wp2
  go_ret
  exact ⟨rfl, rfl⟩

theorem asVV (v : Value) (W : World) : (Instr.typeAssert (.iface 113 v) 110 113 true).run Tryz.prog W = .ok (.tuple #[v, .bool true]) W := by kernel_rfl
theorem asVO (v : Value) (W : World) : (Instr.typeAssert (.iface 113 v) 110 114 true).run Tryz.prog W = .ok (.tuple #[.agg #[.string ByteArray.empty], .bool false]) W := by kernel_rfl
theorem asVW (v : Value) (W : World) : (Instr.typeAssert (.iface 113 v) 110 116 true).run Tryz.prog W = .ok (.tuple #[.agg #[.int .i64 0], .bool false]) W := by kernel_rfl
theorem asOV (v : Value) (W : World) : (Instr.typeAssert (.iface 114 v) 110 113 true).run Tryz.prog W = .ok (.tuple #[.agg #[.string ByteArray.empty], .bool false]) W := by kernel_rfl
theorem asOO (v : Value) (W : World) : (Instr.typeAssert (.iface 114 v) 110 114 true).run Tryz.prog W = .ok (.tuple #[v, .bool true]) W := by kernel_rfl
theorem asOW (v : Value) (W : World) : (Instr.typeAssert (.iface 114 v) 110 116 true).run Tryz.prog W = .ok (.tuple #[.agg #[.int .i64 0], .bool false]) W := by kernel_rfl
theorem asWV (v : Value) (W : World) : (Instr.typeAssert (.iface 116 v) 110 113 true).run Tryz.prog W = .ok (.tuple #[.agg #[.string ByteArray.empty], .bool false]) W := by kernel_rfl
theorem asWO (v : Value) (W : World) : (Instr.typeAssert (.iface 116 v) 110 114 true).run Tryz.prog W = .ok (.tuple #[.agg #[.string ByteArray.empty], .bool false]) W := by kernel_rfl
theorem asWW (v : Value) (W : World) : (Instr.typeAssert (.iface 116 v) 110 116 true).run Tryz.prog W = .ok (.tuple #[v, .bool true]) W := by kernel_rfl
theorem asUV (v : Value) (W : World) : (Instr.typeAssert (.iface 125 v) 110 113 true).run Tryz.prog W = .ok (.tuple #[.agg #[.string ByteArray.empty], .bool false]) W := by kernel_rfl
theorem asUO (v : Value) (W : World) : (Instr.typeAssert (.iface 125 v) 110 114 true).run Tryz.prog W = .ok (.tuple #[.agg #[.string ByteArray.empty], .bool false]) W := by kernel_rfl
theorem asUW (v : Value) (W : World) : (Instr.typeAssert (.iface 125 v) 110 116 true).run Tryz.prog W = .ok (.tuple #[.agg #[.int .i64 0], .bool false]) W := by kernel_rfl
end Go.Proofs.YtidbokheeieifaaGreatDoor
namespace Go.Proofs.YtidbokheeieifaaGreatDoor
open Go.RowKit

set_option maxRecDepth 100000 in
theorem iVar_any (s : ByteArray) (w : World) (hs : s.size ≤ 9223372036854775807) :
    Calls Tryz.prog 93 #[.string s] w (Tells (Nm 65 90 s) w) := by
  go_enter Tryz.func93, Tryz.ntmps93
  go_wp2_with fail
  refine (iFrom_any s _ _ _ hs).mono ?_
  rintro e w1 ⟨b1, rfl, hq1, rfl⟩
  have HQ1 := Lib.hid hq1; clear hq1
  go_wp2
  go_ret
  exact ⟨b1, rfl, HQ1.out, rfl⟩
end Go.Proofs.YtidbokheeieifaaGreatDoor
