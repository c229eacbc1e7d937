/-
  Small facts on one byte as a string and on strings put together. No walk.
  spec.FormatInt returns the decimal numeral of its argument, for every int.
  spec.l5Text and spec.FormatTerm return a term's representation.
-/
import Derived.Test.YtooiiomfahomjaaGreatDoorRows
import Derived.Test.YtooiiomfahomjaaGreatDoorQ11
import Derived.WalkKit
import Derived.WalkSpells
import Derived.WalkLawsBesides
import Derived.Laws.IdiomStrings
import Derived.Lib.Hide
namespace Go.Proofs.YtooiiomfahomjaaGreatDoor
open Go.RowKit

theorem ret_str {a b : List UInt8} (h : a = b) : Ending.returned (.string ⟨a.toArray⟩) = .returned (.string ⟨b.toArray⟩) := by rw [h]

/-- 'string([]byte{c})'. -/
theorem conv_one (W : World) (k : Nat) (c : Int) (hk : k < 256) (hc : c = (k : Int)) :
    (convert 22 9 (.slice (some ⟨W.heap.size, 0, none⟩) 1 1)).run Tryz.prog (W.alloc (.cells #[.int .u8 c] 5)) = .ok (.string ⟨#[UInt8.ofNat k]⟩) (W.alloc (.cells #[.int .u8 c] 5)) := by
  have h := run_convert_bytes_back (P := Tryz.prog) (W.alloc (.cells #[.int .u8 c] 5)) 22 9 5 ⟨W.heap.size, 0, none⟩ 1 [UInt8.ofNat k] Tryz.underlying22 Tryz.underlying5 Tryz.underlying9 (fun j hj => by
    have hj0 : j = 0 := by simpa using hj
    subst hj0
    have := World.cell?_alloc_mark W #[.int .u8 c] 5 (0, 0) 0
    show (W.alloc (.cells #[.int .u8 c] 5)).cell? ⟨W.heap.size, 0, none⟩ = _
    rw [this, hc]
    simp
    omega)
  exact h

theorem cons_str (x : UInt8) (out : List UInt8) : (⟨#[x]⟩ : ByteArray) ++ ⟨out.toArray⟩ = ⟨(x :: out).toArray⟩ := by
  apply ByteArray.ext
  simp [ByteArray.data_append]
theorem digit_val (k : Nat) : (48 : UInt8) + UInt8.ofNat k = UInt8.ofNat (48 + k) := by
  rw [UInt8.ofNat_add]; rfl
end Go.Proofs.YtooiiomfahomjaaGreatDoor
namespace Go.Proofs.YtooiiomfahomjaaGreatDoor
open Go.RowKit
set_option maxHeartbeats 400000 in
theorem sFormat_zero (w : World) :
    Calls Tryz.prog 38 #[.int .i64 0] w fun e w' => e = .returned (.string ⟨(Lib.itoa 0).toArray⟩) ∧ Below w.heap.size w w' := by
  go_enter Tryz.func38, Tryz.ntmps38
  have hz : ((0 : Int) == 0) = true := rfl
  go_wp2
  go_ret
  exact ⟨by rw [itoa_zero]; rfl, Below.refl _ _⟩

set_option maxRecDepth 100000 in
set_option maxHeartbeats 400000 in
theorem sFormat_pos (n : Int) (w : World) (h0 : 1 ≤ n) (h1 : n ≤ 9223372036854775807) :
    Calls Tryz.prog 38 #[.int .i64 n] w fun e w' => e = .returned (.string ⟨(Lib.itoa n).toArray⟩) ∧ Below w.heap.size w w' := by
  have hz : (n == 0) = false := by simp; omega
  have hl : decide (n < 0) = false := by simp; omega
  go_enter Tryz.func38, Tryz.ntmps38
  go_wp2
  go_loopw [0, 4] (fun a o wr => ∃ (m : Nat) (out : List UInt8), (m : Int) ≤ 9223372036854775807 ∧ a = .int .i64 m ∧ o = .string ⟨out.toArray⟩ ∧ decPos m ++ out = decPos n.toNat ∧ Below w.heap.size w wr) (fun a _ _ => (intOf a).toNat)
  case atStart => exact ⟨n.toNat, [], by omega, by congr 1; omega, rfl, by simp, Below.refl _ _⟩
  case round =>
    obtain ⟨m, out, hm, rfl, rfl, hd, hb⟩ := hrel
    have HD := Lib.hid hd; clear hd
    by_cases hm0 : m = 0
    · subst hm0
      go_wp2
      go_ret
      refine ⟨ret_str ?_, hb⟩
      rw [itoa_pos (by omega), ← HD.out, decPos_zero]; rfl
    · have hne : ((m : Int) != 0) = true := by simp; omega
      have hp : (0 : Int) ≤ (m : Int) % 10 := by omega
      have hp2 : (m : Int) % 10 ≤ 9 := by omega
      have hcv := conv_one wr (48 + m % 10) (48 + (m : Int) % 10) (by omega) (by omega)
      have hstep := decPos_step (u := m) hm0 out
      have hlen : out.length ≤ 20 := by
        have e := congrArg List.length HD.out
        have l := decPos_length_le n.toNat (by omega)
        rw [List.length_append] at e
        omega
      have hmp : 1 ≤ m := by omega
      clear hm0
      have HS := Lib.hid hstep; clear hstep
      go_wp2
      go_roundw
      case rel =>
        refine ⟨m / 10, UInt8.ofNat (48 + m % 10) :: out, by omega, by go_num, ?_, by rw [HS.out, HD.out], hb.alloc (by have := hb.size; omega) _⟩
        rw [digit_val, cons_str]
      case measure => simp [intOf]; omega

theorem tmod_neg {x : Int} (h : x ≤ 0) : x.tmod 10 = -((x.natAbs % 10 : Nat) : Int) := by
  obtain ⟨u, rfl⟩ : ∃ u : Nat, x = -(u : Int) := ⟨x.natAbs, by omega⟩
  rw [Int.neg_tmod, Int.natAbs_neg, Int.natAbs_natCast, Int.tmod_eq_emod_of_nonneg (by omega)]
  omega
theorem tdiv_neg {x : Int} (h : x ≤ 0) : x.tdiv 10 = -((x.natAbs / 10 : Nat) : Int) := by
  obtain ⟨u, rfl⟩ : ∃ u : Nat, x = -(u : Int) := ⟨x.natAbs, by omega⟩
  rw [Int.neg_tdiv, Int.natAbs_neg, Int.natAbs_natCast, Int.tdiv_eq_ediv_of_nonneg (by omega)]
  omega

set_option maxRecDepth 100000 in
set_option maxHeartbeats 800000 in
theorem sFormat_neg (n : Int) (w : World) (h0 : n ≤ -1) (h1 : -9223372036854775808 ≤ n) :
    Calls Tryz.prog 38 #[.int .i64 n] w fun e w' => e = .returned (.string ⟨(Lib.itoa n).toArray⟩) ∧ Below w.heap.size w w' := by
  have hz : (n == 0) = false := by simp; omega
  have hl : decide (n < 0) = true := by simp; omega
  go_enter Tryz.func38, Tryz.ntmps38
  go_wp2
  go_loopw [0, 4, 5] (fun a o _ wr => ∃ (x : Int) (out : List UInt8), x ≤ 0 ∧ -9223372036854775808 ≤ x ∧ a = .int .i64 x ∧ o = .string ⟨out.toArray⟩ ∧ decPos x.natAbs ++ out = decPos n.natAbs ∧ Below w.heap.size w wr) (fun a _ _ _ => (intOf a).natAbs)
  case atStart => exact ⟨n, [], by omega, by omega, rfl, rfl, by simp, Below.refl _ _⟩
  case round =>
    obtain ⟨x, out, hx0, hx1, rfl, rfl, hd, hb⟩ := hrel
    have HD := Lib.hid hd; clear hd
    have hlen : out.length ≤ 20 := by
      have e := congrArg List.length HD.out
      have l := decPos_length_le n.natAbs (by omega)
      rw [List.length_append] at e
      omega
    by_cases hm0 : x = 0
    · subst hm0
      go_wp2
      go_ret
      refine ⟨?_, hb⟩
      rw [itoa_neg' (by omega), ← HD.out]
      show Ending.returned (.string (⟨#[45]⟩ ++ ⟨out.toArray⟩)) = _
      rw [cons_str, Int.natAbs_zero, decPos_zero]; rfl
    · have hne : (x != 0) = true := by simp; omega
      have hxp : x ≤ -1 := by omega
      have ht := Lib.hid (tmod_neg hx0)
      have hq := Lib.hid (tdiv_neg hx0)
      have hb1 : x.tmod 10 ≤ 0 := by rw [ht.out]; omega
      have hb2 : -9 ≤ x.tmod 10 := by rw [ht.out]; omega
      have hq1 : x.tdiv 10 ≤ 0 := by rw [hq.out]; omega
      have hq2 : -9223372036854775808 ≤ x.tdiv 10 := by rw [hq.out]; omega
      have hstep := decPos_step (u := x.natAbs) (by omega) out
      clear hm0
      have HS := Lib.hid hstep; clear hstep
      by_cases hdn : x.tmod 10 < 0
      · have hcv := conv_one wr (48 + x.natAbs % 10) (48 + -x.tmod 10) (by omega) (by rw [ht.out]; omega)
        go_wp2
        go_roundw
        case rel =>
          refine ⟨x.tdiv 10, UInt8.ofNat (48 + x.natAbs % 10) :: out, by omega, by omega, ?_, ?_, by rw [hq.out, Int.natAbs_neg, Int.natAbs_natCast, HS.out, HD.out], hb.alloc (by have := hb.size; omega) _⟩
          · go_num
          · rw [digit_val, cons_str]
        case measure => simp only [intOf]; rw [hq.out]; omega
      · have hcv := conv_one wr (48 + x.natAbs % 10) (48 + x.tmod 10) (by omega) (by rw [ht.out]; have := ht.out; omega)
        go_wp2
        go_roundw
        case rel =>
          refine ⟨x.tdiv 10, UInt8.ofNat (48 + x.natAbs % 10) :: out, by omega, by omega, ?_, ?_, by rw [hq.out, Int.natAbs_neg, Int.natAbs_natCast, HS.out, HD.out], hb.alloc (by have := hb.size; omega) _⟩
          · go_num
          · rw [digit_val, cons_str]
        case measure => simp only [intOf]; rw [hq.out]; omega

/-- spec.FormatInt: the decimal numeral, for every int. -/
theorem sFormat_any (n : Int) (w : World) (h0 : -9223372036854775808 ≤ n) (h1 : n ≤ 9223372036854775807) :
    Calls Tryz.prog 38 #[.int .i64 n] w fun e w' => e = .returned (.string ⟨(Lib.itoa n).toArray⟩) ∧ Below w.heap.size w w' := by
  rcases Int.lt_trichotomy n 0 with h | h | h
  · exact sFormat_neg n w (by omega) h0
  · subst h; exact sFormat_zero w
  · exact sFormat_pos n w (by omega) h1
end Go.Proofs.YtooiiomfahomjaaGreatDoor
namespace Go.Proofs.YtooiiomfahomjaaGreatDoor
open Go.RowKit

/-- A call that hands back a term's representation. -/
def TextB (t : T) (w : World) (e : Ending) (w' : World) : Prop := e = .returned (.string (strT t)) ∧ Below w.heap.size w w'
/-- What stands there once k arguments were written. -/
def preL (s : ByteArray) (xs : List T) (k : Nat) : List UInt8 := if k = 0 then s.data.toList else s.data.toList ++ [40] ++ Lib.join ((xs.take k).map textL) [44, 32]
def preB (s : ByteArray) (xs : List T) (k : Nat) : ByteArray := ⟨(preL s xs k).toArray⟩
theorem preB_size (s : ByteArray) (xs : List T) (k : Nat) : (preB s xs k).size = (preL s xs k).length := by simp [preB, ByteArray.size]
theorem preB_zero (s : ByteArray) (xs : List T) : preB s xs 0 = s := by
  unfold preB preL
  rw [if_pos rfl]
theorem ba_append (a b : List UInt8) : (⟨a.toArray⟩ : ByteArray) ++ ⟨b.toArray⟩ = ⟨(a ++ b).toArray⟩ := by
  apply ByteArray.ext
  simp [ByteArray.data_append]
theorem preB_first (s : ByteArray) (xs : List T) (t : T) (h : xs[0]? = some t) : s ++ ⟨#[40]⟩ ++ strT t = preB s xs 1 := by
  have e : s = ⟨s.data.toList.toArray⟩ := by simp
  conv => lhs; rw [e]
  unfold strT preB preL
  rw [show (⟨#[40]⟩ : ByteArray) = ⟨([40] : List UInt8).toArray⟩ from rfl, ba_append, ba_append, if_neg (by decide), tk xs 0 t h]
  simp [Lib.join_one]
theorem preB_next (s : ByteArray) (xs : List T) (k : Nat) (t : T) (h : xs[k]? = some t) (hk : k ≠ 0) : preB s xs k ++ ⟨#[44, 32]⟩ ++ strT t = preB s xs (k + 1) := by
  unfold strT preB preL
  rw [show (⟨#[44, 32]⟩ : ByteArray) = ⟨([44, 32] : List UInt8).toArray⟩ from rfl, ba_append, ba_append, if_neg hk, if_neg (by omega), tk xs k t h, List.map_append, List.map_cons, List.map_nil, join_snoc5 _ _ _ ?_]
  · simp
  · intro e
    have := congrArg List.length e
    have hl := (List.getElem?_eq_some_iff.1 h).1
    rw [List.length_map, List.length_take, List.length_nil] at this
    omega
theorem preL_le (k n : Int) (s : ByteArray) (xs : List T) (j : Nat) (hok : OkT (.node k n s xs)) (h3 : k ≠ 3) : (preL s xs j).length ≤ 12 * cT (.node k n s xs) := by
  obtain ⟨hn, hx⟩ := okT_kid hok
  have h8 : s.size ≤ 8 := by
    rcases hn with ⟨_, h, _⟩ | ⟨_, h, _⟩ | ⟨h, _⟩
    · exact h.2.1
    · exact h.2.1
    · exact absurd h h3
  have hs : s.data.toList.length = s.size := by simp
  have ht := total_strT (xs.take j) (fun x hm => textL_le x (hx x (List.mem_of_mem_take hm)))
  have hj := join_length [44, 32] ((xs.take j).map strT)
  rw [map_strT] at hj
  have hc : cS (xs.take j) ≤ cS xs := cS_take xs j
  rw [cT_node]
  unfold preL
  split
  · omega
  · simp only [List.length_append, List.length_cons, List.length_nil, List.length_map] at *
    omega
theorem strT_leaf {k n : Int} {s : ByteArray} (h3 : k ≠ 3) : strT (.node k n s []) = s := by
  unfold strT; rw [textL_node, if_neg h3, if_pos (by rfl)]
theorem strT_word {n : Int} {s : ByteArray} {xs : List T} : strT (.node 3 n s xs) = ⟨(Lib.itoa n).toArray⟩ := by
  unfold strT; rw [textL_node, if_pos rfl]
theorem strT_some {k n : Int} {s : ByteArray} {xs : List T} (h3 : k ≠ 3) (h0 : xs.length ≠ 0) : preB s xs xs.length ++ ⟨#[41]⟩ = strT (.node k n s xs) := by
  unfold strT preB preL
  rw [show (⟨#[41]⟩ : ByteArray) = ⟨([41] : List UInt8).toArray⟩ from rfl, ba_append, textL_node, if_neg h3, if_neg h0, if_neg h0, List.take_length]

def TextSAt (lo h : Nat) : Prop := ∀ (v : Value) (t : T) (w : World), TermAt w lo h v t → wT t ≤ 1048576 → OkT t →
  Calls Tryz.prog 18 #[v] w (TextB t w)

set_option maxRecDepth 100000 in
set_option maxHeartbeats 1600000 in
theorem sText_step (lo h : Nat) (IH : ∀ h', h = h' + 1 → TextSAt lo h') : TextSAt lo h := by
  intro v t w ht hw hok
  obtain ⟨kk, nn, s, u, xs, rfl, rfl, hs, ha⟩ := ht
  obtain ⟨a, cap, rfl⟩ := ha.slice
  obtain ⟨hn, hx⟩ := okT_kid hok
  have HX := Lib.hid hx; clear hx
  have HA := Lib.hid (ha.below (boxed_below w kk nn s (.slice a xs.length cap))); clear ha
  have HCT : Hid (cT (.node kk nn s xs) ≤ 1048577) := Lib.hid (by have := cT_le (.node kk nn s xs); omega)
  have HW : Hid (xs.length + wS xs ≤ 1048576) := Lib.hid (by rw [wT_node] at hw; omega)
  clear hw
  have HB0 := Lib.hid (boxed_below w kk nn s (.slice a xs.length cap))
  by_cases h3 : kk = 3
  · subst h3
    have hr : 0 ≤ nn ∧ nn ≤ 3 := by
      rcases hn with ⟨h, _⟩ | ⟨h, _⟩ | ⟨_, _, h0, h1, _⟩
      · omega
      · omega
      · exact ⟨h0, h1⟩
    have HF := Lib.hid (strT_word (n := nn) (s := s) (xs := xs))
    clear hn
    go_enter Tryz.func18, Tryz.ntmps18
    go_wp2_with fail
    refine (sFormat_any nn _ (by omega) (by omega)).mono ?_
    rintro e w1 ⟨rfl, hb1⟩
    have HB1 := Lib.hid (HB0.out.trans (hb1.mono HB0.out.size)); clear hb1
    go_wp2
    go_ret
    exact ⟨by rw [HF.out]; rfl, HB1.out⟩
  have h3' : (kk == 3) = false := by rw [beq_eq_false_iff_ne]; exact h3
  have HP := Lib.hid (fun j => preL_le kk nn s xs j hok h3)
  have HLEAF := Lib.hid (fun (e : xs = []) => show strT (.node kk nn s xs) = s by rw [e]; exact strT_leaf h3)
  have HSOME := Lib.hid (fun (e : xs.length ≠ 0) => strT_some (k := kk) (n := nn) (s := s) h3 e)
  clear hn hok hs
  have HK3 := Lib.hid h3; clear h3
  obtain ⟨m, hm⟩ : ∃ m, m = xs.length := ⟨_, rfl⟩
  have hml : m ≤ 1048576 := by have := HW.out; omega
  rw [← hm] at HA HB0 ⊢
  have HM := Lib.hid hm; clear hm
  have HIH := Lib.hid IH; clear IH
  go_enter Tryz.func18, Tryz.ntmps18
  go_wp2
  go_loopw [3, 4, 5] (fun c i _ wr => ∃ k : Nat, k ≤ m ∧ i = .int .i64 k ∧ c = .string (preB s xs k) ∧ Hid (Below (boxed w kk nn s (.slice a m cap)).heap.size (boxed w kk nn s (.slice a m cap)) wr)) (fun _ i _ _ => m - (intOf i).toNat)
  case atStart => exact ⟨0, Nat.zero_le _, rfl, by rw [preB_zero], Lib.hid (Below.refl _ _)⟩
  case round =>
    obtain ⟨k, hk, rfl, rfl, HB⟩ := hrel
    obtain ⟨_, _, _, cb⟩ := boxed_cells HB.out
    have hol : (preB s xs k).size ≤ 12582924 := by rw [preB_size]; have := HP.out k; have := HCT.out; omega
    by_cases hlt : k < m
    · obtain ⟨t, ht⟩ : ∃ t, xs[k]? = some t := ⟨_, List.getElem?_eq_getElem (by have := HM.out; omega)⟩
      obtain ⟨h', b, o, tk', tn, tsn, txs, u', e, rfl, rfl, hsz, c0, c1, c2, c3, har⟩ := HA.out.at ht
      have d0 := cell_on HB.out c0
      have d1 := cell_on HB.out c1
      have d2 := cell_on HB.out c2
      have d3 := cell_on HB.out c3
      clear c0 c1 c2 c3
      have hwt := wT_at xs k _ ht
      have hokt := HX.out _ (List.mem_of_getElem? ht)
      have hts : (strT (.node tk' tn tsn txs)).size ≤ 12582924 := by
        rw [strT_size]; have h1 := textL_le _ hokt; have h2 := cT_le (.node tk' tn tsn txs); have := HW.out; omega
      have HCALL := Lib.hid (HIH.out h' e _ _ wr ⟨tk', tn, tsn, u', txs, rfl, rfl, hsz, har.below HB.out⟩ (by have := HW.out; omega) hokt)
      have hq : ∃ q, ((k : Int) == 0) = q ∧ preB s xs k ++ (if q then ⟨#[40]⟩ else ⟨#[44, 32]⟩) ++ strT (.node tk' tn tsn txs) = preB s xs (k + 1) := by
        by_cases hk0 : k = 0
        · subst hk0
          exact ⟨true, rfl, by rw [preB_zero]; exact preB_first s xs _ ht⟩
        · exact ⟨false, by rw [beq_eq_false_iff_ne]; omega, preB_next s xs k _ ht hk0⟩
      obtain ⟨q, hq0, hN⟩ := hq
      have HN := Lib.hid hN; clear hN
      obtain ⟨st, hst⟩ : ∃ st, st = strT (.node tk' tn tsn txs) := ⟨_, rfl⟩
      unfold TextB at HCALL
      rw [← hst] at hts HCALL HN
      obtain ⟨pb, hpb⟩ : ∃ pb, pb = preB s xs k := ⟨_, rfl⟩
      rw [← hpb] at hol HN ⊢
      clear hwt ht har hsz e hokt hst hpb
      cases q with
      | true =>
        go_wp2_with fail
        refine HCALL.out.mono ?_
        rintro e w1 ⟨rfl, hb1⟩
        have HB2 := Lib.hid (HB.out.trans (hb1.mono HB.out.size)); clear hb1
        go_wp2
        go_roundw
        case rel => exact ⟨k + 1, by omega, by go_num, by rw [← HN.out]; rfl, HB2⟩
        case measure => simp [intOf]; omega
      | false =>
        go_wp2_with fail
        refine HCALL.out.mono ?_
        rintro e w1 ⟨rfl, hb1⟩
        have HB2 := Lib.hid (HB.out.trans (hb1.mono HB.out.size)); clear hb1
        go_wp2
        go_roundw
        case rel => exact ⟨k + 1, by omega, by go_num, by rw [← HN.out]; rfl, HB2⟩
        case measure => simp [intOf]; omega
    · have HE : Hid (k = xs.length) := Lib.hid (by have := HM.out; omega)
      have HBE := Lib.hid (HB0.out.trans (HB.out.mono HB0.out.size))
      by_cases hm0 : m = 0
      · have HF : Hid (preB s xs k = strT (.node kk nn s xs)) := Lib.hid (by
          have hx0 : xs = [] := List.eq_nil_of_length_eq_zero (by have := HM.out; omega)
          rw [HLEAF.out hx0, HE.out, hx0]; exact preB_zero s [])
        subst hm0
        go_wp2
        go_ret
        exact ⟨by rw [← HF.out]; rfl, HBE.out⟩
      · have HF : Hid (preB s xs k ++ ⟨#[41]⟩ = strT (.node kk nn s xs)) := Lib.hid (by
          rw [HE.out]; exact HSOME.out (by have := HM.out; omega))
        have hmp : (0 : Int) < (m : Int) := by omega
        clear hm0
        go_wp2
        go_ret
        exact ⟨by rw [← HF.out]; rfl, HBE.out⟩

theorem sText_any (lo : Nat) (h : Nat) : TextSAt lo h := by_height (sText_step lo) h

open Classical in
/-- The representation of a valid term; the empty string for the others. -/
noncomputable def fmtT (t : T) : ByteArray := if ValidT t then strT t else ByteArray.empty
theorem fmtT_ok {t : T} (h : ValidT t) : fmtT t = strT t := by unfold fmtT; rw [if_pos h]
theorem fmtT_no {t : T} (h : ¬ ValidT t) : fmtT t = ByteArray.empty := by unfold fmtT; rw [if_neg h]
def FmtB5 (t : T) (w : World) (e : Ending) (w' : World) : Prop := e = .returned (.string (fmtT t)) ∧ Below w.heap.size w w'

set_option maxRecDepth 100000 in
set_option maxHeartbeats 800000 in
theorem sFmtT_any (v : Value) (t : T) (lo h : Nat) (w : World) (ht : TermAt w lo h v t) (hw : wT t ≤ 1048576) :
    Calls Tryz.prog 8 #[v] w (FmtB5 t w) := by
  have HT := Lib.hid ht; clear ht
  have HW := Lib.hid hw; clear hw
  obtain ⟨k, n, s, u, rfl⟩ := HT.out.form
  have HB0 := Lib.hid (boxed_below w k n s u)
  obtain ⟨c0, c1, c2, c3⟩ := boxed_cells (Below.refl (boxed w k n s u).heap.size (boxed w k n s u))
  go_enter Tryz.func8, Tryz.ntmps8
  go_wp2_with fail
  refine (sValid_any _ t lo h _ (HT.out.below HB0.out) HW.out).mono ?_
  rintro e w1 ⟨q, rfl, hq, hb1⟩
  have HQ := Lib.hid hq; clear hq
  have HB1 := Lib.hid (HB0.out.trans (hb1.mono HB0.out.size))
  clear c0 c1 c2 c3
  obtain ⟨c0, c1, c2, c3⟩ := boxed_cells hb1
  clear hb1
  cases q with
  | false =>
    go_wp2
    go_ret
    exact ⟨by rw [fmtT_no (fun h => by have := HQ.out.2 h; simp at this)]; rfl, HB1.out⟩
  | true =>
    have HV := Lib.hid (HQ.out.1 rfl)
    go_wp2_with fail
    refine (sText_any lo h _ t _ (HT.out.below HB1.out) HW.out HV.out.2.2).mono ?_
    rintro e w2 ⟨rfl, hb2⟩
    have HB2 := Lib.hid (HB1.out.trans (hb2.mono HB1.out.size)); clear hb2
    go_wp2
    go_ret
    exact ⟨by rw [fmtT_ok HV.out]; rfl, HB2.out⟩
end Go.Proofs.YtooiiomfahomjaaGreatDoor
