/-
  spec.IsPrefix and impl.IsPrefix: whether a list of integers begins with another; the law on IsPrefix answers true at every two lists.
  Plain facts on decimal numerals: digits of a positive number, the numeral of an integer. No program.
  Small facts on one byte as a string and on strings put together. No walk.
  spec.FormatInt returns the decimal numeral of its argument, for every int.
  The names of the library's tables and variables that the reading and the writing of numbers need.
-/
import Derived.Test.YtcmhiindjponcaaDoorQ6
import Derived.Test.YtcmhiindjponcaaDoorRows
import Derived.Lib.ItoaNum
import Derived.Lib.ItoaMem
import Derived.Lib.ItoaLen
import Derived.WalkKit
import Derived.WalkSpells
import Derived.WalkLawsBesides
import Derived.Laws.IdiomStrings
import Derived.Lib.Hide
namespace Go.Proofs.YtcmhiindjponcaaDoor
open Go.RowKit

/-- The second list begins with the first. -/
def prefB (ps qs : List Int) : Bool := decide (ps.length ≤ qs.length ∧ qs.take ps.length = ps)
theorem prefB_yes {ps qs : List Int} (h : ps.length ≤ qs.length) (h2 : qs.take ps.length = ps) : prefB ps qs = true := by simp [prefB, h, h2]
theorem prefB_no {ps qs : List Int} {k : Nat} {p : Int} (hp : ps[k]? = some p) (h : qs[k]? ≠ some p) : prefB ps qs = false := by
  unfold prefB
  rw [decide_eq_false_iff_not]
  rintro ⟨_, h2⟩
  have hk := (List.getElem?_eq_some_iff.1 hp).1
  rw [← h2, List.getElem?_take, if_pos hk] at hp
  exact h hp
def BoolB (b : Bool) (w : World) (e : Ending) (w' : World) : Prop := e = .returned (.bool b) ∧ Below w.heap.size w w'
theorem take_nextP {ps qs : List Int} {k : Nat} {p q : Int} (h : qs.take k = ps.take k) (hp : ps[k]? = some p) (hq : qs[k]? = some q) (e : p = q) : qs.take (k + 1) = ps.take (k + 1) := by
  rw [takeI ps k p hp, takeI qs k q hq, h, e]

set_option maxRecDepth 100000 in
set_option maxHeartbeats 800000 in
theorem sPrefix_any (v u : Value) (ps qs : List Int) (w : World) (hl : ps.length ≤ 4194304) (hl2 : qs.length ≤ 4194304) (h1 : IntsAt w v ps) (h2 : IntsAt w u qs) :
    Calls Tryd.prog 13 #[v, u] w (BoolB (prefB ps qs) w) := by
  obtain ⟨a, cap, rfl⟩ := h1.slice
  obtain ⟨a', cap', rfl⟩ := h2.slice
  have H1 := Lib.hid h1; clear h1
  have H2 := Lib.hid h2; clear h2
  obtain ⟨n, hn⟩ : ∃ n, n = ps.length := ⟨_, rfl⟩
  obtain ⟨m, hm⟩ : ∃ m, m = qs.length := ⟨_, rfl⟩
  rw [← hn] at hl H1 ⊢
  rw [← hm] at hl2 H2 ⊢
  have HN := Lib.hid hn; clear hn
  have HM := Lib.hid hm; clear hm
  go_enter Tryd.func13, Tryd.ntmps13
  go_wp2
  go_loopw [5] (fun i wr => ∃ k q : Nat, k ≤ n ∧ k ≤ m ∧ i = .int .i64 k ∧ wr = w.drewN q ∧ Hid (qs.take k = ps.take k)) (fun i _ => n - (intOf i).toNat)
  case atStart => exact ⟨0, 0, Nat.zero_le _, Nat.zero_le _, rfl, rfl, Lib.hid rfl⟩
  case round =>
    obtain ⟨k, q, hk, hkm, rfl, rfl, HT⟩ := hrel
    by_cases hlt : k < n
    · obtain ⟨x, hx⟩ : ∃ x, ps[k]? = some x := ⟨_, List.getElem?_eq_getElem (by have := HN.out; omega)⟩
      by_cases hlt2 : k < m
      · obtain ⟨y, hy⟩ : ∃ y, qs[k]? = some y := ⟨_, List.getElem?_eq_getElem (by have := HM.out; omega)⟩
        obtain ⟨b, o, rfl, hc1⟩ := H1.out.at hx
        obtain ⟨b', o', rfl, hc2⟩ := H2.out.at hy
        have HX := Lib.hid (And.intro hx hy); clear hx hy
        by_cases hxy : x = y
        · have HE := Lib.hid (take_nextP HT.out HX.out.1 HX.out.2 hxy)
          have hne : (x != y) = false := by simp [hxy]
          clear hxy
          go_wp2
          go_quiet (fail)
          go_wp2
          go_roundw
          case rel => exact ⟨k + 1, _, by omega, by omega, by go_num, rfl, HE⟩
          case measure => simp [intOf]; omega
        · have hne : (x != y) = true := by simp [hxy]
          have HF := Lib.hid (prefB_no HX.out.1 (by rw [HX.out.2]; intro e; exact hxy (by cases e; rfl))); clear hxy
          go_wp2
          go_quiet (fail)
          go_wp2
          go_ret
          exact ⟨by rw [HF.out]; rfl, by first | exact (below_q w q).trans (below_q (w.drewN q) _) | exact below_q w _⟩
      · have hy : qs[k]? = none := List.getElem?_eq_none (by have := HM.out; omega)
        have HF := Lib.hid (prefB_no hx (by rw [hy]; simp)); clear hx hy
        go_wp2
        go_quiet (fail)
        go_wp2
        go_ret
        exact ⟨by rw [HF.out]; rfl, by first | exact (below_q w q).trans (below_q (w.drewN q) _) | exact below_q w _⟩
    · have hkn : k = n := by omega
      have HF : Hid (prefB ps qs = true) := Lib.hid (by
        have h := HT.out
        rw [hkn, HN.out, List.take_length] at h
        exact prefB_yes (by have := HN.out; have := HM.out; omega) h)
      clear hkn
      go_wp2
      go_ret
      exact ⟨by rw [HF.out]; rfl, below_q w q⟩

set_option maxRecDepth 100000 in
set_option maxHeartbeats 800000 in
/-- slices.Equal over integers. -/
theorem lEqual_any (v u : Value) (ps qs : List Int) (w : World) (hl : ps.length ≤ 4194304) (hlq : qs.length = ps.length) (h1 : IntsAt w v ps) (h2 : IntsAt w u qs) :
    Calls Tryd.prog 20 #[v, u] w (BoolB (decide (qs = ps)) w) := by
  obtain ⟨a, cap, rfl⟩ := h1.slice
  obtain ⟨a', cap', rfl⟩ := h2.slice
  have H1 := Lib.hid h1; clear h1
  have H2 := Lib.hid h2; clear h2
  obtain ⟨n, hn⟩ : ∃ n, n = ps.length := ⟨_, rfl⟩
  rw [hlq, ← hn] at H2 ⊢
  rw [← hn] at hl H1
  have HN := Lib.hid hn; clear hn
  have HLQ := Lib.hid hlq; clear hlq
  go_enter Tryd.func20, Tryd.ntmps20
  go_wp2
  go_loopw [13] (fun i wr => ∃ k q : Nat, k ≤ n ∧ i = .int .i64 k ∧ wr = w.drewN q ∧ Hid (qs.take k = ps.take k)) (fun i _ => n - (intOf i).toNat)
  case atStart => exact ⟨0, 0, Nat.zero_le _, rfl, rfl, Lib.hid rfl⟩
  case round =>
    obtain ⟨k, q, hk, rfl, rfl, HT⟩ := hrel
    by_cases hlt : k < n
    · obtain ⟨x, hx⟩ : ∃ x, ps[k]? = some x := ⟨_, List.getElem?_eq_getElem (by have := HN.out; omega)⟩
      obtain ⟨y, hy⟩ : ∃ y, qs[k]? = some y := ⟨_, List.getElem?_eq_getElem (by have := HN.out; have := HLQ.out; omega)⟩
      obtain ⟨b, o, rfl, hc1⟩ := H1.out.at hx
      obtain ⟨b', o', rfl, hc2⟩ := H2.out.at hy
      have HX := Lib.hid (And.intro hx hy); clear hx hy
      by_cases hxy : x = y
      · have HE := Lib.hid (take_nextP HT.out HX.out.1 HX.out.2 hxy)
        have hne : (x != y) = false := by simp [hxy]
        clear hxy
        go_wp2
        go_quiet (fail)
        go_wp2
        go_roundw
        case rel => exact ⟨k + 1, _, by omega, by go_num, rfl, HE⟩
        case measure => simp [intOf]; omega
      · have hne : (x != y) = true := by simp [hxy]
        have HF : Hid (decide (qs = ps) = false) := Lib.hid (decide_eq_false (fun e => hxy (by have h1 := HX.out.1; have h2 := HX.out.2; rw [e, h1] at h2; cases h2; rfl))); clear hxy
        go_wp2
        go_quiet (fail)
        go_wp2
        go_ret
        exact ⟨by rw [HF.out]; rfl, by first | exact (below_q w q).trans (below_q (w.drewN q) _) | exact below_q w _⟩
    · have hkn : k = n := by omega
      have HF : Hid (decide (qs = ps) = true) := Lib.hid (by
        have h := HT.out
        rw [hkn, List.take_of_length_le (by have := HN.out; have := HLQ.out; omega), List.take_of_length_le (by have := HN.out; omega)] at h
        exact decide_eq_true h)
      clear hkn
      go_wp2
      go_ret
      exact ⟨by rw [HF.out]; rfl, below_q w q⟩

theorem IntsAt.head {w : World} {a : Option Addr} {n cap : Nat} {qs : List Int} (h : IntsAt w (.slice a n cap) qs) {k : Nat} (hk : k ≤ n) : IntsAt w (.slice a k cap) (qs.take k) := by
  have hc := h.cap
  have hl := h.len
  refine ⟨a, cap, by rw [List.length_take, Nat.min_eq_left (by omega)], by rw [List.length_take]; omega, ?_⟩
  obtain ⟨a', c', e, _, hh⟩ := h
  cases e
  rcases hh with rfl | ⟨b, o, e2, hx⟩
  · left; simp
  · refine Or.inr ⟨b, o, e2, fun i p hp => ?_⟩
    rw [List.getElem?_take] at hp
    split at hp
    · exact hx i p hp
    · cases hp

set_option maxRecDepth 100000 in
set_option maxHeartbeats 800000 in
theorem iPrefix_any (v u : Value) (ps qs : List Int) (w : World) (hl : ps.length ≤ 4194304) (hl2 : qs.length ≤ 4194304) (h1 : IntsAt w v ps) (h2 : IntsAt w u qs) :
    Calls Tryd.prog 9 #[v, u] w (BoolB (prefB ps qs) w) := by
  obtain ⟨a, cap, rfl⟩ := h1.slice
  obtain ⟨a', cap', rfl⟩ := h2.slice
  have hcap := h2.cap
  by_cases hlt : ps.length ≤ qs.length
  · have HC := Lib.hid (lEqual_any _ _ ps (qs.take ps.length) w hl (by rw [List.length_take]; omega) h1 (h2.head hlt))
    have HF : Hid (decide (qs.take ps.length = ps) = prefB ps qs) := Lib.hid (by unfold prefB; simp [hlt])
    clear h1 h2
    obtain ⟨n, hn⟩ : ∃ n, n = ps.length := ⟨_, rfl⟩
    obtain ⟨m, hm⟩ : ∃ m, m = qs.length := ⟨_, rfl⟩
    rw [← hn] at hl hlt HC HF ⊢
    rw [← hm] at hl2 hcap hlt ⊢
    clear hn hm
    go_enter Tryd.func9, Tryd.ntmps9
    go_wp2_with fail
    refine HC.out.mono ?_
    rintro e w1 ⟨rfl, hb⟩
    go_wp2
    go_ret
    exact ⟨by first | rfl | (rw [HF.out]; rfl) | (rw [← HF.out]; rfl), hb⟩
  · have HF : Hid (prefB ps qs = false) := Lib.hid (by unfold prefB; simp [hlt])
    clear h1 h2
    go_enter Tryd.func9, Tryd.ntmps9
    go_wp2
    go_ret
    exact ⟨by rw [HF.out]; rfl, Below.refl _ _⟩
end Go.Proofs.YtcmhiindjponcaaDoor
namespace Go.Proofs.YtcmhiindjponcaaDoor
open Go

/-- The digits of u, none for 0. -/
def decPos (u : Nat) : List UInt8 :=
  if _h : u = 0 then [] else decPos (u / 10) ++ [UInt8.ofNat (48 + u % 10)]
termination_by u
decreasing_by omega

theorem decPos_zero : decPos 0 = [] := by rw [decPos, dif_pos rfl]
theorem decPos_pos {u : Nat} (h : u ≠ 0) : decPos u = decPos (u / 10) ++ [UInt8.ofNat (48 + u % 10)] := by
  rw [decPos, dif_neg h]
theorem decPos_eq (u : Nat) (h : u ≠ 0) : decPos u = Lib.decDigits u := by
  induction u using Nat.strongRecOn with
  | _ u ih =>
    rw [decPos_pos h]
    by_cases hs : u < 10
    · rw [Lib.decDigits_one hs, show u / 10 = 0 by omega, decPos_zero, show u % 10 = u by omega]; rfl
    · rw [Lib.decDigits, dif_neg hs, ih (u / 10) (by omega) (by omega)]

/-- One round: the last digit of the rest goes ahead of what has been written. -/
theorem decPos_step {u : Nat} (h : u ≠ 0) (out : List UInt8) : decPos (u / 10) ++ (UInt8.ofNat (48 + u % 10) :: out) = decPos u ++ out := by
  rw [decPos_pos h, List.append_assoc]; rfl

theorem decPos_length_le (u : Nat) (h : u < 10 ^ 20) : (decPos u).length ≤ 20 := by
  by_cases h0 : u = 0
  · rw [h0, decPos_zero]; simp
  · rw [decPos_eq u h0, Lib.decDigits_length]
    have h1 := Lib.nDigits_pos u
    rcases Nat.lt_or_ge 20 (Lib.nDigits u) with hlt | hge
    · exfalso
      obtain ⟨k, hk⟩ : ∃ k, Lib.nDigits u = k + 1 := ⟨Lib.nDigits u - 1, by omega⟩
      have hle : ∀ (k u : Nat), Lib.nDigits u = k + 1 → 1 ≤ k → 10 ^ k ≤ u := by
        intro k
        induction k with
        | zero => intro u _ h; omega
        | succ k ih =>
          intro u hu _
          have hb : ¬ u < 10 := by
            intro hlt; rw [Lib.nDigits_small hlt] at hu; omega
          rw [Lib.nDigits_big hb] at hu
          by_cases hk0 : k = 0
          · subst hk0; omega
          · have := ih (u / 10) (by omega) (by omega)
            rw [Nat.pow_succ]; omega
      have h2 := hle k u hk (by omega)
      have h3 : 10 ^ 20 ≤ 10 ^ k := Nat.pow_le_pow_right (by omega) (by omega)
      omega
    · omega

theorem itoa_pos {n : Int} (h : 0 < n) : Lib.itoa n = decPos n.toNat := by
  unfold Lib.itoa; rw [if_neg (by omega), decPos_eq _ (by omega)]
theorem itoa_neg' {n : Int} (h : n < 0) : Lib.itoa n = 45 :: decPos n.natAbs := by
  unfold Lib.itoa; rw [if_pos h, decPos_eq _ (by omega)]
theorem itoa_zero : Lib.itoa 0 = [48] := by
  unfold Lib.itoa; rw [if_neg (by omega)]; exact Lib.decDigits_one (by decide)
end Go.Proofs.YtcmhiindjponcaaDoor
namespace Go.Proofs.YtcmhiindjponcaaDoor
open Go.RowKit

theorem ret_str {a b : List UInt8} (h : a = b) : Ending.returned (.string ⟨a.toArray⟩) = .returned (.string ⟨b.toArray⟩) := by rw [h]

/-- 'string([]byte{c})'. -/
theorem conv_one (W : World) (k : Nat) (c : Int) (hk : k < 256) (hc : c = (k : Int)) :
    (convert 22 9 (.slice (some ⟨W.heap.size, 0, none⟩) 1 1)).run Tryd.prog (W.alloc (.cells #[.int .u8 c] 5)) = .ok (.string ⟨#[UInt8.ofNat k]⟩) (W.alloc (.cells #[.int .u8 c] 5)) := by
  have h := run_convert_bytes_back (P := Tryd.prog) (W.alloc (.cells #[.int .u8 c] 5)) 22 9 5 ⟨W.heap.size, 0, none⟩ 1 [UInt8.ofNat k] Tryd.underlying22 Tryd.underlying5 Tryd.underlying9 (fun j hj => by
    have hj0 : j = 0 := by simpa using hj
    subst hj0
    have := World.cell?_alloc_mark W #[.int .u8 c] 5 (0, 0) 0
    show (W.alloc (.cells #[.int .u8 c] 5)).cell? ⟨W.heap.size, 0, none⟩ = _
    rw [this, hc]
    simp
    omega)
  exact h

theorem cons_str (x : UInt8) (out : List UInt8) : (⟨#[x]⟩ : ByteArray) ++ ⟨out.toArray⟩ = ⟨(x :: out).toArray⟩ := by
  apply ByteArray.ext
  simp [ByteArray.data_append]
theorem digit_val (k : Nat) : (48 : UInt8) + UInt8.ofNat k = UInt8.ofNat (48 + k) := by
  rw [UInt8.ofNat_add]; rfl
end Go.Proofs.YtcmhiindjponcaaDoor
namespace Go.Proofs.YtcmhiindjponcaaDoor
open Go.RowKit
set_option maxHeartbeats 400000 in
theorem sFormat_zero (w : World) :
    Calls Tryd.prog 23 #[.int .i64 0] w fun e w' => e = .returned (.string ⟨(Lib.itoa 0).toArray⟩) ∧ Below w.heap.size w w' := by
  go_enter Tryd.func23, Tryd.ntmps23
  have hz : ((0 : Int) == 0) = true := rfl
  go_wp2
  go_ret
  exact ⟨by rw [itoa_zero]; rfl, Below.refl _ _⟩

set_option maxRecDepth 100000 in
set_option maxHeartbeats 400000 in
theorem sFormat_pos (n : Int) (w : World) (h0 : 1 ≤ n) (h1 : n ≤ 9223372036854775807) :
    Calls Tryd.prog 23 #[.int .i64 n] w fun e w' => e = .returned (.string ⟨(Lib.itoa n).toArray⟩) ∧ Below w.heap.size w w' := by
  have hz : (n == 0) = false := by simp; omega
  have hl : decide (n < 0) = false := by simp; omega
  go_enter Tryd.func23, Tryd.ntmps23
  go_wp2
  go_loopw [0, 4] (fun a o wr => ∃ (m : Nat) (out : List UInt8), (m : Int) ≤ 9223372036854775807 ∧ a = .int .i64 m ∧ o = .string ⟨out.toArray⟩ ∧ decPos m ++ out = decPos n.toNat ∧ Below w.heap.size w wr) (fun a _ _ => (intOf a).toNat)
  case atStart => exact ⟨n.toNat, [], by omega, by congr 1; omega, rfl, by simp, Below.refl _ _⟩
  case round =>
    obtain ⟨m, out, hm, rfl, rfl, hd, hb⟩ := hrel
    have HD := Lib.hid hd; clear hd
    by_cases hm0 : m = 0
    · subst hm0
      go_wp2
      go_ret
      refine ⟨ret_str ?_, hb⟩
      rw [itoa_pos (by omega), ← HD.out, decPos_zero]; rfl
    · have hne : ((m : Int) != 0) = true := by simp; omega
      have hp : (0 : Int) ≤ (m : Int) % 10 := by omega
      have hp2 : (m : Int) % 10 ≤ 9 := by omega
      have hcv := conv_one wr (48 + m % 10) (48 + (m : Int) % 10) (by omega) (by omega)
      have hstep := decPos_step (u := m) hm0 out
      have hlen : out.length ≤ 20 := by
        have e := congrArg List.length HD.out
        have l := decPos_length_le n.toNat (by omega)
        rw [List.length_append] at e
        omega
      have hmp : 1 ≤ m := by omega
      clear hm0
      have HS := Lib.hid hstep; clear hstep
      go_wp2
      go_roundw
      case rel =>
        refine ⟨m / 10, UInt8.ofNat (48 + m % 10) :: out, by omega, by go_num, ?_, by rw [HS.out, HD.out], hb.alloc (by have := hb.size; omega) _⟩
        rw [digit_val, cons_str]
      case measure => simp [intOf]; omega

theorem tmod_neg {x : Int} (h : x ≤ 0) : x.tmod 10 = -((x.natAbs % 10 : Nat) : Int) := by
  obtain ⟨u, rfl⟩ : ∃ u : Nat, x = -(u : Int) := ⟨x.natAbs, by omega⟩
  rw [Int.neg_tmod, Int.natAbs_neg, Int.natAbs_natCast, Int.tmod_eq_emod_of_nonneg (by omega)]
  omega
theorem tdiv_neg {x : Int} (h : x ≤ 0) : x.tdiv 10 = -((x.natAbs / 10 : Nat) : Int) := by
  obtain ⟨u, rfl⟩ : ∃ u : Nat, x = -(u : Int) := ⟨x.natAbs, by omega⟩
  rw [Int.neg_tdiv, Int.natAbs_neg, Int.natAbs_natCast, Int.tdiv_eq_ediv_of_nonneg (by omega)]
  omega

set_option maxRecDepth 100000 in
set_option maxHeartbeats 800000 in
theorem sFormat_neg (n : Int) (w : World) (h0 : n ≤ -1) (h1 : -9223372036854775808 ≤ n) :
    Calls Tryd.prog 23 #[.int .i64 n] w fun e w' => e = .returned (.string ⟨(Lib.itoa n).toArray⟩) ∧ Below w.heap.size w w' := by
  have hz : (n == 0) = false := by simp; omega
  have hl : decide (n < 0) = true := by simp; omega
  go_enter Tryd.func23, Tryd.ntmps23
  go_wp2
  go_loopw [0, 4, 5] (fun a o _ wr => ∃ (x : Int) (out : List UInt8), x ≤ 0 ∧ -9223372036854775808 ≤ x ∧ a = .int .i64 x ∧ o = .string ⟨out.toArray⟩ ∧ decPos x.natAbs ++ out = decPos n.natAbs ∧ Below w.heap.size w wr) (fun a _ _ _ => (intOf a).natAbs)
  case atStart => exact ⟨n, [], by omega, by omega, rfl, rfl, by simp, Below.refl _ _⟩
  case round =>
    obtain ⟨x, out, hx0, hx1, rfl, rfl, hd, hb⟩ := hrel
    have HD := Lib.hid hd; clear hd
    have hlen : out.length ≤ 20 := by
      have e := congrArg List.length HD.out
      have l := decPos_length_le n.natAbs (by omega)
      rw [List.length_append] at e
      omega
    by_cases hm0 : x = 0
    · subst hm0
      go_wp2
      go_ret
      refine ⟨?_, hb⟩
      rw [itoa_neg' (by omega), ← HD.out]
      show Ending.returned (.string (⟨#[45]⟩ ++ ⟨out.toArray⟩)) = _
      rw [cons_str, Int.natAbs_zero, decPos_zero]; rfl
    · have hne : (x != 0) = true := by simp; omega
      have hxp : x ≤ -1 := by omega
      have ht := Lib.hid (tmod_neg hx0)
      have hq := Lib.hid (tdiv_neg hx0)
      have hb1 : x.tmod 10 ≤ 0 := by rw [ht.out]; omega
      have hb2 : -9 ≤ x.tmod 10 := by rw [ht.out]; omega
      have hq1 : x.tdiv 10 ≤ 0 := by rw [hq.out]; omega
      have hq2 : -9223372036854775808 ≤ x.tdiv 10 := by rw [hq.out]; omega
      have hstep := decPos_step (u := x.natAbs) (by omega) out
      clear hm0
      have HS := Lib.hid hstep; clear hstep
      by_cases hdn : x.tmod 10 < 0
      · have hcv := conv_one wr (48 + x.natAbs % 10) (48 + -x.tmod 10) (by omega) (by rw [ht.out]; omega)
        go_wp2
        go_roundw
        case rel =>
          refine ⟨x.tdiv 10, UInt8.ofNat (48 + x.natAbs % 10) :: out, by omega, by omega, ?_, ?_, by rw [hq.out, Int.natAbs_neg, Int.natAbs_natCast, HS.out, HD.out], hb.alloc (by have := hb.size; omega) _⟩
          · go_num
          · rw [digit_val, cons_str]
        case measure => simp only [intOf]; rw [hq.out]; omega
      · have hcv := conv_one wr (48 + x.natAbs % 10) (48 + x.tmod 10) (by omega) (by rw [ht.out]; have := ht.out; omega)
        go_wp2
        go_roundw
        case rel =>
          refine ⟨x.tdiv 10, UInt8.ofNat (48 + x.natAbs % 10) :: out, by omega, by omega, ?_, ?_, by rw [hq.out, Int.natAbs_neg, Int.natAbs_natCast, HS.out, HD.out], hb.alloc (by have := hb.size; omega) _⟩
          · go_num
          · rw [digit_val, cons_str]
        case measure => simp only [intOf]; rw [hq.out]; omega

/-- spec.FormatInt: the decimal numeral, for every int. -/
theorem sFormat_any (n : Int) (w : World) (h0 : -9223372036854775808 ≤ n) (h1 : n ≤ 9223372036854775807) :
    Calls Tryd.prog 23 #[.int .i64 n] w fun e w' => e = .returned (.string ⟨(Lib.itoa n).toArray⟩) ∧ Below w.heap.size w w' := by
  rcases Int.lt_trichotomy n 0 with h | h | h
  · exact sFormat_neg n w (by omega) h0
  · subst h; exact sFormat_zero w
  · exact sFormat_pos n w (by omega) h1
end Go.Proofs.YtcmhiindjponcaaDoor
namespace Go.Proofs.YtcmhiindjponcaaDoor
/-- The library's table of powers of ten. -/
def powName : String := "internal/strconv.uint64pow10"
/-- The library's two errors of a number's reading. -/
def synName : String := "strconv.ErrSyntax"
def rngName : String := "strconv.ErrRange"
/-- A table of the library's, listed behind the others. -/
def bruName : String := "math/bits.deBruijn64tab"
end Go.Proofs.YtcmhiindjponcaaDoor
