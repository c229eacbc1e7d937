/-
  Small facts on one byte as a string and on strings put together. No walk.
  Plain facts on decimal numerals: digits of a positive number, the numeral of an integer. No program.
  laws.markText: 'm' and the decimal numeral.
  laws.markStringS writes these texts into a slice of the call's own; laws.heldStringS finds them there.
-/
import Derived.Test.YtcmhiindjponcaaRows
import Derived.Test.YtcmhiindjponcaaQ2
import Derived.Test.YtcmhiindjponcaaQ4
import Derived.WalkKit
import Derived.WalkSpells
import Derived.WalkLawsBesides
import Derived.Laws.IdiomStrings
import Derived.Lib.Hide
import Derived.Lib.ItoaNum
import Derived.Lib.ItoaMem
import Derived.Lib.ItoaLen
import Derived.Deep.RegionHeld3
namespace Go.Proofs.Ytcmhiindjponcaa
open Go.RowKit

theorem ret_str {a b : List UInt8} (h : a = b) : Ending.returned (.string ⟨a.toArray⟩) = .returned (.string ⟨b.toArray⟩) := by rw [h]

/-- 'string([]byte{c})'. -/
theorem conv_one (W : World) (k : Nat) (c : Int) (hk : k < 256) (hc : c = (k : Int)) :
    (convert 22 9 (.slice (some ⟨W.heap.size, 0, none⟩) 1 1)).run Try.prog (W.alloc (.cells #[.int .u8 c] 5)) = .ok (.string ⟨#[UInt8.ofNat k]⟩) (W.alloc (.cells #[.int .u8 c] 5)) := by
  have h := run_convert_bytes_back (P := Try.prog) (W.alloc (.cells #[.int .u8 c] 5)) 22 9 5 ⟨W.heap.size, 0, none⟩ 1 [UInt8.ofNat k] Try.underlying22 Try.underlying5 Try.underlying9 (fun j hj => by
    have hj0 : j = 0 := by simpa using hj
    subst hj0
    have := World.cell?_alloc_mark W #[.int .u8 c] 5 (0, 0) 0
    show (W.alloc (.cells #[.int .u8 c] 5)).cell? ⟨W.heap.size, 0, none⟩ = _
    rw [this, hc]
    simp
    omega)
  exact h

theorem cons_str (x : UInt8) (out : List UInt8) : (⟨#[x]⟩ : ByteArray) ++ ⟨out.toArray⟩ = ⟨(x :: out).toArray⟩ := by
  apply ByteArray.ext
  simp [ByteArray.data_append]
theorem digit_val (k : Nat) : (48 : UInt8) + UInt8.ofNat k = UInt8.ofNat (48 + k) := by
  rw [UInt8.ofNat_add]; rfl
end Go.Proofs.Ytcmhiindjponcaa
namespace Go.Proofs.Ytcmhiindjponcaa
open Go

/-- The digits of u, none for 0. -/
def decPos (u : Nat) : List UInt8 :=
  if _h : u = 0 then [] else decPos (u / 10) ++ [UInt8.ofNat (48 + u % 10)]
termination_by u
decreasing_by omega

theorem decPos_zero : decPos 0 = [] := by rw [decPos, dif_pos rfl]
theorem decPos_pos {u : Nat} (h : u ≠ 0) : decPos u = decPos (u / 10) ++ [UInt8.ofNat (48 + u % 10)] := by
  rw [decPos, dif_neg h]
theorem decPos_eq (u : Nat) (h : u ≠ 0) : decPos u = Lib.decDigits u := by
  induction u using Nat.strongRecOn with
  | _ u ih =>
    rw [decPos_pos h]
    by_cases hs : u < 10
    · rw [Lib.decDigits_one hs, show u / 10 = 0 by omega, decPos_zero, show u % 10 = u by omega]; rfl
    · rw [Lib.decDigits, dif_neg hs, ih (u / 10) (by omega) (by omega)]

/-- One round: the last digit of the rest goes ahead of what has been written. -/
theorem decPos_step {u : Nat} (h : u ≠ 0) (out : List UInt8) : decPos (u / 10) ++ (UInt8.ofNat (48 + u % 10) :: out) = decPos u ++ out := by
  rw [decPos_pos h, List.append_assoc]; rfl

theorem decPos_length_le (u : Nat) (h : u < 10 ^ 20) : (decPos u).length ≤ 20 := by
  by_cases h0 : u = 0
  · rw [h0, decPos_zero]; simp
  · rw [decPos_eq u h0, Lib.decDigits_length]
    have h1 := Lib.nDigits_pos u
    rcases Nat.lt_or_ge 20 (Lib.nDigits u) with hlt | hge
    · exfalso
      obtain ⟨k, hk⟩ : ∃ k, Lib.nDigits u = k + 1 := ⟨Lib.nDigits u - 1, by omega⟩
      have hle : ∀ (k u : Nat), Lib.nDigits u = k + 1 → 1 ≤ k → 10 ^ k ≤ u := by
        intro k
        induction k with
        | zero => intro u _ h; omega
        | succ k ih =>
          intro u hu _
          have hb : ¬ u < 10 := by
            intro hlt; rw [Lib.nDigits_small hlt] at hu; omega
          rw [Lib.nDigits_big hb] at hu
          by_cases hk0 : k = 0
          · subst hk0; omega
          · have := ih (u / 10) (by omega) (by omega)
            rw [Nat.pow_succ]; omega
      have h2 := hle k u hk (by omega)
      have h3 : 10 ^ 20 ≤ 10 ^ k := Nat.pow_le_pow_right (by omega) (by omega)
      omega
    · omega

theorem itoa_pos {n : Int} (h : 0 < n) : Lib.itoa n = decPos n.toNat := by
  unfold Lib.itoa; rw [if_neg (by omega), decPos_eq _ (by omega)]
theorem itoa_neg' {n : Int} (h : n < 0) : Lib.itoa n = 45 :: decPos n.natAbs := by
  unfold Lib.itoa; rw [if_pos h, decPos_eq _ (by omega)]
theorem itoa_zero : Lib.itoa 0 = [48] := by
  unfold Lib.itoa; rw [if_neg (by omega)]; exact Lib.decDigits_one (by decide)
end Go.Proofs.Ytcmhiindjponcaa
namespace Go.Proofs.Ytcmhiindjponcaa
open Go.RowKit

/-- The k-th mark. -/
def mark (k : Nat) : ByteArray := ⟨((109 : UInt8) :: decPos k).toArray⟩
def MarkEnd (k : Nat) (w : World) (e : Ending) (w' : World) : Prop := e = .returned (.string (mark k)) ∧ Below w.heap.size w w'

set_option maxRecDepth 100000 in
set_option maxHeartbeats 400000 in
theorem markText_any (n : Nat) (w : World) (h0 : 1 ≤ n) (h1 : (n : Int) ≤ 9223372036854775807) :
    Calls Try.prog 86 #[.int .i64 n] w (MarkEnd n w) := by
  have hz : decide ((n : Int) ≤ 0) = false := by simp; omega
  go_enter Try.func86, Try.ntmps86
  go_wp2
  go_loopw [0, 3] (fun a o wr => ∃ (m : Nat) (out : List UInt8), (m : Int) ≤ 9223372036854775807 ∧ a = .int .i64 m ∧ o = .string ⟨out.toArray⟩ ∧ decPos m ++ out = decPos n ∧ Below w.heap.size w wr) (fun a _ _ => (intOf a).toNat)
  case atStart => exact ⟨n, [], by omega, rfl, rfl, by simp, Below.refl _ _⟩
  case round =>
    obtain ⟨m, out, hm, rfl, rfl, hd, hb⟩ := hrel
    have HD := Lib.hid hd; clear hd
    have hlen : out.length ≤ 20 := by
      have e := congrArg List.length HD.out
      have l := decPos_length_le n (by omega)
      rw [List.length_append] at e
      omega
    by_cases hm0 : m = 0
    · subst hm0
      go_wp2
      go_ret
      refine ⟨?_, hb⟩
      show Ending.returned (.string (⟨#[109]⟩ ++ ⟨out.toArray⟩)) = _
      rw [cons_str]
      have := HD.out
      rw [decPos_zero, List.nil_append] at this
      rw [this]; rfl
    · have hmp : 1 ≤ m := by omega
      have hp : (0 : Int) ≤ (m : Int) % 10 := by omega
      have hp2 : (m : Int) % 10 ≤ 9 := by omega
      have hcv := conv_one wr (48 + m % 10) (48 + (m : Int) % 10) (by omega) (by omega)
      have hstep := decPos_step (u := m) hm0 out
      clear hm0
      have HS := Lib.hid hstep; clear hstep
      go_wp2
      go_roundw
      case rel =>
        refine ⟨m / 10, UInt8.ofNat (48 + m % 10) :: out, by omega, by go_num, ?_, by rw [HS.out, HD.out], hb.alloc (by have := hb.size; omega) _⟩
        rw [digit_val, cons_str]
      case measure => simp [intOf]; omega

theorem markText_int (x : Int) (n : Nat) (w : World) (hx : x = (n : Int)) (h0 : 1 ≤ n) (h1 : (n : Int) ≤ 9223372036854775807) :
    Calls Try.prog 86 #[.int .i64 x] w (MarkEnd n w) := by
  subst hx; exact markText_any n w h0 h1

theorem held_call {wr w1 : World} {a : Addr} {v : Value} (hb1 : Below wr.drew.heap.size wr.drew w1) (hg : a.block < wr.heap.size) (h : wr.cell? a = some v) : w1.cell? a = some v ∧ Below wr.heap.size wr w1 := by
  have hb : Below wr.heap.size wr wr.drew := (Below.refl _ _).drew
  exact ⟨by rw [(hb.trans hb1).cell hg]; exact h, hb.trans hb1⟩
theorem held_draw {wr : World} {a : Addr} {v : Value} (h : wr.cell? a = some v) : wr.drew.cell? a = some v ∧ Below wr.heap.size wr wr.drew :=
  ⟨h, (Below.refl _ _).drew⟩
end Go.Proofs.Ytcmhiindjponcaa
namespace Go.Proofs.Ytcmhiindjponcaa
open Go.RowKit

/-- The marks k, k + 1, .., n of them. -/
def marks (k n : Nat) : List ByteArray := (List.range n).map fun i => mark (k + i)
theorem marks_length (k n : Nat) : (marks k n).length = n := by simp [marks]
theorem marks_succ (k n : Nat) : marks k (n + 1) = marks k n ++ [mark (k + n)] := by simp [marks, List.range_succ]
theorem marks_at (k n i : Nat) (h : i < n) : (marks k n)[i]? = some (mark (k + i)) := by simp [marks, h]

theorem marks_set (k j : Nat) (xs : List Value) (h : j < xs.length) : ((marks k j).map Value.string ++ xs.drop j).set j (.string (mark (k + j))) = (marks k (j + 1)).map Value.string ++ xs.drop (j + 1) := by
  have hl : ((marks k j).map Value.string).length = j := by simp [marks_length]
  rw [List.set_append_right _ _ (by omega), hl, Nat.sub_self, marks_succ, List.drop_eq_getElem_cons h, List.set_cons_zero, List.map_append, List.append_assoc]
  rfl

def MarksEnd (B : Nat) (v : Value) (k n : Nat) (w : World) (e : Ending) (w' : World) : Prop :=
  e = .returned (.int .i64 ((k : Int) + n)) ∧ w'.ownsRow B 9 1 v n ((marks k n).map Value.string) ∧ w.grownBy w' v.ownBlock

set_option maxRecDepth 100000 in
set_option maxHeartbeats 400000 in
theorem marks_some (B g n cap k : Nat) (xs : List Value) (w : World) (hk : 1 ≤ k) (hkn : (k : Int) + n ≤ 9223372036854775807)
    (hown : w.ownsRow B 9 1 (.slice (some ⟨g, 0, none⟩) n cap) n xs) :
    Calls Try.prog 76 #[.slice (some ⟨g, 0, none⟩) n cap, .int .i64 k] w (MarksEnd B (.slice (some ⟨g, 0, none⟩) n cap) k n w) := by
  have HO := Lib.hid hown; clear hown
  go_enter Try.func76, Try.ntmps76
  go_wp2
  go_loopw [1, 5] (fun q i wr => ∃ j : Nat, j ≤ n ∧ i = .int .i64 j ∧ q = .int .i64 ((k : Int) + j) ∧ wr.ownsRow B 9 1 (.slice (some ⟨g, 0, none⟩) n cap) n ((marks k j).map Value.string ++ xs.drop j) ∧ w.grownBy wr (some g)) (fun _ i _ => n - (intOf i).toNat)
  case atStart => exact ⟨0, Nat.zero_le _, rfl, by simp, by simpa [marks] using HO.out, grown_refl _ _⟩
  case round =>
    obtain ⟨j, hj, rfl, rfl, ho, hg⟩ := hrel
    have HG := Lib.hid hg; clear hg
    have HO1 := Lib.hid ho; clear ho
    by_cases hlt : j < n
    · have hxl : xs.length = n := by simpa using HO.out.1
      have HXL := Lib.hid hxl; clear hxl
      go_wp2_with fail
      refine (markText_int _ (k + j) _ (by omega) (by omega) (by omega)).mono ?_
      rintro e w1 ⟨rfl, hb⟩
      have ho2 := HO1.out.kept (Below.toGrown hb none) (Or.inr (by simp [Value.ownBlock]))
      obtain ⟨u, hu⟩ : ∃ u, ((marks k j).map Value.string ++ xs.drop j)[j]? = some u := ⟨_, List.getElem?_eq_getElem (by simp [marks_length]; have := HXL.out; omega)⟩
      have hcell : w1.cell? ⟨g, j, none⟩ = some u := by rw [ho2.cellAt j (by omega), hu]
      have hfrz : w1.frozen? ⟨g, j, none⟩ = false := ho2.frozenAt j
      have hst := ho2.stored j (.string (mark (k + j)))
      rw [marks_set k j xs (by have := HXL.out; omega)] at hst
      have HS := Lib.hid hst; clear hst ho2 hu
      have HB := Lib.hid hb; clear hb
      go_wp2
      go_roundw
      case rel => exact ⟨j + 1, by omega, by go_num, by go_num, HS.out.1, grown_trans (grown_trans HG.out (Below.toGrown HB.out _)) HS.out.2⟩
      case measure => simp [intOf]; omega
    · have hje : j = n := by omega
      subst hje
      go_wp2
      go_ret
      refine ⟨rfl, ?_, HG.out⟩
      have h1 := HO1.out
      rw [List.drop_eq_nil_of_le (by have := HO.out.1; omega), List.append_nil] at h1
      exact h1

set_option maxRecDepth 100000 in
set_option maxHeartbeats 400000 in
theorem marks_none (B cap k : Nat) (a : Option Addr) (w : World) (hown : w.ownsRow B 9 1 (.slice a 0 cap) 0 []) :
    Calls Try.prog 76 #[.slice a 0 cap, .int .i64 k] w (MarksEnd B (.slice a 0 cap) k 0 w) := by
  have HO := Lib.hid hown; clear hown
  go_enter Try.func76, Try.ntmps76
  go_wp2
  refine wp_loop_rounds 1 ?_
  rw [rounds_succ]
  go_wp2
  go_ret
  exact ⟨by simp, HO.out, grown_refl _ _⟩

/-- laws.markStringS, at a slice of the call's own. -/
theorem marks_any (B n k : Nat) (v : Value) (xs : List Value) (w : World) (hk : 1 ≤ k) (hkn : (k : Int) + n ≤ 9223372036854775807) (hown : w.ownsRow B 9 1 v n xs) :
    Calls Try.prog 76 #[v, .int .i64 k] w (MarksEnd B v k n w) := by
  rcases hown.2 with ⟨rfl, rfl⟩ | ⟨g, cap, cur, rfl, _⟩
  · have hx : xs = [] := List.eq_nil_of_length_eq_zero (by simpa using hown.1)
    subst hx
    exact marks_none B 0 k none w hown
  · exact marks_some B g n cap k xs w hk hkn hown

def HeldEnd (k n : Nat) (w : World) (e : Ending) (w' : World) : Prop := e = .returned (.int .i64 ((k : Int) + n)) ∧ Below w.heap.size w w'

set_option maxRecDepth 100000 in
set_option maxHeartbeats 800000 in
theorem held_some (B g n cap k : Nat) (w : World) (hk : 1 ≤ k) (hkn : (k : Int) + n ≤ 9223372036854775807)
    (hown : w.ownsRow B 9 1 (.slice (some ⟨g, 0, none⟩) n cap) n ((marks k n).map Value.string)) :
    Calls Try.prog 78 #[.slice (some ⟨g, 0, none⟩) n cap, .int .i64 k] w (HeldEnd k n w) := by
  have hg : n ≠ 0 → g < w.heap.size := fun h => (hown.lt g rfl).2
  have HO := Lib.hid hown; clear hown
  go_enter Try.func78, Try.ntmps78
  go_wp2
  go_loopw [1, 5] (fun q i wr => ∃ j : Nat, j ≤ n ∧ i = .int .i64 j ∧ q = .int .i64 ((k : Int) + j) ∧ Below w.heap.size w wr) (fun _ i _ => n - (intOf i).toNat)
  case atStart => exact ⟨0, Nat.zero_le _, rfl, by simp, Below.refl _ _⟩
  case round =>
    obtain ⟨j, hj, rfl, rfl, hb⟩ := hrel
    by_cases hlt : j < n
    · have hcell : wr.cell? ⟨g, j, none⟩ = some (.string (mark (k + j))) := by
        rw [hb.cell (by exact hg (by omega)), HO.out.cellAt j (by omega)]
        simp [marks_at k n j hlt]
      have hgw : g < wr.heap.size := by have := hb.size; have := hg (by omega); omega
      have HB := Lib.hid hb; clear hb hg
      have hb0 : Below wr.heap.size wr wr := Below.refl _ _
      have hq : ((mark (k + j)).toList == (mark (k + j)).toList) = true := by simp
      go_wp2
      go_region_held3 (fun w' => w'.cell? ⟨g, j, none⟩ = some (.string (mark (k + j))) ∧ Below wr.heap.size wr w') (first | exact held_call (by assumption) hgw hcell | exact held_draw hcell | go_keep)
        (first | (go_at_call 86; refine (markText_int _ (k + j) _ (by omega) (by omega) (by omega)).mono ?_; rintro e w1 ⟨rfl, hb1⟩))
      have hb2 : Below wr.heap.size wr w1 := ((Below.refl _ _).drew).trans hb1
      have HB2 := Lib.hid (HB.out.trans (hb2.mono HB.out.size)); clear hb2 hb1 hb0
      go_wp2
      go_roundw
      case rel => exact ⟨j + 1, by omega, by go_num, by go_num, HB2.out⟩
      case measure => simp [intOf]; omega
    · have hje : j = n := by omega
      subst hje
      go_wp2
      go_ret
      exact ⟨rfl, hb⟩

set_option maxRecDepth 100000 in
set_option maxHeartbeats 400000 in
theorem held_none (cap k : Nat) (a : Option Addr) (w : World) :
    Calls Try.prog 78 #[.slice a 0 cap, .int .i64 k] w (HeldEnd k 0 w) := by
  go_enter Try.func78, Try.ntmps78
  go_wp2
  refine wp_loop_rounds 1 ?_
  rw [rounds_succ]
  go_wp2
  go_ret
  exact ⟨by simp, Below.refl _ _⟩

/-- laws.heldStringS, at a slice of the call's own that holds the marks. -/
theorem held_any (B n k : Nat) (v : Value) (w : World) (hk : 1 ≤ k) (hkn : (k : Int) + n ≤ 9223372036854775807) (hown : w.ownsRow B 9 1 v n ((marks k n).map Value.string)) :
    Calls Try.prog 78 #[v, .int .i64 k] w (HeldEnd k n w) := by
  rcases hown.2 with ⟨rfl, rfl⟩ | ⟨g, cap, cur, rfl, _⟩
  · exact held_none 0 k none w
  · exact held_some B g n cap k w hk hkn hown
end Go.Proofs.Ytcmhiindjponcaa
