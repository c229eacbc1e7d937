/-
  spec.SplitByte returns the pieces of its string between the occurrences of the byte, in a slice of its own.
-/
import Derived.Test.YtjdcehnjdfhbnaaDoorRows
import Derived.Test.YtjdcehnjdfhbnaaDoorMathD
import Derived.WalkKit
import Derived.WalkSpells
import Derived.WalkLawsBesides
import Derived.Lib.Hide
namespace Go.Proofs.YtjdcehnjdfhbnaaDoor
open Go.RowKit

theorem infoStr : (Tryd.prog.info? 9).map (fun i => (i.zero, i.size, i.bytes)) = some (some (.string ByteArray.empty), 1, 16) := by kernel_rfl

/-- How far the cut has come: the pieces ps lie behind, the open piece begins at f, the next byte is k. -/
def CutAt (c : UInt8) (s : ByteArray) (ps : List ByteArray) (f k : Nat) : Prop :=
  f ≤ k ∧ ps.length ≤ k ∧ (k ≤ s.size → ps.map (·.data.toList) ++ cutFrom c ((s.data.toList.drop f).take (k - f)) (s.data.toList.drop k) = cut c s.data.toList) ∧ (s.size < k → ps.map (·.data.toList) = cut c s.data.toList)

theorem cutAt_start (c : UInt8) (s : ByteArray) : CutAt c s [] 0 0 := ⟨Nat.le_refl _, Nat.le_refl _, fun _ => rfl, fun h => by omega⟩

theorem piece_data (s : ByteArray) (f k : Nat) : (s.extract f k).data.toList = (s.data.toList.drop f).take (k - f) := by rw [Lib.extract_data]

theorem drop_byte (s : ByteArray) (k : Nat) (h : k < s.size) : s.data.toList.drop k = s[k] :: s.data.toList.drop (k + 1) := by
  have e : s.data.toList.length = s.size := by simp
  rw [List.drop_eq_getElem_cons (by omega)]; rfl

theorem cutAt_push {c : UInt8} {s : ByteArray} {ps : List ByteArray} {f k : Nat} (h : CutAt c s ps f k) (hk : k < s.size) (hc : s[k] = c) : CutAt c s (ps ++ [s.extract f k]) (k + 1) (k + 1) := by
  obtain ⟨h1, h2, h3, _⟩ := h
  refine ⟨Nat.le_refl _, by simp; omega, fun _ => ?_, fun hh => by omega⟩
  rw [← h3 (by omega), drop_byte s k hk, cutFrom, if_pos hc, List.map_append, List.append_assoc]
  simp
theorem cutAt_last {c : UInt8} {s : ByteArray} {ps : List ByteArray} {f : Nat} (h : CutAt c s ps f s.size) : CutAt c s (ps ++ [s.extract f s.size]) (s.size + 1) (s.size + 1) := by
  obtain ⟨h1, h2, h3, _⟩ := h
  refine ⟨Nat.le_refl _, by simp; omega, fun hh => by omega, fun _ => ?_⟩
  have e : s.data.toList.drop s.size = [] := List.drop_eq_nil_of_le (by simp)
  rw [← h3 (by omega), e, cutFrom, List.map_append]
  simp
theorem cutAt_skip {c : UInt8} {s : ByteArray} {ps : List ByteArray} {f k : Nat} (h : CutAt c s ps f k) (hk : k < s.size) (hc : s[k] ≠ c) : CutAt c s ps f (k + 1) := by
  obtain ⟨h1, h2, h3, _⟩ := h
  refine ⟨by omega, by omega, fun _ => ?_, fun hh => by omega⟩
  rw [← h3 (by omega), drop_byte s k hk, cutFrom, if_neg hc]
  congr 2
  have e : s.data.toList.length = s.size := by simp
  rw [show k + 1 - f = (k - f) + 1 by omega, List.take_succ_eq_append_getElem (by simp; omega)]
  congr 1
  simp only [List.getElem_drop]
  congr 1
  have : s[k] = s.data.toList[k]'(by omega) := rfl
  rw [this]
  congr 1; omega

/-- What the cut hands back: a slice of the call's own, of strings that are the pieces. -/
def CutEnd (c : UInt8) (s : ByteArray) (w : World) (e : Ending) (w' : World) : Prop :=
  ∃ (v : Value) (ps : List ByteArray), e = .returned v ∧ ps.map (·.data.toList) = cut c s.data.toList ∧ w'.ownsRow w.heap.size 9 1 v ps.length (ps.map Value.string) ∧ Below w.heap.size w w'

set_option maxRecDepth 100000 in
set_option maxHeartbeats 800000 in
theorem sSplit_any (s : ByteArray) (c : UInt8) (w : World) (hs : s.size ≤ 1048576) :
    Calls Tryd.prog 20 #[.string s, .int .u8 (c.toNat : Int)] w (CutEnd c s w) := by
  obtain ⟨i0, hi, hz0, hz1, hz2⟩ := info_parts infoStr
  have HI := Lib.hid hi; clear hi
  have HZ0 := Lib.hid hz0; clear hz0
  have HZ1 := Lib.hid hz1; clear hz1
  have HZ2 := Lib.hid hz2; clear hz2
  go_enter Tryd.func20, Tryd.ntmps20
  go_wp2
  go_loopw [5, 6, 7] (fun v f i wr => ∃ (a k : Nat) (ps : List ByteArray), k ≤ s.size + 1 ∧ i = .int .i64 k ∧ f = .int .i64 a ∧ a ≤ k ∧ CutAt c s ps a k ∧ wr.ownsRow w.heap.size 9 1 v ps.length (ps.map Value.string) ∧ Below w.heap.size w wr) (fun _ _ i _ => s.size + 1 - (intOf i).toNat)
  case atStart =>
    exact ⟨0, 0, [], by omega, rfl, rfl, Nat.le_refl _, cutAt_start c s, World.ownsRow_lit w #[] 0 (Nat.le_refl _) (by decide) rfl, (Below.refl _ _).alloc (Nat.le_refl _) _⟩
  case round =>
    obtain ⟨a, k, ps, hk, rfl, rfl, hak, hcut, hown, hb⟩ := hrel
    have HC := Lib.hid hcut; clear hcut
    have hps : ps.length ≤ 1048577 := by have := HC.out.2.1; omega
    have HB := Lib.hid hb; clear hb
    by_cases hlt : k < s.size
    · have hne : ((k : Int) == (s.size : Int)) = false := by rw [beq_eq_false_iff_ne]; omega
      by_cases hc : s[k] = c
      · have hq : ((s[k].toNat : Int) == (c.toNat : Int)) = true := by rw [hc]; simp
        have HP := Lib.hid (cutAt_push HC.out hlt hc); clear hc
        go_wp2_with (first | (at_builtin; refine wpList_append_own _ rfl (.tmp 26) (.tmp 31) 31 rfl w.heap.size 9 i0 (.string ByteArray.empty) 1 16 Tryd.underlying31 HI.out HZ0.out HZ1.out HZ2.out rfl (by decide) _ _ _ rfl (hown.alloc _) ⟨wr.heap.size, 0, none⟩ 1 1 [.string (s.extract a k)] rfl rfl ?c1 ?c2 ?c3 ?c4 ?c5 ?_))
        case c1 => exact cell_one_new _ _ _
        case c2 => intro u hu; simp at hu; subst hu; rfl
        case c3 => unfold maxLen; omega
        case c4 => omega
        case c5 => have := HB.out.size; simp; omega
        intro v' w1 hown' hgrow _
        have hb2 : Below w.heap.size w w1 := (HB.out.alloc (by have := HB.out.size; omega) _).grown hgrow (by have := HB.out.size; simp; omega) (fun j hj => (hown.lt j hj).1)
        have hown2 : w1.ownsRow w.heap.size 9 1 v' (ps ++ [s.extract a k]).length ((ps ++ [s.extract a k]).map Value.string) := by simpa using hown'
        have HO := Lib.hid hown2; clear hown2 hown' hgrow hown
        have HB2 := Lib.hid hb2; clear hb2
        go_wp2
        go_roundw
        case rel => exact ⟨k + 1, k + 1, ps ++ [s.extract a k], by omega, by go_num, by go_num, by omega, HP.out, HO.out, HB2.out⟩
        case measure => simp [intOf]; omega
      · have hq : ((s[k].toNat : Int) == (c.toNat : Int)) = false := by rw [beq_eq_false_iff_ne]; intro e; exact hc (UInt8.toNat_inj.1 (by omega))
        have HP := Lib.hid (cutAt_skip HC.out hlt hc); clear hc
        go_wp2
        go_roundw
        case rel => exact ⟨a, k + 1, ps, by omega, by go_num, rfl, by omega, HP.out, hown, HB.out⟩
        case measure => simp [intOf]; omega
    · by_cases hke : k = s.size
      · subst hke
        have hne : ((s.size : Int) == (s.size : Int)) = true := by simp
        have HP := Lib.hid (cutAt_last HC.out)
        go_wp2_with (first | (at_builtin; refine wpList_append_own _ rfl (.tmp 26) (.tmp 31) 31 rfl w.heap.size 9 i0 (.string ByteArray.empty) 1 16 Tryd.underlying31 HI.out HZ0.out HZ1.out HZ2.out rfl (by decide) _ _ _ rfl (hown.alloc _) ⟨wr.heap.size, 0, none⟩ 1 1 [.string (s.extract a s.size)] rfl rfl ?d1 ?d2 ?d3 ?d4 ?d5 ?_))
        case d1 => exact cell_one_new _ _ _
        case d2 => intro u hu; simp at hu; subst hu; rfl
        case d3 => unfold maxLen; omega
        case d4 => omega
        case d5 => have := HB.out.size; simp; omega
        intro v' w1 hown' hgrow _
        have hb2 : Below w.heap.size w w1 := (HB.out.alloc (by have := HB.out.size; omega) _).grown hgrow (by have := HB.out.size; simp; omega) (fun j hj => (hown.lt j hj).1)
        have hown2 : w1.ownsRow w.heap.size 9 1 v' (ps ++ [s.extract a s.size]).length ((ps ++ [s.extract a s.size]).map Value.string) := by simpa using hown'
        have HO := Lib.hid hown2; clear hown2 hown' hgrow hown
        have HB2 := Lib.hid hb2; clear hb2
        go_wp2
        go_roundw
        case rel => exact ⟨s.size + 1, s.size + 1, ps ++ [s.extract a s.size], by omega, by go_num, by go_num, by omega, HP.out, HO.out, HB2.out⟩
        case measure => simp [intOf]
      · have hdone := HC.out.2.2.2 (by omega)
        have HD := Lib.hid hdone; clear hdone
        go_wp2
        go_ret
        exact ⟨_, ps, rfl, HD.out, hown, HB.out⟩
end Go.Proofs.YtjdcehnjdfhbnaaDoor
