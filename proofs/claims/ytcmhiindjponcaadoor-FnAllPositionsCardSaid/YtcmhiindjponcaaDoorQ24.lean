/-
  spec.FormatPosition and impl.FormatPosition: the indices in decimal, with a point between them; "top" for none.
  laws.big tells whether a draw has more than 1048576 bytes.
  What lies below is kept twice. No walk.
-/
import Derived.Test.YtcmhiindjponcaaDoorQ6
import Derived.Test.YtcmhiindjponcaaDoorQ22
import Derived.Test.YtcmhiindjponcaaDoorQ23
import Derived.Test.YtcmhiindjponcaaDoorQ3
import Derived.Test.YtcmhiindjponcaaDoorQ4
import Derived.Lib.ItoaLen
import Derived.WalkLawsBesides
import Derived.Lib.Hide
namespace Go.Proofs.YtcmhiindjponcaaDoor
open Go.RowKit

/-- An index in decimal. -/
def strI (p : Int) : ByteArray := ⟨(Lib.itoa p).toArray⟩
/-- A position in decimal. -/
def fmtP (ps : List Int) : ByteArray := if ps = [] then ⟨#[116, 111, 112]⟩ else ⟨(Lib.join ((ps.map strI).map (·.data.toList)) [46]).toArray⟩
/-- The integers fit an int. -/
def Fits (ps : List Int) : Prop := ∀ p ∈ ps, -9223372036854775808 ≤ p ∧ p ≤ 9223372036854775807
theorem strI_size (p : Int) (h0 : -9223372036854775808 ≤ p) (h1 : p ≤ 9223372036854775807) : (strI p).size ≤ 21 := by
  have := Lib.itoa_length_le p h0 h1
  show (Lib.itoa p).toArray.size ≤ 21
  simp; omega
theorem total_strI (ps : List Int) (h : Fits ps) : total (ps.map strI) ≤ 21 * ps.length := by
  induction ps with
  | nil => simp [total]
  | cons p ps ih =>
    have h1 := ih (fun q hq => h q (by simp [hq]))
    have h2 := strI_size p (h p (by simp)).1 (h p (by simp)).2
    simp only [total, List.map_cons, List.sum_cons, List.length_cons] at *
    omega
theorem takeS (ps : List Int) (k : Nat) (p : Int) (h : ps[k]? = some p) : (ps.take (k + 1)).map strI = (ps.take k).map strI ++ [strI p] := by
  rw [takeI ps k p h, List.map_append]; rfl
def FmtB (ps : List Int) (w : World) (e : Ending) (w' : World) : Prop := e = .returned (.string (fmtP ps)) ∧ Below w.heap.size w w'
theorem fmtP_nil : fmtP [] = ⟨#[116, 111, 112]⟩ := rfl
theorem fmtP_some {ps : List Int} (h : ps ≠ []) : fmtP ps = ⟨(Lib.join ((ps.map strI).map (·.data.toList)) (ByteArray.mk #[46]).data.toList).toArray⟩ := by
  unfold fmtP; rw [if_neg h]
  
set_option maxRecDepth 100000 in
set_option maxHeartbeats 800000 in
theorem sFmtPos_any (v : Value) (ps : List Int) (w : World) (hl : ps.length ≤ 1048576) (hf : Fits ps) (hv : IntsAt w v ps) :
    Calls Tryd.prog 11 #[v] w (FmtB ps w) := by
  obtain ⟨i0, hi, hz0, hz1, hz2⟩ := info_parts infoStr'
  have HI := Lib.hid hi; clear hi
  have HZ0 := Lib.hid hz0; clear hz0
  have HZ1 := Lib.hid hz1; clear hz1
  have HZ2 := Lib.hid hz2; clear hz2
  obtain ⟨a, cap, rfl⟩ := hv.slice
  by_cases hn0 : ps = []
  · subst hn0
    clear hv
    go_enter Tryd.func11, Tryd.ntmps11
    go_wp2
    go_ret
    exact ⟨by rw [fmtP_nil]; rfl, Below.refl _ _⟩
  have HT := Lib.hid (total_strI ps hf)
  have HFS := Lib.hid (fmtP_some hn0)
  have HV := Lib.hid hv; clear hv
  have HF := Lib.hid hf; clear hf
  obtain ⟨n, hn⟩ : ∃ n, n = ps.length := ⟨_, rfl⟩
  have hnz : ((n : Int) == 0) = false := by
    have : ps.length ≠ 0 := fun e => hn0 (List.eq_nil_of_length_eq_zero e)
    simp; omega
  clear hn0
  rw [← hn] at hl HV ⊢
  have HN := Lib.hid hn; clear hn
  go_enter Tryd.func11, Tryd.ntmps11
  go_wp2
  go_loopw [3, 4] (fun v i wr => ∃ k : Nat, k ≤ n ∧ i = .int .i64 k ∧ wr.ownsRow w.heap.size 9 1 v k (((ps.take k).map strI).map Value.string) ∧ Below w.heap.size w wr) (fun _ i _ => n - (intOf i).toNat)
  case atStart =>
    exact ⟨0, Nat.zero_le _, rfl, World.ownsRow_lit w #[] 0 (Nat.le_refl _) (by decide) rfl, (Below.refl _ _).alloc (Nat.le_refl _) _⟩
  case round =>
    obtain ⟨k, hk, rfl, hown, hb⟩ := hrel
    have HO := Lib.hid hown; clear hown
    have HB := Lib.hid hb; clear hb
    by_cases hlt : k < n
    · obtain ⟨p, hp⟩ : ∃ p, ps[k]? = some p := ⟨_, List.getElem?_eq_getElem (by have := HN.out; omega)⟩
      obtain ⟨b, o, rfl, hcell⟩ := (HV.out.below HB.out).at hp
      have HTK := Lib.hid (takeS ps k p hp)
      have hfp := HF.out p (List.mem_of_getElem? hp); clear hp
      have HFP := Lib.hid hfp; clear hfp
      go_wp2_with fail
      refine (sFormat_any p _ HFP.out.1 HFP.out.2).mono ?_
      rintro e w1 ⟨rfl, hb1⟩
      have HO1 := Lib.hid (keep_own HO.out hb1)
      have HB1 := Lib.hid (HB.out.trans (hb1.mono HB.out.size)); clear hb1 hcell
      go_wp2_with (first | (at_builtin; refine wpList_append_own _ rfl (.tmp 15) (.tmp 21) 50 rfl w.heap.size 9 i0 (.string ByteArray.empty) 1 16 Tryd.underlying50 HI.out HZ0.out HZ1.out HZ2.out rfl (by decide) _ _ _ rfl (HO1.out.alloc _) ⟨w1.heap.size, 0, none⟩ 1 1 [.string (strI p)] rfl rfl ?c1 ?c2 ?c3 ?c4 ?c5 ?_))
      case c1 => exact cell_one_new _ _ _
      case c2 => intro u hu; simp at hu; subst hu; rfl
      case c3 => unfold maxLen; omega
      case c4 => omega
      case c5 => have := HB1.out.size; simp; omega
      intro v' w2 hown' hgrow _
      have hb2 : Below w.heap.size w w2 := (HB1.out.alloc (by have := HB1.out.size; omega) _).grown hgrow (by have := HB1.out.size; simp; omega) (fun j hj => (HO1.out.lt j hj).1)
      have hown2 : w2.ownsRow w.heap.size 9 1 v' (k + 1) (((ps.take (k + 1)).map strI).map Value.string) := by rw [HTK.out]; simpa using hown'
      have HO2 := Lib.hid hown2; clear hown2 hown' hgrow
      have HB2 := Lib.hid hb2; clear hb2
      go_wp2
      go_roundw
      case rel => exact ⟨k + 1, by omega, by go_num, HO2.out, HB2.out⟩
      case measure => simp [intOf]; omega
    · have hkn : k = n := by omega
      have HE : Hid ((ps.take k).map strI = ps.map strI ∧ k = (ps.map strI).length) := Lib.hid ⟨by rw [hkn, HN.out, List.take_length], by rw [hkn, HN.out, List.length_map]⟩
      have h := HO.out
      rw [HE.out.1, HE.out.2] at h
      have HSA := Lib.hid (StrsAt.of_owns h); clear h
      clear hkn
      go_wp2_with fail
      refine (sJoin_any _ (ps.map strI) ⟨#[46]⟩ _ (by have := HT.out; have := HN.out; rw [List.length_map]; omega) (by decide) HSA.out).mono ?_
      rintro e w1 ⟨rfl, hb1⟩
      have HB1 := Lib.hid (HB.out.trans (hb1.mono HB.out.size)); clear hb1
      go_wp2
      go_ret
      exact ⟨by rw [HFS.out, List.map_map]; rfl, HB1.out⟩

set_option maxRecDepth 100000 in
set_option maxHeartbeats 800000 in
theorem iFmtPos_any (v : Value) (ps : List Int) (w : World) (hl : ps.length ≤ 1048576) (hf : Fits ps) (hv : IntsAt w v ps) (ht : PowTab w) (hs : 0 < w.heap.size) :
    Calls Tryd.prog 10 #[v] w (FmtB ps w) := by
  obtain ⟨i0, hi, hz0, hz1, hz2⟩ := info_parts infoStr'
  have HI := Lib.hid hi; clear hi
  have HZ0 := Lib.hid hz0; clear hz0
  have HZ1 := Lib.hid hz1; clear hz1
  have HZ2 := Lib.hid hz2; clear hz2
  obtain ⟨a, cap, rfl⟩ := hv.slice
  by_cases hn0 : ps = []
  · subst hn0
    clear hv
    go_enter Tryd.func10, Tryd.ntmps10
    go_wp2
    go_ret
    exact ⟨by rw [fmtP_nil]; rfl, Below.refl _ _⟩
  have HTP := Lib.hid (And.intro ht hs); clear ht hs
  have HT := Lib.hid (total_strI ps hf)
  have HFS := Lib.hid (fmtP_some hn0)
  have HV := Lib.hid hv; clear hv
  have HF := Lib.hid hf; clear hf
  obtain ⟨n, hn⟩ : ∃ n, n = ps.length := ⟨_, rfl⟩
  have hnz : ((n : Int) == 0) = false := by
    have : ps.length ≠ 0 := fun e => hn0 (List.eq_nil_of_length_eq_zero e)
    simp; omega
  clear hn0
  rw [← hn] at hl HV ⊢
  have HN := Lib.hid hn; clear hn
  go_enter Tryd.func10, Tryd.ntmps10
  go_wp2
  go_loopw [3, 11] (fun v i wr => ∃ k : Nat, k ≤ n ∧ i = .int .i64 k ∧ wr.ownsRow w.heap.size 9 1 v k (((ps.take k).map strI).map Value.string) ∧ Below w.heap.size w wr) (fun _ i _ => n - (intOf i).toNat)
  case atStart =>
    exact ⟨0, Nat.zero_le _, rfl, ⟨rfl, Or.inl ⟨rfl, rfl⟩⟩, Below.refl _ _⟩
  case round =>
    obtain ⟨k, hk, rfl, hown, hb⟩ := hrel
    have HO := Lib.hid hown; clear hown
    have HB := Lib.hid hb; clear hb
    by_cases hlt : k < n
    · obtain ⟨p, hp⟩ : ∃ p, ps[k]? = some p := ⟨_, List.getElem?_eq_getElem (by have := HN.out; omega)⟩
      obtain ⟨b, o, rfl, hcell⟩ := (HV.out.below HB.out).at hp
      have HTK := Lib.hid (takeS ps k p hp)
      have hfp := HF.out p (List.mem_of_getElem? hp); clear hp
      have HFP := Lib.hid hfp; clear hfp
      go_wp2_with fail
      refine (iFormat_any p _ HFP.out.1 HFP.out.2 (HTP.out.1.below HB.out HTP.out.2)).mono ?_
      rintro e w1 ⟨rfl, hb1⟩
      have HO1 := Lib.hid (keep_own HO.out hb1)
      have HB1 := Lib.hid (HB.out.trans (hb1.mono HB.out.size)); clear hb1 hcell
      go_wp2_with (first | (at_builtin; refine wpList_append_own _ rfl (.tmp 15) (.tmp 18) 50 rfl w.heap.size 9 i0 (.string ByteArray.empty) 1 16 Tryd.underlying50 HI.out HZ0.out HZ1.out HZ2.out rfl (by decide) _ _ _ rfl (HO1.out.alloc _) ⟨w1.heap.size, 0, none⟩ 1 1 [.string (strI p)] rfl rfl ?c1 ?c2 ?c3 ?c4 ?c5 ?_))
      case c1 => exact cell_one_new _ _ _
      case c2 => intro u hu; simp at hu; subst hu; rfl
      case c3 => unfold maxLen; omega
      case c4 => omega
      case c5 => have := HB1.out.size; simp; omega
      intro v' w2 hown' hgrow _
      have hb2 : Below w.heap.size w w2 := (HB1.out.alloc (by have := HB1.out.size; omega) _).grown hgrow (by have := HB1.out.size; simp; omega) (fun j hj => (HO1.out.lt j hj).1)
      have hown2 : w2.ownsRow w.heap.size 9 1 v' (k + 1) (((ps.take (k + 1)).map strI).map Value.string) := by rw [HTK.out]; simpa using hown'
      have HO2 := Lib.hid hown2; clear hown2 hown' hgrow
      have HB2 := Lib.hid hb2; clear hb2
      go_wp2
      go_roundw
      case rel => exact ⟨k + 1, by omega, by go_num, HO2.out, HB2.out⟩
      case measure => simp [intOf]; omega
    · have hkn : k = n := by omega
      have HE : Hid ((ps.take k).map strI = ps.map strI ∧ k = (ps.map strI).length) := Lib.hid ⟨by rw [hkn, HN.out, List.take_length], by rw [hkn, HN.out, List.length_map]⟩
      have h := HO.out
      rw [HE.out.1, HE.out.2] at h
      have HSA := Lib.hid h; clear h
      clear hkn
      go_wp2_with fail
      refine (iJoin_any _ _ (ps.map strI) ⟨#[46]⟩ _ (by have := HT.out; have := HN.out; rw [List.length_map]; omega) (by decide) HSA.out).mono ?_
      rintro e w1 ⟨rfl, hb1⟩
      have HB1 := Lib.hid (HB.out.trans (hb1.mono HB.out.size)); clear hb1
      go_wp2
      go_ret
      exact ⟨by rw [HFS.out, List.map_map]; rfl, HB1.out⟩
end Go.Proofs.YtcmhiindjponcaaDoor
namespace Go.Proofs.YtcmhiindjponcaaDoor
open Go.RowKit

def TrueAt (w : World) (e : Ending) (w' : World) : Prop := e = .returned (.bool true) ∧ Below w.heap.size w w'

set_option maxRecDepth 100000 in
set_option maxHeartbeats 400000 in
theorem big_any (a : Option Addr) (len cap : Nat) (w : World) :
    Calls Tryd.prog 4 #[.slice a len cap] w fun e w' => e = .returned (.bool (decide (1048576 < len))) ∧ w = w' := by
  go_enter Tryd.func4, Tryd.ntmps4
  go_wp2
  go_ret
  refine ⟨?_, rfl⟩
  rw [show decide (1048576 < len) = decide ((1048576 : Int) < (len : Int)) from decide_eq_decide.2 (by omega)]
  rfl
end Go.Proofs.YtcmhiindjponcaaDoor
namespace Go.Proofs.YtcmhiindjponcaaDoor
open Go.RowKit

theorem bel_two {w a b : World} (h : Below w.heap.size w a) (k : Below a.heap.size a b) : Below w.heap.size w b := h.trans (k.mono h.size)
end Go.Proofs.YtcmhiindjponcaaDoor
