/-
  impl.textOf and impl.FormatTerm return a term's representation.
-/
import Derived.Test.YtidbokheeieifaaGreatDoorQ22
import Derived.Test.YtidbokheeieifaaGreatDoorQ23
namespace Go.Proofs.YtidbokheeieifaaGreatDoor
open Go.RowKit

theorem bel_drew5 {wr w1 : World} (hb : Below wr.drew.heap.size wr.drew w1) : Below wr.heap.size wr w1 := ((Below.refl _ _).drew).trans hb
def TextIAt (lo h : Nat) : Prop := ∀ (v : Value) (t : T) (w : World), TermAt w lo h v t → wT t ≤ 1048576 → OkT t → PowTab w → 1 < w.heap.size →
  Calls Tryz.prog 42 #[v] w (TextB t w)

theorem takeT (xs : List T) (k : Nat) (t : T) (h : xs[k]? = some t) : (xs.take (k + 1)).map strT = (xs.take k).map strT ++ [strT t] := by
  rw [tk xs k t h, List.map_append]; rfl
/-- The end of a representation: the name, the arguments with commas. -/
theorem strT_join {k n : Int} {s : ByteArray} {xs : List T} (h3 : k ≠ 3) (h0 : xs.length ≠ 0) : s ++ ⟨#[40]⟩ ++ ⟨(Lib.join ((xs.map strT).map (·.data.toList)) (ByteArray.mk #[44, 32]).data.toList).toArray⟩ ++ ⟨#[41]⟩ = strT (.node k n s xs) := by
  have e : s = ⟨s.data.toList.toArray⟩ := by simp
  rw [map_strT]
  conv => lhs; rw [e]
  unfold strT
  rw [show (⟨#[40]⟩ : ByteArray) = ⟨([40] : List UInt8).toArray⟩ from rfl, show (⟨#[41]⟩ : ByteArray) = ⟨([41] : List UInt8).toArray⟩ from rfl, ba_append, ba_append, ba_append, textL_node, if_neg h3, if_neg h0]

set_option maxRecDepth 100000 in
set_option maxHeartbeats 1600000 in
theorem iText_step (lo h : Nat) (IH : ∀ h', h = h' + 1 → TextIAt lo h') : TextIAt lo h := by
  intro v t w ht hw hok hpt hps
  obtain ⟨i0, hi, hz0, hz1, hz2⟩ := info_parts infoStr'
  have HI := Lib.hid hi; clear hi
  have HZ0 := Lib.hid hz0; clear hz0
  have HZ1 := Lib.hid hz1; clear hz1
  have HZ2 := Lib.hid hz2; clear hz2
  obtain ⟨kk, nn, s, u, xs, rfl, rfl, hs, ha⟩ := ht
  obtain ⟨a, cap, rfl⟩ := ha.slice
  obtain ⟨hn, hx⟩ := okT_kid hok
  have HX := Lib.hid hx; clear hx
  have HA := Lib.hid (ha.below (boxed_below w kk nn s (.slice a xs.length cap))); clear ha
  have HCT : Hid (cT (.node kk nn s xs) ≤ 1048577) := Lib.hid (by have := cT_le (.node kk nn s xs); omega)
  have HW : Hid (xs.length + wS xs ≤ 1048576 ∧ s.size ≤ 1048576) := Lib.hid (by rw [wT_node] at hw; omega)
  clear hw
  have HB0 := Lib.hid (boxed_below w kk nn s (.slice a xs.length cap))
  have HTP : Hid (∀ w', Below (boxed w kk nn s (.slice a xs.length cap)).heap.size (boxed w kk nn s (.slice a xs.length cap)) w' → PowTab w' ∧ 1 < w'.heap.size) := Lib.hid (fun w' hb => by
    have hb2 := HB0.out.trans (hb.mono HB0.out.size)
    exact ⟨hpt.below hb2 hps, Nat.lt_of_lt_of_le hps hb2.size⟩)
  clear hpt hps
  by_cases h3 : kk = 3
  · subst h3
    have hr : 0 ≤ nn ∧ nn ≤ 3 := by
      rcases hn with ⟨h, _⟩ | ⟨h, _⟩ | ⟨_, _, h0, h1, _⟩
      · omega
      · omega
      · exact ⟨h0, h1⟩
    have HF := Lib.hid (strT_word (n := nn) (s := s) (xs := xs))
    clear hn
    go_enter Tryz.func42, Tryz.ntmps42
    go_wp2_with fail
    refine (iFormat_any nn _ (by omega) (by omega) (HTP.out _ (Below.refl _ _)).1).mono ?_
    rintro e w1 ⟨rfl, hb1⟩
    have HB1 := Lib.hid (HB0.out.trans (hb1.mono HB0.out.size)); clear hb1
    go_wp2
    go_ret
    exact ⟨by rw [HF.out]; rfl, HB1.out⟩
  have h3' : (kk == 3) = false := by rw [beq_eq_false_iff_ne]; exact h3
  by_cases hx0 : xs = []
  · subst hx0
    have HF := Lib.hid (strT_leaf (k := kk) (n := nn) (s := s) h3)
    clear hn h3
    have hb := boxed_cells (Below.refl (boxed w kk nn s (.slice a ([] : List T).length cap)).heap.size (boxed w kk nn s (.slice a ([] : List T).length cap)))
    obtain ⟨c0, c1, c2, c3⟩ := hb
    go_enter Tryz.func42, Tryz.ntmps42
    go_wp2
    go_ret
    exact ⟨by rw [HF.out]; rfl, HB0.out⟩
  have hxl : xs.length ≠ 0 := fun e => hx0 (List.eq_nil_of_length_eq_zero e)
  have HJ := Lib.hid (strT_join (k := kk) (n := nn) (s := s) h3 hxl)
  have HJL : Hid (total (xs.map strT) + 2 * xs.length ≤ 12 * cS xs ∧ cS xs ≤ 1048576) := Lib.hid ⟨total_strT xs (fun x hm => textL_le x (HX.out x hm)), by have := HCT.out; rw [cT_node] at this; omega⟩
  clear hn hok hs hx0
  have HK3 := Lib.hid h3; clear h3
  obtain ⟨m, hm⟩ : ∃ m, m = xs.length := ⟨_, rfl⟩
  have hml : m ≤ 1048576 := by have := HW.out.1; omega
  have hmz : ((m : Int) == 0) = false := by rw [beq_eq_false_iff_ne]; omega
  clear hxl
  rw [← hm] at HA HB0 HTP ⊢
  have HM := Lib.hid hm; clear hm
  have HIH := Lib.hid IH; clear IH
  go_enter Tryz.func42, Tryz.ntmps42
  go_wp2
  go_loopw [3, 21] (fun v i wr => ∃ k : Nat, k ≤ m ∧ i = .int .i64 k ∧ Hid (wr.ownsRow (w.heap.size + 1) 9 1 v k (((xs.take k).map strT).map Value.string)) ∧ Hid (Below (boxed w kk nn s (.slice a m cap)).heap.size (boxed w kk nn s (.slice a m cap)) wr)) (fun _ i _ => m - (intOf i).toNat)
  case atStart => exact ⟨0, Nat.zero_le _, rfl, Lib.hid ⟨rfl, Or.inl ⟨rfl, rfl⟩⟩, Lib.hid (Below.refl _ _)⟩
  case round =>
    obtain ⟨k, hk, rfl, HO, HB⟩ := hrel
    obtain ⟨cb0, cb1, cb2, cb3⟩ := boxed_cells HB.out
    by_cases hlt : k < m
    · obtain ⟨t, ht⟩ : ∃ t, xs[k]? = some t := ⟨_, List.getElem?_eq_getElem (by have := HM.out; omega)⟩
      obtain ⟨h', b, o, tk', tn, tsn, txs, u', e, rfl, rfl, hsz, c0, c1, c2, c3, har⟩ := HA.out.at ht
      have d0 := cell_on HB.out c0
      have d1 := cell_on HB.out c1
      have d2 := cell_on HB.out c2
      have d3 := cell_on HB.out c3
      clear c0 c1 c2 c3
      have hwt := wT_at xs k _ ht
      have hokt := HX.out _ (List.mem_of_getElem? ht)
      have HBW : Hid (∀ w', Below wr.heap.size wr w' → Below (boxed w kk nn s (.slice (some ⟨b, o, none⟩) m cap)).heap.size (boxed w kk nn s (.slice (some ⟨b, o, none⟩) m cap)) w') := Lib.hid (fun w' hb => HB.out.trans (hb.mono HB.out.size))
      have HCALL : Hid (∀ w', Below wr.heap.size wr w' → Calls Tryz.prog 42 #[tv tk' tn tsn u'] w' (TextB (.node tk' tn tsn txs) w')) :=
        Lib.hid (fun w' hb => HIH.out h' e _ _ w' ⟨tk', tn, tsn, u', txs, rfl, rfl, hsz, har.below (HBW.out _ hb)⟩ (by have := HW.out; omega) hokt (HTP.out _ (HBW.out _ hb)).1 (HTP.out _ (HBW.out _ hb)).2)
      obtain ⟨ua, uc, rfl⟩ := har.slice
      have HTK := Lib.hid (takeT xs k _ ht)
      obtain ⟨st, hst⟩ : ∃ st, st = strT (.node tk' tn tsn txs) := ⟨_, rfl⟩
      obtain ⟨um, hum⟩ : ∃ um, um = txs.length := ⟨_, rfl⟩
      unfold TextB at HCALL
      rw [← hst, ← hum] at HCALL
      rw [← hst] at HTK
      rw [← hum] at d3
      clear hwt ht har hsz e hokt hst hum
      have hbx := (Below.refl wr.heap.size wr).alloc (Nat.le_refl _) (.cells #[.int .i64 tk', .int .i64 tn, .string tsn, .slice ua um uc] 26)
      have HBX := Lib.hid hbx; clear hbx
      go_wp2_with fail
      refine (HCALL.out _ HBX.out).mono ?_
      rintro e w1 ⟨rfl, hb1⟩
      have hbx1 := HBX.out.trans (hb1.mono HBX.out.size)
      have HB1 := Lib.hid hbx1; clear hbx1 hb1
      have HO1 := Lib.hid (keep_own HO.out HB1.out)
      have HS1 : Hid (w.heap.size + 1 ≤ w1.heap.size) := Lib.hid (by have := HB.out.size; have h2 := HB1.out.size; simp at this; omega)
      go_wp2_with (first | (at_builtin; refine wpList_append_own _ rfl (.tmp 25) (.tmp 28) 52 rfl (w.heap.size + 1) 9 i0 (.string ByteArray.empty) 1 16 Tryz.underlying52 HI.out HZ0.out HZ1.out HZ2.out rfl (by decide) _ _ _ rfl (HO1.out.alloc _) ⟨w1.heap.size, 0, none⟩ 1 1 [.string st] rfl rfl ?c1 ?c2 ?c3 ?c4 ?c5 ?_))
      case c1 => exact cell_one_new _ _ _
      case c2 => intro u hu; simp at hu; subst hu; rfl
      case c3 => unfold maxLen; omega
      case c4 => omega
      case c5 => have := HS1.out; simp; omega
      intro v' w2 hown' hgrow _
      have hb3 : Below (boxed w kk nn s (.slice (some ⟨b, o, none⟩) m cap)).heap.size (boxed w kk nn s (.slice (some ⟨b, o, none⟩) m cap)) w2 := by
        have h1 := HBW.out _ HB1.out
        have h2 : (boxed w kk nn s (.slice (some ⟨b, o, none⟩) m cap)).heap.size = w.heap.size + 1 := by simp
        exact (h1.alloc (by have := h1.size; omega) _).grown hgrow (by have := h1.size; simp; omega) (fun j hj => by rw [h2]; exact (HO1.out.lt j hj).1)
      have hown2 : w2.ownsRow (w.heap.size + 1) 9 1 v' (k + 1) (((xs.take (k + 1)).map strT).map Value.string) := by rw [HTK.out]; simpa using hown'
      have HO2 := Lib.hid hown2; clear hown2 hown' hgrow
      have HB2 := Lib.hid hb3; clear hb3
      go_wp2
      go_roundw
      case rel => exact ⟨k + 1, by omega, by go_num, HO2, HB2⟩
      case measure => simp [intOf]; omega
    · have hkn : k = xs.length := by have := HM.out; omega
      have HE : Hid ((xs.take k).map strT = xs.map strT ∧ k = (xs.map strT).length) := Lib.hid ⟨by rw [hkn, List.take_length], by rw [hkn, List.length_map]⟩
      have h := HO.out
      rw [HE.out.1, HE.out.2] at h
      have HSA := Lib.hid h; clear h
      clear hkn
      have HBE : Hid (∀ w', Below wr.heap.size wr w' → w'.cell? ⟨w.heap.size, 2, none⟩ = some (.string s) ∧ Below w.heap.size w w') := Lib.hid (fun w' hb => by
        have h1 := HB.out.trans (hb.mono HB.out.size)
        exact ⟨(boxed_cells h1).2.2.1, HB0.out.trans (h1.mono HB0.out.size)⟩)
      have HCJ : Hid (∀ w', Below wr.heap.size wr w' → Calls Tryz.prog 70 #[u3, .string ⟨#[44, 32]⟩] w' (fun e w2 => e = .returned (.string ⟨(Lib.join ((xs.map strT).map (·.data.toList)) (ByteArray.mk #[44, 32]).data.toList).toArray⟩) ∧ Below w'.heap.size w' w2)) :=
        Lib.hid (fun w' hb => iJoin_any _ _ (xs.map strT) ⟨#[44, 32]⟩ _ (by have := HJL.out; rw [List.length_map]; omega) (by decide) (keep_own HSA.out hb))
      have HJS : Hid ((⟨(Lib.join ((xs.map strT).map (·.data.toList)) (ByteArray.mk #[44, 32]).data.toList).toArray⟩ : ByteArray).size ≤ 25165824) := Lib.hid (by
        have h1 := join_length (ByteArray.mk #[44, 32]).data.toList (xs.map strT)
        have h2 := HJL.out
        have h3 : (ByteArray.mk #[44, 32]).data.toList.length = 2 := rfl
        rw [List.length_map, h3] at h1
        show (Lib.join _ _).toArray.size ≤ _
        rw [List.size_toArray]
        omega)
      obtain ⟨js, hjs⟩ : ∃ js, js = (⟨(Lib.join ((xs.map strT).map (·.data.toList)) (ByteArray.mk #[44, 32]).data.toList).toArray⟩ : ByteArray) := ⟨_, rfl⟩
      rw [← hjs] at HCJ HJS HJ
      clear hjs
      have hjsz := HJS.out
      have hssz := HW.out.2
      clear cb0 cb1 cb3
      go_wp2_with fail
      go_region_with (go_at_call 70; refine (HCJ.out _ ((Below.refl _ _).drew)).mono ?_; rintro e w5 ⟨rfl, hb5⟩; have hb5' : Below wr.heap.size wr w5 := bel_drew5 hb5; obtain ⟨q2, hqb⟩ := HBE.out _ hb5'; have HQB := Lib.hid hqb; clear hqb hb5 hb5')
      all_goals (
        go_wp2
        go_ret
        exact ⟨by rw [← HJ.out]; rfl, HQB.out⟩)

theorem iText_any (lo : Nat) (h : Nat) : TextIAt lo h := by_height (iText_step lo) h

set_option maxRecDepth 100000 in
set_option maxHeartbeats 800000 in
theorem iFmtT_any (v : Value) (t : T) (lo h : Nat) (w : World) (ht : TermAt w lo h v t) (hw : wT t ≤ 1048576) (hp : PowTab w) (hs : 1 < w.heap.size) :
    Calls Tryz.prog 22 #[v] w (FmtB5 t w) := by
  have HT := Lib.hid ht; clear ht
  have HW := Lib.hid hw; clear hw
  obtain ⟨k, n, s, u, rfl⟩ := HT.out.form
  have HB0 := Lib.hid (boxed_below w k n s u)
  have HP := Lib.hid (And.intro hp hs); clear hp hs
  obtain ⟨c0, c1, c2, c3⟩ := boxed_cells (Below.refl (boxed w k n s u).heap.size (boxed w k n s u))
  go_enter Tryz.func22, Tryz.ntmps22
  go_wp2_with fail
  refine (validT_any _ t lo h _ (HT.out.below HB0.out) HW.out).mono ?_
  rintro e w1 ⟨q, rfl, hq, hb1⟩
  have HQ := Lib.hid hq; clear hq
  have HB1 := Lib.hid (HB0.out.trans (hb1.mono HB0.out.size))
  clear c0 c1 c2 c3
  obtain ⟨c0, c1, c2, c3⟩ := boxed_cells hb1
  clear hb1
  cases q with
  | false =>
    go_wp2
    go_ret
    exact ⟨by rw [fmtT_no (fun h => by have := HQ.out.2 h; simp at this)]; rfl, HB1.out⟩
  | true =>
    have HV := Lib.hid (HQ.out.1 rfl)
    go_wp2_with fail
    refine (iText_any lo h _ t _ (HT.out.below HB1.out) HW.out HV.out.2.2 (HP.out.1.below HB1.out HP.out.2) (Nat.lt_of_lt_of_le HP.out.2 HB1.out.size)).mono ?_
    rintro e w2 ⟨rfl, hb2⟩
    have HB2 := Lib.hid (HB1.out.trans (hb2.mono HB1.out.size)); clear hb2
    go_wp2
    go_ret
    exact ⟨by rw [fmtT_ok HV.out]; rfl, HB2.out⟩
end Go.Proofs.YtidbokheeieifaaGreatDoor
