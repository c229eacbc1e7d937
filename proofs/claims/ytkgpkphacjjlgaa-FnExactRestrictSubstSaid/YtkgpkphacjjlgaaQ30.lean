/-
  The walk of laws.FnExactRestrictSubst.
-/
import Derived.Test.YtkgpkphacjjlgaaQ27
import Derived.Test.YtkgpkphacjjlgaaQ28
import Derived.Test.YtkgpkphacjjlgaaQ20
import Derived.Test.YtkgpkphacjjlgaaQ29
import Derived.Test.YtkgpkphacjjlgaaQ3
namespace Go.Proofs.Ytkgpkphacjjlgaa
open Go.RowKit

set_option maxRecDepth 100000 in
set_option maxHeartbeats 3200000 in
theorem exRest_any (v0 : Value) (b0 : List (ByteArray × T)) (h0 : Nat) (v1 : Value) (b1 : List ByteArray) (w : World) (ht0 : BsAt w 0 h0 v0 b0) (hl1 : b1.length ≤ 9223372036854775807) (hs1 : ∀ p ∈ b1, p.size ≤ 9223372036854775807) (ht1 : StrsAt w v1 b1) :
    Calls Try.prog 8 #[v0, v1] w (TrueI w) := by
  obtain ⟨a0, c0, rfl⟩ := ht0.slice
  obtain ⟨l0, hl0x⟩ : ∃ l, l = b0.length := ⟨_, rfl⟩
  rw [← hl0x] at ht0 ⊢
  have HL0 := Lib.hid hl0x; clear hl0x
  obtain ⟨a1, c1, rfl⟩ := ht1.sliceK
  obtain ⟨l1, hl1x⟩ : ∃ l, l = b1.length := ⟨_, rfl⟩
  rw [← hl1x] at ht1 ⊢
  have HL1 := Lib.hid hl1x; clear hl1x
  have hb0 : Below w.heap.size w w := Below.refl _ _
  have HB_0 := Lib.hid hb0
  have hzb := hb0.size
  have HA0_0 := Lib.hid ((ht0.below hb0).kept)
  have HA1_0 := Lib.hid ((ht1.below hb0).kept)
  have HLS1 := Lib.hid (And.intro hl1 hs1); clear hl1 hs1
  clear hb0 ht0 ht1
  go_enter Try.func8, Try.ntmps8
  go_wp2_with fail
  refine (szBs_any _ b0 0 h0 1048576 _ HA0_0.out.now (by omega) (by omega)).mono ?_
  rintro e wz0 ⟨r0, rfl, hb, hr0a, hr0⟩
  have HR0 := Lib.hid hr0; clear hr0
  have HA0_1 := Lib.hid (HA0_0.out.below hb)
  have HA1_1 := Lib.hid (HA1_0.out.below hb)
  have HB_1 := Lib.hid (HB_0.out.trans (hb.mono HB_0.out.size))
  have hz0 := hb.size
  clear hb HB_0 HA0_0 HA1_0
  by_cases hr : r0 < 0
  · go_wp2
    go_ret
    exact ⟨rfl, HB_1.out⟩
  have HRN0 : Hid (0 ≤ r0) := Lib.hid (by omega)
  clear hr
  have hr00 : 0 ≤ r0 := HRN0.out
  go_wp2_with fail
  refine (sz_any r0 _ b1 _ (by omega) (by have := HR0.out (by omega); omega) HLS1.out.1 HLS1.out.2 HA1_1.out.now).mono ?_
  rintro e wz1 ⟨r1, rfl, hw9, hr1a, hr1⟩
  rw [hw9]
  clear hw9
  have HR1 := Lib.hid hr1; clear hr1
  by_cases hr : r1 < 0
  · go_wp2
    go_ret
    exact ⟨rfl, HB_1.out⟩
  have HRN1 : Hid (0 ≤ r1) := Lib.hid (by omega)
  clear hr
  have hr01 : 0 ≤ r1 := HRN1.out
  have HW0 : Hid (wBs b0 ≤ 1048576) := Lib.hid (by have q0 := HR0.out HRN0.out; omega)
  have HW1 : Hid (b1.length ≤ 1048576) := Lib.hid (by have q0 := HR0.out HRN0.out; have q1 := HR1.out HRN1.out; omega)
  obtain ⟨r0, hr0⟩ : ∃ r0, r0 = restB b0 (sortK b1) := ⟨_, rfl⟩
  have HSZ : Hid (∀ p ∈ b1, p.size ≤ maxLen) := Lib.hid (fun p hp => by have := HLS1.out.2 p hp; unfold maxLen; omega)
  have HSP : Hid (∀ (u v : Value) {lo : Nat} (w : World), BsAt w lo h0 u b0 → StrsAt w v b1 → Calls Try.prog 22 #[u, v] w (ReadBE r0 w)) := Lib.hid (fun u v lo w q1 q2 => by
    rw [hr0]; exact restS_any u v b0 b1 _ lo h0 w HW0.out q1 HW1.out HSZ.out q2 (sortK_of b1))
  have HIM : Hid (∀ (u v : Value) {lo : Nat} (w : World), BsAt w lo h0 u b0 → StrsAt w v b1 → Calls Try.prog 20 #[u, v] w (CopyBE r0 w)) := Lib.hid (fun u v lo w q1 q2 => by
    rw [hr0]; exact restI_any u v b0 b1 _ lo h0 w HW0.out q1 HW1.out HSZ.out q2 (sortK_of b1))
  have HRM : Hid (mBs r0 ≤ 1152921504606846976 ∧ r0.length ≤ 4194304) := Lib.hid (by
    rw [hr0]
    have g1 := restB_m b0 (sortK b1) HW0.out
    have g2 := sortK_len b1
    have g3 := HW1.out
    have g4 := restB_len b0 (sortK b1)
    have g5 : (sortK b1).length * 12582916 ≤ 1048576 * 12582916 := Nat.mul_le_mul_right _ (by omega)
    omega)
  have HRL : Hid (r0.length ≤ 9223372036854775807) := Lib.hid (by have := HRM.out.2; omega)
  clear hr0
  go_wp2_with fail
  refine (toBs_any _ b0 0 h0 _ HW0.out HA0_1.out.now).mono ?_
  rintro e wc2 ⟨V0, rfl, ⟨ht, _⟩, hb⟩
  have HA0_2 := Lib.hid (HA0_1.out.below hb)
  have HA1_2 := Lib.hid (HA1_1.out.below hb)
  have HB_2 := Lib.hid (HB_1.out.trans (hb.mono HB_1.out.size))
  have hz1 := hb.size
  clear hb HB_1 HA0_1 HA1_1
  have HV0_2 := Lib.hid (ht.kept)
  clear ht
  go_wp2_with fail
  refine (copy_any _ b1 _ HW1.out HA1_2.out.now).mono ?_
  rintro e wc3 ⟨V1, rfl, ht0, hb⟩
  have ht := StrsAt.of_owns ht0; clear ht0
  have HA0_3 := Lib.hid (HA0_2.out.below hb)
  have HA1_3 := Lib.hid (HA1_2.out.below hb)
  have HV0_3 := Lib.hid (HV0_2.out.below hb)
  have HB_3 := Lib.hid (HB_2.out.trans (hb.mono HB_2.out.size))
  have hz2 := hb.size
  clear hb HB_2 HA0_2 HA1_2 HV0_2
  have HV1_3 := Lib.hid (ht.kept)
  clear ht
  go_wp2_with fail
  refine (HSP.out _ _ _ HV0_3.out.now HV1_3.out.now).mono ?_
  rintro e wm ⟨vw, Hw, rfl, hat, hb⟩
  have HA0_4 := Lib.hid (HA0_3.out.below hb)
  have HA1_4 := Lib.hid (HA1_3.out.below hb)
  have HV0_4 := Lib.hid (HV0_3.out.below hb)
  have HV1_4 := Lib.hid (HV1_3.out.below hb)
  have HB_4 := Lib.hid (HB_3.out.trans (hb.mono HB_3.out.size))
  have hz3 := hb.size
  clear hb HB_3 HA0_3 HA1_3 HV0_3 HV1_3
  have HOw_4 := Lib.hid (hat.kept)
  clear hat
  clear HV0_4
  clear HV1_4
  clear HSP
  go_wp2_with fail
  refine (toBs_any _ b0 0 h0 _ HW0.out HA0_4.out.now).mono ?_
  rintro e wx0 ⟨vx0, rfl, ⟨hat, hown⟩, hb⟩
  have HA0_5 := Lib.hid (HA0_4.out.below hb)
  have HA1_5 := Lib.hid (HA1_4.out.below hb)
  have HOw_5 := Lib.hid (HOw_4.out.below hb)
  have HB_5 := Lib.hid (HB_4.out.trans (hb.mono HB_4.out.size))
  have hz4 := hb.size
  clear hb HB_4 HA0_4 HA1_4 HOw_4
  have HX0_5 := Lib.hid (BsObj.kept ⟨hat, hown⟩)
  clear hat hown
  go_wp2_with fail
  refine (copy_any _ b1 _ HW1.out HA1_5.out.now).mono ?_
  rintro e wx1 ⟨vx1, rfl, hown, hb⟩
  have HA0_6 := Lib.hid (HA0_5.out.below hb)
  have HA1_6 := Lib.hid (HA1_5.out.below hb)
  have HOw_6 := Lib.hid (HOw_5.out.below hb)
  have HX0_6 := Lib.hid (HX0_5.out.below hb)
  have HB_6 := Lib.hid (HB_5.out.trans (hb.mono HB_5.out.size))
  have hz5 := hb.size
  clear hb HB_5 HA0_5 HA1_5 HOw_5 HX0_5
  have HX1_6 := Lib.hid (StrsObj.kept hown)
  clear hown
  go_wp2_with fail
  refine (HIM.out _ _ _ HX0_6.out.now.1 (StrsAt.of_owns HX1_6.out.now.1)).mono ?_
  rintro e wg ⟨vg, Hg, rfl, ⟨hat, hown⟩, hb⟩
  have HA0_7 := Lib.hid (HA0_6.out.below hb)
  have HA1_7 := Lib.hid (HA1_6.out.below hb)
  have HOw_7 := Lib.hid (HOw_6.out.below hb)
  have HX0_7 := Lib.hid (HX0_6.out.below hb)
  have HX1_7 := Lib.hid (HX1_6.out.below hb)
  have HB_7 := Lib.hid (HB_6.out.trans (hb.mono HB_6.out.size))
  have hz6 := hb.size
  clear hb HB_6 HA0_6 HA1_6 HOw_6 HX0_6 HX1_6
  have HOg_7 := Lib.hid (BsObj.kept ⟨hat, hown⟩)
  clear hat hown
  go_wp2_with fail
  refine (eqBs_two _ _ r0 _ _ _ _ _ HRL.out HOg_7.out.now.1 HOw_7.out.now).mono ?_
  rintro e wa ⟨rfl, hb⟩
  have HA0_8 := Lib.hid (HA0_7.out.below hb)
  have HA1_8 := Lib.hid (HA1_7.out.below hb)
  have HOw_8 := Lib.hid (HOw_7.out.below hb)
  have HX0_8 := Lib.hid (HX0_7.out.below hb)
  have HX1_8 := Lib.hid (HX1_7.out.below hb)
  have HOg_8 := Lib.hid (HOg_7.out.below hb)
  have HB_8 := Lib.hid (HB_7.out.trans (hb.mono HB_7.out.size))
  have hz7 := hb.size
  clear hb HB_7 HA0_7 HA1_7 HOw_7 HX0_7 HX1_7 HOg_7
  go_wp2_with fail
  refine (toBs_any _ b0 0 h0 _ HW0.out HA0_8.out.now).mono ?_
  rintro e wc9 ⟨Y0, rfl, ⟨ht, _⟩, hb⟩
  have HA0_9 := Lib.hid (HA0_8.out.below hb)
  have HA1_9 := Lib.hid (HA1_8.out.below hb)
  have HOw_9 := Lib.hid (HOw_8.out.below hb)
  have HX0_9 := Lib.hid (HX0_8.out.below hb)
  have HX1_9 := Lib.hid (HX1_8.out.below hb)
  have HOg_9 := Lib.hid (HOg_8.out.below hb)
  have HB_9 := Lib.hid (HB_8.out.trans (hb.mono HB_8.out.size))
  have hz8 := hb.size
  clear hb HB_8 HA0_8 HA1_8 HOw_8 HX0_8 HX1_8 HOg_8
  have HY0_9 := Lib.hid (ht.kept)
  clear ht
  go_wp2_with fail
  refine (eqBs_two _ _ b0 _ _ _ _ _ (by have := wBs_len b0; have := HW0.out; omega) HX0_9.out.now.1 HY0_9.out.now).mono ?_
  rintro e wf0 ⟨rfl, hb⟩
  have HA0_10 := Lib.hid (HA0_9.out.below hb)
  have HA1_10 := Lib.hid (HA1_9.out.below hb)
  have HOw_10 := Lib.hid (HOw_9.out.below hb)
  have HX0_10 := Lib.hid (HX0_9.out.below hb)
  have HX1_10 := Lib.hid (HX1_9.out.below hb)
  have HOg_10 := Lib.hid (HOg_9.out.below hb)
  have HY0_10 := Lib.hid (HY0_9.out.below hb)
  have HB_10 := Lib.hid (HB_9.out.trans (hb.mono HB_9.out.size))
  have hz9 := hb.size
  clear hb HB_9 HA0_9 HA1_9 HOw_9 HX0_9 HX1_9 HOg_9 HY0_9
  clear HY0_10
  go_wp2_with fail
  refine (copy_any _ b1 _ HW1.out HA1_10.out.now).mono ?_
  rintro e wc11 ⟨Y1, rfl, ht0, hb⟩
  have ht := StrsAt.of_owns ht0; clear ht0
  have HA0_11 := Lib.hid (HA0_10.out.below hb)
  have HA1_11 := Lib.hid (HA1_10.out.below hb)
  have HOw_11 := Lib.hid (HOw_10.out.below hb)
  have HX0_11 := Lib.hid (HX0_10.out.below hb)
  have HX1_11 := Lib.hid (HX1_10.out.below hb)
  have HOg_11 := Lib.hid (HOg_10.out.below hb)
  have HB_11 := Lib.hid (HB_10.out.trans (hb.mono HB_10.out.size))
  have hz10 := hb.size
  clear hb HB_10 HA0_10 HA1_10 HOw_10 HX0_10 HX1_10 HOg_10
  have HY1_11 := Lib.hid (ht.kept)
  clear ht
  go_wp2_with fail
  refine (eqStrs_same _ _ b1 _ (by have := HW1.out; omega) (StrsAt.of_owns HX1_11.out.now.1) HY1_11.out.now).mono ?_
  rintro e wf1 ⟨rfl, hb⟩
  have HA0_12 := Lib.hid (HA0_11.out.below hb)
  have HA1_12 := Lib.hid (HA1_11.out.below hb)
  have HOw_12 := Lib.hid (HOw_11.out.below hb)
  have HX0_12 := Lib.hid (HX0_11.out.below hb)
  have HX1_12 := Lib.hid (HX1_11.out.below hb)
  have HOg_12 := Lib.hid (HOg_11.out.below hb)
  have HY1_12 := Lib.hid (HY1_11.out.below hb)
  have HB_12 := Lib.hid (HB_11.out.trans (hb.mono HB_11.out.size))
  have hz11 := hb.size
  clear hb HB_11 HA0_11 HA1_11 HOw_11 HX0_11 HX1_11 HOg_11 HY1_11
  clear HY1_12
  go_wp2_with fail
  refine (markBs_any _ b0 h0 wm.heap.size wx0.heap.size (1) _ HX0_12.out.now.2 (by omega) (by omega) (by have := mBs_le b0; have := HW0.out; have := HW1.out; omega)).mono ?_
  rintro e wk0 ⟨⟨rfl, ho⟩, _⟩
  clear HX0_12
  have HA0_13 := Lib.hid (HA0_12.out.out ho (by omega))
  have HA1_13 := Lib.hid (HA1_12.out.out ho (by omega))
  have HOw_13 := Lib.hid (HOw_12.out.out ho (by omega))
  have HX1_13 := Lib.hid (HX1_12.out.out ho (by omega))
  have HOg_13 := Lib.hid (HOg_12.out.out ho (by omega))
  have HB_13 := Lib.hid (HB_12.out.trans ((ho.under (B := w.heap.size) (by omega) (by omega))))
  have hz12 := ho.2.2.2.1
  clear HB_12 HA0_12 HA1_12 HOw_12 HX1_12 HOg_12
  clear ho
  go_wp2_with fail
  refine (markSS_any _ b1 wx0.heap.size wx1.heap.size (1 + mBs b0) _ HX1_13.out.now (by omega) (by omega) (by have := mBs_le b0; have := HW0.out; have := HW1.out; omega)).mono ?_
  rintro e wk1 ⟨rfl, ho⟩
  clear HX1_13
  have HA0_14 := Lib.hid (HA0_13.out.out ho (by omega))
  have HA1_14 := Lib.hid (HA1_13.out.out ho (by omega))
  have HOw_14 := Lib.hid (HOw_13.out.out ho (by omega))
  have HOg_14 := Lib.hid (HOg_13.out.out ho (by omega))
  have HB_14 := Lib.hid (HB_13.out.trans ((ho.under (B := w.heap.size) (by omega) (by omega))))
  have hz13 := ho.2.2.2.1
  clear HB_13 HA0_13 HA1_13 HOw_13 HOg_13
  clear ho
  have hpos : ¬ ((1 + mBs b0 + b1.length : Nat) : Int) < 0 := by omega
  go_wp2_with fail
  refine (eqBs_two _ _ r0 _ _ _ _ _ HRL.out HOg_14.out.now.1 HOw_14.out.now).mono ?_
  rintro e wb ⟨rfl, hb⟩
  have HA0_15 := Lib.hid (HA0_14.out.below hb)
  have HA1_15 := Lib.hid (HA1_14.out.below hb)
  have HOw_15 := Lib.hid (HOw_14.out.below hb)
  have HOg_15 := Lib.hid (HOg_14.out.below hb)
  have HB_15 := Lib.hid (HB_14.out.trans (hb.mono HB_14.out.size))
  have hz14 := hb.size
  clear hb HB_14 HA0_14 HA1_14 HOw_14 HOg_14
  go_wp2_with fail
  refine (markBs_any _ r0 Hg wx1.heap.size wg.heap.size 1 _ HOg_15.out.now.2 (by omega) (by omega) (by have := HRM.out.1; omega)).mono ?_
  rintro e wgm ⟨⟨rfl, ho⟩, ha⟩
  clear HOg_15
  have HA0_16 := Lib.hid (HA0_15.out.out ho (by omega))
  have HA1_16 := Lib.hid (HA1_15.out.out ho (by omega))
  have HOw_16 := Lib.hid (HOw_15.out.out ho (by omega))
  have HB_16 := Lib.hid (HB_15.out.trans ((ho.under (B := w.heap.size) (by omega) (by omega))))
  have hz15 := ho.2.2.2.1
  clear HB_15 HA0_15 HA1_15 HOw_15
  clear ho
  have HGM_16 := Lib.hid (ha.kept)
  clear ha
  go_wp2_with fail
  refine (heldBs_any _ r0 0 Hg 1 _ HGM_16.out.now (by omega) (by have := HRM.out.1; omega)).mono ?_
  rintro e wh1 ⟨rfl, hb⟩
  have HA0_17 := Lib.hid (HA0_16.out.below hb)
  have HA1_17 := Lib.hid (HA1_16.out.below hb)
  have HOw_17 := Lib.hid (HOw_16.out.below hb)
  have HGM_17 := Lib.hid (HGM_16.out.below hb)
  have HB_17 := Lib.hid (HB_16.out.trans (hb.mono HB_16.out.size))
  have hz16 := hb.size
  clear hb HB_16 HA0_16 HA1_16 HOw_16 HGM_16
  have hpos2 : ¬ ((1 + mBs r0 : Nat) : Int) < 0 := by omega
  have heq2 : (((1 + mBs r0 : Nat) : Int) != ((1 + mBs r0 : Nat) : Int)) = false := by simp
  go_wp2_with fail
  refine (toBs_any _ b0 0 h0 _ HW0.out HA0_17.out.now).mono ?_
  rintro e wc18 ⟨Z0, rfl, ⟨ht, _⟩, hb⟩
  have HA0_18 := Lib.hid (HA0_17.out.below hb)
  have HA1_18 := Lib.hid (HA1_17.out.below hb)
  have HOw_18 := Lib.hid (HOw_17.out.below hb)
  have HGM_18 := Lib.hid (HGM_17.out.below hb)
  have HB_18 := Lib.hid (HB_17.out.trans (hb.mono HB_17.out.size))
  have hz17 := hb.size
  clear hb HB_17 HA0_17 HA1_17 HOw_17 HGM_17
  have HZ0_18 := Lib.hid (ht.kept)
  clear ht
  go_wp2_with fail
  refine (copy_any _ b1 _ HW1.out HA1_18.out.now).mono ?_
  rintro e wc19 ⟨Z1, rfl, ht0, hb⟩
  have ht := StrsAt.of_owns ht0; clear ht0
  have HA0_19 := Lib.hid (HA0_18.out.below hb)
  have HA1_19 := Lib.hid (HA1_18.out.below hb)
  have HOw_19 := Lib.hid (HOw_18.out.below hb)
  have HGM_19 := Lib.hid (HGM_18.out.below hb)
  have HZ0_19 := Lib.hid (HZ0_18.out.below hb)
  have HB_19 := Lib.hid (HB_18.out.trans (hb.mono HB_18.out.size))
  have hz18 := hb.size
  clear hb HB_18 HA0_18 HA1_18 HOw_18 HGM_18 HZ0_18
  have HZ1_19 := Lib.hid (ht.kept)
  clear ht
  go_wp2_with fail
  refine (HIM.out _ _ _ HZ0_19.out.now HZ1_19.out.now).mono ?_
  rintro e wh2 ⟨vh, Hh, rfl, ⟨hat, hown⟩, hb⟩
  have HA0_20 := Lib.hid (HA0_19.out.below hb)
  have HA1_20 := Lib.hid (HA1_19.out.below hb)
  have HOw_20 := Lib.hid (HOw_19.out.below hb)
  have HGM_20 := Lib.hid (HGM_19.out.below hb)
  have HZ0_20 := Lib.hid (HZ0_19.out.below hb)
  have HZ1_20 := Lib.hid (HZ1_19.out.below hb)
  have HB_20 := Lib.hid (HB_19.out.trans (hb.mono HB_19.out.size))
  have hz19 := hb.size
  clear hb HB_19 HA0_19 HA1_19 HOw_19 HGM_19 HZ0_19 HZ1_19
  have HOh_20 := Lib.hid (BsObj.kept ⟨hat, hown⟩)
  clear hat hown
  clear HZ0_20
  clear HZ1_20
  go_wp2_with fail
  refine (eqBs_two _ _ r0 _ _ _ _ _ HRL.out HOh_20.out.now.1 HOw_20.out.now).mono ?_
  rintro e wh3 ⟨rfl, hb⟩
  have HA0_21 := Lib.hid (HA0_20.out.below hb)
  have HA1_21 := Lib.hid (HA1_20.out.below hb)
  have HOw_21 := Lib.hid (HOw_20.out.below hb)
  have HGM_21 := Lib.hid (HGM_20.out.below hb)
  have HOh_21 := Lib.hid (HOh_20.out.below hb)
  have HB_21 := Lib.hid (HB_20.out.trans (hb.mono HB_20.out.size))
  have hz20 := hb.size
  clear hb HB_20 HA0_20 HA1_20 HOw_20 HGM_20 HOh_20
  clear HOh_21
  clear HOw_21
  go_wp2_with fail
  refine (heldBs_any _ r0 0 Hg 1 _ HGM_21.out.now (by omega) (by have := HRM.out.1; omega)).mono ?_
  rintro e wh4 ⟨rfl, hb⟩
  have HA0_22 := Lib.hid (HA0_21.out.below hb)
  have HA1_22 := Lib.hid (HA1_21.out.below hb)
  have HGM_22 := Lib.hid (HGM_21.out.below hb)
  have HB_22 := Lib.hid (HB_21.out.trans (hb.mono HB_21.out.size))
  have hz21 := hb.size
  clear hb HB_21 HA0_21 HA1_21 HGM_21
  go_wp2
  go_ret
  exact ⟨rfl, HB_22.out⟩
end Go.Proofs.Ytkgpkphacjjlgaa
