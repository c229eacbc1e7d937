/-
  The walk of laws.FnExactSameSubst.
-/
import Derived.Test.YtkgpkphacjjlgaaQ30
import Derived.Test.YtkgpkphacjjlgaaQ8
import Derived.Test.YtkgpkphacjjlgaaQ31
import Derived.Test.YtkgpkphacjjlgaaQ28
namespace Go.Proofs.Ytkgpkphacjjlgaa
open Go.RowKit

set_option maxRecDepth 100000 in
set_option maxHeartbeats 3200000 in
theorem exSame_any (v0 : Value) (b0 : List (ByteArray × T)) (h0 : Nat) (v1 : Value) (b1 : List (ByteArray × T)) (h1 : Nat) (w : World) (ht0 : BsAt w 0 h0 v0 b0) (ht1 : BsAt w 0 h1 v1 b1) :
    Calls Try.prog 9 #[v0, v1] w (TrueI w) := by
  obtain ⟨a0, c0, rfl⟩ := ht0.slice
  obtain ⟨l0, hl0x⟩ : ∃ l, l = b0.length := ⟨_, rfl⟩
  rw [← hl0x] at ht0 ⊢
  have HL0 := Lib.hid hl0x; clear hl0x
  obtain ⟨a1, c1, rfl⟩ := ht1.slice
  obtain ⟨l1, hl1x⟩ : ∃ l, l = b1.length := ⟨_, rfl⟩
  rw [← hl1x] at ht1 ⊢
  have HL1 := Lib.hid hl1x; clear hl1x
  have hb0 : Below w.heap.size w w := Below.refl _ _
  have HB_0 := Lib.hid hb0
  have hzb := hb0.size
  have HA0_0 := Lib.hid ((ht0.below hb0).kept)
  have HA1_0 := Lib.hid ((ht1.below hb0).kept)
  clear hb0 ht0 ht1
  go_enter Try.func9, Try.ntmps9
  go_wp2_with fail
  refine (szBs_any _ b0 0 h0 1048576 _ HA0_0.out.now (by omega) (by omega)).mono ?_
  rintro e wz0 ⟨r0, rfl, hb, hr0a, hr0⟩
  have HR0 := Lib.hid hr0; clear hr0
  have HA0_1 := Lib.hid (HA0_0.out.below hb)
  have HA1_1 := Lib.hid (HA1_0.out.below hb)
  have HB_1 := Lib.hid (HB_0.out.trans (hb.mono HB_0.out.size))
  have hz0 := hb.size
  clear hb HB_0 HA0_0 HA1_0
  by_cases hr : r0 < 0
  · go_wp2
    go_ret
    exact ⟨rfl, HB_1.out⟩
  have HRN0 : Hid (0 ≤ r0) := Lib.hid (by omega)
  clear hr
  have hr00 : 0 ≤ r0 := HRN0.out
  go_wp2_with fail
  refine (szBs_any _ b1 0 h1 r0 _ HA1_1.out.now (by omega) (by have := HR0.out (by omega); omega)).mono ?_
  rintro e wz1 ⟨r1, rfl, hb, hr1a, hr1⟩
  have HR1 := Lib.hid hr1; clear hr1
  have HA0_2 := Lib.hid (HA0_1.out.below hb)
  have HA1_2 := Lib.hid (HA1_1.out.below hb)
  have HB_2 := Lib.hid (HB_1.out.trans (hb.mono HB_1.out.size))
  have hz1 := hb.size
  clear hb HB_1 HA0_1 HA1_1
  by_cases hr : r1 < 0
  · go_wp2
    go_ret
    exact ⟨rfl, HB_2.out⟩
  have HRN1 : Hid (0 ≤ r1) := Lib.hid (by omega)
  clear hr
  have hr01 : 0 ≤ r1 := HRN1.out
  have HW0 : Hid (wBs b0 ≤ 1048576) := Lib.hid (by have q0 := HR0.out HRN0.out; omega)
  have HW1 : Hid (wBs b1 ≤ 1048576) := Lib.hid (by have q0 := HR0.out HRN0.out; have q1 := HR1.out HRN1.out; omega)
  obtain ⟨r0, hr0⟩ : ∃ r0, r0 = sameB b0 b1 := ⟨_, rfl⟩
  have HSP : Hid (∀ (u v : Value) {lo lo2 : Nat} (w : World), BsAt w lo h0 u b0 → BsAt w lo2 h1 v b1 → Calls Try.prog 24 #[u, v] w (SaysB r0 w)) := Lib.hid (fun u v lo lo2 w q1 q2 => by
    rw [hr0]; exact sSameS_any u v b0 b1 lo lo2 h0 h1 w HW0.out HW1.out q1 q2)
  have HIM : Hid (∀ (u v : Value) {lo lo2 : Nat} (w : World), BsAt w lo h0 u b0 → BsAt w lo2 h1 v b1 → Calls Try.prog 23 #[u, v] w (SaysB r0 w)) := Lib.hid (fun u v lo lo2 w q1 q2 => by
    rw [hr0]; exact iSame_any u v b0 b1 lo lo2 h0 h1 w HW0.out HW1.out q1 q2)
  clear hr0
  go_wp2_with fail
  refine (toBs_any _ b0 0 h0 _ HW0.out HA0_2.out.now).mono ?_
  rintro e wc3 ⟨V0, rfl, ⟨ht, _⟩, hb⟩
  have HA0_3 := Lib.hid (HA0_2.out.below hb)
  have HA1_3 := Lib.hid (HA1_2.out.below hb)
  have HB_3 := Lib.hid (HB_2.out.trans (hb.mono HB_2.out.size))
  have hz2 := hb.size
  clear hb HB_2 HA0_2 HA1_2
  have HV0_3 := Lib.hid (ht.kept)
  clear ht
  go_wp2_with fail
  refine (toBs_any _ b1 0 h1 _ HW1.out HA1_3.out.now).mono ?_
  rintro e wc4 ⟨V1, rfl, ⟨ht, _⟩, hb⟩
  have HA0_4 := Lib.hid (HA0_3.out.below hb)
  have HA1_4 := Lib.hid (HA1_3.out.below hb)
  have HV0_4 := Lib.hid (HV0_3.out.below hb)
  have HB_4 := Lib.hid (HB_3.out.trans (hb.mono HB_3.out.size))
  have hz3 := hb.size
  clear hb HB_3 HA0_3 HA1_3 HV0_3
  have HV1_4 := Lib.hid (ht.kept)
  clear ht
  go_wp2_with fail
  refine (HSP.out _ _ _ HV0_4.out.now HV1_4.out.now).mono ?_
  rintro e wm ⟨rfl, hb⟩
  have HA0_5 := Lib.hid (HA0_4.out.below hb)
  have HA1_5 := Lib.hid (HA1_4.out.below hb)
  have HV0_5 := Lib.hid (HV0_4.out.below hb)
  have HV1_5 := Lib.hid (HV1_4.out.below hb)
  have HB_5 := Lib.hid (HB_4.out.trans (hb.mono HB_4.out.size))
  have hz4 := hb.size
  clear hb HB_4 HA0_4 HA1_4 HV0_4 HV1_4
  clear HV0_5
  clear HV1_5
  clear HSP
  go_wp2_with fail
  refine (toBs_any _ b0 0 h0 _ HW0.out HA0_5.out.now).mono ?_
  rintro e wx0 ⟨vx0, rfl, ⟨hat, hown⟩, hb⟩
  have HA0_6 := Lib.hid (HA0_5.out.below hb)
  have HA1_6 := Lib.hid (HA1_5.out.below hb)
  have HB_6 := Lib.hid (HB_5.out.trans (hb.mono HB_5.out.size))
  have hz5 := hb.size
  clear hb HB_5 HA0_5 HA1_5
  have HX0_6 := Lib.hid (BsObj.kept ⟨hat, hown⟩)
  clear hat hown
  go_wp2_with fail
  refine (toBs_any _ b1 0 h1 _ HW1.out HA1_6.out.now).mono ?_
  rintro e wx1 ⟨vx1, rfl, ⟨hat, hown⟩, hb⟩
  have HA0_7 := Lib.hid (HA0_6.out.below hb)
  have HA1_7 := Lib.hid (HA1_6.out.below hb)
  have HX0_7 := Lib.hid (HX0_6.out.below hb)
  have HB_7 := Lib.hid (HB_6.out.trans (hb.mono HB_6.out.size))
  have hz6 := hb.size
  clear hb HB_6 HA0_6 HA1_6 HX0_6
  have HX1_7 := Lib.hid (BsObj.kept ⟨hat, hown⟩)
  clear hat hown
  go_wp2_with fail
  refine (HIM.out _ _ _ HX0_7.out.now.1 HX1_7.out.now.1).mono ?_
  rintro e wg ⟨rfl, hb⟩
  have HA0_8 := Lib.hid (HA0_7.out.below hb)
  have HA1_8 := Lib.hid (HA1_7.out.below hb)
  have HX0_8 := Lib.hid (HX0_7.out.below hb)
  have HX1_8 := Lib.hid (HX1_7.out.below hb)
  have HB_8 := Lib.hid (HB_7.out.trans (hb.mono HB_7.out.size))
  have hz7 := hb.size
  clear hb HB_7 HA0_7 HA1_7 HX0_7 HX1_7
  go_wp2_with fail
  refine (toBs_any _ b0 0 h0 _ HW0.out HA0_8.out.now).mono ?_
  rintro e wc9 ⟨Y0, rfl, ⟨ht, _⟩, hb⟩
  have HA0_9 := Lib.hid (HA0_8.out.below hb)
  have HA1_9 := Lib.hid (HA1_8.out.below hb)
  have HX0_9 := Lib.hid (HX0_8.out.below hb)
  have HX1_9 := Lib.hid (HX1_8.out.below hb)
  have HB_9 := Lib.hid (HB_8.out.trans (hb.mono HB_8.out.size))
  have hz8 := hb.size
  clear hb HB_8 HA0_8 HA1_8 HX0_8 HX1_8
  have HY0_9 := Lib.hid (ht.kept)
  clear ht
  go_wp2_with fail
  refine (eqBs_two _ _ b0 _ _ _ _ _ (by have := wBs_len b0; have := HW0.out; omega) HX0_9.out.now.1 HY0_9.out.now).mono ?_
  rintro e wf0 ⟨rfl, hb⟩
  have HA0_10 := Lib.hid (HA0_9.out.below hb)
  have HA1_10 := Lib.hid (HA1_9.out.below hb)
  have HX0_10 := Lib.hid (HX0_9.out.below hb)
  have HX1_10 := Lib.hid (HX1_9.out.below hb)
  have HY0_10 := Lib.hid (HY0_9.out.below hb)
  have HB_10 := Lib.hid (HB_9.out.trans (hb.mono HB_9.out.size))
  have hz9 := hb.size
  clear hb HB_9 HA0_9 HA1_9 HX0_9 HX1_9 HY0_9
  clear HY0_10
  go_wp2_with fail
  refine (toBs_any _ b1 0 h1 _ HW1.out HA1_10.out.now).mono ?_
  rintro e wc11 ⟨Y1, rfl, ⟨ht, _⟩, hb⟩
  have HA0_11 := Lib.hid (HA0_10.out.below hb)
  have HA1_11 := Lib.hid (HA1_10.out.below hb)
  have HX0_11 := Lib.hid (HX0_10.out.below hb)
  have HX1_11 := Lib.hid (HX1_10.out.below hb)
  have HB_11 := Lib.hid (HB_10.out.trans (hb.mono HB_10.out.size))
  have hz10 := hb.size
  clear hb HB_10 HA0_10 HA1_10 HX0_10 HX1_10
  have HY1_11 := Lib.hid (ht.kept)
  clear ht
  go_wp2_with fail
  refine (eqBs_two _ _ b1 _ _ _ _ _ (by have := wBs_len b1; have := HW1.out; omega) HX1_11.out.now.1 HY1_11.out.now).mono ?_
  rintro e wf1 ⟨rfl, hb⟩
  have HA0_12 := Lib.hid (HA0_11.out.below hb)
  have HA1_12 := Lib.hid (HA1_11.out.below hb)
  have HX0_12 := Lib.hid (HX0_11.out.below hb)
  have HX1_12 := Lib.hid (HX1_11.out.below hb)
  have HY1_12 := Lib.hid (HY1_11.out.below hb)
  have HB_12 := Lib.hid (HB_11.out.trans (hb.mono HB_11.out.size))
  have hz11 := hb.size
  clear hb HB_11 HA0_11 HA1_11 HX0_11 HX1_11 HY1_11
  clear HY1_12
  go_wp2
  go_ret
  exact ⟨rfl, HB_12.out⟩
end Go.Proofs.Ytkgpkphacjjlgaa
