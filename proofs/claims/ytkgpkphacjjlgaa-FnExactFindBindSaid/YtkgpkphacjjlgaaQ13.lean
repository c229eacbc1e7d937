/-
  The law on FindBind answers true at every list of Binds and name.
-/
import Derived.Test.YtkgpkphacjjlgaaQ11
import Derived.Test.YtkgpkphacjjlgaaQ12
import Derived.Test.YtkgpkphacjjlgaaQ2
namespace Go.Proofs.Ytkgpkphacjjlgaa
open Go.RowKit

set_option maxRecDepth 100000 in
set_option maxHeartbeats 3200000 in
theorem exFB_any (v0 : Value) (b0 : List (ByteArray × T)) (h0 : Nat) (x1 : ByteArray) (w : World) (ht0 : BsAt w 0 h0 v0 b0) (hx1 : x1.size ≤ maxLen) :
    Calls Try.prog 5 #[v0, .string x1] w (TrueI w) := by
  obtain ⟨a0, c0, rfl⟩ := ht0.slice
  obtain ⟨l0, hl0x⟩ : ∃ l, l = b0.length := ⟨_, rfl⟩
  rw [← hl0x] at ht0 ⊢
  have HL0 := Lib.hid hl0x; clear hl0x
  have hb0 : Below w.heap.size w w := Below.refl _ _
  have HB_0 := Lib.hid hb0
  have hzb := hb0.size
  have HA0_0 := Lib.hid ((ht0.below hb0).kept)
  clear hb0 ht0
  have hx12 : x1.size ≤ 9223372036854775807 := by unfold maxLen at hx1; omega
  clear hx1
  by_cases hs1 : 1048576 < x1.size
  · go_enter Try.func5, Try.ntmps5
    go_wp2
    go_ret
    exact ⟨rfl, HB_0.out⟩
  have HN1 : Hid (x1.size ≤ 1048576) := Lib.hid (by omega)
  have hnn1 : x1.size ≤ 1048576 := by omega
  go_enter Try.func5, Try.ntmps5
  go_wp2_with fail
  refine (szBs_any _ b0 0 h0 1048576 _ HA0_0.out.now (by omega) (by omega)).mono ?_
  rintro e wz0 ⟨r0, rfl, hb, hr0a, hr0⟩
  have HR0 := Lib.hid hr0; clear hr0
  have HA0_1 := Lib.hid (HA0_0.out.below hb)
  have HB_1 := Lib.hid (HB_0.out.trans (hb.mono HB_0.out.size))
  have hz0 := hb.size
  clear hb HB_0 HA0_0
  by_cases hr : r0 < 0
  · go_wp2
    go_ret
    exact ⟨rfl, HB_1.out⟩
  have HRN0 : Hid (0 ≤ r0) := Lib.hid (by omega)
  clear hr
  have hr00 : 0 ≤ r0 := HRN0.out
  have HW0 : Hid (wBs b0 ≤ 1048576) := Lib.hid (by have q0 := HR0.out HRN0.out; omega)
  obtain ⟨ok, hok⟩ : ∃ ok, ok = (findB b0 x1).isSome := ⟨_, rfl⟩
  obtain ⟨r0, hr0⟩ : ∃ r0, r0 = (findB b0 x1).getD zT := ⟨_, rfl⟩
  have HSP : Hid (∀ (v : Value) {lo : Nat} (w : World), BsAt w lo h0 v b0 → Calls Try.prog 37 #[v, .string x1] w (ResT ok r0 w)) := Lib.hid (fun v lo w h1 => by
    rw [hok, hr0]; exact sFindB_any v x1 b0 lo h0 w HW0.out h1)
  have HIM : Hid (∀ (v : Value) {lo : Nat} (w : World), BsAt w lo h0 v b0 → Calls Try.prog 39 #[v, .string x1] w (ResO ok r0 w)) := Lib.hid (fun v lo w h1 => by
    rw [hok, hr0]; exact iFindB_any v x1 b0 lo h0 w HW0.out (by have := HN1.out; unfold maxLen; omega) h1)
  have HRW : Hid (cT r0 ≤ 2199023255552) := Lib.hid (by
    rw [hr0]
    have h2 := cT_le ((findB b0 x1).getD zT)
    have h3 : wT ((findB b0 x1).getD zT) ≤ 1048576 := by
      cases e : findB b0 x1 with
      | none => show wT zT ≤ _; rw [wT_node]; simp [wS]
      | some t => have := findB_w e; have := HW0.out; show wT t ≤ _; omega
    omega)
  clear hok hr0
  go_wp2_with fail
  refine (toBs_any _ b0 0 h0 _ HW0.out HA0_1.out.now).mono ?_
  rintro e wc2 ⟨V0, rfl, ⟨ht, _⟩, hb⟩
  have HA0_2 := Lib.hid (HA0_1.out.below hb)
  have HB_2 := Lib.hid (HB_1.out.trans (hb.mono HB_1.out.size))
  have hz1 := hb.size
  clear hb HB_1 HA0_1
  have HV0_2 := Lib.hid (ht.kept)
  clear ht
  go_wp2_with fail
  refine (HSP.out _ _ HV0_2.out.now).mono ?_
  rintro e wm ⟨kw, nw, sw, aaw, mmw, ccw, Hw, rfl, htr, hb⟩
  have HA0_3 := Lib.hid (HA0_2.out.below hb)
  have HV0_3 := Lib.hid (HV0_2.out.below hb)
  have HB_3 := Lib.hid (HB_2.out.trans (hb.mono HB_2.out.size))
  have hz2 := hb.size
  clear hb HB_2 HA0_2 HV0_2
  obtain ⟨W4, hW4⟩ : ∃ W4, W4 = boxed wm kw nw sw (.slice aaw mmw ccw) := ⟨_, rfl⟩
  have hbb : Below wm.heap.size wm W4 := by rw [hW4]; exact boxed_below _ _ _ _ _
  have hzz4 : W4.heap.size = wm.heap.size + 1 := by rw [hW4]; simp
  have hto := tread_of htr hW4
  have HA0_4 := Lib.hid (HA0_3.out.below hbb)
  have HV0_4 := Lib.hid (HV0_3.out.below hbb)
  have HB_4 := Lib.hid (HB_3.out.trans (hbb.mono HB_3.out.size))
  have hz3 := hbb.size
  clear hbb HB_3 HA0_3 HV0_3
  have HOw_4 := Lib.hid (hto.kept (by omega))
  clear hto htr
  unfold boxed at hW4
  clear HV0_4
  clear HSP
  go_wp2_with fail
  rw [← hW4]
  clear hW4
  refine (toBs_any _ b0 0 h0 _ HW0.out HA0_4.out.now).mono ?_
  rintro e wx0 ⟨vx0, rfl, ⟨hat, hown⟩, hb⟩
  have HA0_5 := Lib.hid (HA0_4.out.below hb)
  have HOw_5 := Lib.hid (HOw_4.out.below hb)
  have HB_5 := Lib.hid (HB_4.out.trans (hb.mono HB_4.out.size))
  have hz4 := hb.size
  clear hb HB_4 HA0_4 HOw_4
  have HX0_5 := Lib.hid (BsObj.kept ⟨hat, hown⟩)
  clear hat hown
  go_wp2_with fail
  refine (HIM.out _ _ HX0_5.out.now.1).mono ?_
  rintro e wg ⟨kg, ng, sg, aag, mmg, ccg, Hg, xsg, rfl, eg, hsg, hog, hb⟩
  have HCg : Hid (1 + 3 * cS xsg ≤ 1152921504606846976) := Lib.hid (by have h1 := HRW.out; rw [eg, cT_node] at h1; omega)
  have HA0_6 := Lib.hid (HA0_5.out.below hb)
  have HOw_6 := Lib.hid (HOw_5.out.below hb)
  have HX0_6 := Lib.hid (HX0_5.out.below hb)
  have HB_6 := Lib.hid (HB_5.out.trans (hb.mono HB_5.out.size))
  have hz5 := hb.size
  clear hb HB_5 HA0_5 HOw_5 HX0_5
  obtain ⟨W7, hW7⟩ : ∃ W7, W7 = boxed wg kg ng sg (.slice aag mmg ccg) := ⟨_, rfl⟩
  have hbb : Below wg.heap.size wg W7 := by rw [hW7]; exact boxed_below _ _ _ _ _
  have hzz7 : W7.heap.size = wg.heap.size + 1 := by rw [hW7]; simp
  have hto := tbox_of hsg (hog.args (Nat.le_refl _)) hog.own hW7
  have HA0_7 := Lib.hid (HA0_6.out.below hbb)
  have HOw_7 := Lib.hid (HOw_6.out.below hbb)
  have HX0_7 := Lib.hid (HX0_6.out.below hbb)
  have HB_7 := Lib.hid (HB_6.out.trans (hbb.mono HB_6.out.size))
  have hz6 := hbb.size
  clear hbb HB_6 HA0_6 HOw_6 HX0_6
  have HOg_7 := Lib.hid (hto.kept (by omega))
  have HEg := Lib.hid eg
  clear hto hsg hog eg
  unfold boxed at hW7
  have hokk : (ok != ok) = false := by simp
  obtain ⟨y0, y1, y2, y3⟩ := cells_of4L HOg_7.out.now.1.1
  obtain ⟨z0, z1, z2, z3⟩ := cells_of4L HOw_7.out.now.1
  rw [hW7] at y0 y1 y2 y3 z0 z1 z2 z3
  go_wp2_with fail
  rw [← hW7] at y0 y1 y2 y3 z0 z1 z2 z3 ⊢
  clear hW7
  refine (eqT_two _ _ r0 _ _ _ _ _ (by have h := HOg_7.out.now.1.2; rw [← HEg.out] at h; exact h) HOw_7.out.now.2).mono ?_
  rintro e wa ⟨rfl, hb⟩
  clear y0 y1 y2 y3 z0 z1 z2 z3
  have HA0_8 := Lib.hid (HA0_7.out.below hb)
  have HOw_8 := Lib.hid (HOw_7.out.below hb)
  have HX0_8 := Lib.hid (HX0_7.out.below hb)
  have HOg_8 := Lib.hid (HOg_7.out.below hb)
  have HB_8 := Lib.hid (HB_7.out.trans (hb.mono HB_7.out.size))
  have hz7 := hb.size
  clear hb HB_7 HA0_7 HOw_7 HX0_7 HOg_7
  go_wp2_with fail
  refine (toBs_any _ b0 0 h0 _ HW0.out HA0_8.out.now).mono ?_
  rintro e wc9 ⟨Y0, rfl, ⟨ht, _⟩, hb⟩
  have HA0_9 := Lib.hid (HA0_8.out.below hb)
  have HOw_9 := Lib.hid (HOw_8.out.below hb)
  have HX0_9 := Lib.hid (HX0_8.out.below hb)
  have HOg_9 := Lib.hid (HOg_8.out.below hb)
  have HB_9 := Lib.hid (HB_8.out.trans (hb.mono HB_8.out.size))
  have hz8 := hb.size
  clear hb HB_8 HA0_8 HOw_8 HX0_8 HOg_8
  have HY0_9 := Lib.hid (ht.kept)
  clear ht
  go_wp2_with fail
  refine (eqBs_two _ _ b0 _ _ _ _ _ (by have := wBs_len b0; have := HW0.out; omega) HX0_9.out.now.1 HY0_9.out.now).mono ?_
  rintro e wf0 ⟨rfl, hb⟩
  have HA0_10 := Lib.hid (HA0_9.out.below hb)
  have HOw_10 := Lib.hid (HOw_9.out.below hb)
  have HX0_10 := Lib.hid (HX0_9.out.below hb)
  have HOg_10 := Lib.hid (HOg_9.out.below hb)
  have HY0_10 := Lib.hid (HY0_9.out.below hb)
  have HB_10 := Lib.hid (HB_9.out.trans (hb.mono HB_9.out.size))
  have hz9 := hb.size
  clear hb HB_9 HA0_9 HOw_9 HX0_9 HOg_9 HY0_9
  clear HY0_10
  go_wp2_with fail
  refine (markBs_any _ b0 h0 W4.heap.size wx0.heap.size (1) _ HX0_10.out.now.2 (by omega) (by omega) (by have := mBs_le b0; have := HW0.out; omega)).mono ?_
  rintro e wk0 ⟨⟨rfl, ho⟩, _⟩
  clear HX0_10
  have HA0_11 := Lib.hid (HA0_10.out.out ho (by omega))
  have HOw_11 := Lib.hid (HOw_10.out.out ho (by omega))
  have HOg_11 := Lib.hid (HOg_10.out.out ho (by omega))
  have HB_11 := Lib.hid (HB_10.out.trans ((ho.under (B := w.heap.size) (by omega) (by omega))))
  have hz10 := ho.2.2.2.1
  clear HB_10 HA0_10 HOw_10 HOg_10
  clear ho
  have hpos : ¬ ((1 + mBs b0 : Nat) : Int) < 0 := by omega
  obtain ⟨y0, y1, y2, y3⟩ := cells_of4L HOg_11.out.now.1.1
  obtain ⟨z0, z1, z2, z3⟩ := cells_of4L HOw_11.out.now.1
  go_wp2_with fail
  refine (eqT_two _ _ r0 _ _ _ _ _ (by have h := HOg_11.out.now.1.2; rw [← HEg.out] at h; exact h) HOw_11.out.now.2).mono ?_
  rintro e wb ⟨rfl, hb⟩
  clear y0 y1 y2 y3 z0 z1 z2 z3
  have HA0_12 := Lib.hid (HA0_11.out.below hb)
  have HOw_12 := Lib.hid (HOw_11.out.below hb)
  have HOg_12 := Lib.hid (HOg_11.out.below hb)
  have HB_12 := Lib.hid (HB_11.out.trans (hb.mono HB_11.out.size))
  have hz11 := hb.size
  clear hb HB_11 HA0_11 HOw_11 HOg_11
  obtain ⟨g0, g1, g2, g3⟩ := cells_of4L HOg_12.out.now.1.1
  go_wp2_with fail
  refine (markPT_any kg ng sg _ xsg Hg wx0.heap.size wg.heap.size 1 _ HOg_12.out.now.2 (by omega) (by omega) (by have := HCg.out; omega)).mono ?_
  rintro e wgm ⟨⟨rfl, ho⟩, ha⟩
  clear g0 g1 g2 g3
  have hrow : wgm.heap[wg.heap.size]? = some (trow kg ng sg (.slice aag mmg ccg)) := (ho.2.2.2.2 _ (by omega) (Or.inr (Nat.le_refl _))).trans HOg_12.out.now.1.1
  clear HOg_12
  have HA0_13 := Lib.hid (HA0_12.out.out ho (by omega))
  have HOw_13 := Lib.hid (HOw_12.out.out ho (by omega))
  have HB_13 := Lib.hid (HB_12.out.trans ((ho.under (B := w.heap.size) (by omega) (by omega))))
  have hz12 := ho.2.2.2.1
  clear HB_12 HA0_12 HOw_12
  clear ho
  have HGM_13 := Lib.hid ((show Kept 0 wgm.heap.size (fun w' => w'.heap[wg.heap.size]? = some (trow kg ng sg (.slice aag mmg ccg)) ∧ ArgsAt w' 0 Hg (.slice aag mmg ccg) (mkS 1 xsg)) wgm from ⟨Nat.le_refl _, fun w' hs => ⟨(hs _ (Nat.zero_le _) (Array.getElem?_eq_some_iff.1 hrow).1).trans hrow, (ha.args (fun _ _ => Nat.zero_le _)).same hs⟩⟩))
  clear ha hrow
  obtain ⟨g0, g1, g2, g3⟩ := cells_of4L HGM_13.out.now.1
  go_wp2_with fail
  refine (heldT_any kg ng sg _ xsg 0 Hg 1 _ HGM_13.out.now.2 (by omega) (by have := HCg.out; omega)).mono ?_
  rintro e wh1 ⟨rfl, hb⟩
  clear g0 g1 g2 g3
  have HA0_14 := Lib.hid (HA0_13.out.below hb)
  have HOw_14 := Lib.hid (HOw_13.out.below hb)
  have HGM_14 := Lib.hid (HGM_13.out.below hb)
  have HB_14 := Lib.hid (HB_13.out.trans (hb.mono HB_13.out.size))
  have hz13 := hb.size
  clear hb HB_13 HA0_13 HOw_13 HGM_13
  have hpos2 : ¬ ((1 + 3 * cS xsg : Nat) : Int) < 0 := by omega
  have heq2 : (((1 + 3 * cS xsg : Nat) : Int) != ((1 + 3 * cS xsg : Nat) : Int)) = false := by simp
  go_wp2_with fail
  refine (toBs_any _ b0 0 h0 _ HW0.out HA0_14.out.now).mono ?_
  rintro e wc15 ⟨Z0, rfl, ⟨ht, _⟩, hb⟩
  have HA0_15 := Lib.hid (HA0_14.out.below hb)
  have HOw_15 := Lib.hid (HOw_14.out.below hb)
  have HGM_15 := Lib.hid (HGM_14.out.below hb)
  have HB_15 := Lib.hid (HB_14.out.trans (hb.mono HB_14.out.size))
  have hz14 := hb.size
  clear hb HB_14 HA0_14 HOw_14 HGM_14
  have HZ0_15 := Lib.hid (ht.kept)
  clear ht
  go_wp2_with fail
  refine (HIM.out _ _ HZ0_15.out.now).mono ?_
  rintro e wh2 ⟨kh, nh, sh, aah, mmh, cch, Hh, xsh, rfl, eh, hsh, hoh, hb⟩
  have HCh : Hid (1 + 3 * cS xsh ≤ 1152921504606846976) := Lib.hid (by have h1 := HRW.out; rw [eh, cT_node] at h1; omega)
  have HA0_16 := Lib.hid (HA0_15.out.below hb)
  have HOw_16 := Lib.hid (HOw_15.out.below hb)
  have HGM_16 := Lib.hid (HGM_15.out.below hb)
  have HZ0_16 := Lib.hid (HZ0_15.out.below hb)
  have HB_16 := Lib.hid (HB_15.out.trans (hb.mono HB_15.out.size))
  have hz15 := hb.size
  clear hb HB_15 HA0_15 HOw_15 HGM_15 HZ0_15
  obtain ⟨W17, hW17⟩ : ∃ W17, W17 = boxed wh2 kh nh sh (.slice aah mmh cch) := ⟨_, rfl⟩
  have hbb : Below wh2.heap.size wh2 W17 := by rw [hW17]; exact boxed_below _ _ _ _ _
  have hzz17 : W17.heap.size = wh2.heap.size + 1 := by rw [hW17]; simp
  have hto := tbox_of hsh (hoh.args (Nat.le_refl _)) hoh.own hW17
  have HA0_17 := Lib.hid (HA0_16.out.below hbb)
  have HOw_17 := Lib.hid (HOw_16.out.below hbb)
  have HGM_17 := Lib.hid (HGM_16.out.below hbb)
  have HZ0_17 := Lib.hid (HZ0_16.out.below hbb)
  have HB_17 := Lib.hid (HB_16.out.trans (hbb.mono HB_16.out.size))
  have hz16 := hbb.size
  clear hbb HB_16 HA0_16 HOw_16 HGM_16 HZ0_16
  have HOh_17 := Lib.hid (hto.kept (by omega))
  have HEh := Lib.hid eh
  clear hto hsh hoh eh
  unfold boxed at hW17
  clear HZ0_17
  obtain ⟨y0, y1, y2, y3⟩ := cells_of4L HOh_17.out.now.1.1
  obtain ⟨z0, z1, z2, z3⟩ := cells_of4L HOw_17.out.now.1
  rw [hW17] at y0 y1 y2 y3 z0 z1 z2 z3
  go_wp2_with fail
  rw [← hW17] at y0 y1 y2 y3 z0 z1 z2 z3 ⊢
  clear hW17
  refine (eqT_two _ _ r0 _ _ _ _ _ (by have h := HOh_17.out.now.1.2; rw [← HEh.out] at h; exact h) HOw_17.out.now.2).mono ?_
  rintro e wh3 ⟨rfl, hb⟩
  clear y0 y1 y2 y3 z0 z1 z2 z3
  have HA0_18 := Lib.hid (HA0_17.out.below hb)
  have HOw_18 := Lib.hid (HOw_17.out.below hb)
  have HGM_18 := Lib.hid (HGM_17.out.below hb)
  have HOh_18 := Lib.hid (HOh_17.out.below hb)
  have HB_18 := Lib.hid (HB_17.out.trans (hb.mono HB_17.out.size))
  have hz17 := hb.size
  clear hb HB_17 HA0_17 HOw_17 HGM_17 HOh_17
  clear HOh_18
  clear HOw_18
  obtain ⟨g0, g1, g2, g3⟩ := cells_of4L HGM_18.out.now.1
  go_wp2_with fail
  refine (heldT_any kg ng sg _ xsg 0 Hg 1 _ HGM_18.out.now.2 (by omega) (by have := HCg.out; omega)).mono ?_
  rintro e wh4 ⟨rfl, hb⟩
  clear g0 g1 g2 g3
  have HA0_19 := Lib.hid (HA0_18.out.below hb)
  have HGM_19 := Lib.hid (HGM_18.out.below hb)
  have HB_19 := Lib.hid (HB_18.out.trans (hb.mono HB_18.out.size))
  have hz18 := hb.size
  clear hb HB_18 HA0_18 HGM_18
  go_wp2
  go_ret
  exact ⟨rfl, HB_19.out⟩
end Go.Proofs.Ytkgpkphacjjlgaa
