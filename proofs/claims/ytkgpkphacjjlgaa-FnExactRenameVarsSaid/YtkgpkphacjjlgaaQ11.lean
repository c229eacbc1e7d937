/-
  The law on RenameVars answers true at every term and string.
-/
import Derived.Test.YtkgpkphacjjlgaaQ7
import Derived.Test.YtkgpkphacjjlgaaQ10
import Derived.Test.YtkgpkphacjjlgaaQ9
import Derived.Test.YtkgpkphacjjlgaaQ2
namespace Go.Proofs.Ytkgpkphacjjlgaa
open Go.RowKit

set_option maxRecDepth 100000 in
set_option maxHeartbeats 3200000 in
theorem exRen_any (v0 : Value) (t0 : T) (h0 : Nat) (x1 : ByteArray) (w : World) (ht0 : TermAt w 0 h0 v0 t0) (hx1 : x1.size ≤ maxLen) :
    Calls Try.prog 10 #[v0, .string x1] w (TrueI w) := by
  obtain ⟨k0, n0, s0, u0, rfl⟩ := ht0.form
  obtain ⟨WB, hWB⟩ : ∃ WB, WB = (w.alloc (.cells #[.int .i64 k0, .int .i64 n0, .string s0, u0] 45)) := ⟨_, rfl⟩
  have hb0 : Below w.heap.size w WB := by rw [hWB]; exact ((Below.refl _ _).alloc (by simp; try omega) _)
  have HB_0 := Lib.hid hb0
  have hzb := hb0.size
  have HA0_0 := Lib.hid (TArg.kept (⟨by rw [hWB]; exact heap_new _ _ (by simp), ht0.below hb0⟩ : TArg (w.heap.size) k0 n0 s0 u0 h0 t0 WB))
  clear hb0 ht0
  have hx12 : x1.size ≤ 9223372036854775807 := by unfold maxLen at hx1; omega
  clear hx1
  by_cases hs1 : 1048576 < x1.size
  · go_enter Try.func10, Try.ntmps10
    go_wp2
    rw [← hWB]
    go_ret
    exact ⟨rfl, HB_0.out⟩
  have HN1 : Hid (x1.size ≤ 1048576) := Lib.hid (by omega)
  have hnn1 : x1.size ≤ 1048576 := by omega
  go_enter Try.func10, Try.ntmps10
  go_wp2_with fail
  rw [← hWB]
  clear hWB
  refine (szT_any _ t0 0 h0 1048576 _ HA0_0.out.now.2 (by omega) (by omega)).mono ?_
  rintro e wz0 ⟨r0, rfl, hb, hr0a, hr0⟩
  have HR0 := Lib.hid hr0; clear hr0
  have HA0_1 := Lib.hid (HA0_0.out.below hb)
  have HB_1 := Lib.hid (HB_0.out.trans (hb.mono HB_0.out.size))
  have hz0 := hb.size
  clear hb HB_0 HA0_0
  by_cases hr : r0 < 0
  · go_wp2
    go_ret
    exact ⟨rfl, HB_1.out⟩
  have HRN0 : Hid (0 ≤ r0) := Lib.hid (by omega)
  clear hr
  have hr00 : 0 ≤ r0 := HRN0.out
  have HW0 : Hid (wT t0 ≤ 1048576) := Lib.hid (by have q0 := HR0.out HRN0.out; omega)
  obtain ⟨r0, hr0⟩ : ∃ r0, r0 = mapT (fun _ => none) (fun s => s ++ x1) t0 := ⟨_, rfl⟩
  have HSP : Hid (∀ (v : Value) {lo : Nat} (w : World), TermAt w lo h0 v t0 → Calls Try.prog 50 #[v, .string x1] w (CopyE r0 w)) := Lib.hid (fun v lo w h1 => by
    rw [hr0]; exact (sRen_any x1 HN1.out h0 v t0 lo w h1 HW0.out).mono fun _ _ q => ⟨_, q⟩)
  have HIM : Hid (∀ (v : Value) {lo : Nat} (w : World), TermAt w lo h0 v t0 → Calls Try.prog 51 #[v, .string x1] w (CopyE r0 w)) := Lib.hid (fun v lo w h1 => by
    rw [hr0]; exact (renI_any v t0 x1 lo h0 w h1 (by have := HW0.out; omega) HN1.out).mono fun _ _ q => ⟨_, q⟩)
  have HRW : Hid (cT r0 ≤ 2199023255552) := Lib.hid (by
    rw [hr0]
    have h1 := cT_map (fun _ => none) (fun s => s ++ x1) 1 (fun s u e => by cases e) (Nat.le_refl _) t0
    have h2 := cT_le t0
    have h3 := HW0.out
    omega)
  clear hr0
  obtain ⟨c0, c1, c2, c3⟩ := cells_of4L HA0_1.out.now.1
  go_wp2_with fail
  refine (toT_any _ t0 0 h0 _ HA0_1.out.now.2 HW0.out).mono ?_
  rintro e wc2 ⟨V0, rfl, ht, hb⟩
  clear c0 c1 c2 c3
  have HA0_2 := Lib.hid (HA0_1.out.below hb)
  have HB_2 := Lib.hid (HB_1.out.trans (hb.mono HB_1.out.size))
  have hz1 := hb.size
  clear hb HB_1 HA0_1
  have HV0_2 := Lib.hid (ht.kept)
  clear ht
  go_wp2_with fail
  refine (HSP.out _ _ HV0_2.out.now).mono ?_
  rintro e wm ⟨Hw, kw, nw, sw, uuw, xsw, rfl, ew, hsw, how, hb⟩
  obtain ⟨aaw, ccw, rfl⟩ := how.slice
  obtain ⟨mmw, hmmw⟩ : ∃ m, m = xsw.length := ⟨_, rfl⟩
  rw [← hmmw] at how ⊢
  have HCw : Hid (1 + 3 * cS xsw ≤ 1152921504606846976) := Lib.hid (by have h1 := HRW.out; rw [ew, cT_node] at h1; omega)
  have HA0_3 := Lib.hid (HA0_2.out.below hb)
  have HV0_3 := Lib.hid (HV0_2.out.below hb)
  have HB_3 := Lib.hid (HB_2.out.trans (hb.mono HB_2.out.size))
  have hz2 := hb.size
  clear hb HB_2 HA0_2 HV0_2
  obtain ⟨W4, hW4⟩ : ∃ W4, W4 = boxed wm kw nw sw (.slice aaw mmw ccw) := ⟨_, rfl⟩
  have hbb : Below wm.heap.size wm W4 := by rw [hW4]; exact boxed_below _ _ _ _ _
  have hzz4 : W4.heap.size = wm.heap.size + 1 := by rw [hW4]; simp
  have hto := tbox_of hsw (how.args (Nat.le_refl _)) how.own hW4
  have HA0_4 := Lib.hid (HA0_3.out.below hbb)
  have HV0_4 := Lib.hid (HV0_3.out.below hbb)
  have HB_4 := Lib.hid (HB_3.out.trans (hbb.mono HB_3.out.size))
  have hz3 := hbb.size
  clear hbb HB_3 HA0_3 HV0_3
  have HOw_4 := Lib.hid (hto.kept (by omega))
  have HEw := Lib.hid ew
  clear hto hsw how ew hmmw
  unfold boxed at hW4
  clear HV0_4
  clear HSP
  obtain ⟨c0, c1, c2, c3⟩ := cells_of4L HA0_4.out.now.1
  rw [hW4] at c0 c1 c2 c3
  go_wp2_with fail
  rw [← hW4] at c0 c1 c2 c3 ⊢
  clear hW4
  refine (toT_own _ t0 0 h0 _ HA0_4.out.now.2 HW0.out).mono ?_
  rintro e wx0 ⟨kx0, nx0, sx0, ux0, xsx0, rfl, etx, hsx, ⟨hax, hox⟩, hb⟩
  obtain ⟨ax0, cx0, rfl⟩ := hax.slice
  obtain ⟨mx0, hmx⟩ : ∃ m, m = xsx0.length := ⟨_, rfl⟩
  rw [← hmx] at hax hox ⊢
  have HCX0 : Hid (cS xsx0 ≤ 1048576) := Lib.hid (by have hw := HW0.out; rw [etx, wT_node] at hw; have := cS_le xsx0; omega)
  clear c0 c1 c2 c3
  have HA0_5 := Lib.hid (HA0_4.out.below hb)
  have HOw_5 := Lib.hid (HOw_4.out.below hb)
  have HB_5 := Lib.hid (HB_4.out.trans (hb.mono HB_4.out.size))
  have hz4 := hb.size
  clear hb HB_4 HA0_4 HOw_4
  obtain ⟨W6, hW6⟩ : ∃ W6, W6 = boxed wx0 kx0 nx0 sx0 (.slice ax0 mx0 cx0) := ⟨_, rfl⟩
  have hbb : Below wx0.heap.size wx0 W6 := by rw [hW6]; exact boxed_below _ _ _ _ _
  have hzz6 : W6.heap.size = wx0.heap.size + 1 := by rw [hW6]; simp
  have hto := tbox_of hsx hax hox hW6
  have HA0_6 := Lib.hid (HA0_5.out.below hbb)
  have HOw_6 := Lib.hid (HOw_5.out.below hbb)
  have HB_6 := Lib.hid (HB_5.out.trans (hbb.mono HB_5.out.size))
  have hz5 := hbb.size
  clear hbb HB_5 HA0_5 HOw_5
  have HX0_6 := Lib.hid (hto.kept (by omega))
  have HEX0 : Hid (t0 = .node kx0 nx0 sx0 xsx0) := Lib.hid etx
  clear hto hax hox hsx etx hmx
  unfold boxed at hW6
  obtain ⟨p00, p01, p02, p03⟩ := cells_of4L HX0_6.out.now.1.1
  rw [hW6] at p00 p01 p02 p03
  go_wp2_with fail
  rw [← hW6] at p00 p01 p02 p03 ⊢
  clear hW6
  refine (HIM.out _ _ (by have h := HX0_6.out.now.1.2; rw [← HEX0.out] at h; exact h)).mono ?_
  rintro e wg ⟨Hg, kg, ng, sg, uug, xsg, rfl, eg, hsg, hog, hb⟩
  obtain ⟨aag, ccg, rfl⟩ := hog.slice
  obtain ⟨mmg, hmmg⟩ : ∃ m, m = xsg.length := ⟨_, rfl⟩
  rw [← hmmg] at hog ⊢
  have HCg : Hid (1 + 3 * cS xsg ≤ 1152921504606846976) := Lib.hid (by have h1 := HRW.out; rw [eg, cT_node] at h1; omega)
  have HA0_7 := Lib.hid (HA0_6.out.below hb)
  have HOw_7 := Lib.hid (HOw_6.out.below hb)
  have HX0_7 := Lib.hid (HX0_6.out.below hb)
  have HB_7 := Lib.hid (HB_6.out.trans (hb.mono HB_6.out.size))
  have hz6 := hb.size
  clear hb HB_6 HA0_6 HOw_6 HX0_6
  obtain ⟨W8, hW8⟩ : ∃ W8, W8 = boxed wg kg ng sg (.slice aag mmg ccg) := ⟨_, rfl⟩
  have hbb : Below wg.heap.size wg W8 := by rw [hW8]; exact boxed_below _ _ _ _ _
  have hzz8 : W8.heap.size = wg.heap.size + 1 := by rw [hW8]; simp
  have hto := tbox_of hsg (hog.args (Nat.le_refl _)) hog.own hW8
  have HA0_8 := Lib.hid (HA0_7.out.below hbb)
  have HOw_8 := Lib.hid (HOw_7.out.below hbb)
  have HX0_8 := Lib.hid (HX0_7.out.below hbb)
  have HB_8 := Lib.hid (HB_7.out.trans (hbb.mono HB_7.out.size))
  have hz7 := hbb.size
  clear hbb HB_7 HA0_7 HOw_7 HX0_7
  have HOg_8 := Lib.hid (hto.kept (by omega))
  have HEg := Lib.hid eg
  clear hto hsg hog eg hmmg
  unfold boxed at hW8
  clear p00 p01 p02 p03
  obtain ⟨y0, y1, y2, y3⟩ := cells_of4L HOg_8.out.now.1.1
  obtain ⟨z0, z1, z2, z3⟩ := cells_of4L HOw_8.out.now.1.1
  rw [hW8] at y0 y1 y2 y3 z0 z1 z2 z3
  go_wp2_with fail
  rw [← hW8] at y0 y1 y2 y3 z0 z1 z2 z3 ⊢
  clear hW8
  refine (eqT_two _ _ r0 _ _ _ _ _ (by have h := HOg_8.out.now.1.2; rw [← HEg.out] at h; exact h) (by have h := HOw_8.out.now.1.2; rw [← HEw.out] at h; exact h)).mono ?_
  rintro e wa ⟨rfl, hb⟩
  clear y0 y1 y2 y3 z0 z1 z2 z3
  have HA0_9 := Lib.hid (HA0_8.out.below hb)
  have HOw_9 := Lib.hid (HOw_8.out.below hb)
  have HX0_9 := Lib.hid (HX0_8.out.below hb)
  have HOg_9 := Lib.hid (HOg_8.out.below hb)
  have HB_9 := Lib.hid (HB_8.out.trans (hb.mono HB_8.out.size))
  have hz8 := hb.size
  clear hb HB_8 HA0_8 HOw_8 HX0_8 HOg_8
  have HK : Hid (∀ w', Below wa.heap.size wa w' → (w'.cell? ⟨wx0.heap.size, 0, none⟩ = some (.int .i64 kx0) ∧ w'.cell? ⟨wx0.heap.size, 1, none⟩ = some (.int .i64 nx0) ∧ w'.cell? ⟨wx0.heap.size, 2, none⟩ = some (.string sx0) ∧ w'.cell? ⟨wx0.heap.size, 3, none⟩ = some (.slice ax0 mx0 cx0) ∧ w'.cell? ⟨w.heap.size, 0, none⟩ = some (.int .i64 k0) ∧ w'.cell? ⟨w.heap.size, 1, none⟩ = some (.int .i64 n0) ∧ w'.cell? ⟨w.heap.size, 2, none⟩ = some (.string s0) ∧ w'.cell? ⟨w.heap.size, 3, none⟩ = some (u0) ∧ Below wa.heap.size wa w')) := Lib.hid (fun w' hb => by
    obtain ⟨p0, p1, p2, p3⟩ := cells_of4L (HX0_9.out.below hb).now.1.1
    obtain ⟨b0, b1, b2, b3⟩ := cells_of4L (HA0_9.out.below hb).now.1
    exact ⟨p0, p1, p2, p3, b0, b1, b2, b3, hb⟩)
  obtain ⟨p0, p1, p2, p3, b0, b1, b2, b3, hb0⟩ := HK.out _ (Below.refl _ _)
  have HT5 : Hid (∀ w', Below wa.heap.size wa w' → TermAt w' 0 h0 (tv k0 n0 s0 u0) t0) := Lib.hid (fun w' hb => (HA0_9.out.below hb).now.2)
  have HX5 : Hid (∀ w', Below wa.heap.size wa w' → TermAt w' W4.heap.size h0 (tv kx0 nx0 sx0 (.slice ax0 mx0 cx0)) t0) := Lib.hid (fun w' hb => by rw [HEX0.out]; exact (HX0_9.out.below hb).now.1.2)
  go_wp2
  go_region_held3 (fun w' => w'.cell? ⟨wx0.heap.size, 0, none⟩ = some (.int .i64 kx0) ∧ w'.cell? ⟨wx0.heap.size, 1, none⟩ = some (.int .i64 nx0) ∧ w'.cell? ⟨wx0.heap.size, 2, none⟩ = some (.string sx0) ∧ w'.cell? ⟨wx0.heap.size, 3, none⟩ = some (.slice ax0 mx0 cx0) ∧ w'.cell? ⟨w.heap.size, 0, none⟩ = some (.int .i64 k0) ∧ w'.cell? ⟨w.heap.size, 1, none⟩ = some (.int .i64 n0) ∧ w'.cell? ⟨w.heap.size, 2, none⟩ = some (.string s0) ∧ w'.cell? ⟨w.heap.size, 3, none⟩ = some (u0) ∧ Below wa.heap.size wa w')
    (first | exact HK.out _ (by assumption) | exact HK.out _ (bel_drew (by assumption)) | exact HK.out _ (Below.drew (by assumption)) | exact HK.out _ (bel_two (bel_drew (by assumption)) (by assumption)) | go_keep)
    (first
      | (go_at_call 30; refine (toT_any _ t0 0 h0 _ (HT5.out _ (by first | assumption | exact Below.drew (by assumption))) HW0.out).mono ?_; rintro e we0 ⟨v3, rfl, ht9, hb9⟩)
      | (go_at_call 34; refine (eqT_any _ v3 t0 _ _ h0 _ (HX5.out _ (by first | assumption | exact bel_drew (by assumption) | exact Below.drew (by assumption))) (by first | exact ht9 | exact ht9.below (Below.drew (Below.refl _ _)))).mono ?_; rintro e wf0 ⟨rfl, hb10⟩))
  have hbq : Below wa.heap.size wa wf0 := bel_two (bel_drew hb9) hb10
  clear HX5 HT5 HK p0 p1 p2 p3 b0 b1 b2 b3 hb0 hb9 hb10 ht9
  have HA0_10 := Lib.hid (HA0_9.out.below hbq)
  have HOw_10 := Lib.hid (HOw_9.out.below hbq)
  have HX0_10 := Lib.hid (HX0_9.out.below hbq)
  have HOg_10 := Lib.hid (HOg_9.out.below hbq)
  have HB_10 := Lib.hid (HB_9.out.trans (hbq.mono HB_9.out.size))
  have hz9 := hbq.size
  clear hbq HB_9 HA0_9 HOw_9 HX0_9 HOg_9
  obtain ⟨p0, p1, p2, p3⟩ := cells_of4L HX0_10.out.now.1.1
  go_wp2_with fail
  refine (markPT_any kx0 nx0 sx0 _ xsx0 h0 W4.heap.size wx0.heap.size (1) _ HX0_10.out.now.2 (by omega) (by omega) (by have := HCX0.out; omega)).mono ?_
  rintro e wk0 ⟨⟨rfl, ho⟩, _⟩
  clear p0 p1 p2 p3
  clear HX0_10
  have HA0_11 := Lib.hid (HA0_10.out.out ho (by omega))
  have HOw_11 := Lib.hid (HOw_10.out.out ho (by omega))
  have HOg_11 := Lib.hid (HOg_10.out.out ho (by omega))
  have HB_11 := Lib.hid (HB_10.out.trans ((ho.under (B := w.heap.size) (by omega) (by omega))))
  have hz10 := ho.2.2.2.1
  clear HB_10 HA0_10 HOw_10 HOg_10
  clear ho
  have hpos : ¬ ((1 + 3 * cS xsx0 : Nat) : Int) < 0 := by omega
  obtain ⟨y0, y1, y2, y3⟩ := cells_of4L HOg_11.out.now.1.1
  obtain ⟨z0, z1, z2, z3⟩ := cells_of4L HOw_11.out.now.1.1
  go_wp2_with fail
  refine (eqT_two _ _ r0 _ _ _ _ _ (by have h := HOg_11.out.now.1.2; rw [← HEg.out] at h; exact h) (by have h := HOw_11.out.now.1.2; rw [← HEw.out] at h; exact h)).mono ?_
  rintro e wb ⟨rfl, hb⟩
  clear y0 y1 y2 y3 z0 z1 z2 z3
  have HA0_12 := Lib.hid (HA0_11.out.below hb)
  have HOw_12 := Lib.hid (HOw_11.out.below hb)
  have HOg_12 := Lib.hid (HOg_11.out.below hb)
  have HB_12 := Lib.hid (HB_11.out.trans (hb.mono HB_11.out.size))
  have hz11 := hb.size
  clear hb HB_11 HA0_11 HOw_11 HOg_11
  obtain ⟨g0, g1, g2, g3⟩ := cells_of4L HOg_12.out.now.1.1
  go_wp2_with fail
  refine (markPT_any kg ng sg _ xsg Hg W6.heap.size wg.heap.size 1 _ HOg_12.out.now.2 (by omega) (by omega) (by have := HCg.out; omega)).mono ?_
  rintro e wgm ⟨⟨rfl, ho⟩, ha⟩
  clear g0 g1 g2 g3
  have hrow : wgm.heap[wg.heap.size]? = some (trow kg ng sg (.slice aag mmg ccg)) := (ho.2.2.2.2 _ (by omega) (Or.inr (Nat.le_refl _))).trans HOg_12.out.now.1.1
  clear HOg_12
  have HA0_13 := Lib.hid (HA0_12.out.out ho (by omega))
  have HOw_13 := Lib.hid (HOw_12.out.out ho (by omega))
  have HB_13 := Lib.hid (HB_12.out.trans ((ho.under (B := w.heap.size) (by omega) (by omega))))
  have hz12 := ho.2.2.2.1
  clear HB_12 HA0_12 HOw_12
  clear ho
  have HGM_13 := Lib.hid ((show Kept 0 wgm.heap.size (fun w' => w'.heap[wg.heap.size]? = some (trow kg ng sg (.slice aag mmg ccg)) ∧ ArgsAt w' 0 Hg (.slice aag mmg ccg) (mkS 1 xsg)) wgm from ⟨Nat.le_refl _, fun w' hs => ⟨(hs _ (Nat.zero_le _) (Array.getElem?_eq_some_iff.1 hrow).1).trans hrow, (ha.args (fun _ _ => Nat.zero_le _)).same hs⟩⟩))
  clear ha hrow
  obtain ⟨g0, g1, g2, g3⟩ := cells_of4L HGM_13.out.now.1
  go_wp2_with fail
  refine (heldT_any kg ng sg _ xsg 0 Hg 1 _ HGM_13.out.now.2 (by omega) (by have := HCg.out; omega)).mono ?_
  rintro e wh1 ⟨rfl, hb⟩
  clear g0 g1 g2 g3
  have HA0_14 := Lib.hid (HA0_13.out.below hb)
  have HOw_14 := Lib.hid (HOw_13.out.below hb)
  have HGM_14 := Lib.hid (HGM_13.out.below hb)
  have HB_14 := Lib.hid (HB_13.out.trans (hb.mono HB_13.out.size))
  have hz13 := hb.size
  clear hb HB_13 HA0_13 HOw_13 HGM_13
  have hpos2 : ¬ ((1 + 3 * cS xsg : Nat) : Int) < 0 := by omega
  have heq2 : (((1 + 3 * cS xsg : Nat) : Int) != ((1 + 3 * cS xsg : Nat) : Int)) = false := by simp
  obtain ⟨c0, c1, c2, c3⟩ := cells_of4L HA0_14.out.now.1
  go_wp2_with fail
  refine (toT_any _ t0 0 h0 _ HA0_14.out.now.2 HW0.out).mono ?_
  rintro e wc15 ⟨Z0, rfl, ht, hb⟩
  clear c0 c1 c2 c3
  have HA0_15 := Lib.hid (HA0_14.out.below hb)
  have HOw_15 := Lib.hid (HOw_14.out.below hb)
  have HGM_15 := Lib.hid (HGM_14.out.below hb)
  have HB_15 := Lib.hid (HB_14.out.trans (hb.mono HB_14.out.size))
  have hz14 := hb.size
  clear hb HB_14 HA0_14 HOw_14 HGM_14
  have HZ0_15 := Lib.hid (ht.kept)
  clear ht
  go_wp2_with fail
  refine (HIM.out _ _ HZ0_15.out.now).mono ?_
  rintro e wh2 ⟨Hh, kh, nh, sh, uuh, xsh, rfl, eh, hsh, hoh, hb⟩
  obtain ⟨aah, cch, rfl⟩ := hoh.slice
  obtain ⟨mmh, hmmh⟩ : ∃ m, m = xsh.length := ⟨_, rfl⟩
  rw [← hmmh] at hoh ⊢
  have HCh : Hid (1 + 3 * cS xsh ≤ 1152921504606846976) := Lib.hid (by have h1 := HRW.out; rw [eh, cT_node] at h1; omega)
  have HA0_16 := Lib.hid (HA0_15.out.below hb)
  have HOw_16 := Lib.hid (HOw_15.out.below hb)
  have HGM_16 := Lib.hid (HGM_15.out.below hb)
  have HZ0_16 := Lib.hid (HZ0_15.out.below hb)
  have HB_16 := Lib.hid (HB_15.out.trans (hb.mono HB_15.out.size))
  have hz15 := hb.size
  clear hb HB_15 HA0_15 HOw_15 HGM_15 HZ0_15
  obtain ⟨W17, hW17⟩ : ∃ W17, W17 = boxed wh2 kh nh sh (.slice aah mmh cch) := ⟨_, rfl⟩
  have hbb : Below wh2.heap.size wh2 W17 := by rw [hW17]; exact boxed_below _ _ _ _ _
  have hzz17 : W17.heap.size = wh2.heap.size + 1 := by rw [hW17]; simp
  have hto := tbox_of hsh (hoh.args (Nat.le_refl _)) hoh.own hW17
  have HA0_17 := Lib.hid (HA0_16.out.below hbb)
  have HOw_17 := Lib.hid (HOw_16.out.below hbb)
  have HGM_17 := Lib.hid (HGM_16.out.below hbb)
  have HZ0_17 := Lib.hid (HZ0_16.out.below hbb)
  have HB_17 := Lib.hid (HB_16.out.trans (hbb.mono HB_16.out.size))
  have hz16 := hbb.size
  clear hbb HB_16 HA0_16 HOw_16 HGM_16 HZ0_16
  have HOh_17 := Lib.hid (hto.kept (by omega))
  have HEh := Lib.hid eh
  clear hto hsh hoh eh hmmh
  unfold boxed at hW17
  clear HZ0_17
  obtain ⟨y0, y1, y2, y3⟩ := cells_of4L HOh_17.out.now.1.1
  obtain ⟨z0, z1, z2, z3⟩ := cells_of4L HOw_17.out.now.1.1
  rw [hW17] at y0 y1 y2 y3 z0 z1 z2 z3
  go_wp2_with fail
  rw [← hW17] at y0 y1 y2 y3 z0 z1 z2 z3 ⊢
  clear hW17
  refine (eqT_two _ _ r0 _ _ _ _ _ (by have h := HOh_17.out.now.1.2; rw [← HEh.out] at h; exact h) (by have h := HOw_17.out.now.1.2; rw [← HEw.out] at h; exact h)).mono ?_
  rintro e wh3 ⟨rfl, hb⟩
  clear y0 y1 y2 y3 z0 z1 z2 z3
  have HA0_18 := Lib.hid (HA0_17.out.below hb)
  have HOw_18 := Lib.hid (HOw_17.out.below hb)
  have HGM_18 := Lib.hid (HGM_17.out.below hb)
  have HOh_18 := Lib.hid (HOh_17.out.below hb)
  have HB_18 := Lib.hid (HB_17.out.trans (hb.mono HB_17.out.size))
  have hz17 := hb.size
  clear hb HB_17 HA0_17 HOw_17 HGM_17 HOh_17
  clear HOh_18
  clear HOw_18
  obtain ⟨g0, g1, g2, g3⟩ := cells_of4L HGM_18.out.now.1
  go_wp2_with fail
  refine (heldT_any kg ng sg _ xsg 0 Hg 1 _ HGM_18.out.now.2 (by omega) (by have := HCg.out; omega)).mono ?_
  rintro e wh4 ⟨rfl, hb⟩
  clear g0 g1 g2 g3
  have HA0_19 := Lib.hid (HA0_18.out.below hb)
  have HGM_19 := Lib.hid (HGM_18.out.below hb)
  have HB_19 := Lib.hid (HB_18.out.trans (hb.mono HB_18.out.size))
  have hz18 := hb.size
  clear hb HB_18 HA0_18 HGM_18
  go_wp2
  go_ret
  exact ⟨rfl, HB_19.out⟩
end Go.Proofs.Ytkgpkphacjjlgaa
