/-
  The law on MatchTerm: its walk.
-/
import Derived.Test.YteelakhaaipebaaQ45
import Derived.Test.YteelakhaaipebaaQ46
import Derived.Test.YteelakhaaipebaaQ7
import Derived.Test.YteelakhaaipebaaQ8
import Derived.Test.YteelakhaaipebaaQ20
namespace Go.Proofs.Yteelakhaaipebaa
open Go.RowKit

set_option maxRecDepth 100000 in
set_option maxHeartbeats 3200000 in
theorem exMatch_any (v0 : Value) (t0 : T) (h0 : Nat) (v1 : Value) (t1 : T) (h1 : Nat) (w : World) (ht0 : TermAt w 0 h0 v0 t0) (ht1 : TermAt w 0 h1 v1 t1) :
    Calls Try.prog 7 #[v0, v1] w (TrueI w) := by
  obtain ⟨k0, n0, s0, u0, rfl⟩ := ht0.form
  obtain ⟨k1, n1, s1, u1, rfl⟩ := ht1.form
  obtain ⟨WB, hWB⟩ : ∃ WB, WB = ((w.alloc (.cells #[.int .i64 k0, .int .i64 n0, .string s0, u0] 57)).alloc (.cells #[.int .i64 k1, .int .i64 n1, .string s1, u1] 57)) := ⟨_, rfl⟩
  have hb0 : Below w.heap.size w WB := by rw [hWB]; exact (((Below.refl _ _).alloc (by simp; try omega) _).alloc (by simp; try omega) _)
  have HB_0 := Lib.hid hb0
  have hzb := hb0.size
  have HA0_0 := Lib.hid (TArg.kept (⟨by rw [hWB]; rw [Below.heap_alloc _ _ _ (by simp; try omega)]; exact heap_new _ _ (by simp), ht0.below hb0⟩ : TArg (w.heap.size) k0 n0 s0 u0 h0 t0 WB))
  have HA1_0 := Lib.hid (TArg.kept (⟨by rw [hWB]; exact heap_new _ _ (by simp), ht1.below hb0⟩ : TArg (w.heap.size + 1) k1 n1 s1 u1 h1 t1 WB))
  clear hb0 ht0 ht1
  go_enter Try.func7, Try.ntmps7
  go_wp2_with fail
  rw [← hWB]
  clear hWB
  refine (szT_any _ t0 0 h0 1048576 _ HA0_0.out.now.2 (by omega) (by omega)).mono ?_
  rintro e wz0 ⟨r0, rfl, hb, hr0a, hr0⟩
  have HR0 := Lib.hid hr0; clear hr0
  have HA0_1 := Lib.hid (HA0_0.out.below hb)
  have HA1_1 := Lib.hid (HA1_0.out.below hb)
  have HB_1 := Lib.hid (HB_0.out.trans (hb.mono HB_0.out.size))
  have hz0 := hb.size
  clear hb HB_0 HA0_0 HA1_0
  by_cases hr : r0 < 0
  · go_wp2
    go_ret
    exact ⟨rfl, HB_1.out⟩
  have HRN0 : Hid (0 ≤ r0) := Lib.hid (by omega)
  clear hr
  have hr00 : 0 ≤ r0 := HRN0.out
  obtain ⟨c0, c1, c2, c3⟩ := cells_of4L HA1_1.out.now.1
  go_wp2_with fail
  refine (szT_any _ t1 0 h1 r0 _ HA1_1.out.now.2 (by omega) (by have := HR0.out (by omega); omega)).mono ?_
  rintro e wz1 ⟨r1, rfl, hb, hr1a, hr1⟩
  have HR1 := Lib.hid hr1; clear hr1
  clear c0 c1 c2 c3
  have HA0_2 := Lib.hid (HA0_1.out.below hb)
  have HA1_2 := Lib.hid (HA1_1.out.below hb)
  have HB_2 := Lib.hid (HB_1.out.trans (hb.mono HB_1.out.size))
  have hz1 := hb.size
  clear hb HB_1 HA0_1 HA1_1
  by_cases hr : r1 < 0
  · go_wp2
    go_ret
    exact ⟨rfl, HB_2.out⟩
  have HRN1 : Hid (0 ≤ r1) := Lib.hid (by omega)
  clear hr
  have hr01 : 0 ≤ r1 := HRN1.out
  have HW0 : Hid (wT t0 ≤ 1048576) := Lib.hid (by have q0 := HR0.out HRN0.out; omega)
  have HW1 : Hid (wT t1 ≤ 1048576) := Lib.hid (by have q0 := HR0.out HRN0.out; have q1 := HR1.out HRN1.out; omega)
  obtain ⟨r0, hr0⟩ : ∃ r, r = (matchB t0 t1).getD [] := ⟨_, rfl⟩
  obtain ⟨r1, hr1⟩ : ∃ r, r = (matchB t0 t1).isSome := ⟨_, rfl⟩
  have HSM : Hid (wT t0 + wT t1 ≤ 1048576) := Lib.hid (by have q0 := HR0.out HRN0.out; have q1 := HR1.out HRN1.out; omega)
  have HSP : Hid (∀ (u v : Value) {lo lo2 : Nat} (w : World), TermAt w lo h0 u t0 → TermAt w lo2 h1 v t1 → Calls Try.prog 35 #[u, v] w (RBb r0 r1 w)) := Lib.hid (fun u v lo lo2 w q1 q2 => by
    rw [hr0, hr1]; exact sMatch_any u v t0 t1 lo lo2 h0 h1 w q1 q2 HSM.out)
  have HIM : Hid (∀ (u v : Value) {lo lo2 : Nat} (w : World), TermAt w lo h0 u t0 → TermAt w lo2 h1 v t1 → Calls Try.prog 34 #[u, v] w (CBb r0 r1 w)) := Lib.hid (fun u v lo lo2 w q1 q2 => by
    rw [hr0, hr1]; exact iMatch_any u v t0 t1 lo lo2 h0 h1 w q1 q2 HSM.out)
  have HRM : Hid (mBs r0 ≤ 1152921504606846976 ∧ r0.length ≤ 4194304) := Lib.hid (by
    rw [hr0]; exact matchB_m HSM.out)
  have HRL : Hid (r0.length ≤ 9223372036854775807) := Lib.hid (by have := HRM.out.2; omega)
  clear hr0 hr1
  have HK : Hid (∀ w', Below wz1.heap.size wz1 w' → (w'.cell? ⟨w.heap.size, 0, none⟩ = some (.int .i64 k0) ∧ w'.cell? ⟨w.heap.size, 1, none⟩ = some (.int .i64 n0) ∧ w'.cell? ⟨w.heap.size, 2, none⟩ = some (.string s0) ∧ w'.cell? ⟨w.heap.size, 3, none⟩ = some (u0) ∧ w'.cell? ⟨w.heap.size + 1, 0, none⟩ = some (.int .i64 k1) ∧ w'.cell? ⟨w.heap.size + 1, 1, none⟩ = some (.int .i64 n1) ∧ w'.cell? ⟨w.heap.size + 1, 2, none⟩ = some (.string s1) ∧ w'.cell? ⟨w.heap.size + 1, 3, none⟩ = some (u1) ∧ Below wz1.heap.size wz1 w')) := Lib.hid (fun w' hb => by
    obtain ⟨p0, p1, p2, p3⟩ := cells_of4L (HA0_2.out.below hb).now.1
    obtain ⟨b0, b1, b2, b3⟩ := cells_of4L (HA1_2.out.below hb).now.1
    exact ⟨p0, p1, p2, p3, b0, b1, b2, b3, hb⟩)
  have HT0 : Hid (∀ w', Below wz1.heap.size wz1 w' → TermAt w' 0 h0 (tv k0 n0 s0 u0) t0) := Lib.hid (fun w' hb => (HA0_2.out.below hb).now.2)
  have HT1 : Hid (∀ w', Below wz1.heap.size wz1 w' → TermAt w' 0 h1 (tv k1 n1 s1 u1) t1) := Lib.hid (fun w' hb => (HA1_2.out.below hb).now.2)
  obtain ⟨p0, p1, p2, p3, b0, b1, b2, b3, hb0⟩ := HK.out _ (Below.refl _ _)
  go_wp2
  have HF0 := Lib.hid True.intro
  go_region_held3 (fun w' => w'.cell? ⟨w.heap.size, 0, none⟩ = some (.int .i64 k0) ∧ w'.cell? ⟨w.heap.size, 1, none⟩ = some (.int .i64 n0) ∧ w'.cell? ⟨w.heap.size, 2, none⟩ = some (.string s0) ∧ w'.cell? ⟨w.heap.size, 3, none⟩ = some (u0) ∧ w'.cell? ⟨w.heap.size + 1, 0, none⟩ = some (.int .i64 k1) ∧ w'.cell? ⟨w.heap.size + 1, 1, none⟩ = some (.int .i64 n1) ∧ w'.cell? ⟨w.heap.size + 1, 2, none⟩ = some (.string s1) ∧ w'.cell? ⟨w.heap.size + 1, 3, none⟩ = some (u1) ∧ Below wz1.heap.size wz1 w')
    (first | exact HK.out _ (by assumption) | exact HK.out _ (bel_drew (by assumption)) | exact HK.out _ (Below.drew (by assumption)) | go_keep)
    (first
      | (clear HF0; go_at_call 44; refine (toT_any (tv k0 n0 s0 u0) t0 0 h0 _ (HT0.out _ (by first | assumption | exact Below.drew (by assumption))) HW0.out).mono ?_; rintro e wva ⟨vva, rfl, htva, hbva⟩; have hBva : Below wz1.heap.size wz1 wva := (by first | exact bel_two (by assumption) hbva | exact bel_two (Below.drew (by assumption)) hbva); have HFA := Lib.hid True.intro)
      | (clear HFA; go_at_call 44; refine (toT_any (tv k1 n1 s1 u1) t1 0 h1 _ (HT1.out _ (by first | assumption | exact Below.drew (by assumption))) HW1.out).mono ?_; rintro e wvb ⟨vvb, rfl, htvb, hbvb⟩; have hBvb : Below wz1.heap.size wz1 wvb := (by first | exact bel_two (by assumption) hbvb | exact bel_two (Below.drew (by assumption)) hbvb); have htva2 := htva.below hbvb; have HFB := Lib.hid True.intro)
      | (clear HFB; go_at_call 35; refine (HSP.out _ _ _ htva2 htvb).mono ?_; rintro e wm ⟨vw, Hw, rfl, hat, hbr⟩; have hBr : Below wz1.heap.size wz1 wm := (by first | exact bel_two (by assumption) hbr | exact bel_two (Below.drew (by assumption)) hbr)))
  clear HK HT0 HT1 p0 p1 p2 p3 b0 b1 b2 b3 hb0 htva htva2 htvb hbva hbvb hBva hBvb hbr
  have HA0_3 := Lib.hid (HA0_2.out.below hBr)
  have HA1_3 := Lib.hid (HA1_2.out.below hBr)
  have HB_3 := Lib.hid (HB_2.out.trans (hBr.mono HB_2.out.size))
  have hz2 := hBr.size
  clear hBr HB_2 HA0_2 HA1_2
  have HOw_3 := Lib.hid (hat.kept)
  clear hat
  clear HSP
  obtain ⟨c0, c1, c2, c3⟩ := cells_of4L HA0_3.out.now.1
  go_wp2_with fail
  refine (toT_own _ t0 0 h0 _ HA0_3.out.now.2 HW0.out).mono ?_
  rintro e wx0 ⟨kx0, nx0, sx0, ux0, xsx0, rfl, etx, hsx, ⟨hax, hox⟩, hb⟩
  obtain ⟨ax0, cx0, rfl⟩ := hax.slice
  obtain ⟨mx0, hmx⟩ : ∃ m, m = xsx0.length := ⟨_, rfl⟩
  rw [← hmx] at hax hox ⊢
  have HCX0 : Hid (cS xsx0 ≤ 1048576) := Lib.hid (by have hw := HW0.out; rw [etx, wT_node] at hw; have := cS_le xsx0; omega)
  clear c0 c1 c2 c3
  have HA0_4 := Lib.hid (HA0_3.out.below hb)
  have HA1_4 := Lib.hid (HA1_3.out.below hb)
  have HOw_4 := Lib.hid (HOw_3.out.below hb)
  have HB_4 := Lib.hid (HB_3.out.trans (hb.mono HB_3.out.size))
  have hz3 := hb.size
  clear hb HB_3 HA0_3 HA1_3 HOw_3
  obtain ⟨W5, hW5⟩ : ∃ W5, W5 = boxed wx0 kx0 nx0 sx0 (.slice ax0 mx0 cx0) := ⟨_, rfl⟩
  have hbb : Below wx0.heap.size wx0 W5 := by rw [hW5]; exact boxed_below _ _ _ _ _
  have hzz5 : W5.heap.size = wx0.heap.size + 1 := by rw [hW5]; simp
  have hto := tbox_of hsx hax hox hW5
  have HA0_5 := Lib.hid (HA0_4.out.below hbb)
  have HA1_5 := Lib.hid (HA1_4.out.below hbb)
  have HOw_5 := Lib.hid (HOw_4.out.below hbb)
  have HB_5 := Lib.hid (HB_4.out.trans (hbb.mono HB_4.out.size))
  have hz4 := hbb.size
  clear hbb HB_4 HA0_4 HA1_4 HOw_4
  have HX0_5 := Lib.hid (hto.kept (by omega))
  have HEX0 : Hid (t0 = .node kx0 nx0 sx0 xsx0) := Lib.hid etx
  clear hto hax hox hsx etx hmx
  unfold boxed at hW5
  obtain ⟨c0, c1, c2, c3⟩ := cells_of4L HA1_5.out.now.1
  rw [hW5] at c0 c1 c2 c3
  go_wp2_with fail
  rw [← hW5] at c0 c1 c2 c3 ⊢
  clear hW5
  refine (toT_own _ t1 0 h1 _ HA1_5.out.now.2 HW1.out).mono ?_
  rintro e wx1 ⟨kx1, nx1, sx1, ux1, xsx1, rfl, etx, hsx, ⟨hax, hox⟩, hb⟩
  obtain ⟨ax1, cx1, rfl⟩ := hax.slice
  obtain ⟨mx1, hmx⟩ : ∃ m, m = xsx1.length := ⟨_, rfl⟩
  rw [← hmx] at hax hox ⊢
  have HCX1 : Hid (cS xsx1 ≤ 1048576) := Lib.hid (by have hw := HW1.out; rw [etx, wT_node] at hw; have := cS_le xsx1; omega)
  clear c0 c1 c2 c3
  have HA0_6 := Lib.hid (HA0_5.out.below hb)
  have HA1_6 := Lib.hid (HA1_5.out.below hb)
  have HOw_6 := Lib.hid (HOw_5.out.below hb)
  have HX0_6 := Lib.hid (HX0_5.out.below hb)
  have HB_6 := Lib.hid (HB_5.out.trans (hb.mono HB_5.out.size))
  have hz5 := hb.size
  clear hb HB_5 HA0_5 HA1_5 HOw_5 HX0_5
  obtain ⟨W7, hW7⟩ : ∃ W7, W7 = boxed wx1 kx1 nx1 sx1 (.slice ax1 mx1 cx1) := ⟨_, rfl⟩
  have hbb : Below wx1.heap.size wx1 W7 := by rw [hW7]; exact boxed_below _ _ _ _ _
  have hzz7 : W7.heap.size = wx1.heap.size + 1 := by rw [hW7]; simp
  have hto := tbox_of hsx hax hox hW7
  have HA0_7 := Lib.hid (HA0_6.out.below hbb)
  have HA1_7 := Lib.hid (HA1_6.out.below hbb)
  have HOw_7 := Lib.hid (HOw_6.out.below hbb)
  have HX0_7 := Lib.hid (HX0_6.out.below hbb)
  have HB_7 := Lib.hid (HB_6.out.trans (hbb.mono HB_6.out.size))
  have hz6 := hbb.size
  clear hbb HB_6 HA0_6 HA1_6 HOw_6 HX0_6
  have HX1_7 := Lib.hid (hto.kept (by omega))
  have HEX1 : Hid (t1 = .node kx1 nx1 sx1 xsx1) := Lib.hid etx
  clear hto hax hox hsx etx hmx
  unfold boxed at hW7
  obtain ⟨p00, p01, p02, p03⟩ := cells_of4L HX0_7.out.now.1.1
  obtain ⟨p10, p11, p12, p13⟩ := cells_of4L HX1_7.out.now.1.1
  rw [hW7] at p00 p01 p02 p03 p10 p11 p12 p13
  go_wp2_with fail
  rw [← hW7] at p00 p01 p02 p03 p10 p11 p12 p13 ⊢
  clear hW7
  refine (HIM.out _ _ _ (by have h := HX0_7.out.now.1.2; rw [← HEX0.out] at h; exact h) (by have h := HX1_7.out.now.1.2; rw [← HEX1.out] at h; exact h)).mono ?_
  rintro e wg ⟨vg, Hg, rfl, ⟨hat, hown⟩, hb⟩
  have HA0_8 := Lib.hid (HA0_7.out.below hb)
  have HA1_8 := Lib.hid (HA1_7.out.below hb)
  have HOw_8 := Lib.hid (HOw_7.out.below hb)
  have HX0_8 := Lib.hid (HX0_7.out.below hb)
  have HX1_8 := Lib.hid (HX1_7.out.below hb)
  have HB_8 := Lib.hid (HB_7.out.trans (hb.mono HB_7.out.size))
  have hz7 := hb.size
  clear hb HB_7 HA0_7 HA1_7 HOw_7 HX0_7 HX1_7
  have HOg_8 := Lib.hid (BsObj.kept ⟨hat, hown⟩)
  clear hat hown
  clear p00 p01 p02 p03 p10 p11 p12 p13
  have hrr : (r1 != r1) = false := by simp
  go_wp2_with fail
  refine (eqBs_two _ _ r0 _ _ _ _ _ HRL.out HOg_8.out.now.1 HOw_8.out.now).mono ?_
  rintro e wa ⟨rfl, hb⟩
  have HA0_9 := Lib.hid (HA0_8.out.below hb)
  have HA1_9 := Lib.hid (HA1_8.out.below hb)
  have HOw_9 := Lib.hid (HOw_8.out.below hb)
  have HX0_9 := Lib.hid (HX0_8.out.below hb)
  have HX1_9 := Lib.hid (HX1_8.out.below hb)
  have HOg_9 := Lib.hid (HOg_8.out.below hb)
  have HB_9 := Lib.hid (HB_8.out.trans (hb.mono HB_8.out.size))
  have hz8 := hb.size
  clear hb HB_8 HA0_8 HA1_8 HOw_8 HX0_8 HX1_8 HOg_8
  have HK : Hid (∀ w', Below wa.heap.size wa w' → (w'.cell? ⟨wx0.heap.size, 0, none⟩ = some (.int .i64 kx0) ∧ w'.cell? ⟨wx0.heap.size, 1, none⟩ = some (.int .i64 nx0) ∧ w'.cell? ⟨wx0.heap.size, 2, none⟩ = some (.string sx0) ∧ w'.cell? ⟨wx0.heap.size, 3, none⟩ = some (.slice ax0 mx0 cx0) ∧ w'.cell? ⟨w.heap.size, 0, none⟩ = some (.int .i64 k0) ∧ w'.cell? ⟨w.heap.size, 1, none⟩ = some (.int .i64 n0) ∧ w'.cell? ⟨w.heap.size, 2, none⟩ = some (.string s0) ∧ w'.cell? ⟨w.heap.size, 3, none⟩ = some (u0) ∧ Below wa.heap.size wa w')) := Lib.hid (fun w' hb => by
    obtain ⟨p0, p1, p2, p3⟩ := cells_of4L (HX0_9.out.below hb).now.1.1
    obtain ⟨b0, b1, b2, b3⟩ := cells_of4L (HA0_9.out.below hb).now.1
    exact ⟨p0, p1, p2, p3, b0, b1, b2, b3, hb⟩)
  obtain ⟨p0, p1, p2, p3, b0, b1, b2, b3, hb0⟩ := HK.out _ (Below.refl _ _)
  have HT5 : Hid (∀ w', Below wa.heap.size wa w' → TermAt w' 0 h0 (tv k0 n0 s0 u0) t0) := Lib.hid (fun w' hb => (HA0_9.out.below hb).now.2)
  have HX5 : Hid (∀ w', Below wa.heap.size wa w' → TermAt w' wm.heap.size h0 (tv kx0 nx0 sx0 (.slice ax0 mx0 cx0)) t0) := Lib.hid (fun w' hb => by rw [HEX0.out]; exact (HX0_9.out.below hb).now.1.2)
  go_wp2
  go_region_held3 (fun w' => w'.cell? ⟨wx0.heap.size, 0, none⟩ = some (.int .i64 kx0) ∧ w'.cell? ⟨wx0.heap.size, 1, none⟩ = some (.int .i64 nx0) ∧ w'.cell? ⟨wx0.heap.size, 2, none⟩ = some (.string sx0) ∧ w'.cell? ⟨wx0.heap.size, 3, none⟩ = some (.slice ax0 mx0 cx0) ∧ w'.cell? ⟨w.heap.size, 0, none⟩ = some (.int .i64 k0) ∧ w'.cell? ⟨w.heap.size, 1, none⟩ = some (.int .i64 n0) ∧ w'.cell? ⟨w.heap.size, 2, none⟩ = some (.string s0) ∧ w'.cell? ⟨w.heap.size, 3, none⟩ = some (u0) ∧ Below wa.heap.size wa w')
    (first | exact HK.out _ (by assumption) | exact HK.out _ (bel_drew (by assumption)) | exact HK.out _ (Below.drew (by assumption)) | exact HK.out _ (bel_two (bel_drew (by assumption)) (by assumption)) | go_keep)
    (first
      | (go_at_call 44; refine (toT_any _ t0 0 h0 _ (HT5.out _ (by first | assumption | exact Below.drew (by assumption))) HW0.out).mono ?_; rintro e we0 ⟨v3, rfl, ht9, hb9⟩)
      | (go_at_call 48; refine (eqT_any _ v3 t0 _ _ h0 _ (HX5.out _ (by first | assumption | exact bel_drew (by assumption) | exact Below.drew (by assumption))) (by first | exact ht9 | exact ht9.below (Below.drew (Below.refl _ _)))).mono ?_; rintro e wf0 ⟨rfl, hb10⟩))
  have hbq : Below wa.heap.size wa wf0 := bel_two (bel_drew hb9) hb10
  clear HX5 HT5 HK p0 p1 p2 p3 b0 b1 b2 b3 hb0 hb9 hb10 ht9
  have HA0_10 := Lib.hid (HA0_9.out.below hbq)
  have HA1_10 := Lib.hid (HA1_9.out.below hbq)
  have HOw_10 := Lib.hid (HOw_9.out.below hbq)
  have HX0_10 := Lib.hid (HX0_9.out.below hbq)
  have HX1_10 := Lib.hid (HX1_9.out.below hbq)
  have HOg_10 := Lib.hid (HOg_9.out.below hbq)
  have HB_10 := Lib.hid (HB_9.out.trans (hbq.mono HB_9.out.size))
  have hz9 := hbq.size
  clear hbq HB_9 HA0_9 HA1_9 HOw_9 HX0_9 HX1_9 HOg_9
  have HK : Hid (∀ w', Below wf0.heap.size wf0 w' → (w'.cell? ⟨wx1.heap.size, 0, none⟩ = some (.int .i64 kx1) ∧ w'.cell? ⟨wx1.heap.size, 1, none⟩ = some (.int .i64 nx1) ∧ w'.cell? ⟨wx1.heap.size, 2, none⟩ = some (.string sx1) ∧ w'.cell? ⟨wx1.heap.size, 3, none⟩ = some (.slice ax1 mx1 cx1) ∧ w'.cell? ⟨w.heap.size + 1, 0, none⟩ = some (.int .i64 k1) ∧ w'.cell? ⟨w.heap.size + 1, 1, none⟩ = some (.int .i64 n1) ∧ w'.cell? ⟨w.heap.size + 1, 2, none⟩ = some (.string s1) ∧ w'.cell? ⟨w.heap.size + 1, 3, none⟩ = some (u1) ∧ Below wf0.heap.size wf0 w')) := Lib.hid (fun w' hb => by
    obtain ⟨p0, p1, p2, p3⟩ := cells_of4L (HX1_10.out.below hb).now.1.1
    obtain ⟨b0, b1, b2, b3⟩ := cells_of4L (HA1_10.out.below hb).now.1
    exact ⟨p0, p1, p2, p3, b0, b1, b2, b3, hb⟩)
  obtain ⟨p0, p1, p2, p3, b0, b1, b2, b3, hb0⟩ := HK.out _ (Below.refl _ _)
  have HT5 : Hid (∀ w', Below wf0.heap.size wf0 w' → TermAt w' 0 h1 (tv k1 n1 s1 u1) t1) := Lib.hid (fun w' hb => (HA1_10.out.below hb).now.2)
  have HX5 : Hid (∀ w', Below wf0.heap.size wf0 w' → TermAt w' W5.heap.size h1 (tv kx1 nx1 sx1 (.slice ax1 mx1 cx1)) t1) := Lib.hid (fun w' hb => by rw [HEX1.out]; exact (HX1_10.out.below hb).now.1.2)
  go_wp2
  go_region_held3 (fun w' => w'.cell? ⟨wx1.heap.size, 0, none⟩ = some (.int .i64 kx1) ∧ w'.cell? ⟨wx1.heap.size, 1, none⟩ = some (.int .i64 nx1) ∧ w'.cell? ⟨wx1.heap.size, 2, none⟩ = some (.string sx1) ∧ w'.cell? ⟨wx1.heap.size, 3, none⟩ = some (.slice ax1 mx1 cx1) ∧ w'.cell? ⟨w.heap.size + 1, 0, none⟩ = some (.int .i64 k1) ∧ w'.cell? ⟨w.heap.size + 1, 1, none⟩ = some (.int .i64 n1) ∧ w'.cell? ⟨w.heap.size + 1, 2, none⟩ = some (.string s1) ∧ w'.cell? ⟨w.heap.size + 1, 3, none⟩ = some (u1) ∧ Below wf0.heap.size wf0 w')
    (first | exact HK.out _ (by assumption) | exact HK.out _ (bel_drew (by assumption)) | exact HK.out _ (Below.drew (by assumption)) | exact HK.out _ (bel_two (bel_drew (by assumption)) (by assumption)) | go_keep)
    (first
      | (go_at_call 44; refine (toT_any _ t1 0 h1 _ (HT5.out _ (by first | assumption | exact Below.drew (by assumption))) HW1.out).mono ?_; rintro e we1 ⟨v3, rfl, ht9, hb9⟩)
      | (go_at_call 48; refine (eqT_any _ v3 t1 _ _ h1 _ (HX5.out _ (by first | assumption | exact bel_drew (by assumption) | exact Below.drew (by assumption))) (by first | exact ht9 | exact ht9.below (Below.drew (Below.refl _ _)))).mono ?_; rintro e wf1 ⟨rfl, hb10⟩))
  have hbq : Below wf0.heap.size wf0 wf1 := bel_two (bel_drew hb9) hb10
  clear HX5 HT5 HK p0 p1 p2 p3 b0 b1 b2 b3 hb0 hb9 hb10 ht9
  have HA0_11 := Lib.hid (HA0_10.out.below hbq)
  have HA1_11 := Lib.hid (HA1_10.out.below hbq)
  have HOw_11 := Lib.hid (HOw_10.out.below hbq)
  have HX0_11 := Lib.hid (HX0_10.out.below hbq)
  have HX1_11 := Lib.hid (HX1_10.out.below hbq)
  have HOg_11 := Lib.hid (HOg_10.out.below hbq)
  have HB_11 := Lib.hid (HB_10.out.trans (hbq.mono HB_10.out.size))
  have hz10 := hbq.size
  clear hbq HB_10 HA0_10 HA1_10 HOw_10 HX0_10 HX1_10 HOg_10
  obtain ⟨p0, p1, p2, p3⟩ := cells_of4L HX0_11.out.now.1.1
  go_wp2_with fail
  refine (markPT_any kx0 nx0 sx0 _ xsx0 h0 wm.heap.size wx0.heap.size (1) _ HX0_11.out.now.2 (by omega) (by omega) (by have := HCX0.out; have := HCX1.out; omega)).mono ?_
  rintro e wk0 ⟨⟨rfl, ho⟩, _⟩
  clear p0 p1 p2 p3
  clear HX0_11
  have HA0_12 := Lib.hid (HA0_11.out.out ho (by omega))
  have HA1_12 := Lib.hid (HA1_11.out.out ho (by omega))
  have HOw_12 := Lib.hid (HOw_11.out.out ho (by omega))
  have HX1_12 := Lib.hid (HX1_11.out.out ho (by omega))
  have HOg_12 := Lib.hid (HOg_11.out.out ho (by omega))
  have HB_12 := Lib.hid (HB_11.out.trans ((ho.under (B := w.heap.size) (by omega) (by omega))))
  have hz11 := ho.2.2.2.1
  clear HB_11 HA0_11 HA1_11 HOw_11 HX1_11 HOg_11
  clear ho
  obtain ⟨p0, p1, p2, p3⟩ := cells_of4L HX1_12.out.now.1.1
  go_wp2_with fail
  refine (markPT_any kx1 nx1 sx1 _ xsx1 h1 W5.heap.size wx1.heap.size (1 + 3 * cS xsx0) _ HX1_12.out.now.2 (by omega) (by omega) (by have := HCX0.out; have := HCX1.out; omega)).mono ?_
  rintro e wk1 ⟨⟨rfl, ho⟩, _⟩
  clear p0 p1 p2 p3
  clear HX1_12
  have HA0_13 := Lib.hid (HA0_12.out.out ho (by omega))
  have HA1_13 := Lib.hid (HA1_12.out.out ho (by omega))
  have HOw_13 := Lib.hid (HOw_12.out.out ho (by omega))
  have HOg_13 := Lib.hid (HOg_12.out.out ho (by omega))
  have HB_13 := Lib.hid (HB_12.out.trans ((ho.under (B := w.heap.size) (by omega) (by omega))))
  have hz12 := ho.2.2.2.1
  clear HB_12 HA0_12 HA1_12 HOw_12 HOg_12
  clear ho
  have hpos : ¬ ((1 + 3 * cS xsx0 + 3 * cS xsx1 : Nat) : Int) < 0 := by omega
  go_wp2_with fail
  refine (eqBs_two _ _ r0 _ _ _ _ _ HRL.out HOg_13.out.now.1 HOw_13.out.now).mono ?_
  rintro e wb ⟨rfl, hb⟩
  have HA0_14 := Lib.hid (HA0_13.out.below hb)
  have HA1_14 := Lib.hid (HA1_13.out.below hb)
  have HOw_14 := Lib.hid (HOw_13.out.below hb)
  have HOg_14 := Lib.hid (HOg_13.out.below hb)
  have HB_14 := Lib.hid (HB_13.out.trans (hb.mono HB_13.out.size))
  have hz13 := hb.size
  clear hb HB_13 HA0_13 HA1_13 HOw_13 HOg_13
  go_wp2_with fail
  refine (markBs_any _ r0 Hg W7.heap.size wg.heap.size 1 _ HOg_14.out.now.2 (by omega) (by omega) (by have := HRM.out.1; omega)).mono ?_
  rintro e wgm ⟨⟨rfl, ho⟩, ha⟩
  clear HOg_14
  have HA0_15 := Lib.hid (HA0_14.out.out ho (by omega))
  have HA1_15 := Lib.hid (HA1_14.out.out ho (by omega))
  have HOw_15 := Lib.hid (HOw_14.out.out ho (by omega))
  have HB_15 := Lib.hid (HB_14.out.trans ((ho.under (B := w.heap.size) (by omega) (by omega))))
  have hz14 := ho.2.2.2.1
  clear HB_14 HA0_14 HA1_14 HOw_14
  clear ho
  have HGM_15 := Lib.hid (ha.kept)
  clear ha
  go_wp2_with fail
  refine (heldBs_any _ r0 0 Hg 1 _ HGM_15.out.now (by omega) (by have := HRM.out.1; omega)).mono ?_
  rintro e wh1 ⟨rfl, hb⟩
  have HA0_16 := Lib.hid (HA0_15.out.below hb)
  have HA1_16 := Lib.hid (HA1_15.out.below hb)
  have HOw_16 := Lib.hid (HOw_15.out.below hb)
  have HGM_16 := Lib.hid (HGM_15.out.below hb)
  have HB_16 := Lib.hid (HB_15.out.trans (hb.mono HB_15.out.size))
  have hz15 := hb.size
  clear hb HB_15 HA0_15 HA1_15 HOw_15 HGM_15
  have hpos2 : ¬ ((1 + mBs r0 : Nat) : Int) < 0 := by omega
  have heq2 : (((1 + mBs r0 : Nat) : Int) != ((1 + mBs r0 : Nat) : Int)) = false := by simp
  have HK : Hid (∀ w', Below wh1.heap.size wh1 w' → (w'.cell? ⟨w.heap.size, 0, none⟩ = some (.int .i64 k0) ∧ w'.cell? ⟨w.heap.size, 1, none⟩ = some (.int .i64 n0) ∧ w'.cell? ⟨w.heap.size, 2, none⟩ = some (.string s0) ∧ w'.cell? ⟨w.heap.size, 3, none⟩ = some (u0) ∧ w'.cell? ⟨w.heap.size + 1, 0, none⟩ = some (.int .i64 k1) ∧ w'.cell? ⟨w.heap.size + 1, 1, none⟩ = some (.int .i64 n1) ∧ w'.cell? ⟨w.heap.size + 1, 2, none⟩ = some (.string s1) ∧ w'.cell? ⟨w.heap.size + 1, 3, none⟩ = some (u1) ∧ Below wh1.heap.size wh1 w')) := Lib.hid (fun w' hb => by
    obtain ⟨p0, p1, p2, p3⟩ := cells_of4L (HA0_16.out.below hb).now.1
    obtain ⟨b0, b1, b2, b3⟩ := cells_of4L (HA1_16.out.below hb).now.1
    exact ⟨p0, p1, p2, p3, b0, b1, b2, b3, hb⟩)
  have HT0 : Hid (∀ w', Below wh1.heap.size wh1 w' → TermAt w' 0 h0 (tv k0 n0 s0 u0) t0) := Lib.hid (fun w' hb => (HA0_16.out.below hb).now.2)
  have HT1 : Hid (∀ w', Below wh1.heap.size wh1 w' → TermAt w' 0 h1 (tv k1 n1 s1 u1) t1) := Lib.hid (fun w' hb => (HA1_16.out.below hb).now.2)
  obtain ⟨p0, p1, p2, p3, b0, b1, b2, b3, hb0⟩ := HK.out _ (Below.refl _ _)
  go_wp2
  have HF0 := Lib.hid True.intro
  go_region_held3 (fun w' => w'.cell? ⟨w.heap.size, 0, none⟩ = some (.int .i64 k0) ∧ w'.cell? ⟨w.heap.size, 1, none⟩ = some (.int .i64 n0) ∧ w'.cell? ⟨w.heap.size, 2, none⟩ = some (.string s0) ∧ w'.cell? ⟨w.heap.size, 3, none⟩ = some (u0) ∧ w'.cell? ⟨w.heap.size + 1, 0, none⟩ = some (.int .i64 k1) ∧ w'.cell? ⟨w.heap.size + 1, 1, none⟩ = some (.int .i64 n1) ∧ w'.cell? ⟨w.heap.size + 1, 2, none⟩ = some (.string s1) ∧ w'.cell? ⟨w.heap.size + 1, 3, none⟩ = some (u1) ∧ Below wh1.heap.size wh1 w')
    (first | exact HK.out _ (by assumption) | exact HK.out _ (bel_drew (by assumption)) | exact HK.out _ (Below.drew (by assumption)) | go_keep)
    (first
      | (clear HF0; go_at_call 44; refine (toT_any (tv k0 n0 s0 u0) t0 0 h0 _ (HT0.out _ (by first | assumption | exact Below.drew (by assumption))) HW0.out).mono ?_; rintro e wva ⟨vva, rfl, htva, hbva⟩; have hBva : Below wh1.heap.size wh1 wva := (by first | exact bel_two (by assumption) hbva | exact bel_two (Below.drew (by assumption)) hbva); have HFA := Lib.hid True.intro)
      | (clear HFA; go_at_call 44; refine (toT_any (tv k1 n1 s1 u1) t1 0 h1 _ (HT1.out _ (by first | assumption | exact Below.drew (by assumption))) HW1.out).mono ?_; rintro e wvb ⟨vvb, rfl, htvb, hbvb⟩; have hBvb : Below wh1.heap.size wh1 wvb := (by first | exact bel_two (by assumption) hbvb | exact bel_two (Below.drew (by assumption)) hbvb); have htva2 := htva.below hbvb; have HFB := Lib.hid True.intro)
      | (clear HFB; go_at_call 34; refine (HIM.out _ _ _ htva2 htvb).mono ?_; rintro e wh2 ⟨vh, Hh, rfl, ⟨hat, _⟩, hbr⟩; have hBr : Below wh1.heap.size wh1 wh2 := (by first | exact bel_two (by assumption) hbr | exact bel_two (Below.drew (by assumption)) hbr)))
  clear HK HT0 HT1 p0 p1 p2 p3 b0 b1 b2 b3 hb0 htva htva2 htvb hbva hbvb hBva hBvb hbr
  have HA0_17 := Lib.hid (HA0_16.out.below hBr)
  have HA1_17 := Lib.hid (HA1_16.out.below hBr)
  have HOw_17 := Lib.hid (HOw_16.out.below hBr)
  have HGM_17 := Lib.hid (HGM_16.out.below hBr)
  have HB_17 := Lib.hid (HB_16.out.trans (hBr.mono HB_16.out.size))
  have hz16 := hBr.size
  clear hBr HB_16 HA0_16 HA1_16 HOw_16 HGM_16
  have HOh_17 := Lib.hid (hat.kept)
  clear hat
  go_wp2_with fail
  refine (eqBs_two _ _ r0 _ _ _ _ _ HRL.out HOh_17.out.now HOw_17.out.now).mono ?_
  rintro e wh3 ⟨rfl, hb⟩
  have HA0_18 := Lib.hid (HA0_17.out.below hb)
  have HA1_18 := Lib.hid (HA1_17.out.below hb)
  have HOw_18 := Lib.hid (HOw_17.out.below hb)
  have HGM_18 := Lib.hid (HGM_17.out.below hb)
  have HOh_18 := Lib.hid (HOh_17.out.below hb)
  have HB_18 := Lib.hid (HB_17.out.trans (hb.mono HB_17.out.size))
  have hz17 := hb.size
  clear hb HB_17 HA0_17 HA1_17 HOw_17 HGM_17 HOh_17
  clear HOh_18
  clear HOw_18
  go_wp2_with fail
  refine (heldBs_any _ r0 0 Hg 1 _ HGM_18.out.now (by omega) (by have := HRM.out.1; omega)).mono ?_
  rintro e wh4 ⟨rfl, hb⟩
  have HA0_19 := Lib.hid (HA0_18.out.below hb)
  have HA1_19 := Lib.hid (HA1_18.out.below hb)
  have HGM_19 := Lib.hid (HGM_18.out.below hb)
  have HB_19 := Lib.hid (HB_18.out.trans (hb.mono HB_18.out.size))
  have hz18 := hb.size
  clear hb HB_18 HA0_18 HA1_18 HGM_18
  go_wp2
  go_ret
  exact ⟨rfl, HB_19.out⟩
end Go.Proofs.Yteelakhaaipebaa
