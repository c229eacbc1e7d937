/-
  The law on HoldsGuard: its walk.
-/
import Derived.Test.YtidbokheeieifaaQ12
import Derived.Test.YtidbokheeieifaaQ13
import Derived.Test.YtidbokheeieifaaQ41
namespace Go.Proofs.Ytidbokheeieifaa
open Go.RowKit

set_option maxRecDepth 100000 in
set_option maxHeartbeats 3200000 in
theorem exHoG_any (v0 : Value) (t0 : Gd) (h0 : Nat) (w : World) (ht0 : GAt w 0 h0 v0 t0) :
    Calls Try.prog 7 #[v0] w (TrueI w) := by
  obtain ⟨k0, n0, s0, u0, ka0, na0, sa0, ua0, rfl⟩ := ht0.form
  obtain ⟨WB, hWB⟩ : ∃ WB, WB = (w.alloc (.cells #[.int .i64 t0.kd, .int .i64 k0, .int .i64 n0, .string s0, u0, .int .i64 ka0, .int .i64 na0, .string sa0, ua0] 66)) := ⟨_, rfl⟩
  have hb0 : Below w.heap.size w WB := by rw [hWB]; exact ((Below.refl _ _).alloc (by simp; try omega) _)
  have HB_0 := Lib.hid hb0
  have hzb := hb0.size
  have HA0_0 := Lib.hid (GArg.kept (⟨by rw [hWB]; exact heap_new _ _ (by simp), ht0.below hb0⟩ : GArg (w.heap.size) t0.kd k0 n0 s0 u0 ka0 na0 sa0 ua0 h0 t0 WB))
  clear hb0 ht0
  go_enter Try.func7, Try.ntmps7
  go_wp2_with fail
  rw [← hWB]
  clear hWB
  refine (szG_any _ t0 0 h0 1048576 _ HA0_0.out.now.2 (by omega) (by omega)).mono ?_
  rintro e wz0 ⟨r0, rfl, hb, hr0a, hr0⟩
  have HR0 := Lib.hid hr0; clear hr0
  have HA0_1 := Lib.hid (HA0_0.out.below hb)
  have HB_1 := Lib.hid (HB_0.out.trans (hb.mono HB_0.out.size))
  have hz0 := hb.size
  clear hb HB_0 HA0_0
  by_cases hr : r0 < 0
  · go_wp2
    go_ret
    exact ⟨rfl, HB_1.out⟩
  have HRN0 : Hid (0 ≤ r0) := Lib.hid (by omega)
  clear hr
  have hr00 : 0 ≤ r0 := HRN0.out
  have HW0 : Hid (wG t0 ≤ 1048576) := Lib.hid (by have q0 := HR0.out HRN0.out; omega)
  obtain ⟨r0, hr0⟩ : ∃ r, r = holdsG t0 := ⟨_, rfl⟩
  have HSP : Hid (∀ (u : Value) {lo : Nat} (w : World), GAt w lo h0 u t0 → Calls Try.prog 17 #[u] w (AnsB r0 w)) := Lib.hid (fun u lo w q1 => by
    rw [hr0]; exact sHolds_any u t0 lo h0 w q1 HW0.out)
  have HIM : Hid (∀ (u : Value) {lo : Nat} (w : World), GAt w lo h0 u t0 → Calls Try.prog 16 #[u] w (AnsB r0 w)) := Lib.hid (fun u lo w q1 => by
    rw [hr0]; exact iHolds_any u t0 lo h0 w q1 HW0.out)
  clear hr0
  obtain ⟨c0, c1, c2, c3, c4, c5, c6, c7, c8⟩ := cells_of9 HA0_1.out.now.1
  go_wp2_with fail
  refine (toG_any _ t0 0 h0 _ HA0_1.out.now.2 HW0.out).mono ?_
  rintro e wc2 ⟨V0, rfl, ht, hb⟩
  clear c0 c1 c2 c3 c4 c5 c6 c7 c8
  have HA0_2 := Lib.hid (HA0_1.out.below hb)
  have HB_2 := Lib.hid (HB_1.out.trans (hb.mono HB_1.out.size))
  have hz1 := hb.size
  clear hb HB_1 HA0_1
  have HV0_2 := Lib.hid (ht.kept)
  clear ht
  go_wp2_with fail
  refine (HSP.out _ _ HV0_2.out.now).mono ?_
  rintro e wm ⟨rfl, hb⟩
  have HA0_3 := Lib.hid (HA0_2.out.below hb)
  have HV0_3 := Lib.hid (HV0_2.out.below hb)
  have HB_3 := Lib.hid (HB_2.out.trans (hb.mono HB_2.out.size))
  have hz2 := hb.size
  clear hb HB_2 HA0_2 HV0_2
  clear HV0_3
  clear HSP
  obtain ⟨c0, c1, c2, c3, c4, c5, c6, c7, c8⟩ := cells_of9 HA0_3.out.now.1
  go_wp2_with fail
  refine (toG_own _ t0 0 h0 _ HA0_3.out.now.2 HW0.out).mono ?_
  rintro e wx0 ⟨kx0, nx0, sx0, ux0, xsx0, ky0, ny0, sy0, uy0, xsy0, rfl, etx, ety, hsx, ⟨hax, hay⟩, hox, hb⟩
  obtain ⟨ax0, cx0, rfl⟩ := hax.slice
  obtain ⟨ay0, cy0, rfl⟩ := hay.slice
  obtain ⟨mx0, hmx⟩ : ∃ m, m = xsx0.length := ⟨_, rfl⟩
  obtain ⟨my0, hmy⟩ : ∃ m, m = xsy0.length := ⟨_, rfl⟩
  rw [← hmx] at hax hox
  rw [← hmy] at hay hox
  rw [← hmx, ← hmy]
  have HCX0 : Hid (cS xsx0 ≤ 1048576 ∧ cS xsy0 ≤ 1048576) := Lib.hid (by have hw := HW0.out; unfold wG at hw; rw [etx, ety, wT_node, wT_node] at hw; have := cS_le xsx0; have := cS_le xsy0; omega)
  clear c0 c1 c2 c3 c4 c5 c6 c7 c8
  have HA0_4 := Lib.hid (HA0_3.out.below hb)
  have HB_4 := Lib.hid (HB_3.out.trans (hb.mono HB_3.out.size))
  have hz3 := hb.size
  clear hb HB_3 HA0_3
  obtain ⟨W5, hW5⟩ : ∃ W5, W5 = gboxed wx0 t0.kd kx0 nx0 sx0 (.slice ax0 mx0 cx0) ky0 ny0 sy0 (.slice ay0 my0 cy0) := ⟨_, rfl⟩
  have hbb : Below wx0.heap.size wx0 W5 := by rw [hW5]; exact gboxed_below _ _ _ _ _ _ _ _ _ _
  have hzz5 : W5.heap.size = wx0.heap.size + 1 := by rw [hW5]; simp
  have hto := gbox_of hsx hax hay hox hW5
  have HA0_5 := Lib.hid (HA0_4.out.below hbb)
  have HB_5 := Lib.hid (HB_4.out.trans (hbb.mono HB_4.out.size))
  have hz4 := hbb.size
  clear hbb HB_4 HA0_4
  have HX0_5 := Lib.hid (hto.kept (by omega))
  have HEX0 : Hid (t0 = ⟨t0.kd, .node kx0 nx0 sx0 xsx0, .node ky0 ny0 sy0 xsy0⟩) := Lib.hid (gd_eq etx ety)
  clear hto hax hay hox hsx etx ety hmx hmy
  unfold gboxed at hW5
  obtain ⟨p0x0, p0x1, p0x2, p0x3, p0x4, p0x5, p0x6, p0x7, p0x8⟩ := cells_of9 HX0_5.out.now.1.1
  rw [hW5] at p0x0 p0x1 p0x2 p0x3 p0x4 p0x5 p0x6 p0x7 p0x8
  go_wp2_with fail
  rw [← hW5] at p0x0 p0x1 p0x2 p0x3 p0x4 p0x5 p0x6 p0x7 p0x8 ⊢
  clear hW5
  refine (HIM.out _ _ (by have h := HX0_5.out.now.1.2; rw [← HEX0.out] at h; exact h)).mono ?_
  rintro e wg ⟨rfl, hb⟩
  have HA0_6 := Lib.hid (HA0_5.out.below hb)
  have HX0_6 := Lib.hid (HX0_5.out.below hb)
  have HB_6 := Lib.hid (HB_5.out.trans (hb.mono HB_5.out.size))
  have hz5 := hb.size
  clear hb HB_5 HA0_5 HX0_5
  clear p0x0 p0x1 p0x2 p0x3 p0x4 p0x5 p0x6 p0x7 p0x8
  have HK : Hid (∀ w', Below wg.heap.size wg w' → (w'.cell? ⟨wx0.heap.size, 0, none⟩ = some (.int .i64 t0.kd) ∧ w'.cell? ⟨wx0.heap.size, 1, none⟩ = some (.int .i64 kx0) ∧ w'.cell? ⟨wx0.heap.size, 2, none⟩ = some (.int .i64 nx0) ∧ w'.cell? ⟨wx0.heap.size, 3, none⟩ = some (.string sx0) ∧ w'.cell? ⟨wx0.heap.size, 4, none⟩ = some (.slice ax0 mx0 cx0) ∧ w'.cell? ⟨wx0.heap.size, 5, none⟩ = some (.int .i64 ky0) ∧ w'.cell? ⟨wx0.heap.size, 6, none⟩ = some (.int .i64 ny0) ∧ w'.cell? ⟨wx0.heap.size, 7, none⟩ = some (.string sy0) ∧ w'.cell? ⟨wx0.heap.size, 8, none⟩ = some (.slice ay0 my0 cy0) ∧ w'.cell? ⟨w.heap.size, 0, none⟩ = some (.int .i64 t0.kd) ∧ w'.cell? ⟨w.heap.size, 1, none⟩ = some (.int .i64 k0) ∧ w'.cell? ⟨w.heap.size, 2, none⟩ = some (.int .i64 n0) ∧ w'.cell? ⟨w.heap.size, 3, none⟩ = some (.string s0) ∧ w'.cell? ⟨w.heap.size, 4, none⟩ = some (u0) ∧ w'.cell? ⟨w.heap.size, 5, none⟩ = some (.int .i64 ka0) ∧ w'.cell? ⟨w.heap.size, 6, none⟩ = some (.int .i64 na0) ∧ w'.cell? ⟨w.heap.size, 7, none⟩ = some (.string sa0) ∧ w'.cell? ⟨w.heap.size, 8, none⟩ = some (ua0) ∧ Below wg.heap.size wg w')) := Lib.hid (fun w' hb => by
    obtain ⟨p0, p1, p2, p3, p4, p5, p6, p7, p8⟩ := cells_of9 (HX0_6.out.below hb).now.1.1
    obtain ⟨b0, b1, b2, b3, b4, b5, b6, b7, b8⟩ := cells_of9 (HA0_6.out.below hb).now.1
    exact ⟨p0, p1, p2, p3, p4, p5, p6, p7, p8, b0, b1, b2, b3, b4, b5, b6, b7, b8, hb⟩)
  obtain ⟨p0, p1, p2, p3, p4, p5, p6, p7, p8, b0, b1, b2, b3, b4, b5, b6, b7, b8, hb0⟩ := HK.out _ (Below.refl _ _)
  have HT5 : Hid (∀ w', Below wg.heap.size wg w' → GAt w' 0 h0 (gv t0.kd k0 n0 s0 u0 ka0 na0 sa0 ua0) t0) := Lib.hid (fun w' hb => (HA0_6.out.below hb).now.2)
  have HX5 : Hid (∀ w', Below wg.heap.size wg w' → GAt w' wm.heap.size h0 (gv t0.kd kx0 nx0 sx0 (.slice ax0 mx0 cx0) ky0 ny0 sy0 (.slice ay0 my0 cy0)) t0) := Lib.hid (fun w' hb => by have h := (HX0_6.out.below hb).now.1.2; rw [← HEX0.out] at h; exact h)
  go_wp2
  go_region_held3 (fun w' => w'.cell? ⟨wx0.heap.size, 0, none⟩ = some (.int .i64 t0.kd) ∧ w'.cell? ⟨wx0.heap.size, 1, none⟩ = some (.int .i64 kx0) ∧ w'.cell? ⟨wx0.heap.size, 2, none⟩ = some (.int .i64 nx0) ∧ w'.cell? ⟨wx0.heap.size, 3, none⟩ = some (.string sx0) ∧ w'.cell? ⟨wx0.heap.size, 4, none⟩ = some (.slice ax0 mx0 cx0) ∧ w'.cell? ⟨wx0.heap.size, 5, none⟩ = some (.int .i64 ky0) ∧ w'.cell? ⟨wx0.heap.size, 6, none⟩ = some (.int .i64 ny0) ∧ w'.cell? ⟨wx0.heap.size, 7, none⟩ = some (.string sy0) ∧ w'.cell? ⟨wx0.heap.size, 8, none⟩ = some (.slice ay0 my0 cy0) ∧ w'.cell? ⟨w.heap.size, 0, none⟩ = some (.int .i64 t0.kd) ∧ w'.cell? ⟨w.heap.size, 1, none⟩ = some (.int .i64 k0) ∧ w'.cell? ⟨w.heap.size, 2, none⟩ = some (.int .i64 n0) ∧ w'.cell? ⟨w.heap.size, 3, none⟩ = some (.string s0) ∧ w'.cell? ⟨w.heap.size, 4, none⟩ = some (u0) ∧ w'.cell? ⟨w.heap.size, 5, none⟩ = some (.int .i64 ka0) ∧ w'.cell? ⟨w.heap.size, 6, none⟩ = some (.int .i64 na0) ∧ w'.cell? ⟨w.heap.size, 7, none⟩ = some (.string sa0) ∧ w'.cell? ⟨w.heap.size, 8, none⟩ = some (ua0) ∧ Below wg.heap.size wg w')
    (first | exact HK.out _ (by assumption) | exact HK.out _ (bel_drew (by assumption)) | exact HK.out _ (Below.drew (by assumption)) | exact HK.out _ (bel_two (bel_drew (by assumption)) (by assumption)) | go_keep)
    (first
      | (go_at_call 38; refine (toG_any _ t0 0 h0 _ (HT5.out _ (by first | assumption | exact Below.drew (by assumption))) HW0.out).mono ?_; rintro e we0 ⟨v3, rfl, ht9, hb9⟩)
      | (go_at_call 39; refine (eqG_any _ v3 t0 _ _ h0 _ (HX5.out _ (by first | assumption | exact bel_drew (by assumption) | exact Below.drew (by assumption))) (by first | exact ht9 | exact ht9.below (Below.drew (Below.refl _ _)))).mono ?_; rintro e wf0 ⟨rfl, hb10⟩))
  have hbq : Below wg.heap.size wg wf0 := bel_two (bel_drew hb9) hb10
  clear HX5 HT5 HK p0 p1 p2 p3 p4 p5 p6 p7 p8 b0 b1 b2 b3 b4 b5 b6 b7 b8 hb0 hb9 hb10 ht9
  have HA0_7 := Lib.hid (HA0_6.out.below hbq)
  have HX0_7 := Lib.hid (HX0_6.out.below hbq)
  have HB_7 := Lib.hid (HB_6.out.trans (hbq.mono HB_6.out.size))
  have hz6 := hbq.size
  clear hbq HB_6 HA0_6 HX0_6
  go_wp2
  go_ret
  exact ⟨rfl, HB_7.out⟩
end Go.Proofs.Ytidbokheeieifaa
