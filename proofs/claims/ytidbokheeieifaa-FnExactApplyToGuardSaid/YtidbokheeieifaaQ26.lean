/-
  The law on ApplyToGuard: its walk.
-/
import Derived.Test.YtidbokheeieifaaQ13
import Derived.Test.YtidbokheeieifaaQ23
import Derived.Test.YtidbokheeieifaaQ25
import Derived.Test.YtidbokheeieifaaQ2
namespace Go.Proofs.Ytidbokheeieifaa
open Go.RowKit

set_option maxRecDepth 100000 in
set_option maxHeartbeats 3200000 in
theorem exApG_any (v0 : Value) (b0 : List (ByteArray × T)) (h0 : Nat) (v1 : Value) (t1 : Gd) (h1 : Nat) (w : World) (ht0 : BsAt w 0 h0 v0 b0) (ht1 : GAt w 0 h1 v1 t1) :
    Calls Try.prog 8 #[v0, v1] w (TrueI w) := by
  obtain ⟨a0, c0, rfl⟩ := ht0.slice
  obtain ⟨l0, hl0x⟩ : ∃ l, l = b0.length := ⟨_, rfl⟩
  rw [← hl0x] at ht0 ⊢
  have HL0 := Lib.hid hl0x; clear hl0x
  obtain ⟨k1, n1, s1, u1, ka1, na1, sa1, ua1, rfl⟩ := ht1.form
  obtain ⟨WB, hWB⟩ : ∃ WB, WB = (w.alloc (.cells #[.int .i64 t1.kd, .int .i64 k1, .int .i64 n1, .string s1, u1, .int .i64 ka1, .int .i64 na1, .string sa1, ua1] 66)) := ⟨_, rfl⟩
  have hb0 : Below w.heap.size w WB := by rw [hWB]; exact ((Below.refl _ _).alloc (by simp; try omega) _)
  have HB_0 := Lib.hid hb0
  have hzb := hb0.size
  have HA1_0 := Lib.hid (GArg.kept (⟨by rw [hWB]; exact heap_new _ _ (by simp), ht1.below hb0⟩ : GArg (w.heap.size) t1.kd k1 n1 s1 u1 ka1 na1 sa1 ua1 h1 t1 WB))
  have HA0_0 := Lib.hid ((ht0.below hb0).kept)
  clear hb0 ht0 ht1
  go_enter Try.func8, Try.ntmps8
  go_wp2_with fail
  rw [← hWB]
  clear hWB
  refine (szBs_any _ b0 0 h0 1048576 _ HA0_0.out.now (by omega) (by omega)).mono ?_
  rintro e wz0 ⟨r0, rfl, hb, hr0a, hr0⟩
  have HR0 := Lib.hid hr0; clear hr0
  have HA1_1 := Lib.hid (HA1_0.out.below hb)
  have HA0_1 := Lib.hid (HA0_0.out.below hb)
  have HB_1 := Lib.hid (HB_0.out.trans (hb.mono HB_0.out.size))
  have hz0 := hb.size
  clear hb HB_0 HA1_0 HA0_0
  by_cases hr : r0 < 0
  · go_wp2
    go_ret
    exact ⟨rfl, HB_1.out⟩
  have HRN0 : Hid (0 ≤ r0) := Lib.hid (by omega)
  clear hr
  have hr00 : 0 ≤ r0 := HRN0.out
  obtain ⟨c0, c1, c2, c3, c4, c5, c6, c7, c8⟩ := cells_of9 HA1_1.out.now.1
  go_wp2_with fail
  refine (szG_any _ t1 0 h1 r0 _ HA1_1.out.now.2 (by omega) (by have := HR0.out (by omega); omega)).mono ?_
  rintro e wz1 ⟨r1, rfl, hb, hr1a, hr1⟩
  have HR1 := Lib.hid hr1; clear hr1
  clear c0 c1 c2 c3 c4 c5 c6 c7 c8
  have HA1_2 := Lib.hid (HA1_1.out.below hb)
  have HA0_2 := Lib.hid (HA0_1.out.below hb)
  have HB_2 := Lib.hid (HB_1.out.trans (hb.mono HB_1.out.size))
  have hz1 := hb.size
  clear hb HB_1 HA1_1 HA0_1
  by_cases hr : r1 < 0
  · go_wp2
    go_ret
    exact ⟨rfl, HB_2.out⟩
  have HRN1 : Hid (0 ≤ r1) := Lib.hid (by omega)
  clear hr
  have hr01 : 0 ≤ r1 := HRN1.out
  have HW0 : Hid (wBs b0 ≤ 1048576) := Lib.hid (by have q0 := HR0.out HRN0.out; omega)
  have HW1 : Hid (wG t1 ≤ 1048576) := Lib.hid (by have q0 := HR0.out HRN0.out; have q1 := HR1.out HRN1.out; omega)
  obtain ⟨r0, hr0⟩ : ∃ r0, r0 = appG (findB b0) t1 := ⟨_, rfl⟩
  have HSP : Hid (∀ (u v : Value) {lo lo2 : Nat} (w : World), BsAt w lo h0 u b0 → GAt w lo2 h1 v t1 → Calls Try.prog 41 #[u, v] w (RGd r0 w)) := Lib.hid (fun u v lo lo2 w q1 q2 => by
    rw [hr0]; exact (sApG_any u b0 v t1 lo lo2 h0 h1 w q1 HW0.out q2 HW1.out).mono fun _ _ q => q.rgd)
  have HIM : Hid (∀ (u v : Value) {lo lo2 : Nat} (w : World), BsAt w lo h0 u b0 → GAt w lo2 h1 v t1 → Calls Try.prog 43 #[u, v] w (CGd r0 w)) := Lib.hid (fun u v lo lo2 w q1 q2 => by
    rw [hr0]; exact (iApG_any u b0 v t1 lo lo2 h0 h1 w q1 HW0.out q2 HW1.out).mono fun _ _ q => ⟨_, q⟩)
  have HIT : Hid (∀ (u v : Value) {lo lo2 : Nat} (w : World), BsAt w lo h0 u b0 → GAt w lo2 h1 v t1 → Calls Try.prog 43 #[u, v] w (RGd r0 w)) := Lib.hid (fun u v lo lo2 w q1 q2 => (HIM.out u v w q1 q2).mono fun _ _ q => q.rgd)
  have HRW : Hid (cT r0.l + cT r0.r ≤ 4398046511104) := Lib.hid (by
    rw [hr0]
    have hg : ∀ t, wT t ≤ 1048576 → cT (mapT (findB b0) (fun s => s) t) ≤ 2199023255552 := fun t ht => by
      have h2 := cT_map (findB b0) (fun s => s) 1048577 (fun s u e => by have h4 := findB_w e; have h5 := cT_le u; have h6 := HW0.out; omega) (by omega) t
      have h3 := cT_le t
      have h8 : cT t * 1048577 ≤ 1048577 * 1048577 := Nat.mul_le_mul_right _ (by omega)
      omega
    have hw := HW1.out
    unfold wG at hw
    have g1 := hg t1.l (by omega)
    have g2 := hg t1.r (by omega)
    unfold appG
    simp only
    omega)
  clear hr0
  have hd0 : Below wz1.heap.size wz1 wz1.drew := Below.drew (Below.refl _ _)
  have hda : Below wz1.heap.size wz1 (wz1.alloc (.cells #[.int .i64 0, .int .i64 0, .int .i64 0, .string ⟨#[]⟩, .slice none 0 0, .int .i64 0, .int .i64 0, .string ⟨#[]⟩, .slice none 0 0] 31)).drew := ((Below.refl _ _).alloc (Nat.le_refl _) _).drew
  have HTA0 : Hid (∀ w', Below wz1.heap.size wz1 w' → BsAt w' 0 h0 (.slice a0 l0 c0) b0) := Lib.hid (fun w' hb => (HA0_2.out.below hb).now)
  have HTA1 : Hid (∀ w', Below wz1.heap.size wz1 w' → (w'.cell? ⟨w.heap.size, 0, none⟩ = some (.int .i64 t1.kd) ∧ w'.cell? ⟨w.heap.size, 1, none⟩ = some (.int .i64 k1) ∧ w'.cell? ⟨w.heap.size, 2, none⟩ = some (.int .i64 n1) ∧ w'.cell? ⟨w.heap.size, 3, none⟩ = some (.string s1) ∧ w'.cell? ⟨w.heap.size, 4, none⟩ = some (u1) ∧ w'.cell? ⟨w.heap.size, 5, none⟩ = some (.int .i64 ka1) ∧ w'.cell? ⟨w.heap.size, 6, none⟩ = some (.int .i64 na1) ∧ w'.cell? ⟨w.heap.size, 7, none⟩ = some (.string sa1) ∧ w'.cell? ⟨w.heap.size, 8, none⟩ = some (ua1)) ∧ GAt w' 0 h1 (gv t1.kd k1 n1 s1 u1 ka1 na1 sa1 ua1) t1) := Lib.hid (fun w' hb => ⟨cells_of9 (HA1_2.out.below hb).now.1, (HA1_2.out.below hb).now.2⟩)
  obtain ⟨c10, c11, c12, c13, c14, c15, c16, c17, c18⟩ := (HTA1.out _ (Below.refl _ _)).1
  have ca10 : ∀ o, (wz1.alloc o).cell? ⟨w.heap.size, 0, none⟩ = some (.int .i64 t1.kd) := fun o => cell_on (al_belK _ o) c10
  have ca11 : ∀ o, (wz1.alloc o).cell? ⟨w.heap.size, 1, none⟩ = some (.int .i64 k1) := fun o => cell_on (al_belK _ o) c11
  have ca12 : ∀ o, (wz1.alloc o).cell? ⟨w.heap.size, 2, none⟩ = some (.int .i64 n1) := fun o => cell_on (al_belK _ o) c12
  have ca13 : ∀ o, (wz1.alloc o).cell? ⟨w.heap.size, 3, none⟩ = some (.string s1) := fun o => cell_on (al_belK _ o) c13
  have ca14 : ∀ o, (wz1.alloc o).cell? ⟨w.heap.size, 4, none⟩ = some (u1) := fun o => cell_on (al_belK _ o) c14
  have ca15 : ∀ o, (wz1.alloc o).cell? ⟨w.heap.size, 5, none⟩ = some (.int .i64 ka1) := fun o => cell_on (al_belK _ o) c15
  have ca16 : ∀ o, (wz1.alloc o).cell? ⟨w.heap.size, 6, none⟩ = some (.int .i64 na1) := fun o => cell_on (al_belK _ o) c16
  have ca17 : ∀ o, (wz1.alloc o).cell? ⟨w.heap.size, 7, none⟩ = some (.string sa1) := fun o => cell_on (al_belK _ o) c17
  have ca18 : ∀ o, (wz1.alloc o).cell? ⟨w.heap.size, 8, none⟩ = some (ua1) := fun o => cell_on (al_belK _ o) c18
  go_wp2
  go_cut [6] (fun pu wc => Hid (BoxG wz1 r0 pu wc))
  case first =>
    go_region_law (first
      | (go_simp; go_at_call 42; refine (toBs_any _ b0 0 h0 _ HW0.out (HTA0.out _ (by with_reducible first | exact hd0 | exact hda))).mono ?_; rintro e wva ⟨va, rfl, ⟨hta, _⟩, hba⟩; have hBa : Below wz1.heap.size wz1 wva := (by with_reducible first | exact bel_two hd0 hba | exact bel_two hda hba); (first | (have hZa := zg_drew hba) | skip); obtain ⟨d10, d11, d12, d13, d14, d15, d16, d17, d18⟩ := (HTA1.out _ hBa).1; have da10 : ∀ o, (wva.alloc o).cell? ⟨w.heap.size, 0, none⟩ = some (.int .i64 t1.kd) := (fun o => cell_on (al_belK _ o) d10); have da11 : ∀ o, (wva.alloc o).cell? ⟨w.heap.size, 1, none⟩ = some (.int .i64 k1) := (fun o => cell_on (al_belK _ o) d11); have da12 : ∀ o, (wva.alloc o).cell? ⟨w.heap.size, 2, none⟩ = some (.int .i64 n1) := (fun o => cell_on (al_belK _ o) d12); have da13 : ∀ o, (wva.alloc o).cell? ⟨w.heap.size, 3, none⟩ = some (.string s1) := (fun o => cell_on (al_belK _ o) d13); have da14 : ∀ o, (wva.alloc o).cell? ⟨w.heap.size, 4, none⟩ = some (u1) := (fun o => cell_on (al_belK _ o) d14); have da15 : ∀ o, (wva.alloc o).cell? ⟨w.heap.size, 5, none⟩ = some (.int .i64 ka1) := (fun o => cell_on (al_belK _ o) d15); have da16 : ∀ o, (wva.alloc o).cell? ⟨w.heap.size, 6, none⟩ = some (.int .i64 na1) := (fun o => cell_on (al_belK _ o) d16); have da17 : ∀ o, (wva.alloc o).cell? ⟨w.heap.size, 7, none⟩ = some (.string sa1) := (fun o => cell_on (al_belK _ o) d17); have da18 : ∀ o, (wva.alloc o).cell? ⟨w.heap.size, 8, none⟩ = some (ua1) := (fun o => cell_on (al_belK _ o) d18))
      | (go_simp; go_at_call 38; refine (toG_any _ t1 0 h1 _ (HTA1.out _ (by with_reducible first | exact hBa | exact bel_alK hBa _)).2 HW1.out).mono ?_; rintro e wvb ⟨vb, rfl, htb, hbb⟩; have hBb : Below wz1.heap.size wz1 wvb := (by with_reducible first | exact bel_two hBa hbb | exact bel_two (bel_alK hBa _) hbb); have htab : BsAt wvb _ h0 va b0 := (by first | exact hta.below hbb | exact (hta.below (al_belK wva _)).below hbb); (first | (have hZb := zk_keep hZa hbb) | (have hZb := zg_new hbb) | skip))
      | (go_simp; go_at_call 41; refine (HSP.out _ _ _ (by first | exact htab | exact htab.below (al_belK wvb _)) (by first | exact htb | exact htb.below (al_belK wvb _))).mono ?_; rintro e wr1 ⟨Hr, kr, nr, sr, ar, mr, cr, kt, nt, st, at9, mt, ct, rfl, htr, hbr⟩; have hBr : Below wz1.heap.size wz1 wr1 := (by with_reducible first | exact bel_two hBb hbr | exact bel_two (bel_alK hBb _) hbr); (first | (have hZr := zk_keep hZb hbr; obtain ⟨⟨z0, z1, z2, z3, z4, z5, z6, z7, z8⟩, y0, y1, y2, y3, y4, y5, y6, y7, y8⟩ := cells_of9g hZr) | (have hZr := zg_new hbr; obtain ⟨⟨z0, z1, z2, z3, z4, z5, z6, z7, z8⟩, y0, y1, y2, y3, y4, y5, y6, y7, y8⟩ := cells_of9g hZr) | skip)))
    all_goals go_wp2_with fail
    all_goals go_meet
    all_goals first
      | (with_reducible refine Lib.hid (boxG_new hBr htr ?_ rfl)
         have h1 := hBb.size; simp; try omega)
      | (with_reducible refine Lib.hid (boxG_set hBr htr hZr ?_ ?_)
         · have haz := hba.size; have hay := hBa.size; have hbz := hbb.size; have hby := hBb.size; simp at *; try omega
         · have haz := hba.size; have hay := hBa.size; have hbz := hbb.size; have hby := hBb.size; simp at *; try omega)
  obtain ⟨Bw, kw, nw, sw, aaw, mmw, ccw, ktw, ntw, stw, atw, mtw, ctw, Hw, rfl, hbox, htr, hb, hBB⟩ := hcut.out
  clear hcut hd0 hda HTA0 HTA1 c10 c11 c12 c13 c14 c15 c16 c17 c18 ca10 ca11 ca12 ca13 ca14 ca15 ca16 ca17 ca18
  obtain ⟨wm, hout⟩ : ∃ x, x = wc := ⟨_, rfl⟩
  subst hout
  have hto : GBox wz1.heap.size Bw r0.kd kw nw sw (.slice aaw mmw ccw) ktw ntw stw (.slice atw mtw ctw) Hw r0 wm := ⟨hbox, htr⟩
  have HA1_3 := Lib.hid (HA1_2.out.below hb)
  have HA0_3 := Lib.hid (HA0_2.out.below hb)
  have HB_3 := Lib.hid (HB_2.out.trans (hb.mono HB_2.out.size))
  have hz2 := hb.size
  clear hb HB_2 HA1_2 HA0_2
  have HOw_3 := Lib.hid (hto.kept hBB)
  clear hto hbox htr hBB
  clear HSP
  go_wp2_with fail
  refine (toBs_any _ b0 0 h0 _ HW0.out HA0_3.out.now).mono ?_
  rintro e wx0 ⟨vx0, rfl, ⟨hat, hown⟩, hb⟩
  have HA1_4 := Lib.hid (HA1_3.out.below hb)
  have HA0_4 := Lib.hid (HA0_3.out.below hb)
  have HOw_4 := Lib.hid (HOw_3.out.below hb)
  have HB_4 := Lib.hid (HB_3.out.trans (hb.mono HB_3.out.size))
  have hz3 := hb.size
  clear hb HB_3 HA1_3 HA0_3 HOw_3
  have HX0_4 := Lib.hid (BsObj.kept ⟨hat, hown⟩)
  clear hat hown
  obtain ⟨c0, c1, c2, c3, c4, c5, c6, c7, c8⟩ := cells_of9 HA1_4.out.now.1
  go_wp2_with fail
  refine (toG_own _ t1 0 h1 _ HA1_4.out.now.2 HW1.out).mono ?_
  rintro e wx1 ⟨kx1, nx1, sx1, ux1, xsx1, ky1, ny1, sy1, uy1, xsy1, rfl, etx, ety, hsx, ⟨hax, hay⟩, hox, hb⟩
  obtain ⟨ax1, cx1, rfl⟩ := hax.slice
  obtain ⟨ay1, cy1, rfl⟩ := hay.slice
  obtain ⟨mx1, hmx⟩ : ∃ m, m = xsx1.length := ⟨_, rfl⟩
  obtain ⟨my1, hmy⟩ : ∃ m, m = xsy1.length := ⟨_, rfl⟩
  rw [← hmx] at hax hox
  rw [← hmy] at hay hox
  rw [← hmx, ← hmy]
  have HCX1 : Hid (cS xsx1 ≤ 1048576 ∧ cS xsy1 ≤ 1048576) := Lib.hid (by have hw := HW1.out; unfold wG at hw; rw [etx, ety, wT_node, wT_node] at hw; have := cS_le xsx1; have := cS_le xsy1; omega)
  clear c0 c1 c2 c3 c4 c5 c6 c7 c8
  have HA1_5 := Lib.hid (HA1_4.out.below hb)
  have HA0_5 := Lib.hid (HA0_4.out.below hb)
  have HOw_5 := Lib.hid (HOw_4.out.below hb)
  have HX0_5 := Lib.hid (HX0_4.out.below hb)
  have HB_5 := Lib.hid (HB_4.out.trans (hb.mono HB_4.out.size))
  have hz4 := hb.size
  clear hb HB_4 HA1_4 HA0_4 HOw_4 HX0_4
  obtain ⟨W6, hW6⟩ : ∃ W6, W6 = gboxed wx1 t1.kd kx1 nx1 sx1 (.slice ax1 mx1 cx1) ky1 ny1 sy1 (.slice ay1 my1 cy1) := ⟨_, rfl⟩
  have hbb : Below wx1.heap.size wx1 W6 := by rw [hW6]; exact gboxed_below _ _ _ _ _ _ _ _ _ _
  have hzz6 : W6.heap.size = wx1.heap.size + 1 := by rw [hW6]; simp
  have hto := gbox_of hsx hax hay hox hW6
  have HA1_6 := Lib.hid (HA1_5.out.below hbb)
  have HA0_6 := Lib.hid (HA0_5.out.below hbb)
  have HOw_6 := Lib.hid (HOw_5.out.below hbb)
  have HX0_6 := Lib.hid (HX0_5.out.below hbb)
  have HB_6 := Lib.hid (HB_5.out.trans (hbb.mono HB_5.out.size))
  have hz5 := hbb.size
  clear hbb HB_5 HA1_5 HA0_5 HOw_5 HX0_5
  have HX1_6 := Lib.hid (hto.kept (by omega))
  have HEX1 : Hid (t1 = ⟨t1.kd, .node kx1 nx1 sx1 xsx1, .node ky1 ny1 sy1 xsy1⟩) := Lib.hid (gd_eq etx ety)
  clear hto hax hay hox hsx etx ety hmx hmy
  unfold gboxed at hW6
  obtain ⟨p1x0, p1x1, p1x2, p1x3, p1x4, p1x5, p1x6, p1x7, p1x8⟩ := cells_of9 HX1_6.out.now.1.1
  rw [hW6] at p1x0 p1x1 p1x2 p1x3 p1x4 p1x5 p1x6 p1x7 p1x8
  go_wp2_with fail
  rw [← hW6] at p1x0 p1x1 p1x2 p1x3 p1x4 p1x5 p1x6 p1x7 p1x8 ⊢
  clear hW6
  refine (HIM.out _ _ _ HX0_6.out.now.1 (by have h := HX1_6.out.now.1.2; rw [← HEX1.out] at h; exact h)).mono ?_
  rintro e wg ⟨Hg, kg, ng, sg, uug, xsg, ktg, ntg, stg, utg, ysg, rfl, eg, etg, hsg, ⟨hag, hatg⟩, hog, hb⟩
  obtain ⟨aag, ccg, rfl⟩ := hag.slice
  obtain ⟨atg, ctg, rfl⟩ := hatg.slice
  obtain ⟨mmg, hmmg⟩ : ∃ m, m = xsg.length := ⟨_, rfl⟩
  obtain ⟨mtg, hmtg⟩ : ∃ m, m = ysg.length := ⟨_, rfl⟩
  rw [← hmmg] at hag hog
  rw [← hmtg] at hatg hog
  rw [← hmmg, ← hmtg]
  have HCg : Hid (1 + 3 * cS xsg + 3 * cS ysg ≤ 1152921504606846976) := Lib.hid (by have h1 := HRW.out; rw [eg, etg, cT_node, cT_node] at h1; omega)
  have HA1_7 := Lib.hid (HA1_6.out.below hb)
  have HA0_7 := Lib.hid (HA0_6.out.below hb)
  have HOw_7 := Lib.hid (HOw_6.out.below hb)
  have HX0_7 := Lib.hid (HX0_6.out.below hb)
  have HX1_7 := Lib.hid (HX1_6.out.below hb)
  have HB_7 := Lib.hid (HB_6.out.trans (hb.mono HB_6.out.size))
  have hz6 := hb.size
  clear hb HB_6 HA1_6 HA0_6 HOw_6 HX0_6 HX1_6
  obtain ⟨W8, hW8⟩ : ∃ W8, W8 = gboxed wg r0.kd kg ng sg (.slice aag mmg ccg) ktg ntg stg (.slice atg mtg ctg) := ⟨_, rfl⟩
  have hbb : Below wg.heap.size wg W8 := by rw [hW8]; exact gboxed_below _ _ _ _ _ _ _ _ _ _
  have hzz8 : W8.heap.size = wg.heap.size + 1 := by rw [hW8]; simp
  have hto := gbox_of hsg hag hatg hog hW8
  have HA1_8 := Lib.hid (HA1_7.out.below hbb)
  have HA0_8 := Lib.hid (HA0_7.out.below hbb)
  have HOw_8 := Lib.hid (HOw_7.out.below hbb)
  have HX0_8 := Lib.hid (HX0_7.out.below hbb)
  have HX1_8 := Lib.hid (HX1_7.out.below hbb)
  have HB_8 := Lib.hid (HB_7.out.trans (hbb.mono HB_7.out.size))
  have hz7 := hbb.size
  clear hbb HB_7 HA1_7 HA0_7 HOw_7 HX0_7 HX1_7
  have HOg_8 := Lib.hid (hto.kept (by omega))
  have HEg : Hid (r0 = ⟨r0.kd, .node kg ng sg xsg, .node ktg ntg stg ysg⟩) := Lib.hid (gd_eq eg etg)
  clear hto hsg hag hatg hog eg etg hmmg hmtg
  unfold gboxed at hW8
  clear p1x0 p1x1 p1x2 p1x3 p1x4 p1x5 p1x6 p1x7 p1x8
  obtain ⟨y0, y1, y2, y3, y4, y5, y6, y7, y8⟩ := cells_of9 HOg_8.out.now.1.1
  obtain ⟨z0, z1, z2, z3, z4, z5, z6, z7, z8⟩ := cells_of9 HOw_8.out.now.1
  rw [hW8] at y0 y1 y2 y3 y4 y5 y6 y7 y8 z0 z1 z2 z3 z4 z5 z6 z7 z8
  go_wp2_with fail
  rw [← hW8] at y0 y1 y2 y3 y4 y5 y6 y7 y8 z0 z1 z2 z3 z4 z5 z6 z7 z8 ⊢
  clear hW8
  refine (eqG_two _ _ r0 _ _ _ _ _ (by have h := HOg_8.out.now.1.2; rw [← HEg.out] at h; exact h) HOw_8.out.now.2).mono ?_
  rintro e wa ⟨rfl, hb⟩
  clear y0 y1 y2 y3 y4 y5 y6 y7 y8 z0 z1 z2 z3 z4 z5 z6 z7 z8
  have HA1_9 := Lib.hid (HA1_8.out.below hb)
  have HA0_9 := Lib.hid (HA0_8.out.below hb)
  have HOw_9 := Lib.hid (HOw_8.out.below hb)
  have HX0_9 := Lib.hid (HX0_8.out.below hb)
  have HX1_9 := Lib.hid (HX1_8.out.below hb)
  have HOg_9 := Lib.hid (HOg_8.out.below hb)
  have HB_9 := Lib.hid (HB_8.out.trans (hb.mono HB_8.out.size))
  have hz8 := hb.size
  clear hb HB_8 HA1_8 HA0_8 HOw_8 HX0_8 HX1_8 HOg_8
  go_wp2_with fail
  refine (toBs_any _ b0 0 h0 _ HW0.out HA0_9.out.now).mono ?_
  rintro e wc10 ⟨Y0, rfl, ⟨ht, _⟩, hb⟩
  have HA1_10 := Lib.hid (HA1_9.out.below hb)
  have HA0_10 := Lib.hid (HA0_9.out.below hb)
  have HOw_10 := Lib.hid (HOw_9.out.below hb)
  have HX0_10 := Lib.hid (HX0_9.out.below hb)
  have HX1_10 := Lib.hid (HX1_9.out.below hb)
  have HOg_10 := Lib.hid (HOg_9.out.below hb)
  have HB_10 := Lib.hid (HB_9.out.trans (hb.mono HB_9.out.size))
  have hz9 := hb.size
  clear hb HB_9 HA1_9 HA0_9 HOw_9 HX0_9 HX1_9 HOg_9
  have HY0_10 := Lib.hid (ht.kept)
  clear ht
  go_wp2_with fail
  refine (eqBs_two _ _ b0 _ _ _ _ _ (by have := wBs_len b0; have := HW0.out; omega) HX0_10.out.now.1 HY0_10.out.now).mono ?_
  rintro e wf0 ⟨rfl, hb⟩
  have HA1_11 := Lib.hid (HA1_10.out.below hb)
  have HA0_11 := Lib.hid (HA0_10.out.below hb)
  have HOw_11 := Lib.hid (HOw_10.out.below hb)
  have HX0_11 := Lib.hid (HX0_10.out.below hb)
  have HX1_11 := Lib.hid (HX1_10.out.below hb)
  have HOg_11 := Lib.hid (HOg_10.out.below hb)
  have HY0_11 := Lib.hid (HY0_10.out.below hb)
  have HB_11 := Lib.hid (HB_10.out.trans (hb.mono HB_10.out.size))
  have hz10 := hb.size
  clear hb HB_10 HA1_10 HA0_10 HOw_10 HX0_10 HX1_10 HOg_10 HY0_10
  clear HY0_11
  have HK : Hid (∀ w', Below wf0.heap.size wf0 w' → (w'.cell? ⟨wx1.heap.size, 0, none⟩ = some (.int .i64 t1.kd) ∧ w'.cell? ⟨wx1.heap.size, 1, none⟩ = some (.int .i64 kx1) ∧ w'.cell? ⟨wx1.heap.size, 2, none⟩ = some (.int .i64 nx1) ∧ w'.cell? ⟨wx1.heap.size, 3, none⟩ = some (.string sx1) ∧ w'.cell? ⟨wx1.heap.size, 4, none⟩ = some (.slice ax1 mx1 cx1) ∧ w'.cell? ⟨wx1.heap.size, 5, none⟩ = some (.int .i64 ky1) ∧ w'.cell? ⟨wx1.heap.size, 6, none⟩ = some (.int .i64 ny1) ∧ w'.cell? ⟨wx1.heap.size, 7, none⟩ = some (.string sy1) ∧ w'.cell? ⟨wx1.heap.size, 8, none⟩ = some (.slice ay1 my1 cy1) ∧ w'.cell? ⟨w.heap.size, 0, none⟩ = some (.int .i64 t1.kd) ∧ w'.cell? ⟨w.heap.size, 1, none⟩ = some (.int .i64 k1) ∧ w'.cell? ⟨w.heap.size, 2, none⟩ = some (.int .i64 n1) ∧ w'.cell? ⟨w.heap.size, 3, none⟩ = some (.string s1) ∧ w'.cell? ⟨w.heap.size, 4, none⟩ = some (u1) ∧ w'.cell? ⟨w.heap.size, 5, none⟩ = some (.int .i64 ka1) ∧ w'.cell? ⟨w.heap.size, 6, none⟩ = some (.int .i64 na1) ∧ w'.cell? ⟨w.heap.size, 7, none⟩ = some (.string sa1) ∧ w'.cell? ⟨w.heap.size, 8, none⟩ = some (ua1) ∧ Below wf0.heap.size wf0 w')) := Lib.hid (fun w' hb => by
    obtain ⟨p0, p1, p2, p3, p4, p5, p6, p7, p8⟩ := cells_of9 (HX1_11.out.below hb).now.1.1
    obtain ⟨b0, b1, b2, b3, b4, b5, b6, b7, b8⟩ := cells_of9 (HA1_11.out.below hb).now.1
    exact ⟨p0, p1, p2, p3, p4, p5, p6, p7, p8, b0, b1, b2, b3, b4, b5, b6, b7, b8, hb⟩)
  obtain ⟨p0, p1, p2, p3, p4, p5, p6, p7, p8, b0, b1, b2, b3, b4, b5, b6, b7, b8, hb0⟩ := HK.out _ (Below.refl _ _)
  have HT5 : Hid (∀ w', Below wf0.heap.size wf0 w' → GAt w' 0 h1 (gv t1.kd k1 n1 s1 u1 ka1 na1 sa1 ua1) t1) := Lib.hid (fun w' hb => (HA1_11.out.below hb).now.2)
  have HX5 : Hid (∀ w', Below wf0.heap.size wf0 w' → GAt w' wx0.heap.size h1 (gv t1.kd kx1 nx1 sx1 (.slice ax1 mx1 cx1) ky1 ny1 sy1 (.slice ay1 my1 cy1)) t1) := Lib.hid (fun w' hb => by have h := (HX1_11.out.below hb).now.1.2; rw [← HEX1.out] at h; exact h)
  go_wp2
  go_region_held3 (fun w' => w'.cell? ⟨wx1.heap.size, 0, none⟩ = some (.int .i64 t1.kd) ∧ w'.cell? ⟨wx1.heap.size, 1, none⟩ = some (.int .i64 kx1) ∧ w'.cell? ⟨wx1.heap.size, 2, none⟩ = some (.int .i64 nx1) ∧ w'.cell? ⟨wx1.heap.size, 3, none⟩ = some (.string sx1) ∧ w'.cell? ⟨wx1.heap.size, 4, none⟩ = some (.slice ax1 mx1 cx1) ∧ w'.cell? ⟨wx1.heap.size, 5, none⟩ = some (.int .i64 ky1) ∧ w'.cell? ⟨wx1.heap.size, 6, none⟩ = some (.int .i64 ny1) ∧ w'.cell? ⟨wx1.heap.size, 7, none⟩ = some (.string sy1) ∧ w'.cell? ⟨wx1.heap.size, 8, none⟩ = some (.slice ay1 my1 cy1) ∧ w'.cell? ⟨w.heap.size, 0, none⟩ = some (.int .i64 t1.kd) ∧ w'.cell? ⟨w.heap.size, 1, none⟩ = some (.int .i64 k1) ∧ w'.cell? ⟨w.heap.size, 2, none⟩ = some (.int .i64 n1) ∧ w'.cell? ⟨w.heap.size, 3, none⟩ = some (.string s1) ∧ w'.cell? ⟨w.heap.size, 4, none⟩ = some (u1) ∧ w'.cell? ⟨w.heap.size, 5, none⟩ = some (.int .i64 ka1) ∧ w'.cell? ⟨w.heap.size, 6, none⟩ = some (.int .i64 na1) ∧ w'.cell? ⟨w.heap.size, 7, none⟩ = some (.string sa1) ∧ w'.cell? ⟨w.heap.size, 8, none⟩ = some (ua1) ∧ Below wf0.heap.size wf0 w')
    (first | exact HK.out _ (by assumption) | exact HK.out _ (bel_drew (by assumption)) | exact HK.out _ (Below.drew (by assumption)) | exact HK.out _ (bel_two (bel_drew (by assumption)) (by assumption)) | go_keep)
    (first
      | (go_at_call 38; refine (toG_any _ t1 0 h1 _ (HT5.out _ (by first | assumption | exact Below.drew (by assumption))) HW1.out).mono ?_; rintro e we1 ⟨v3, rfl, ht9, hb9⟩)
      | (go_at_call 39; refine (eqG_any _ v3 t1 _ _ h1 _ (HX5.out _ (by first | assumption | exact bel_drew (by assumption) | exact Below.drew (by assumption))) (by first | exact ht9 | exact ht9.below (Below.drew (Below.refl _ _)))).mono ?_; rintro e wf1 ⟨rfl, hb10⟩))
  have hbq : Below wf0.heap.size wf0 wf1 := bel_two (bel_drew hb9) hb10
  clear HX5 HT5 HK p0 p1 p2 p3 p4 p5 p6 p7 p8 b0 b1 b2 b3 b4 b5 b6 b7 b8 hb0 hb9 hb10 ht9
  have HA1_12 := Lib.hid (HA1_11.out.below hbq)
  have HA0_12 := Lib.hid (HA0_11.out.below hbq)
  have HOw_12 := Lib.hid (HOw_11.out.below hbq)
  have HX0_12 := Lib.hid (HX0_11.out.below hbq)
  have HX1_12 := Lib.hid (HX1_11.out.below hbq)
  have HOg_12 := Lib.hid (HOg_11.out.below hbq)
  have HB_12 := Lib.hid (HB_11.out.trans (hbq.mono HB_11.out.size))
  have hz11 := hbq.size
  clear hbq HB_11 HA1_11 HA0_11 HOw_11 HX0_11 HX1_11 HOg_11
  go_wp2_with fail
  refine (markBs_any _ b0 h0 wm.heap.size wx0.heap.size (1) _ HX0_12.out.now.2 (by omega) (by omega) (by have := mBs_le b0; have := HW0.out; have := HCX1.out.1; have := HCX1.out.2; omega)).mono ?_
  rintro e wk0 ⟨⟨rfl, ho⟩, _⟩
  clear HX0_12
  have HA1_13 := Lib.hid (HA1_12.out.out ho (by omega))
  have HA0_13 := Lib.hid (HA0_12.out.out ho (by omega))
  have HOw_13 := Lib.hid (HOw_12.out.out ho (by omega))
  have HX1_13 := Lib.hid (HX1_12.out.out ho (by omega))
  have HOg_13 := Lib.hid (HOg_12.out.out ho (by omega))
  have HB_13 := Lib.hid (HB_12.out.trans ((ho.under (B := w.heap.size) (by omega) (by omega))))
  have hz12 := ho.2.2.2.1
  clear HB_12 HA1_12 HA0_12 HOw_12 HX1_12 HOg_12
  clear ho
  obtain ⟨p0, p1, p2, p3, p4, p5, p6, p7, p8⟩ := cells_of9 HX1_13.out.now.1.1
  go_wp2_with fail
  refine (markG_any t1.kd kx1 nx1 sx1 _ ky1 ny1 sy1 _ xsx1 xsy1 h1 wx0.heap.size wx1.heap.size (1 + mBs b0) _ HX1_13.out.now.2 (by omega) (by omega) (by have := mBs_le b0; have := HW0.out; have := HCX1.out.1; have := HCX1.out.2; omega)).mono ?_
  rintro e wk1 ⟨⟨rfl, ho⟩, _⟩
  clear p0 p1 p2 p3 p4 p5 p6 p7 p8
  clear HX1_13
  have HA1_14 := Lib.hid (HA1_13.out.out ho (by omega))
  have HA0_14 := Lib.hid (HA0_13.out.out ho (by omega))
  have HOw_14 := Lib.hid (HOw_13.out.out ho (by omega))
  have HOg_14 := Lib.hid (HOg_13.out.out ho (by omega))
  have HB_14 := Lib.hid (HB_13.out.trans ((ho.under (B := w.heap.size) (by omega) (by omega))))
  have hz13 := ho.2.2.2.1
  clear HB_13 HA1_13 HA0_13 HOw_13 HOg_13
  clear ho
  have hpos : ¬ ((1 + mBs b0 + 3 * cS xsx1 + 3 * cS xsy1 : Nat) : Int) < 0 := by omega
  obtain ⟨y0, y1, y2, y3, y4, y5, y6, y7, y8⟩ := cells_of9 HOg_14.out.now.1.1
  obtain ⟨z0, z1, z2, z3, z4, z5, z6, z7, z8⟩ := cells_of9 HOw_14.out.now.1
  go_wp2_with fail
  refine (eqG_two _ _ r0 _ _ _ _ _ (by have h := HOg_14.out.now.1.2; rw [← HEg.out] at h; exact h) HOw_14.out.now.2).mono ?_
  rintro e wb ⟨rfl, hb⟩
  clear y0 y1 y2 y3 y4 y5 y6 y7 y8 z0 z1 z2 z3 z4 z5 z6 z7 z8
  have HA1_15 := Lib.hid (HA1_14.out.below hb)
  have HA0_15 := Lib.hid (HA0_14.out.below hb)
  have HOw_15 := Lib.hid (HOw_14.out.below hb)
  have HOg_15 := Lib.hid (HOg_14.out.below hb)
  have HB_15 := Lib.hid (HB_14.out.trans (hb.mono HB_14.out.size))
  have hz14 := hb.size
  clear hb HB_14 HA1_14 HA0_14 HOw_14 HOg_14
  obtain ⟨g0, g1, g2, g3, g4, g5, g6, g7, g8⟩ := cells_of9 HOg_15.out.now.1.1
  go_wp2_with fail
  refine (markG_any r0.kd kg ng sg _ ktg ntg stg _ xsg ysg Hg W6.heap.size wg.heap.size 1 _ HOg_15.out.now.2 (by omega) (by omega) (by have := HCg.out; omega)).mono ?_
  rintro e wgm ⟨⟨rfl, ho⟩, ha, ha'⟩
  clear g0 g1 g2 g3 g4 g5 g6 g7 g8
  have hrow : wgm.heap[wg.heap.size]? = some (grow 31 r0.kd kg ng sg (.slice aag mmg ccg) ktg ntg stg (.slice atg mtg ctg)) := (ho.2.2.2.2 _ (by omega) (Or.inr (Nat.le_refl _))).trans HOg_15.out.now.1.1
  clear HOg_15
  have HA1_16 := Lib.hid (HA1_15.out.out ho (by omega))
  have HA0_16 := Lib.hid (HA0_15.out.out ho (by omega))
  have HOw_16 := Lib.hid (HOw_15.out.out ho (by omega))
  have HB_16 := Lib.hid (HB_15.out.trans ((ho.under (B := w.heap.size) (by omega) (by omega))))
  have hz15 := ho.2.2.2.1
  clear HB_15 HA1_15 HA0_15 HOw_15
  clear ho
  have HGM_16 := Lib.hid ((show Kept 0 wgm.heap.size (fun w' => w'.heap[wg.heap.size]? = some (grow 31 r0.kd kg ng sg (.slice aag mmg ccg) ktg ntg stg (.slice atg mtg ctg)) ∧ ArgsAt w' 0 Hg (.slice aag mmg ccg) (mkS 1 xsg) ∧ ArgsAt w' 0 Hg (.slice atg mtg ctg) (mkS (1 + 3 * cS xsg) ysg)) wgm from ⟨Nat.le_refl _, fun w' hs => ⟨(hs _ (Nat.zero_le _) (Array.getElem?_eq_some_iff.1 hrow).1).trans hrow, (ha.args (fun _ _ => Nat.zero_le _)).same hs, (ha'.args (fun _ _ => Nat.zero_le _)).same hs⟩⟩))
  clear ha ha' hrow
  obtain ⟨g0, g1, g2, g3, g4, g5, g6, g7, g8⟩ := cells_of9 HGM_16.out.now.1
  go_wp2_with fail
  refine (heldG_any r0.kd kg ng sg _ ktg ntg stg _ xsg ysg 0 Hg 1 _ HGM_16.out.now.2.1 HGM_16.out.now.2.2 (by omega) (by have := HCg.out; omega)).mono ?_
  rintro e wh1 ⟨rfl, hb⟩
  clear g0 g1 g2 g3 g4 g5 g6 g7 g8
  have HA1_17 := Lib.hid (HA1_16.out.below hb)
  have HA0_17 := Lib.hid (HA0_16.out.below hb)
  have HOw_17 := Lib.hid (HOw_16.out.below hb)
  have HGM_17 := Lib.hid (HGM_16.out.below hb)
  have HB_17 := Lib.hid (HB_16.out.trans (hb.mono HB_16.out.size))
  have hz16 := hb.size
  clear hb HB_16 HA1_16 HA0_16 HOw_16 HGM_16
  have hpos2 : ¬ ((1 + 3 * cS xsg + 3 * cS ysg : Nat) : Int) < 0 := by omega
  have heq2 : (((1 + 3 * cS xsg + 3 * cS ysg : Nat) : Int) != ((1 + 3 * cS xsg + 3 * cS ysg : Nat) : Int)) = false := by simp
  have hd0 : Below wh1.heap.size wh1 wh1.drew := Below.drew (Below.refl _ _)
  have hda : Below wh1.heap.size wh1 (wh1.alloc (.cells #[.int .i64 0, .int .i64 0, .int .i64 0, .string ⟨#[]⟩, .slice none 0 0, .int .i64 0, .int .i64 0, .string ⟨#[]⟩, .slice none 0 0] 31)).drew := ((Below.refl _ _).alloc (Nat.le_refl _) _).drew
  have HTA0 : Hid (∀ w', Below wh1.heap.size wh1 w' → BsAt w' 0 h0 (.slice a0 l0 c0) b0) := Lib.hid (fun w' hb => (HA0_17.out.below hb).now)
  have HTA1 : Hid (∀ w', Below wh1.heap.size wh1 w' → (w'.cell? ⟨w.heap.size, 0, none⟩ = some (.int .i64 t1.kd) ∧ w'.cell? ⟨w.heap.size, 1, none⟩ = some (.int .i64 k1) ∧ w'.cell? ⟨w.heap.size, 2, none⟩ = some (.int .i64 n1) ∧ w'.cell? ⟨w.heap.size, 3, none⟩ = some (.string s1) ∧ w'.cell? ⟨w.heap.size, 4, none⟩ = some (u1) ∧ w'.cell? ⟨w.heap.size, 5, none⟩ = some (.int .i64 ka1) ∧ w'.cell? ⟨w.heap.size, 6, none⟩ = some (.int .i64 na1) ∧ w'.cell? ⟨w.heap.size, 7, none⟩ = some (.string sa1) ∧ w'.cell? ⟨w.heap.size, 8, none⟩ = some (ua1)) ∧ GAt w' 0 h1 (gv t1.kd k1 n1 s1 u1 ka1 na1 sa1 ua1) t1) := Lib.hid (fun w' hb => ⟨cells_of9 (HA1_17.out.below hb).now.1, (HA1_17.out.below hb).now.2⟩)
  obtain ⟨c10, c11, c12, c13, c14, c15, c16, c17, c18⟩ := (HTA1.out _ (Below.refl _ _)).1
  have ca10 : ∀ o, (wh1.alloc o).cell? ⟨w.heap.size, 0, none⟩ = some (.int .i64 t1.kd) := fun o => cell_on (al_belK _ o) c10
  have ca11 : ∀ o, (wh1.alloc o).cell? ⟨w.heap.size, 1, none⟩ = some (.int .i64 k1) := fun o => cell_on (al_belK _ o) c11
  have ca12 : ∀ o, (wh1.alloc o).cell? ⟨w.heap.size, 2, none⟩ = some (.int .i64 n1) := fun o => cell_on (al_belK _ o) c12
  have ca13 : ∀ o, (wh1.alloc o).cell? ⟨w.heap.size, 3, none⟩ = some (.string s1) := fun o => cell_on (al_belK _ o) c13
  have ca14 : ∀ o, (wh1.alloc o).cell? ⟨w.heap.size, 4, none⟩ = some (u1) := fun o => cell_on (al_belK _ o) c14
  have ca15 : ∀ o, (wh1.alloc o).cell? ⟨w.heap.size, 5, none⟩ = some (.int .i64 ka1) := fun o => cell_on (al_belK _ o) c15
  have ca16 : ∀ o, (wh1.alloc o).cell? ⟨w.heap.size, 6, none⟩ = some (.int .i64 na1) := fun o => cell_on (al_belK _ o) c16
  have ca17 : ∀ o, (wh1.alloc o).cell? ⟨w.heap.size, 7, none⟩ = some (.string sa1) := fun o => cell_on (al_belK _ o) c17
  have ca18 : ∀ o, (wh1.alloc o).cell? ⟨w.heap.size, 8, none⟩ = some (ua1) := fun o => cell_on (al_belK _ o) c18
  go_wp2
  go_cut [13] (fun pu wc => Hid (BoxG wh1 r0 pu wc))
  case first =>
    go_region_law (first
      | (go_simp; go_at_call 42; refine (toBs_any _ b0 0 h0 _ HW0.out (HTA0.out _ (by with_reducible first | exact hd0 | exact hda))).mono ?_; rintro e wva ⟨va, rfl, ⟨hta, _⟩, hba⟩; have hBa : Below wh1.heap.size wh1 wva := (by with_reducible first | exact bel_two hd0 hba | exact bel_two hda hba); (first | (have hZa := zg_drew hba) | skip); obtain ⟨d10, d11, d12, d13, d14, d15, d16, d17, d18⟩ := (HTA1.out _ hBa).1; have da10 : ∀ o, (wva.alloc o).cell? ⟨w.heap.size, 0, none⟩ = some (.int .i64 t1.kd) := (fun o => cell_on (al_belK _ o) d10); have da11 : ∀ o, (wva.alloc o).cell? ⟨w.heap.size, 1, none⟩ = some (.int .i64 k1) := (fun o => cell_on (al_belK _ o) d11); have da12 : ∀ o, (wva.alloc o).cell? ⟨w.heap.size, 2, none⟩ = some (.int .i64 n1) := (fun o => cell_on (al_belK _ o) d12); have da13 : ∀ o, (wva.alloc o).cell? ⟨w.heap.size, 3, none⟩ = some (.string s1) := (fun o => cell_on (al_belK _ o) d13); have da14 : ∀ o, (wva.alloc o).cell? ⟨w.heap.size, 4, none⟩ = some (u1) := (fun o => cell_on (al_belK _ o) d14); have da15 : ∀ o, (wva.alloc o).cell? ⟨w.heap.size, 5, none⟩ = some (.int .i64 ka1) := (fun o => cell_on (al_belK _ o) d15); have da16 : ∀ o, (wva.alloc o).cell? ⟨w.heap.size, 6, none⟩ = some (.int .i64 na1) := (fun o => cell_on (al_belK _ o) d16); have da17 : ∀ o, (wva.alloc o).cell? ⟨w.heap.size, 7, none⟩ = some (.string sa1) := (fun o => cell_on (al_belK _ o) d17); have da18 : ∀ o, (wva.alloc o).cell? ⟨w.heap.size, 8, none⟩ = some (ua1) := (fun o => cell_on (al_belK _ o) d18))
      | (go_simp; go_at_call 38; refine (toG_any _ t1 0 h1 _ (HTA1.out _ (by with_reducible first | exact hBa | exact bel_alK hBa _)).2 HW1.out).mono ?_; rintro e wvb ⟨vb, rfl, htb, hbb⟩; have hBb : Below wh1.heap.size wh1 wvb := (by with_reducible first | exact bel_two hBa hbb | exact bel_two (bel_alK hBa _) hbb); have htab : BsAt wvb _ h0 va b0 := (by first | exact hta.below hbb | exact (hta.below (al_belK wva _)).below hbb); (first | (have hZb := zk_keep hZa hbb) | (have hZb := zg_new hbb) | skip))
      | (go_simp; go_at_call 43; refine (HIT.out _ _ _ (by first | exact htab | exact htab.below (al_belK wvb _)) (by first | exact htb | exact htb.below (al_belK wvb _))).mono ?_; rintro e wr1 ⟨Hr, kr, nr, sr, ar, mr, cr, kt, nt, st, at9, mt, ct, rfl, htr, hbr⟩; have hBr : Below wh1.heap.size wh1 wr1 := (by with_reducible first | exact bel_two hBb hbr | exact bel_two (bel_alK hBb _) hbr); (first | (have hZr := zk_keep hZb hbr; obtain ⟨⟨z0, z1, z2, z3, z4, z5, z6, z7, z8⟩, y0, y1, y2, y3, y4, y5, y6, y7, y8⟩ := cells_of9g hZr) | (have hZr := zg_new hbr; obtain ⟨⟨z0, z1, z2, z3, z4, z5, z6, z7, z8⟩, y0, y1, y2, y3, y4, y5, y6, y7, y8⟩ := cells_of9g hZr) | skip)))
    all_goals go_wp2_with fail
    all_goals go_meet
    all_goals first
      | (with_reducible refine Lib.hid (boxG_new hBr htr ?_ rfl)
         have h1 := hBb.size; simp; try omega)
      | (with_reducible refine Lib.hid (boxG_set hBr htr hZr ?_ ?_)
         · have haz := hba.size; have hay := hBa.size; have hbz := hbb.size; have hby := hBb.size; simp at *; try omega
         · have haz := hba.size; have hay := hBa.size; have hbz := hbb.size; have hby := hBb.size; simp at *; try omega)
  obtain ⟨Bh, kh, nh, sh, aah, mmh, cch, kth, nth, sth, ath, mth, cth, Hh, rfl, hbox, htr, hb, hBB⟩ := hcut.out
  clear hcut hd0 hda HTA0 HTA1 c10 c11 c12 c13 c14 c15 c16 c17 c18 ca10 ca11 ca12 ca13 ca14 ca15 ca16 ca17 ca18
  obtain ⟨wh2, hout⟩ : ∃ x, x = wc := ⟨_, rfl⟩
  subst hout
  have hto : GBox wh1.heap.size Bh r0.kd kh nh sh (.slice aah mmh cch) kth nth sth (.slice ath mth cth) Hh r0 wh2 := ⟨hbox, htr⟩
  have HA1_18 := Lib.hid (HA1_17.out.below hb)
  have HA0_18 := Lib.hid (HA0_17.out.below hb)
  have HOw_18 := Lib.hid (HOw_17.out.below hb)
  have HGM_18 := Lib.hid (HGM_17.out.below hb)
  have HB_18 := Lib.hid (HB_17.out.trans (hb.mono HB_17.out.size))
  have hz17 := hb.size
  clear hb HB_17 HA1_17 HA0_17 HOw_17 HGM_17
  have HOh_18 := Lib.hid (hto.kept hBB)
  clear hto hbox htr hBB
  obtain ⟨y0, y1, y2, y3, y4, y5, y6, y7, y8⟩ := cells_of9 HOh_18.out.now.1
  obtain ⟨z0, z1, z2, z3, z4, z5, z6, z7, z8⟩ := cells_of9 HOw_18.out.now.1
  go_wp2_with fail
  refine (eqG_two _ _ r0 _ _ _ _ _ HOh_18.out.now.2 HOw_18.out.now.2).mono ?_
  rintro e wh3 ⟨rfl, hb⟩
  clear y0 y1 y2 y3 y4 y5 y6 y7 y8 z0 z1 z2 z3 z4 z5 z6 z7 z8
  have HA1_19 := Lib.hid (HA1_18.out.below hb)
  have HA0_19 := Lib.hid (HA0_18.out.below hb)
  have HOw_19 := Lib.hid (HOw_18.out.below hb)
  have HGM_19 := Lib.hid (HGM_18.out.below hb)
  have HOh_19 := Lib.hid (HOh_18.out.below hb)
  have HB_19 := Lib.hid (HB_18.out.trans (hb.mono HB_18.out.size))
  have hz18 := hb.size
  clear hb HB_18 HA1_18 HA0_18 HOw_18 HGM_18 HOh_18
  clear HOh_19
  clear HOw_19
  obtain ⟨g0, g1, g2, g3, g4, g5, g6, g7, g8⟩ := cells_of9 HGM_19.out.now.1
  go_wp2_with fail
  refine (heldG_any r0.kd kg ng sg _ ktg ntg stg _ xsg ysg 0 Hg 1 _ HGM_19.out.now.2.1 HGM_19.out.now.2.2 (by omega) (by have := HCg.out; omega)).mono ?_
  rintro e wh4 ⟨rfl, hb⟩
  clear g0 g1 g2 g3 g4 g5 g6 g7 g8
  have HA1_20 := Lib.hid (HA1_19.out.below hb)
  have HA0_20 := Lib.hid (HA0_19.out.below hb)
  have HGM_20 := Lib.hid (HGM_19.out.below hb)
  have HB_20 := Lib.hid (HB_19.out.trans (hb.mono HB_19.out.size))
  have hz19 := hb.size
  clear hb HB_19 HA1_19 HA0_19 HGM_19
  go_wp2
  go_ret
  exact ⟨rfl, HB_20.out⟩
end Go.Proofs.Ytidbokheeieifaa
