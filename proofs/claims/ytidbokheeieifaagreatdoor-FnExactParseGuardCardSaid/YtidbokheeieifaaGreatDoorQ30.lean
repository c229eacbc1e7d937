/-
  The law on ParseGuard: its walk.
-/
import Derived.Test.YtidbokheeieifaaGreatDoorQ29
namespace Go.Proofs.YtidbokheeieifaaGreatDoor
open Go.RowKit

theorem parT_c (L : List UInt8) : cT ((parT L).getD zT) ≤ 60 := by
  by_cases h : L.length ≤ 600 ∧ ∃ t, ValidT t ∧ textL t = L
  · obtain ⟨h1, t, h2, h3⟩ := h
    rw [parT_some ⟨h2, h3, h1⟩]
    exact h2.1
  · unfold parT
    rw [dif_neg h]
    show cT zT ≤ 60
    rw [cT_node]; simp [cS]
theorem parG_c (s : ByteArray) : cT ((parG s).getD zG).l + cT ((parG s).getD zG).r ≤ 120 := by
  have hz : cT zG.l + cT zG.r ≤ 120 := by
    show cT zT + cT zT ≤ 120
    rw [cT_node]; simp [cS]
  have ht : ∀ k g, tryG s k = some g → cT g.l + cT g.r ≤ 120 := fun k g e => by
    have h1 := parT_c (cutA s (signB k)).data.toList
    have h2 := parT_c (cutZ s (signB k)).data.toList
    unfold tryG at e
    cases e1 : parT (cutA s (signB k)).data.toList with
    | none => rw [e1] at e; cases e
    | some l =>
      cases e2 : parT (cutZ s (signB k)).data.toList with
      | none => rw [e1, e2] at e; cases e
      | some r =>
        rw [e1, e2] at e
        rw [e1] at h1
        rw [e2] at h2
        simp only [Option.getD_some] at h1 h2
        cases e
        simp only
        omega
  unfold parG
  cases h1 : tryG s 1 with
  | some g => exact ht 1 g h1
  | none =>
    cases h2 : tryG s 2 with
    | some g => exact ht 2 g h2
    | none =>
      cases h3 : tryG s 3 with
      | some g => exact ht 3 g h3
      | none => exact hz

set_option maxRecDepth 100000 in
set_option maxHeartbeats 3200000 in
theorem exParG_any (x0 : ByteArray) (w : World) (hx0 : x0.size ≤ maxLen) (htb : TabsAt w) (hmx : MaxOkG w) :
    Calls Tryz.prog 4 #[.string x0] w (TrueI w) := by
  have hb0 : Below w.heap.size w w := Below.refl _ _
  have HB_0 := Lib.hid hb0
  have hzb := hb0.size
  clear hb0 
  have hx02 : x0.size ≤ 9223372036854775807 := by unfold maxLen at hx0; omega
  clear hx0
  by_cases hs0 : 1048576 < x0.size
  · go_enter Tryz.func4, Tryz.ntmps4
    go_wp2
    go_ret
    exact ⟨rfl, HB_0.out⟩
  have HN0 : Hid (x0.size ≤ 1048576) := Lib.hid (by omega)
  have hnn0 : x0.size ≤ 1048576 := by omega
  go_enter Tryz.func4, Tryz.ntmps4
  obtain ⟨ok, hok⟩ : ∃ o, o = (parG x0).isSome := ⟨_, rfl⟩
  obtain ⟨r0, hr0⟩ : ∃ r, r = (parG x0).getD zG := ⟨_, rfl⟩
  have HSP : Hid (∀ (w : World), Calls Tryz.prog 9 #[.string x0] w (ResG ok r0 w)) := Lib.hid (fun w => by
    rw [hok, hr0]; exact sParG_any x0 w hnn0)
  have HIM : Hid (∀ (w1 : World), Below w.heap.size w w1 → Calls Tryz.prog 8 #[.string x0] w1 (ResG ok r0 w1)) := Lib.hid (fun w1 hb => by
    rw [hok, hr0]
    obtain ⟨m, hm⟩ := hmx
    exact iParG_any x0 w1 hnn0 (htb.below hb htb.low) ⟨m, by rw [hb.cell (World.block_lt_of_cell? w _ hm)]; exact hm⟩)
  have HRW : Hid (cT r0.l + cT r0.r ≤ 4398046511104) := Lib.hid (by rw [hr0]; have := parG_c x0; omega)
  clear hok hr0 htb hmx
  go_wp2_with fail
  refine (HSP.out  _ ).mono ?_
  rintro e wm ⟨Hw, kw, nw, sw, aaw, mmw, ccw, xsw, ktw, ntw, stw, atw, mtw, ctw, ysw, rfl, ew, etw, hsw, ⟨haw, hatw⟩, how, hb⟩
  have hmmw := True.intro
  have hmtw := True.intro
  have HCw : Hid (1 + 3 * cS xsw + 3 * cS ysw ≤ 1152921504606846976) := Lib.hid (by have h1 := HRW.out; rw [ew, etw, cT_node, cT_node] at h1; omega)
  have HB_1 := Lib.hid (HB_0.out.trans (hb.mono HB_0.out.size))
  have hz0 := hb.size
  clear hb HB_0 
  obtain ⟨W2, hW2⟩ : ∃ W2, W2 = gboxed wm r0.kd kw nw sw (.slice aaw mmw ccw) ktw ntw stw (.slice atw mtw ctw) := ⟨_, rfl⟩
  have hbb : Below wm.heap.size wm W2 := by rw [hW2]; exact gboxed_below _ _ _ _ _ _ _ _ _ _
  have hzz2 : W2.heap.size = wm.heap.size + 1 := by rw [hW2]; simp
  have hto := gbox_of hsw haw hatw how hW2
  have HB_2 := Lib.hid (HB_1.out.trans (hbb.mono HB_1.out.size))
  have hz1 := hbb.size
  clear hbb HB_1 
  have HOw_2 := Lib.hid (hto.kept (by omega))
  have HEw : Hid (r0 = ⟨r0.kd, .node kw nw sw xsw, .node ktw ntw stw ysw⟩) := Lib.hid (gd_eq ew etw)
  clear hto hsw haw hatw how ew etw hmmw hmtw
  unfold gboxed at hW2
  clear HSP
  go_wp2_with fail
  rw [← hW2]
  clear hW2
  refine (HIM.out  _  HB_2.out).mono ?_
  rintro e wg ⟨Hg, kg, ng, sg, aag, mmg, ccg, xsg, ktg, ntg, stg, atg, mtg, ctg, ysg, rfl, eg, etg, hsg, ⟨hag, hatg⟩, hog, hb⟩
  have hmmg := True.intro
  have hmtg := True.intro
  have HCg : Hid (1 + 3 * cS xsg + 3 * cS ysg ≤ 1152921504606846976) := Lib.hid (by have h1 := HRW.out; rw [eg, etg, cT_node, cT_node] at h1; omega)
  have HOw_3 := Lib.hid (HOw_2.out.below hb)
  have HB_3 := Lib.hid (HB_2.out.trans (hb.mono HB_2.out.size))
  have hz2 := hb.size
  clear hb HB_2 HOw_2
  obtain ⟨W4, hW4⟩ : ∃ W4, W4 = gboxed wg r0.kd kg ng sg (.slice aag mmg ccg) ktg ntg stg (.slice atg mtg ctg) := ⟨_, rfl⟩
  have hbb : Below wg.heap.size wg W4 := by rw [hW4]; exact gboxed_below _ _ _ _ _ _ _ _ _ _
  have hzz4 : W4.heap.size = wg.heap.size + 1 := by rw [hW4]; simp
  have hto := gbox_of hsg hag hatg hog hW4
  have HOw_4 := Lib.hid (HOw_3.out.below hbb)
  have HB_4 := Lib.hid (HB_3.out.trans (hbb.mono HB_3.out.size))
  have hz3 := hbb.size
  clear hbb HB_3 HOw_3
  have HOg_4 := Lib.hid (hto.kept (by omega))
  have HEg : Hid (r0 = ⟨r0.kd, .node kg ng sg xsg, .node ktg ntg stg ysg⟩) := Lib.hid (gd_eq eg etg)
  clear hto hsg hag hatg hog eg etg hmmg hmtg
  unfold gboxed at hW4
  have hokk : (ok != ok) = false := by simp
  obtain ⟨y0, y1, y2, y3, y4, y5, y6, y7, y8⟩ := cells_of9 HOg_4.out.now.1.1
  obtain ⟨z0, z1, z2, z3, z4, z5, z6, z7, z8⟩ := cells_of9 HOw_4.out.now.1.1
  rw [hW4] at y0 y1 y2 y3 y4 y5 y6 y7 y8 z0 z1 z2 z3 z4 z5 z6 z7 z8
  go_wp2_with fail
  rw [← hW4] at y0 y1 y2 y3 y4 y5 y6 y7 y8 z0 z1 z2 z3 z4 z5 z6 z7 z8 ⊢
  clear hW4
  refine (eqG_two _ _ r0 _ _ _ _ _ (by have h := HOg_4.out.now.1.2; rw [← HEg.out] at h; exact h) (by have h := HOw_4.out.now.1.2; rw [← HEw.out] at h; exact h)).mono ?_
  rintro e wa ⟨rfl, hb⟩
  clear y0 y1 y2 y3 y4 y5 y6 y7 y8 z0 z1 z2 z3 z4 z5 z6 z7 z8
  have HOw_5 := Lib.hid (HOw_4.out.below hb)
  have HOg_5 := Lib.hid (HOg_4.out.below hb)
  have HB_5 := Lib.hid (HB_4.out.trans (hb.mono HB_4.out.size))
  have hz4 := hb.size
  clear hb HB_4 HOw_4 HOg_4
  obtain ⟨g0, g1, g2, g3, g4, g5, g6, g7, g8⟩ := cells_of9 HOg_5.out.now.1.1
  go_wp2_with fail
  refine (markG_any r0.kd kg ng sg _ ktg ntg stg _ xsg ysg Hg W2.heap.size wg.heap.size 1 _ HOg_5.out.now.2 (by omega) (by omega) (by have := HCg.out; omega)).mono ?_
  rintro e wgm ⟨⟨rfl, ho⟩, ha, ha'⟩
  clear g0 g1 g2 g3 g4 g5 g6 g7 g8
  have hrow : wgm.heap[wg.heap.size]? = some (grow 28 r0.kd kg ng sg (.slice aag mmg ccg) ktg ntg stg (.slice atg mtg ctg)) := (ho.2.2.2.2 _ (by omega) (Or.inr (Nat.le_refl _))).trans HOg_5.out.now.1.1
  clear HOg_5
  have HOw_6 := Lib.hid (HOw_5.out.out ho (by omega))
  have HB_6 := Lib.hid (HB_5.out.trans ((ho.under (B := w.heap.size) (by omega) (by omega))))
  have hz5 := ho.2.2.2.1
  clear HB_5 HOw_5
  clear ho
  have HGM_6 := Lib.hid ((show Kept 0 wgm.heap.size (fun w' => w'.heap[wg.heap.size]? = some (grow 28 r0.kd kg ng sg (.slice aag mmg ccg) ktg ntg stg (.slice atg mtg ctg)) ∧ ArgsAt w' 0 Hg (.slice aag mmg ccg) (mkS 1 xsg) ∧ ArgsAt w' 0 Hg (.slice atg mtg ctg) (mkS (1 + 3 * cS xsg) ysg)) wgm from ⟨Nat.le_refl _, fun w' hs => ⟨(hs _ (Nat.zero_le _) (Array.getElem?_eq_some_iff.1 hrow).1).trans hrow, (ha.args (fun _ _ => Nat.zero_le _)).same hs, (ha'.args (fun _ _ => Nat.zero_le _)).same hs⟩⟩))
  clear ha ha' hrow
  obtain ⟨g0, g1, g2, g3, g4, g5, g6, g7, g8⟩ := cells_of9 HGM_6.out.now.1
  go_wp2_with fail
  refine (heldG_any r0.kd kg ng sg _ ktg ntg stg _ xsg ysg 0 Hg 1 _ HGM_6.out.now.2.1 HGM_6.out.now.2.2 (by omega) (by have := HCg.out; omega)).mono ?_
  rintro e wh1 ⟨rfl, hb⟩
  clear g0 g1 g2 g3 g4 g5 g6 g7 g8
  have HOw_7 := Lib.hid (HOw_6.out.below hb)
  have HGM_7 := Lib.hid (HGM_6.out.below hb)
  have HB_7 := Lib.hid (HB_6.out.trans (hb.mono HB_6.out.size))
  have hz6 := hb.size
  clear hb HB_6 HOw_6 HGM_6
  have hpos2 : ¬ ((1 + 3 * cS xsg + 3 * cS ysg : Nat) : Int) < 0 := by omega
  have heq2 : (((1 + 3 * cS xsg + 3 * cS ysg : Nat) : Int) != ((1 + 3 * cS xsg + 3 * cS ysg : Nat) : Int)) = false := by simp
  go_wp2_with fail
  refine (HIM.out  _  HB_7.out).mono ?_
  rintro e wh2 ⟨Hh, kh, nh, sh, aah, mmh, cch, xsh, kth, nth, sth, ath, mth, cth, ysh, rfl, eh, eth, hsh, ⟨hah, hath⟩, hoh, hb⟩
  have hmmh := True.intro
  have hmth := True.intro
  have HCh : Hid (1 + 3 * cS xsh + 3 * cS ysh ≤ 1152921504606846976) := Lib.hid (by have h1 := HRW.out; rw [eh, eth, cT_node, cT_node] at h1; omega)
  have HOw_8 := Lib.hid (HOw_7.out.below hb)
  have HGM_8 := Lib.hid (HGM_7.out.below hb)
  have HB_8 := Lib.hid (HB_7.out.trans (hb.mono HB_7.out.size))
  have hz7 := hb.size
  clear hb HB_7 HOw_7 HGM_7
  obtain ⟨W9, hW9⟩ : ∃ W9, W9 = gboxed wh2 r0.kd kh nh sh (.slice aah mmh cch) kth nth sth (.slice ath mth cth) := ⟨_, rfl⟩
  have hbb : Below wh2.heap.size wh2 W9 := by rw [hW9]; exact gboxed_below _ _ _ _ _ _ _ _ _ _
  have hzz9 : W9.heap.size = wh2.heap.size + 1 := by rw [hW9]; simp
  have hto := gbox_of hsh hah hath hoh hW9
  have HOw_9 := Lib.hid (HOw_8.out.below hbb)
  have HGM_9 := Lib.hid (HGM_8.out.below hbb)
  have HB_9 := Lib.hid (HB_8.out.trans (hbb.mono HB_8.out.size))
  have hz8 := hbb.size
  clear hbb HB_8 HOw_8 HGM_8
  have HOh_9 := Lib.hid (hto.kept (by omega))
  have HEh : Hid (r0 = ⟨r0.kd, .node kh nh sh xsh, .node kth nth sth ysh⟩) := Lib.hid (gd_eq eh eth)
  clear hto hsh hah hath hoh eh eth hmmh hmth
  unfold gboxed at hW9
  obtain ⟨y0, y1, y2, y3, y4, y5, y6, y7, y8⟩ := cells_of9 HOh_9.out.now.1.1
  obtain ⟨z0, z1, z2, z3, z4, z5, z6, z7, z8⟩ := cells_of9 HOw_9.out.now.1.1
  rw [hW9] at y0 y1 y2 y3 y4 y5 y6 y7 y8 z0 z1 z2 z3 z4 z5 z6 z7 z8
  go_wp2_with fail
  rw [← hW9] at y0 y1 y2 y3 y4 y5 y6 y7 y8 z0 z1 z2 z3 z4 z5 z6 z7 z8 ⊢
  clear hW9
  refine (eqG_two _ _ r0 _ _ _ _ _ (by have h := HOh_9.out.now.1.2; rw [← HEh.out] at h; exact h) (by have h := HOw_9.out.now.1.2; rw [← HEw.out] at h; exact h)).mono ?_
  rintro e wh3 ⟨rfl, hb⟩
  clear y0 y1 y2 y3 y4 y5 y6 y7 y8 z0 z1 z2 z3 z4 z5 z6 z7 z8
  have HOw_10 := Lib.hid (HOw_9.out.below hb)
  have HGM_10 := Lib.hid (HGM_9.out.below hb)
  have HOh_10 := Lib.hid (HOh_9.out.below hb)
  have HB_10 := Lib.hid (HB_9.out.trans (hb.mono HB_9.out.size))
  have hz9 := hb.size
  clear hb HB_9 HOw_9 HGM_9 HOh_9
  clear HOh_10
  clear HOw_10
  obtain ⟨g0, g1, g2, g3, g4, g5, g6, g7, g8⟩ := cells_of9 HGM_10.out.now.1
  go_wp2_with fail
  refine (heldG_any r0.kd kg ng sg _ ktg ntg stg _ xsg ysg 0 Hg 1 _ HGM_10.out.now.2.1 HGM_10.out.now.2.2 (by omega) (by have := HCg.out; omega)).mono ?_
  rintro e wh4 ⟨rfl, hb⟩
  clear g0 g1 g2 g3 g4 g5 g6 g7 g8
  have HGM_11 := Lib.hid (HGM_10.out.below hb)
  have HB_11 := Lib.hid (HB_10.out.trans (hb.mono HB_10.out.size))
  have hz10 := hb.size
  clear hb HB_10 HGM_10
  go_wp2
  go_ret
  exact ⟨rfl, HB_11.out⟩
end Go.Proofs.YtidbokheeieifaaGreatDoor
