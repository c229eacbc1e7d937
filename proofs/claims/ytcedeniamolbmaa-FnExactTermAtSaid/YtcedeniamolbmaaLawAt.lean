/-
  The law on TermAt answers true at every term and list of integers.
-/
import Derived.Test.YtcedeniamolbmaaLawGen
import Derived.Test.YtcedeniamolbmaaAtI
namespace Go.Proofs.Ytcedeniamolbmaa
open Go.RowKit

set_option maxRecDepth 100000 in
set_option maxHeartbeats 3200000 in
theorem exAt_any (v p : Value) (t : T) (ps : List Int) (h : Nat) (w : World) (ht : TermAt w 0 h v t) (hpl : ps.length ≤ maxLen) (hp : IntsAt w p ps) :
    Calls Try.prog 4 #[v, p] w (TrueI w) := by
  obtain ⟨k0, n0, s0, u0, rfl⟩ := ht.form
  obtain ⟨pa, pc, rfl⟩ := hp.slice
  obtain ⟨n, hn⟩ : ∃ n, n = ps.length := ⟨_, rfl⟩
  rw [← hn] at hp ⊢
  have hn2 : n ≤ 9223372036854775807 := by rw [hn]; unfold maxLen at hpl; omega
  clear hpl
  have HN := Lib.hid hn; clear hn
  have HB0 := Lib.hid (boxedL_below w k0 n0 s0 u0)
  have HQ : Hid (∀ w', Below (boxedL w k0 n0 s0 u0).heap.size (boxedL w k0 n0 s0 u0) w' → TermAt w' 0 h (tv k0 n0 s0 u0) t) := Lib.hid (fun w' hb => (ht.below HB0.out).below hb)
  have HQP : Hid (∀ w', Below (boxedL w k0 n0 s0 u0).heap.size (boxedL w k0 n0 s0 u0) w' → IntsAt w' (.slice pa n pc) ps) := Lib.hid (fun w' hb => (hp.below HB0.out).below hb)
  clear ht hp
  by_cases hs : 1048576 < n
  · go_enter Try.func4, Try.ntmps4
    go_wp2
    go_ret
    exact ⟨rfl, HB0.out⟩
  have hnn : n ≤ 1048576 := by omega
  have HNL : Hid (ps.length ≤ 1048576) := Lib.hid (by have := HN.out; omega)
  go_enter Try.func4, Try.ntmps4
  go_wp2_with fail
  refine (szT_any _ t 0 h 1048576 _ (HQ.out _ (Below.refl _ _)) (by omega) (by omega)).mono ?_
  rintro e w1 ⟨r, rfl, hb1, hr1, hr2⟩
  have HB1 := Lib.hid hb1; clear hb1
  have HR := Lib.hid hr2; clear hr2
  by_cases hr : r < 0
  · go_wp2
    go_ret
    exact ⟨rfl, HB0.out.trans (HB1.out.mono HB0.out.size)⟩
  have HW : Hid (wT t ≤ 1048576) := Lib.hid (by have := HR.out (by omega); omega)
  obtain ⟨ok, hok⟩ : ∃ ok, ok = (subT ps t).isSome := ⟨_, rfl⟩
  obtain ⟨r0, hr0⟩ : ∃ r0, r0 = (subT ps t).getD zT := ⟨_, rfl⟩
  have HSP : Hid (∀ (v p : Value) (lo h : Nat) (w : World), TermAt w lo h v t → IntsAt w p ps → Calls Try.prog 15 #[v, p] w (ResT ok r0 w)) := Lib.hid (fun v p lo h w h1 h2 => by
    rw [hok, hr0]; exact sAt_any v p t ps lo h w h1 h2 HW.out (by have := HNL.out; omega))
  have HIM : Hid (∀ (v p : Value) (lo h : Nat) (w : World), TermAt w lo h v t → IntsAt w p ps → Calls Try.prog 13 #[v, p] w (ResO ok r0 w)) := Lib.hid (fun v p lo h w h1 h2 => by
    rw [hok, hr0]; exact iAt_any v p t ps lo h w h1 h2 (by have := HW.out; omega) (by have := HNL.out; omega))
  have HRW : Hid (wT r0 ≤ 1048576) := Lib.hid (by
    rw [hr0]
    cases e : subT ps t with
    | none => show wT zT ≤ _; rw [wT_node]; simp [wS]
    | some x => exact Nat.le_trans (subT_w _ _ _ e) HW.out)
  have hokk : (ok != ok) = false := by simp
  clear hok hr0
  obtain ⟨c0, c1, c2, c3⟩ := boxedL_cells HB1.out
  go_wp2_with fail
  refine (toT_any _ t 0 h _ (HQ.out _ HB1.out) HW.out).mono ?_
  rintro e w2 ⟨v1, rfl, ht2, hb2⟩
  have HV1 := Lib.hid ht2; clear ht2
  have HB2 := Lib.hid (HB1.out.trans (hb2.mono HB1.out.size)); clear hb2 c0 c1 c2 c3
  go_wp2_with fail
  refine (toInts_any _ ps _ HNL.out (HQP.out _ HB2.out)).mono ?_
  rintro e w3 ⟨p1, rfl, o3, hb3⟩
  have HP1 := Lib.hid (IntsAt.of_owns o3); clear o3
  have HV1b := Lib.hid (HV1.out.below hb3)
  have HB3 := Lib.hid (HB2.out.trans (hb3.mono HB2.out.size)); clear hb3
  go_wp2_with fail
  refine (HSP.out v1 p1 _ h _ HV1b.out HP1.out).mono ?_
  rintro e w4 ⟨kw, nw, sw, aw, mw, cw, hw, rfl, ht4, hb4⟩
  have HB4 := Lib.hid (HB3.out.trans (hb4.mono HB3.out.size)); clear hb4
  -- the model's answer lies in a box
  obtain ⟨W4, hW4⟩ : ∃ W4, W4 = boxed w4 kw nw sw (.slice aw mw cw) := ⟨_, rfl⟩
  have hb4 : Below w4.heap.size w4 W4 := by rw [hW4]; exact boxed_below _ _ _ _ _
  have HTW := Lib.hid (ht4.below hb4); clear ht4
  have HCW : Hid (∀ w', Below W4.heap.size W4 w' → w'.cell? ⟨w4.heap.size, 0, none⟩ = some (.int .i64 kw) ∧ w'.cell? ⟨w4.heap.size, 1, none⟩ = some (.int .i64 nw) ∧ w'.cell? ⟨w4.heap.size, 2, none⟩ = some (.string sw) ∧ w'.cell? ⟨w4.heap.size, 3, none⟩ = some (.slice aw mw cw)) :=
    Lib.hid (fun w' hb => by rw [hW4] at hb; exact boxed_cells hb)
  have HBW := Lib.hid (HB4.out.trans (hb4.mono HB4.out.size)); clear hb4
  have HBU : Hid (∀ w', Below W4.heap.size W4 w' → Below (boxedL w k0 n0 s0 u0).heap.size (boxedL w k0 n0 s0 u0) w') := Lib.hid (fun w' hb => HBW.out.trans (hb.mono HBW.out.size))
  clear HSP HV1 HV1b HP1 HB1 HB2 HB3 HB4
  obtain ⟨c0, c1, c2, c3⟩ := boxedL_cells HBW.out
  unfold boxed at hW4
  rw [hW4] at c0 c1 c2 c3
  go_wp2_with fail
  rw [← hW4] at c0 c1 c2 c3 ⊢
  clear hW4
  refine (toT_own _ t 0 h _ (HQ.out _ HBW.out) HW.out).mono ?_
  rintro e w5 ⟨kx, nx, sx, ux, xsx, rfl, etx, hsx, ⟨hax, hox⟩, hb5⟩
  obtain ⟨ax, cx, rfl⟩ := hax.slice
  obtain ⟨mx, hmx⟩ : ∃ mx, mx = xsx.length := ⟨_, rfl⟩
  rw [← hmx] at hax hox ⊢
  have htx : TermAt w5 W4.heap.size h (tv kx nx sx (.slice ax mx cx)) t := ⟨_, _, _, _, xsx, rfl, etx, hsx, hax⟩
  have HCX : Hid (1 + 3 * cS xsx ≤ 4194304) := Lib.hid (by have hw := HW.out; rw [etx, wT_node] at hw; have := cS_le xsx; omega)
  clear hax hsx etx hmx c0 c1 c2 c3
  obtain ⟨W5, hW5⟩ : ∃ W5, W5 = boxed w5 kx nx sx (.slice ax mx cx) := ⟨_, rfl⟩
  have hb5b : Below w5.heap.size w5 W5 := by rw [hW5]; exact boxed_below _ _ _ _ _
  have hz5 : W5.heap.size = w5.heap.size + 1 := by rw [hW5]; simp
  have HTX := Lib.hid (htx.below hb5b); clear htx
  have HOX : Hid (OwnA W5 h W4.heap.size w5.heap.size (.slice ax mx cx) xsx) := Lib.hid (hox.keep fun b _ b2 => hb5b.block b b2); clear hox
  have HXC : Hid (∀ w', Below W5.heap.size W5 w' → w'.cell? ⟨w5.heap.size, 0, none⟩ = some (.int .i64 kx) ∧ w'.cell? ⟨w5.heap.size, 1, none⟩ = some (.int .i64 nx) ∧ w'.cell? ⟨w5.heap.size, 2, none⟩ = some (.string sx) ∧ w'.cell? ⟨w5.heap.size, 3, none⟩ = some (.slice ax mx cx)) :=
    Lib.hid (fun w' hb => by rw [hW5] at hb; exact boxed_cells hb)
  have HW5 := Lib.hid (bel_two hb5 hb5b)
  have hs45 := hb5.size
  clear hb5 hb5b
  unfold boxed at hW5
  go_wp2_with fail
  rw [← hW5]
  clear hW5
  refine (toInts_any _ ps _ HNL.out (HQP.out _ (HBU.out _ HW5.out))).mono ?_
  rintro e w6 ⟨x1, rfl, o6, hb6⟩
  have HX1 := Lib.hid o6; clear o6
  have HX6 := Lib.hid hb6
  have HW6 := Lib.hid (bel_two HW5.out hb6)
  have hs56 := hb6.size
  clear hb6
  obtain ⟨p0, p1, p2, p3⟩ := HXC.out _ HX6.out
  go_wp2_with fail
  refine (HIM.out _ x1 _ h _ (HTX.out.below HX6.out) (IntsAt.of_owns HX1.out)).mono ?_
  rintro e w7 ⟨kg, ng, sg, ag, mg, cg, hg, xg, rfl, eg, hsg, hog, hb7⟩
  have HX7 := Lib.hid (bel_two HX6.out hb7)
  have HW7 := Lib.hid (bel_two HW6.out hb7)
  have HX1b := Lib.hid (keep_own HX1.out hb7)
  have hs67 := hb7.size
  have HXL : Hid (∀ k, x1.ownBlock = some k → W5.heap.size ≤ k ∧ k < w6.heap.size) := Lib.hid (fun k hk => HX1.out.lt k hk)
  clear hb7 p0 p1 p2 p3
  have HCG : Hid (1 + 3 * cS xg ≤ 4194304) := Lib.hid (by have hw := HRW.out; rw [eg, wT_node] at hw; have := cS_le xg; omega)
  obtain ⟨W7, hW7⟩ : ∃ W7, W7 = boxed w7 kg ng sg (.slice ag mg cg) := ⟨_, rfl⟩
  have hb7b : Below w7.heap.size w7 W7 := by rw [hW7]; exact boxed_below _ _ _ _ _
  have hz7 : W7.heap.size = w7.heap.size + 1 := by rw [hW7]; simp
  have hrow7 : W7.heap[w7.heap.size]? = some (trow kg ng sg (.slice ag mg cg)) := by rw [hW7]; exact heap_new _ _ rfl
  have hog7 : OwnR (fun _ => True) W7 hg w6.heap.size w7.heap.size (.slice ag mg cg) xg := hog.keep fun b _ _ b2 => ⟨hb7b.block b b2, trivial⟩
  have HGS : Hid (∀ w', Same w6.heap.size (w7.heap.size + 1) W7 w' → w'.heap[w7.heap.size]? = some (trow kg ng sg (.slice ag mg cg)) ∧ OwnR (fun _ => True) w' hg w6.heap.size w7.heap.size (.slice ag mg cg) xg ∧ TermAt w' w6.heap.size hg (tv kg ng sg (.slice ag mg cg)) r0) :=
    Lib.hid (fun w' hs => by rw [eg]; exact same_term hs hog7 (Nat.le_succ _) hrow7 hs67 hsg)
  have HX7b := Lib.hid (bel_two HX7.out hb7b)
  have HW7b := Lib.hid (bel_two HW7.out hb7b)
  have HX1c := Lib.hid (keep_own HX1b.out hb7b)
  have HSM7 : Hid (Same w6.heap.size (w7.heap.size + 1) W7 W7) := Lib.hid (fun _ _ _ => rfl)
  clear hog hb7b hog7 hrow7 HX1b HX7 HW7
  -- the answers agree
  obtain ⟨q0, q1, q2, q3⟩ := HCW.out _ HW7b.out
  unfold boxed at hW7
  rw [hW7] at q0 q1 q2 q3
  go_wp2_with fail
  rw [← hW7] at q0 q1 q2 q3 ⊢
  clear hW7
  refine (eqT_two _ _ r0 _ _ _ _ _ (HGS.out _ HSM7.out).2.2 (HTW.out.below HW7b.out)).mono ?_
  rintro e w8 ⟨rfl, hb8⟩
  have HX8 := Lib.hid (bel_two HX7b.out hb8)
  have HW8 := Lib.hid (bel_two HW7b.out hb8)
  have HX1d := Lib.hid (keep_own HX1c.out hb8)
  have HSM8 := Lib.hid (HSM7.out.below hb8 (by omega))
  have hs78 := hb8.size
  clear hb8 q0 q1 q2 q3 HX7b HW7b HX1c HSM7
  -- the first argument is as it was
  have h8 : ∀ w', Below w8.heap.size w8 w' → (w'.cell? ⟨w5.heap.size, 0, none⟩ = some (.int .i64 kx) ∧ w'.cell? ⟨w5.heap.size, 1, none⟩ = some (.int .i64 nx) ∧ w'.cell? ⟨w5.heap.size, 2, none⟩ = some (.string sx) ∧ w'.cell? ⟨w5.heap.size, 3, none⟩ = some (.slice ax mx cx) ∧
      w'.cell? ⟨w.heap.size, 0, none⟩ = some (.int .i64 k0) ∧ w'.cell? ⟨w.heap.size, 1, none⟩ = some (.int .i64 n0) ∧ w'.cell? ⟨w.heap.size, 2, none⟩ = some (.string s0) ∧ w'.cell? ⟨w.heap.size, 3, none⟩ = some u0 ∧ Below w8.heap.size w8 w') := by
    intro w' hb
    obtain ⟨p0, p1, p2, p3⟩ := HXC.out _ (bel_two HX8.out hb)
    obtain ⟨b0, b1, b2, b3⟩ := boxedL_cells (HBU.out _ (bel_two HW8.out hb))
    exact ⟨p0, p1, p2, p3, b0, b1, b2, b3, hb⟩
  have HK := Lib.hid h8; clear h8
  obtain ⟨p0, p1, p2, p3, b0, b1, b2, b3, hb0⟩ := HK.out _ (Below.refl _ _)
  have HT5 : Hid (∀ w', Below w8.heap.size w8 w' → TermAt w' 0 h (tv k0 n0 s0 u0) t) := Lib.hid (fun w' hb => HQ.out _ (HBU.out _ (bel_two HW8.out hb)))
  have HX6b : Hid (∀ w', Below w8.heap.size w8 w' → TermAt w' W4.heap.size h (tv kx nx sx (.slice ax mx cx)) t) := Lib.hid (fun w' hb => HTX.out.below (bel_two HX8.out hb))
  go_wp2
  go_region_held3 (fun w' => w'.cell? ⟨w5.heap.size, 0, none⟩ = some (.int .i64 kx) ∧ w'.cell? ⟨w5.heap.size, 1, none⟩ = some (.int .i64 nx) ∧ w'.cell? ⟨w5.heap.size, 2, none⟩ = some (.string sx) ∧ w'.cell? ⟨w5.heap.size, 3, none⟩ = some (.slice ax mx cx) ∧
      w'.cell? ⟨w.heap.size, 0, none⟩ = some (.int .i64 k0) ∧ w'.cell? ⟨w.heap.size, 1, none⟩ = some (.int .i64 n0) ∧ w'.cell? ⟨w.heap.size, 2, none⟩ = some (.string s0) ∧ w'.cell? ⟨w.heap.size, 3, none⟩ = some u0 ∧ Below w8.heap.size w8 w')
    (first | exact HK.out _ (by assumption) | exact HK.out _ (bel_drew (by assumption)) | exact HK.out _ (Below.drew (by assumption)) | exact HK.out _ (bel_two (bel_drew (by assumption)) (by assumption)) | go_keep)
    (first
      | (go_at_call 16; refine (toT_any _ t 0 h _ (HT5.out _ (by first | assumption | exact Below.drew (by assumption))) HW.out).mono ?_; rintro e w9 ⟨v3, rfl, ht9, hb9⟩)
      | (go_at_call 18; refine (eqT_any _ v3 t _ _ h _ (HX6b.out _ (by first | assumption | exact bel_drew (by assumption) | exact Below.drew (by assumption))) (by first | exact ht9 | exact ht9.below (Below.drew (Below.refl _ _)))).mono ?_; rintro e w10 ⟨rfl, hb10⟩))
  have hb810 : Below w8.heap.size w8 w10 := bel_two (bel_drew hb9) hb10
  clear HX6b HT5 HK p0 p1 p2 p3 b0 b1 b2 b3 hb0 hb9 hb10 ht9
  have HX10 := Lib.hid (bel_two HX8.out hb810)
  have HW10 := Lib.hid (bel_two HW8.out hb810)
  have HX1e := Lib.hid (keep_own HX1d.out hb810)
  have HSM10 := Lib.hid (HSM8.out.below hb810 (by omega))
  have hs810 := hb810.size
  clear hb810 HX8 HW8 HX1d HSM8
  -- the second argument is as it was
  go_wp2_with fail
  refine (toInts_any _ ps _ HNL.out (HQP.out _ (HBU.out _ HW10.out))).mono ?_
  rintro e w11 ⟨p11, rfl, o11, hb11⟩
  have HX11 := Lib.hid (bel_two HX10.out hb11)
  have HW11 := Lib.hid (bel_two HW10.out hb11)
  have HX1f := Lib.hid (keep_own HX1e.out hb11)
  have HSM11 := Lib.hid (HSM10.out.below hb11 (by omega))
  have HP11 := Lib.hid (IntsAt.of_owns o11)
  have hs1011 := hb11.size
  clear hb11 o11 HX10 HW10 HX1e HSM10
  go_wp2_with fail
  refine (eqInts_any x1 p11 ps _ (by have := HNL.out; omega) (IntsAt.of_owns HX1f.out) HP11.out).mono ?_
  rintro e w12 ⟨rfl, hb12⟩
  have HX12 := Lib.hid (bel_two HX11.out hb12)
  have HW12 := Lib.hid (bel_two HW11.out hb12)
  have HX1g := Lib.hid (keep_own HX1f.out hb12)
  have HSM12 := Lib.hid (HSM11.out.below hb12 (by omega))
  have hs1112 := hb12.size
  clear hb12 HX11 HW11 HX1f HSM11 HP11
  -- the arguments are marked
  obtain ⟨p0, p1, p2, p3⟩ := HXC.out _ HX12.out
  go_wp2_with fail
  refine (markPT_any kx nx sx _ xsx h W4.heap.size w5.heap.size 1 _ (HOX.out.keep fun b _ b2 => HX12.out.block b (by omega)) (by omega) (by omega) (by have := HCX.out; omega)).mono ?_
  rintro e w13 ⟨⟨rfl, ho13⟩, _⟩
  have HW13 := Lib.hid (HW12.out.trans (ho13.under (B := W4.heap.size) (Nat.le_refl _) HW12.out.size))
  have HX1h := Lib.hid (ho13.own HX1g.out (fun k hk => Or.inr (by have := HXL.out k hk; omega)))
  have HSM13 := Lib.hid (HSM12.out.out ho13 (by omega) (Or.inr (by omega)))
  have hs1213 := ho13.2.2.2.1
  clear ho13 p0 p1 p2 p3 HX12 HX1g HSM12 HW12
  go_wp2_with fail
  refine (markInts_any _ ps.length (1 + 3 * cS xsx) x1 _ _ (by have := HCX.out; have := HNL.out; omega) HX1h.out).mono ?_
  rintro e w14 ⟨rfl, ho14, hg14⟩
  have HW14 := Lib.hid (HW13.out.grown hg14 HW13.out.size (fun k hk => by have := HXL.out k hk; omega))
  have HSM14 := Lib.hid (HSM13.out.grown hg14 (by omega) (fun k hk => Or.inl (HXL.out k hk).2))
  have hs1314 := hg14.size
  clear ho14 hg14 HX1h HSM13 HW13
  have hpos : ¬ ((1 + 3 * cS xsx : Nat) : Int) + (ps.length : Int) < 0 := by omega
  obtain ⟨g0, g1, g2, g3⟩ := (cells_of4 (HGS.out _ HSM14.out).1).1
  obtain ⟨q0, q1, q2, q3⟩ := HCW.out _ HW14.out
  go_wp2_with fail
  refine (eqT_two _ _ r0 _ _ _ _ _ (HGS.out _ HSM14.out).2.2 (HTW.out.below HW14.out)).mono ?_
  rintro e w15 ⟨rfl, hb15⟩
  have HW15 := Lib.hid (bel_two HW14.out hb15)
  have HSM15 := Lib.hid (HSM14.out.below hb15 (by omega))
  have hs1415 := hb15.size
  clear hb15 q0 q1 q2 q3 g0 g1 g2 g3 HW14 HSM14
  -- the answer is marked
  obtain ⟨g0, g1, g2, g3⟩ := (cells_of4 (HGS.out _ HSM15.out).1).1
  go_wp2_with fail
  refine (markPT_any kg ng sg _ xg hg w6.heap.size w7.heap.size 1 _ (HGS.out _ HSM15.out).2.1.own (by omega) (by omega) (by have := HCG.out; omega)).mono ?_
  rintro e w16 ⟨⟨rfl, ho16⟩, ha16⟩
  have HW16 := Lib.hid (HW15.out.trans (ho16.under (B := W4.heap.size) (by omega) HW15.out.size))
  have hrow16 : w16.heap[w7.heap.size]? = some (trow kg ng sg (.slice ag mg cg)) := (ho16.2.2.2.2 _ (by omega) (Or.inr (Nat.le_refl _))).trans (HGS.out _ HSM15.out).1
  have hs1516 := ho16.2.2.2.1
  have HG16 : Hid (∀ w', Below w16.heap.size w16 w' → ArgsAt w' 0 hg (.slice ag mg cg) (mkS 1 xg) ∧ w'.heap[w7.heap.size]? = some (trow kg ng sg (.slice ag mg cg))) := Lib.hid (fun w' hb => ⟨(ha16.args (fun _ _ => Nat.zero_le _)).below hb, (hb.block _ (by omega)).trans hrow16⟩)
  clear ho16 ha16 hrow16 g0 g1 g2 g3 HSM15 HW15 HGS
  obtain ⟨g0, g1, g2, g3⟩ := (cells_of4 (HG16.out _ (Below.refl _ _)).2).1
  go_wp2_with fail
  refine (heldT_any kg ng sg _ xg 0 hg 1 _ (HG16.out _ (Below.refl _ _)).1 (by omega) (by have := HCG.out; omega)).mono ?_
  rintro e w17 ⟨rfl, hb17⟩
  have HG17 := Lib.hid hb17
  have HW17 := Lib.hid (bel_two HW16.out hb17)
  clear hb17 g0 g1 g2 g3 HW16
  have hpos2 : ¬ ((1 + 3 * cS xg : Nat) : Int) < 0 := by omega
  have heq2 : (((1 + 3 * cS xg : Nat) : Int) != ((1 + 3 * cS xg : Nat) : Int)) = false := by simp
  -- another call
  obtain ⟨c0, c1, c2, c3⟩ := boxedL_cells (HBU.out _ HW17.out)
  go_wp2_with fail
  refine (toT_any _ t 0 h _ (HQ.out _ (HBU.out _ HW17.out)) HW.out).mono ?_
  rintro e w18 ⟨v18, rfl, ht18, hb18⟩
  have HV18 := Lib.hid ht18
  have HG18 := Lib.hid (bel_two HG17.out hb18)
  have HW18 := Lib.hid (bel_two HW17.out hb18)
  clear ht18 hb18 c0 c1 c2 c3 HG17 HW17
  go_wp2_with fail
  refine (toInts_any _ ps _ HNL.out (HQP.out _ (HBU.out _ HW18.out))).mono ?_
  rintro e w19 ⟨p19, rfl, o19, hb19⟩
  have HV19 := Lib.hid (HV18.out.below hb19)
  have HP19 := Lib.hid (IntsAt.of_owns o19)
  have HG19 := Lib.hid (bel_two HG18.out hb19)
  have HW19 := Lib.hid (bel_two HW18.out hb19)
  clear o19 hb19 HV18 HG18 HW18
  go_wp2_with fail
  refine (HIM.out _ p19 _ h _ HV19.out HP19.out).mono ?_
  rintro e w20 ⟨kh, nh, sh, ah, mh, ch, hh, xh, rfl, eh, hsh, hoh, hb20⟩
  have hth : TermAt w20 w19.heap.size hh (tv kh nh sh (.slice ah mh ch)) r0 := ⟨_, _, _, _, xh, rfl, eh, hsh, hoh.args (Nat.le_refl _)⟩
  obtain ⟨W20, hW20⟩ : ∃ W20, W20 = boxed w20 kh nh sh (.slice ah mh ch) := ⟨_, rfl⟩
  have hb20b : Below w20.heap.size w20 W20 := by rw [hW20]; exact boxed_below _ _ _ _ _
  have HTH := Lib.hid (hth.below hb20b)
  have HG20 := Lib.hid (bel_two (bel_two HG19.out hb20) hb20b)
  have HW20 := Lib.hid (bel_two (bel_two HW19.out hb20) hb20b)
  clear hth hoh hsh eh hb20 hb20b HV19 HP19 HG19 HW19
  obtain ⟨q0, q1, q2, q3⟩ := HCW.out _ HW20.out
  unfold boxed at hW20
  rw [hW20] at q0 q1 q2 q3
  go_wp2_with fail
  rw [← hW20] at q0 q1 q2 q3 ⊢
  clear hW20
  refine (eqT_two _ _ r0 _ _ _ _ _ HTH.out (HTW.out.below HW20.out)).mono ?_
  rintro e w21 ⟨rfl, hb21⟩
  have HG21 := Lib.hid (bel_two HG20.out hb21)
  have HW21 := Lib.hid (bel_two HW20.out hb21)
  clear hb21 q0 q1 q2 q3 HG20 HW20
  obtain ⟨g0, g1, g2, g3⟩ := (cells_of4 (HG16.out _ HG21.out).2).1
  go_wp2_with fail
  refine (heldT_any kg ng sg _ xg 0 hg 1 _ (HG16.out _ HG21.out).1 (by omega) (by have := HCG.out; omega)).mono ?_
  rintro e w22 ⟨rfl, hb22⟩
  have HW22 := Lib.hid (bel_two HW21.out hb22)
  have HEND := Lib.hid (HB0.out.trans ((HBU.out _ HW22.out).mono HB0.out.size))
  clear hb22 g0 g1 g2 g3
  go_wp2
  go_ret
  exact ⟨rfl, HEND.out⟩
end Go.Proofs.Ytcedeniamolbmaa
