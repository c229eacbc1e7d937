/-
  The law on SortOf answers true at every signature, term and list of variables.
-/
import Derived.Test.YtidbokheeieifaaQ20
import Derived.Test.YtidbokheeieifaaQ22
import Derived.Test.YtidbokheeieifaaQ23
import Derived.Test.YtidbokheeieifaaQ16
import Derived.Test.YtidbokheeieifaaQ18
import Derived.Test.YtidbokheeieifaaQ3
import Derived.Test.YtidbokheeieifaaQ24
import Derived.Test.YtidbokheeieifaaQ17
namespace Go.Proofs.Ytidbokheeieifaa
open Go.RowKit

theorem SigAt.below2 {w w' : World} {x : Value} {ps : List ByteArray} {ds : List OpD} (h : SigAt w x ps ds) (hb : Below w.heap.size w w') : SigAt w' x ps ds := by
  obtain ⟨a, b, e, h1, h2⟩ := h
  exact ⟨a, b, e, h1.below hb, h2.below hb⟩
/-- The two cells of a signature's box, and the four of a term's. -/
def BoxSg (w : World) (b : Nat) (x y : Value) (t : TypeId) : Prop := w.heap[b]? = some (.cells #[x, y] t (0, 0))
theorem BoxSg.cells {w : World} {b : Nat} {x y : Value} {t : TypeId} (h : BoxSg w b x y t) : w.cell? ⟨b, 0, none⟩ = some x ∧ w.cell? ⟨b, 1, none⟩ = some y :=
  ⟨by rw [cell_of_row _ _ 0 _ _ _ h]; rfl, by rw [cell_of_row _ _ 1 _ _ _ h]; rfl⟩

set_option maxRecDepth 100000 in
set_option maxHeartbeats 6400000 in
theorem exSort_any (x v u : Value) (ps : List ByteArray) (ds : List OpD) (t : T) (h : Nat) (vs : List (ByteArray × ByteArray)) (w : World) (hp : StrsOk ps) (hd : OpsOk ds) (hv : SigAt w x ps ds) (ht : TermAt w 0 h v t) (hvs : VarsOk vs) (hu : VsAt w u vs) :
    Calls Try.prog 4 #[x, v, u] w (TrueB w) := by
  have HV := Lib.hid hv
  obtain ⟨s, q, rfl, hs, hq⟩ := hv
  obtain ⟨sa, sc, rfl⟩ := hs.slice
  obtain ⟨ta, tc, rfl⟩ := hq.slice
  have HT := Lib.hid ht
  obtain ⟨k, n, st, tu, xs, rfl, ht0, hst, hag⟩ := ht
  obtain ⟨ua, uc, rfl⟩ := hag.slice
  have HU := Lib.hid hu
  obtain ⟨va, vc, rfl⟩ := hu.slice
  clear hs hq ht0 hst hag hu
  have HP := Lib.hid hp
  have HD := Lib.hid hd
  have HVO := Lib.hid hvs
  clear hp hd hvs
  obtain ⟨m, hm⟩ : ∃ m, m = ps.length := ⟨_, rfl⟩
  obtain ⟨dn, hn⟩ : ∃ n, n = ds.length := ⟨_, rfl⟩
  obtain ⟨um, hum⟩ : ∃ n, n = xs.length := ⟨_, rfl⟩
  obtain ⟨vm, hvm⟩ : ∃ n, n = vs.length := ⟨_, rfl⟩
  rw [← hm, ← hn] at HV ⊢
  rw [← hum] at HT ⊢
  rw [← hvm] at HU ⊢
  clear hm hn hum hvm
  obtain ⟨W, hW⟩ : ∃ W, W = (w.alloc (.cells #[.slice sa m sc, .slice ta dn tc] 38)).alloc (.cells #[.int .i64 k, .int .i64 n, .string st, .slice ua um uc] 41) := ⟨_, rfl⟩
  have hbW : Below w.heap.size w W := by rw [hW]; exact ((Below.refl _ _).alloc (Nat.le_refl _) _).alloc (by simp) _
  have hWs : W.heap.size = w.heap.size + 2 := by rw [hW]; simp
  have r0 : BoxSg W w.heap.size (.slice sa m sc) (.slice ta dn tc) 38 := by unfold BoxSg; rw [hW, Below.heap_alloc _ _ _ (by simp)]; exact heap_new w _ rfl
  have r1 : W.heap[w.heap.size + 1]? = some (.cells #[.int .i64 k, .int .i64 n, .string st, .slice ua um uc] 41 (0, 0)) := by rw [hW]; exact heap_new _ _ (by simp)
  have HBW := Lib.hid hbW
  have HA : Hid (∀ w', Below W.heap.size W w' → SigAt w' (sv (.slice sa m sc) (.slice ta dn tc)) ps ds ∧ TermAt w' 0 h (tv k n st (.slice ua um uc)) t ∧ VsAt w' (.slice va vm vc) vs) := Lib.hid (fun w' hb => by
    have hb2 : Below w.heap.size w w' := HBW.out.trans (hb.mono HBW.out.size)
    obtain ⟨a, b, e, h1, h2⟩ := HV.out
    exact ⟨⟨a, b, e, h1.below hb2, h2.below hb2⟩, HT.out.below hb2, HU.out.below hb2⟩)
  have HC : Hid (∀ w', Below W.heap.size W w' → w'.cell? ⟨w.heap.size, 0, none⟩ = some (.slice sa m sc) ∧ w'.cell? ⟨w.heap.size, 1, none⟩ = some (.slice ta dn tc) ∧ w'.cell? ⟨w.heap.size + 1, 0, none⟩ = some (.int .i64 k) ∧ w'.cell? ⟨w.heap.size + 1, 1, none⟩ = some (.int .i64 n) ∧ w'.cell? ⟨w.heap.size + 1, 2, none⟩ = some (.string st) ∧ w'.cell? ⟨w.heap.size + 1, 3, none⟩ = some (.slice ua um uc) ∧ Below W.heap.size W w') := Lib.hid (fun w' hb => by
    obtain ⟨a0, a1⟩ := BoxSg.cells ((hb.block _ (by omega)).trans r0)
    obtain ⟨b0, b1, b2, b3⟩ := cells_of4S ((hb.block _ (by omega)).trans r1)
    exact ⟨a0, a1, b0, b1, b2, b3, hb⟩)
  have HWS := Lib.hid hWs
  clear HV HT HU hbW r0 r1 hWs
  obtain ⟨a0, a1, b0, b1, b2, b3, _⟩ := HC.out W (Below.refl _ _)
  go_enter Try.func4, Try.ntmps4
  rw [hW] at a0 a1 b0 b1 b2 b3
  go_wp2_with fail
  rw [← hW]
  clear hW a0 a1 b0 b1 b2 b3
  refine (szSig_any 1048576 _ ps ds W (by omega) (by omega) HP.out HD.out (HA.out _ (Below.refl _ _)).1).mono ?_
  rintro e w1 ⟨q1, rfl, hb1, hr1, hr2, hr3⟩
  have HB1 := Lib.hid hb1
  have HR1 := Lib.hid hr3; clear hr3 hb1
  by_cases hq1 : q1 < 0
  · go_wp2
    go_ret
    exact ⟨rfl, HBW.out.trans (HB1.out.mono HBW.out.size)⟩
  have HSM := Lib.hid (HR1.out (by omega)); clear HR1
  obtain ⟨a0, a1, b0, b1, b2, b3, _⟩ := HC.out w1 HB1.out
  go_wp2_with fail
  refine (szT_any _ t 0 h q1 w1 (HA.out _ HB1.out).2.1 (by omega) (by omega)).mono ?_
  rintro e w2 ⟨q2, rfl, hb2, hr4, hr5⟩
  have HB2 := Lib.hid (bel_two HB1.out hb2)
  have HR2 := Lib.hid hr5; clear hr5 hb2 a0 a1 b0 b1 b2 b3
  by_cases hq2 : q2 < 0
  · go_wp2
    go_ret
    exact ⟨rfl, HBW.out.trans (HB2.out.mono HBW.out.size)⟩
  have hr6 := HR2.out (by omega)
  have HWT : Hid (wT t ≤ 1048576) := Lib.hid (by omega)
  have hq3 : q2 ≤ 1048576 := by omega
  clear HR2 hr6
  go_wp2_with fail
  refine (szVars_any q2 _ vs w2 (by omega) hq3 HVO.out (HA.out _ HB2.out).2.2).mono ?_
  rintro e w3 ⟨q4, rfl, hb3, hr7, hr8, hr9⟩
  have HB3 := Lib.hid (bel_two HB2.out hb3)
  have HR3 := Lib.hid hr9; clear hr9 hb3
  by_cases hq4 : q4 < 0
  · go_wp2
    go_ret
    exact ⟨rfl, HBW.out.trans (HB3.out.mono HBW.out.size)⟩
  have HSV := Lib.hid (HR3.out (by omega)); clear HR3
  have HCT : Hid (cT t ≤ 1048577) := Lib.hid (by have := cT_le t; have := HWT.out; omega)
  have HDA : Hid (ps.length ≤ 1048576 ∧ ds.length ≤ 1048576 ∧ ∀ d ∈ ds, d.args.length ≤ 1048576) := Lib.hid ⟨by have := HSM.out.1; omega, HSM.out.2.1, fun d hd => by have := (HSM.out.2.2 d hd).2.1; omega⟩
  have HTS : Hid (∀ w', Below W.heap.size W w' → Calls Try.prog 23 #[sv (.slice sa m sc) (.slice ta dn tc)] w' (CopySig ps ds w')) := Lib.hid (fun w' hb => toSig_any _ ps ds w' HDA.out.1 HDA.out.2.1 HDA.out.2.2 (HA.out w' hb).1)
  have HTT : Hid (∀ w', Below W.heap.size W w' → Calls Try.prog 24 #[tv k n st (.slice ua um uc)] w' (CopyT h t w')) := Lib.hid (fun w' hb => toT_any _ t 0 h w' (HA.out w' hb).2.1 HWT.out)
  have HTV : Hid (∀ w', Below W.heap.size W w' → Calls Try.prog 25 #[.slice va vm vc] w' (CopyVars vs w')) := Lib.hid (fun w' hb => toVars_any _ vs w' HSV.out.1 (HA.out w' hb).2.2)
  clear hr1 hr2 hr4 hq1 hq2 hq3 hr7 hr8
  have hbd3 : Below W.heap.size W w3.drew := HB3.out.drew
  -- the model
  obtain ⟨a0, a1, b0, b1, b2, b3, hbx⟩ := HC.out w3 HB3.out
  go_wp2
  go_region_held3 (fun w' => w'.cell? ⟨w.heap.size, 0, none⟩ = some (.slice sa m sc) ∧ w'.cell? ⟨w.heap.size, 1, none⟩ = some (.slice ta dn tc) ∧ w'.cell? ⟨w.heap.size + 1, 0, none⟩ = some (.int .i64 k) ∧ w'.cell? ⟨w.heap.size + 1, 1, none⟩ = some (.int .i64 n) ∧ w'.cell? ⟨w.heap.size + 1, 2, none⟩ = some (.string st) ∧ w'.cell? ⟨w.heap.size + 1, 3, none⟩ = some (.slice ua um uc) ∧ Below W.heap.size W w')
    (first | with_reducible exact HC.out _ (by with_reducible assumption) | with_reducible exact HC.out _ (Below.drew (by with_reducible assumption)) | with_reducible exact HC.out _ (bel_two (by with_reducible assumption) (by with_reducible assumption)) | go_keep)
    (first
      | (go_at_call 23; refine (HTS.out _ (by with_reducible assumption)).mono ?_; intro e wa hc; obtain ⟨xa, ya, rfl, hsg, hba⟩ := hc.at; clear hc; have hBa := bel_two hbd3 hba)
      | (go_at_call 24; refine (HTT.out _ (by with_reducible assumption)).mono ?_; rintro e wb ⟨vb, rfl, htb, hbb⟩; have hBb := bel_two hBa hbb)
      | (go_at_call 25; refine (HTV.out _ (by with_reducible assumption)).mono ?_; rintro e wc ⟨vc', rfl, hvc, _, hbc⟩; have hBc := bel_two hBb hbc)
      | (go_at_call 22; refine (sSortT_any ps ds vs (sv xa ya) vc' wa.heap.size h HDA.out.2.1 HDA.out.2.2 HSV.out.1 vb t wc ⟨(hsg.below2 hbb).below2 hbc, hvc⟩ (htb.below hbc) HWT.out).mono ?_; rintro e wd ⟨rfl, hbd⟩; have hBd := bel_two hBc hbd))
  have HB4 := Lib.hid hBd
  clear hsg htb hvc hba hbb hbc hbd hBa hBb hBc hBd hbd3 a0 a1 b0 b1 b2 b3 hbx
  -- the arguments
  obtain ⟨a0, a1, _⟩ := HC.out wd HB4.out
  go_wp2_with fail
  refine (HTS.out wd HB4.out).mono ?_
  intro e w5 hc
  obtain ⟨xa, ya, rfl, hsg, hb5⟩ := hc.at
  obtain ⟨X, hX⟩ : ∃ X, X = w5.alloc (.cells #[xa, ya] 49) := ⟨_, rfl⟩
  obtain ⟨xs1, xc1, hxa⟩ : ∃ a c, xa = .slice a ps.length c := by obtain ⟨p, q, e, h1, h2⟩ := hsg; injection e with e; simp only [Array.mk.injEq, List.cons.injEq, and_true] at e; obtain ⟨rfl, rfl⟩ := e; exact h1.slice
  obtain ⟨ys1, yc1, hya⟩ : ∃ a c, ya = .slice a ds.length c := by obtain ⟨p, q, e, h1, h2⟩ := hsg; injection e with e; simp only [Array.mk.injEq, List.cons.injEq, and_true] at e; obtain ⟨rfl, rfl⟩ := e; exact h2.slice
  have hbX : Below w5.heap.size w5 X := by rw [hX]; exact (Below.refl _ _).alloc (Nat.le_refl _) _
  have HBX := Lib.hid (bel_two (bel_two HB4.out hb5) hbX)
  have HSX := Lib.hid (And.intro (show BoxSg X w5.heap.size xa ya 49 by unfold BoxSg; rw [hX]; exact heap_new w5 _ rfl) (hsg.below2 hbX))
  subst hxa hya
  clear hc hsg hb5 hbX a0 a1
  obtain ⟨_, _, b0, b1, b2, b3, _⟩ := HC.out X HBX.out
  rw [hX] at b0 b1 b2 b3
  go_wp2_with fail
  rw [← hX]
  clear hX b0 b1 b2 b3
  refine (HTT.out X HBX.out).mono ?_
  rintro e w6 ⟨vb, rfl, htb, hb6⟩
  obtain ⟨kb, nb, sb, ub, rfl⟩ := htb.form
  obtain ⟨ab, mb, cb, rfl⟩ : ∃ a m c, ub = .slice a m c := by
    obtain ⟨k', n', s', u', xs', e1, e2, hs', ha'⟩ := htb
    simp only [tv, Value.agg.injEq, Array.mk.injEq, List.cons.injEq, Value.int.injEq, Value.string.injEq, and_true, true_and] at e1
    obtain ⟨rfl, rfl, rfl, rfl⟩ := e1
    obtain ⟨a', c', rfl⟩ := ha'.slice
    exact ⟨a', _, c', rfl⟩
  obtain ⟨Y, hY⟩ : ∃ Y, Y = w6.alloc (.cells #[.int .i64 kb, .int .i64 nb, .string sb, .slice ab mb cb] 26) := ⟨_, rfl⟩
  have hbY : Below w6.heap.size w6 Y := by rw [hY]; exact (Below.refl _ _).alloc (Nat.le_refl _) _
  have ry : Y.heap[w6.heap.size]? = some (.cells #[.int .i64 kb, .int .i64 nb, .string sb, .slice ab mb cb] 26 (0, 0)) := by rw [hY]; exact heap_new w6 _ rfl
  have hbXY := bel_two hb6 hbY
  have HBY := Lib.hid (bel_two HBX.out hbXY)
  have HXY := Lib.hid hbXY
  have HTY := Lib.hid (And.intro ry (htb.below hbY))
  clear htb hb6 hbY ry hbXY
  go_wp2_with fail
  rw [← hY]
  clear hY
  refine (HTV.out Y HBY.out).mono ?_
  rintro e w7 ⟨vc', rfl, hvc, _, hb7⟩
  have HB7 := Lib.hid (bel_two HBY.out hb7)
  have HX7 : Hid (BoxSg w7 w5.heap.size (.slice xs1 ps.length xc1) (.slice ys1 ds.length yc1) 49 ∧ SigAt w7 (sv (.slice xs1 ps.length xc1) (.slice ys1 ds.length yc1)) ps ds) := Lib.hid (by
    have hb := bel_two HXY.out hb7
    exact ⟨(hb.block _ (Array.getElem?_eq_some_iff.1 HSX.out.1).1).trans HSX.out.1, HSX.out.2.below2 hb⟩)
  have HY7 := Lib.hid (And.intro ((hb7.block _ (Array.getElem?_eq_some_iff.1 HTY.out.1).1).trans HTY.out.1) (HTY.out.2.below hb7))
  have HVC := Lib.hid hvc
  obtain ⟨vca, vcc, hve⟩ := hvc.slice
  subst hve
  clear hvc hb7 HTY HSX HXY
  obtain ⟨x0, x1⟩ := HX7.out.1.cells
  obtain ⟨y0, y1, y2, y3⟩ := cells_of4S HY7.out.1
  have hvo : Hid (∀ p ∈ vs, VarOk p) := Lib.hid HVO.out.2
  go_wp2_with fail
  refine (sortOf_any (sv (.slice xs1 ps.length xc1) (.slice ys1 ds.length yc1)) (tv kb nb sb (.slice ab mb cb)) (.slice vca vs.length vcc) ps ds vs t _ h w7 HDA.out.2.1 HDA.out.2.2 HX7.out.2 HY7.out.2 HCT.out HVC.out HSV.out.1 hvo.out).mono ?_
  rintro e w8 ⟨rfl, hb8⟩
  have hse : ((sortT ds vs t).toList != (sortT ds vs t).toList) = false := by simp
  have HB8 := Lib.hid (bel_two HB7.out hb8)
  have HX8 : Hid (BoxSg w8 w5.heap.size (.slice xs1 ps.length xc1) (.slice ys1 ds.length yc1) 49 ∧ SigAt w8 (sv (.slice xs1 ps.length xc1) (.slice ys1 ds.length yc1)) ps ds) := Lib.hid ⟨(hb8.block _ (Array.getElem?_eq_some_iff.1 HX7.out.1).1).trans HX7.out.1, HX7.out.2.below2 hb8⟩
  have HY8 := Lib.hid (And.intro ((hb8.block _ (Array.getElem?_eq_some_iff.1 HY7.out.1).1).trans HY7.out.1) (HY7.out.2.below hb8))
  have HV8 := Lib.hid (HVC.out.below hb8)
  clear hb8 x0 x1 y0 y1 y2 y3 HX7 HY7 HVC
  go_wp2
  have HC8 : Hid (∀ w', Below w8.heap.size w8 w' → w'.cell? ⟨w.heap.size, 0, none⟩ = some (.slice sa m sc) ∧ w'.cell? ⟨w.heap.size, 1, none⟩ = some (.slice ta dn tc) ∧ w'.cell? ⟨w5.heap.size, 0, none⟩ = some (.slice xs1 ps.length xc1) ∧ w'.cell? ⟨w5.heap.size, 1, none⟩ = some (.slice ys1 ds.length yc1) ∧ Below w8.heap.size w8 w') := Lib.hid (fun w' hb => by
    obtain ⟨z0, z1, _⟩ := HC.out w' (bel_two HB8.out hb)
    obtain ⟨x0, x1⟩ := BoxSg.cells ((hb.block _ (Array.getElem?_eq_some_iff.1 HX8.out.1).1).trans HX8.out.1)
    exact ⟨z0, z1, x0, x1, hb⟩)
  have hbd8 : Below w8.heap.size w8 w8.drew := (Below.refl _ _).drew
  obtain ⟨a0, a1, x0, x1, hbx⟩ := HC8.out w8 (Below.refl _ _)
  go_region_held3 (fun w' => w'.cell? ⟨w.heap.size, 0, none⟩ = some (.slice sa m sc) ∧ w'.cell? ⟨w.heap.size, 1, none⟩ = some (.slice ta dn tc) ∧ w'.cell? ⟨w5.heap.size, 0, none⟩ = some (.slice xs1 ps.length xc1) ∧ w'.cell? ⟨w5.heap.size, 1, none⟩ = some (.slice ys1 ds.length yc1) ∧ Below w8.heap.size w8 w')
    (first | with_reducible exact HC8.out _ (by with_reducible assumption) | with_reducible exact HC8.out _ (Below.drew (by with_reducible assumption)) | with_reducible exact HC8.out _ (bel_two (by with_reducible assumption) (by with_reducible assumption)) | go_keep)
    (first
      | (go_at_call 23; refine (HTS.out _ (bel_two HB8.out (by with_reducible assumption))).mono ?_; intro e wa hc; obtain ⟨xb, yb, rfl, hsg, hba⟩ := hc.at; clear hc; have hBa := bel_two hbd8 hba)
      | (go_at_call 27; refine (eqSig_any _ _ ps ds wa HDA.out.1 HDA.out.2.1 HDA.out.2.2 (HX8.out.2.below2 hBa) hsg).mono ?_; rintro e wb ⟨rfl, hbb⟩; have hBb := bel_two hBa hbb))
  have HB9 := Lib.hid (bel_two HB8.out hBb)
  have HY9 := Lib.hid (And.intro ((hBb.block _ (Array.getElem?_eq_some_iff.1 HY8.out.1).1).trans HY8.out.1) (HY8.out.2.below hBb))
  have HV9 := Lib.hid (HV8.out.below hBb)
  clear hbx hBb hbb hBa hba hsg hbd8 a0 a1 x0 x1 HC8 HX8 HY8 HV8
  go_wp2
  have HC9 : Hid (∀ w', Below wb.heap.size wb w' → w'.cell? ⟨w.heap.size + 1, 0, none⟩ = some (.int .i64 k) ∧ w'.cell? ⟨w.heap.size + 1, 1, none⟩ = some (.int .i64 n) ∧ w'.cell? ⟨w.heap.size + 1, 2, none⟩ = some (.string st) ∧ w'.cell? ⟨w.heap.size + 1, 3, none⟩ = some (.slice ua um uc) ∧ w'.cell? ⟨w6.heap.size, 0, none⟩ = some (.int .i64 kb) ∧ w'.cell? ⟨w6.heap.size, 1, none⟩ = some (.int .i64 nb) ∧ w'.cell? ⟨w6.heap.size, 2, none⟩ = some (.string sb) ∧ w'.cell? ⟨w6.heap.size, 3, none⟩ = some (.slice ab mb cb) ∧ Below wb.heap.size wb w') := Lib.hid (fun w' hb => by
    obtain ⟨_, _, z0, z1, z2, z3, _⟩ := HC.out w' (bel_two HB9.out hb)
    obtain ⟨y0, y1, y2, y3⟩ := cells_of4S ((hb.block _ (Array.getElem?_eq_some_iff.1 HY9.out.1).1).trans HY9.out.1)
    exact ⟨z0, z1, z2, z3, y0, y1, y2, y3, hb⟩)
  have hbd9 : Below wb.heap.size wb wb.drew := (Below.refl _ _).drew
  obtain ⟨a0, a1, a2, a3, y0, y1, y2, y3, hbx⟩ := HC9.out wb (Below.refl _ _)
  go_region_held3 (fun w' => w'.cell? ⟨w.heap.size + 1, 0, none⟩ = some (.int .i64 k) ∧ w'.cell? ⟨w.heap.size + 1, 1, none⟩ = some (.int .i64 n) ∧ w'.cell? ⟨w.heap.size + 1, 2, none⟩ = some (.string st) ∧ w'.cell? ⟨w.heap.size + 1, 3, none⟩ = some (.slice ua um uc) ∧ w'.cell? ⟨w6.heap.size, 0, none⟩ = some (.int .i64 kb) ∧ w'.cell? ⟨w6.heap.size, 1, none⟩ = some (.int .i64 nb) ∧ w'.cell? ⟨w6.heap.size, 2, none⟩ = some (.string sb) ∧ w'.cell? ⟨w6.heap.size, 3, none⟩ = some (.slice ab mb cb) ∧ Below wb.heap.size wb w')
    (first | with_reducible exact HC9.out _ (by with_reducible assumption) | with_reducible exact HC9.out _ (Below.drew (by with_reducible assumption)) | with_reducible exact HC9.out _ (bel_two (by with_reducible assumption) (by with_reducible assumption)) | go_keep)
    (first
      | (go_at_call 24; refine (HTT.out _ (bel_two HB9.out (by with_reducible assumption))).mono ?_; rintro e wc ⟨vd, rfl, htd, hbc⟩; have hBc := bel_two hbd9 hbc)
      | (go_at_call 28; refine (eqT_any _ vd t _ _ h wc (HY9.out.2.below hBc) htd).mono ?_; rintro e wd2 ⟨rfl, hbd⟩; have hBd := bel_two hBc hbd))
  have HB10 := Lib.hid (bel_two HB9.out hBd)
  have HV10 := Lib.hid (HV9.out.below hBd)
  clear hbx hBd hbd hBc hbc htd hbd9 a0 a1 a2 a3 y0 y1 y2 y3 HC9 HY9 HV9
  go_wp2_with fail
  refine (HTV.out _ HB10.out).mono ?_
  rintro e w11 ⟨ve, rfl, hve, _, hb11⟩
  have HB11 := Lib.hid (bel_two HB10.out hb11)
  have HV11 := Lib.hid (HV10.out.below hb11)
  have HVE := Lib.hid hve
  obtain ⟨vea, vec, e2⟩ := hve.slice
  subst e2
  clear hve hb11
  go_wp2_with fail
  refine (eqVars_any _ _ vs w11 HSV.out.1 HV11.out HVE.out).mono ?_
  rintro e w12 ⟨rfl, hb12⟩
  have HB12 := Lib.hid (HBW.out.trans ((bel_two HB11.out hb12).mono HBW.out.size))
  clear hb12
  go_wp2
  go_ret
  exact ⟨rfl, HB12.out⟩
theorem exSort_row (x : Value) (ps : List ByteArray) (ds : List OpD) (v : Value) (t : T) (h : Nat) (u : Value) (vs : List (ByteArray × ByteArray)) (w : World) (hp : StrsOk ps) (hd : OpsOk ds) (hv : SigAt w x ps ds) (ht : TermAt w 0 h v t) (hvs : VarsOk vs) (hu : VsAt w u vs) :
    Calls Try.prog 4 #[x, v, u] w (TrueB w) := exSort_any x v u ps ds t h vs w hp hd hv ht hvs hu
end Go.Proofs.Ytidbokheeieifaa
