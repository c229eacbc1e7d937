/-
  The draws of two terms to be matched: spec.l8Two, DrawMatchTerm, DrawIsVariant.
-/
import Derived.Test.YteelakhaaipebaaQ5
import Derived.Test.YteelakhaaipebaaQ48
import Derived.Test.YteelakhaaipebaaQ49
namespace Go.Proofs.Yteelakhaaipebaa
open Go.RowKit

set_option maxRecDepth 100000 in
set_option maxHeartbeats 6400000 in
theorem two8_any (cv : Value) (len : Nat) (w : World) (hcode : CodeAt w w.heap.size cv len) :
    Calls Try.prog 78 #[cv] w (DrawnTwo w) := by
  have hz : (boxZ2 w).heap.size = w.heap.size + 2 := by simp
  have HB0 : Hid (Below w.heap.size w (boxZ2 w)) := Lib.hid (((Below.refl _ _).alloc (Nat.le_refl _) _).alloc (by simp) _)
  have HC : Hid (CodeAt (boxZ2 w) (boxZ2 w).heap.size cv len) := Lib.hid (hcode.below HB0.out)
  have HZ := Lib.hid hz
  clear hcode hz
  go_enter Try.func78, Try.ntmps78
  go_wp2_with fail
  refine (new_any cv len _ HC.out).mono ?_
  rintro e w1 ⟨rfl, hu1, hb1, hlt1⟩
  have hz := HZ.out
  have hc1 := HC.out.at_new hb1
  rw [hz] at hc1 hu1
  have HC1 := Lib.hid hc1; clear hc1
  have HU1 := Lib.hid hu1; clear hu1
  have HB1 := Lib.hid hb1; clear hb1
  have hs1 : w.heap.size + 3 ≤ w1.heap.size := by omega
  clear hz hlt1
  have HB1b := Lib.hid (below_any (w.heap.size + 2) cv len 3 w1 (by decide) (by decide) HC1.out HU1.out)
  go_wp2_with fail
  refine HB1b.out.mono ?_
  rintro e w1b ⟨x, rfl, hx0, hx1, hub, hgb⟩
  obtain ⟨dd, hd, hdx⟩ : ∃ d : Nat, d ≤ 3 ∧ (1 : Int) + x = d := ⟨(1 + x).toNat, by omega, by omega⟩
  have hwr : IntKind.wrap .i64 (1 + x) = (dd : Int) := by rw [hdx]; exact wrap_small dd (by omega)
  have HDR := Lib.hid (draw_any dd (by omega) false (w.heap.size + 2) cv len w1b (HC1.out.grown HU1.out.lt hgb) hub)
  have HGB := Lib.hid hgb
  clear hub hgb HB1b
  go_wp2_with fail
  (try rw [hwr])
  refine HDR.out.mono ?_
  rintro e w2 ⟨k, n, s, u2, xs2, ys2, rfl, hsz2, ha2, _, _, hw2, hu2, hg2b, a, rfl⟩
  obtain ⟨m, hm2⟩ : ∃ m, m = xs2.length := ⟨_, rfl⟩
  have ha2' : ArgsAt w2 w1b.heap.size dd (.slice a m m) xs2 := by rw [hm2]; exact ha2
  rw [← hm2]
  obtain ⟨t, ht0⟩ : ∃ t, t = T.node k n s xs2 := ⟨_, rfl⟩
  have hwd : 4 * 2 ^ dd ≤ 32 := by
    rcases (by omega : dd = 0 ∨ dd = 1 ∨ dd = 2 ∨ dd = 3) with rfl | rfl | rfl | rfl <;> decide
  have hw29 : wT t ≤ 29 := by rw [ht0]; omega
  have hw : wT t ≤ 1000 := by omega
  obtain ⟨h, hh⟩ : ∃ h, h = dd := ⟨_, rfl⟩
  have ht : TermAt w2 w1.heap.size h (tv k n s (.slice a m m)) t := ⟨k, n, s, _, xs2, rfl, ht0, by unfold maxLen; omega, by rw [hh]; exact ha2'.low HGB.out.size⟩
  have hg2 := grown_trans HGB.out hg2b
  have HW29 := Lib.hid hw29
  clear hsz2 ha2 ha2' hw2 hg2b hwd hw29 ht0 hh hdx hwr hx0 hx1 HDR HGB
  clear hm2
  have hs2 : w.heap.size + 3 ≤ w2.heap.size := by have := hg2.size; omega
  have HT2 := Lib.hid (ht.low hs1); clear ht
  have HW := Lib.hid hw; clear hw
  have HG1 : Hid ((boxZ2 w).grownBy w2 (some (w.heap.size + 2))) := Lib.hid (grown_trans (Below.toGrown HB1.out _) hg2)
  have HGC : Hid (w1.grownBy w2 (some (w.heap.size + 2))) := Lib.hid hg2
  clear hg2
  obtain ⟨X, hX⟩ : ∃ X, X = w2.alloc (.cells #[.int .i64 k, .int .i64 n, .string s, .slice a m m] 29) := ⟨_, rfl⟩
  have HX2 : Hid (w2.grownBy X (some (w.heap.size + 2))) := Lib.hid (by rw [hX]; exact World.grownBy_alloc _ _ _)
  have HUX : Hid (CurAt X (w.heap.size + 2) cv len) := Lib.hid (by rw [hX]; exact hu2.alloc _)
  have HXB : Hid (X.heap[w2.heap.size]? = some (.cells #[.int .i64 k, .int .i64 n, .string s, .slice a m m] 29 (0, 0))) := Lib.hid (by rw [hX]; exact heap_new w2 _ rfl)
  have HXC : Hid (∀ Y, X.grownBy Y (some (w.heap.size + 2)) → CodeAt Y (w.heap.size + 2) cv len) := Lib.hid (fun Y hY => HC1.out.grown HU1.out.lt (grown_trans HGC.out (grown_trans HX2.out hY)))
  clear hu2
  go_wp2_with fail
  rw [← hX]
  clear hX
  refine (once_any (w.heap.size + 2) cv len 3 _ (by decide) (by decide) (HXC.out _ (grown_refl _ _)) HUX.out).mono ?_
  rintro e w4 ⟨b4, rfl, hu4, hg4⟩
  have HU4 := Lib.hid hu4; clear hu4
  have HG4 := Lib.hid hg4; clear hg4
  -- what lies in every world behind, but for the cursor
  have HK : Hid (∀ Y, w4.grownBy Y (some (w.heap.size + 2)) → (Y.heap[w2.heap.size]? = some (.cells #[.int .i64 k, .int .i64 n, .string s, .slice a m m] 29 (0, 0)) ∧ Y.heap[w.heap.size]? = some (.cells #[.int .i64 0, .int .i64 0, .string ⟨#[]⟩, .slice none 0 0] 29 (0, 0)) ∧ Y.heap[w.heap.size + 1]? = some (.cells #[.int .i64 0, .int .i64 0, .string ⟨#[]⟩, .slice none 0 0] 29 (0, 0)) ∧
      TermAt Y (w.heap.size + 3) h (tv k n s (.slice a m m)) t ∧ Below w.heap.size w Y)) := Lib.hid (fun Y hY => by
    have hXY := grown_trans HG4.out hY
    have h2Y := grown_trans HX2.out hXY
    have hZY := grown_trans HG1.out h2Y
    obtain ⟨z1, z2⟩ := boxZ2_cells hZY (by simp) (by simp)
    refine ⟨(hXY.block _ (Array.getElem?_eq_some_iff.1 HXB.out).1 (fun e => by have := Option.some.inj e; omega)).trans HXB.out, z1, z2, HT2.out.grown h2Y (fun j e => by cases e; omega), ?_⟩
    have hzz := HZ.out
    exact HB0.out.trans ⟨hZY.os, hZY.tape, hZY.output, hZY.size, fun i hi => hZY.block i (by omega) (fun e => by have := Option.some.inj e; omega)⟩)
  obtain ⟨k1, k2, k3, _, _⟩ := HK.out _ (grown_refl _ _)
  obtain ⟨⟨p0, p1, p2, p3⟩, _, _, _, _⟩ := cells_of4 k1
  clear k1 k2 k3
  cases b4 with
  | true =>
    have HO := Lib.hid (once_any (w.heap.size + 2) cv len 2 w4.drew (by decide) (by decide) (HXC.out _ (gr_drew HG4.out)) (cu_drew HU4.out))
    go_wp2_with fail
    go_region_with (first
      | (go_at_call 70; refine HO.out.mono ?_; rintro e w5a ⟨qb, rfl, hu5a, hg5a⟩; have HU5A := Lib.hid hu5a; have HG5A : Hid (w4.grownBy w5a (some (w.heap.size + 2))) := Lib.hid (grown_trans (gr_drew (grown_refl w4 (some (w.heap.size + 2)))) hg5a); obtain ⟨q1, _, _, _, _⟩ := HK.out _ HG5A.out; obtain ⟨⟨i0, i1, i2, i3⟩, _, _, _, _⟩ := cells_of4 q1; clear q1 hu5a hg5a)
      | (go_at_call 109; refine (draw_any 3 (by decide) qb (w.heap.size + 2) cv len _ (HXC.out _ (grown_trans HG4.out HG5A.out)) HU5A.out).mono ?_; rintro e w5 ⟨k5, n5, s5, u5, ts5, xs5, rfl, hsz5, ha5, _, _, hw5, hu5, hg5, a5, rfl⟩; have HT5 : Hid (TermAt w5 w5a.heap.size 3 (tv k5 n5 s5 (.slice a5 ts5.length ts5.length)) (.node k5 n5 s5 ts5)) := Lib.hid ⟨_, _, _, _, ts5, rfl, rfl, by unfold maxLen; omega, ha5⟩; have HW5 : Hid (wT (.node k5 n5 s5 ts5) ≤ 1000) := Lib.hid (by omega); have HG5 : Hid (w4.grownBy w5 (some (w.heap.size + 2))) := Lib.hid (grown_trans HG5A.out hg5); obtain ⟨q1, q2, q3, _, _⟩ := HK.out _ HG5.out; obtain ⟨⟨r0, r1, r2, r3⟩, _, _, _, _⟩ := cells_of4 q1; obtain ⟨⟨z0, z1, z2, z3⟩, y0, y1, y2, y3⟩ := cells_of4 q2; obtain ⟨⟨x0, x1, x2, x3⟩, f0, f1, f2, f3⟩ := cells_of4 q3; obtain ⟨m5, hm5⟩ : ∃ m, m = ts5.length := ⟨_, rfl⟩; rw [← hm5] at HT5 ⊢; clear q1 q2 q3 hsz5 ha5 hw5 hu5 hg5 hm5))
    all_goals (
      obtain ⟨_, _, _, ta, hbw⟩ := HK.out _ HG5.out
      have hs4 : w.heap.size + 2 ≤ w5a.heap.size := by have e1 := HX2.out.size; have e2 := HG4.out.size; have e3 := HG5A.out.size; omega
      have HF := Lib.hid (two_fin (ta.low (by omega)) (HT5.out.low hs4) HW.out HW5.out hbw)
      clear ta hbw hs4
      go_wp2
      (try simp only [Exit.inBlock, Exit.then])
      refine bodyPost_ret (v := .tuple #[tv k n s (.slice a m m), tv k5 n5 s5 (.slice a5 m5 m5)]) ?_ rfl ?_
      · refine results_cell2 (a := 2) (b := 3) (t := 29) (ad := ⟨w.heap.size, 0, none⟩) (bd := ⟨w.heap.size + 1, 0, none⟩) rfl rfl rfl _ _ ?_ ?_ <;> go_simp
      · exact HF.out _ _ _ _ _ _ _ _)  | false =>
    have HO := Lib.hid (draw7_any (w.heap.size + 2) cv len w4.drew (HXC.out _ (gr_drew HG4.out)) (cu_drew HU4.out))
    go_wp2_with fail
    go_region_with (first
      | (go_at_call 58; refine HO.out.mono ?_; rintro e w5a ⟨ub, bs, rfl, hub, hsb, hu5a, hg5a⟩; obtain ⟨uba, ubc, rfl⟩ := hub.slice; obtain ⟨nbs, hnbs⟩ : ∃ m, m = bs.length := ⟨_, rfl⟩; rw [← hnbs] at hub ⊢; have HUB := Lib.hid hub; have HSB := Lib.hid hsb; have HG5A : Hid (w4.grownBy w5a (some (w.heap.size + 2))) := Lib.hid (grown_trans (gr_drew (grown_refl w4 (some (w.heap.size + 2)))) hg5a); obtain ⟨q1, _, _, _, _⟩ := HK.out _ HG5A.out; obtain ⟨⟨i0, i1, i2, i3⟩, _, _, _, _⟩ := cells_of4 q1; clear q1 hu5a hg5a hub hsb hnbs)
      | (go_at_call 64; refine (sApp_any bs (by have := small7_w HSB.out; omega) 2 h (.slice uba nbs ubc) (tv k n s (.slice a m m)) t _ (w.heap.size + 3) w5a HUB.out (HK.out _ HG5A.out).2.2.2.1 (by have := HW.out; omega)).mono ?_; rintro e w5 ⟨k5, n5, s5, a5, m5, c5, rfl, ht5, hb5⟩; have HT5 := Lib.hid ht5; have HW5 : Hid (wT (mapT (findB bs) (fun s => s) t) ≤ 1000) := Lib.hid (by have := wT_map (findB bs) 13 (small_find HSB.out) t; have := HW29.out; omega); have HG5 : Hid (w4.grownBy w5 (some (w.heap.size + 2))) := Lib.hid (grown_trans HG5A.out (Below.toGrown hb5 _)); obtain ⟨q1, q2, q3, _, _⟩ := HK.out _ HG5.out; obtain ⟨⟨r0, r1, r2, r3⟩, _, _, _, _⟩ := cells_of4 q1; obtain ⟨⟨z0, z1, z2, z3⟩, y0, y1, y2, y3⟩ := cells_of4 q2; obtain ⟨⟨x0, x1, x2, x3⟩, f0, f1, f2, f3⟩ := cells_of4 q3; clear q1 q2 q3 ht5 hb5))
    all_goals (
      obtain ⟨_, _, _, ta, hbw⟩ := HK.out _ HG5.out
      have hs4 : w.heap.size + 2 ≤ w5a.heap.size := by have e1 := HX2.out.size; have e2 := HG4.out.size; have e3 := HG5A.out.size; omega
      have HF := Lib.hid (two_fin (ta.low (by omega)) (HT5.out.low hs4) HW.out HW5.out hbw)
      clear ta hbw hs4
      go_wp2
      (try simp only [Exit.inBlock, Exit.then])
      refine bodyPost_ret (v := .tuple #[tv k n s (.slice a m m), tv k5 n5 s5 (.slice a5 m5 c5)]) ?_ rfl ?_
      · refine results_cell2 (a := 2) (b := 3) (t := 29) (ad := ⟨w.heap.size, 0, none⟩) (bd := ⟨w.heap.size + 1, 0, none⟩) rfl rfl rfl _ _ ?_ ?_ <;> go_simp
      · exact HF.out _ _ _ _ _ _ _ _)
end Go.Proofs.Yteelakhaaipebaa
