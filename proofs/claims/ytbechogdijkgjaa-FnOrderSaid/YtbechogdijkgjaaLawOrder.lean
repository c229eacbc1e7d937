/-
  The law on the order of terms answers true at every draw: its walk.
-/
import Derived.Test.YtbechogdijkgjaaTermTwo
import Derived.Test.YtbechogdijkgjaaCmpI
import Derived.Test.YtbechogdijkgjaaTermCmp
import Derived.Test.YtbechogdijkgjaaTermCmpM
namespace Go.Proofs.Ytbechogdijkgjaa
open Go.RowKit

set_option maxRecDepth 100000 in
set_option maxHeartbeats 800000 in
theorem drawGround_any (cv : Value) (len : Nat) (w : World) (hcode : CodeAt w w.heap.size cv len) :
    Calls Try.prog 28 #[cv] w (DrawnTerm w) := by
  have HB0 : Hid (Below w.heap.size w (boxZ w)) := Lib.hid ((Below.refl _ _).alloc (Nat.le_refl _) _)
  have HC : Hid (CodeAt (boxZ w) (boxZ w).heap.size cv len) := Lib.hid (hcode.below HB0.out)
  clear hcode
  go_enter Try.func28, Try.ntmps28
  go_wp2_with fail
  refine (new_any cv len _ HC.out).mono ?_
  rintro e w1 ⟨rfl, hu1, hb1, _⟩
  have hz : (boxZ w).heap.size = w.heap.size + 1 := by simp
  have hc1 := HC.out.at_new hb1
  rw [hz] at hc1 hu1
  have HC1 := Lib.hid hc1; clear hc1
  have HU1 := Lib.hid hu1; clear hu1
  have HB1 := Lib.hid hb1; clear hb1
  have HZ := Lib.hid hz; clear hz
  go_wp2_with fail
  refine (bent_any (w.heap.size + 1) cv len _ HC1.out HU1.out).mono ?_
  rintro e w2 ⟨v, t, h, rfl, ht, hw, _, hg2⟩
  obtain ⟨k, n, s, a, m, cap, rfl⟩ := ht.shape
  have hz := HZ.out
  rw [← hz] at hg2
  have HB2 := Lib.hid (HB0.out.trans ((below_own HB1.out hg2).mono HB0.out.size))
  have hg : (boxZ w).grownBy w2 (some (boxZ w).heap.size) := Below.toGrown (below_own HB1.out hg2) _
  obtain ⟨⟨z0, z1, z2, z3⟩, y0, y1, y2, y3⟩ := boxZ_cells' hg
  have HF := Lib.hid (fun v0 v1 v2 v3 => drawn_fin (w := w) (ht.low (by have := HB1.out.size; omega)) hw HB2.out v0 v1 v2 v3)
  clear ht hw hg2 hg hz
  go_wp2
  (try simp only [Exit.inBlock, Exit.then])
  refine bodyPost_ret (v := tv k n s (.slice a m cap)) ?hr rfl ?_
  case hr =>
    rw [results_cell (a := 2) (t := 26) (ad := ⟨w.heap.size, 0, none⟩) rfl rfl]
    go_simp
  exact HF.out _ _ _ _

set_option maxRecDepth 100000 in
set_option maxHeartbeats 1600000 in
theorem drawTwo_any (cv : Value) (len : Nat) (w : World) (hcode : CodeAt w w.heap.size cv len) :
    Calls Try.prog 24 #[cv] w (DrawnTwo w) := by
  have hz : (boxZ2 w).heap.size = w.heap.size + 2 := by simp
  have HB0 : Hid (Below w.heap.size w (boxZ2 w)) := Lib.hid (((Below.refl _ _).alloc (Nat.le_refl _) _).alloc (by simp) _)
  have HC : Hid (CodeAt (boxZ2 w) (boxZ2 w).heap.size cv len) := Lib.hid (hcode.below HB0.out)
  have HZ := Lib.hid hz
  clear hcode hz
  go_enter Try.func24, Try.ntmps24
  go_wp2_with fail
  refine (two_any cv len _ HC.out).mono ?_
  rintro e w1 ⟨k, n, s, a, m, c, k2, n2, s2, a2, m2, c2, t, t2, h, h2, rfl, ht, ht2, hw, hw2, hb⟩
  have hz := HZ.out
  rw [hz] at ht ht2
  have hb' := HB0.out.trans (hb.mono (by rw [hz]; omega))
  have HF := Lib.hid (two_fin ht ht2 hw hw2 hb')
  obtain ⟨q2, q3⟩ := boxZ2_cells (Below.toGrown hb none) (by simp) (by simp)
  obtain ⟨⟨z0, z1, z2, z3⟩, y0, y1, y2, y3⟩ := cells_of4 q2
  obtain ⟨⟨x0, x1, x2, x3⟩, f0, f1, f2, f3⟩ := cells_of4 q3
  clear q2 q3 ht ht2 hw hw2 hb hb' hz
  go_wp2
  (try simp only [Exit.inBlock, Exit.then])
  refine bodyPost_ret (v := .tuple #[tv k n s (.slice a m c), tv k2 n2 s2 (.slice a2 m2 c2)]) ?_ rfl ?_
  · refine results_cell2 (a := 2) (b := 3) (t := 26) (ad := ⟨w.heap.size, 0, none⟩) (bd := ⟨w.heap.size + 1, 0, none⟩) rfl rfl rfl _ _ ?_ ?_ <;> go_simp
  · exact HF.out _ _ _ _ _ _ _ _

set_option maxRecDepth 100000 in
set_option maxHeartbeats 6000000 in
theorem orders_any (a : Option Addr) (len cap : Nat) (w : World) (hcode : len ≤ 1048576 → CodeAt w w.heap.size (.slice a len cap) len) :
    Calls Try.prog 4 #[.slice a len cap] w (TrueAt w) := by
  have HC := Lib.hid hcode; clear hcode
  by_cases hbig : 1048576 < len
  · have hd : decide (1048576 < len) = true := by simpa using hbig
    have HK := Lib.hid (big_any a len cap w)
    rw [hd] at HK
    go_enter Try.func4, Try.ntmps4
    go_wp2_with fail
    refine HK.out.mono ?_
    rintro e w1 ⟨rfl, rfl⟩
    go_wp2
    go_ret
    exact ⟨rfl, Below.refl _ _⟩
  · have hd : decide (1048576 < len) = false := by simpa using hbig
    have HK := Lib.hid (big_any a len cap w)
    rw [hd] at HK
    have HC1 := Lib.hid (HC.out (by omega))
    go_enter Try.func4, Try.ntmps4
    go_wp2_with fail
    refine HK.out.mono ?_
    rintro e w0 ⟨rfl, rfl⟩
    go_wp2_with fail
    refine (drawTwo_any _ len _ HC1.out).mono ?_
    rintro e w1 ⟨k, n, s, ta, tm, tc, k2, n2, s2, ta2, tm2, tc2, t, t2, h, h2, rfl, ht, ht2, hw, hw2, hb1⟩
    have hbx := boxed2_below w1 k n s (.slice ta tm tc) k2 n2 s2 (.slice ta2 tm2 tc2)
    have HW : Hid (wT t ≤ 1048576) := Lib.hid (by omega)
    have HW2 : Hid (wT t2 ≤ 1048576) := Lib.hid (by omega)
    have HT := Lib.hid (ht.below hbx); clear ht hw
    have HT2 := Lib.hid (ht2.below hbx); clear ht2 hw2
    have HB1 := Lib.hid (hb1.trans (hbx.mono hb1.size)); clear hb1 hbx
    go_wp2_with fail
    refine (cmpTI_any _ _ t t2 _ _ h h2 _ HT.out HT2.out HW.out HW2.out).mono ?_
    rintro e w2 ⟨rfl, hb2⟩
    have HB2 := Lib.hid hb2; clear hb2
    have HBW : Hid (Below w.heap.size w w2) := Lib.hid (HB1.out.trans (HB2.out.mono HB1.out.size))
    have HKC : Hid (∀ w', Below w2.heap.size w2 w' → (w'.cell? ⟨w1.heap.size, 0, none⟩ = some (.int .i64 k) ∧ w'.cell? ⟨w1.heap.size, 1, none⟩ = some (.int .i64 n) ∧ w'.cell? ⟨w1.heap.size, 2, none⟩ = some (.string s) ∧ w'.cell? ⟨w1.heap.size, 3, none⟩ = some (.slice ta tm tc) ∧ w'.cell? ⟨w1.heap.size + 1, 0, none⟩ = some (.int .i64 k2) ∧ w'.cell? ⟨w1.heap.size + 1, 1, none⟩ = some (.int .i64 n2) ∧ w'.cell? ⟨w1.heap.size + 1, 2, none⟩ = some (.string s2) ∧ w'.cell? ⟨w1.heap.size + 1, 3, none⟩ = some (.slice ta2 tm2 tc2) ∧ Below w2.heap.size w2 w')) := Lib.hid (fun w' hb => by
      obtain ⟨c0, c1, c2, c3, d0, d1, d2, d3, _⟩ := boxed2_all (HB2.out.trans (hb.mono HB2.out.size))
      exact ⟨c0, c1, c2, c3, d0, d1, d2, d3, hb⟩)
    have HTT : Hid (∀ w', Below w2.heap.size w2 w' → TermAt w' w.heap.size h (tv k n s (.slice ta tm tc)) t ∧ TermAt w' w.heap.size h2 (tv k2 n2 s2 (.slice ta2 tm2 tc2)) t2) := Lib.hid (fun w' hb => ⟨(HT.out.below HB2.out).below hb, (HT2.out.below HB2.out).below hb⟩)
    have up : ∀ {w' w3 : World}, Below w2.heap.size w2 w' → Below w'.heap.size w' w3 → Below w2.heap.size w2 w3 := fun h k => h.trans (k.mono h.size)
    have HSC : Hid (Behind w2 26 #[tv k n s (.slice ta tm tc), tv k2 n2 s2 (.slice ta2 tm2 tc2)] (fun e _ => e = .returned (.int .i64 (cmpT t t2)))) := Lib.hid (fun w' hb => (sCmp_any _ _ h _ _ t t2 _ h2 (HTT.out _ hb).1 (HTT.out _ hb).2 HW.out HW2.out).mono fun e w3 ⟨e1, e2⟩ => ⟨e1, up hb e2⟩)
    have HIC : Hid (Behind w2 25 #[tv k2 n2 s2 (.slice ta2 tm2 tc2), tv k n s (.slice ta tm tc)] (fun e _ => e = .returned (.int .i64 (cmpT t2 t)))) := Lib.hid (fun w' hb => (cmpTI_any _ _ t2 t _ _ h2 h _ (HTT.out _ hb).2 (HTT.out _ hb).1 HW2.out HW.out).mono fun e w3 ⟨e1, e2⟩ => ⟨e1, up hb e2⟩)
    have HEQ : Hid (Behind w2 27 #[tv k n s (.slice ta tm tc), tv k2 n2 s2 (.slice ta2 tm2 tc2)] (fun e _ => e = .returned (.bool (decide (cmpT t t2 = 0))))) := Lib.hid (fun w' hb => (equalTI_any _ _ t t2 _ _ h h2 _ (HTT.out _ hb).1 (HTT.out _ hb).2 HW.out HW2.out).mono fun e w3 ⟨b, ⟨e1, e2⟩, e3⟩ => ⟨by
      have : b = decide (cmpT t t2 = 0) := by
        have h0 := cmpT_zero t t2
        rw [Bool.eq_iff_iff, e3, decide_eq_true_iff, h0]
      rw [e1, this], up hb e2⟩)
    have hord : ∀ t3, cmpT t t2 ≤ 0 → cmpT t2 t3 ≤ 0 → cmpT t t3 ≤ 0 := fun t3 p q => ((cmpT_ord t t2 t3).le p q).1
    have HORD := Lib.hid hord; clear hord up
    have hcs : (cmpT t t2 = -1 ∧ cmpT t2 t = 1 ∧ decide (cmpT t t2 = 0) = false) ∨ (cmpT t t2 = 0 ∧ cmpT t2 t = 0 ∧ decide (cmpT t t2 = 0) = true) ∨ (cmpT t t2 = 1 ∧ cmpT t2 t = -1 ∧ decide (cmpT t t2 = 0) = false) := by
      have hf := cmpT_flip t t2
      rcases cmpT_range t t2 with e | e | e <;> rw [e] at hf ⊢ <;> simp_all
    obtain ⟨X, hX⟩ : ∃ X, X = cmpT t t2 := ⟨_, rfl⟩
    obtain ⟨N, hN⟩ : ∃ N, N = cmpT t2 t := ⟨_, rfl⟩
    obtain ⟨E, hE⟩ : ∃ E, E = decide (cmpT t t2 = 0) := ⟨_, rfl⟩
    rw [← hE] at hcs HEQ
    rw [← hX] at hcs HSC HORD
    rw [← hN] at hcs HIC
    rw [← hX]
    clear hX hN hE
    obtain ⟨c0, c1, c2, c3, d0, d1, d2, d3, hb0⟩ := HKC.out _ (Below.refl _ _)
    rcases hcs with ⟨rfl, rfl, rfl⟩ | ⟨rfl, rfl, rfl⟩ | ⟨rfl, rfl, rfl⟩
    · go_wp2_with fail
      refine (HSC.out _ hb0).mono ?_
      rintro e w3 ⟨rfl, hb3⟩
      clear c0 c1 c2 c3 d0 d1 d2 d3 hb0
      obtain ⟨c0, c1, c2, c3, d0, d1, d2, d3, _⟩ := HKC.out _ hb3
      go_wp2_with fail
      refine (HIC.out _ hb3).mono ?_
      rintro e w4 ⟨rfl, hb4⟩
      clear c0 c1 c2 c3 d0 d1 d2 d3 hb3
      obtain ⟨c0, c1, c2, c3, d0, d1, d2, d3, _⟩ := HKC.out _ hb4
      go_wp2_with fail
      refine (HEQ.out _ hb4).mono ?_
      rintro e w5 ⟨rfl, hb5⟩
      clear c0 c1 c2 c3 d0 d1 d2 d3 hb4
      obtain ⟨c0, c1, c2, c3, d0, d1, d2, d3, _⟩ := HKC.out _ hb5
      go_wp2_with fail
      refine (drawGround_any _ len _ (HC1.out.below (HBW.out.trans (hb5.mono HBW.out.size)))).mono ?_
      rintro e w6 ⟨k3, n3, s3, ta3, tm3, tc3, t3, h3, rfl, ht3, hw3, hb6⟩
      have hbx3 := boxed_below w6 k3 n3 s3 (.slice ta3 tm3 tc3)
      have HT3 := Lib.hid (ht3.below hbx3)
      have HW3 : Hid (wT t3 ≤ 1048576) := Lib.hid (by omega)
      have HB6 := Lib.hid ((hb5.trans (hb6.mono hb5.size)).trans (hbx3.mono (hb5.trans (hb6.mono hb5.size)).size))
      have HBX := Lib.hid (HBW.out.trans (HB6.out.mono HBW.out.size))
      obtain ⟨e0, e1, e2, e3⟩ := boxed_cells (Below.refl (boxed w6 k3 n3 s3 (.slice ta3 tm3 tc3)).heap.size (boxed w6 k3 n3 s3 (.slice ta3 tm3 tc3)))
      clear c0 c1 c2 c3 d0 d1 d2 d3 ht3 hw3 hb6 hbx3 hb5
      obtain ⟨c0, c1, c2, c3, d0, d1, d2, d3, _⟩ := HKC.out _ HB6.out
      go_wp2_with fail
      refine (cmpTI_any _ _ t2 t3 _ _ h2 h3 _ (HTT.out _ HB6.out).2 HT3.out HW2.out HW3.out).mono ?_
      rintro e w7 ⟨rfl, hb7⟩
      have HB7 := Lib.hid hb7
      have HB27 := Lib.hid (HB6.out.trans (hb7.mono HB6.out.size))
      have HBX7 := Lib.hid (HBX.out.trans (hb7.mono HBX.out.size))
      clear c0 c1 c2 c3 d0 d1 d2 d3 e0 e1 e2 e3
      obtain ⟨e0, e1, e2, e3⟩ := boxed_cells hb7
      obtain ⟨c0, c1, c2, c3, d0, d1, d2, d3, _⟩ := HKC.out _ HB27.out
      clear hb7
      rcases cmpT_range t2 t3 with hy | hy | hy
      · rw [hy]
        go_wp2_with fail
        refine (cmpTI_any _ _ t t3 _ _ h h3 _ (HTT.out _ HB27.out).1 (HT3.out.below HB7.out) HW.out HW3.out).mono ?_
        rintro e w8 ⟨rfl, hb8⟩
        have HBX8 := Lib.hid (HBX7.out.trans (hb8.mono HBX7.out.size))
        have hz := HORD.out t3 (by decide) (by rw [hy]; decide)
        go_wp2
        go_ret
        exact ⟨by simp, HBX8.out⟩
      · rw [hy]
        go_wp2_with fail
        refine (cmpTI_any _ _ t t3 _ _ h h3 _ (HTT.out _ HB27.out).1 (HT3.out.below HB7.out) HW.out HW3.out).mono ?_
        rintro e w8 ⟨rfl, hb8⟩
        have HBX8 := Lib.hid (HBX7.out.trans (hb8.mono HBX7.out.size))
        have hz := HORD.out t3 (by decide) (by rw [hy]; decide)
        go_wp2
        go_ret
        exact ⟨by simp, HBX8.out⟩
      · rw [hy]
        go_wp2
        go_ret
        exact ⟨by simp, HBX7.out⟩
    · go_wp2_with fail
      refine (HSC.out _ hb0).mono ?_
      rintro e w3 ⟨rfl, hb3⟩
      clear c0 c1 c2 c3 d0 d1 d2 d3 hb0
      obtain ⟨c0, c1, c2, c3, d0, d1, d2, d3, _⟩ := HKC.out _ hb3
      go_wp2_with fail
      refine (HIC.out _ hb3).mono ?_
      rintro e w4 ⟨rfl, hb4⟩
      clear c0 c1 c2 c3 d0 d1 d2 d3 hb3
      obtain ⟨c0, c1, c2, c3, d0, d1, d2, d3, _⟩ := HKC.out _ hb4
      go_wp2_with fail
      refine (HEQ.out _ hb4).mono ?_
      rintro e w5 ⟨rfl, hb5⟩
      clear c0 c1 c2 c3 d0 d1 d2 d3 hb4
      obtain ⟨c0, c1, c2, c3, d0, d1, d2, d3, _⟩ := HKC.out _ hb5
      go_wp2_with fail
      refine (drawGround_any _ len _ (HC1.out.below (HBW.out.trans (hb5.mono HBW.out.size)))).mono ?_
      rintro e w6 ⟨k3, n3, s3, ta3, tm3, tc3, t3, h3, rfl, ht3, hw3, hb6⟩
      have hbx3 := boxed_below w6 k3 n3 s3 (.slice ta3 tm3 tc3)
      have HT3 := Lib.hid (ht3.below hbx3)
      have HW3 : Hid (wT t3 ≤ 1048576) := Lib.hid (by omega)
      have HB6 := Lib.hid ((hb5.trans (hb6.mono hb5.size)).trans (hbx3.mono (hb5.trans (hb6.mono hb5.size)).size))
      have HBX := Lib.hid (HBW.out.trans (HB6.out.mono HBW.out.size))
      obtain ⟨e0, e1, e2, e3⟩ := boxed_cells (Below.refl (boxed w6 k3 n3 s3 (.slice ta3 tm3 tc3)).heap.size (boxed w6 k3 n3 s3 (.slice ta3 tm3 tc3)))
      clear c0 c1 c2 c3 d0 d1 d2 d3 ht3 hw3 hb6 hbx3 hb5
      obtain ⟨c0, c1, c2, c3, d0, d1, d2, d3, _⟩ := HKC.out _ HB6.out
      go_wp2_with fail
      refine (cmpTI_any _ _ t2 t3 _ _ h2 h3 _ (HTT.out _ HB6.out).2 HT3.out HW2.out HW3.out).mono ?_
      rintro e w7 ⟨rfl, hb7⟩
      have HB7 := Lib.hid hb7
      have HB27 := Lib.hid (HB6.out.trans (hb7.mono HB6.out.size))
      have HBX7 := Lib.hid (HBX.out.trans (hb7.mono HBX.out.size))
      clear c0 c1 c2 c3 d0 d1 d2 d3 e0 e1 e2 e3
      obtain ⟨e0, e1, e2, e3⟩ := boxed_cells hb7
      obtain ⟨c0, c1, c2, c3, d0, d1, d2, d3, _⟩ := HKC.out _ HB27.out
      clear hb7
      rcases cmpT_range t2 t3 with hy | hy | hy
      · rw [hy]
        go_wp2_with fail
        refine (cmpTI_any _ _ t t3 _ _ h h3 _ (HTT.out _ HB27.out).1 (HT3.out.below HB7.out) HW.out HW3.out).mono ?_
        rintro e w8 ⟨rfl, hb8⟩
        have HBX8 := Lib.hid (HBX7.out.trans (hb8.mono HBX7.out.size))
        have hz := HORD.out t3 (by decide) (by rw [hy]; decide)
        go_wp2
        go_ret
        exact ⟨by simp, HBX8.out⟩
      · rw [hy]
        go_wp2_with fail
        refine (cmpTI_any _ _ t t3 _ _ h h3 _ (HTT.out _ HB27.out).1 (HT3.out.below HB7.out) HW.out HW3.out).mono ?_
        rintro e w8 ⟨rfl, hb8⟩
        have HBX8 := Lib.hid (HBX7.out.trans (hb8.mono HBX7.out.size))
        have hz := HORD.out t3 (by decide) (by rw [hy]; decide)
        go_wp2
        go_ret
        exact ⟨by simp, HBX8.out⟩
      · rw [hy]
        go_wp2
        go_ret
        exact ⟨by simp, HBX7.out⟩
    · go_wp2_with fail
      refine (HSC.out _ hb0).mono ?_
      rintro e w3 ⟨rfl, hb3⟩
      clear c0 c1 c2 c3 d0 d1 d2 d3 hb0
      obtain ⟨c0, c1, c2, c3, d0, d1, d2, d3, _⟩ := HKC.out _ hb3
      go_wp2_with fail
      refine (HIC.out _ hb3).mono ?_
      rintro e w4 ⟨rfl, hb4⟩
      clear c0 c1 c2 c3 d0 d1 d2 d3 hb3
      obtain ⟨c0, c1, c2, c3, d0, d1, d2, d3, _⟩ := HKC.out _ hb4
      go_wp2_with fail
      refine (HEQ.out _ hb4).mono ?_
      rintro e w5 ⟨rfl, hb5⟩
      clear c0 c1 c2 c3 d0 d1 d2 d3 hb4
      obtain ⟨c0, c1, c2, c3, d0, d1, d2, d3, _⟩ := HKC.out _ hb5
      go_wp2_with fail
      refine (drawGround_any _ len _ (HC1.out.below (HBW.out.trans (hb5.mono HBW.out.size)))).mono ?_
      rintro e w6 ⟨k3, n3, s3, ta3, tm3, tc3, t3, h3, rfl, ht3, hw3, hb6⟩
      have hbx3 := boxed_below w6 k3 n3 s3 (.slice ta3 tm3 tc3)
      have HT3 := Lib.hid (ht3.below hbx3)
      have HW3 : Hid (wT t3 ≤ 1048576) := Lib.hid (by omega)
      have HB6 := Lib.hid ((hb5.trans (hb6.mono hb5.size)).trans (hbx3.mono (hb5.trans (hb6.mono hb5.size)).size))
      have HBX := Lib.hid (HBW.out.trans (HB6.out.mono HBW.out.size))
      obtain ⟨e0, e1, e2, e3⟩ := boxed_cells (Below.refl (boxed w6 k3 n3 s3 (.slice ta3 tm3 tc3)).heap.size (boxed w6 k3 n3 s3 (.slice ta3 tm3 tc3)))
      clear c0 c1 c2 c3 d0 d1 d2 d3 ht3 hw3 hb6 hbx3 hb5
      obtain ⟨c0, c1, c2, c3, d0, d1, d2, d3, _⟩ := HKC.out _ HB6.out
      go_wp2
      go_ret
      exact ⟨by simp, HBX.out⟩
end Go.Proofs.Ytbechogdijkgjaa
