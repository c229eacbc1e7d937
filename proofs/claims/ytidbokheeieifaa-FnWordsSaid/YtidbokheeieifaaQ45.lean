/-
  The law on words answers true at every draw: its walk.
-/
import Derived.Test.YtidbokheeieifaaQ13
import Derived.Test.YtidbokheeieifaaQ14
import Derived.Test.YtidbokheeieifaaQ43
import Derived.Test.YtidbokheeieifaaQ38
import Derived.Test.YtidbokheeieifaaQ44
import Derived.Deep.RegionHeld3
namespace Go.Proofs.Ytidbokheeieifaa
open Go.RowKit

/-- What is reduced is not reduced further. -/
theorem red_red : ∀ t, redT (redT t) = redT t
  | .node k n s xs => by
    have ih : ∀ x ∈ xs, redT (redT x) = redT x := fun x hx => red_red x
    rw [redT_node]
    cases hg : goesB k n s (xs.map redT) with
    | true => rw [red1_yes hg, redT_node]; exact red1_no (by unfold goesB; simp)
    | false =>
      rw [red1_no hg, redT_node]
      have e : (xs.map redT).map redT = xs.map redT := by
        rw [List.map_map]
        exact List.map_congr_left fun x hx => ih x hx
      rw [e, red1_no hg]
theorem holds_swap {l r : T} (h : holdsG ⟨3, l, r⟩ = true) : holdsG ⟨3, r, l⟩ = false := by
  by_cases hv : vT l ≠ [] ∨ vT r ≠ []
  · rw [holds_var hv] at h; cases h
  have h1 : vT l = [] := Classical.byContradiction fun e => hv (Or.inl e)
  have h2 : vT r = [] := Classical.byContradiction fun e => hv (Or.inr e)
  rw [holds_3 h1 h2 rfl] at h
  rw [holds_3 h2 h1 rfl]
  simp only [Bool.and_eq_true, decide_eq_true_eq] at h
  simp only [Bool.and_eq_false_iff, decide_eq_false_iff_not]
  right; right; omega
theorem holds_other {l r : T} (h1 : vT l = []) (h2 : vT r = []) : holdsG ⟨2, l, r⟩ = !holdsG ⟨1, l, r⟩ := by
  have e1 := holds_1 (g := ⟨1, l, r⟩) h1 h2 rfl
  have e2 := holds_2 (g := ⟨2, l, r⟩) h1 h2 rfl
  cases ha : holdsG ⟨1, l, r⟩ <;> cases hb : holdsG ⟨2, l, r⟩ <;> simp_all
theorem GAt.swap {w : World} {lo h : Nat} {kd k n : Int} {s : ByteArray} {u : Value} {k' n' : Int} {s' : ByteArray} {u' : Value} {g : Gd} (q : GAt w lo h (gv kd k n s u k' n' s' u') g) : GAt w lo h (gv 3 k' n' s' u' k n s u) ⟨3, g.r, g.l⟩ :=
  ⟨k', n', s', u', k, n, s, u, rfl, q.sides.2, q.sides.1⟩

set_option maxRecDepth 100000 in
set_option maxHeartbeats 6400000 in
theorem words_any (a : Option Addr) (len cap : Nat) (w : World) (hcode : len ≤ 1048576 → CodeAt w w.heap.size (.slice a len cap) len) :
    Calls Try.prog 3 #[.slice a len cap] w (TrueAt w) := by
  have HC := Lib.hid hcode; clear hcode
  by_cases hbig : 1048576 < len
  · have hd : decide (1048576 < len) = true := by simpa using hbig
    have HK := Lib.hid (big_any a len cap w)
    rw [hd] at HK
    go_enter Try.func3, Try.ntmps3
    go_wp2_with fail
    refine HK.out.mono ?_
    rintro e w1 ⟨rfl, rfl⟩
    go_wp2
    go_ret
    exact ⟨rfl, Below.refl _ _⟩
  have hd : decide (1048576 < len) = false := by simpa using hbig
  have HK := Lib.hid (big_any a len cap w)
  rw [hd] at HK
  have HC1 := Lib.hid (HC.out (by omega))
  clear hbig hd HC
  go_enter Try.func3, Try.ntmps3
  go_wp2_with fail
  refine HK.out.mono ?_
  rintro e w0 ⟨rfl, rfl⟩
  clear HK
  go_wp2_with fail
  refine (drawReduce_any _ len _ HC1.out).mono ?_
  rintro e w1 ⟨k, n, s, ta, tm, tc, t, h, rfl, ht, hwt, hb1⟩
  have hct := cT_le t
  obtain ⟨X, hX⟩ : ∃ X, X = w1.alloc (.cells #[.int .i64 k, .int .i64 n, .string s, .slice ta tm tc] 26) := ⟨_, rfl⟩
  have hbX : Below w1.heap.size w1 X := by rw [hX]; exact (Below.refl _ _).alloc (Nat.le_refl _) _
  have rX : X.heap[w1.heap.size]? = some (trow k n s (.slice ta tm tc)) := by rw [hX]; exact heap_new w1 _ rfl
  have HT := Lib.hid (And.intro (ht.below hbX) (And.intro rX (show cT t ≤ 4294967296 by omega)))
  have HBX := Lib.hid (hb1.trans (hbX.mono hb1.size))
  clear ht hwt hb1 hct hbX rX
  go_wp2_with fail
  rw [← hX]
  clear hX
  refine (iRed_any _ t _ h X HT.out.1 HT.out.2.2).mono ?_
  rintro e w2 ⟨H, kr, nr, sr, ar, mr, cr, rfl, htr, hb2⟩
  obtain ⟨Y, hY⟩ : ∃ Y, Y = w2.alloc (.cells #[.int .i64 kr, .int .i64 nr, .string sr, .slice ar mr cr] 26) := ⟨_, rfl⟩
  have hbY : Below w2.heap.size w2 Y := by rw [hY]; exact (Below.refl _ _).alloc (Nat.le_refl _) _
  have rY : Y.heap[w2.heap.size]? = some (trow kr nr sr (.slice ar mr cr)) := by rw [hY]; exact heap_new w2 _ rfl
  have hXY := bel_two hb2 hbY
  have HTY := Lib.hid (And.intro (HT.out.1.below hXY) (And.intro ((hXY.block _ (Array.getElem?_eq_some_iff.1 HT.out.2.1).1).trans HT.out.2.1) HT.out.2.2))
  have HRY := Lib.hid (And.intro (htr.below hbY) (And.intro rY (Nat.le_trans (cT_red t) HT.out.2.2)))
  have HBY := Lib.hid (HBX.out.trans (hXY.mono HBX.out.size))
  clear htr hb2 hbY rY hXY HT HBX
  have HCELL : Hid (∀ w', Below Y.heap.size Y w' → (w'.cell? ⟨w1.heap.size, 0, none⟩ = some (.int .i64 k) ∧ w'.cell? ⟨w1.heap.size, 1, none⟩ = some (.int .i64 n) ∧ w'.cell? ⟨w1.heap.size, 2, none⟩ = some (.string s) ∧ w'.cell? ⟨w1.heap.size, 3, none⟩ = some (.slice ta tm tc) ∧
      w'.cell? ⟨w2.heap.size, 0, none⟩ = some (.int .i64 kr) ∧ w'.cell? ⟨w2.heap.size, 1, none⟩ = some (.int .i64 nr) ∧ w'.cell? ⟨w2.heap.size, 2, none⟩ = some (.string sr) ∧ w'.cell? ⟨w2.heap.size, 3, none⟩ = some (.slice ar mr cr) ∧ Below Y.heap.size Y w')) := Lib.hid (fun w' hb => by
    obtain ⟨⟨a0, a1, a2, a3⟩, _⟩ := cells_of4 ((hb.block _ (Array.getElem?_eq_some_iff.1 HTY.out.2.1).1).trans HTY.out.2.1)
    obtain ⟨⟨b0, b1, b2, b3⟩, _⟩ := cells_of4 ((hb.block _ (Array.getElem?_eq_some_iff.1 HRY.out.2.1).1).trans HRY.out.2.1)
    exact ⟨a0, a1, a2, a3, b0, b1, b2, b3, hb⟩)
  go_wp2
  rw [← hY]
  clear hY
  have hbd : Below Y.heap.size Y Y.drew := (Below.refl _ _).drew
  obtain ⟨a0, a1, a2, a3, b0, b1, b2, b3, hbx⟩ := HCELL.out Y (Below.refl _ _)
  have HF0 := Lib.hid True.intro
  go_region_held3 (fun w' => w'.cell? ⟨w1.heap.size, 0, none⟩ = some (.int .i64 k) ∧ w'.cell? ⟨w1.heap.size, 1, none⟩ = some (.int .i64 n) ∧ w'.cell? ⟨w1.heap.size, 2, none⟩ = some (.string s) ∧ w'.cell? ⟨w1.heap.size, 3, none⟩ = some (.slice ta tm tc) ∧
      w'.cell? ⟨w2.heap.size, 0, none⟩ = some (.int .i64 kr) ∧ w'.cell? ⟨w2.heap.size, 1, none⟩ = some (.int .i64 nr) ∧ w'.cell? ⟨w2.heap.size, 2, none⟩ = some (.string sr) ∧ w'.cell? ⟨w2.heap.size, 3, none⟩ = some (.slice ar mr cr) ∧ Below Y.heap.size Y w')
    (first | with_reducible exact HCELL.out _ (by with_reducible assumption) | with_reducible exact HCELL.out _ (Below.drew (by with_reducible assumption)) | with_reducible exact HCELL.out _ (bel_two (by with_reducible assumption) (by with_reducible assumption)) | go_keep)
    (first
      | (go_at_call 14; refine (sRed_any h (tv k n s (.slice ta tm tc)) t _ _ (HTY.out.1.below hbd) HTY.out.2.2).mono ?_; rintro e wa hca; obtain ⟨Ha, ka, na, sa, aa, ma, ca, rfl, hta, hba⟩ := CopyE.read ⟨_, hca⟩; clear hca; have hBa := bel_two hbd hba)
      | (clear HF0; go_at_call 13; refine (sSame_anyK _ _ _ _ _ (redT t) (redT t) wa _ (HRY.out.1.below hBa) hta HRY.out.2.2).mono ?_; rintro e wb ⟨bb, ⟨rfl, hbb⟩, hqb⟩; obtain rfl : bb = true := hqb.2 rfl; clear hqb; have hBb := bel_two hBa hbb; have HFA := Lib.hid True.intro)
      | (go_at_call 12; refine (iRed_any _ (redT t) _ _ wb (HRY.out.1.below hBb) HRY.out.2.2).mono ?_; rintro e wc ⟨Hc, kc, nc, sc, ac, mc, cc, rfl, htc, hbc⟩; have hBc := bel_two hBb hbc)
      | (clear HFA; go_at_call 13; refine (sSame_anyK _ _ _ _ _ (redT (redT t)) (redT t) wc _ htc (HRY.out.1.below hBc) (Nat.le_trans (cT_red _) HRY.out.2.2)).mono ?_; rintro e wd ⟨bd, ⟨rfl, hbd2⟩, hqd⟩; obtain rfl : bd = true := hqd.2 (red_red t); clear hqd; have hBd := bel_two hBc hbd2))
  have HBW := Lib.hid (HBY.out.trans (hBd.mono HBY.out.size))
  have HC2 : Hid (CodeAt wd wd.heap.size (.slice a len cap) len) := Lib.hid (HC1.out.below HBW.out)
  clear a0 a1 a2 a3 b0 b1 b2 b3 hbx hbd hBa hBb hBc hBd hba hbb hbc hbd2 hta htc HCELL HTY HRY HBY HC1
  go_wp2_with fail
  refine (drawHoldsG_any _ len _ HC2.out).mono ?_
  rintro e w4 ⟨kd, k2, n2, s2, a4, m2, c2, k3, n3, s3, a3x, m3, c3, t1, t2, h1, h2, rfl, hkd, ht1, ht2, hw1, hw2, hb4⟩
  have HGA : Hid (GAt w4 wd.heap.size (max h1 h2) (gv kd k2 n2 s2 (.slice a4 m2 c2) k3 n3 s3 (.slice a3x m3 c3)) ⟨kd, t1, t2⟩) := Lib.hid ⟨k2, n2, s2, _, k3, n3, s3, _, rfl, by
    obtain ⟨q1, q2, q3, q4, q5, e1, e2, e3, e4⟩ := ht1
    exact ⟨q1, q2, q3, q4, q5, e1, e2, e3, e4.le (Nat.le_max_left _ _)⟩, by
    obtain ⟨q1, q2, q3, q4, q5, e1, e2, e3, e4⟩ := ht2
    exact ⟨q1, q2, q3, q4, q5, e1, e2, e3, e4.le (Nat.le_max_right _ _)⟩⟩
  have HWG : Hid (wT t1 ≤ 1000 ∧ wT t2 ≤ 1000) := Lib.hid ⟨hw1, hw2⟩
  have HB4 := Lib.hid (HBW.out.trans (hb4.mono HBW.out.size))
  clear ht1 ht2 hw1 hw2 hb4 HC2 HBW
  obtain ⟨Z, hZ⟩ : ∃ Z, Z = w4.alloc (.cells #[.int .i64 kd, .int .i64 k2, .int .i64 n2, .string s2, .slice a4 m2 c2, .int .i64 k3, .int .i64 n3, .string s3, .slice a3x m3 c3] 31) := ⟨_, rfl⟩
  have hbZ : Below w4.heap.size w4 Z := by rw [hZ]; exact (Below.refl _ _).alloc (Nat.le_refl _) _
  have rZ : Z.heap[w4.heap.size]? = some (grow 31 kd k2 n2 s2 (.slice a4 m2 c2) k3 n3 s3 (.slice a3x m3 c3)) := by rw [hZ]; exact heap_new w4 _ rfl
  have HGZ : Hid (∀ w', Below Z.heap.size Z w' → GAt w' wd.heap.size (max h1 h2) (gv kd k2 n2 s2 (.slice a4 m2 c2) k3 n3 s3 (.slice a3x m3 c3)) ⟨kd, t1, t2⟩) := Lib.hid (fun w' hb => HGA.out.below (bel_two hbZ hb))
  have HRZ : Hid (∀ w', Below Z.heap.size Z w' → w'.heap[w4.heap.size]? = some (grow 31 kd k2 n2 s2 (.slice a4 m2 c2) k3 n3 s3 (.slice a3x m3 c3))) := Lib.hid (fun w' hb => (hb.block _ (Array.getElem?_eq_some_iff.1 rZ).1).trans rZ)
  have HBZ := Lib.hid (HB4.out.trans (hbZ.mono HB4.out.size))
  clear hbZ rZ HGA HB4
  have HWB : Hid (∀ x : Int, wG ⟨x, t1, t2⟩ ≤ 1048576 ∧ wG ⟨x, t2, t1⟩ ≤ 1048576) := Lib.hid (fun x => by unfold wG; simp only; have := HWG.out; omega)
  obtain ⟨okv, hok⟩ : ∃ b, b = holdsG ⟨kd, t1, t2⟩ := ⟨_, rfl⟩
  have HOK := Lib.hid hok
  clear hok
  obtain ⟨g0, g1, g2, g3, g4, g5, g6, g7, g8⟩ := cells_of9 (HRZ.out Z (Below.refl _ _))
  rw [hZ] at g0 g1 g2 g3 g4 g5 g6 g7 g8
  go_wp2_with fail
  rw [← hZ]
  clear hZ g0 g1 g2 g3 g4 g5 g6 g7 g8
  refine (iHolds_any _ ⟨kd, t1, t2⟩ _ _ Z (HGZ.out Z (Below.refl _ _)) (HWB.out kd).1).mono ?_
  rintro e w5 ⟨rfl, hb5⟩
  rw [← HOK.out]
  have HB5 := Lib.hid hb5
  clear hb5
  -- the other guard
  have hgb : w4.heap.size < w5.heap.size := (Array.getElem?_eq_some_iff.1 (HRZ.out w5 HB5.out)).1
  obtain ⟨V0, hV0⟩ : ∃ V, V = w5.alloc (.cells #[.int .i64 kd, .int .i64 k2, .int .i64 n2, .string s2, .slice a4 m2 c2, .int .i64 k3, .int .i64 n3, .string s3, .slice a3x m3 c3] 31) := ⟨_, rfl⟩
  obtain ⟨V, hV⟩ : ∃ V, V = w5.alloc (.cells #[.int .i64 (3 - kd), .int .i64 k2, .int .i64 n2, .string s2, .slice a4 m2 c2, .int .i64 k3, .int .i64 n3, .string s3, .slice a3x m3 c3] 31) := ⟨_, rfl⟩
  obtain ⟨g0, g1, g2, g3, g4, g5, g6, g7, g8⟩ := cells_of9 (HRZ.out w5 HB5.out)
  have e0 : V0.cell? ⟨w4.heap.size, 0, none⟩ = some (.int .i64 kd) := by
    have hb : Below w5.heap.size w5 V0 := by rw [hV0]; exact (Below.refl _ _).alloc (Nat.le_refl _) _
    exact (cells_of9 (HRZ.out V0 (bel_two HB5.out hb))).1
  rw [hV0] at e0
  clear hV0
  go_wp2_with fail
  rw [← hV]
  have hbV : Below w5.heap.size w5 V := by rw [hV]; exact (Below.refl _ _).alloc (Nat.le_refl _) _
  have rV : V.heap[w5.heap.size]? = some (grow 31 (3 - kd) k2 n2 s2 (.slice a4 m2 c2) k3 n3 s3 (.slice a3x m3 c3)) := by rw [hV]; exact heap_new w5 _ rfl
  have HRV : Hid (∀ w', Below V.heap.size V w' → w'.heap[w5.heap.size]? = some (grow 31 (3 - kd) k2 n2 s2 (.slice a4 m2 c2) k3 n3 s3 (.slice a3x m3 c3))) := Lib.hid (fun w' hb => (hb.block _ (Array.getElem?_eq_some_iff.1 rV).1).trans rV)
  have HBV := Lib.hid (bel_two HB5.out hbV)
  have HGO : Hid (∀ w', Below V.heap.size V w' → GAt w' wd.heap.size (max h1 h2) (gv (3 - kd) k2 n2 s2 (.slice a4 m2 c2) k3 n3 s3 (.slice a3x m3 c3)) ⟨3 - kd, t1, t2⟩) := Lib.hid (fun w' hb => by
    have q := (HGZ.out w' (bel_two HBV.out hb)).sides
    exact ⟨k2, n2, s2, _, k3, n3, s3, _, rfl, q.1, q.2⟩)
  clear hV hbV rV e0 g0 g1 g2 g3 g4 g5 g6 g7 g8 hgb
  refine (sHolds_any _ ⟨kd, t1, t2⟩ _ _ V (HGZ.out V HBV.out) (HWB.out kd).1).mono ?_
  rintro e w6 ⟨rfl, hb6⟩
  rw [← HOK.out]
  have hbb : (okv != okv) = false := by simp
  have HV6 := Lib.hid hb6
  have HB6 := Lib.hid (bel_two HBV.out hb6)
  clear hb6
  have HFIN : Hid (∀ w', Below w6.heap.size w6 w' → TrueAt w (.returned (.bool true)) w') := Lib.hid (fun w' hb => ⟨rfl, HBZ.out.trans ((bel_two HB6.out hb).mono HBZ.out.size)⟩)
  obtain ⟨g0, g1, g2, g3, g4, g5, g6, g7, g8⟩ := cells_of9 (HRZ.out w6 HB6.out)
  by_cases hk1 : kd = 1
  · subst hk1
    go_wp2_with fail
    refine (sGround_any _ t1 _ _ w6 (HGZ.out w6 HB6.out).sides.1 (by have := HWG.out; omega)).mono ?_
    rintro e w7 ⟨q1, rfl, hq1, hb7⟩
    have H7 := Lib.hid hb7
    have HQ1 := Lib.hid hq1
    clear hb7 hq1 g0 g1 g2 g3 g4 g5 g6 g7 g8
    obtain ⟨g0, g1, g2, g3, g4, g5, g6, g7, g8⟩ := cells_of9 (HRZ.out w7 (bel_two HB6.out H7.out))
    cases q1 with
    | false =>
      go_wp2
      go_ret
      exact HFIN.out _ H7.out
    | true =>
    go_wp2_with fail
    refine (sGround_any _ t2 _ _ w7 (HGZ.out w7 (bel_two HB6.out H7.out)).sides.2 (by have := HWG.out; omega)).mono ?_
    rintro e w8 ⟨q2, rfl, hq2, hb8⟩
    have H8 := Lib.hid (bel_two H7.out hb8)
    have HQ2 := Lib.hid hq2
    clear hb8 hq2 g0 g1 g2 g3 g4 g5 g6 g7 g8
    obtain ⟨g0, g1, g2, g3, g4, g5, g6, g7, g8⟩ := cells_of9 (HRZ.out w8 (bel_two HB6.out H8.out))
    cases q2 with
    | false =>
      go_wp2
      go_ret
      exact HFIN.out _ H8.out
    | true =>
    have HNE : Hid (holdsG ⟨3 - 1, t1, t2⟩ = !okv) := Lib.hid (by
      show holdsG ⟨2, t1, t2⟩ = !okv
      rw [HOK.out]; exact holds_other (by first | exact HQ1.out.1 rfl | exact HQ1.out.1 trivial) (by first | exact HQ2.out.1 rfl | exact HQ2.out.1 trivial))
    have hne : ((!okv) == okv) = false := by cases okv <;> rfl
    have HIO := Lib.hid (iHolds_any _ ⟨3 - 1, t1, t2⟩ _ _ w8 (HGO.out w8 (bel_two HV6.out H8.out)) (HWB.out _).1)
    obtain ⟨o0, o1, o2, o3, o4, o5, o6, o7, o8⟩ := cells_of9 (HRV.out w8 (bel_two HV6.out H8.out))
    go_wp2_with fail
    refine HIO.out.mono ?_
    rintro e w9 ⟨rfl, hb9⟩
    rw [HNE.out]
    have H9 := Lib.hid (bel_two H8.out hb9)
    clear hb9 g0 g1 g2 g3 g4 g5 g6 g7 g8 o0 o1 o2 o3 o4 o5 o6 o7 o8
    obtain ⟨g0, g1, g2, g3, g4, g5, g6, g7, g8⟩ := cells_of9 (HRZ.out w9 (bel_two HB6.out H9.out))
    go_wp2
    go_ret
    exact HFIN.out _ H9.out
  have hk1b : (kd == 1) = false := by simpa using hk1
  by_cases hk3 : kd = 3
  · subst hk3
    cases okv with
    | false =>
      go_wp2
      go_ret
      exact HFIN.out _ (Below.refl _ _)
    | true =>
    have HNE : Hid (holdsG ⟨3, t2, t1⟩ = false) := Lib.hid (holds_swap HOK.out.symm)
    have HIO := Lib.hid (iHolds_any _ ⟨3, t2, t1⟩ _ _ w6 (HGZ.out w6 HB6.out).swap (HWB.out _).2)
    go_wp2_with fail
    refine HIO.out.mono ?_
    rintro e w9 ⟨rfl, hb9⟩
    rw [HNE.out]
    have H9 := Lib.hid hb9
    clear hb9
    go_wp2
    go_ret
    exact HFIN.out _ H9.out
  have hk3b : (kd != 3) = true := by simpa using hk3
  go_wp2
  go_ret
  exact HFIN.out _ (Below.refl _ _)
end Go.Proofs.Ytidbokheeieifaa
