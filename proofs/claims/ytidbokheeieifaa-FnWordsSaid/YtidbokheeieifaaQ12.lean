/-
  laws.szGuard counts what a guard holds, laws.toGuard copies it into memory of the call's own, laws.eqGuard compares two readings of one guard.
-/
import Derived.Test.YtidbokheeieifaaQ10
import Derived.Test.YtidbokheeieifaaQ11
import Derived.Deep.RegionHeld3
namespace Go.Proofs.Ytidbokheeieifaa
open Go.RowKit

set_option maxRecDepth 100000 in
set_option maxHeartbeats 800000 in
theorem szG_any (v : Value) (g : Gd) (lo h : Nat) (left : Int) (w : World) (hv : GAt w lo h v g) (h0 : 0 ≤ left) (h1 : left ≤ 1048576) :
    Calls Try.prog 37 #[v, .int .i64 left] w (TSz (wG g) left w) := by
  obtain ⟨k, n, s, u, k', n', s', u', rfl, ht1, ht2⟩ := hv
  obtain ⟨W, hW⟩ : ∃ W, W = w.alloc (.cells #[.int .i64 g.kd, .int .i64 k, .int .i64 n, .string s, u, .int .i64 k', .int .i64 n', .string s', u'] 66) := ⟨_, rfl⟩
  have hb0 : Below w.heap.size w W := by rw [hW]; exact (Below.refl _ _).alloc (Nat.le_refl _) _
  have hr : W.heap[w.heap.size]? = some (grow 66 g.kd k n s u k' n' s' u') := by rw [hW]; exact heap_new _ _ rfl
  have HR := Lib.hid hr; clear hr
  have HT1 := Lib.hid (ht1.below hb0); clear ht1
  have HT2 := Lib.hid (ht2.below hb0); clear ht2
  have HB0 := Lib.hid hb0; clear hb0
  obtain ⟨t1, e1⟩ : ∃ t, t = g.l := ⟨_, rfl⟩
  obtain ⟨t2, e2⟩ : ∃ t, t = g.r := ⟨_, rfl⟩
  have HW : Hid (wG g = wT t1 + wT t2) := Lib.hid (by rw [e1, e2]; rfl)
  rw [← e1] at HT1
  rw [← e2] at HT2
  obtain ⟨kd, ekd⟩ : ∃ kd, kd = g.kd := ⟨_, rfl⟩
  rw [← ekd] at HR hW ⊢
  obtain ⟨tw, htw⟩ : ∃ tw, tw = wG g := ⟨_, rfl⟩
  rw [← htw] at HW ⊢
  clear e1 e2 ekd htw
  go_enter Try.func37, Try.ntmps37
  go_wp2_with fail
  rw [← hW]
  clear hW
  refine (szT_any _ t1 lo h left _ HT1.out h0 h1).mono ?_
  rintro e w1 ⟨r, rfl, hb1, hr1, hr2⟩
  have HR2 := Lib.hid hr2; clear hr2
  have HBW := Lib.hid hb1
  have HB1 := Lib.hid (HB0.out.trans (hb1.mono HB0.out.size)); clear hb1
  by_cases hrn : r < 0
  · go_wp2
    go_ret
    exact ⟨-1, rfl, HB1.out, by omega, fun h => by omega⟩
  have hx := HR2.out (by omega)
  obtain ⟨d0, d1, d2, d3, d4, d5, d6, d7, d8⟩ := cells_of9 ((HBW.out.block _ (Array.getElem?_eq_some_iff.1 HR.out).1).trans HR.out)
  clear d0 d1 d2 d3 d4
  go_wp2_with fail
  refine (szT_any _ t2 lo h r _ (HT2.out.below HBW.out) (by omega) (by omega)).mono ?_
  rintro e w2 ⟨r2, rfl, hb2, hr3, hr4⟩
  clear d5 d6 d7 d8
  have HR4 := Lib.hid hr4; clear hr4
  have HB2 := Lib.hid (HB1.out.trans (hb2.mono HB1.out.size)); clear hb2
  by_cases hrn2 : r2 < 0
  · go_wp2
    go_ret
    exact ⟨-1, rfl, HB2.out, by omega, fun h => by omega⟩
  · go_wp2
    go_ret
    refine ⟨r2, rfl, HB2.out, by omega, fun h => ?_⟩
    have h2 := HR4.out (by omega)
    have h3 := HW.out
    omega

/-- Four cells behind one. -/
theorem set4_heap {W : World} {b : Nat} {x0 x1 x2 x3 x4 x5 x6 x7 x8 : Value} {ty : TypeId} (h : W.heap[b]? = some (.cells #[x0, x1, x2, x3, x4, x5, x6, x7, x8] ty (0, 0))) (y1 y2 y3 y4 : Value) :
    ((((W.setCell ⟨b, 1, none⟩ y1).setCell ⟨b, 2, none⟩ y2).setCell ⟨b, 3, none⟩ y3).setCell ⟨b, 4, none⟩ y4).heap[b]? = some (.cells #[x0, y1, y2, y3, y4, x5, x6, x7, x8] ty (0, 0)) := by
  have h1 := heap_set_atK h 1 y1
  have h2 := heap_set_atK h1 2 y2
  have h3 := heap_set_atK h2 3 y3
  have h4 := heap_set_atK h3 4 y4
  simpa using h4
theorem set4_heap' {W : World} {b : Nat} {x0 x1 x2 x3 x4 x5 x6 x7 x8 : Value} {ty : TypeId} (h : W.heap[b]? = some (.cells #[x0, x1, x2, x3, x4, x5, x6, x7, x8] ty (0, 0))) (y1 y2 y3 y4 : Value) :
    ((((W.setCell ⟨b, 5, none⟩ y1).setCell ⟨b, 6, none⟩ y2).setCell ⟨b, 7, none⟩ y3).setCell ⟨b, 8, none⟩ y4).heap[b]? = some (.cells #[x0, x1, x2, x3, x4, y1, y2, y3, y4] ty (0, 0)) := by
  have h1 := heap_set_atK h 5 y1
  have h2 := heap_set_atK h1 6 y2
  have h3 := heap_set_atK h2 7 y3
  have h4 := heap_set_atK h3 8 y4
  simpa using h4
theorem set9_heap {W : World} {b c : Nat} (hc : c ≠ b) (y0 y1 y2 y3 y4 y5 y6 y7 y8 : Value) :
    (((((((((W.setCell ⟨b, 0, none⟩ y0).setCell ⟨b, 1, none⟩ y1).setCell ⟨b, 2, none⟩ y2).setCell ⟨b, 3, none⟩ y3).setCell ⟨b, 4, none⟩ y4).setCell ⟨b, 5, none⟩ y5).setCell ⟨b, 6, none⟩ y6).setCell ⟨b, 7, none⟩ y7).setCell ⟨b, 8, none⟩ y8).heap[c]? = W.heap[c]? := by
  have st : ∀ (X : World) (j : Nat) (v : Value), (X.setCell ⟨b, j, none⟩ v).heap[c]? = X.heap[c]? := fun X j v => Below.heap_setCell _ _ _ _ (fun e => hc (by simpa using e))
  rw [st, st, st, st, st, st, st, st, st]
theorem set4_other {W : World} {b c j1 j2 j3 j4 : Nat} (hc : c ≠ b) (y1 y2 y3 y4 : Value) :
    ((((W.setCell ⟨b, j1, none⟩ y1).setCell ⟨b, j2, none⟩ y2).setCell ⟨b, j3, none⟩ y3).setCell ⟨b, j4, none⟩ y4).heap[c]? = W.heap[c]? := by
  have st : ∀ (X : World) (j : Nat) (v : Value), (X.setCell ⟨b, j, none⟩ v).heap[c]? = X.heap[c]? := fun X j v => Below.heap_setCell _ _ _ _ (fun e => hc (by simpa using e))
  rw [st, st, st, st]

theorem toG_fin {w w3 : World} {g : Gd} {lo mid h : Nat} {k n : Int} {s : ByteArray} {u : Value} {xs : List T} {k' n' : Int} {s' : ByteArray} {u' : Value} {xs' : List T} (el : g.l = .node k n s xs) (er : g.r = .node k' n' s' xs') (hs : s.size ≤ maxLen ∧ s'.size ≤ maxLen)
    (hlo : w.heap.size + 2 < lo) (hml : lo ≤ mid) (hmid : mid ≤ w3.heap.size) (ha : ArgsAt w3 lo h u xs) (ho : OwnA w3 h lo mid u xs) (ha' : ArgsAt w3 mid h u' xs') (ho' : OwnA w3 h mid w3.heap.size u' xs') (hb : Below w.heap.size w w3) (v1 v2 v3 v4 y0 y1 y2 y3 y4 y5 y6 y7 y8 : Value) :
    CopyGO h g w (.returned (gv g.kd k n s u k' n' s' u'))
      (((((((((((((w3.setCell ⟨w.heap.size + 1 + 1, 5, none⟩ v1).setCell ⟨w.heap.size + 1 + 1, 6, none⟩ v2).setCell ⟨w.heap.size + 1 + 1, 7, none⟩ v3).setCell ⟨w.heap.size + 1 + 1, 8, none⟩ v4).setCell ⟨w.heap.size + 1, 0, none⟩ y0).setCell ⟨w.heap.size + 1, 1, none⟩ y1).setCell ⟨w.heap.size + 1, 2, none⟩ y2).setCell ⟨w.heap.size + 1, 3, none⟩ y3).setCell ⟨w.heap.size + 1, 4, none⟩ y4).setCell ⟨w.heap.size + 1, 5, none⟩ y5).setCell ⟨w.heap.size + 1, 6, none⟩ y6).setCell ⟨w.heap.size + 1, 7, none⟩ y7).setCell ⟨w.heap.size + 1, 8, none⟩ y8) := by
  obtain ⟨X, hX⟩ : ∃ X, X = (((((((((((((w3.setCell ⟨w.heap.size + 1 + 1, 5, none⟩ v1).setCell ⟨w.heap.size + 1 + 1, 6, none⟩ v2).setCell ⟨w.heap.size + 1 + 1, 7, none⟩ v3).setCell ⟨w.heap.size + 1 + 1, 8, none⟩ v4).setCell ⟨w.heap.size + 1, 0, none⟩ y0).setCell ⟨w.heap.size + 1, 1, none⟩ y1).setCell ⟨w.heap.size + 1, 2, none⟩ y2).setCell ⟨w.heap.size + 1, 3, none⟩ y3).setCell ⟨w.heap.size + 1, 4, none⟩ y4).setCell ⟨w.heap.size + 1, 5, none⟩ y5).setCell ⟨w.heap.size + 1, 6, none⟩ y6).setCell ⟨w.heap.size + 1, 7, none⟩ y7).setCell ⟨w.heap.size + 1, 8, none⟩ y8) := ⟨_, rfl⟩
  have hh : ∀ b, lo ≤ b → X.heap[b]? = w3.heap[b]? := fun b hb => by rw [hX, set9_heap (by omega), set4_other (by omega)]
  have hz : X.heap.size = w3.heap.size := by rw [hX]; simp [World.setCell]
  have hbx : Below w.heap.size w X := by
    rw [hX]
    iterate 13 refine Below.setCell ?_ (by simp; try omega) _
    exact hb
  rw [← hX]
  have hsm : Same lo w3.heap.size w3 X := fun b b1 _ => hh b b1
  refine ⟨k, n, s, u, xs, k', n', s', u', xs', rfl, el, er, hs, ⟨(ha.same hsm).low (by omega), (ha'.same fun b b1 _ => hh b (by omega)).low (by omega)⟩, ⟨lo, mid, mid, w3.heap.size, by omega, by omega, by omega, by omega, Or.inl (Nat.le_refl _), ho.same fun b b1 _ => hh b b1, ho'.same fun b b1 _ => hh b (by omega)⟩, hbx⟩

set_option maxRecDepth 100000 in
set_option maxHeartbeats 1600000 in
theorem toG_own (v : Value) (g : Gd) (lo h : Nat) (w : World) (hv : GAt w lo h v g) (hw : wG g ≤ 1048576) :
    Calls Try.prog 38 #[v] w (CopyGO h g w) := by
  obtain ⟨k, n, s, u, k', n', s', u', rfl, ht1, ht2⟩ := hv
  obtain ⟨kd, t1, t2⟩ := g
  obtain ⟨W, hW⟩ : ∃ W, W = ((w.alloc (.cells #[.int .i64 kd, .int .i64 k, .int .i64 n, .string s, u, .int .i64 k', .int .i64 n', .string s', u'] 66)).alloc (.cells #[.int .i64 0, .int .i64 0, .int .i64 0, .string ⟨#[]⟩, .slice none 0 0, .int .i64 0, .int .i64 0, .string ⟨#[]⟩, .slice none 0 0] 31)).alloc (.cells #[.int .i64 kd, .int .i64 0, .int .i64 0, .string ⟨#[]⟩, .slice none 0 0, .int .i64 0, .int .i64 0, .string ⟨#[]⟩, .slice none 0 0] 31) := ⟨_, rfl⟩
  have hWs : W.heap.size = w.heap.size + 1 + 1 + 1 := by rw [hW]; simp
  have r0 : W.heap[w.heap.size]? = some (grow 66 kd k n s u k' n' s' u') := by rw [hW, Below.heap_alloc _ _ _ (by simp; omega), Below.heap_alloc _ _ _ (by simp)]; exact heap_new _ _ rfl
  have r1 : W.heap[w.heap.size + 1]? = some (grow 31 0 0 0 ⟨#[]⟩ (.slice none 0 0) 0 0 ⟨#[]⟩ (.slice none 0 0)) := by rw [hW]; exact heap_mid _ _ _ (by simp)
  have r2 : W.heap[w.heap.size + 1 + 1]? = some (grow 31 kd 0 0 ⟨#[]⟩ (.slice none 0 0) 0 0 ⟨#[]⟩ (.slice none 0 0)) := by rw [hW]; exact heap_new _ _ (by simp)
  have hbW : Below w.heap.size w W := by rw [hW]; exact (((Below.refl _ _).alloc (Nat.le_refl _) _).alloc (by simp) _).alloc (by simp; omega) _
  have HC := Lib.hid (toT_own (tv k n s u) t1 lo h W (ht1.below hbW) (by unfold wG at hw; simp only at hw; omega))
  have HT2 := Lib.hid ht2
  have hw2 : wT t2 ≤ 1048576 := by unfold wG at hw; simp only at hw; omega
  clear ht1 ht2 hw
  have HBW := Lib.hid hbW; clear hbW
  have HWS := Lib.hid hWs; clear hWs
  go_enter Try.func38, Try.ntmps38
  go_wp2_with fail
  rw [← hW]
  clear hW
  refine HC.out.mono ?_
  rintro e w1 ⟨ka, na, sa, u1, xsa, rfl, he, hs', ⟨ha1, ho1⟩, hb1⟩
  obtain ⟨ua, uc, rfl⟩ := ha1.slice
  obtain ⟨ma, hma⟩ : ∃ m, m = xsa.length := ⟨_, rfl⟩
  rw [← hma] at ha1 ho1 ⊢
  clear hma
  have hz1 := hb1.size
  have q0 := (hb1.block w.heap.size (by have := HWS.out; omega)).trans r0
  have q1 := (hb1.block (w.heap.size + 1) (by have := HWS.out; omega)).trans r1
  have q2 := (hb1.block (w.heap.size + 1 + 1) (by have := HWS.out; omega)).trans r2
  clear r0 r1 r2
  obtain ⟨W2, hW2⟩ : ∃ W2, W2 = ((((w1.setCell ⟨w.heap.size + 1 + 1, 1, none⟩ (.int .i64 ka)).setCell ⟨w.heap.size + 1 + 1, 2, none⟩ (.int .i64 na)).setCell ⟨w.heap.size + 1 + 1, 3, none⟩ (.string sa)).setCell ⟨w.heap.size + 1 + 1, 4, none⟩ (.slice ua ma uc)) := ⟨_, rfl⟩
  have p0 : W2.heap[w.heap.size]? = some (grow 66 kd k n s u k' n' s' u') := by rw [hW2, set4_other (by omega)]; exact q0
  have p1 : W2.heap[w.heap.size + 1]? = some (grow 31 0 0 0 ⟨#[]⟩ (.slice none 0 0) 0 0 ⟨#[]⟩ (.slice none 0 0)) := by rw [hW2, set4_other (by omega)]; exact q1
  have p2 : W2.heap[w.heap.size + 1 + 1]? = some (grow 31 kd ka na sa (.slice ua ma uc) 0 0 ⟨#[]⟩ (.slice none 0 0)) := by rw [hW2]; exact set4_heap q2 _ _ _ _
  have hoth : ∀ b, W.heap.size ≤ b → W2.heap[b]? = w1.heap[b]? := fun b hb => by rw [hW2]; exact set4_other (by have := HWS.out; omega) _ _ _ _
  have hzz : W2.heap.size = w1.heap.size := by rw [hW2]; simp [World.setCell]
  have hb2 : Below w.heap.size w W2 := by
    rw [hW2]
    iterate 4 refine Below.setCell ?_ (by simp; try omega) _
    exact HBW.out.trans (hb1.mono HBW.out.size)
  have HT3 := Lib.hid (HT2.out.below hb2)
  have HB2 := Lib.hid hb2; clear hb2
  have HL := Lib.hid (And.intro (ha1.same (w' := W2) fun b b1 _ => hoth b b1) (ho1.same (w' := W2) fun b b1 _ => hoth b b1))
  have HH := Lib.hid (And.intro he hs')
  obtain ⟨z0, z1, z2, z3, z4, z5, z6, z7, z8⟩ := cells_of9 q2
  have y1 := frozen_of_row w1 (w.heap.size + 1 + 1) 1 _ _ q2
  have y2 := frozen_of_row w1 (w.heap.size + 1 + 1) 2 _ _ q2
  have y3 := frozen_of_row w1 (w.heap.size + 1 + 1) 3 _ _ q2
  have y4 := frozen_of_row w1 (w.heap.size + 1 + 1) 4 _ _ q2
  have HP := Lib.hid (And.intro p0 (And.intro p1 p2))
  have HZ := Lib.hid (And.intro hzz hz1)
  obtain ⟨x0, x1, x2, x3, x4, x5, x6, x7, x8⟩ := cells_of9 q0
  clear he hs' ha1 ho1 q0 q1 q2 p0 p1 p2 hoth hzz hz1 x0 x1 x2 x3 x4 z0 z5 z6 z7 z8 HC
  go_wp2_with fail
  rw [← hW2]
  clear hW2 x5 x6 x7 x8 z1 z2 z3 z4 y1 y2 y3 y4
  refine (toT_own (tv k' n' s' u') t2 lo h W2 HT3.out hw2).mono ?_
  rintro e w3 ⟨kb, nb, sb, u3, xsb, rfl, he3, hs3, ⟨ha3, ho3⟩, hb3⟩
  obtain ⟨ub, ud, rfl⟩ := ha3.slice
  obtain ⟨mb, hmb⟩ : ∃ m, m = xsb.length := ⟨_, rfl⟩
  rw [← hmb] at ha3 ho3 ⊢
  clear hmb
  have hz3 := hb3.size
  have q1 := (hb3.block (w.heap.size + 1) (by have := HWS.out; have := HZ.out; omega)).trans HP.out.2.1
  have q2 := (hb3.block (w.heap.size + 1 + 1) (by have := HWS.out; have := HZ.out; omega)).trans HP.out.2.2
  have HF := Lib.hid (fun v1 v2 v3 v4 y0 y1 y2 y3 y4 y5 y6 y7 y8 => toG_fin (w := w) (w3 := w3) (g := ⟨kd, t1, t2⟩) (lo := W.heap.size) (mid := W2.heap.size) (h := h) HH.out.1 he3 ⟨HH.out.2, hs3⟩ (by have := HWS.out; omega) (by have := HZ.out; omega) hz3 (HL.out.1.below hb3) (by have h9 := HL.out.2; rw [← HZ.out.1] at h9; exact h9.same fun b _ b2 => hb3.block b b2) ha3 ho3 (HB2.out.trans (hb3.mono HB2.out.size)) v1 v2 v3 v4 y0 y1 y2 y3 y4 y5 y6 y7 y8)
  obtain ⟨z0, z1, z2, z3, z4, z5, z6, z7, z8⟩ := cells_of9 q2
  obtain ⟨x0, x1, x2, x3, x4, x5, x6, x7, x8⟩ := cells_of9 q1
  have fz := fun j => frozen_of_row w3 (w.heap.size + 1 + 1) j _ _ q2
  have fx := fun j => frozen_of_row w3 (w.heap.size + 1) j _ _ q1
  have z15 := fz 5
  have z16 := fz 6
  have z17 := fz 7
  have z18 := fz 8
  have y0 := fx 0
  have y1 := fx 1
  have y2 := fx 2
  have y3 := fx 3
  have y4 := fx 4
  have y5 := fx 5
  have y6 := fx 6
  have y7 := fx 7
  have y8 := fx 8
  clear fz fx he3 hs3 ha3 ho3 hb3 q1 q2 hz3
  go_wp2
  (try simp only [Exit.inBlock, Exit.then])
  refine bodyPost_ret (v := gv kd ka na sa (.slice ua ma uc) kb nb sb (.slice ub mb ud)) ?hr rfl ?_
  case hr =>
    rw [results_cell (a := 2) (t := 31) (ad := ⟨w.heap.size + 1, 0, none⟩) rfl rfl]
    go_simp
  exact HF.out _ _ _ _ _ _ _ _ _ _ _ _ _
theorem toG_any (v : Value) (g : Gd) (lo h : Nat) (w : World) (hv : GAt w lo h v g) (hw : wG g ≤ 1048576) :
    Calls Try.prog 38 #[v] w (ReadGO h g w) := (toG_own v g lo h w hv hw).mono fun _ _ q => q.read

set_option maxRecDepth 100000 in
set_option maxHeartbeats 800000 in
theorem eqG_any (v v' : Value) (g : Gd) (lo lo' h : Nat) (w : World) (hv : GAt w lo h v g) (hv' : GAt w lo' h v' g) :
    Calls Try.prog 39 #[v, v'] w (TrueB w) := by
  obtain ⟨k, n, s, u, k', n', s', u', rfl, ht1, ht2⟩ := hv
  obtain ⟨ka, na, sa, ua, kb, nb, sb, ub, rfl, ht3, ht4⟩ := hv'
  obtain ⟨kd, t1, t2⟩ := g
  obtain ⟨W, hW⟩ : ∃ W, W = (w.alloc (.cells #[.int .i64 kd, .int .i64 k, .int .i64 n, .string s, u, .int .i64 k', .int .i64 n', .string s', u'] 31)).alloc (.cells #[.int .i64 kd, .int .i64 ka, .int .i64 na, .string sa, ua, .int .i64 kb, .int .i64 nb, .string sb, ub] 31) := ⟨_, rfl⟩
  have hb0 : Below w.heap.size w W := by rw [hW]; exact ((Below.refl _ _).alloc (Nat.le_refl _) _).alloc (by simp) _
  have r0 : W.heap[w.heap.size]? = some (grow 31 kd k n s u k' n' s' u') := by rw [hW, Below.heap_alloc _ _ _ (by simp)]; exact heap_new _ _ rfl
  have r1 : W.heap[w.heap.size + 1]? = some (grow 31 kd ka na sa ua kb nb sb ub) := by rw [hW]; exact heap_new _ _ (by simp)
  have HR := Lib.hid (And.intro r0 r1); clear r0 r1
  have HT := Lib.hid (And.intro (ht1.below hb0) (ht3.below hb0)); clear ht1 ht3
  have HU := Lib.hid (And.intro (ht2.below hb0) (ht4.below hb0)); clear ht2 ht4
  have HB0 := Lib.hid hb0; clear hb0
  go_enter Try.func39, Try.ntmps39
  go_wp2_with fail
  rw [← hW]
  clear hW
  refine (eqT_any _ _ t1 lo lo' h _ HT.out.1 HT.out.2).mono ?_
  rintro e w1 ⟨rfl, hb1⟩
  have q0 := (hb1.block _ (Array.getElem?_eq_some_iff.1 HR.out.1).1).trans HR.out.1
  have q1 := (hb1.block _ (Array.getElem?_eq_some_iff.1 HR.out.2).1).trans HR.out.2
  have HU2 := Lib.hid (And.intro (HU.out.1.below hb1) (HU.out.2.below hb1))
  have HB1 := Lib.hid (HB0.out.trans (hb1.mono HB0.out.size)); clear hb1
  obtain ⟨x0, x1, x2, x3, x4, x5, x6, x7, x8⟩ := cells_of9 q0
  obtain ⟨z0, z1, z2, z3, z4, z5, z6, z7, z8⟩ := cells_of9 q1
  clear q0 q1 x0 x1 x2 x3 x4 z0 z1 z2 z3 z4
  go_wp2_with fail
  refine (eqT_any _ _ t2 lo lo' h _ HU2.out.1 HU2.out.2).mono ?_
  rintro e w2 ⟨rfl, hb2⟩
  have HB2 := Lib.hid (HB1.out.trans (hb2.mono HB1.out.size)); clear hb2
  go_wp2
  go_ret
  exact ⟨rfl, HB2.out⟩
theorem eqG_two (v v' : Value) (g : Gd) (lo lo' h h' : Nat) (w : World) (hv : GAt w lo h v g) (hv' : GAt w lo' h' v' g) :
    Calls Try.prog 39 #[v, v'] w (TrueB w) :=
  eqG_any v v' g lo lo' (max h h') w (hv.le (Nat.le_max_left _ _)) (hv'.le (Nat.le_max_right _ _))
end Go.Proofs.Ytidbokheeieifaa
