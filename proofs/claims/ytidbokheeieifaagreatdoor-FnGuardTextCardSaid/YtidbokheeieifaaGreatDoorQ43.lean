/-
  The law on the texts of guards answers true at every draw: its walk.
-/
import Derived.Test.YtidbokheeieifaaGreatDoorQ26
import Derived.Test.YtidbokheeieifaaGreatDoorQ35
import Derived.Test.YtidbokheeieifaaGreatDoorQ37
import Derived.Test.YtidbokheeieifaaGreatDoorQ42
import Derived.Deep.RegionHeld3
namespace Go.Proofs.YtidbokheeieifaaGreatDoor
open Go.RowKit

theorem MaxOkG.below {w w' : World} (h : MaxOkG w) (hb : Below w.heap.size w w') : MaxOkG w' := by
  obtain ⟨m, hm⟩ := h
  exact ⟨m, by rw [hb.cell (World.block_lt_of_cell? w _ hm)]; exact hm⟩
theorem ResG.read {ok : Bool} {g : Gd} {w : World} {e : Ending} {w' : World} (q : ResG ok g w e w') : ∃ H k n s a m c k' n' s' a' m' c', e = .returned (.tuple #[gv g.kd k n s (.slice a m c) k' n' s' (.slice a' m' c'), .bool ok]) ∧ GAt w' w.heap.size H (gv g.kd k n s (.slice a m c) k' n' s' (.slice a' m' c')) g ∧ Below w.heap.size w w' := by
  obtain ⟨H, k, n, s, a, m, c, xs, k', n', s', a', m', c', xs', he, el, er, hs, ha, ho, hb⟩ := q
  exact ⟨H, k, n, s, a, m, c, k', n', s', a', m', c', he, ⟨k, n, s, _, k', n', s', _, rfl, ⟨_, _, _, _, xs, rfl, el, hs.1, ha.1⟩, ⟨_, _, _, _, xs', rfl, er, hs.2, ha.2⟩⟩, hb⟩
theorem app_weight {bs : List (ByteArray × T)} (hs : Small7 bs) {g : Gd} (h1 : wT g.l ≤ 1000) (h2 : wT g.r ≤ 1000) : wG (appG (findB bs) g) ≤ 1048576 := by
  have a1 := wT_map (findB bs) 13 (small_find hs) g.l
  have a2 := wT_map (findB bs) 13 (small_find hs) g.r
  unfold wG appG
  simp only
  omega
theorem GAt.keepB {w w' : World} {lo h : Nat} {v : Value} {g : Gd} (q : GAt w lo h v g) (hb : Below w.heap.size w w') : GAt w' lo h v g := q.below hb
/-- A guard in a box, in every world behind W. -/
def InBox (W : World) (b lo h : Nat) (kd k n : Int) (s : ByteArray) (u : Value) (k' n' : Int) (s' : ByteArray) (u' : Value) (g : Gd) : Prop :=
  ∀ w', Below W.heap.size W w' → w'.heap[b]? = some (grow 28 kd k n s u k' n' s' u') ∧ GAt w' lo h (gv kd k n s u k' n' s' u') g
theorem InBox.mk {w1 W : World} {lo h : Nat} {kd k n : Int} {s : ByteArray} {u : Value} {k' n' : Int} {s' : ByteArray} {u' : Value} {g : Gd} (hg : GAt w1 lo h (gv kd k n s u k' n' s' u') g) (hW : W = w1.alloc (.cells #[.int .i64 kd, .int .i64 k, .int .i64 n, .string s, u, .int .i64 k', .int .i64 n', .string s', u'] 28)) : InBox W w1.heap.size lo h kd k n s u k' n' s' u' g := fun w' hb => by
  have hb1 : Below w1.heap.size w1 W := by rw [hW]; exact (Below.refl _ _).alloc (Nat.le_refl _) _
  refine ⟨(hb.block _ (by rw [hW]; simp)).trans (by rw [hW]; exact heap_new w1 _ rfl), hg.below (bel_two hb1 hb)⟩
theorem InBox.next {W W' : World} {b lo h : Nat} {kd k n : Int} {s : ByteArray} {u : Value} {k' n' : Int} {s' : ByteArray} {u' : Value} {g : Gd} (q : InBox W b lo h kd k n s u k' n' s' u' g) (hb : Below W.heap.size W W') : InBox W' b lo h kd k n s u k' n' s' u' g := fun w' h' => q w' (bel_two hb h')

set_option maxRecDepth 100000 in
set_option maxHeartbeats 6400000 in
theorem gtext_any (a : Option Addr) (len cap : Nat) (w : World) (hcode : len ≤ 1048576 → CodeAt w w.heap.size (.slice a len cap) len) (ht : TabsAt w) (hmx : MaxOkG w) :
    Calls Tryz.prog 3 #[.slice a len cap] w (TrueAt w) := by
  have HC := Lib.hid hcode; clear hcode
  have HTB : Hid (∀ w', Below w.heap.size w w' → TabsAt w' ∧ MaxOkG w') := Lib.hid (fun w' hb => ⟨ht.below hb ht.low, hmx.below hb⟩)
  clear ht hmx
  by_cases hbig : 1048576 < len
  · have hd : decide (1048576 < len) = true := by simpa using hbig
    have HK := Lib.hid (big_any a len cap w)
    rw [hd] at HK
    go_enter Tryz.func3, Tryz.ntmps3
    go_wp2_with fail
    refine HK.out.mono ?_
    rintro e w1 ⟨rfl, rfl⟩
    go_wp2
    go_ret
    exact ⟨rfl, Below.refl _ _⟩
  have hd : decide (1048576 < len) = false := by simpa using hbig
  have HK := Lib.hid (big_any a len cap w)
  rw [hd] at HK
  have HC1 := Lib.hid (HC.out (by omega))
  clear hbig hd HC
  go_enter Tryz.func3, Tryz.ntmps3
  go_wp2_with fail
  refine HK.out.mono ?_
  rintro e w0 ⟨rfl, rfl⟩
  clear HK
  go_wp2_with fail
  refine (drawFmtG_any _ len _ HC1.out).mono ?_
  rintro e w1 ⟨kd, k1, n1, s1, a1, m1, c1, k2, n2, s2, a2, m2, c2, t1, t2, h1, h2, rfl, hkd, ht1, ht2, hw1, hw2, hb1⟩
  have HGA : Hid (GAt w1 w.heap.size (max h1 h2) (gv kd k1 n1 s1 (.slice a1 m1 c1) k2 n2 s2 (.slice a2 m2 c2)) ⟨kd, t1, t2⟩) := Lib.hid ⟨k1, n1, s1, _, k2, n2, s2, _, rfl, by
    obtain ⟨q1, q2, q3, q4, q5, e1, e2, e3, e4⟩ := ht1
    exact ⟨q1, q2, q3, q4, q5, e1, e2, e3, e4.le (Nat.le_max_left _ _)⟩, by
    obtain ⟨q1, q2, q3, q4, q5, e1, e2, e3, e4⟩ := ht2
    exact ⟨q1, q2, q3, q4, q5, e1, e2, e3, e4.le (Nat.le_max_right _ _)⟩⟩
  have HWG : Hid (wG ⟨kd, t1, t2⟩ ≤ 1048576) := Lib.hid (by unfold wG; simp only; omega)
  obtain ⟨X, hX⟩ : ∃ X, X = w1.alloc (.cells #[.int .i64 kd, .int .i64 k1, .int .i64 n1, .string s1, .slice a1 m1 c1, .int .i64 k2, .int .i64 n2, .string s2, .slice a2 m2 c2] 28) := ⟨_, rfl⟩
  have HBX : Hid (Below w.heap.size w X) := Lib.hid (by rw [hX]; exact hb1.alloc hb1.size _)
  have HIX := Lib.hid (InBox.mk HGA.out hX)
  clear hkd ht1 ht2 hw1 hw2 hb1 HGA
  obtain ⟨g0, g1, g2, g3, g4, g5, g6, g7, g8⟩ := cells_of9 (HIX.out X (Below.refl _ _)).1
  rw [hX] at g0 g1 g2 g3 g4 g5 g6 g7 g8
  go_wp2_with fail
  rw [← hX]
  clear hX g0 g1 g2 g3 g4 g5 g6 g7 g8
  refine (iFmtG_any _ ⟨kd, t1, t2⟩ _ _ X (HIX.out X (Below.refl _ _)).2 HWG.out (HTB.out X HBX.out).1.1 (HTB.out X HBX.out).1.low).mono ?_
  rintro e w2 ⟨rfl, hb2⟩
  have HB2 := Lib.hid (HBX.out.trans (hb2.mono HBX.out.size))
  have HI2 := Lib.hid (HIX.out.next hb2)
  obtain ⟨S, hS⟩ : ∃ S, S = fmtG ⟨kd, t1, t2⟩ := ⟨_, rfl⟩
  rw [← hS]
  have HS := Lib.hid (And.intro hS (show S.size ≤ 1500 by rw [hS]; exact fmtG_size _))
  clear hb2 hS HBX HIX
  go_wp2_with fail
  refine (iParG_any S w2 (by have := HS.out.2; omega) (HTB.out _ HB2.out).1 (HTB.out _ HB2.out).2).mono ?_
  intro e w3 hr
  obtain ⟨H3, k3, n3, s3, a3, m3, c3, k4, n4, s4, a4, m4, c4, rfl, hg3, hb3⟩ := hr.read
  obtain ⟨P, hP⟩ : ∃ P, P = (parG S).getD zG := ⟨_, rfl⟩
  obtain ⟨ok, hok⟩ : ∃ b, b = (parG S).isSome := ⟨_, rfl⟩
  rw [← hP] at hg3
  rw [← hP, ← hok]
  have HPW : Hid (wG P ≤ 1048576) := Lib.hid (by rw [hP]; have := par_wG' S; omega)
  have HPF : Hid (ok = true → fmtG P = S) := Lib.hid (fun e => by rw [hP]; exact par_fmt' (by rw [← hok]; exact e))
  have HPS := Lib.hid (And.intro hP hok)
  have HG3 := Lib.hid hg3
  have HB3 := Lib.hid (HB2.out.trans (hb3.mono HB2.out.size))
  have HI3 := Lib.hid (HI2.out.next hb3)
  clear hr hg3 hb3 hP hok HI2
  obtain ⟨pk, pl, pr⟩ := P
  obtain ⟨Y, hY⟩ : ∃ X, X = w3.alloc (.cells #[.int .i64 pk, .int .i64 k3, .int .i64 n3, .string s3, .slice a3 m3 c3, .int .i64 k4, .int .i64 n4, .string s4, .slice a4 m4 c4] 28) := ⟨_, rfl⟩
  have hbY : Below w3.heap.size w3 Y := by rw [hY]; exact (Below.refl _ _).alloc (Nat.le_refl _) _
  have HBY := Lib.hid (HB3.out.trans (hbY.mono HB3.out.size))
  have HIY := Lib.hid (HI3.out.next hbY)
  have HXY := Lib.hid (InBox.mk HG3.out hY)
  clear hbY HI3 HG3 HB3
  go_wp2_with fail
  rw [← hY]
  clear hY
  refine (sParG_any S Y (by have := HS.out.2; omega)).mono ?_
  intro e w5 hr
  rw [← HPS.out.1, ← HPS.out.2] at hr
  obtain ⟨H5, k5, n5, s5, a5, m5, c5, k6, n6, s6, a6, m6, c6, rfl, hg5, hb5⟩ := hr.read
  have HB5 := Lib.hid (HBY.out.trans (hb5.mono HBY.out.size))
  have HI5 := Lib.hid (HIY.out.next hb5)
  have HX5 := Lib.hid (HXY.out.next hb5)
  have HG5 := Lib.hid hg5
  clear hr hg5 hb5 HIY HXY
  obtain ⟨Z, hZ⟩ : ∃ X, X = w5.alloc (.cells #[.int .i64 pk, .int .i64 k5, .int .i64 n5, .string s5, .slice a5 m5 c5, .int .i64 k6, .int .i64 n6, .string s6, .slice a6 m6 c6] 28) := ⟨_, rfl⟩
  have hbZ : Below w5.heap.size w5 Z := by rw [hZ]; exact (Below.refl _ _).alloc (Nat.le_refl _) _
  have HBZ := Lib.hid (HB5.out.trans (hbZ.mono HB5.out.size))
  have HIZ := Lib.hid (HI5.out.next hbZ)
  have HXZ := Lib.hid (HX5.out.next hbZ)
  have HYZ := Lib.hid (InBox.mk HG5.out hZ)
  clear hbZ HI5 HX5 HG5 HB5
  have hss : (S.toList != S.toList) = false := by simp
  have hoo : (ok != ok) = false := by simp
  obtain ⟨g0, g1, g2, g3, g4, g5, g6, g7, g8⟩ := cells_of9 (HIZ.out Z (Below.refl _ _)).1
  rw [hZ] at g0 g1 g2 g3 g4 g5 g6 g7 g8
  go_wp2_with fail
  rw [← hZ]
  clear hZ g0 g1 g2 g3 g4 g5 g6 g7 g8
  refine (sFmtG_any _ ⟨kd, t1, t2⟩ _ _ Z (HIZ.out Z (Below.refl _ _)).2 HWG.out).mono ?_
  rintro e w6 ⟨rfl, hb6⟩
  rw [← HS.out.1]
  have HB6 := Lib.hid (HBZ.out.trans (hb6.mono HBZ.out.size))
  have HX6 := Lib.hid (HXZ.out.next hb6)
  have HY6 := Lib.hid (HYZ.out.next hb6)
  clear hb6 HIZ HXZ HYZ HBZ HWG
  obtain ⟨g0, g1, g2, g3, g4, g5, g6, g7, g8⟩ := cells_of9 (HX6.out w6 (Below.refl _ _)).1
  obtain ⟨o0, o1, o2, o3, o4, o5, o6, o7, o8⟩ := cells_of9 (HY6.out w6 (Below.refl _ _)).1
  go_wp2_with fail
  refine (iEqG_any _ _ ⟨pk, pl, pr⟩ ⟨pk, pl, pr⟩ _ _ _ _ w6 (HX6.out w6 (Below.refl _ _)).2 (HY6.out w6 (Below.refl _ _)).2 HPW.out).mono ?_
  rintro e w7 ⟨rfl, hb7⟩
  rw [(eqGB_iff _ _).2 rfl]
  have HB7 := Lib.hid (HB6.out.trans (hb7.mono HB6.out.size))
  have HX7 := Lib.hid (HX6.out.next hb7)
  clear hb7 HX6 HY6 HB6 g0 g1 g2 g3 g4 g5 g6 g7 g8 o0 o1 o2 o3 o4 o5 o6 o7 o8
  --REST
  cases ok with
  | false =>
    go_wp2_with fail
    refine (drawParG_any _ len _ (HC1.out.below HB7.out)).mono ?_
    rintro e v1 ⟨U, rfl, hU, hb⟩
    have HV1 := Lib.hid (HB7.out.trans (hb.mono HB7.out.size))
    have HUS := Lib.hid hU
    clear hU hb
    go_wp2_with fail
    refine (iParG_any U v1 (by have := HUS.out; omega) (HTB.out _ HV1.out).1 (HTB.out _ HV1.out).2).mono ?_
    intro e v2 hr
    obtain ⟨H7, k7, n7, s7, a7, m7, c7, k8, n8, s8, a8, m8, c8, rfl, hg7, hb⟩ := hr.read
    obtain ⟨Q, hQ⟩ : ∃ P, P = (parG U).getD zG := ⟨_, rfl⟩
    obtain ⟨fine, hfi⟩ : ∃ b, b = (parG U).isSome := ⟨_, rfl⟩
    rw [← hQ] at hg7
    rw [← hQ, ← hfi]
    have HQW : Hid (wG Q ≤ 1048576) := Lib.hid (by rw [hQ]; have := par_wG' U; omega)
    have HQF : Hid (fine = true → fmtG Q = U) := Lib.hid (fun e => by rw [hQ]; exact par_fmt' (by rw [← hfi]; exact e))
    have HQS := Lib.hid (And.intro hQ hfi)
    have HG7 := Lib.hid hg7
    have HV2 := Lib.hid (HV1.out.trans (hb.mono HV1.out.size))
    clear hr hg7 hb hQ hfi
    obtain ⟨qk, ql, qr⟩ := Q
    obtain ⟨V3, hV3⟩ : ∃ X, X = v2.alloc (.cells #[.int .i64 qk, .int .i64 k7, .int .i64 n7, .string s7, .slice a7 m7 c7, .int .i64 k8, .int .i64 n8, .string s8, .slice a8 m8 c8] 28) := ⟨_, rfl⟩
    have hbV : Below v2.heap.size v2 V3 := by rw [hV3]; exact (Below.refl _ _).alloc (Nat.le_refl _) _
    have HV3 := Lib.hid (HV2.out.trans (hbV.mono HV2.out.size))
    have HQ3 := Lib.hid (InBox.mk HG7.out hV3)
    clear hbV HG7
    go_wp2_with fail
    rw [← hV3]
    clear hV3
    refine (sParG_any U V3 (by have := HUS.out; omega)).mono ?_
    intro e v4 hr
    rw [← HQS.out.1, ← HQS.out.2] at hr
    obtain ⟨H9, k9, n9, s9, a9, m9, c9, kx, nx, sx, ax, mx, cx, rfl, hg9, hb⟩ := hr.read
    have HV4 := Lib.hid (HV3.out.trans (hb.mono HV3.out.size))
    have HQ4 := Lib.hid (HQ3.out.next hb)
    clear hr hg9 hb HQ3 HQS HUS
    obtain ⟨V5, hV5⟩ : ∃ X, X = v4.alloc (.cells #[.int .i64 qk, .int .i64 k9, .int .i64 n9, .string s9, .slice a9 m9 c9, .int .i64 kx, .int .i64 nx, .string sx, .slice ax mx cx] 28) := ⟨_, rfl⟩
    have hbV : Below v4.heap.size v4 V5 := by rw [hV5]; exact (Below.refl _ _).alloc (Nat.le_refl _) _
    have HV5 := Lib.hid (HV4.out.trans (hbV.mono HV4.out.size))
    have HQ5 := Lib.hid (HQ4.out.next hbV)
    clear hbV HQ4
    go_wp2_with fail
    rw [← hV5]
    clear hV5
    refine (drawApG_any _ len _ (HC1.out.below HV5.out)).mono ?_
    rintro e v6 ⟨bu, bs, rk, y1, z1, r1, b1, l1, d1, y2, z2, r2, b2, l2, d2, j1, j2, g1h, g2h, rfl, hbs, hsm, hj1, hj2, hwj1, hwj2, hb⟩
    have HBS := Lib.hid (And.intro hbs hsm)
    have HGR : Hid (GAt v6 V5.heap.size (max g1h g2h) (gv rk y1 z1 r1 (.slice b1 l1 d1) y2 z2 r2 (.slice b2 l2 d2)) ⟨rk, j1, j2⟩) := Lib.hid ⟨y1, z1, r1, _, y2, z2, r2, _, rfl, by
      obtain ⟨q1, q2, q3, q4, q5, e1, e2, e3, e4⟩ := hj1
      exact ⟨q1, q2, q3, q4, q5, e1, e2, e3, e4.le (Nat.le_max_left _ _)⟩, by
      obtain ⟨q1, q2, q3, q4, q5, e1, e2, e3, e4⟩ := hj2
      exact ⟨q1, q2, q3, q4, q5, e1, e2, e3, e4.le (Nat.le_max_right _ _)⟩⟩
    have HRW : Hid (wG ⟨rk, j1, j2⟩ ≤ 1048576 ∧ wBs bs ≤ 1048576 ∧ wG (appG (findB bs) ⟨rk, j1, j2⟩) ≤ 1048576) := Lib.hid ⟨by unfold wG; simp only; omega, by have := small7_w hsm; omega, app_weight hsm hwj1 hwj2⟩
    have HV6 := Lib.hid (HV5.out.trans (hb.mono HV5.out.size))
    have HQ6 := Lib.hid (HQ5.out.next hb)
    clear hbs hsm hj1 hj2 hwj1 hwj2 hb HQ5
    obtain ⟨V7, hV7⟩ : ∃ X, X = v6.alloc (.cells #[.int .i64 rk, .int .i64 y1, .int .i64 z1, .string r1, .slice b1 l1 d1, .int .i64 y2, .int .i64 z2, .string r2, .slice b2 l2 d2] 28) := ⟨_, rfl⟩
    have hbV : Below v6.heap.size v6 V7 := by rw [hV7]; exact (Below.refl _ _).alloc (Nat.le_refl _) _
    have HV7 := Lib.hid (HV6.out.trans (hbV.mono HV6.out.size))
    have HQ7 := Lib.hid (HQ6.out.next hbV)
    have HR7 := Lib.hid (InBox.mk HGR.out hV7)
    have HBS7 : Hid (∀ w', Below V7.heap.size V7 w' → BsAt w' V5.heap.size 2 bu bs) := Lib.hid (fun w' hb => (HBS.out.1.below hbV).below hb)
    clear hbV HQ6 HGR HBS
    have hff : (fine == fine) = true := by simp
    have huu : (U.toList == U.toList) = true := by simp
    go_wp2
    rw [← hV7]
    clear hV7
    have HCELL : Hid (∀ w', Below V7.heap.size V7 w' → (w'.cell? ⟨v2.heap.size, 0, none⟩ = some (.int .i64 qk) ∧ w'.cell? ⟨v2.heap.size, 1, none⟩ = some (.int .i64 k7) ∧ w'.cell? ⟨v2.heap.size, 2, none⟩ = some (.int .i64 n7) ∧ w'.cell? ⟨v2.heap.size, 3, none⟩ = some (.string s7) ∧ w'.cell? ⟨v2.heap.size, 4, none⟩ = some (.slice a7 m7 c7) ∧ w'.cell? ⟨v2.heap.size, 5, none⟩ = some (.int .i64 k8) ∧ w'.cell? ⟨v2.heap.size, 6, none⟩ = some (.int .i64 n8) ∧ w'.cell? ⟨v2.heap.size, 7, none⟩ = some (.string s8) ∧ w'.cell? ⟨v2.heap.size, 8, none⟩ = some (.slice a8 m8 c8) ∧ w'.cell? ⟨v6.heap.size, 0, none⟩ = some (.int .i64 rk) ∧ w'.cell? ⟨v6.heap.size, 1, none⟩ = some (.int .i64 y1) ∧ w'.cell? ⟨v6.heap.size, 2, none⟩ = some (.int .i64 z1) ∧ w'.cell? ⟨v6.heap.size, 3, none⟩ = some (.string r1) ∧ w'.cell? ⟨v6.heap.size, 4, none⟩ = some (.slice b1 l1 d1) ∧ w'.cell? ⟨v6.heap.size, 5, none⟩ = some (.int .i64 y2) ∧ w'.cell? ⟨v6.heap.size, 6, none⟩ = some (.int .i64 z2) ∧ w'.cell? ⟨v6.heap.size, 7, none⟩ = some (.string r2) ∧ w'.cell? ⟨v6.heap.size, 8, none⟩ = some (.slice b2 l2 d2))) := Lib.hid (fun w' hb => by
      obtain ⟨g0, g1, g2, g3, g4, g5, g6, g7, g8⟩ := cells_of9 (HQ7.out w' hb).1
      obtain ⟨o0, o1, o2, o3, o4, o5, o6, o7, o8⟩ := cells_of9 (HR7.out w' hb).1
      exact ⟨g0, g1, g2, g3, g4, g5, g6, g7, g8, o0, o1, o2, o3, o4, o5, o6, o7, o8⟩)
    have hD0 : Below V7.heap.size V7 V7.drew := (Below.refl _ _).drew
    have HFIN : Hid (∀ w', Below V7.heap.size V7 w' → TrueAt w (.returned (.bool true)) w') := Lib.hid (fun w' hb => ⟨rfl, HV7.out.trans (hb.mono HV7.out.size)⟩)
    cases fine with
    | true =>
      refine wp_region_held_drew (S := fun w' => (w'.cell? ⟨v2.heap.size, 0, none⟩ = some (.int .i64 qk) ∧ w'.cell? ⟨v2.heap.size, 1, none⟩ = some (.int .i64 k7) ∧ w'.cell? ⟨v2.heap.size, 2, none⟩ = some (.int .i64 n7) ∧ w'.cell? ⟨v2.heap.size, 3, none⟩ = some (.string s7) ∧ w'.cell? ⟨v2.heap.size, 4, none⟩ = some (.slice a7 m7 c7) ∧ w'.cell? ⟨v2.heap.size, 5, none⟩ = some (.int .i64 k8) ∧ w'.cell? ⟨v2.heap.size, 6, none⟩ = some (.int .i64 n8) ∧ w'.cell? ⟨v2.heap.size, 7, none⟩ = some (.string s8) ∧ w'.cell? ⟨v2.heap.size, 8, none⟩ = some (.slice a8 m8 c8) ∧ w'.cell? ⟨v6.heap.size, 0, none⟩ = some (.int .i64 rk) ∧ w'.cell? ⟨v6.heap.size, 1, none⟩ = some (.int .i64 y1) ∧ w'.cell? ⟨v6.heap.size, 2, none⟩ = some (.int .i64 z1) ∧ w'.cell? ⟨v6.heap.size, 3, none⟩ = some (.string r1) ∧ w'.cell? ⟨v6.heap.size, 4, none⟩ = some (.slice b1 l1 d1) ∧ w'.cell? ⟨v6.heap.size, 5, none⟩ = some (.int .i64 y2) ∧ w'.cell? ⟨v6.heap.size, 6, none⟩ = some (.int .i64 z2) ∧ w'.cell? ⟨v6.heap.size, 7, none⟩ = some (.string r2) ∧ w'.cell? ⟨v6.heap.size, 8, none⟩ = some (.slice b2 l2 d2))) (by kernel_rfl) (HCELL.out _ hD0) (fun hHeld => ?_)
      refine wpAnyH_take (i := 0) (oi := { dst := some 73, op := Op.move (Operand.tmp 11), type := 4, pos := "laws.go:448", after := #[], guard := none }) (v := ?vtw70) rfl (by kernel_rfl) (by kernel_rfl) (by kernel_rfl) (fun _ _ _ h => h) (Or.inl ⟨by rfl, ?ytw70⟩) hHeld ?rtw70
      case ytw70 => (intro w hSw; (try dsimp only at hSw); go_simp; try with_reducible rfl)
      (try simp only [Act.put, List.setIfInBounds_toArray, List.set_cons_zero, List.set_cons_succ])
      refine wpAnyH_take (i := 1) (oi := { dst := some 74, op := Op.move (Operand.tmp 13), type := 4, pos := "laws.go:448", after := #[], guard := none }) (v := ?vtw71) rfl (by kernel_rfl) (by kernel_rfl) (by kernel_rfl) (fun _ _ _ h => h) (Or.inl ⟨by rfl, ?ytw71⟩) hHeld ?rtw71
      case ytw71 => (intro w hSw; (try dsimp only at hSw); go_simp; try with_reducible rfl)
      (try simp only [Act.put, List.setIfInBounds_toArray, List.set_cons_zero, List.set_cons_succ])
      refine wpAnyH_take (i := 2) (oi := { dst := some 75, op := Op.binOp BinOp.eql 4 (Operand.tmp 73) (Operand.tmp 74) 4, type := 4, pos := "laws.go:448", after := #[{ on := 0, ground := Ground.data }, { on := 1, ground := Ground.data }], guard := none }) (v := .bool true) rfl (by kernel_rfl) (by kernel_rfl) (by kernel_rfl) (fun _ _ _ h => h) (Or.inl ⟨by rfl, ?ytw72⟩) hHeld ?rtw72
      case ytw72 => (intro w hSw; (try dsimp only at hSw); go_simp; try with_reducible rfl)
      (try simp only [Act.put, List.setIfInBounds_toArray, List.set_cons_zero, List.set_cons_succ])
      refine wpAnyH_take (i := 3) (oi := { dst := some 76, op := Op.move (Operand.tmp 75), type := 4, pos := "laws.go:448", after := #[{ on := 2, ground := Ground.data }], guard := none }) (v := .bool true) rfl (by kernel_rfl) (by kernel_rfl) (by kernel_rfl) (fun _ _ _ h => h) (Or.inl ⟨by rfl, ?ytw73⟩) hHeld ?rtw73
      case ytw73 => (intro w hSw; (try dsimp only at hSw); go_simp; try with_reducible rfl)
      (try simp only [Act.put, List.setIfInBounds_toArray, List.set_cons_zero, List.set_cons_succ])
      refine wpAnyH_take (i := 4) (oi := { dst := some 77, op := Op.move (Operand.tmp 11), type := 4, pos := "laws.go:448", after := #[{ on := 3, ground := Ground.guard }], guard := some (3, true) }) (v := ?vtw74) rfl (by kernel_rfl) (by kernel_rfl) (by kernel_rfl) (fun _ _ _ h => h) (Or.inl ⟨by rfl, ?ytw74⟩) hHeld ?rtw74
      case ytw74 => (intro w hSw; (try dsimp only at hSw); go_simp; try with_reducible rfl)
      (try simp only [Act.put, List.setIfInBounds_toArray, List.set_cons_zero, List.set_cons_succ])
      refine wpAnyH_take (i := 5) (oi := { dst := some 78, op := Op.unOp UnOp.not 4 (Operand.tmp 77), type := 4, pos := "laws.go:448", after := #[{ on := 4, ground := Ground.data }, { on := 3, ground := Ground.guard }], guard := some (3, true) }) (v := .bool false) rfl (by kernel_rfl) (by kernel_rfl) (by kernel_rfl) (fun _ _ _ h => h) (Or.inl ⟨by rfl, ?ytw75⟩) hHeld ?rtw75
      case ytw75 => (intro w hSw; (try dsimp only at hSw); go_simp; try with_reducible rfl)
      (try simp only [Act.put, List.setIfInBounds_toArray, List.set_cons_zero, List.set_cons_succ])
      refine wpAnyH_take (i := 6) (oi := { dst := some 79, op := Op.move (Operand.tmp 78), type := 4, pos := "laws.go:448", after := #[{ on := 5, ground := Ground.data }, { on := 3, ground := Ground.chain }, { on := 3, ground := Ground.guard }], guard := some (3, true) }) (v := .bool false) rfl (by kernel_rfl) (by kernel_rfl) (by kernel_rfl) (fun _ _ _ h => h) (Or.inl ⟨by rfl, ?ytw76⟩) hHeld ?rtw76
      case ytw76 => (intro w hSw; (try dsimp only at hSw); go_simp; try with_reducible rfl)
      (try simp only [Act.put, List.setIfInBounds_toArray, List.set_cons_zero, List.set_cons_succ])
      refine wpAnyH_take (i := 7) (oi := { dst := some 80, op := Op.load 28 (Operand.tmp 10), type := 28, pos := "laws.go:448", after := #[{ on := 6, ground := Ground.guard }], guard := some (6, false) }) (v := ?vtw77) rfl (by kernel_rfl) (by kernel_rfl) (by kernel_rfl) (fun _ _ _ h => h) (Or.inl ⟨by rfl, ?ytw77⟩) hHeld ?rtw77
      case ytw77 => (intro w hSw; (try dsimp only at hSw); go_simp; try with_reducible rfl)
      (try simp only [Act.put, List.setIfInBounds_toArray, List.set_cons_zero, List.set_cons_succ])
      refine wpAnyH_take (i := 9) (oi := { dst := some 82, op := Op.move (Operand.tmp 9), type := 9, pos := "laws.go:448", after := #[{ on := 6, ground := Ground.guard }], guard := some (6, false) }) (v := ?vtw79) rfl (by kernel_rfl) (by kernel_rfl) (by kernel_rfl) (fun _ _ _ h => h) (Or.inl ⟨by rfl, ?ytw79⟩) hHeld ?rtw79
      case ytw79 => (intro w hSw; (try dsimp only at hSw); go_simp; try with_reducible rfl)
      (try simp only [Act.put, List.setIfInBounds_toArray, List.set_cons_zero, List.set_cons_succ])
      refine wpAnyH_ready (rs := [8]) (by kernel_rfl) (by simp) ?_
      refine AllReadyH.cons (o := { dst := some 81, op := Op.call { callee := Callee.value (Operand.func 7), args := #[Operand.tmp 80], argTypes := #[28] }, type := 9, pos := "laws.go:448", after := #[{ on := 7, ground := Ground.data }, { on := 6, ground := Ground.chain }, { on := 6, ground := Ground.guard }], guard := some (6, false) }) rfl (fun K hK => ?_) AllReadyH.nil
      (go_simp; refine (iFmtG_any _ ⟨qk, ql, qr⟩ _ _ _ (HQ7.out _ hD0).2 HQW.out (HTB.out _ (HV7.out.trans (hD0.mono HV7.out.size))).1.1 (HTB.out _ (HV7.out.trans (hD0.mono HV7.out.size))).1.low).mono ?_; rintro e x1 ⟨rfl, hbx1⟩; rw [(by first | exact HQF.out rfl | exact HQF.out trivial : fmtG _ = U)]; go_wp2_with fail)
      have Hx1 := Lib.hid (bel_two hD0 hbx1)
      clear hbx1
      refine hK.out _ _ (HCELL.out x1 Hx1.out) (fun hHeld => ?_)
      clear hK K
      (try simp only [Act.put, List.setIfInBounds_toArray, List.set_cons_zero, List.set_cons_succ])
      refine wpAnyH_take (i := 10) (oi := { dst := some 83, op := Op.binOp BinOp.eql 9 (Operand.tmp 81) (Operand.tmp 82) 9, type := 4, pos := "laws.go:448", after := #[{ on := 8, ground := Ground.data }, { on := 9, ground := Ground.data }, { on := 6, ground := Ground.guard }], guard := some (6, false) }) (v := .bool true) rfl (by kernel_rfl) (by kernel_rfl) (by kernel_rfl) (fun _ _ _ h => h) (Or.inl ⟨by rfl, ?ytw710⟩) hHeld ?rtw710
      case ytw710 => (intro w hSw; (try dsimp only at hSw); go_simp; try with_reducible rfl)
      (try simp only [Act.put, List.setIfInBounds_toArray, List.set_cons_zero, List.set_cons_succ])
      refine wpAnyH_take (i := 11) (oi := { dst := some 84, op := Op.pick (Operand.tmp 79) (Operand.const (Value.bool true)) (Operand.tmp 83), type := 4, pos := "laws.go:448", after := #[{ on := 6, ground := Ground.data }, { on := 10, ground := Ground.data }, { on := 3, ground := Ground.guard }], guard := some (3, true) }) (v := .bool true) rfl (by kernel_rfl) (by kernel_rfl) (by kernel_rfl) (fun _ _ _ h => h) (Or.inl ⟨by rfl, ?ytw711⟩) hHeld ?rtw711
      case ytw711 => (intro w hSw; (try dsimp only at hSw); go_simp; try with_reducible rfl)
      (try simp only [Act.put, List.setIfInBounds_toArray, List.set_cons_zero, List.set_cons_succ])
      refine wpAnyH_take (i := 12) (oi := { dst := some 85, op := Op.pick (Operand.tmp 76) (Operand.tmp 84) (Operand.const (Value.bool false)), type := 4, pos := "laws.go:448", after := #[{ on := 3, ground := Ground.data }, { on := 11, ground := Ground.data }], guard := none }) (v := .bool true) rfl (by kernel_rfl) (by kernel_rfl) (by kernel_rfl) (fun _ _ _ h => h) (Or.inl ⟨by rfl, ?ytw712⟩) hHeld ?rtw712
      case ytw712 => (intro w hSw; (try dsimp only at hSw); go_simp; try with_reducible rfl)
      (try simp only [Act.put, List.setIfInBounds_toArray, List.set_cons_zero, List.set_cons_succ])
      refine wpAnyH_take (i := 13) (oi := { dst := some 86, op := Op.move (Operand.tmp 85), type := 4, pos := "laws.go:448", after := #[{ on := 12, ground := Ground.data }, { on := 8, ground := Ground.chain }], guard := none }) (v := .bool true) rfl (by kernel_rfl) (by kernel_rfl) (by kernel_rfl) (fun _ _ _ h => h) (Or.inl ⟨by rfl, ?ytw713⟩) hHeld ?rtw713
      case ytw713 => (intro w hSw; (try dsimp only at hSw); go_simp; try with_reducible rfl)
      (try simp only [Act.put, List.setIfInBounds_toArray, List.set_cons_zero, List.set_cons_succ])
      refine wpAnyH_take (i := 14) (oi := { dst := some 87, op := Op.move (Operand.tmp 14), type := 35, pos := "laws.go:448", after := #[{ on := 13, ground := Ground.guard }], guard := some (13, true) }) (v := ?vtw714) rfl (by kernel_rfl) (by kernel_rfl) (by kernel_rfl) (fun _ _ _ h => h) (Or.inl ⟨by rfl, ?ytw714⟩) hHeld ?rtw714
      case ytw714 => (intro w hSw; (try dsimp only at hSw); go_simp; try with_reducible rfl)
      (try simp only [Act.put, List.setIfInBounds_toArray, List.set_cons_zero, List.set_cons_succ])
      refine wpAnyH_take (i := 15) (oi := { dst := some 88, op := Op.load 28 (Operand.tmp 15), type := 28, pos := "laws.go:448", after := #[{ on := 13, ground := Ground.guard }], guard := some (13, true) }) (v := ?vtw715) rfl (by kernel_rfl) (by kernel_rfl) (by kernel_rfl) (fun _ _ _ h => h) (Or.inl ⟨by rfl, ?ytw715⟩) hHeld ?rtw715
      case ytw715 => (intro w hSw; (try dsimp only at hSw); go_simp; try with_reducible rfl)
      (try simp only [Act.put, List.setIfInBounds_toArray, List.set_cons_zero, List.set_cons_succ])
      refine wpAnyH_take (i := 17) (oi := { dst := some 90, op := Op.move (Operand.tmp 14), type := 35, pos := "laws.go:448", after := #[{ on := 13, ground := Ground.guard }], guard := some (13, true) }) (v := ?vtw717) rfl (by kernel_rfl) (by kernel_rfl) (by kernel_rfl) (fun _ _ _ h => h) (Or.inl ⟨by rfl, ?ytw717⟩) hHeld ?rtw717
      case ytw717 => (intro w hSw; (try dsimp only at hSw); go_simp; try with_reducible rfl)
      (try simp only [Act.put, List.setIfInBounds_toArray, List.set_cons_zero, List.set_cons_succ])
      refine wpAnyH_take (i := 18) (oi := { dst := some 91, op := Op.load 28 (Operand.tmp 15), type := 28, pos := "laws.go:448", after := #[{ on := 13, ground := Ground.guard }], guard := some (13, true) }) (v := ?vtw718) rfl (by kernel_rfl) (by kernel_rfl) (by kernel_rfl) (fun _ _ _ h => h) (Or.inl ⟨by rfl, ?ytw718⟩) hHeld ?rtw718
      case ytw718 => (intro w hSw; (try dsimp only at hSw); go_simp; try with_reducible rfl)
      (try simp only [Act.put, List.setIfInBounds_toArray, List.set_cons_zero, List.set_cons_succ])
      refine wpAnyH_ready (rs := [16]) (by kernel_rfl) (by simp) ?_
      refine AllReadyH.cons (o := { dst := some 89, op := Op.call { callee := Callee.value (Operand.func 14), args := #[Operand.tmp 87, Operand.tmp 88], argTypes := #[35, 28] }, type := 28, pos := "laws.go:448", after := #[{ on := 14, ground := Ground.data }, { on := 15, ground := Ground.data }, { on := 13, ground := Ground.chain }, { on := 13, ground := Ground.guard }], guard := some (13, true) }) rfl (fun K hK => ?_) AllReadyH.nil
      (go_simp; refine (iApG_any _ bs _ ⟨rk, j1, j2⟩ _ _ _ _ _ (HBS7.out _ Hx1.out) HRW.out.2.1 (HR7.out _ Hx1.out).2 HRW.out.1).mono ?_; intro e x2 hcx; obtain ⟨vx, rfl, hgx, hbx2⟩ := hcx.read; obtain ⟨_, _, _, _, _, _, _, _, hvx, _⟩ := id hgx; subst hvx; have HGX := Lib.hid hgx; clear hgx; go_wp2_with fail)
      have Hx2 := Lib.hid (bel_two Hx1.out hbx2)
      clear hbx2
      refine hK.out _ _ (HCELL.out x2 Hx2.out) (fun hHeld => ?_)
      clear hK K
      (try simp only [Act.put, List.setIfInBounds_toArray, List.set_cons_zero, List.set_cons_succ])
      refine wpAnyH_ready (rs := [19]) (by kernel_rfl) (by simp) ?_
      refine AllReadyH.cons (o := { dst := some 92, op := Op.call { callee := Callee.value (Operand.func 15), args := #[Operand.tmp 90, Operand.tmp 91], argTypes := #[35, 28] }, type := 28, pos := "laws.go:448", after := #[{ on := 17, ground := Ground.data }, { on := 18, ground := Ground.data }, { on := 16, ground := Ground.chain }, { on := 13, ground := Ground.guard }], guard := some (13, true) }) rfl (fun K hK => ?_) AllReadyH.nil
      (go_simp; refine (sApG_any _ bs _ ⟨rk, j1, j2⟩ _ _ _ _ _ (HBS7.out _ Hx2.out) HRW.out.2.1 (HR7.out _ Hx2.out).2 HRW.out.1).mono ?_; rintro e x3 ⟨vy, rfl, hgy, hbx3⟩; obtain ⟨_, _, _, _, _, _, _, _, hvy, _⟩ := id hgy; subst hvy; have HGY := Lib.hid hgy; have HGX3 := Lib.hid (HGX.out.below hbx3); clear hgy; go_wp2_with fail)
      have Hx3 := Lib.hid (bel_two Hx2.out hbx3)
      clear hbx3
      refine hK.out _ _ (HCELL.out x3 Hx3.out) (fun hHeld => ?_)
      clear hK K
      (try simp only [Act.put, List.setIfInBounds_toArray, List.set_cons_zero, List.set_cons_succ])
      refine wpAnyH_ready (rs := [20]) (by kernel_rfl) (by simp) ?_
      refine AllReadyH.cons (o := { dst := some 93, op := Op.call { callee := Callee.value (Operand.func 11), args := #[Operand.tmp 89, Operand.tmp 92], argTypes := #[28, 28] }, type := 4, pos := "laws.go:448", after := #[{ on := 16, ground := Ground.data }, { on := 19, ground := Ground.data }, { on := 19, ground := Ground.chain }, { on := 13, ground := Ground.guard }], guard := some (13, true) }) rfl (fun K hK => ?_) AllReadyH.nil
      (go_simp; refine (iEqG_any _ _ (appG (findB bs) ⟨rk, j1, j2⟩) (appG (findB bs) ⟨rk, j1, j2⟩) _ _ _ _ _ HGX3.out HGY.out HRW.out.2.2).mono ?_; rintro e x4 ⟨rfl, hbx4⟩; rw [(eqGB_iff _ _).2 rfl]; go_wp2_with fail)
      have Hx4 := Lib.hid (bel_two Hx3.out hbx4)
      clear hbx4
      refine hK.out _ _ (HCELL.out x4 Hx4.out) (fun hHeld => ?_)
      clear hK K
      (try simp only [Act.put, List.setIfInBounds_toArray, List.set_cons_zero, List.set_cons_succ])
      refine wpAnyH_take (i := 21) (oi := { dst := some 94, op := Op.pick (Operand.tmp 86) (Operand.tmp 93) (Operand.const (Value.bool false)), type := 4, pos := "laws.go:448", after := #[{ on := 13, ground := Ground.data }, { on := 20, ground := Ground.data }], guard := none }) (v := .bool true) rfl (by kernel_rfl) (by kernel_rfl) (by kernel_rfl) (fun _ _ _ h => h) (Or.inl ⟨by rfl, ?ytw721⟩) hHeld ?rtw721
      case ytw721 => (intro w hSw; (try dsimp only at hSw); go_simp; try with_reducible rfl)
      (try simp only [Act.put, List.setIfInBounds_toArray, List.set_cons_zero, List.set_cons_succ])
      refine wpAnyH_take (i := 22) (oi := { dst := some 2, op := Op.assign (Operand.tmp 94), type := 4, pos := "laws.go:448", after := #[{ on := 21, ground := Ground.data }, { on := 20, ground := Ground.chain }, { on := 0, ground := Ground.phase }, { on := 1, ground := Ground.phase }, { on := 2, ground := Ground.phase }, { on := 3, ground := Ground.phase }, { on := 4, ground := Ground.phase }, { on := 5, ground := Ground.phase }, { on := 6, ground := Ground.phase }, { on := 7, ground := Ground.phase }, { on := 8, ground := Ground.phase }, { on := 9, ground := Ground.phase }, { on := 10, ground := Ground.phase }, { on := 11, ground := Ground.phase }, { on := 12, ground := Ground.phase }, { on := 13, ground := Ground.phase }, { on := 14, ground := Ground.phase }, { on := 15, ground := Ground.phase }, { on := 16, ground := Ground.phase }, { on := 17, ground := Ground.phase }, { on := 18, ground := Ground.phase }, { on := 19, ground := Ground.phase }, { on := 20, ground := Ground.phase }, { on := 21, ground := Ground.phase }], guard := none }) (v := .bool true) rfl (by kernel_rfl) (by kernel_rfl) (by kernel_rfl) (fun _ _ _ h => h) (Or.inl ⟨by rfl, ?ytw722⟩) hHeld ?rtw722
      case ytw722 => (intro w hSw; (try dsimp only at hSw); go_simp; try with_reducible rfl)
      (try simp only [Act.put, List.setIfInBounds_toArray, List.set_cons_zero, List.set_cons_succ])
      refine wpAnyH_done (by kernel_rfl) ?_ _
      go_wp2
      go_ret
      exact HFIN.out _ Hx4.out
    | false =>
      refine wp_region_held_drew (S := fun w' => (w'.cell? ⟨v2.heap.size, 0, none⟩ = some (.int .i64 qk) ∧ w'.cell? ⟨v2.heap.size, 1, none⟩ = some (.int .i64 k7) ∧ w'.cell? ⟨v2.heap.size, 2, none⟩ = some (.int .i64 n7) ∧ w'.cell? ⟨v2.heap.size, 3, none⟩ = some (.string s7) ∧ w'.cell? ⟨v2.heap.size, 4, none⟩ = some (.slice a7 m7 c7) ∧ w'.cell? ⟨v2.heap.size, 5, none⟩ = some (.int .i64 k8) ∧ w'.cell? ⟨v2.heap.size, 6, none⟩ = some (.int .i64 n8) ∧ w'.cell? ⟨v2.heap.size, 7, none⟩ = some (.string s8) ∧ w'.cell? ⟨v2.heap.size, 8, none⟩ = some (.slice a8 m8 c8) ∧ w'.cell? ⟨v6.heap.size, 0, none⟩ = some (.int .i64 rk) ∧ w'.cell? ⟨v6.heap.size, 1, none⟩ = some (.int .i64 y1) ∧ w'.cell? ⟨v6.heap.size, 2, none⟩ = some (.int .i64 z1) ∧ w'.cell? ⟨v6.heap.size, 3, none⟩ = some (.string r1) ∧ w'.cell? ⟨v6.heap.size, 4, none⟩ = some (.slice b1 l1 d1) ∧ w'.cell? ⟨v6.heap.size, 5, none⟩ = some (.int .i64 y2) ∧ w'.cell? ⟨v6.heap.size, 6, none⟩ = some (.int .i64 z2) ∧ w'.cell? ⟨v6.heap.size, 7, none⟩ = some (.string r2) ∧ w'.cell? ⟨v6.heap.size, 8, none⟩ = some (.slice b2 l2 d2))) (by kernel_rfl) (HCELL.out _ hD0) (fun hHeld => ?_)
      refine wpAnyH_take (i := 0) (oi := { dst := some 73, op := Op.move (Operand.tmp 11), type := 4, pos := "laws.go:448", after := #[], guard := none }) (v := ?vfw70) rfl (by kernel_rfl) (by kernel_rfl) (by kernel_rfl) (fun _ _ _ h => h) (Or.inl ⟨by rfl, ?yfw70⟩) hHeld ?rfw70
      case yfw70 => (intro w hSw; (try dsimp only at hSw); go_simp; try with_reducible rfl)
      (try simp only [Act.put, List.setIfInBounds_toArray, List.set_cons_zero, List.set_cons_succ])
      refine wpAnyH_take (i := 1) (oi := { dst := some 74, op := Op.move (Operand.tmp 13), type := 4, pos := "laws.go:448", after := #[], guard := none }) (v := ?vfw71) rfl (by kernel_rfl) (by kernel_rfl) (by kernel_rfl) (fun _ _ _ h => h) (Or.inl ⟨by rfl, ?yfw71⟩) hHeld ?rfw71
      case yfw71 => (intro w hSw; (try dsimp only at hSw); go_simp; try with_reducible rfl)
      (try simp only [Act.put, List.setIfInBounds_toArray, List.set_cons_zero, List.set_cons_succ])
      refine wpAnyH_take (i := 2) (oi := { dst := some 75, op := Op.binOp BinOp.eql 4 (Operand.tmp 73) (Operand.tmp 74) 4, type := 4, pos := "laws.go:448", after := #[{ on := 0, ground := Ground.data }, { on := 1, ground := Ground.data }], guard := none }) (v := .bool true) rfl (by kernel_rfl) (by kernel_rfl) (by kernel_rfl) (fun _ _ _ h => h) (Or.inl ⟨by rfl, ?yfw72⟩) hHeld ?rfw72
      case yfw72 => (intro w hSw; (try dsimp only at hSw); go_simp; try with_reducible rfl)
      (try simp only [Act.put, List.setIfInBounds_toArray, List.set_cons_zero, List.set_cons_succ])
      refine wpAnyH_take (i := 3) (oi := { dst := some 76, op := Op.move (Operand.tmp 75), type := 4, pos := "laws.go:448", after := #[{ on := 2, ground := Ground.data }], guard := none }) (v := .bool true) rfl (by kernel_rfl) (by kernel_rfl) (by kernel_rfl) (fun _ _ _ h => h) (Or.inl ⟨by rfl, ?yfw73⟩) hHeld ?rfw73
      case yfw73 => (intro w hSw; (try dsimp only at hSw); go_simp; try with_reducible rfl)
      (try simp only [Act.put, List.setIfInBounds_toArray, List.set_cons_zero, List.set_cons_succ])
      refine wpAnyH_take (i := 4) (oi := { dst := some 77, op := Op.move (Operand.tmp 11), type := 4, pos := "laws.go:448", after := #[{ on := 3, ground := Ground.guard }], guard := some (3, true) }) (v := ?vfw74) rfl (by kernel_rfl) (by kernel_rfl) (by kernel_rfl) (fun _ _ _ h => h) (Or.inl ⟨by rfl, ?yfw74⟩) hHeld ?rfw74
      case yfw74 => (intro w hSw; (try dsimp only at hSw); go_simp; try with_reducible rfl)
      (try simp only [Act.put, List.setIfInBounds_toArray, List.set_cons_zero, List.set_cons_succ])
      refine wpAnyH_take (i := 5) (oi := { dst := some 78, op := Op.unOp UnOp.not 4 (Operand.tmp 77), type := 4, pos := "laws.go:448", after := #[{ on := 4, ground := Ground.data }, { on := 3, ground := Ground.guard }], guard := some (3, true) }) (v := .bool true) rfl (by kernel_rfl) (by kernel_rfl) (by kernel_rfl) (fun _ _ _ h => h) (Or.inl ⟨by rfl, ?yfw75⟩) hHeld ?rfw75
      case yfw75 => (intro w hSw; (try dsimp only at hSw); go_simp; try with_reducible rfl)
      (try simp only [Act.put, List.setIfInBounds_toArray, List.set_cons_zero, List.set_cons_succ])
      refine wpAnyH_take (i := 6) (oi := { dst := some 79, op := Op.move (Operand.tmp 78), type := 4, pos := "laws.go:448", after := #[{ on := 5, ground := Ground.data }, { on := 3, ground := Ground.chain }, { on := 3, ground := Ground.guard }], guard := some (3, true) }) (v := .bool true) rfl (by kernel_rfl) (by kernel_rfl) (by kernel_rfl) (fun _ _ _ h => h) (Or.inl ⟨by rfl, ?yfw76⟩) hHeld ?rfw76
      case yfw76 => (intro w hSw; (try dsimp only at hSw); go_simp; try with_reducible rfl)
      (try simp only [Act.put, List.setIfInBounds_toArray, List.set_cons_zero, List.set_cons_succ])
      refine wpAnyH_take (i := 7) (oi := { dst := some 80, op := Op.load 28 (Operand.tmp 10), type := 28, pos := "laws.go:448", after := #[{ on := 6, ground := Ground.guard }], guard := some (6, false) }) (v := undef) rfl (by kernel_rfl) (by kernel_rfl) (by kernel_rfl) (fun _ _ _ h => h) (Or.inr ⟨by rfl, rfl⟩) hHeld ?_
      (try simp only [Act.put, List.setIfInBounds_toArray, List.set_cons_zero, List.set_cons_succ])
      refine wpAnyH_take (i := 8) (oi := { dst := some 81, op := Op.call { callee := Callee.value (Operand.func 7), args := #[Operand.tmp 80], argTypes := #[28] }, type := 9, pos := "laws.go:448", after := #[{ on := 7, ground := Ground.data }, { on := 6, ground := Ground.chain }, { on := 6, ground := Ground.guard }], guard := some (6, false) }) (v := undef) rfl (by kernel_rfl) (by kernel_rfl) (by kernel_rfl) (fun _ _ _ h => h) (Or.inr ⟨by rfl, rfl⟩) hHeld ?_
      (try simp only [Act.put, List.setIfInBounds_toArray, List.set_cons_zero, List.set_cons_succ])
      refine wpAnyH_take (i := 9) (oi := { dst := some 82, op := Op.move (Operand.tmp 9), type := 9, pos := "laws.go:448", after := #[{ on := 6, ground := Ground.guard }], guard := some (6, false) }) (v := undef) rfl (by kernel_rfl) (by kernel_rfl) (by kernel_rfl) (fun _ _ _ h => h) (Or.inr ⟨by rfl, rfl⟩) hHeld ?_
      (try simp only [Act.put, List.setIfInBounds_toArray, List.set_cons_zero, List.set_cons_succ])
      refine wpAnyH_take (i := 10) (oi := { dst := some 83, op := Op.binOp BinOp.eql 9 (Operand.tmp 81) (Operand.tmp 82) 9, type := 4, pos := "laws.go:448", after := #[{ on := 8, ground := Ground.data }, { on := 9, ground := Ground.data }, { on := 6, ground := Ground.guard }], guard := some (6, false) }) (v := undef) rfl (by kernel_rfl) (by kernel_rfl) (by kernel_rfl) (fun _ _ _ h => h) (Or.inr ⟨by rfl, rfl⟩) hHeld ?_
      (try simp only [Act.put, List.setIfInBounds_toArray, List.set_cons_zero, List.set_cons_succ])
      refine wpAnyH_take (i := 11) (oi := { dst := some 84, op := Op.pick (Operand.tmp 79) (Operand.const (Value.bool true)) (Operand.tmp 83), type := 4, pos := "laws.go:448", after := #[{ on := 6, ground := Ground.data }, { on := 10, ground := Ground.data }, { on := 3, ground := Ground.guard }], guard := some (3, true) }) (v := .bool true) rfl (by kernel_rfl) (by kernel_rfl) (by kernel_rfl) (fun _ _ _ h => h) (Or.inl ⟨by rfl, ?yfw711⟩) hHeld ?rfw711
      case yfw711 => (intro w hSw; (try dsimp only at hSw); go_simp; try with_reducible rfl)
      (try simp only [Act.put, List.setIfInBounds_toArray, List.set_cons_zero, List.set_cons_succ])
      refine wpAnyH_take (i := 12) (oi := { dst := some 85, op := Op.pick (Operand.tmp 76) (Operand.tmp 84) (Operand.const (Value.bool false)), type := 4, pos := "laws.go:448", after := #[{ on := 3, ground := Ground.data }, { on := 11, ground := Ground.data }], guard := none }) (v := .bool true) rfl (by kernel_rfl) (by kernel_rfl) (by kernel_rfl) (fun _ _ _ h => h) (Or.inl ⟨by rfl, ?yfw712⟩) hHeld ?rfw712
      case yfw712 => (intro w hSw; (try dsimp only at hSw); go_simp; try with_reducible rfl)
      (try simp only [Act.put, List.setIfInBounds_toArray, List.set_cons_zero, List.set_cons_succ])
      refine wpAnyH_take (i := 13) (oi := { dst := some 86, op := Op.move (Operand.tmp 85), type := 4, pos := "laws.go:448", after := #[{ on := 12, ground := Ground.data }, { on := 8, ground := Ground.chain }], guard := none }) (v := .bool true) rfl (by kernel_rfl) (by kernel_rfl) (by kernel_rfl) (fun _ _ _ h => h) (Or.inl ⟨by rfl, ?yfw713⟩) hHeld ?rfw713
      case yfw713 => (intro w hSw; (try dsimp only at hSw); go_simp; try with_reducible rfl)
      (try simp only [Act.put, List.setIfInBounds_toArray, List.set_cons_zero, List.set_cons_succ])
      refine wpAnyH_take (i := 14) (oi := { dst := some 87, op := Op.move (Operand.tmp 14), type := 35, pos := "laws.go:448", after := #[{ on := 13, ground := Ground.guard }], guard := some (13, true) }) (v := ?vfw714) rfl (by kernel_rfl) (by kernel_rfl) (by kernel_rfl) (fun _ _ _ h => h) (Or.inl ⟨by rfl, ?yfw714⟩) hHeld ?rfw714
      case yfw714 => (intro w hSw; (try dsimp only at hSw); go_simp; try with_reducible rfl)
      (try simp only [Act.put, List.setIfInBounds_toArray, List.set_cons_zero, List.set_cons_succ])
      refine wpAnyH_take (i := 15) (oi := { dst := some 88, op := Op.load 28 (Operand.tmp 15), type := 28, pos := "laws.go:448", after := #[{ on := 13, ground := Ground.guard }], guard := some (13, true) }) (v := ?vfw715) rfl (by kernel_rfl) (by kernel_rfl) (by kernel_rfl) (fun _ _ _ h => h) (Or.inl ⟨by rfl, ?yfw715⟩) hHeld ?rfw715
      case yfw715 => (intro w hSw; (try dsimp only at hSw); go_simp; try with_reducible rfl)
      (try simp only [Act.put, List.setIfInBounds_toArray, List.set_cons_zero, List.set_cons_succ])
      refine wpAnyH_take (i := 17) (oi := { dst := some 90, op := Op.move (Operand.tmp 14), type := 35, pos := "laws.go:448", after := #[{ on := 13, ground := Ground.guard }], guard := some (13, true) }) (v := ?vfw717) rfl (by kernel_rfl) (by kernel_rfl) (by kernel_rfl) (fun _ _ _ h => h) (Or.inl ⟨by rfl, ?yfw717⟩) hHeld ?rfw717
      case yfw717 => (intro w hSw; (try dsimp only at hSw); go_simp; try with_reducible rfl)
      (try simp only [Act.put, List.setIfInBounds_toArray, List.set_cons_zero, List.set_cons_succ])
      refine wpAnyH_take (i := 18) (oi := { dst := some 91, op := Op.load 28 (Operand.tmp 15), type := 28, pos := "laws.go:448", after := #[{ on := 13, ground := Ground.guard }], guard := some (13, true) }) (v := ?vfw718) rfl (by kernel_rfl) (by kernel_rfl) (by kernel_rfl) (fun _ _ _ h => h) (Or.inl ⟨by rfl, ?yfw718⟩) hHeld ?rfw718
      case yfw718 => (intro w hSw; (try dsimp only at hSw); go_simp; try with_reducible rfl)
      (try simp only [Act.put, List.setIfInBounds_toArray, List.set_cons_zero, List.set_cons_succ])
      refine wpAnyH_ready (rs := [16]) (by kernel_rfl) (by simp) ?_
      refine AllReadyH.cons (o := { dst := some 89, op := Op.call { callee := Callee.value (Operand.func 14), args := #[Operand.tmp 87, Operand.tmp 88], argTypes := #[35, 28] }, type := 28, pos := "laws.go:448", after := #[{ on := 14, ground := Ground.data }, { on := 15, ground := Ground.data }, { on := 13, ground := Ground.chain }, { on := 13, ground := Ground.guard }], guard := some (13, true) }) rfl (fun K hK => ?_) AllReadyH.nil
      (go_simp; refine (iApG_any _ bs _ ⟨rk, j1, j2⟩ _ _ _ _ _ (HBS7.out _ hD0) HRW.out.2.1 (HR7.out _ hD0).2 HRW.out.1).mono ?_; intro e x2 hcx; obtain ⟨vx, rfl, hgx, hbx2⟩ := hcx.read; obtain ⟨_, _, _, _, _, _, _, _, hvx, _⟩ := id hgx; subst hvx; have HGX := Lib.hid hgx; clear hgx; go_wp2_with fail)
      have Hx2 := Lib.hid (bel_two hD0 hbx2)
      clear hbx2
      refine hK.out _ _ (HCELL.out x2 Hx2.out) (fun hHeld => ?_)
      clear hK K
      (try simp only [Act.put, List.setIfInBounds_toArray, List.set_cons_zero, List.set_cons_succ])
      refine wpAnyH_ready (rs := [19]) (by kernel_rfl) (by simp) ?_
      refine AllReadyH.cons (o := { dst := some 92, op := Op.call { callee := Callee.value (Operand.func 15), args := #[Operand.tmp 90, Operand.tmp 91], argTypes := #[35, 28] }, type := 28, pos := "laws.go:448", after := #[{ on := 17, ground := Ground.data }, { on := 18, ground := Ground.data }, { on := 16, ground := Ground.chain }, { on := 13, ground := Ground.guard }], guard := some (13, true) }) rfl (fun K hK => ?_) AllReadyH.nil
      (go_simp; refine (sApG_any _ bs _ ⟨rk, j1, j2⟩ _ _ _ _ _ (HBS7.out _ Hx2.out) HRW.out.2.1 (HR7.out _ Hx2.out).2 HRW.out.1).mono ?_; rintro e x3 ⟨vy, rfl, hgy, hbx3⟩; obtain ⟨_, _, _, _, _, _, _, _, hvy, _⟩ := id hgy; subst hvy; have HGY := Lib.hid hgy; have HGX3 := Lib.hid (HGX.out.below hbx3); clear hgy; go_wp2_with fail)
      have Hx3 := Lib.hid (bel_two Hx2.out hbx3)
      clear hbx3
      refine hK.out _ _ (HCELL.out x3 Hx3.out) (fun hHeld => ?_)
      clear hK K
      (try simp only [Act.put, List.setIfInBounds_toArray, List.set_cons_zero, List.set_cons_succ])
      refine wpAnyH_ready (rs := [20]) (by kernel_rfl) (by simp) ?_
      refine AllReadyH.cons (o := { dst := some 93, op := Op.call { callee := Callee.value (Operand.func 11), args := #[Operand.tmp 89, Operand.tmp 92], argTypes := #[28, 28] }, type := 4, pos := "laws.go:448", after := #[{ on := 16, ground := Ground.data }, { on := 19, ground := Ground.data }, { on := 19, ground := Ground.chain }, { on := 13, ground := Ground.guard }], guard := some (13, true) }) rfl (fun K hK => ?_) AllReadyH.nil
      (go_simp; refine (iEqG_any _ _ (appG (findB bs) ⟨rk, j1, j2⟩) (appG (findB bs) ⟨rk, j1, j2⟩) _ _ _ _ _ HGX3.out HGY.out HRW.out.2.2).mono ?_; rintro e x4 ⟨rfl, hbx4⟩; rw [(eqGB_iff _ _).2 rfl]; go_wp2_with fail)
      have Hx4 := Lib.hid (bel_two Hx3.out hbx4)
      clear hbx4
      refine hK.out _ _ (HCELL.out x4 Hx4.out) (fun hHeld => ?_)
      clear hK K
      (try simp only [Act.put, List.setIfInBounds_toArray, List.set_cons_zero, List.set_cons_succ])
      refine wpAnyH_take (i := 21) (oi := { dst := some 94, op := Op.pick (Operand.tmp 86) (Operand.tmp 93) (Operand.const (Value.bool false)), type := 4, pos := "laws.go:448", after := #[{ on := 13, ground := Ground.data }, { on := 20, ground := Ground.data }], guard := none }) (v := .bool true) rfl (by kernel_rfl) (by kernel_rfl) (by kernel_rfl) (fun _ _ _ h => h) (Or.inl ⟨by rfl, ?yfw721⟩) hHeld ?rfw721
      case yfw721 => (intro w hSw; (try dsimp only at hSw); go_simp; try with_reducible rfl)
      (try simp only [Act.put, List.setIfInBounds_toArray, List.set_cons_zero, List.set_cons_succ])
      refine wpAnyH_take (i := 22) (oi := { dst := some 2, op := Op.assign (Operand.tmp 94), type := 4, pos := "laws.go:448", after := #[{ on := 21, ground := Ground.data }, { on := 20, ground := Ground.chain }, { on := 0, ground := Ground.phase }, { on := 1, ground := Ground.phase }, { on := 2, ground := Ground.phase }, { on := 3, ground := Ground.phase }, { on := 4, ground := Ground.phase }, { on := 5, ground := Ground.phase }, { on := 6, ground := Ground.phase }, { on := 7, ground := Ground.phase }, { on := 8, ground := Ground.phase }, { on := 9, ground := Ground.phase }, { on := 10, ground := Ground.phase }, { on := 11, ground := Ground.phase }, { on := 12, ground := Ground.phase }, { on := 13, ground := Ground.phase }, { on := 14, ground := Ground.phase }, { on := 15, ground := Ground.phase }, { on := 16, ground := Ground.phase }, { on := 17, ground := Ground.phase }, { on := 18, ground := Ground.phase }, { on := 19, ground := Ground.phase }, { on := 20, ground := Ground.phase }, { on := 21, ground := Ground.phase }], guard := none }) (v := .bool true) rfl (by kernel_rfl) (by kernel_rfl) (by kernel_rfl) (fun _ _ _ h => h) (Or.inl ⟨by rfl, ?yfw722⟩) hHeld ?rfw722
      case yfw722 => (intro w hSw; (try dsimp only at hSw); go_simp; try with_reducible rfl)
      (try simp only [Act.put, List.setIfInBounds_toArray, List.set_cons_zero, List.set_cons_succ])
      refine wpAnyH_done (by kernel_rfl) ?_ _
      go_wp2
      go_ret
      exact HFIN.out _ Hx4.out
  | true =>
    obtain ⟨g0, g1, g2, g3, g4, g5, g6, g7, g8⟩ := cells_of9 (HX7.out w7 (Below.refl _ _)).1
    have hss2 : (S.toList != S.toList) = false := by simp
    go_wp2_with fail
    refine (iFmtG_any _ ⟨pk, pl, pr⟩ _ _ w7 (HX7.out w7 (Below.refl _ _)).2 HPW.out (HTB.out w7 HB7.out).1.1 (HTB.out w7 HB7.out).1.low).mono ?_
    rintro e w8 ⟨rfl, hb8⟩
    rw [(by first | exact HPF.out rfl | exact HPF.out trivial : fmtG _ = S)]
    have HB8 := Lib.hid (HB7.out.trans (hb8.mono HB7.out.size))
    clear hb8 g0 g1 g2 g3 g4 g5 g6 g7 g8
    go_wp2_with fail
    refine (drawParG_any _ len _ (HC1.out.below HB8.out)).mono ?_
    rintro e v1 ⟨U, rfl, hU, hb⟩
    have HV1 := Lib.hid (HB8.out.trans (hb.mono HB8.out.size))
    have HUS := Lib.hid hU
    clear hU hb
    go_wp2_with fail
    refine (iParG_any U v1 (by have := HUS.out; omega) (HTB.out _ HV1.out).1 (HTB.out _ HV1.out).2).mono ?_
    intro e v2 hr
    obtain ⟨H7, k7, n7, s7, a7, m7, c7, k8, n8, s8, a8, m8, c8, rfl, hg7, hb⟩ := hr.read
    obtain ⟨Q, hQ⟩ : ∃ P, P = (parG U).getD zG := ⟨_, rfl⟩
    obtain ⟨fine, hfi⟩ : ∃ b, b = (parG U).isSome := ⟨_, rfl⟩
    rw [← hQ] at hg7
    rw [← hQ, ← hfi]
    have HQW : Hid (wG Q ≤ 1048576) := Lib.hid (by rw [hQ]; have := par_wG' U; omega)
    have HQF : Hid (fine = true → fmtG Q = U) := Lib.hid (fun e => by rw [hQ]; exact par_fmt' (by rw [← hfi]; exact e))
    have HQS := Lib.hid (And.intro hQ hfi)
    have HG7 := Lib.hid hg7
    have HV2 := Lib.hid (HV1.out.trans (hb.mono HV1.out.size))
    clear hr hg7 hb hQ hfi
    obtain ⟨qk, ql, qr⟩ := Q
    obtain ⟨V3, hV3⟩ : ∃ X, X = v2.alloc (.cells #[.int .i64 qk, .int .i64 k7, .int .i64 n7, .string s7, .slice a7 m7 c7, .int .i64 k8, .int .i64 n8, .string s8, .slice a8 m8 c8] 28) := ⟨_, rfl⟩
    have hbV : Below v2.heap.size v2 V3 := by rw [hV3]; exact (Below.refl _ _).alloc (Nat.le_refl _) _
    have HV3 := Lib.hid (HV2.out.trans (hbV.mono HV2.out.size))
    have HQ3 := Lib.hid (InBox.mk HG7.out hV3)
    clear hbV HG7
    go_wp2_with fail
    rw [← hV3]
    clear hV3
    refine (sParG_any U V3 (by have := HUS.out; omega)).mono ?_
    intro e v4 hr
    rw [← HQS.out.1, ← HQS.out.2] at hr
    obtain ⟨H9, k9, n9, s9, a9, m9, c9, kx, nx, sx, ax, mx, cx, rfl, hg9, hb⟩ := hr.read
    have HV4 := Lib.hid (HV3.out.trans (hb.mono HV3.out.size))
    have HQ4 := Lib.hid (HQ3.out.next hb)
    clear hr hg9 hb HQ3 HQS HUS
    obtain ⟨V5, hV5⟩ : ∃ X, X = v4.alloc (.cells #[.int .i64 qk, .int .i64 k9, .int .i64 n9, .string s9, .slice a9 m9 c9, .int .i64 kx, .int .i64 nx, .string sx, .slice ax mx cx] 28) := ⟨_, rfl⟩
    have hbV : Below v4.heap.size v4 V5 := by rw [hV5]; exact (Below.refl _ _).alloc (Nat.le_refl _) _
    have HV5 := Lib.hid (HV4.out.trans (hbV.mono HV4.out.size))
    have HQ5 := Lib.hid (HQ4.out.next hbV)
    clear hbV HQ4
    go_wp2_with fail
    rw [← hV5]
    clear hV5
    refine (drawApG_any _ len _ (HC1.out.below HV5.out)).mono ?_
    rintro e v6 ⟨bu, bs, rk, y1, z1, r1, b1, l1, d1, y2, z2, r2, b2, l2, d2, j1, j2, g1h, g2h, rfl, hbs, hsm, hj1, hj2, hwj1, hwj2, hb⟩
    have HBS := Lib.hid (And.intro hbs hsm)
    have HGR : Hid (GAt v6 V5.heap.size (max g1h g2h) (gv rk y1 z1 r1 (.slice b1 l1 d1) y2 z2 r2 (.slice b2 l2 d2)) ⟨rk, j1, j2⟩) := Lib.hid ⟨y1, z1, r1, _, y2, z2, r2, _, rfl, by
      obtain ⟨q1, q2, q3, q4, q5, e1, e2, e3, e4⟩ := hj1
      exact ⟨q1, q2, q3, q4, q5, e1, e2, e3, e4.le (Nat.le_max_left _ _)⟩, by
      obtain ⟨q1, q2, q3, q4, q5, e1, e2, e3, e4⟩ := hj2
      exact ⟨q1, q2, q3, q4, q5, e1, e2, e3, e4.le (Nat.le_max_right _ _)⟩⟩
    have HRW : Hid (wG ⟨rk, j1, j2⟩ ≤ 1048576 ∧ wBs bs ≤ 1048576 ∧ wG (appG (findB bs) ⟨rk, j1, j2⟩) ≤ 1048576) := Lib.hid ⟨by unfold wG; simp only; omega, by have := small7_w hsm; omega, app_weight hsm hwj1 hwj2⟩
    have HV6 := Lib.hid (HV5.out.trans (hb.mono HV5.out.size))
    have HQ6 := Lib.hid (HQ5.out.next hb)
    clear hbs hsm hj1 hj2 hwj1 hwj2 hb HQ5
    obtain ⟨V7, hV7⟩ : ∃ X, X = v6.alloc (.cells #[.int .i64 rk, .int .i64 y1, .int .i64 z1, .string r1, .slice b1 l1 d1, .int .i64 y2, .int .i64 z2, .string r2, .slice b2 l2 d2] 28) := ⟨_, rfl⟩
    have hbV : Below v6.heap.size v6 V7 := by rw [hV7]; exact (Below.refl _ _).alloc (Nat.le_refl _) _
    have HV7 := Lib.hid (HV6.out.trans (hbV.mono HV6.out.size))
    have HQ7 := Lib.hid (HQ6.out.next hbV)
    have HR7 := Lib.hid (InBox.mk HGR.out hV7)
    have HBS7 : Hid (∀ w', Below V7.heap.size V7 w' → BsAt w' V5.heap.size 2 bu bs) := Lib.hid (fun w' hb => (HBS.out.1.below hbV).below hb)
    clear hbV HQ6 HGR HBS
    have hff : (fine == fine) = true := by simp
    have huu : (U.toList == U.toList) = true := by simp
    go_wp2
    rw [← hV7]
    clear hV7
    have HCELL : Hid (∀ w', Below V7.heap.size V7 w' → (w'.cell? ⟨v2.heap.size, 0, none⟩ = some (.int .i64 qk) ∧ w'.cell? ⟨v2.heap.size, 1, none⟩ = some (.int .i64 k7) ∧ w'.cell? ⟨v2.heap.size, 2, none⟩ = some (.int .i64 n7) ∧ w'.cell? ⟨v2.heap.size, 3, none⟩ = some (.string s7) ∧ w'.cell? ⟨v2.heap.size, 4, none⟩ = some (.slice a7 m7 c7) ∧ w'.cell? ⟨v2.heap.size, 5, none⟩ = some (.int .i64 k8) ∧ w'.cell? ⟨v2.heap.size, 6, none⟩ = some (.int .i64 n8) ∧ w'.cell? ⟨v2.heap.size, 7, none⟩ = some (.string s8) ∧ w'.cell? ⟨v2.heap.size, 8, none⟩ = some (.slice a8 m8 c8) ∧ w'.cell? ⟨v6.heap.size, 0, none⟩ = some (.int .i64 rk) ∧ w'.cell? ⟨v6.heap.size, 1, none⟩ = some (.int .i64 y1) ∧ w'.cell? ⟨v6.heap.size, 2, none⟩ = some (.int .i64 z1) ∧ w'.cell? ⟨v6.heap.size, 3, none⟩ = some (.string r1) ∧ w'.cell? ⟨v6.heap.size, 4, none⟩ = some (.slice b1 l1 d1) ∧ w'.cell? ⟨v6.heap.size, 5, none⟩ = some (.int .i64 y2) ∧ w'.cell? ⟨v6.heap.size, 6, none⟩ = some (.int .i64 z2) ∧ w'.cell? ⟨v6.heap.size, 7, none⟩ = some (.string r2) ∧ w'.cell? ⟨v6.heap.size, 8, none⟩ = some (.slice b2 l2 d2))) := Lib.hid (fun w' hb => by
      obtain ⟨g0, g1, g2, g3, g4, g5, g6, g7, g8⟩ := cells_of9 (HQ7.out w' hb).1
      obtain ⟨o0, o1, o2, o3, o4, o5, o6, o7, o8⟩ := cells_of9 (HR7.out w' hb).1
      exact ⟨g0, g1, g2, g3, g4, g5, g6, g7, g8, o0, o1, o2, o3, o4, o5, o6, o7, o8⟩)
    have hD0 : Below V7.heap.size V7 V7.drew := (Below.refl _ _).drew
    have HFIN : Hid (∀ w', Below V7.heap.size V7 w' → TrueAt w (.returned (.bool true)) w') := Lib.hid (fun w' hb => ⟨rfl, HV7.out.trans (hb.mono HV7.out.size)⟩)
    cases fine with
    | true =>
      refine wp_region_held_drew (S := fun w' => (w'.cell? ⟨v2.heap.size, 0, none⟩ = some (.int .i64 qk) ∧ w'.cell? ⟨v2.heap.size, 1, none⟩ = some (.int .i64 k7) ∧ w'.cell? ⟨v2.heap.size, 2, none⟩ = some (.int .i64 n7) ∧ w'.cell? ⟨v2.heap.size, 3, none⟩ = some (.string s7) ∧ w'.cell? ⟨v2.heap.size, 4, none⟩ = some (.slice a7 m7 c7) ∧ w'.cell? ⟨v2.heap.size, 5, none⟩ = some (.int .i64 k8) ∧ w'.cell? ⟨v2.heap.size, 6, none⟩ = some (.int .i64 n8) ∧ w'.cell? ⟨v2.heap.size, 7, none⟩ = some (.string s8) ∧ w'.cell? ⟨v2.heap.size, 8, none⟩ = some (.slice a8 m8 c8) ∧ w'.cell? ⟨v6.heap.size, 0, none⟩ = some (.int .i64 rk) ∧ w'.cell? ⟨v6.heap.size, 1, none⟩ = some (.int .i64 y1) ∧ w'.cell? ⟨v6.heap.size, 2, none⟩ = some (.int .i64 z1) ∧ w'.cell? ⟨v6.heap.size, 3, none⟩ = some (.string r1) ∧ w'.cell? ⟨v6.heap.size, 4, none⟩ = some (.slice b1 l1 d1) ∧ w'.cell? ⟨v6.heap.size, 5, none⟩ = some (.int .i64 y2) ∧ w'.cell? ⟨v6.heap.size, 6, none⟩ = some (.int .i64 z2) ∧ w'.cell? ⟨v6.heap.size, 7, none⟩ = some (.string r2) ∧ w'.cell? ⟨v6.heap.size, 8, none⟩ = some (.slice b2 l2 d2))) (by kernel_rfl) (HCELL.out _ hD0) (fun hHeld => ?_)
      refine wpAnyH_take (i := 0) (oi := { dst := some 73, op := Op.move (Operand.tmp 11), type := 4, pos := "laws.go:448", after := #[], guard := none }) (v := ?vtw80) rfl (by kernel_rfl) (by kernel_rfl) (by kernel_rfl) (fun _ _ _ h => h) (Or.inl ⟨by rfl, ?ytw80⟩) hHeld ?rtw80
      case ytw80 => (intro w hSw; (try dsimp only at hSw); go_simp; try with_reducible rfl)
      (try simp only [Act.put, List.setIfInBounds_toArray, List.set_cons_zero, List.set_cons_succ])
      refine wpAnyH_take (i := 1) (oi := { dst := some 74, op := Op.move (Operand.tmp 13), type := 4, pos := "laws.go:448", after := #[], guard := none }) (v := ?vtw81) rfl (by kernel_rfl) (by kernel_rfl) (by kernel_rfl) (fun _ _ _ h => h) (Or.inl ⟨by rfl, ?ytw81⟩) hHeld ?rtw81
      case ytw81 => (intro w hSw; (try dsimp only at hSw); go_simp; try with_reducible rfl)
      (try simp only [Act.put, List.setIfInBounds_toArray, List.set_cons_zero, List.set_cons_succ])
      refine wpAnyH_take (i := 2) (oi := { dst := some 75, op := Op.binOp BinOp.eql 4 (Operand.tmp 73) (Operand.tmp 74) 4, type := 4, pos := "laws.go:448", after := #[{ on := 0, ground := Ground.data }, { on := 1, ground := Ground.data }], guard := none }) (v := .bool true) rfl (by kernel_rfl) (by kernel_rfl) (by kernel_rfl) (fun _ _ _ h => h) (Or.inl ⟨by rfl, ?ytw82⟩) hHeld ?rtw82
      case ytw82 => (intro w hSw; (try dsimp only at hSw); go_simp; try with_reducible rfl)
      (try simp only [Act.put, List.setIfInBounds_toArray, List.set_cons_zero, List.set_cons_succ])
      refine wpAnyH_take (i := 3) (oi := { dst := some 76, op := Op.move (Operand.tmp 75), type := 4, pos := "laws.go:448", after := #[{ on := 2, ground := Ground.data }], guard := none }) (v := .bool true) rfl (by kernel_rfl) (by kernel_rfl) (by kernel_rfl) (fun _ _ _ h => h) (Or.inl ⟨by rfl, ?ytw83⟩) hHeld ?rtw83
      case ytw83 => (intro w hSw; (try dsimp only at hSw); go_simp; try with_reducible rfl)
      (try simp only [Act.put, List.setIfInBounds_toArray, List.set_cons_zero, List.set_cons_succ])
      refine wpAnyH_take (i := 4) (oi := { dst := some 77, op := Op.move (Operand.tmp 11), type := 4, pos := "laws.go:448", after := #[{ on := 3, ground := Ground.guard }], guard := some (3, true) }) (v := ?vtw84) rfl (by kernel_rfl) (by kernel_rfl) (by kernel_rfl) (fun _ _ _ h => h) (Or.inl ⟨by rfl, ?ytw84⟩) hHeld ?rtw84
      case ytw84 => (intro w hSw; (try dsimp only at hSw); go_simp; try with_reducible rfl)
      (try simp only [Act.put, List.setIfInBounds_toArray, List.set_cons_zero, List.set_cons_succ])
      refine wpAnyH_take (i := 5) (oi := { dst := some 78, op := Op.unOp UnOp.not 4 (Operand.tmp 77), type := 4, pos := "laws.go:448", after := #[{ on := 4, ground := Ground.data }, { on := 3, ground := Ground.guard }], guard := some (3, true) }) (v := .bool false) rfl (by kernel_rfl) (by kernel_rfl) (by kernel_rfl) (fun _ _ _ h => h) (Or.inl ⟨by rfl, ?ytw85⟩) hHeld ?rtw85
      case ytw85 => (intro w hSw; (try dsimp only at hSw); go_simp; try with_reducible rfl)
      (try simp only [Act.put, List.setIfInBounds_toArray, List.set_cons_zero, List.set_cons_succ])
      refine wpAnyH_take (i := 6) (oi := { dst := some 79, op := Op.move (Operand.tmp 78), type := 4, pos := "laws.go:448", after := #[{ on := 5, ground := Ground.data }, { on := 3, ground := Ground.chain }, { on := 3, ground := Ground.guard }], guard := some (3, true) }) (v := .bool false) rfl (by kernel_rfl) (by kernel_rfl) (by kernel_rfl) (fun _ _ _ h => h) (Or.inl ⟨by rfl, ?ytw86⟩) hHeld ?rtw86
      case ytw86 => (intro w hSw; (try dsimp only at hSw); go_simp; try with_reducible rfl)
      (try simp only [Act.put, List.setIfInBounds_toArray, List.set_cons_zero, List.set_cons_succ])
      refine wpAnyH_take (i := 7) (oi := { dst := some 80, op := Op.load 28 (Operand.tmp 10), type := 28, pos := "laws.go:448", after := #[{ on := 6, ground := Ground.guard }], guard := some (6, false) }) (v := ?vtw87) rfl (by kernel_rfl) (by kernel_rfl) (by kernel_rfl) (fun _ _ _ h => h) (Or.inl ⟨by rfl, ?ytw87⟩) hHeld ?rtw87
      case ytw87 => (intro w hSw; (try dsimp only at hSw); go_simp; try with_reducible rfl)
      (try simp only [Act.put, List.setIfInBounds_toArray, List.set_cons_zero, List.set_cons_succ])
      refine wpAnyH_take (i := 9) (oi := { dst := some 82, op := Op.move (Operand.tmp 9), type := 9, pos := "laws.go:448", after := #[{ on := 6, ground := Ground.guard }], guard := some (6, false) }) (v := ?vtw89) rfl (by kernel_rfl) (by kernel_rfl) (by kernel_rfl) (fun _ _ _ h => h) (Or.inl ⟨by rfl, ?ytw89⟩) hHeld ?rtw89
      case ytw89 => (intro w hSw; (try dsimp only at hSw); go_simp; try with_reducible rfl)
      (try simp only [Act.put, List.setIfInBounds_toArray, List.set_cons_zero, List.set_cons_succ])
      refine wpAnyH_ready (rs := [8]) (by kernel_rfl) (by simp) ?_
      refine AllReadyH.cons (o := { dst := some 81, op := Op.call { callee := Callee.value (Operand.func 7), args := #[Operand.tmp 80], argTypes := #[28] }, type := 9, pos := "laws.go:448", after := #[{ on := 7, ground := Ground.data }, { on := 6, ground := Ground.chain }, { on := 6, ground := Ground.guard }], guard := some (6, false) }) rfl (fun K hK => ?_) AllReadyH.nil
      (go_simp; refine (iFmtG_any _ ⟨qk, ql, qr⟩ _ _ _ (HQ7.out _ hD0).2 HQW.out (HTB.out _ (HV7.out.trans (hD0.mono HV7.out.size))).1.1 (HTB.out _ (HV7.out.trans (hD0.mono HV7.out.size))).1.low).mono ?_; rintro e x1 ⟨rfl, hbx1⟩; rw [(by first | exact HQF.out rfl | exact HQF.out trivial : fmtG _ = U)]; go_wp2_with fail)
      have Hx1 := Lib.hid (bel_two hD0 hbx1)
      clear hbx1
      refine hK.out _ _ (HCELL.out x1 Hx1.out) (fun hHeld => ?_)
      clear hK K
      (try simp only [Act.put, List.setIfInBounds_toArray, List.set_cons_zero, List.set_cons_succ])
      refine wpAnyH_take (i := 10) (oi := { dst := some 83, op := Op.binOp BinOp.eql 9 (Operand.tmp 81) (Operand.tmp 82) 9, type := 4, pos := "laws.go:448", after := #[{ on := 8, ground := Ground.data }, { on := 9, ground := Ground.data }, { on := 6, ground := Ground.guard }], guard := some (6, false) }) (v := .bool true) rfl (by kernel_rfl) (by kernel_rfl) (by kernel_rfl) (fun _ _ _ h => h) (Or.inl ⟨by rfl, ?ytw810⟩) hHeld ?rtw810
      case ytw810 => (intro w hSw; (try dsimp only at hSw); go_simp; try with_reducible rfl)
      (try simp only [Act.put, List.setIfInBounds_toArray, List.set_cons_zero, List.set_cons_succ])
      refine wpAnyH_take (i := 11) (oi := { dst := some 84, op := Op.pick (Operand.tmp 79) (Operand.const (Value.bool true)) (Operand.tmp 83), type := 4, pos := "laws.go:448", after := #[{ on := 6, ground := Ground.data }, { on := 10, ground := Ground.data }, { on := 3, ground := Ground.guard }], guard := some (3, true) }) (v := .bool true) rfl (by kernel_rfl) (by kernel_rfl) (by kernel_rfl) (fun _ _ _ h => h) (Or.inl ⟨by rfl, ?ytw811⟩) hHeld ?rtw811
      case ytw811 => (intro w hSw; (try dsimp only at hSw); go_simp; try with_reducible rfl)
      (try simp only [Act.put, List.setIfInBounds_toArray, List.set_cons_zero, List.set_cons_succ])
      refine wpAnyH_take (i := 12) (oi := { dst := some 85, op := Op.pick (Operand.tmp 76) (Operand.tmp 84) (Operand.const (Value.bool false)), type := 4, pos := "laws.go:448", after := #[{ on := 3, ground := Ground.data }, { on := 11, ground := Ground.data }], guard := none }) (v := .bool true) rfl (by kernel_rfl) (by kernel_rfl) (by kernel_rfl) (fun _ _ _ h => h) (Or.inl ⟨by rfl, ?ytw812⟩) hHeld ?rtw812
      case ytw812 => (intro w hSw; (try dsimp only at hSw); go_simp; try with_reducible rfl)
      (try simp only [Act.put, List.setIfInBounds_toArray, List.set_cons_zero, List.set_cons_succ])
      refine wpAnyH_take (i := 13) (oi := { dst := some 86, op := Op.move (Operand.tmp 85), type := 4, pos := "laws.go:448", after := #[{ on := 12, ground := Ground.data }, { on := 8, ground := Ground.chain }], guard := none }) (v := .bool true) rfl (by kernel_rfl) (by kernel_rfl) (by kernel_rfl) (fun _ _ _ h => h) (Or.inl ⟨by rfl, ?ytw813⟩) hHeld ?rtw813
      case ytw813 => (intro w hSw; (try dsimp only at hSw); go_simp; try with_reducible rfl)
      (try simp only [Act.put, List.setIfInBounds_toArray, List.set_cons_zero, List.set_cons_succ])
      refine wpAnyH_take (i := 14) (oi := { dst := some 87, op := Op.move (Operand.tmp 14), type := 35, pos := "laws.go:448", after := #[{ on := 13, ground := Ground.guard }], guard := some (13, true) }) (v := ?vtw814) rfl (by kernel_rfl) (by kernel_rfl) (by kernel_rfl) (fun _ _ _ h => h) (Or.inl ⟨by rfl, ?ytw814⟩) hHeld ?rtw814
      case ytw814 => (intro w hSw; (try dsimp only at hSw); go_simp; try with_reducible rfl)
      (try simp only [Act.put, List.setIfInBounds_toArray, List.set_cons_zero, List.set_cons_succ])
      refine wpAnyH_take (i := 15) (oi := { dst := some 88, op := Op.load 28 (Operand.tmp 15), type := 28, pos := "laws.go:448", after := #[{ on := 13, ground := Ground.guard }], guard := some (13, true) }) (v := ?vtw815) rfl (by kernel_rfl) (by kernel_rfl) (by kernel_rfl) (fun _ _ _ h => h) (Or.inl ⟨by rfl, ?ytw815⟩) hHeld ?rtw815
      case ytw815 => (intro w hSw; (try dsimp only at hSw); go_simp; try with_reducible rfl)
      (try simp only [Act.put, List.setIfInBounds_toArray, List.set_cons_zero, List.set_cons_succ])
      refine wpAnyH_take (i := 17) (oi := { dst := some 90, op := Op.move (Operand.tmp 14), type := 35, pos := "laws.go:448", after := #[{ on := 13, ground := Ground.guard }], guard := some (13, true) }) (v := ?vtw817) rfl (by kernel_rfl) (by kernel_rfl) (by kernel_rfl) (fun _ _ _ h => h) (Or.inl ⟨by rfl, ?ytw817⟩) hHeld ?rtw817
      case ytw817 => (intro w hSw; (try dsimp only at hSw); go_simp; try with_reducible rfl)
      (try simp only [Act.put, List.setIfInBounds_toArray, List.set_cons_zero, List.set_cons_succ])
      refine wpAnyH_take (i := 18) (oi := { dst := some 91, op := Op.load 28 (Operand.tmp 15), type := 28, pos := "laws.go:448", after := #[{ on := 13, ground := Ground.guard }], guard := some (13, true) }) (v := ?vtw818) rfl (by kernel_rfl) (by kernel_rfl) (by kernel_rfl) (fun _ _ _ h => h) (Or.inl ⟨by rfl, ?ytw818⟩) hHeld ?rtw818
      case ytw818 => (intro w hSw; (try dsimp only at hSw); go_simp; try with_reducible rfl)
      (try simp only [Act.put, List.setIfInBounds_toArray, List.set_cons_zero, List.set_cons_succ])
      refine wpAnyH_ready (rs := [16]) (by kernel_rfl) (by simp) ?_
      refine AllReadyH.cons (o := { dst := some 89, op := Op.call { callee := Callee.value (Operand.func 14), args := #[Operand.tmp 87, Operand.tmp 88], argTypes := #[35, 28] }, type := 28, pos := "laws.go:448", after := #[{ on := 14, ground := Ground.data }, { on := 15, ground := Ground.data }, { on := 13, ground := Ground.chain }, { on := 13, ground := Ground.guard }], guard := some (13, true) }) rfl (fun K hK => ?_) AllReadyH.nil
      (go_simp; refine (iApG_any _ bs _ ⟨rk, j1, j2⟩ _ _ _ _ _ (HBS7.out _ Hx1.out) HRW.out.2.1 (HR7.out _ Hx1.out).2 HRW.out.1).mono ?_; intro e x2 hcx; obtain ⟨vx, rfl, hgx, hbx2⟩ := hcx.read; obtain ⟨_, _, _, _, _, _, _, _, hvx, _⟩ := id hgx; subst hvx; have HGX := Lib.hid hgx; clear hgx; go_wp2_with fail)
      have Hx2 := Lib.hid (bel_two Hx1.out hbx2)
      clear hbx2
      refine hK.out _ _ (HCELL.out x2 Hx2.out) (fun hHeld => ?_)
      clear hK K
      (try simp only [Act.put, List.setIfInBounds_toArray, List.set_cons_zero, List.set_cons_succ])
      refine wpAnyH_ready (rs := [19]) (by kernel_rfl) (by simp) ?_
      refine AllReadyH.cons (o := { dst := some 92, op := Op.call { callee := Callee.value (Operand.func 15), args := #[Operand.tmp 90, Operand.tmp 91], argTypes := #[35, 28] }, type := 28, pos := "laws.go:448", after := #[{ on := 17, ground := Ground.data }, { on := 18, ground := Ground.data }, { on := 16, ground := Ground.chain }, { on := 13, ground := Ground.guard }], guard := some (13, true) }) rfl (fun K hK => ?_) AllReadyH.nil
      (go_simp; refine (sApG_any _ bs _ ⟨rk, j1, j2⟩ _ _ _ _ _ (HBS7.out _ Hx2.out) HRW.out.2.1 (HR7.out _ Hx2.out).2 HRW.out.1).mono ?_; rintro e x3 ⟨vy, rfl, hgy, hbx3⟩; obtain ⟨_, _, _, _, _, _, _, _, hvy, _⟩ := id hgy; subst hvy; have HGY := Lib.hid hgy; have HGX3 := Lib.hid (HGX.out.below hbx3); clear hgy; go_wp2_with fail)
      have Hx3 := Lib.hid (bel_two Hx2.out hbx3)
      clear hbx3
      refine hK.out _ _ (HCELL.out x3 Hx3.out) (fun hHeld => ?_)
      clear hK K
      (try simp only [Act.put, List.setIfInBounds_toArray, List.set_cons_zero, List.set_cons_succ])
      refine wpAnyH_ready (rs := [20]) (by kernel_rfl) (by simp) ?_
      refine AllReadyH.cons (o := { dst := some 93, op := Op.call { callee := Callee.value (Operand.func 11), args := #[Operand.tmp 89, Operand.tmp 92], argTypes := #[28, 28] }, type := 4, pos := "laws.go:448", after := #[{ on := 16, ground := Ground.data }, { on := 19, ground := Ground.data }, { on := 19, ground := Ground.chain }, { on := 13, ground := Ground.guard }], guard := some (13, true) }) rfl (fun K hK => ?_) AllReadyH.nil
      (go_simp; refine (iEqG_any _ _ (appG (findB bs) ⟨rk, j1, j2⟩) (appG (findB bs) ⟨rk, j1, j2⟩) _ _ _ _ _ HGX3.out HGY.out HRW.out.2.2).mono ?_; rintro e x4 ⟨rfl, hbx4⟩; rw [(eqGB_iff _ _).2 rfl]; go_wp2_with fail)
      have Hx4 := Lib.hid (bel_two Hx3.out hbx4)
      clear hbx4
      refine hK.out _ _ (HCELL.out x4 Hx4.out) (fun hHeld => ?_)
      clear hK K
      (try simp only [Act.put, List.setIfInBounds_toArray, List.set_cons_zero, List.set_cons_succ])
      refine wpAnyH_take (i := 21) (oi := { dst := some 94, op := Op.pick (Operand.tmp 86) (Operand.tmp 93) (Operand.const (Value.bool false)), type := 4, pos := "laws.go:448", after := #[{ on := 13, ground := Ground.data }, { on := 20, ground := Ground.data }], guard := none }) (v := .bool true) rfl (by kernel_rfl) (by kernel_rfl) (by kernel_rfl) (fun _ _ _ h => h) (Or.inl ⟨by rfl, ?ytw821⟩) hHeld ?rtw821
      case ytw821 => (intro w hSw; (try dsimp only at hSw); go_simp; try with_reducible rfl)
      (try simp only [Act.put, List.setIfInBounds_toArray, List.set_cons_zero, List.set_cons_succ])
      refine wpAnyH_take (i := 22) (oi := { dst := some 2, op := Op.assign (Operand.tmp 94), type := 4, pos := "laws.go:448", after := #[{ on := 21, ground := Ground.data }, { on := 20, ground := Ground.chain }, { on := 0, ground := Ground.phase }, { on := 1, ground := Ground.phase }, { on := 2, ground := Ground.phase }, { on := 3, ground := Ground.phase }, { on := 4, ground := Ground.phase }, { on := 5, ground := Ground.phase }, { on := 6, ground := Ground.phase }, { on := 7, ground := Ground.phase }, { on := 8, ground := Ground.phase }, { on := 9, ground := Ground.phase }, { on := 10, ground := Ground.phase }, { on := 11, ground := Ground.phase }, { on := 12, ground := Ground.phase }, { on := 13, ground := Ground.phase }, { on := 14, ground := Ground.phase }, { on := 15, ground := Ground.phase }, { on := 16, ground := Ground.phase }, { on := 17, ground := Ground.phase }, { on := 18, ground := Ground.phase }, { on := 19, ground := Ground.phase }, { on := 20, ground := Ground.phase }, { on := 21, ground := Ground.phase }], guard := none }) (v := .bool true) rfl (by kernel_rfl) (by kernel_rfl) (by kernel_rfl) (fun _ _ _ h => h) (Or.inl ⟨by rfl, ?ytw822⟩) hHeld ?rtw822
      case ytw822 => (intro w hSw; (try dsimp only at hSw); go_simp; try with_reducible rfl)
      (try simp only [Act.put, List.setIfInBounds_toArray, List.set_cons_zero, List.set_cons_succ])
      refine wpAnyH_done (by kernel_rfl) ?_ _
      go_wp2
      go_ret
      exact HFIN.out _ Hx4.out
    | false =>
      refine wp_region_held_drew (S := fun w' => (w'.cell? ⟨v2.heap.size, 0, none⟩ = some (.int .i64 qk) ∧ w'.cell? ⟨v2.heap.size, 1, none⟩ = some (.int .i64 k7) ∧ w'.cell? ⟨v2.heap.size, 2, none⟩ = some (.int .i64 n7) ∧ w'.cell? ⟨v2.heap.size, 3, none⟩ = some (.string s7) ∧ w'.cell? ⟨v2.heap.size, 4, none⟩ = some (.slice a7 m7 c7) ∧ w'.cell? ⟨v2.heap.size, 5, none⟩ = some (.int .i64 k8) ∧ w'.cell? ⟨v2.heap.size, 6, none⟩ = some (.int .i64 n8) ∧ w'.cell? ⟨v2.heap.size, 7, none⟩ = some (.string s8) ∧ w'.cell? ⟨v2.heap.size, 8, none⟩ = some (.slice a8 m8 c8) ∧ w'.cell? ⟨v6.heap.size, 0, none⟩ = some (.int .i64 rk) ∧ w'.cell? ⟨v6.heap.size, 1, none⟩ = some (.int .i64 y1) ∧ w'.cell? ⟨v6.heap.size, 2, none⟩ = some (.int .i64 z1) ∧ w'.cell? ⟨v6.heap.size, 3, none⟩ = some (.string r1) ∧ w'.cell? ⟨v6.heap.size, 4, none⟩ = some (.slice b1 l1 d1) ∧ w'.cell? ⟨v6.heap.size, 5, none⟩ = some (.int .i64 y2) ∧ w'.cell? ⟨v6.heap.size, 6, none⟩ = some (.int .i64 z2) ∧ w'.cell? ⟨v6.heap.size, 7, none⟩ = some (.string r2) ∧ w'.cell? ⟨v6.heap.size, 8, none⟩ = some (.slice b2 l2 d2))) (by kernel_rfl) (HCELL.out _ hD0) (fun hHeld => ?_)
      refine wpAnyH_take (i := 0) (oi := { dst := some 73, op := Op.move (Operand.tmp 11), type := 4, pos := "laws.go:448", after := #[], guard := none }) (v := ?vfw80) rfl (by kernel_rfl) (by kernel_rfl) (by kernel_rfl) (fun _ _ _ h => h) (Or.inl ⟨by rfl, ?yfw80⟩) hHeld ?rfw80
      case yfw80 => (intro w hSw; (try dsimp only at hSw); go_simp; try with_reducible rfl)
      (try simp only [Act.put, List.setIfInBounds_toArray, List.set_cons_zero, List.set_cons_succ])
      refine wpAnyH_take (i := 1) (oi := { dst := some 74, op := Op.move (Operand.tmp 13), type := 4, pos := "laws.go:448", after := #[], guard := none }) (v := ?vfw81) rfl (by kernel_rfl) (by kernel_rfl) (by kernel_rfl) (fun _ _ _ h => h) (Or.inl ⟨by rfl, ?yfw81⟩) hHeld ?rfw81
      case yfw81 => (intro w hSw; (try dsimp only at hSw); go_simp; try with_reducible rfl)
      (try simp only [Act.put, List.setIfInBounds_toArray, List.set_cons_zero, List.set_cons_succ])
      refine wpAnyH_take (i := 2) (oi := { dst := some 75, op := Op.binOp BinOp.eql 4 (Operand.tmp 73) (Operand.tmp 74) 4, type := 4, pos := "laws.go:448", after := #[{ on := 0, ground := Ground.data }, { on := 1, ground := Ground.data }], guard := none }) (v := .bool true) rfl (by kernel_rfl) (by kernel_rfl) (by kernel_rfl) (fun _ _ _ h => h) (Or.inl ⟨by rfl, ?yfw82⟩) hHeld ?rfw82
      case yfw82 => (intro w hSw; (try dsimp only at hSw); go_simp; try with_reducible rfl)
      (try simp only [Act.put, List.setIfInBounds_toArray, List.set_cons_zero, List.set_cons_succ])
      refine wpAnyH_take (i := 3) (oi := { dst := some 76, op := Op.move (Operand.tmp 75), type := 4, pos := "laws.go:448", after := #[{ on := 2, ground := Ground.data }], guard := none }) (v := .bool true) rfl (by kernel_rfl) (by kernel_rfl) (by kernel_rfl) (fun _ _ _ h => h) (Or.inl ⟨by rfl, ?yfw83⟩) hHeld ?rfw83
      case yfw83 => (intro w hSw; (try dsimp only at hSw); go_simp; try with_reducible rfl)
      (try simp only [Act.put, List.setIfInBounds_toArray, List.set_cons_zero, List.set_cons_succ])
      refine wpAnyH_take (i := 4) (oi := { dst := some 77, op := Op.move (Operand.tmp 11), type := 4, pos := "laws.go:448", after := #[{ on := 3, ground := Ground.guard }], guard := some (3, true) }) (v := ?vfw84) rfl (by kernel_rfl) (by kernel_rfl) (by kernel_rfl) (fun _ _ _ h => h) (Or.inl ⟨by rfl, ?yfw84⟩) hHeld ?rfw84
      case yfw84 => (intro w hSw; (try dsimp only at hSw); go_simp; try with_reducible rfl)
      (try simp only [Act.put, List.setIfInBounds_toArray, List.set_cons_zero, List.set_cons_succ])
      refine wpAnyH_take (i := 5) (oi := { dst := some 78, op := Op.unOp UnOp.not 4 (Operand.tmp 77), type := 4, pos := "laws.go:448", after := #[{ on := 4, ground := Ground.data }, { on := 3, ground := Ground.guard }], guard := some (3, true) }) (v := .bool true) rfl (by kernel_rfl) (by kernel_rfl) (by kernel_rfl) (fun _ _ _ h => h) (Or.inl ⟨by rfl, ?yfw85⟩) hHeld ?rfw85
      case yfw85 => (intro w hSw; (try dsimp only at hSw); go_simp; try with_reducible rfl)
      (try simp only [Act.put, List.setIfInBounds_toArray, List.set_cons_zero, List.set_cons_succ])
      refine wpAnyH_take (i := 6) (oi := { dst := some 79, op := Op.move (Operand.tmp 78), type := 4, pos := "laws.go:448", after := #[{ on := 5, ground := Ground.data }, { on := 3, ground := Ground.chain }, { on := 3, ground := Ground.guard }], guard := some (3, true) }) (v := .bool true) rfl (by kernel_rfl) (by kernel_rfl) (by kernel_rfl) (fun _ _ _ h => h) (Or.inl ⟨by rfl, ?yfw86⟩) hHeld ?rfw86
      case yfw86 => (intro w hSw; (try dsimp only at hSw); go_simp; try with_reducible rfl)
      (try simp only [Act.put, List.setIfInBounds_toArray, List.set_cons_zero, List.set_cons_succ])
      refine wpAnyH_take (i := 7) (oi := { dst := some 80, op := Op.load 28 (Operand.tmp 10), type := 28, pos := "laws.go:448", after := #[{ on := 6, ground := Ground.guard }], guard := some (6, false) }) (v := undef) rfl (by kernel_rfl) (by kernel_rfl) (by kernel_rfl) (fun _ _ _ h => h) (Or.inr ⟨by rfl, rfl⟩) hHeld ?_
      (try simp only [Act.put, List.setIfInBounds_toArray, List.set_cons_zero, List.set_cons_succ])
      refine wpAnyH_take (i := 8) (oi := { dst := some 81, op := Op.call { callee := Callee.value (Operand.func 7), args := #[Operand.tmp 80], argTypes := #[28] }, type := 9, pos := "laws.go:448", after := #[{ on := 7, ground := Ground.data }, { on := 6, ground := Ground.chain }, { on := 6, ground := Ground.guard }], guard := some (6, false) }) (v := undef) rfl (by kernel_rfl) (by kernel_rfl) (by kernel_rfl) (fun _ _ _ h => h) (Or.inr ⟨by rfl, rfl⟩) hHeld ?_
      (try simp only [Act.put, List.setIfInBounds_toArray, List.set_cons_zero, List.set_cons_succ])
      refine wpAnyH_take (i := 9) (oi := { dst := some 82, op := Op.move (Operand.tmp 9), type := 9, pos := "laws.go:448", after := #[{ on := 6, ground := Ground.guard }], guard := some (6, false) }) (v := undef) rfl (by kernel_rfl) (by kernel_rfl) (by kernel_rfl) (fun _ _ _ h => h) (Or.inr ⟨by rfl, rfl⟩) hHeld ?_
      (try simp only [Act.put, List.setIfInBounds_toArray, List.set_cons_zero, List.set_cons_succ])
      refine wpAnyH_take (i := 10) (oi := { dst := some 83, op := Op.binOp BinOp.eql 9 (Operand.tmp 81) (Operand.tmp 82) 9, type := 4, pos := "laws.go:448", after := #[{ on := 8, ground := Ground.data }, { on := 9, ground := Ground.data }, { on := 6, ground := Ground.guard }], guard := some (6, false) }) (v := undef) rfl (by kernel_rfl) (by kernel_rfl) (by kernel_rfl) (fun _ _ _ h => h) (Or.inr ⟨by rfl, rfl⟩) hHeld ?_
      (try simp only [Act.put, List.setIfInBounds_toArray, List.set_cons_zero, List.set_cons_succ])
      refine wpAnyH_take (i := 11) (oi := { dst := some 84, op := Op.pick (Operand.tmp 79) (Operand.const (Value.bool true)) (Operand.tmp 83), type := 4, pos := "laws.go:448", after := #[{ on := 6, ground := Ground.data }, { on := 10, ground := Ground.data }, { on := 3, ground := Ground.guard }], guard := some (3, true) }) (v := .bool true) rfl (by kernel_rfl) (by kernel_rfl) (by kernel_rfl) (fun _ _ _ h => h) (Or.inl ⟨by rfl, ?yfw811⟩) hHeld ?rfw811
      case yfw811 => (intro w hSw; (try dsimp only at hSw); go_simp; try with_reducible rfl)
      (try simp only [Act.put, List.setIfInBounds_toArray, List.set_cons_zero, List.set_cons_succ])
      refine wpAnyH_take (i := 12) (oi := { dst := some 85, op := Op.pick (Operand.tmp 76) (Operand.tmp 84) (Operand.const (Value.bool false)), type := 4, pos := "laws.go:448", after := #[{ on := 3, ground := Ground.data }, { on := 11, ground := Ground.data }], guard := none }) (v := .bool true) rfl (by kernel_rfl) (by kernel_rfl) (by kernel_rfl) (fun _ _ _ h => h) (Or.inl ⟨by rfl, ?yfw812⟩) hHeld ?rfw812
      case yfw812 => (intro w hSw; (try dsimp only at hSw); go_simp; try with_reducible rfl)
      (try simp only [Act.put, List.setIfInBounds_toArray, List.set_cons_zero, List.set_cons_succ])
      refine wpAnyH_take (i := 13) (oi := { dst := some 86, op := Op.move (Operand.tmp 85), type := 4, pos := "laws.go:448", after := #[{ on := 12, ground := Ground.data }, { on := 8, ground := Ground.chain }], guard := none }) (v := .bool true) rfl (by kernel_rfl) (by kernel_rfl) (by kernel_rfl) (fun _ _ _ h => h) (Or.inl ⟨by rfl, ?yfw813⟩) hHeld ?rfw813
      case yfw813 => (intro w hSw; (try dsimp only at hSw); go_simp; try with_reducible rfl)
      (try simp only [Act.put, List.setIfInBounds_toArray, List.set_cons_zero, List.set_cons_succ])
      refine wpAnyH_take (i := 14) (oi := { dst := some 87, op := Op.move (Operand.tmp 14), type := 35, pos := "laws.go:448", after := #[{ on := 13, ground := Ground.guard }], guard := some (13, true) }) (v := ?vfw814) rfl (by kernel_rfl) (by kernel_rfl) (by kernel_rfl) (fun _ _ _ h => h) (Or.inl ⟨by rfl, ?yfw814⟩) hHeld ?rfw814
      case yfw814 => (intro w hSw; (try dsimp only at hSw); go_simp; try with_reducible rfl)
      (try simp only [Act.put, List.setIfInBounds_toArray, List.set_cons_zero, List.set_cons_succ])
      refine wpAnyH_take (i := 15) (oi := { dst := some 88, op := Op.load 28 (Operand.tmp 15), type := 28, pos := "laws.go:448", after := #[{ on := 13, ground := Ground.guard }], guard := some (13, true) }) (v := ?vfw815) rfl (by kernel_rfl) (by kernel_rfl) (by kernel_rfl) (fun _ _ _ h => h) (Or.inl ⟨by rfl, ?yfw815⟩) hHeld ?rfw815
      case yfw815 => (intro w hSw; (try dsimp only at hSw); go_simp; try with_reducible rfl)
      (try simp only [Act.put, List.setIfInBounds_toArray, List.set_cons_zero, List.set_cons_succ])
      refine wpAnyH_take (i := 17) (oi := { dst := some 90, op := Op.move (Operand.tmp 14), type := 35, pos := "laws.go:448", after := #[{ on := 13, ground := Ground.guard }], guard := some (13, true) }) (v := ?vfw817) rfl (by kernel_rfl) (by kernel_rfl) (by kernel_rfl) (fun _ _ _ h => h) (Or.inl ⟨by rfl, ?yfw817⟩) hHeld ?rfw817
      case yfw817 => (intro w hSw; (try dsimp only at hSw); go_simp; try with_reducible rfl)
      (try simp only [Act.put, List.setIfInBounds_toArray, List.set_cons_zero, List.set_cons_succ])
      refine wpAnyH_take (i := 18) (oi := { dst := some 91, op := Op.load 28 (Operand.tmp 15), type := 28, pos := "laws.go:448", after := #[{ on := 13, ground := Ground.guard }], guard := some (13, true) }) (v := ?vfw818) rfl (by kernel_rfl) (by kernel_rfl) (by kernel_rfl) (fun _ _ _ h => h) (Or.inl ⟨by rfl, ?yfw818⟩) hHeld ?rfw818
      case yfw818 => (intro w hSw; (try dsimp only at hSw); go_simp; try with_reducible rfl)
      (try simp only [Act.put, List.setIfInBounds_toArray, List.set_cons_zero, List.set_cons_succ])
      refine wpAnyH_ready (rs := [16]) (by kernel_rfl) (by simp) ?_
      refine AllReadyH.cons (o := { dst := some 89, op := Op.call { callee := Callee.value (Operand.func 14), args := #[Operand.tmp 87, Operand.tmp 88], argTypes := #[35, 28] }, type := 28, pos := "laws.go:448", after := #[{ on := 14, ground := Ground.data }, { on := 15, ground := Ground.data }, { on := 13, ground := Ground.chain }, { on := 13, ground := Ground.guard }], guard := some (13, true) }) rfl (fun K hK => ?_) AllReadyH.nil
      (go_simp; refine (iApG_any _ bs _ ⟨rk, j1, j2⟩ _ _ _ _ _ (HBS7.out _ hD0) HRW.out.2.1 (HR7.out _ hD0).2 HRW.out.1).mono ?_; intro e x2 hcx; obtain ⟨vx, rfl, hgx, hbx2⟩ := hcx.read; obtain ⟨_, _, _, _, _, _, _, _, hvx, _⟩ := id hgx; subst hvx; have HGX := Lib.hid hgx; clear hgx; go_wp2_with fail)
      have Hx2 := Lib.hid (bel_two hD0 hbx2)
      clear hbx2
      refine hK.out _ _ (HCELL.out x2 Hx2.out) (fun hHeld => ?_)
      clear hK K
      (try simp only [Act.put, List.setIfInBounds_toArray, List.set_cons_zero, List.set_cons_succ])
      refine wpAnyH_ready (rs := [19]) (by kernel_rfl) (by simp) ?_
      refine AllReadyH.cons (o := { dst := some 92, op := Op.call { callee := Callee.value (Operand.func 15), args := #[Operand.tmp 90, Operand.tmp 91], argTypes := #[35, 28] }, type := 28, pos := "laws.go:448", after := #[{ on := 17, ground := Ground.data }, { on := 18, ground := Ground.data }, { on := 16, ground := Ground.chain }, { on := 13, ground := Ground.guard }], guard := some (13, true) }) rfl (fun K hK => ?_) AllReadyH.nil
      (go_simp; refine (sApG_any _ bs _ ⟨rk, j1, j2⟩ _ _ _ _ _ (HBS7.out _ Hx2.out) HRW.out.2.1 (HR7.out _ Hx2.out).2 HRW.out.1).mono ?_; rintro e x3 ⟨vy, rfl, hgy, hbx3⟩; obtain ⟨_, _, _, _, _, _, _, _, hvy, _⟩ := id hgy; subst hvy; have HGY := Lib.hid hgy; have HGX3 := Lib.hid (HGX.out.below hbx3); clear hgy; go_wp2_with fail)
      have Hx3 := Lib.hid (bel_two Hx2.out hbx3)
      clear hbx3
      refine hK.out _ _ (HCELL.out x3 Hx3.out) (fun hHeld => ?_)
      clear hK K
      (try simp only [Act.put, List.setIfInBounds_toArray, List.set_cons_zero, List.set_cons_succ])
      refine wpAnyH_ready (rs := [20]) (by kernel_rfl) (by simp) ?_
      refine AllReadyH.cons (o := { dst := some 93, op := Op.call { callee := Callee.value (Operand.func 11), args := #[Operand.tmp 89, Operand.tmp 92], argTypes := #[28, 28] }, type := 4, pos := "laws.go:448", after := #[{ on := 16, ground := Ground.data }, { on := 19, ground := Ground.data }, { on := 19, ground := Ground.chain }, { on := 13, ground := Ground.guard }], guard := some (13, true) }) rfl (fun K hK => ?_) AllReadyH.nil
      (go_simp; refine (iEqG_any _ _ (appG (findB bs) ⟨rk, j1, j2⟩) (appG (findB bs) ⟨rk, j1, j2⟩) _ _ _ _ _ HGX3.out HGY.out HRW.out.2.2).mono ?_; rintro e x4 ⟨rfl, hbx4⟩; rw [(eqGB_iff _ _).2 rfl]; go_wp2_with fail)
      have Hx4 := Lib.hid (bel_two Hx3.out hbx4)
      clear hbx4
      refine hK.out _ _ (HCELL.out x4 Hx4.out) (fun hHeld => ?_)
      clear hK K
      (try simp only [Act.put, List.setIfInBounds_toArray, List.set_cons_zero, List.set_cons_succ])
      refine wpAnyH_take (i := 21) (oi := { dst := some 94, op := Op.pick (Operand.tmp 86) (Operand.tmp 93) (Operand.const (Value.bool false)), type := 4, pos := "laws.go:448", after := #[{ on := 13, ground := Ground.data }, { on := 20, ground := Ground.data }], guard := none }) (v := .bool true) rfl (by kernel_rfl) (by kernel_rfl) (by kernel_rfl) (fun _ _ _ h => h) (Or.inl ⟨by rfl, ?yfw821⟩) hHeld ?rfw821
      case yfw821 => (intro w hSw; (try dsimp only at hSw); go_simp; try with_reducible rfl)
      (try simp only [Act.put, List.setIfInBounds_toArray, List.set_cons_zero, List.set_cons_succ])
      refine wpAnyH_take (i := 22) (oi := { dst := some 2, op := Op.assign (Operand.tmp 94), type := 4, pos := "laws.go:448", after := #[{ on := 21, ground := Ground.data }, { on := 20, ground := Ground.chain }, { on := 0, ground := Ground.phase }, { on := 1, ground := Ground.phase }, { on := 2, ground := Ground.phase }, { on := 3, ground := Ground.phase }, { on := 4, ground := Ground.phase }, { on := 5, ground := Ground.phase }, { on := 6, ground := Ground.phase }, { on := 7, ground := Ground.phase }, { on := 8, ground := Ground.phase }, { on := 9, ground := Ground.phase }, { on := 10, ground := Ground.phase }, { on := 11, ground := Ground.phase }, { on := 12, ground := Ground.phase }, { on := 13, ground := Ground.phase }, { on := 14, ground := Ground.phase }, { on := 15, ground := Ground.phase }, { on := 16, ground := Ground.phase }, { on := 17, ground := Ground.phase }, { on := 18, ground := Ground.phase }, { on := 19, ground := Ground.phase }, { on := 20, ground := Ground.phase }, { on := 21, ground := Ground.phase }], guard := none }) (v := .bool true) rfl (by kernel_rfl) (by kernel_rfl) (by kernel_rfl) (fun _ _ _ h => h) (Or.inl ⟨by rfl, ?yfw822⟩) hHeld ?rfw822
      case yfw822 => (intro w hSw; (try dsimp only at hSw); go_simp; try with_reducible rfl)
      (try simp only [Act.put, List.setIfInBounds_toArray, List.set_cons_zero, List.set_cons_succ])
      refine wpAnyH_done (by kernel_rfl) ?_ _
      go_wp2
      go_ret
      exact HFIN.out _ Hx4.out
end Go.Proofs.YtidbokheeieifaaGreatDoor
