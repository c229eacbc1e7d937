/-
  laws.FnRenamed answers true at every draw: its walk.
-/
import Derived.Test.YteelakhaaipebaaQ46
import Derived.Test.YteelakhaaipebaaQ48
import Derived.Test.YteelakhaaipebaaQ51
import Derived.Test.YteelakhaaipebaaQ52
import Derived.Test.YteelakhaaipebaaQ15
import Derived.Test.YteelakhaaipebaaQ16
import Derived.Test.YteelakhaaipebaaQ17
import Derived.Test.YteelakhaaipebaaQ34
import Derived.Test.YteelakhaaipebaaQ5
import Derived.Deep.RegionHeld3
namespace Go.Proofs.Yteelakhaaipebaa
open Go.RowKit

theorem copy_gotR {H : Nat} {r : T} {w : World} {e : Ending} {w' : World} (h : CopyR H r w e w') : ∃ k n s a m c, e = .returned (tv k n s (.slice a m c)) ∧ TermAt w' 0 H (tv k n s (.slice a m c)) r ∧ Below w.heap.size w w' := by
  obtain ⟨k, n, s, u, xs, rfl, rfl, hs, ho, hb⟩ := h
  obtain ⟨a, c, rfl⟩ := ho.slice
  exact ⟨k, n, s, a, _, c, rfl, ⟨k, n, s, _, xs, rfl, rfl, hs, ho.args (Nat.zero_le _)⟩, hb⟩

set_option maxRecDepth 100000 in
set_option maxHeartbeats 12800000 in
theorem renamed_any (a0 : Option Addr) (len cap : Nat) (w : World) (hcode : len ≤ 1048576 → CodeAt w w.heap.size (.slice a0 len cap) len) :
    Calls Try.prog 4 #[.slice a0 len cap] w (TrueEnd w) := by
  have HC := Lib.hid hcode; clear hcode
  by_cases hbig : 1048576 < len
  · have hd : decide (1048576 < len) = true := by simpa using hbig
    have HK := Lib.hid (big_any a0 len cap w)
    rw [hd] at HK
    go_enter Try.func4, Try.ntmps4
    go_wp2_with fail
    refine HK.out.mono ?_
    rintro e w1 ⟨rfl, rfl⟩
    go_wp2
    go_ret
    exact ⟨rfl, Below.refl _ _⟩
  have hd : decide (1048576 < len) = false := by simpa using hbig
  have HK := Lib.hid (big_any a0 len cap w)
  rw [hd] at HK
  have HC1 := Lib.hid (HC.out (by omega))
  go_enter Try.func4, Try.ntmps4
  go_wp2_with fail
  refine HK.out.mono ?_
  rintro e w0 ⟨rfl, rfl⟩
  clear HK hd hbig HC
  go_wp2_with fail
  refine (drawRen_any _ len _ HC1.out).mono ?_
  rintro e w1 ⟨k, n, s, a, m, c, t, h, x, rfl, ht, hw, hpl, hx, hb1⟩
  obtain ⟨W2, hW2⟩ : ∃ W2, W2 = w1.alloc (.cells #[.int .i64 k, .int .i64 n, .string s, .slice a m c] 29) := ⟨_, rfl⟩
  have hb2 : Below w1.heap.size w1 W2 := by rw [hW2]; exact (Below.refl _ _).alloc (Nat.le_refl _) _
  have rA : W2.heap[w1.heap.size]? = some (.cells #[.int .i64 k, .int .i64 n, .string s, .slice a m c] 29 (0, 0)) := by rw [hW2]; exact heap_new _ _ rfl
  have HB2 := Lib.hid (bel_two hb1 hb2)
  have HT := Lib.hid (ht.below hb2)
  have HW := Lib.hid (And.intro hw (And.intro hpl hx))
  have HRA := Lib.hid rA
  have HRI := Lib.hid ((renI_any _ t x _ h W2 HT.out (by omega) (by omega)).mono (fun _ _ z => copy_gotR z))
  obtain ⟨⟨y0, y1, y2, y3⟩, _⟩ := cells_of4 rA
  clear ht hw hpl hx hb1 hb2 rA
  go_upto_region 4 with fail
  rw [← hW2]
  clear hW2
  go_wp2_with fail
  refine HRI.out.mono ?_
  rintro e w3 ⟨k3, n3, s3, a3, m3, c3, rfl, ht3, hb3⟩
  obtain ⟨W4, hW4⟩ : ∃ W4, W4 = w3.alloc (.cells #[.int .i64 k3, .int .i64 n3, .string s3, .slice a3 m3 c3] 29) := ⟨_, rfl⟩
  have hb4 : Below w3.heap.size w3 W4 := by rw [hW4]; exact (Below.refl _ _).alloc (Nat.le_refl _) _
  have rB : W4.heap[w3.heap.size]? = some (.cells #[.int .i64 k3, .int .i64 n3, .string s3, .slice a3 m3 c3] 29 (0, 0)) := by rw [hW4]; exact heap_new _ _ rfl
  have hb24 := bel_two hb3 hb4
  have HB4 := Lib.hid (bel_two HB2.out hb24)
  have HCELL : Hid (∀ w', Below W4.heap.size W4 w' → w'.cell? ⟨w1.heap.size, 0, none⟩ = some (.int .i64 k) ∧ w'.cell? ⟨w1.heap.size, 1, none⟩ = some (.int .i64 n) ∧ w'.cell? ⟨w1.heap.size, 2, none⟩ = some (.string s) ∧ w'.cell? ⟨w1.heap.size, 3, none⟩ = some (.slice a m c) ∧ w'.cell? ⟨w3.heap.size, 0, none⟩ = some (.int .i64 k3) ∧ w'.cell? ⟨w3.heap.size, 1, none⟩ = some (.int .i64 n3) ∧ w'.cell? ⟨w3.heap.size, 2, none⟩ = some (.string s3) ∧ w'.cell? ⟨w3.heap.size, 3, none⟩ = some (.slice a3 m3 c3) ∧ Below W4.heap.size W4 w') := Lib.hid (fun w' hb => by
    obtain ⟨⟨u0, u1, u2, u3⟩, _⟩ := cells_of4 HRA.out
    obtain ⟨⟨v0, v1, v2, v3⟩, _⟩ := cells_of4 rB
    have hbb := bel_two hb24 hb
    exact ⟨cell_on hbb u0, cell_on hbb u1, cell_on hbb u2, cell_on hbb u3, cell_on hb v0, cell_on hb v1, cell_on hb v2, cell_on hb v3, hb⟩)
  have HT4 := Lib.hid (fun w' (hb : Below W4.heap.size W4 w') => (HT.out.below hb24).below hb)
  have HU4 := Lib.hid (fun w' (hb : Below W4.heap.size W4 w') => (ht3.below hb4).below hb)
  have hwr : wT (renT x t) ≤ 3000 := by have h1 := wT_ren x t; have h2 := cT_le t; have h3 := HW.out.1; have h4 := HW.out.2.2; have h5 : cT t * x.size ≤ cT t * 1 := Nat.mul_le_mul_left _ h4; unfold renT; omega
  have HWR := Lib.hid hwr
  have HSR := Lib.hid (fun w' (hb : Below W4.heap.size W4 w') => (sRen_any x (by have := HW.out.2.2; omega) h _ t _ w' (HT4.out w' hb) (by have := HW.out.1; omega)).mono (fun _ _ z => copy_gotR z))
  have HEQ : Hid (∀ w' v H, Below W4.heap.size W4 w' → TermAt w' 0 H v (renT x t) → Calls Try.prog 15 #[tv k3 n3 s3 (.slice a3 m3 c3), v] w' (fun e w2 => e = .returned (.bool true) ∧ Below w'.heap.size w' w2)) := Lib.hid (fun w' v H hb hv =>
    (sSame_any _ 0 _ _ _ (renT x t) (renT x t) w' H (HU4.out w' hb) hv (by have := HWR.out; omega)).mono fun e w2 ⟨q, ⟨e1, e2⟩, e3⟩ => ⟨by rw [e1, e3.2 rfl], e2⟩)
  have HVR : Hid (∀ w', Below W4.heap.size W4 w' → Calls Try.prog 28 #[tv k n s (.slice a m c), tv k3 n3 s3 (.slice a3 m3 c3)] w' (fun e w2 => e = .returned (.bool true) ∧ Below w'.heap.size w' w2)) := Lib.hid (fun w' hb => by
    have q := iVariant_any _ _ t (renT x t) _ _ _ _ w' (HT4.out w' hb) (HU4.out w' hb) (by have := HW.out.1; have := HWR.out; omega)
    rw [ren_variant x t HW.out.2.1] at q
    exact q)
  obtain ⟨C, hC⟩ : ∃ C, C = cT t := ⟨_, rfl⟩
  have HN1 : Hid (∀ w', Below W4.heap.size W4 w' → Calls Try.prog 29 #[tv k n s (.slice a m c)] w' (fun e w2 => e = .returned (.int .i64 (C : Nat)) ∧ Below w'.heap.size w' w2)) := Lib.hid (fun w' hb => by rw [hC]; exact (countT_any _ t _ _ _ (HT4.out w' hb) (by have := HW.out.1; omega)).mono fun e w2 ⟨e1, e2⟩ => ⟨e1, e2⟩)
  have HN2 : Hid (∀ w', Below W4.heap.size W4 w' → Calls Try.prog 29 #[tv k3 n3 s3 (.slice a3 m3 c3)] w' (fun e w2 => e = .returned (.int .i64 (C : Nat)) ∧ Below w'.heap.size w' w2)) := Lib.hid (fun w' hb => by rw [hC, ← cT_ren x t]; exact (countT_any _ (renT x t) _ _ _ (HU4.out w' hb) (by have := HWR.out; omega)).mono fun e w2 ⟨e1, e2⟩ => ⟨e1, e2⟩)
  have hcc : ((C : Int) != (C : Int)) = false := by simp
  clear ht3 hb3 hb4 rB hb24 hwr hC y0 y1 y2 y3 HRI
  go_upto_region 5 with fail
  rw [← hW4]
  clear hW4
  obtain ⟨y0, y1, y2, y3, z0, z1, z2, z3, hcur⟩ := HCELL.out _ (Below.refl _ _)
  go_wp2
  have HF0 := Lib.hid True.intro
  go_region_held3 (fun w' => w'.cell? ⟨w1.heap.size, 0, none⟩ = some (.int .i64 k) ∧ w'.cell? ⟨w1.heap.size, 1, none⟩ = some (.int .i64 n) ∧ w'.cell? ⟨w1.heap.size, 2, none⟩ = some (.string s) ∧ w'.cell? ⟨w1.heap.size, 3, none⟩ = some (.slice a m c) ∧ w'.cell? ⟨w3.heap.size, 0, none⟩ = some (.int .i64 k3) ∧ w'.cell? ⟨w3.heap.size, 1, none⟩ = some (.int .i64 n3) ∧ w'.cell? ⟨w3.heap.size, 2, none⟩ = some (.string s3) ∧ w'.cell? ⟨w3.heap.size, 3, none⟩ = some (.slice a3 m3 c3) ∧ Below W4.heap.size W4 w')
    (first | exact HCELL.out _ (by assumption) | exact HCELL.out _ (Below.drew (by assumption)) | go_keep)
    (first
      | (go_at_call 27; refine (HSR.out _ (by first | assumption | exact Below.drew (by assumption))).mono ?_; rintro e wa ⟨k9, n9, s9, a9, m9, c9, rfl, ht9, hb9⟩; have hcura : Below W4.heap.size W4 wa := (by first | exact bel_two (by assumption) hb9 | exact bel_two (Below.drew (by assumption)) hb9))
      | (go_at_call 15; refine (HEQ.out _ _ _ (by assumption) ht9).mono ?_; rintro e we ⟨rfl, hbe⟩; have hcure : Below W4.heap.size W4 we := bel_two (by assumption) hbe)
      | (go_at_call 28; refine (HVR.out _ (by first | assumption | exact Below.drew (by assumption))).mono ?_; rintro e wi ⟨rfl, hbi⟩; have hcuri : Below W4.heap.size W4 wi := (by first | exact bel_two (by assumption) hbi | exact bel_two (Below.drew (by assumption)) hbi))
      | (clear HF0; go_at_call 29; refine (HN1.out _ (by first | assumption | exact Below.drew (by assumption))).mono ?_; rintro e wn ⟨rfl, hbn⟩; have hcurn : Below W4.heap.size W4 wn := (by first | exact bel_two (by assumption) hbn | exact bel_two (Below.drew (by assumption)) hbn); have HFA := Lib.hid True.intro)
      | (clear HFA; go_at_call 29; refine (HN2.out _ (by first | assumption | exact Below.drew (by assumption))).mono ?_; rintro e wm ⟨rfl, hbm⟩; have hcurm : Below W4.heap.size W4 wm := (by first | exact bel_two (by assumption) hbm | exact bel_two (Below.drew (by assumption)) hbm)))
  have HBM := Lib.hid (bel_two HB4.out hcurm)
  clear HT HW HRA HB2 HCELL HT4 HU4 HWR HSR HEQ HVR HN1 HN2 HB4 y0 y1 y2 y3 z0 z1 z2 z3 hcur hcurm hcc
  go_wp2_with fail
  refine (drawFB_any _ len _ (HC1.out.below HBM.out)).mono ?_
  rintro e w5 ⟨u, bs, nm, rfl, hu, hs7, hnm, hb5⟩
  obtain ⟨la, lc, rfl⟩ := hu.slice
  have HWB := Lib.hid (small7_w hs7)
  have HS7 := Lib.hid hs7
  have HNM := Lib.hid (show nm.size ≤ 1 from hnm)
  have HB5 := Lib.hid (bel_two HBM.out hb5)
  obtain ⟨ok, hok⟩ : ∃ q, (findB bs nm).isSome = q := ⟨_, rfl⟩
  obtain ⟨r, hr⟩ : ∃ q, (findB bs nm).getD zT = q := ⟨_, rfl⟩
  have HWR : Hid (wT r ≤ 13) := Lib.hid (by
    rw [← hr]
    cases e : findB bs nm with
    | none => simp [wT_node, wS, zT]
    | some q => exact small_find hs7 _ _ e)
  have HIF := Lib.hid (iFindB_any _ nm bs _ _ w5 (by have := HWB.out; omega) (Nat.le_trans HNM.out (by decide)) hu)
  rw [hr, hok] at HIF
  have HU := Lib.hid hu
  clear hu hs7 hnm hb5 HBM
  go_wp2_with fail
  refine HIF.out.mono ?_
  rintro e w6 ⟨k6, n6, s6, a6, m6, c6, h6, xs6, rfl, hr6, hs6, ho6, hb6⟩
  have ht6 : TermAt w6 0 h6 (tv k6 n6 s6 (.slice a6 m6 c6)) r := ⟨k6, n6, s6, _, xs6, rfl, hr6, hs6, ho6.args (Nat.zero_le _)⟩
  obtain ⟨W7, hW7⟩ : ∃ W7, W7 = w6.alloc (.cells #[.int .i64 k6, .int .i64 n6, .string s6, .slice a6 m6 c6] 29) := ⟨_, rfl⟩
  have hb7 : Below w6.heap.size w6 W7 := by rw [hW7]; exact (Below.refl _ _).alloc (Nat.le_refl _) _
  have rA : W7.heap[w6.heap.size]? = some (.cells #[.int .i64 k6, .int .i64 n6, .string s6, .slice a6 m6 c6] 29 (0, 0)) := by rw [hW7]; exact heap_new _ _ rfl
  have HT7 := Lib.hid (ht6.below hb7)
  have hb57 := bel_two hb6 hb7
  have HB7 := Lib.hid (bel_two HB5.out hb57)
  have HU7 := Lib.hid (HU.out.below hb57)
  have HRA := Lib.hid rA
  have HSF := Lib.hid (sFindB_anyH _ nm bs _ _ W7 (by have := HWB.out; omega) HU7.out)
  rw [hr, hok] at HSF
  clear hr6 hs6 ho6 hb6 ht6 hb7 rA hb57 HU HB5 HIF
  go_upto_region 9 with fail
  rw [← hW7]
  clear hW7
  go_wp2_with fail
  refine HSF.out.mono ?_
  rintro e w8 ⟨k8, n8, s8, a8, m8, c8, rfl, ht8, hb8⟩
  obtain ⟨W9, hW9⟩ : ∃ W9, W9 = w8.alloc (.cells #[.int .i64 k8, .int .i64 n8, .string s8, .slice a8 m8 c8] 29) := ⟨_, rfl⟩
  have hb9 : Below w8.heap.size w8 W9 := by rw [hW9]; exact (Below.refl _ _).alloc (Nat.le_refl _) _
  have rB : W9.heap[w8.heap.size]? = some (.cells #[.int .i64 k8, .int .i64 n8, .string s8, .slice a8 m8 c8] 29 (0, 0)) := by rw [hW9]; exact heap_new _ _ rfl
  have hb79 := bel_two hb8 hb9
  have HB9 := Lib.hid (bel_two HB7.out hb79)
  have HCELL : Hid (∀ w', Below W9.heap.size W9 w' → w'.cell? ⟨w6.heap.size, 0, none⟩ = some (.int .i64 k6) ∧ w'.cell? ⟨w6.heap.size, 1, none⟩ = some (.int .i64 n6) ∧ w'.cell? ⟨w6.heap.size, 2, none⟩ = some (.string s6) ∧ w'.cell? ⟨w6.heap.size, 3, none⟩ = some (.slice a6 m6 c6) ∧ w'.cell? ⟨w8.heap.size, 0, none⟩ = some (.int .i64 k8) ∧ w'.cell? ⟨w8.heap.size, 1, none⟩ = some (.int .i64 n8) ∧ w'.cell? ⟨w8.heap.size, 2, none⟩ = some (.string s8) ∧ w'.cell? ⟨w8.heap.size, 3, none⟩ = some (.slice a8 m8 c8) ∧ Below W9.heap.size W9 w') := Lib.hid (fun w' hb => by
    obtain ⟨⟨u0, u1, u2, u3⟩, _⟩ := cells_of4 HRA.out
    obtain ⟨⟨v0, v1, v2, v3⟩, _⟩ := cells_of4 rB
    have hbb := bel_two hb79 hb
    exact ⟨cell_on hbb u0, cell_on hbb u1, cell_on hbb u2, cell_on hbb u3, cell_on hb v0, cell_on hb v1, cell_on hb v2, cell_on hb v3, hb⟩)
  have HT9 := Lib.hid (fun w' (hb : Below W9.heap.size W9 w') => (HT7.out.below hb79).below hb)
  have HY9 := Lib.hid (fun w' (hb : Below W9.heap.size W9 w') => (ht8.below hb9).below hb)
  have HEQ : Hid (∀ w', Below W9.heap.size W9 w' → Calls Try.prog 15 #[tv k6 n6 s6 (.slice a6 m6 c6), tv k8 n8 s8 (.slice a8 m8 c8)] w' (fun e w2 => e = .returned (.bool true) ∧ Below w'.heap.size w' w2)) := Lib.hid (fun w' hb =>
    (sSame_any _ _ _ _ _ r r w' _ (HT9.out w' hb) (HY9.out w' hb) (by have := HWR.out; omega)).mono fun e w2 ⟨q, ⟨e1, e2⟩, e3⟩ => ⟨by rw [e1, e3.2 rfl], e2⟩)
  have HAP : Hid (ok = true → ∀ w', Below W9.heap.size W9 w' → Calls Try.prog 16 #[.slice la bs.length lc, tv 1 0 nm (.slice none 0 0)] w' (fun e w2 => ∃ k n s a m c, e = .returned (tv k n s (.slice a m c)) ∧ TermAt w2 0 (0 + 2) (tv k n s (.slice a m c)) r ∧ Below w'.heap.size w' w2)) := Lib.hid (fun hk w' hb => by
    have hv : TermAt w' 0 0 (tv 1 0 nm (.slice none 0 0)) (.node 1 0 nm []) := ⟨1, 0, nm, _, [], rfl, rfl, Nat.le_trans HNM.out (by decide), rfl, _, _, rfl⟩
    have q := iApp_any _ bs _ _ _ _ _ _ w' ((HU7.out.below hb79).below hb) (by have := HWB.out; omega) hv (by have := HNM.out; simp [wT_node, wS]; omega)
    have e : mapT (findB bs) (fun s => s) (.node 1 0 nm []) = r := by
      rw [mapT_node, if_pos rfl, ← hr]
      rw [← hok] at hk
      obtain ⟨z, hz⟩ := Option.isSome_iff_exists.1 hk
      rw [hz]
      rfl
    rw [e] at q
    exact q.mono (fun _ _ z => copy_gotR z))
  have HEX : Hid (∀ w' v H, Below W9.heap.size W9 w' → TermAt w' 0 H v r → Calls Try.prog 15 #[v, tv k6 n6 s6 (.slice a6 m6 c6)] w' (fun e w2 => e = .returned (.bool true) ∧ Below w'.heap.size w' w2)) := Lib.hid (fun w' v H hb hv =>
    (sSame_any 0 _ H v (tv k6 n6 s6 (.slice a6 m6 c6)) r r w' _ hv (HT9.out w' hb) (by have := HWR.out; omega)).mono fun e w2 ⟨q, ⟨e1, e2⟩, e3⟩ => ⟨by rw [e1, e3.2 rfl], e2⟩)
  clear ht8 hb8 hb9 rB hb79 hok hr HRA HSF HU7 HB7 HC1
  go_upto_region 10 with fail
  rw [← hW9]
  clear hW9
  have hkk : (ok == ok) = true := by simp
  cases ok with
  | true =>
    have HAT := Lib.hid (HAP.out rfl)
    obtain ⟨y0, y1, y2, y3, z0, z1, z2, z3, hcur⟩ := HCELL.out _ (Below.refl _ _)
    go_wp2
    have HF0 := Lib.hid True.intro
    go_region_held3 (fun w' => w'.cell? ⟨w6.heap.size, 0, none⟩ = some (.int .i64 k6) ∧ w'.cell? ⟨w6.heap.size, 1, none⟩ = some (.int .i64 n6) ∧ w'.cell? ⟨w6.heap.size, 2, none⟩ = some (.string s6) ∧ w'.cell? ⟨w6.heap.size, 3, none⟩ = some (.slice a6 m6 c6) ∧ w'.cell? ⟨w8.heap.size, 0, none⟩ = some (.int .i64 k8) ∧ w'.cell? ⟨w8.heap.size, 1, none⟩ = some (.int .i64 n8) ∧ w'.cell? ⟨w8.heap.size, 2, none⟩ = some (.string s8) ∧ w'.cell? ⟨w8.heap.size, 3, none⟩ = some (.slice a8 m8 c8) ∧ Below W9.heap.size W9 w')
      (first | exact HCELL.out _ (by assumption) | exact HCELL.out _ (Below.drew (by assumption)) | go_keep)
      (first
        | (go_at_call 16; refine (HAT.out _ (by first | assumption | exact Below.drew (by assumption))).mono ?_; rintro e wa ⟨k9, n9, s9, a9, m9, c9, rfl, ht9, hb9⟩; have hcura : Below W9.heap.size W9 wa := (by first | exact bel_two (by assumption) hb9 | exact bel_two (Below.drew (by assumption)) hb9))
        | (clear HF0; go_at_call 15; refine (HEQ.out _ (by first | assumption | exact Below.drew (by assumption))).mono ?_; rintro e we ⟨rfl, hbe⟩; have hcure : Below W9.heap.size W9 we := (by first | exact bel_two (by assumption) hbe | exact bel_two (Below.drew (by assumption)) hbe); have HFA := Lib.hid True.intro)
        | (clear HFA; go_at_call 15; refine (HEX.out _ _ _ (by assumption) ht9).mono ?_; rintro e wx ⟨rfl, hbx⟩; have hcurx : Below W9.heap.size W9 wx := bel_two (by assumption) hbx))
    have HF := Lib.hid (bel_two HB9.out hcurx)
    go_wp2
    go_ret
    exact ⟨rfl, HF.out⟩
  | false =>
    have hSD := HCELL.out W9.drew (Below.drew (Below.refl _ _))
    go_wp2
    refine wp_region_held_drew (S := (fun w' => w'.cell? ⟨w6.heap.size, 0, none⟩ = some (.int .i64 k6) ∧ w'.cell? ⟨w6.heap.size, 1, none⟩ = some (.int .i64 n6) ∧ w'.cell? ⟨w6.heap.size, 2, none⟩ = some (.string s6) ∧ w'.cell? ⟨w6.heap.size, 3, none⟩ = some (.slice a6 m6 c6) ∧ w'.cell? ⟨w8.heap.size, 0, none⟩ = some (.int .i64 k8) ∧ w'.cell? ⟨w8.heap.size, 1, none⟩ = some (.int .i64 n8) ∧ w'.cell? ⟨w8.heap.size, 2, none⟩ = some (.string s8) ∧ w'.cell? ⟨w8.heap.size, 3, none⟩ = some (.slice a8 m8 c8) ∧ Below W9.heap.size W9 w')) (by kernel_rfl) hSD (fun hHeld => ?_)
    refine wpAnyH_take (i := 0) (oi := { dst := some 58, op := Op.move (Operand.tmp 9), type := 4, pos := "laws.go:367", after := #[], guard := none }) (v := .bool false) rfl (by kernel_rfl) (by kernel_rfl) (by kernel_rfl) (fun _ _ _ h => h) (Or.inl ⟨by rfl, ?yf0⟩) hHeld ?rf0
    case yf0 => (intro w hSw; (try dsimp only at hSw); go_simp; try (first | (with_reducible rfl) | rfl | decide))
    (try simp only [Act.put, List.setIfInBounds_toArray, List.set_cons_zero, List.set_cons_succ])
    refine wpAnyH_take (i := 1) (oi := { dst := some 59, op := Op.move (Operand.tmp 11), type := 4, pos := "laws.go:367", after := #[], guard := none }) (v := .bool false) rfl (by kernel_rfl) (by kernel_rfl) (by kernel_rfl) (fun _ _ _ h => h) (Or.inl ⟨by rfl, ?yf1⟩) hHeld ?rf1
    case yf1 => (intro w hSw; (try dsimp only at hSw); go_simp; try (first | (with_reducible rfl) | rfl | decide))
    (try simp only [Act.put, List.setIfInBounds_toArray, List.set_cons_zero, List.set_cons_succ])
    refine wpAnyH_take (i := 2) (oi := { dst := some 60, op := Op.binOp BinOp.eql 4 (Operand.tmp 58) (Operand.tmp 59) 4, type := 4, pos := "laws.go:367", after := #[{ on := 0, ground := Ground.data }, { on := 1, ground := Ground.data }], guard := none }) (v := .bool true) rfl (by kernel_rfl) (by kernel_rfl) (by kernel_rfl) (fun _ _ _ h => h) (Or.inl ⟨by rfl, ?yf2⟩) hHeld ?rf2
    case yf2 => (intro w hSw; (try dsimp only at hSw); go_simp; try (first | (with_reducible rfl) | rfl | decide))
    (try simp only [Act.put, List.setIfInBounds_toArray, List.set_cons_zero, List.set_cons_succ])
    refine wpAnyH_take (i := 3) (oi := { dst := some 61, op := Op.move (Operand.tmp 60), type := 4, pos := "laws.go:367", after := #[{ on := 2, ground := Ground.data }], guard := none }) (v := .bool true) rfl (by kernel_rfl) (by kernel_rfl) (by kernel_rfl) (fun _ _ _ h => h) (Or.inl ⟨by rfl, ?yf3⟩) hHeld ?rf3
    case yf3 => (intro w hSw; (try dsimp only at hSw); go_simp; try (first | (with_reducible rfl) | rfl | decide))
    (try simp only [Act.put, List.setIfInBounds_toArray, List.set_cons_zero, List.set_cons_succ])
    refine wpAnyH_take (i := 4) (oi := { dst := some 62, op := Op.load 29 (Operand.tmp 8), type := 29, pos := "laws.go:367", after := #[{ on := 3, ground := Ground.guard }], guard := some (3, true) }) (v := ?vf4) rfl (by kernel_rfl) (by kernel_rfl) (by kernel_rfl) (fun _ _ _ h => h) (Or.inl ⟨by rfl, ?yf4⟩) hHeld ?rf4
    case yf4 => (intro w hSw; (try dsimp only at hSw); go_simp; try (first | (with_reducible rfl) | rfl | decide))
    (try simp only [Act.put, List.setIfInBounds_toArray, List.set_cons_zero, List.set_cons_succ])
    refine wpAnyH_take (i := 5) (oi := { dst := some 63, op := Op.load 29 (Operand.tmp 10), type := 29, pos := "laws.go:367", after := #[{ on := 3, ground := Ground.guard }], guard := some (3, true) }) (v := ?vf5) rfl (by kernel_rfl) (by kernel_rfl) (by kernel_rfl) (fun _ _ _ h => h) (Or.inl ⟨by rfl, ?yf5⟩) hHeld ?rf5
    case yf5 => (intro w hSw; (try dsimp only at hSw); go_simp; try (first | (with_reducible rfl) | rfl | decide))
    (try simp only [Act.put, List.setIfInBounds_toArray, List.set_cons_zero, List.set_cons_succ])
    refine wpAnyH_ready (rs := [6]) (by kernel_rfl) (by simp) ?_
    refine AllReadyH.cons (o := { dst := some 64, op := Op.call { callee := Callee.value (Operand.func 15), args := #[Operand.tmp 62, Operand.tmp 63], argTypes := #[29, 29] }, type := 4, pos := "laws.go:367", after := #[{ on := 4, ground := Ground.data }, { on := 5, ground := Ground.data }, { on := 3, ground := Ground.chain }, { on := 3, ground := Ground.guard }], guard := some (3, true) }) rfl (fun K hK => ?_) AllReadyH.nil
    (go_simp; refine (HEQ.out _ (by (repeat' (first | assumption | exact Below.refl _ _ | refine Below.drew ?_ | refine bel_two ?_ (by assumption))))).mono ?_; rintro e we ⟨rfl, hbwe⟩; go_wp2_with fail; refine hK.out _ _ (HCELL.out we (by (repeat' (first | assumption | exact Below.refl _ _ | refine Below.drew ?_ | refine bel_two ?_ (by assumption))))) (fun hHeld => ?_))
    clear hK K
    (try simp only [Act.put, List.setIfInBounds_toArray, List.set_cons_zero, List.set_cons_succ])
    refine wpAnyH_take (i := 7) (oi := { dst := some 65, op := Op.pick (Operand.tmp 61) (Operand.tmp 64) (Operand.const (Value.bool false)), type := 4, pos := "laws.go:367", after := #[{ on := 3, ground := Ground.data }, { on := 6, ground := Ground.data }], guard := none }) (v := .bool true) rfl (by kernel_rfl) (by kernel_rfl) (by kernel_rfl) (fun _ _ _ h => h) (Or.inl ⟨by rfl, ?yf7⟩) hHeld ?rf7
    case yf7 => (intro w hSw; (try dsimp only at hSw); go_simp; try (first | (with_reducible rfl) | rfl | decide))
    (try simp only [Act.put, List.setIfInBounds_toArray, List.set_cons_zero, List.set_cons_succ])
    refine wpAnyH_take (i := 8) (oi := { dst := some 66, op := Op.move (Operand.tmp 65), type := 4, pos := "laws.go:367", after := #[{ on := 7, ground := Ground.data }, { on := 6, ground := Ground.chain }], guard := none }) (v := .bool true) rfl (by kernel_rfl) (by kernel_rfl) (by kernel_rfl) (fun _ _ _ h => h) (Or.inl ⟨by rfl, ?yf8⟩) hHeld ?rf8
    case yf8 => (intro w hSw; (try dsimp only at hSw); go_simp; try (first | (with_reducible rfl) | rfl | decide))
    (try simp only [Act.put, List.setIfInBounds_toArray, List.set_cons_zero, List.set_cons_succ])
    refine wpAnyH_take (i := 9) (oi := { dst := some 67, op := Op.move (Operand.tmp 9), type := 4, pos := "laws.go:367", after := #[{ on := 8, ground := Ground.guard }], guard := some (8, true) }) (v := .bool false) rfl (by kernel_rfl) (by kernel_rfl) (by kernel_rfl) (fun _ _ _ h => h) (Or.inl ⟨by rfl, ?yf9⟩) hHeld ?rf9
    case yf9 => (intro w hSw; (try dsimp only at hSw); go_simp; try (first | (with_reducible rfl) | rfl | decide))
    (try simp only [Act.put, List.setIfInBounds_toArray, List.set_cons_zero, List.set_cons_succ])
    refine wpAnyH_take (i := 10) (oi := { dst := some 68, op := Op.unOp UnOp.not 4 (Operand.tmp 67), type := 4, pos := "laws.go:367", after := #[{ on := 9, ground := Ground.data }, { on := 8, ground := Ground.guard }], guard := some (8, true) }) (v := .bool true) rfl (by kernel_rfl) (by kernel_rfl) (by kernel_rfl) (fun _ _ _ h => h) (Or.inl ⟨by rfl, ?yf10⟩) hHeld ?rf10
    case yf10 => (intro w hSw; (try dsimp only at hSw); go_simp; try (first | (with_reducible rfl) | rfl | decide))
    (try simp only [Act.put, List.setIfInBounds_toArray, List.set_cons_zero, List.set_cons_succ])
    refine wpAnyH_take (i := 11) (oi := { dst := some 69, op := Op.move (Operand.tmp 68), type := 4, pos := "laws.go:367", after := #[{ on := 10, ground := Ground.data }, { on := 8, ground := Ground.chain }, { on := 8, ground := Ground.guard }], guard := some (8, true) }) (v := .bool true) rfl (by kernel_rfl) (by kernel_rfl) (by kernel_rfl) (fun _ _ _ h => h) (Or.inl ⟨by rfl, ?yf11⟩) hHeld ?rf11
    case yf11 => (intro w hSw; (try dsimp only at hSw); go_simp; try (first | (with_reducible rfl) | rfl | decide))
    (try simp only [Act.put, List.setIfInBounds_toArray, List.set_cons_zero, List.set_cons_succ])
    refine wpAnyH_take (i := 12) (oi := { dst := some 70, op := Op.move (Operand.tmp 6), type := 24, pos := "laws.go:367", after := #[{ on := 11, ground := Ground.guard }], guard := some (11, false) }) (v := undef) rfl (by kernel_rfl) (by kernel_rfl) (by kernel_rfl) (fun _ _ _ h => h) (Or.inr ⟨by rfl, rfl⟩) hHeld ?_
    (try simp only [Act.put, List.setIfInBounds_toArray, List.set_cons_zero, List.set_cons_succ])
    refine wpAnyH_take (i := 13) (oi := { dst := some 71, op := Op.move (Operand.tmp 7), type := 9, pos := "laws.go:367", after := #[{ on := 11, ground := Ground.guard }], guard := some (11, false) }) (v := undef) rfl (by kernel_rfl) (by kernel_rfl) (by kernel_rfl) (fun _ _ _ h => h) (Or.inr ⟨by rfl, rfl⟩) hHeld ?_
    (try simp only [Act.put, List.setIfInBounds_toArray, List.set_cons_zero, List.set_cons_succ])
    refine wpAnyH_take (i := 14) (oi := { dst := some 72, op := Op.build 29 #[(0, Operand.const (Value.int IntKind.i64 1)), (2, Operand.tmp 71)], type := 29, pos := "laws.go:367", after := #[{ on := 13, ground := Ground.data }, { on := 11, ground := Ground.guard }], guard := some (11, false) }) (v := undef) rfl (by kernel_rfl) (by kernel_rfl) (by kernel_rfl) (fun _ _ _ h => h) (Or.inr ⟨by rfl, rfl⟩) hHeld ?_
    (try simp only [Act.put, List.setIfInBounds_toArray, List.set_cons_zero, List.set_cons_succ])
    refine wpAnyH_take (i := 15) (oi := { dst := some 73, op := Op.call { callee := Callee.value (Operand.func 16), args := #[Operand.tmp 70, Operand.tmp 72], argTypes := #[24, 29] }, type := 29, pos := "laws.go:367", after := #[{ on := 12, ground := Ground.data }, { on := 14, ground := Ground.data }, { on := 11, ground := Ground.chain }, { on := 11, ground := Ground.guard }], guard := some (11, false) }) (v := undef) rfl (by kernel_rfl) (by kernel_rfl) (by kernel_rfl) (fun _ _ _ h => h) (Or.inr ⟨by rfl, rfl⟩) hHeld ?_
    (try simp only [Act.put, List.setIfInBounds_toArray, List.set_cons_zero, List.set_cons_succ])
    refine wpAnyH_take (i := 16) (oi := { dst := some 74, op := Op.load 29 (Operand.tmp 8), type := 29, pos := "laws.go:367", after := #[{ on := 11, ground := Ground.guard }], guard := some (11, false) }) (v := undef) rfl (by kernel_rfl) (by kernel_rfl) (by kernel_rfl) (fun _ _ _ h => h) (Or.inr ⟨by rfl, rfl⟩) hHeld ?_
    (try simp only [Act.put, List.setIfInBounds_toArray, List.set_cons_zero, List.set_cons_succ])
    refine wpAnyH_take (i := 17) (oi := { dst := some 75, op := Op.call { callee := Callee.value (Operand.func 15), args := #[Operand.tmp 73, Operand.tmp 74], argTypes := #[29, 29] }, type := 4, pos := "laws.go:367", after := #[{ on := 15, ground := Ground.data }, { on := 16, ground := Ground.data }, { on := 15, ground := Ground.chain }, { on := 11, ground := Ground.guard }], guard := some (11, false) }) (v := undef) rfl (by kernel_rfl) (by kernel_rfl) (by kernel_rfl) (fun _ _ _ h => h) (Or.inr ⟨by rfl, rfl⟩) hHeld ?_
    (try simp only [Act.put, List.setIfInBounds_toArray, List.set_cons_zero, List.set_cons_succ])
    refine wpAnyH_take (i := 18) (oi := { dst := some 76, op := Op.pick (Operand.tmp 69) (Operand.const (Value.bool true)) (Operand.tmp 75), type := 4, pos := "laws.go:367", after := #[{ on := 11, ground := Ground.data }, { on := 17, ground := Ground.data }, { on := 8, ground := Ground.guard }], guard := some (8, true) }) (v := .bool true) rfl (by kernel_rfl) (by kernel_rfl) (by kernel_rfl) (fun _ _ _ h => h) (Or.inl ⟨by rfl, ?yf18⟩) hHeld ?rf18
    case yf18 => (intro w hSw; (try dsimp only at hSw); go_simp; try (first | (with_reducible rfl) | rfl | decide))
    (try simp only [Act.put, List.setIfInBounds_toArray, List.set_cons_zero, List.set_cons_succ])
    refine wpAnyH_take (i := 19) (oi := { dst := some 77, op := Op.pick (Operand.tmp 66) (Operand.tmp 76) (Operand.const (Value.bool false)), type := 4, pos := "laws.go:367", after := #[{ on := 8, ground := Ground.data }, { on := 18, ground := Ground.data }], guard := none }) (v := .bool true) rfl (by kernel_rfl) (by kernel_rfl) (by kernel_rfl) (fun _ _ _ h => h) (Or.inl ⟨by rfl, ?yf19⟩) hHeld ?rf19
    case yf19 => (intro w hSw; (try dsimp only at hSw); go_simp; try (first | (with_reducible rfl) | rfl | decide))
    (try simp only [Act.put, List.setIfInBounds_toArray, List.set_cons_zero, List.set_cons_succ])
    refine wpAnyH_take (i := 20) (oi := { dst := some 2, op := Op.assign (Operand.tmp 77), type := 4, pos := "laws.go:367", after := #[{ on := 19, ground := Ground.data }, { on := 17, ground := Ground.chain }, { on := 0, ground := Ground.phase }, { on := 1, ground := Ground.phase }, { on := 2, ground := Ground.phase }, { on := 3, ground := Ground.phase }, { on := 4, ground := Ground.phase }, { on := 5, ground := Ground.phase }, { on := 6, ground := Ground.phase }, { on := 7, ground := Ground.phase }, { on := 8, ground := Ground.phase }, { on := 9, ground := Ground.phase }, { on := 10, ground := Ground.phase }, { on := 11, ground := Ground.phase }, { on := 12, ground := Ground.phase }, { on := 13, ground := Ground.phase }, { on := 14, ground := Ground.phase }, { on := 15, ground := Ground.phase }, { on := 16, ground := Ground.phase }, { on := 17, ground := Ground.phase }, { on := 18, ground := Ground.phase }, { on := 19, ground := Ground.phase }], guard := none }) (v := .bool true) rfl (by kernel_rfl) (by kernel_rfl) (by kernel_rfl) (fun _ _ _ h => h) (Or.inl ⟨by rfl, ?yf20⟩) hHeld ?rf20
    case yf20 => (intro w hSw; (try dsimp only at hSw); go_simp; try (first | (with_reducible rfl) | rfl | decide))
    (try simp only [Act.put, List.setIfInBounds_toArray, List.set_cons_zero, List.set_cons_succ])
    refine wpAnyH_done (by kernel_rfl) ?_ _
    have hcurz : Below W9.heap.size W9 we := (by (repeat' (first | assumption | exact Below.refl _ _ | refine Below.drew ?_ | refine bel_two ?_ (by assumption))))
    have HF := Lib.hid (bel_two HB9.out hcurz)
    go_wp2
    go_ret
    exact ⟨rfl, HF.out⟩
end Go.Proofs.Yteelakhaaipebaa
