/-
  laws.FnMatched answers true at every draw: its walk.
-/
import Derived.Test.YteelakhaaipebaaQ43
import Derived.Test.YteelakhaaipebaaQ48
import Derived.Test.YteelakhaaipebaaQ49
import Derived.Test.YteelakhaaipebaaQ17
import Derived.Test.YteelakhaaipebaaQ34
import Derived.Test.YteelakhaaipebaaQ50
import Derived.Test.YteelakhaaipebaaQ5
import Derived.Deep.RegionHeld3
namespace Go.Proofs.Yteelakhaaipebaa
open Go.RowKit

theorem copy_got {H : Nat} {r : T} {w : World} {e : Ending} {w' : World} (h : CopyR H r w e w') : ∃ k n s a m c, e = .returned (tv k n s (.slice a m c)) ∧ TermAt w' 0 H (tv k n s (.slice a m c)) r ∧ Below w.heap.size w w' := by
  obtain ⟨k, n, s, u, xs, rfl, rfl, hs, ho, hb⟩ := h
  obtain ⟨a, c, rfl⟩ := ho.slice
  exact ⟨k, n, s, a, _, c, rfl, ⟨k, n, s, _, xs, rfl, rfl, hs, ho.args (Nat.zero_le _)⟩, hb⟩

set_option maxRecDepth 100000 in
set_option maxHeartbeats 6400000 in
theorem matched_any (a0 : Option Addr) (len cap : Nat) (w : World) (hcode : len ≤ 1048576 → CodeAt w w.heap.size (.slice a0 len cap) len) :
    Calls Try.prog 5 #[.slice a0 len cap] w (TrueEnd w) := by
  have HC := Lib.hid hcode; clear hcode
  by_cases hbig : 1048576 < len
  · have hd : decide (1048576 < len) = true := by simpa using hbig
    have HK := Lib.hid (big_any a0 len cap w)
    rw [hd] at HK
    go_enter Try.func5, Try.ntmps5
    go_wp2_with fail
    refine HK.out.mono ?_
    rintro e w1 ⟨rfl, rfl⟩
    go_wp2
    go_ret
    exact ⟨rfl, Below.refl _ _⟩
  have hd : decide (1048576 < len) = false := by simpa using hbig
  have HK := Lib.hid (big_any a0 len cap w)
  rw [hd] at HK
  have HC1 := Lib.hid (HC.out (by omega))
  go_enter Try.func5, Try.ntmps5
  go_wp2_with fail
  refine HK.out.mono ?_
  rintro e w0 ⟨rfl, rfl⟩
  clear HK hd hbig HC
  go_wp2_with fail
  refine (drawMatch_any _ len _ HC1.out).mono ?_
  rintro e w1 ⟨k, n, s, a, m, c, k2, n2, s2, a2, m2, c2, p, t, h, h2, rfl, hp, ht, hwp, hwt, hb1⟩
  obtain ⟨W2, hW2⟩ : ∃ W2, W2 = (w1.alloc (.cells #[.int .i64 k, .int .i64 n, .string s, .slice a m c] 29)).alloc (.cells #[.int .i64 k2, .int .i64 n2, .string s2, .slice a2 m2 c2] 29) := ⟨_, rfl⟩
  have hb2 : Below w1.heap.size w1 W2 := by rw [hW2]; exact ((Below.refl _ _).alloc (Nat.le_refl _) _).alloc (by simp) _
  have rA : W2.heap[w1.heap.size]? = some (.cells #[.int .i64 k, .int .i64 n, .string s, .slice a m c] 29 (0, 0)) := by rw [hW2, Below.heap_alloc _ _ _ (by simp)]; exact heap_new _ _ rfl
  have rB : W2.heap[w1.heap.size + 1]? = some (.cells #[.int .i64 k2, .int .i64 n2, .string s2, .slice a2 m2 c2] 29 (0, 0)) := by rw [hW2]; exact heap_new _ _ (by simp)
  have HB2 := Lib.hid (bel_two hb1 hb2)
  have HP := Lib.hid (hp.below hb2); have HT := Lib.hid (ht.below hb2)
  have HW := Lib.hid (And.intro hwp hwt)
  have HCELL : Hid (∀ w', Below W2.heap.size W2 w' → (w'.cell? ⟨w1.heap.size, 0, none⟩ = some (.int .i64 k) ∧ w'.cell? ⟨w1.heap.size, 1, none⟩ = some (.int .i64 n) ∧ w'.cell? ⟨w1.heap.size, 2, none⟩ = some (.string s) ∧ w'.cell? ⟨w1.heap.size, 3, none⟩ = some (.slice a m c)) ∧ (w'.cell? ⟨w1.heap.size + 1, 0, none⟩ = some (.int .i64 k2) ∧ w'.cell? ⟨w1.heap.size + 1, 1, none⟩ = some (.int .i64 n2) ∧ w'.cell? ⟨w1.heap.size + 1, 2, none⟩ = some (.string s2) ∧ w'.cell? ⟨w1.heap.size + 1, 3, none⟩ = some (.slice a2 m2 c2))) := Lib.hid (fun w' hb => by
    obtain ⟨⟨y0, y1, y2, y3⟩, _⟩ := cells_of4 rA
    obtain ⟨⟨z0, z1, z2, z3⟩, _⟩ := cells_of4 rB
    exact ⟨⟨cell_on hb y0, cell_on hb y1, cell_on hb y2, cell_on hb y3⟩, cell_on hb z0, cell_on hb z1, cell_on hb z2, cell_on hb z3⟩)
  obtain ⟨r1, hr1⟩ : ∃ r, r = (matchB p t).isSome := ⟨_, rfl⟩
  obtain ⟨r0, hr0⟩ : ∃ r, r = (matchB p t).getD [] := ⟨_, rfl⟩
  have HIM := Lib.hid (iMatch_any _ _ p t _ _ h h2 W2 HP.out HT.out (by have := HW.out; omega))
  have HSP := Lib.hid (fun w' (hb : Below W2.heap.size W2 w') => sMatch_any _ _ p t _ _ h h2 w' (HP.out.below hb) (HT.out.below hb) (by have := HW.out; omega))
  have HII := Lib.hid (fun w' (hb : Below W2.heap.size W2 w') => iInst_any _ _ t p _ _ h2 h w' (HT.out.below hb) (HP.out.below hb) (by have := HW.out; omega))
  unfold CopyBbE at HIM
  unfold ReadBbE at HSP
  unfold isInst at HII
  rw [← hr1, ← hr0] at HIM
  rw [← hr1, ← hr0] at HSP
  rw [← hr1] at HII
  have HR0 : Hid (wBs r0 ≤ 4001 ∧ (r1 = true → mapT (findB r0) (fun s => s) p = t)) := Lib.hid (by
    rw [hr0, hr1]
    cases e : matchB p t with
    | none => simp [wBs]
    | some x =>
      have h1 := match_weight e
      have h2 := match_equal e
      have := HW.out
      exact ⟨by simp only [Option.getD_some]; omega, fun _ => h2⟩)
  have hrr : (r1 != r1) = false := by simp
  clear hp ht hwp hwt hb1 hb2 rA rB hr1 hr0
  obtain ⟨⟨y0, y1, y2, y3⟩, z0, z1, z2, z3⟩ := HCELL.out W2 (Below.refl _ _)
  go_upto_region 4 with fail
  rw [← hW2]
  clear hW2
  go_wp2_with fail
  refine HIM.out.mono ?_
  rintro e w3 ⟨su, H3, rfl, ⟨hsu, _⟩, hb3⟩
  obtain ⟨sa, sc, rfl⟩ := hsu.slice
  obtain ⟨ns, hns⟩ : ∃ m, m = r0.length := ⟨_, rfl⟩
  rw [← hns] at hsu ⊢
  have HB23 := Lib.hid hb3
  have HSU := Lib.hid hsu
  clear y0 y1 y2 y3 z0 z1 z2 z3 hb3 hsu HIM
  obtain ⟨⟨y0, y1, y2, y3⟩, z0, z1, z2, z3⟩ := HCELL.out w3 HB23.out
  go_wp2_with fail
  refine (HSP.out w3 HB23.out).mono ?_
  rintro e w4 ⟨wu, H4, rfl, hwu, hb4⟩
  have HB24 := Lib.hid (bel_two HB23.out hb4)
  have HSB := Lib.hid (sameBs_any _ wu r0 _ _ H3 H4 w4 (by have := wBs_len r0; have := HR0.out.1; omega) (fun x hx => by
    obtain ⟨i, hi⟩ := List.mem_iff_getElem?.1 hx
    have := wBs_mem hi; have := HR0.out.1; omega) (HSU.out.below hb4) hwu)
  have HSU4 := Lib.hid (HSU.out.below hb4)
  obtain ⟨wa, wc, rfl⟩ := hwu.slice
  rw [← hns] at HSB ⊢
  clear y0 y1 y2 y3 z0 z1 z2 z3 hb4 hwu HSP HSU hns
  go_wp2_with fail
  refine HSB.out.mono ?_
  rintro e w5 ⟨rfl, hb5⟩
  have HB25 := Lib.hid (bel_two HB24.out hb5)
  have HSU5 := Lib.hid (HSU4.out.below hb5)
  obtain ⟨⟨y0, y1, y2, y3⟩, z0, z1, z2, z3⟩ := HCELL.out w5 HB25.out
  clear hb5 HSB HSU4
  go_wp2_with fail
  refine (HII.out w5 HB25.out).mono ?_
  rintro e w6 ⟨rfl, hb6⟩
  have HB26 := Lib.hid (bel_two HB25.out hb6)
  have HSU6 := Lib.hid (HSU5.out.below hb6)
  clear hb6 HII HSU5 y0 y1 y2 y3 z0 z1 z2 z3
  go_wp2_with fail
  refine (drawVar_any _ len _ (HC1.out.below (bel_two HB2.out HB26.out))).mono ?_
  rintro e w7 ⟨k5, n5, s5, a5, m5, c5, k6, n6, s6, a6, m6, c6, q1, q2, h5, h6, rfl, hq1, hq2, hw5, hw6, hb7⟩
  obtain ⟨W8, hW8⟩ : ∃ W8, W8 = (w7.alloc (.cells #[.int .i64 k5, .int .i64 n5, .string s5, .slice a5 m5 c5] 29)).alloc (.cells #[.int .i64 k6, .int .i64 n6, .string s6, .slice a6 m6 c6] 29) := ⟨_, rfl⟩
  have hb8 : Below w7.heap.size w7 W8 := by rw [hW8]; exact ((Below.refl _ _).alloc (Nat.le_refl _) _).alloc (by simp) _
  have rA : W8.heap[w7.heap.size]? = some (.cells #[.int .i64 k5, .int .i64 n5, .string s5, .slice a5 m5 c5] 29 (0, 0)) := by rw [hW8, Below.heap_alloc _ _ _ (by simp)]; exact heap_new _ _ rfl
  have rB : W8.heap[w7.heap.size + 1]? = some (.cells #[.int .i64 k6, .int .i64 n6, .string s6, .slice a6 m6 c6] 29 (0, 0)) := by rw [hW8]; exact heap_new _ _ (by simp)
  have hb68 := bel_two hb7 hb8
  have HB28 := Lib.hid (bel_two HB26.out hb68)
  have HBX := Lib.hid (bel_two HB2.out HB28.out)
  have HCELL8 : Hid (∀ w', Below W8.heap.size W8 w' → w'.cell? ⟨w1.heap.size, 0, none⟩ = some (.int .i64 k) ∧ w'.cell? ⟨w1.heap.size, 1, none⟩ = some (.int .i64 n) ∧ w'.cell? ⟨w1.heap.size, 2, none⟩ = some (.string s) ∧ w'.cell? ⟨w1.heap.size, 3, none⟩ = some (.slice a m c) ∧ w'.cell? ⟨w1.heap.size + 1, 0, none⟩ = some (.int .i64 k2) ∧ w'.cell? ⟨w1.heap.size + 1, 1, none⟩ = some (.int .i64 n2) ∧ w'.cell? ⟨w1.heap.size + 1, 2, none⟩ = some (.string s2) ∧ w'.cell? ⟨w1.heap.size + 1, 3, none⟩ = some (.slice a2 m2 c2) ∧
      w'.cell? ⟨w7.heap.size, 0, none⟩ = some (.int .i64 k5) ∧ w'.cell? ⟨w7.heap.size, 1, none⟩ = some (.int .i64 n5) ∧ w'.cell? ⟨w7.heap.size, 2, none⟩ = some (.string s5) ∧ w'.cell? ⟨w7.heap.size, 3, none⟩ = some (.slice a5 m5 c5) ∧ w'.cell? ⟨w7.heap.size + 1, 0, none⟩ = some (.int .i64 k6) ∧ w'.cell? ⟨w7.heap.size + 1, 1, none⟩ = some (.int .i64 n6) ∧ w'.cell? ⟨w7.heap.size + 1, 2, none⟩ = some (.string s6) ∧ w'.cell? ⟨w7.heap.size + 1, 3, none⟩ = some (.slice a6 m6 c6) ∧ Below W8.heap.size W8 w') := Lib.hid (fun w' hb => by
    obtain ⟨⟨y0, y1, y2, y3⟩, z0, z1, z2, z3⟩ := HCELL.out w' (bel_two HB28.out hb)
    obtain ⟨⟨u0, u1, u2, u3⟩, _⟩ := cells_of4 rA
    obtain ⟨⟨v0, v1, v2, v3⟩, _⟩ := cells_of4 rB
    exact ⟨y0, y1, y2, y3, z0, z1, z2, z3, cell_on hb u0, cell_on hb u1, cell_on hb u2, cell_on hb u3, cell_on hb v0, cell_on hb v1, cell_on hb v2, cell_on hb v3, hb⟩)
  obtain ⟨x, hx⟩ : ∃ x, x = isVar2 q1 q2 := ⟨_, rfl⟩
  have HVI := Lib.hid (fun w' (hb : Below W8.heap.size W8 w') => iVariant_any _ _ q1 q2 _ _ h5 h6 w' ((hq1.below hb8).below hb) ((hq2.below hb8).below hb) (by omega))
  have HVS := Lib.hid (fun w' (hb : Below W8.heap.size W8 w') => sVariant_any _ _ q1 q2 _ _ h5 h6 w' ((hq1.below hb8).below hb) ((hq2.below hb8).below hb) (by omega))
  rw [← hx] at HVI HVS
  have hxx : (x == x) = true := by simp
  have HAP := Lib.hid (fun w' (hb : Below W8.heap.size W8 w') => (iApp_any _ r0 _ p _ _ H3 h w' ((HSU6.out.below hb68).below hb) (by have := HR0.out.1; omega) ((HP.out.below HB28.out).below hb) (by have := HW.out; omega)).mono (fun _ _ z => copy_got z))
  have HTT := Lib.hid (fun w' (hb : Below W8.heap.size W8 w') => (HT.out.below HB28.out).below hb)
  clear hq1 hq2 hw5 hw6 hb7 hb8 rA rB hb68 hx HSU6
  go_upto_region 9 with fail
  rw [← hW8]
  clear hW8
  cases r1 with
  | true =>
    have HEQ : Hid (mapT (findB r0) (fun s => s) p = t) := Lib.hid (HR0.out.2 rfl)
    rw [HEQ.out] at HAP
    have HPE : Hid (∀ w' v H, Below W8.heap.size W8 w' → TermAt w' 0 H v t → Calls Try.prog 15 #[v, tv k2 n2 s2 (.slice a2 m2 c2)] w' (fun e w2 => e = .returned (.bool true) ∧ Below w'.heap.size w' w2)) := Lib.hid (fun w' v H hb hv =>
      (sSame_any 0 _ H v (tv k2 n2 s2 (.slice a2 m2 c2)) t t w' h2 hv (HTT.out w' hb) (by have := HW.out; omega)).mono fun e w2 ⟨q, ⟨e1, e2⟩, e3⟩ => ⟨by rw [e1, e3.2 rfl], e2⟩)
    obtain ⟨y0, y1, y2, y3, z0, z1, z2, z3, u0, u1, u2, u3, v0, v1, v2, v3, hcur⟩ := HCELL8.out _ (Below.refl _ _)
    go_wp2
    go_region_held3 (fun w' => w'.cell? ⟨w1.heap.size, 0, none⟩ = some (.int .i64 k) ∧ w'.cell? ⟨w1.heap.size, 1, none⟩ = some (.int .i64 n) ∧ w'.cell? ⟨w1.heap.size, 2, none⟩ = some (.string s) ∧ w'.cell? ⟨w1.heap.size, 3, none⟩ = some (.slice a m c) ∧ w'.cell? ⟨w1.heap.size + 1, 0, none⟩ = some (.int .i64 k2) ∧ w'.cell? ⟨w1.heap.size + 1, 1, none⟩ = some (.int .i64 n2) ∧ w'.cell? ⟨w1.heap.size + 1, 2, none⟩ = some (.string s2) ∧ w'.cell? ⟨w1.heap.size + 1, 3, none⟩ = some (.slice a2 m2 c2) ∧
      w'.cell? ⟨w7.heap.size, 0, none⟩ = some (.int .i64 k5) ∧ w'.cell? ⟨w7.heap.size, 1, none⟩ = some (.int .i64 n5) ∧ w'.cell? ⟨w7.heap.size, 2, none⟩ = some (.string s5) ∧ w'.cell? ⟨w7.heap.size, 3, none⟩ = some (.slice a5 m5 c5) ∧ w'.cell? ⟨w7.heap.size + 1, 0, none⟩ = some (.int .i64 k6) ∧ w'.cell? ⟨w7.heap.size + 1, 1, none⟩ = some (.int .i64 n6) ∧ w'.cell? ⟨w7.heap.size + 1, 2, none⟩ = some (.string s6) ∧ w'.cell? ⟨w7.heap.size + 1, 3, none⟩ = some (.slice a6 m6 c6) ∧ Below W8.heap.size W8 w')
      (first | exact HCELL8.out _ (by assumption) | exact HCELL8.out _ (Below.drew (by assumption)) | go_keep)
      (first
        | (go_at_call 16; refine (HAP.out _ (by first | assumption | exact Below.drew (by assumption))).mono ?_; rintro e wa ⟨k9, n9, s9, a9, m9, c9, rfl, ht9, hb9⟩; have hcura : Below W8.heap.size W8 wa := (by first | exact bel_two (by assumption) hb9 | exact bel_two (Below.drew (by assumption)) hb9))
        | (go_at_call 15; refine (HPE.out _ _ _ (by assumption) ht9).mono ?_; rintro e we ⟨rfl, hbe⟩; have hcure : Below W8.heap.size W8 we := bel_two (by assumption) hbe)
        | (go_at_call 28; refine (HVI.out _ (by first | assumption | exact Below.drew (by assumption))).mono ?_; rintro e wi ⟨rfl, hbi⟩; have hcuri : Below W8.heap.size W8 wi := (by first | exact bel_two (by assumption) hbi | exact bel_two (Below.drew (by assumption)) hbi))
        | (go_at_call 38; refine (HVS.out _ (by first | assumption | exact Below.drew (by assumption))).mono ?_; rintro e ws ⟨rfl, hbs⟩; have hcurs : Below W8.heap.size W8 ws := (by first | exact bel_two (by assumption) hbs | exact bel_two (Below.drew (by assumption)) hbs)))
    have HF := Lib.hid (bel_two HBX.out hcurs)
    go_wp2
    go_ret
    exact ⟨rfl, HF.out⟩
  | false =>
    have hSD := HCELL8.out W8.drew (Below.drew (Below.refl _ _))
    go_wp2
    refine wp_region_held_drew (S := (fun w' => w'.cell? ⟨w1.heap.size, 0, none⟩ = some (.int .i64 k) ∧ w'.cell? ⟨w1.heap.size, 1, none⟩ = some (.int .i64 n) ∧ w'.cell? ⟨w1.heap.size, 2, none⟩ = some (.string s) ∧ w'.cell? ⟨w1.heap.size, 3, none⟩ = some (.slice a m c) ∧ w'.cell? ⟨w1.heap.size + 1, 0, none⟩ = some (.int .i64 k2) ∧ w'.cell? ⟨w1.heap.size + 1, 1, none⟩ = some (.int .i64 n2) ∧ w'.cell? ⟨w1.heap.size + 1, 2, none⟩ = some (.string s2) ∧ w'.cell? ⟨w1.heap.size + 1, 3, none⟩ = some (.slice a2 m2 c2) ∧ w'.cell? ⟨w7.heap.size, 0, none⟩ = some (.int .i64 k5) ∧ w'.cell? ⟨w7.heap.size, 1, none⟩ = some (.int .i64 n5) ∧ w'.cell? ⟨w7.heap.size, 2, none⟩ = some (.string s5) ∧ w'.cell? ⟨w7.heap.size, 3, none⟩ = some (.slice a5 m5 c5) ∧ w'.cell? ⟨w7.heap.size + 1, 0, none⟩ = some (.int .i64 k6) ∧ w'.cell? ⟨w7.heap.size + 1, 1, none⟩ = some (.int .i64 n6) ∧ w'.cell? ⟨w7.heap.size + 1, 2, none⟩ = some (.string s6) ∧ w'.cell? ⟨w7.heap.size + 1, 3, none⟩ = some (.slice a6 m6 c6) ∧ Below W8.heap.size W8 w')) (by kernel_rfl) hSD (fun hHeld => ?_)
    refine wpAnyH_take (i := 0) (oi := { dst := some 51, op := Op.move (Operand.tmp 6), type := 4, pos := "laws.go:383", after := #[], guard := none }) (v := .bool false) rfl (by kernel_rfl) (by kernel_rfl) (by kernel_rfl) (fun _ _ _ h => h) (Or.inl ⟨by rfl, ?yf0⟩) hHeld ?rf0
    case yf0 => (intro w hSw; (try dsimp only at hSw); go_simp; try with_reducible rfl)
    (try simp only [Act.put, List.setIfInBounds_toArray, List.set_cons_zero, List.set_cons_succ])
    refine wpAnyH_take (i := 1) (oi := { dst := some 52, op := Op.unOp UnOp.not 4 (Operand.tmp 51), type := 4, pos := "laws.go:383", after := #[{ on := 0, ground := Ground.data }], guard := none }) (v := .bool true) rfl (by kernel_rfl) (by kernel_rfl) (by kernel_rfl) (fun _ _ _ h => h) (Or.inl ⟨by rfl, ?yf1⟩) hHeld ?rf1
    case yf1 => (intro w hSw; (try dsimp only at hSw); go_simp; try with_reducible rfl)
    (try simp only [Act.put, List.setIfInBounds_toArray, List.set_cons_zero, List.set_cons_succ])
    refine wpAnyH_take (i := 2) (oi := { dst := some 53, op := Op.move (Operand.tmp 52), type := 4, pos := "laws.go:383", after := #[{ on := 1, ground := Ground.data }], guard := none }) (v := .bool true) rfl (by kernel_rfl) (by kernel_rfl) (by kernel_rfl) (fun _ _ _ h => h) (Or.inl ⟨by rfl, ?yf2⟩) hHeld ?rf2
    case yf2 => (intro w hSw; (try dsimp only at hSw); go_simp; try with_reducible rfl)
    (try simp only [Act.put, List.setIfInBounds_toArray, List.set_cons_zero, List.set_cons_succ])
    refine wpAnyH_take (i := 3) (oi := { dst := some 54, op := Op.move (Operand.tmp 5), type := 24, pos := "laws.go:383", after := #[{ on := 2, ground := Ground.guard }], guard := some (2, false) }) (v := undef) rfl (by kernel_rfl) (by kernel_rfl) (by kernel_rfl) (fun _ _ _ h => h) (Or.inr ⟨by rfl, rfl⟩) hHeld ?_
    (try simp only [Act.put, List.setIfInBounds_toArray, List.set_cons_zero, List.set_cons_succ])
    refine wpAnyH_take (i := 4) (oi := { dst := some 55, op := Op.load 29 (Operand.tmp 3), type := 29, pos := "laws.go:383", after := #[{ on := 2, ground := Ground.guard }], guard := some (2, false) }) (v := undef) rfl (by kernel_rfl) (by kernel_rfl) (by kernel_rfl) (fun _ _ _ h => h) (Or.inr ⟨by rfl, rfl⟩) hHeld ?_
    (try simp only [Act.put, List.setIfInBounds_toArray, List.set_cons_zero, List.set_cons_succ])
    refine wpAnyH_take (i := 5) (oi := { dst := some 56, op := Op.call { callee := Callee.value (Operand.func 16), args := #[Operand.tmp 54, Operand.tmp 55], argTypes := #[24, 29] }, type := 29, pos := "laws.go:383", after := #[{ on := 3, ground := Ground.data }, { on := 4, ground := Ground.data }, { on := 2, ground := Ground.chain }, { on := 2, ground := Ground.guard }], guard := some (2, false) }) (v := undef) rfl (by kernel_rfl) (by kernel_rfl) (by kernel_rfl) (fun _ _ _ h => h) (Or.inr ⟨by rfl, rfl⟩) hHeld ?_
    (try simp only [Act.put, List.setIfInBounds_toArray, List.set_cons_zero, List.set_cons_succ])
    refine wpAnyH_take (i := 6) (oi := { dst := some 57, op := Op.load 29 (Operand.tmp 4), type := 29, pos := "laws.go:383", after := #[{ on := 2, ground := Ground.guard }], guard := some (2, false) }) (v := undef) rfl (by kernel_rfl) (by kernel_rfl) (by kernel_rfl) (fun _ _ _ h => h) (Or.inr ⟨by rfl, rfl⟩) hHeld ?_
    (try simp only [Act.put, List.setIfInBounds_toArray, List.set_cons_zero, List.set_cons_succ])
    refine wpAnyH_take (i := 7) (oi := { dst := some 58, op := Op.call { callee := Callee.value (Operand.func 15), args := #[Operand.tmp 56, Operand.tmp 57], argTypes := #[29, 29] }, type := 4, pos := "laws.go:383", after := #[{ on := 5, ground := Ground.data }, { on := 6, ground := Ground.data }, { on := 5, ground := Ground.chain }, { on := 2, ground := Ground.guard }], guard := some (2, false) }) (v := undef) rfl (by kernel_rfl) (by kernel_rfl) (by kernel_rfl) (fun _ _ _ h => h) (Or.inr ⟨by rfl, rfl⟩) hHeld ?_
    (try simp only [Act.put, List.setIfInBounds_toArray, List.set_cons_zero, List.set_cons_succ])
    refine wpAnyH_take (i := 8) (oi := { dst := some 59, op := Op.pick (Operand.tmp 53) (Operand.const (Value.bool true)) (Operand.tmp 58), type := 4, pos := "laws.go:383", after := #[{ on := 2, ground := Ground.data }, { on := 7, ground := Ground.data }], guard := none }) (v := .bool true) rfl (by kernel_rfl) (by kernel_rfl) (by kernel_rfl) (fun _ _ _ h => h) (Or.inl ⟨by rfl, ?yf8⟩) hHeld ?rf8
    case yf8 => (intro w hSw; (try dsimp only at hSw); go_simp; try with_reducible rfl)
    (try simp only [Act.put, List.setIfInBounds_toArray, List.set_cons_zero, List.set_cons_succ])
    refine wpAnyH_take (i := 9) (oi := { dst := some 60, op := Op.move (Operand.tmp 59), type := 4, pos := "laws.go:383", after := #[{ on := 8, ground := Ground.data }, { on := 7, ground := Ground.chain }], guard := none }) (v := .bool true) rfl (by kernel_rfl) (by kernel_rfl) (by kernel_rfl) (fun _ _ _ h => h) (Or.inl ⟨by rfl, ?yf9⟩) hHeld ?rf9
    case yf9 => (intro w hSw; (try dsimp only at hSw); go_simp; try with_reducible rfl)
    (try simp only [Act.put, List.setIfInBounds_toArray, List.set_cons_zero, List.set_cons_succ])
    refine wpAnyH_take (i := 10) (oi := { dst := some 61, op := Op.load 29 (Operand.tmp 9), type := 29, pos := "laws.go:383", after := #[{ on := 9, ground := Ground.guard }], guard := some (9, true) }) (v := ?vf10) rfl (by kernel_rfl) (by kernel_rfl) (by kernel_rfl) (fun _ _ _ h => h) (Or.inl ⟨by rfl, ?yf10⟩) hHeld ?rf10
    case yf10 => (intro w hSw; (try dsimp only at hSw); go_simp; try with_reducible rfl)
    (try simp only [Act.put, List.setIfInBounds_toArray, List.set_cons_zero, List.set_cons_succ])
    refine wpAnyH_take (i := 11) (oi := { dst := some 62, op := Op.load 29 (Operand.tmp 10), type := 29, pos := "laws.go:383", after := #[{ on := 9, ground := Ground.guard }], guard := some (9, true) }) (v := ?vf11) rfl (by kernel_rfl) (by kernel_rfl) (by kernel_rfl) (fun _ _ _ h => h) (Or.inl ⟨by rfl, ?yf11⟩) hHeld ?rf11
    case yf11 => (intro w hSw; (try dsimp only at hSw); go_simp; try with_reducible rfl)
    (try simp only [Act.put, List.setIfInBounds_toArray, List.set_cons_zero, List.set_cons_succ])
    refine wpAnyH_take (i := 13) (oi := { dst := some 64, op := Op.load 29 (Operand.tmp 9), type := 29, pos := "laws.go:383", after := #[{ on := 9, ground := Ground.guard }], guard := some (9, true) }) (v := ?vf13) rfl (by kernel_rfl) (by kernel_rfl) (by kernel_rfl) (fun _ _ _ h => h) (Or.inl ⟨by rfl, ?yf13⟩) hHeld ?rf13
    case yf13 => (intro w hSw; (try dsimp only at hSw); go_simp; try with_reducible rfl)
    (try simp only [Act.put, List.setIfInBounds_toArray, List.set_cons_zero, List.set_cons_succ])
    refine wpAnyH_take (i := 14) (oi := { dst := some 65, op := Op.load 29 (Operand.tmp 10), type := 29, pos := "laws.go:383", after := #[{ on := 9, ground := Ground.guard }], guard := some (9, true) }) (v := ?vf14) rfl (by kernel_rfl) (by kernel_rfl) (by kernel_rfl) (fun _ _ _ h => h) (Or.inl ⟨by rfl, ?yf14⟩) hHeld ?rf14
    case yf14 => (intro w hSw; (try dsimp only at hSw); go_simp; try with_reducible rfl)
    (try simp only [Act.put, List.setIfInBounds_toArray, List.set_cons_zero, List.set_cons_succ])
    refine wpAnyH_ready (rs := [12]) (by kernel_rfl) (by simp) ?_
    refine AllReadyH.cons (o := { dst := some 63, op := Op.call { callee := Callee.value (Operand.func 28), args := #[Operand.tmp 61, Operand.tmp 62], argTypes := #[29, 29] }, type := 4, pos := "laws.go:383", after := #[{ on := 10, ground := Ground.data }, { on := 11, ground := Ground.data }, { on := 9, ground := Ground.chain }, { on := 9, ground := Ground.guard }], guard := some (9, true) }) rfl (fun K hK => ?_) AllReadyH.nil
    (go_simp; refine (HVI.out _ (by (repeat' (first | assumption | exact Below.refl _ _ | refine Below.drew ?_ | refine bel_two ?_ (by assumption))))).mono ?_; rintro e wi ⟨rfl, hbwi⟩; go_wp2_with fail; refine hK.out _ _ (HCELL8.out wi (by (repeat' (first | assumption | exact Below.refl _ _ | refine Below.drew ?_ | refine bel_two ?_ (by assumption))))) (fun hHeld => ?_))
    clear hK K
    (try simp only [Act.put, List.setIfInBounds_toArray, List.set_cons_zero, List.set_cons_succ])
    refine wpAnyH_ready (rs := [15]) (by kernel_rfl) (by simp) ?_
    refine AllReadyH.cons (o := { dst := some 66, op := Op.call { callee := Callee.value (Operand.func 38), args := #[Operand.tmp 64, Operand.tmp 65], argTypes := #[29, 29] }, type := 4, pos := "laws.go:383", after := #[{ on := 13, ground := Ground.data }, { on := 14, ground := Ground.data }, { on := 12, ground := Ground.chain }, { on := 9, ground := Ground.guard }], guard := some (9, true) }) rfl (fun K hK => ?_) AllReadyH.nil
    (go_simp; refine (HVS.out _ (by (repeat' (first | assumption | exact Below.refl _ _ | refine Below.drew ?_ | refine bel_two ?_ (by assumption))))).mono ?_; rintro e ws ⟨rfl, hbws⟩; go_wp2_with fail; refine hK.out _ _ (HCELL8.out ws (by (repeat' (first | assumption | exact Below.refl _ _ | refine Below.drew ?_ | refine bel_two ?_ (by assumption))))) (fun hHeld => ?_))
    clear hK K
    (try simp only [Act.put, List.setIfInBounds_toArray, List.set_cons_zero, List.set_cons_succ])
    refine wpAnyH_take (i := 16) (oi := { dst := some 67, op := Op.binOp BinOp.eql 4 (Operand.tmp 63) (Operand.tmp 66) 4, type := 4, pos := "laws.go:383", after := #[{ on := 12, ground := Ground.data }, { on := 15, ground := Ground.data }, { on := 9, ground := Ground.guard }], guard := some (9, true) }) (v := ?vf16) rfl (by kernel_rfl) (by kernel_rfl) (by kernel_rfl) (fun _ _ _ h => h) (Or.inl ⟨by rfl, ?yf16⟩) hHeld ?rf16
    case yf16 => (intro w hSw; (try dsimp only at hSw); go_simp; try with_reducible rfl)
    (try simp only [Act.put, List.setIfInBounds_toArray, List.set_cons_zero, List.set_cons_succ])
    refine wpAnyH_take (i := 17) (oi := { dst := some 68, op := Op.pick (Operand.tmp 60) (Operand.tmp 67) (Operand.const (Value.bool false)), type := 4, pos := "laws.go:383", after := #[{ on := 9, ground := Ground.data }, { on := 16, ground := Ground.data }], guard := none }) (v := ?vf17) rfl (by kernel_rfl) (by kernel_rfl) (by kernel_rfl) (fun _ _ _ h => h) (Or.inl ⟨by rfl, ?yf17⟩) hHeld ?rf17
    case yf17 => (intro w hSw; (try dsimp only at hSw); go_simp; try with_reducible rfl)
    (try simp only [Act.put, List.setIfInBounds_toArray, List.set_cons_zero, List.set_cons_succ])
    refine wpAnyH_take (i := 18) (oi := { dst := some 2, op := Op.assign (Operand.tmp 68), type := 4, pos := "laws.go:383", after := #[{ on := 17, ground := Ground.data }, { on := 15, ground := Ground.chain }, { on := 0, ground := Ground.phase }, { on := 1, ground := Ground.phase }, { on := 2, ground := Ground.phase }, { on := 3, ground := Ground.phase }, { on := 4, ground := Ground.phase }, { on := 5, ground := Ground.phase }, { on := 6, ground := Ground.phase }, { on := 7, ground := Ground.phase }, { on := 8, ground := Ground.phase }, { on := 9, ground := Ground.phase }, { on := 10, ground := Ground.phase }, { on := 11, ground := Ground.phase }, { on := 12, ground := Ground.phase }, { on := 13, ground := Ground.phase }, { on := 14, ground := Ground.phase }, { on := 15, ground := Ground.phase }, { on := 16, ground := Ground.phase }, { on := 17, ground := Ground.phase }], guard := none }) (v := ?vf18) rfl (by kernel_rfl) (by kernel_rfl) (by kernel_rfl) (fun _ _ _ h => h) (Or.inl ⟨by rfl, ?yf18⟩) hHeld ?rf18
    case yf18 => (intro w hSw; (try dsimp only at hSw); go_simp; try with_reducible rfl)
    (try simp only [Act.put, List.setIfInBounds_toArray, List.set_cons_zero, List.set_cons_succ])
    refine wpAnyH_done (by kernel_rfl) ?_ _
    have hcurs : Below W8.heap.size W8 ws := (by (repeat' (first | assumption | exact Below.refl _ _ | refine Below.drew ?_ | refine bel_two ?_ (by assumption))))
    have HF := Lib.hid (bel_two HBX.out hcurs)
    go_wp2
    go_ret
    exact ⟨rfl, HF.out⟩
end Go.Proofs.Yteelakhaaipebaa
