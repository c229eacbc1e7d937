/-
  The law on valid terms answers true at every draw: its walk.
-/
import Derived.Test.YtbechogdijkgjaaTermBent
import Derived.Test.YtbechogdijkgjaaBig
import Derived.Test.YtbechogdijkgjaaSame
import Derived.Test.YtbechogdijkgjaaTermFold
import Derived.Test.YtbechogdijkgjaaTermValid
import Derived.Test.YtbechogdijkgjaaTermVars
import Derived.Test.YtbechogdijkgjaaCountI
import Derived.Test.YtbechogdijkgjaaValidI
import Derived.Test.YtbechogdijkgjaaVarsI
import Derived.Deep.RegionHeld3
namespace Go.Proofs.Ytbechogdijkgjaa
open Go.RowKit

/-- A term that was drawn. -/
def DrawnTerm (w : World) (e : Ending) (w' : World) : Prop :=
  ∃ k n s a m cap t h, e = .returned (tv k n s (.slice a m cap)) ∧ TermAt w' w.heap.size h (tv k n s (.slice a m cap)) t ∧ wT t ≤ 1000 ∧ Below w.heap.size w w'

theorem drawn_fin {w w2 : World} {k n : Int} {s : ByteArray} {a : Option Addr} {m cap : Nat} {t : T} {h : Nat} (ht : TermAt w2 (w.heap.size + 1) h (tv k n s (.slice a m cap)) t) (hw : wT t ≤ 1000) (hb : Below w.heap.size w w2) (v0 v1 v2 v3 : Value) :
    DrawnTerm w (.returned (tv k n s (.slice a m cap))) ((((w2.setCell ⟨w.heap.size, 0, none⟩ v0).setCell ⟨w.heap.size, 1, none⟩ v1).setCell ⟨w.heap.size, 2, none⟩ v2).setCell ⟨w.heap.size, 3, none⟩ v3) := by
  have hg4 : w2.grownBy ((((w2.setCell ⟨w.heap.size, 0, none⟩ v0).setCell ⟨w.heap.size, 1, none⟩ v1).setCell ⟨w.heap.size, 2, none⟩ v2).setCell ⟨w.heap.size, 3, none⟩ v3) (some w.heap.size) :=
    grown_trans (grown_trans (grown_trans (set_grown _ _ _ _) (set_grown _ _ _ _)) (set_grown _ _ _ _)) (set_grown _ _ _ _)
  obtain ⟨k', n', s', u', xs, e1, e2, hs, ha⟩ := ht
  cases e1
  refine ⟨k, n, s, a, m, cap, t, h, rfl, ⟨k, n, s, _, xs, rfl, e2, hs, (ha.grown hg4 (fun j e => by cases e; omega)).low (by omega)⟩, hw, ?_⟩
  exact (((hb.setCell (Nat.le_refl _) _).setCell (Nat.le_refl _) _).setCell (Nat.le_refl _) _).setCell (Nat.le_refl _) _

theorem boxZ_cells' {w wr : World} (hg : (boxZ w).grownBy wr (some (boxZ w).heap.size)) :
    (wr.cell? ⟨w.heap.size, 0, none⟩ = some (.int .i64 0) ∧ wr.cell? ⟨w.heap.size, 1, none⟩ = some (.int .i64 0) ∧ wr.cell? ⟨w.heap.size, 2, none⟩ = some (.string ⟨#[]⟩) ∧ wr.cell? ⟨w.heap.size, 3, none⟩ = some (.slice none 0 0)) ∧
    (wr.frozen? ⟨w.heap.size, 0, none⟩ = false ∧ wr.frozen? ⟨w.heap.size, 1, none⟩ = false ∧ wr.frozen? ⟨w.heap.size, 2, none⟩ = false ∧ wr.frozen? ⟨w.heap.size, 3, none⟩ = false) := by
  have q := hg.block w.heap.size (by simp) (fun e => by simp at e)
  rw [heap_new w (.cells #[.int .i64 0, .int .i64 0, .string ⟨#[]⟩, .slice none 0 0] 26) rfl] at q
  have a0 := cell_of_row wr w.heap.size 0 _ _ _ q
  have a1 := cell_of_row wr w.heap.size 1 _ _ _ q
  have a2 := cell_of_row wr w.heap.size 2 _ _ _ q
  have a3 := cell_of_row wr w.heap.size 3 _ _ _ q
  simp at a0 a1 a2 a3
  exact ⟨⟨a0, a1, a2, a3⟩, frozen_of_row wr w.heap.size 0 _ _ q, frozen_of_row wr w.heap.size 1 _ _ q, frozen_of_row wr w.heap.size 2 _ _ q, frozen_of_row wr w.heap.size 3 _ _ q⟩

set_option maxRecDepth 100000 in
set_option maxHeartbeats 800000 in
theorem drawValid_any (cv : Value) (len : Nat) (w : World) (hcode : CodeAt w w.heap.size cv len) :
    Calls Try.prog 13 #[cv] w (DrawnTerm w) := by
  have HB0 : Hid (Below w.heap.size w (boxZ w)) := Lib.hid ((Below.refl _ _).alloc (Nat.le_refl _) _)
  have HC : Hid (CodeAt (boxZ w) (boxZ w).heap.size cv len) := Lib.hid (hcode.below HB0.out)
  clear hcode
  go_enter Try.func13, Try.ntmps13
  go_wp2_with fail
  refine (new_any cv len _ HC.out).mono ?_
  rintro e w1 ⟨rfl, hu1, hb1, _⟩
  have hz : (boxZ w).heap.size = w.heap.size + 1 := by simp
  have hc1 := HC.out.at_new hb1
  rw [hz] at hc1 hu1
  have HC1 := Lib.hid hc1; clear hc1
  have HU1 := Lib.hid hu1; clear hu1
  have HB1 := Lib.hid hb1; clear hb1
  have HZ := Lib.hid hz; clear hz
  go_wp2_with fail
  refine (bent_any (w.heap.size + 1) cv len _ HC1.out HU1.out).mono ?_
  rintro e w2 ⟨v, t, h, rfl, ht, hw, _, hg2⟩
  obtain ⟨k, n, s, a, m, cap, rfl⟩ := ht.shape
  have hz := HZ.out
  rw [← hz] at hg2
  have HB2 := Lib.hid (HB0.out.trans ((below_own HB1.out hg2).mono HB0.out.size))
  have hg : (boxZ w).grownBy w2 (some (boxZ w).heap.size) := Below.toGrown (below_own HB1.out hg2) _
  obtain ⟨⟨z0, z1, z2, z3⟩, y0, y1, y2, y3⟩ := boxZ_cells' hg
  have HF := Lib.hid (fun v0 v1 v2 v3 => drawn_fin (w := w) (ht.low (by have := HB1.out.size; omega)) hw HB2.out v0 v1 v2 v3)
  clear ht hw hg2 hg hz
  go_wp2
  (try simp only [Exit.inBlock, Exit.then])
  refine bodyPost_ret (v := tv k n s (.slice a m cap)) ?hr rfl ?_
  case hr =>
    rw [results_cell (a := 2) (t := 26) (ad := ⟨w.heap.size, 0, none⟩) rfl rfl]
    go_simp
  exact HF.out _ _ _ _

/-- What a call does in every world behind W. -/
def Behind (W : World) (f : FuncId) (args : Array Value) (R : Ending → World → Prop) : Prop := ∀ w', Below W.heap.size W w' → Calls Try.prog f args w' (fun e w2 => R e w2 ∧ Below W.heap.size W w2)

set_option maxRecDepth 100000 in
set_option maxHeartbeats 6000000 in
theorem terms_any (a : Option Addr) (len cap : Nat) (w : World) (hcode : len ≤ 1048576 → CodeAt w w.heap.size (.slice a len cap) len) :
    Calls Try.prog 3 #[.slice a len cap] w (TrueAt w) := by
  have HC := Lib.hid hcode; clear hcode
  by_cases hbig : 1048576 < len
  · have hd : decide (1048576 < len) = true := by simpa using hbig
    have HK := Lib.hid (big_any a len cap w)
    rw [hd] at HK
    go_enter Try.func3, Try.ntmps3
    go_wp2_with fail
    refine HK.out.mono ?_
    rintro e w1 ⟨rfl, rfl⟩
    go_wp2
    go_ret
    exact ⟨rfl, Below.refl _ _⟩
  · have hd : decide (1048576 < len) = false := by simpa using hbig
    have HK := Lib.hid (big_any a len cap w)
    rw [hd] at HK
    have HC1 := Lib.hid (HC.out (by omega))
    go_enter Try.func3, Try.ntmps3
    go_wp2_with fail
    refine HK.out.mono ?_
    rintro e w0 ⟨rfl, rfl⟩
    go_wp2_with fail
    refine (drawValid_any _ len _ HC1.out).mono ?_
    rintro e w1 ⟨k, n, s, ta, tm, tc, t, h, rfl, ht, hw, hb1⟩
    have hbx := boxed_below w1 k n s (.slice ta tm tc)
    have HW : Hid (wT t ≤ 1048576) := Lib.hid (by omega)
    have HT := Lib.hid (ht.below hbx); clear ht hw
    have HB1 := Lib.hid (hb1.trans (hbx.mono hb1.size)); clear hb1 hbx
    obtain ⟨c0, c1, c2, c3⟩ := boxed_cells (Below.refl (boxed w1 k n s (.slice ta tm tc)).heap.size (boxed w1 k n s (.slice ta tm tc)))
    go_wp2_with fail
    refine (validT_any _ t _ h _ HT.out HW.out).mono ?_
    rintro e w2 ⟨q, rfl, hq, hb2⟩
    have HQ := Lib.hid hq; clear hq
    have HB2 := Lib.hid hb2; clear hb2 c0 c1 c2 c3
    obtain ⟨c0, c1, c2, c3⟩ := boxed_cells HB2.out
    go_wp2_with fail
    refine (varsT_any _ t _ h _ (HT.out.below HB2.out) HW.out).mono ?_
    rintro e w3 ⟨u, rs, rfl, hs3, hl3, ho3, hb3⟩
    have hvl := vT_short HW.out
    obtain ⟨ua, uc, hu⟩ : ∃ ua uc, u = .slice ua rs.length uc := by
      rcases ho3.2 with ⟨rfl, h0⟩ | ⟨g, cp, cur, rfl, _⟩
      · exact ⟨none, 0, by rw [h0]⟩
      · exact ⟨_, cp, rfl⟩
    subst hu
    have HS3 := Lib.hid hs3; clear hs3
    have HRL : Hid (rs.length ≤ 9223372036854775807) := Lib.hid (by omega)
    have HB3 := Lib.hid (HB2.out.trans (hb3.mono HB2.out.size)); clear hb3 hl3
    have HU3 := Lib.hid (StrsAt.of_owns ho3); clear ho3 c0 c1 c2 c3
    have HBW : Hid (Below w.heap.size w w3) := Lib.hid (HB1.out.trans (HB3.out.mono HB1.out.size))
    have HKC : Hid (∀ w', Below w3.heap.size w3 w' → (w'.cell? ⟨w1.heap.size, 0, none⟩ = some (.int .i64 k) ∧ w'.cell? ⟨w1.heap.size, 1, none⟩ = some (.int .i64 n) ∧ w'.cell? ⟨w1.heap.size, 2, none⟩ = some (.string s) ∧ w'.cell? ⟨w1.heap.size, 3, none⟩ = some (.slice ta tm tc) ∧ Below w3.heap.size w3 w')) := Lib.hid (fun w' hb => by
      obtain ⟨c0, c1, c2, c3⟩ := boxed_cells (HB3.out.trans (hb.mono HB3.out.size))
      exact ⟨c0, c1, c2, c3, hb⟩)
    have HTT : Hid (∀ w', Below w3.heap.size w3 w' → TermAt w' w.heap.size h (tv k n s (.slice ta tm tc)) t) := Lib.hid (fun w' hb => (HT.out.below HB3.out).below hb)
    have HUU : Hid (∀ w', Below w3.heap.size w3 w' → StrsAt w' (.slice ua rs.length uc) rs) := Lib.hid (fun w' hb => HU3.out.below hb)
    have up : ∀ {w' w2 : World}, Below w3.heap.size w3 w' → Below w'.heap.size w' w2 → Below w3.heap.size w3 w2 := fun h k => h.trans (k.mono h.size)
    have HCI : Hid (Behind w3 17 #[tv k n s (.slice ta tm tc)] (fun e _ => e = .returned (.int .i64 (cT t : Nat)))) := Lib.hid (fun w' hb => (countT_any _ t _ h _ (HTT.out _ hb) HW.out).mono fun e w2 ⟨e1, e2⟩ => ⟨e1, up hb e2⟩)
    have HCS : Hid (Behind w3 18 #[tv k n s (.slice ta tm tc)] (fun e _ => e = .returned (.int .i64 (cT t : Nat)))) := Lib.hid (fun w' hb => (sCount_any _ h _ t _ (HTT.out _ hb) HW.out).mono fun e w2 ⟨e1, e2⟩ => ⟨e1, up hb e2⟩)
    have HDI : Hid (Behind w3 19 #[tv k n s (.slice ta tm tc)] (fun e _ => e = .returned (.int .i64 (dT t : Nat)))) := Lib.hid (fun w' hb => (depthT_any _ t _ h _ (HTT.out _ hb) HW.out).mono fun e w2 ⟨e1, e2⟩ => ⟨e1, up hb e2⟩)
    have HVS : Hid (Behind w3 16 #[tv k n s (.slice ta tm tc)] (fun e _ => e = .returned (.bool q))) := Lib.hid (fun w' hb => (sValid_any _ t _ h _ (HTT.out _ hb) HW.out).mono fun e w2 ⟨q2, e1, hq2, e2⟩ => ⟨by
      have : q2 = q := by
        have := HQ.out
        cases q <;> cases q2 <;> simp_all
      rw [e1, this], up hb e2⟩)
    have HRI : Hid (Behind w3 20 #[.slice ua rs.length uc] (fun e _ => e = .returned (.bool true))) := Lib.hid (fun w' hb => (rising_any _ rs _ HRL.out HS3.out.1 (HUU.out _ hb)).mono fun e w2 ⟨e1, x, e2⟩ => ⟨e1, up hb (by rw [e2]; exact below_q w' x)⟩)
    have HVA : Hid (Behind w3 22 #[tv k n s (.slice ta tm tc)] (fun e w2 => ∃ u2, e = .returned u2 ∧ StrsAt w2 u2 rs)) := Lib.hid (fun w' hb => (sVarsOf_any _ t _ h _ (HTT.out _ hb) HW.out).mono fun e w2 ⟨u2, rs2, e1, hs2, _, ho2, hb2⟩ => ⟨⟨u2, e1, by
      obtain rfl : rs = rs2 := HS3.out.unique hs2
      exact StrsAt.of_owns ho2⟩, up hb hb2⟩)
    have HSA : Hid (∀ (u2 : Value) (w' : World), StrsAt w' u2 rs → Below w3.heap.size w3 w' → Calls Try.prog 21 #[.slice ua rs.length uc, u2] w' (fun e w2 => e = .returned (.bool true) ∧ Below w3.heap.size w3 w2)) := Lib.hid (fun u2 w' h2 hb => (sameTexts_any _ u2 rs _ HRL.out (HUU.out _ hb) h2).mono fun e w2 ⟨e1, x, e2⟩ => ⟨e1, up hb (by rw [e2]; exact below_q w' x)⟩)
    have HGI : Hid (Behind w3 23 #[tv k n s (.slice ta tm tc)] (fun e _ => e = .returned (.bool ((rs.length : Int) == 0)))) := Lib.hid (fun w' hb => (groundT_any _ t _ h _ (HTT.out _ hb) HW.out).mono fun e w2 ⟨b2, e1, hq2, e2⟩ => ⟨by
      have : b2 = ((rs.length : Int) == 0) := by
        have h1 : vT t = [] ↔ rs = [] := by
          constructor
          · intro hv
            have := HS3.out.2
            rw [hv] at this
            cases hr : rs with
            | nil => rfl
            | cons x l => have := (this x).1 (by rw [hr]; simp); simp at this
          · intro hr
            have := HS3.out.2
            rw [hr] at this
            cases hv : vT t with
            | nil => rfl
            | cons x l => have := (this x).2 (by rw [hv]; simp); simp at this
        rw [Bool.eq_iff_iff, hq2, h1, beq_iff_eq]
        constructor
        · intro hr; rw [hr]; rfl
        · intro hr; exact List.eq_nil_of_length_eq_zero (by omega)
      rw [e1, this], up hb e2⟩)
    have hdl : ¬ ((cT t : Int) < (dT t : Int)) := by have := dT_le t; omega
    have hql : q = true → (cT t : Int) ≤ 60 := fun hq => by have := (HQ.out.1 hq).1; omega
    have HDL := Lib.hid (And.intro hdl hql); clear hdl hql up hvl
    obtain ⟨C, hC⟩ : ∃ C, C = cT t := ⟨_, rfl⟩
    obtain ⟨D, hD⟩ : ∃ D, D = dT t := ⟨_, rfl⟩
    rw [← hC] at HCI HCS HDL
    rw [← hD] at HDI HDL
    obtain ⟨hdl, hql⟩ := HDL.out
    have hdn : decide (C < D) = false := decide_eq_false (by omega)
    have hdi : decide ((C : Int) < (D : Int)) = false := decide_eq_false (by omega)
    obtain ⟨c0, c1, c2, c3, hb0⟩ := HKC.out _ (Below.refl _ _)
    clear hC hD
    have HHQ := Lib.hid hql; clear hql hdl HDL
    go_wp2
    go_region_held3 (fun w' => w'.cell? ⟨w1.heap.size, 0, none⟩ = some (.int .i64 k) ∧ w'.cell? ⟨w1.heap.size, 1, none⟩ = some (.int .i64 n) ∧ w'.cell? ⟨w1.heap.size, 2, none⟩ = some (.string s) ∧ w'.cell? ⟨w1.heap.size, 3, none⟩ = some (.slice ta tm tc) ∧ Below w3.heap.size w3 w')
      (first | exact HKC.out _ (by assumption) | exact HKC.out _ (Below.drew (by assumption)) | go_keep)
      (first
        | (go_at_call 16; refine (HVS.out _ (by first | assumption | exact Below.drew (by assumption))).mono ?_; rintro e w5 ⟨rfl, hb5⟩)
        | (go_at_call 17; refine (HCI.out _ (by first | assumption | exact Below.drew (by assumption))).mono ?_; rintro e w6 ⟨rfl, hb6⟩)
        | (go_at_call 18; refine (HCS.out _ (by first | assumption | exact Below.drew (by assumption))).mono ?_; rintro e w7 ⟨rfl, hb7⟩)
        | (go_at_call 19; refine (HDI.out _ (by first | assumption | exact Below.drew (by assumption))).mono ?_; rintro e w8 ⟨rfl, hb8⟩)
        | (go_at_call 20; refine (HRI.out _ (by first | assumption | exact Below.drew (by assumption))).mono ?_; rintro e w9 ⟨rfl, hb9⟩)
        | (go_at_call 22; refine (HVA.out _ (by first | assumption | exact Below.drew (by assumption))).mono ?_; rintro e w10 ⟨⟨u10, rfl, hu10⟩, hb10⟩)
        | (go_at_call 21; refine (HSA.out _ _ (by first | assumption) (by first | assumption | exact Below.drew (by assumption))).mono ?_; rintro e w11 ⟨rfl, hb11⟩))
    obtain ⟨c0, c1, c2, c3, hb12⟩ := HKC.out w11 hb11
    clear hdn hdi hb5 hb6 hb7 hb8 hb9 hb10 hu10
    go_wp2_with fail
    refine (HGI.out _ hb12).mono ?_
    rintro e w13 ⟨rfl, hb13⟩
    obtain ⟨c0, c1, c2, c3, hb14⟩ := HKC.out w13 hb13
    cases q with
    | true =>
      have hc60 := HHQ.out rfl
      have hc6 : decide (C ≤ 60) = true := decide_eq_true (by omega)
      have hc7 : decide ((C : Int) ≤ 60) = true := decide_eq_true (by omega)
      go_wp2_with fail
      refine (HCI.out _ hb14).mono ?_
      rintro e w15 ⟨rfl, hb15⟩
      have HBX := Lib.hid (HBW.out.trans (hb15.mono HBW.out.size))
      go_wp2
      go_ret
      exact ⟨by simp [hc60], HBX.out⟩
    | false =>
      have HBX := Lib.hid (HBW.out.trans (hb14.mono HBW.out.size))
      go_wp2
      go_ret
      exact ⟨by simp, HBX.out⟩
end Go.Proofs.Ytbechogdijkgjaa
