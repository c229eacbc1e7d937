/-
  The draws of the law on texts: a term, and a text that may be a term's representation.
-/
import Derived.Test.YtooiiomfahomjaaGreatDoorQ30
import Derived.Test.YtooiiomfahomjaaGreatDoorQ17
import Derived.Deep.RegionLaw
namespace Go.Proofs.YtooiiomfahomjaaGreatDoor
open Go.RowKit

theorem fmtT_size (t : T) : (fmtT t).size ≤ 720 := by
  by_cases h : ValidT t
  · rw [fmtT_ok h, strT_size]
    have h1 := textL_le t h.2.2
    have h2 := h.1
    omega
  · rw [fmtT_no h]; exact Nat.zero_le _

/-- A text was drawn. -/
def TurnedEnd (B : Nat) (w : World) (e : Ending) (w' : World) : Prop := ∃ u : ByteArray, e = .returned (.string u) ∧ u.size ≤ 2000 ∧ w.grownBy w' (some B)

theorem codeAt_drew {w : World} {B : Nat} {cv : Value} {len : Nat} (h : CodeAt w B cv len) : CodeAt w.drew B cv len := h
theorem curAt_drew {w : World} {B : Nat} {cv : Value} {len : Nat} (h : CurAt w B cv len) : CurAt w.drew B cv len := h

set_option maxRecDepth 100000 in
set_option maxHeartbeats 1600000 in
theorem turned_any (B g cap : Nat) (cv : Value) (len : Nat) (s : ByteArray) (ps : List ByteArray) (w : World) (hcode : CodeAt w B cv len) (hcur : CurAt w B cv len) (hs : s.size ≤ 900) (hg : g ≠ B)
    (h1 : 1 ≤ ps.length) (h2 : ps.length ≤ 1000) (hps : ∀ p ∈ ps, p.size ≤ 100) (hc : ∀ i p, ps[i]? = some p → w.cell? ⟨g, i, none⟩ = some (.string p)) :
    Calls Tryz.prog 22 #[.pointer (some ⟨B, 0, none⟩), .string s, .slice (some ⟨g, 0, none⟩) ps.length cap] w (TurnedEnd B w) := by
  have HC := Lib.hid hcode; clear hcode
  have HU := Lib.hid hcur; clear hcur
  have HPS := Lib.hid hps; clear hps
  have HCE := Lib.hid hc; clear hc
  have HN := Lib.hid (And.intro h1 h2); clear h1 h2
  have hbel := below_any B cv len (s.size + 1) w (by omega) (by omega) HC.out HU.out
  rw [show (((s.size + 1 : Nat) : Int)) = (s.size : Int) + 1 by omega] at hbel
  have HB := Lib.hid hbel; clear hbel
  go_enter Tryz.func22, Tryz.ntmps22
  go_wp2_with fail
  refine HB.out.mono ?_
  rintro e w1 ⟨at1, rfl, a0, a1, hu1, hg1⟩
  have HC1 := Lib.hid (HC.out.grown HU.out.lt hg1)
  have HCE1 : Hid (∀ i p, ps[i]? = some p → w1.cell? ⟨g, i, none⟩ = some (.string p)) := Lib.hid (fun i p h => hg1.cell (HCE.out i p h) (fun e => hg (by simpa using e)))
  have HU1 := Lib.hid hu1; clear hu1
  have HG1 := Lib.hid hg1; clear hg1
  go_wp2_with fail
  refine (below_any B cv len 6 _ (by decide) (by decide) HC1.out HU1.out).mono ?_
  rintro e w2 ⟨x, rfl, x0, x1, hu2, hg2⟩
  have HC2 := Lib.hid (HC1.out.grown HU1.out.lt hg2)
  have HCE2 : Hid (∀ i p, ps[i]? = some p → w2.cell? ⟨g, i, none⟩ = some (.string p)) := Lib.hid (fun i p h => hg2.cell (HCE1.out i p h) (fun e => hg (by simpa using e)))
  have HU2 := Lib.hid hu2; clear hu2
  have HG2 := Lib.hid (grown_trans HG1.out hg2); clear hg2
  have hle : at1 ≤ (s.size : Int) := by omega
  by_cases hx0 : x = 0
  · subst hx0
    have HPK := Lib.hid (pick_any B g cap cv len ps w2.drew HN.out.1 HN.out.2 hg (fun i p h => HCE2.out i p h) (codeAt_drew HC2.out) (curAt_drew HU2.out))
    go_wp2
    go_region_with (go_at_call 28; refine HPK.out.mono ?_; rintro e w3 ⟨v, hv, rfl, hu3, hg3⟩; obtain ⟨p, hp, rfl⟩ := List.mem_map.1 hv; have hpz := HPS.out p hp; have HG3 := Lib.hid (grown_trans HG2.out (grown_trans (Below.toGrown ((Below.refl _ _).drew) (some B)) hg3)); clear hv hp hu3 hg3)
    all_goals (
      go_wp2
      go_ret
      exact ⟨_, rfl, by simp only [ByteArray.size_append, ByteArray.size_extract]; omega, HG3.out⟩)
  · have hq0 : (x == 0) = false := by rw [beq_eq_false_iff_ne]; exact hx0
    by_cases hx1 : x = 1
    · subst hx1
      go_wp2
      go_ret
      exact ⟨_, rfl, by simp only [ByteArray.size_extract]; omega, HG2.out⟩
    · have hq1 : (x == 1) = false := by rw [beq_eq_false_iff_ne]; exact hx1
      clear hx0 hx1
      go_wp2
      go_ret
      exact ⟨s, rfl, by omega, HG2.out⟩

theorem termAt_grown {w w' : World} {lo h : Nat} {v : Value} {t : T} {row : Option Nat} (k : TermAt w lo h v t) (hg : w.grownBy w' row) (hr : ∀ j, row = some j → j < lo) : TermAt w' lo h v t := by
  obtain ⟨kk, n, s, u, xs, e1, e2, hs, ha⟩ := k
  exact ⟨kk, n, s, u, xs, e1, e2, hs, ha.grown hg hr⟩
theorem cells4d {Y : World} {b : Nat} {x0 x1 x2 x3 : Value} (hb : Y.heap[b]? = some (.cells #[x0, x1, x2, x3] 26 (0, 0))) : (Y.cell? ⟨b, 0, none⟩ = some x0 ∧ Y.cell? ⟨b, 1, none⟩ = some x1 ∧ Y.cell? ⟨b, 2, none⟩ = some x2 ∧ Y.cell? ⟨b, 3, none⟩ = some x3) ∧
    (Y.frozen? ⟨b, 0, none⟩ = false ∧ Y.frozen? ⟨b, 1, none⟩ = false ∧ Y.frozen? ⟨b, 2, none⟩ = false ∧ Y.frozen? ⟨b, 3, none⟩ = false) := by
  have a0 := cell_of_row Y b 0 _ _ _ hb
  have a1 := cell_of_row Y b 1 _ _ _ hb
  have a2 := cell_of_row Y b 2 _ _ _ hb
  have a3 := cell_of_row Y b 3 _ _ _ hb
  simp at a0 a1 a2 a3
  exact ⟨⟨a0, a1, a2, a3⟩, frozen_of_row Y b 0 _ _ hb, frozen_of_row Y b 1 _ _ hb, frozen_of_row Y b 2 _ _ hb, frozen_of_row Y b 3 _ _ hb⟩

/-- A term was drawn. -/
def DrawnTm (w : World) (e : Ending) (w' : World) : Prop := ∃ k n nm a m c t h, e = .returned (tv k n nm (.slice a m c)) ∧ TermAt w' w.heap.size h (tv k n nm (.slice a m c)) t ∧ wT t ≤ 1000 ∧ Below w.heap.size w w'

set_option maxRecDepth 100000 in
set_option maxHeartbeats 800000 in
theorem drawFmt_any (cv : Value) (len : Nat) (w : World) (hcode : CodeAt w w.heap.size cv len) :
    Calls Tryz.prog 5 #[cv] w (DrawnTm w) := by
  have HC := Lib.hid hcode; clear hcode
  go_enter Tryz.func5, Tryz.ntmps5
  obtain ⟨Z, hZ⟩ : ∃ Z, Z = w.alloc (.cells #[.int .i64 0, .int .i64 0, .string ⟨#[]⟩, .slice none 0 0] 26) := ⟨_, rfl⟩
  have hbz : Below w.heap.size w Z := by rw [hZ]; exact (Below.refl _ _).alloc (Nat.le_refl _) _
  have hzr : Z.heap[w.heap.size]? = some (.cells #[.int .i64 0, .int .i64 0, .string ⟨#[]⟩, .slice none 0 0] 26 (0, 0)) := by rw [hZ]; exact heap_new w _ rfl
  have hz : Z.heap.size = w.heap.size + 1 := by rw [hZ]; simp
  have HBZ := Lib.hid hbz
  have HZ := Lib.hid hz
  have HZR := Lib.hid hzr
  have HCZ := Lib.hid (HC.out.below hbz)
  have HN := Lib.hid (new_any cv len Z HCZ.out)
  clear hbz hz hzr
  go_wp2_with fail
  rw [← hZ]
  clear hZ
  refine HN.out.mono ?_
  rintro e w1 ⟨rfl, hu1, hb1, _⟩
  have HC1 := Lib.hid (HCZ.out.at_new hb1)
  have HU1 := Lib.hid hu1; clear hu1
  have HB1 := Lib.hid hb1; clear hb1
  go_wp2_with fail
  refine (bent_any Z.heap.size cv len _ HC1.out HU1.out).mono ?_
  rintro e w2 ⟨v, t, h, rfl, ht, hw, hu2, hg2⟩
  obtain ⟨k, n, nm, a, m, c, rfl⟩ := ht.shape
  have HB2 := Lib.hid (HBZ.out.trans ((below_own HB1.out hg2).mono HBZ.out.size))
  have HZR2 : Hid (w2.heap[w.heap.size]? = some (.cells #[.int .i64 0, .int .i64 0, .string ⟨#[]⟩, .slice none 0 0] 26 (0, 0))) := Lib.hid (by
    have h1 := (below_own HB1.out hg2).block w.heap.size (by have := HZ.out; omega)
    exact h1.trans HZR.out)
  have hlo : w.heap.size < w1.heap.size := by have := HB1.out.size; have := HZ.out; omega
  have HF : Hid (∀ v0 v1 v2 v3, DrawnTm w (.returned (tv k n nm (.slice a m c))) ((((w2.setCell ⟨w.heap.size, 0, none⟩ v0).setCell ⟨w.heap.size, 1, none⟩ v1).setCell ⟨w.heap.size, 2, none⟩ v2).setCell ⟨w.heap.size, 3, none⟩ v3)) := Lib.hid (fun v0 v1 v2 v3 => by
    have q1 := termAt_grown ht (set_grown w2 w.heap.size 0 v0) (fun j e => by cases e; exact hlo)
    have q2 := termAt_grown q1 (set_grown _ w.heap.size 1 v1) (fun j e => by cases e; exact hlo)
    have q3 := termAt_grown q2 (set_grown _ w.heap.size 2 v2) (fun j e => by cases e; exact hlo)
    have q4 := termAt_grown q3 (set_grown _ w.heap.size 3 v3) (fun j e => by cases e; exact hlo)
    exact ⟨k, n, nm, a, m, c, t, h, rfl, q4.low (by omega), hw, (((HB2.out.setCell (Nat.le_refl _) _).setCell (Nat.le_refl _) _).setCell (Nat.le_refl _) _).setCell (Nat.le_refl _) _⟩)
  obtain ⟨⟨x0, x1, x2, x3⟩, f0, f1, f2, f3⟩ := cells4d HZR2.out
  clear ht hw hu2 hg2 hlo
  go_wp2
  (try simp only [Exit.inBlock, Exit.then])
  refine bodyPost_ret (v := tv k n nm (.slice a m c)) ?hr rfl ?_
  case hr =>
    rw [results_cell (a := 2) (t := 26) (ad := ⟨w.heap.size, 0, none⟩) rfl rfl]
    go_simp
  exact HF.out _ _ _ _

/-- A text was drawn. -/
def DrawnTx (w : World) (e : Ending) (w' : World) : Prop := ∃ u : ByteArray, e = .returned (.string u) ∧ u.size ≤ 2000 ∧ Below w.heap.size w w'
def turns : List ByteArray := [⟨#[32]⟩, ⟨#[40]⟩, ⟨#[41]⟩, ⟨#[44]⟩, ⟨#[44, 32]⟩, ⟨#[88]⟩, ⟨#[52]⟩, ⟨#[102, 40]⟩]
theorem turns_short : ∀ p ∈ turns, p.size ≤ 100 := by
  unfold turns
  intro p hp
  simp only [List.mem_cons, List.mem_nil_iff, or_false] at hp
  rcases hp with rfl | rfl | rfl | rfl | rfl | rfl | rfl | rfl <;> decide

set_option maxRecDepth 100000 in
set_option maxHeartbeats 800000 in
theorem drawTx_any (cv : Value) (len : Nat) (w : World) (hcode : CodeAt w w.heap.size cv len) :
    Calls Tryz.prog 11 #[cv] w (DrawnTx w) := by
  have HC := Lib.hid hcode; clear hcode
  go_enter Tryz.func11, Tryz.ntmps11
  go_wp2_with fail
  refine (new_any cv len _ HC.out).mono ?_
  rintro e w1 ⟨rfl, hu1, hb1, _⟩
  have HC1 := Lib.hid (HC.out.at_new hb1)
  have HU1 := Lib.hid hu1; clear hu1
  have HB1 := Lib.hid hb1; clear hb1
  go_wp2_with fail
  refine (below_any w.heap.size cv len 4 _ (by decide) (by decide) HC1.out HU1.out).mono ?_
  rintro e w2 ⟨x, rfl, x0, x1, hu2, hg2⟩
  have HC2 := Lib.hid (HC1.out.grown HU1.out.lt hg2)
  have HU2 := Lib.hid hu2; clear hu2
  have HB2 := Lib.hid (below_own HB1.out hg2); clear hg2
  obtain ⟨d, hd⟩ : ∃ d : Nat, (1 : Int) + x = (d : Int) ∧ d ≤ 5 := ⟨(1 + x).toNat, by omega, by omega⟩
  have HD := Lib.hid (draw_any d hd.2 false w.heap.size cv len _ HC2.out HU2.out)
  have hdx := hd.1
  have HDL := Lib.hid hd.2
  clear hd
  go_wp2_with fail
  clear hdx
  refine HD.out.mono ?_
  rintro e w3 ⟨k3, n3, s3, u3, ts3, xs3, rfl, hs3, ha3, hl3, ho3, hw3, hu3, hg3, a3, rfl⟩
  have HC3 := Lib.hid (HC2.out.grown HU2.out.lt hg3)
  have HU3 := Lib.hid hu3; clear hu3
  have HB3 := Lib.hid (below_own HB2.out hg3)
  have HT3 : Hid (TermAt w3 w2.heap.size d (tv k3 n3 s3 (.slice a3 ts3.length ts3.length)) (.node k3 n3 s3 ts3)) := Lib.hid ⟨k3, n3, s3, _, ts3, rfl, rfl, by unfold maxLen; omega, ha3⟩
  have HW3 : Hid (wT (.node k3 n3 s3 ts3) ≤ 1048576) := Lib.hid (by
    have h5 : 2 ^ d ≤ 2 ^ 5 := Nat.pow_le_pow_right (by decide) HDL.out
    have h6 : (2 : Nat) ^ 5 = 32 := rfl
    omega)
  clear hg3 hs3 ha3 hl3 ho3 hw3
  go_wp2_with fail
  refine (sFmtT_any _ _ _ _ _ HT3.out HW3.out).mono ?_
  rintro e w4 ⟨rfl, hb4⟩
  have hfs := fmtT_size (.node k3 n3 s3 ts3)
  obtain ⟨ft, hft⟩ : ∃ ft, ft = fmtT (.node k3 n3 s3 ts3) := ⟨_, rfl⟩
  rw [← hft] at hfs ⊢
  clear hft
  have HC4 := Lib.hid (HC3.out.grown HU3.out.lt (Below.toGrown hb4 _))
  have HU4 := Lib.hid (HU3.out.bel hb4)
  have HB4 := Lib.hid (HB3.out.trans (hb4.mono HB3.out.size)); clear hb4
  have hne : w4.heap.size ≠ w.heap.size := by have := HU4.out.lt; omega
  have c : Calls Tryz.prog 22 #[.pointer (some ⟨w.heap.size, 0, none⟩), .string ft, .slice (some ⟨w4.heap.size, 0, none⟩) 8 8] (w4.alloc (.cells #[.string ⟨#[32]⟩, .string ⟨#[40]⟩, .string ⟨#[41]⟩, .string ⟨#[44]⟩, .string ⟨#[44, 32]⟩, .string ⟨#[88]⟩, .string ⟨#[52]⟩, .string ⟨#[102, 40]⟩] 9)) (TurnedEnd w.heap.size (w4.alloc (.cells #[.string ⟨#[32]⟩, .string ⟨#[40]⟩, .string ⟨#[41]⟩, .string ⟨#[44]⟩, .string ⟨#[44, 32]⟩, .string ⟨#[88]⟩, .string ⟨#[52]⟩, .string ⟨#[102, 40]⟩] 9))) :=
    turned_any w.heap.size w4.heap.size 8 cv len ft turns (w4.alloc (.cells (turns.map Value.string).toArray 9)) (HC4.out.alloc HU4.out.lt _) (HU4.out.alloc _) (by omega) hne (by decide) (by decide) turns_short (new_strs w4 turns _)
  have HK := Lib.hid c; clear c
  go_wp2_with fail
  refine HK.out.mono ?_
  rintro e w5 ⟨u5, rfl, hu5, hg5⟩
  have HF := Lib.hid (And.intro hu5 (below_own (HB4.out.alloc HB4.out.size _) hg5))
  clear hu5 hg5
  go_wp2
  go_ret
  exact ⟨u5, rfl, HF.out.1, HF.out.2⟩
end Go.Proofs.YtooiiomfahomjaaGreatDoor
