/-
  The draws of terms: spec.l3Draw.
-/
import Derived.Test.YtidbokheeieifaaGreatDoorQ5
import Derived.Deep.RegionHeld3
namespace Go.Proofs.YtidbokheeieifaaGreatDoor
open Go.RowKit

/-- A drawn term: what it holds, whose its arguments' row is, and how far the cursor came. -/
def DrawnT (d B : Nat) (cv : Value) (len : Nat) (w : World) (e : Ending) (w' : World) : Prop :=
  ∃ (k n : Int) (s : ByteArray) (u : Value) (ts : List T) (xs : List Value), e = .returned (tv k n s u) ∧ s.size ≤ 1000 ∧ ArgsAt w' w.heap.size d u ts ∧ ts.length ≤ 1000 ∧ w'.ownsRow w.heap.size 26 4 u ts.length xs ∧ wT (.node k n s ts) + 3 ≤ 4 * 2 ^ d ∧ CurAt w' B cv len ∧ w.grownBy w' (some B) ∧ ∃ a, u = .slice a ts.length ts.length

def DrawAt (d : Nat) : Prop := ∀ (g : Bool) (B : Nat) (cv : Value) (len : Nat) (w : World), CodeAt w B cv len → CurAt w B cv len →
  Calls Tryz.prog 53 #[.pointer (some ⟨B, 0, none⟩), .int .i64 d, .bool g] w (DrawnT d B cv len w)

abbrev boxZ (w : World) : World := w.alloc (.cells #[.int .i64 0, .int .i64 0, .string ⟨#[]⟩, .slice none 0 0] 26)

theorem CurAt.bel {w w' : World} {B : Nat} {cv : Value} {len : Nat} (h : CurAt w B cv len) (hb : Below w.heap.size w w') : CurAt w' B cv len := by
  have hl := h.lt
  obtain ⟨i, x, hi, hB⟩ := h
  exact ⟨i, x, hi, by rw [hb.block B hl]; exact hB⟩

theorem boxZ_cells {w wr : World} {B : Nat} (hB : B < w.heap.size) (hg : (boxZ w).grownBy wr (some B)) :
    (wr.cell? ⟨w.heap.size, 0, none⟩ = some (.int .i64 0) ∧ wr.cell? ⟨w.heap.size, 1, none⟩ = some (.int .i64 0) ∧ wr.cell? ⟨w.heap.size, 2, none⟩ = some (.string ⟨#[]⟩) ∧ wr.cell? ⟨w.heap.size, 3, none⟩ = some (.slice none 0 0)) ∧
    (wr.frozen? ⟨w.heap.size, 0, none⟩ = false ∧ wr.frozen? ⟨w.heap.size, 1, none⟩ = false ∧ wr.frozen? ⟨w.heap.size, 2, none⟩ = false ∧ wr.frozen? ⟨w.heap.size, 3, none⟩ = false) := by
  have q := hg.block w.heap.size (by simp) (fun e => by cases e; omega)
  rw [heap_new w (.cells #[.int .i64 0, .int .i64 0, .string ⟨#[]⟩, .slice none 0 0] 26) rfl] at q
  have a0 := cell_of_row wr w.heap.size 0 _ _ _ q
  have a1 := cell_of_row wr w.heap.size 1 _ _ _ q
  have a2 := cell_of_row wr w.heap.size 2 _ _ _ q
  have a3 := cell_of_row wr w.heap.size 3 _ _ _ q
  simp at a0 a1 a2 a3
  exact ⟨⟨a0, a1, a2, a3⟩, frozen_of_row wr w.heap.size 0 _ _ q, frozen_of_row wr w.heap.size 1 _ _ q, frozen_of_row wr w.heap.size 2 _ _ q, frozen_of_row wr w.heap.size 3 _ _ q⟩

theorem draw_fin {d B : Nat} {cv : Value} {len : Nat} {w w' : World} {k n : Int} {s : ByteArray} {u : Value} {ts : List T} {xs : List Value} (hB : B < w.heap.size) (hs : s.size ≤ 1000) (ha : ArgsAt w' (w.heap.size + 1) d u ts) (hl : ts.length ≤ 1000)
    (ho : w'.ownsRow (w.heap.size + 1) 26 4 u ts.length xs) (hw : wT (.node k n s ts) + 3 ≤ 4 * 2 ^ d) (hu : CurAt w' B cv len) (hg : (boxZ w).grownBy w' (some B)) (hcap : ∃ a, u = .slice a ts.length ts.length) (v0 v1 v2 v3 : Value) :
    DrawnT d B cv len w (.returned (tv k n s u)) ((((w'.setCell ⟨w.heap.size, 0, none⟩ v0).setCell ⟨w.heap.size, 1, none⟩ v1).setCell ⟨w.heap.size, 2, none⟩ v2).setCell ⟨w.heap.size, 3, none⟩ v3) := by
  have hlt : ∀ j, some w.heap.size = some j → j < w.heap.size + 1 := fun j e => by cases e; omega
  have hg4 : w'.grownBy ((((w'.setCell ⟨w.heap.size, 0, none⟩ v0).setCell ⟨w.heap.size, 1, none⟩ v1).setCell ⟨w.heap.size, 2, none⟩ v2).setCell ⟨w.heap.size, 3, none⟩ v3) (some w.heap.size) :=
    grown_trans (grown_trans (grown_trans (set_grown _ _ _ _) (set_grown _ _ _ _)) (set_grown _ _ _ _)) (set_grown _ _ _ _)
  refine ⟨k, n, s, u, ts, xs, rfl, hs, ArgsAt.low (by omega) (ha.grown hg4 hlt), hl, own_low (keep_above ho (u := .slice (some ⟨w.heap.size, 0, none⟩) 0 0) (fun k hk => by simp [Value.ownBlock] at hk; omega) (by simpa [Value.ownBlock] using hg4)) (by omega), hw, ?_, ?_, hcap⟩
  · have hl := hu.lt
    obtain ⟨i, x, hi, hB2⟩ := hu
    exact ⟨i, x, hi, by rw [hg4.block B hl (fun e => by cases e; omega)]; exact hB2⟩
  · have h1 := grown_trans (World.grownBy_alloc w (.cells #[.int .i64 0, .int .i64 0, .string ⟨#[]⟩, .slice none 0 0] 26) (some B)) hg
    exact ⟨hg4.os.trans h1.os, hg4.tape.trans h1.tape, hg4.output.trans h1.output, Nat.le_trans h1.size hg4.size, fun i hi hr => (hg4.block i (Nat.lt_of_lt_of_le hi h1.size) (fun e => by cases e; omega)).trans (h1.block i hi hr)⟩

theorem wrap_small (d : Nat) (h : d ≤ 5) : IntKind.i64.wrap (d : Int) = (d : Int) := by
  have : d = 0 ∨ d = 1 ∨ d = 2 ∨ d = 3 ∨ d = 4 ∨ d = 5 := by omega
  rcases this with rfl | rfl | rfl | rfl | rfl | rfl <;> decide
theorem gr_drew {a b : World} {r : Option Nat} (h : a.grownBy b r) : a.grownBy b.drew r := ⟨h.os, h.tape, h.output, h.size, h.block⟩
theorem gr_alloc {a b : World} {r : Option Nat} {o : Obj} (h : a.grownBy b r) : a.grownBy (b.alloc o) r := grown_trans h (World.grownBy_alloc b o r)
theorem cu_drew {w : World} {B len : Nat} {cv : Value} (h : CurAt w B cv len) : CurAt w.drew B cv len := h
theorem cu_alloc {w : World} {B len : Nat} {cv : Value} {o : Obj} (h : CurAt w B cv len) : CurAt (w.alloc o) B cv len := h.alloc o


def varTexts : List ByteArray := [⟨#[88]⟩, ⟨#[89]⟩, ⟨#[90]⟩]
def appTexts : List ByteArray := [⟨#[97]⟩, ⟨#[98]⟩]
def pairTexts : List ByteArray := [⟨#[102]⟩, ⟨#[102]⟩, ⟨#[104]⟩]
theorem varTexts_one : ∀ p ∈ varTexts, p.size = 1 := by unfold varTexts; intro p hp; simp only [List.mem_cons, List.mem_nil_iff, or_false] at hp; rcases hp with rfl | rfl | rfl <;> rfl
theorem appTexts_one : ∀ p ∈ appTexts, p.size = 1 := by unfold appTexts; intro p hp; simp only [List.mem_cons, List.mem_nil_iff, or_false] at hp; rcases hp with rfl | rfl <;> rfl
theorem pairTexts_one : ∀ p ∈ pairTexts, p.size = 1 := by unfold pairTexts; intro p hp; simp only [List.mem_cons, List.mem_nil_iff, or_false] at hp; rcases hp with rfl | rfl | rfl <;> rfl
theorem wT_leaf (k n : Int) (s : ByteArray) (d : Nat) (h : s.size ≤ 1) : wT (.node k n s []) + 3 ≤ 4 * 2 ^ d := by
  have : 1 ≤ 2 ^ d := Nat.one_le_two_pow
  rw [wT_node]; simp [wS]; omega

theorem row1_args {w : World} {g lo d : Nat} {k n : Int} {s : ByteArray} {u : Value} {ts : List T} (hg : w.heap[g]? = some (.cells #[.int .i64 k, .int .i64 n, .string s, u] 26 (0, 0))) (hlo : lo ≤ g) (hs : s.size ≤ 1000) (ha : ArgsAt w lo d u ts) :
    ArgsAt w lo (d + 1) (.slice (some ⟨g, 0, none⟩) 1 1) [.node k n s ts] ∧ w.ownsRow lo 26 4 (.slice (some ⟨g, 0, none⟩) 1 1) 1 [.int .i64 k, .int .i64 n, .string s, u] := by
  refine ⟨⟨_, _, rfl, by unfold maxLen; simp, Or.inr ⟨g, 0, rfl, hlo, fun i kk nn ss xx hi => ?_⟩⟩, rfl, Or.inr ⟨g, 1, _, rfl, hlo, hg, by decide, by decide, rfl, rfl⟩⟩
  match i, hi with
  | 0, hi =>
    simp at hi
    obtain ⟨rfl, rfl, rfl, rfl⟩ := hi
    exact ⟨by unfold maxLen; omega, u, by rw [cell_of_row w g _ _ _ _ hg]; rfl, by rw [cell_of_row w g _ _ _ _ hg]; rfl, by rw [cell_of_row w g _ _ _ _ hg]; rfl, by rw [cell_of_row w g _ _ _ _ hg]; rfl, ha⟩
  | i + 1, hi => simp at hi
theorem row2_args {w : World} {g lo d : Nat} {k n k2 n2 : Int} {s s2 : ByteArray} {u u2 : Value} {ts ts2 : List T} (hg : w.heap[g]? = some (.cells #[.int .i64 k, .int .i64 n, .string s, u, .int .i64 k2, .int .i64 n2, .string s2, u2] 26 (0, 0))) (hlo : lo ≤ g) (hs : s.size ≤ 1000) (ha : ArgsAt w lo d u ts) (hs2 : s2.size ≤ 1000) (ha2 : ArgsAt w lo d u2 ts2) :
    ArgsAt w lo (d + 1) (.slice (some ⟨g, 0, none⟩) 2 2) [.node k n s ts, .node k2 n2 s2 ts2] ∧ w.ownsRow lo 26 4 (.slice (some ⟨g, 0, none⟩) 2 2) 2 [.int .i64 k, .int .i64 n, .string s, u, .int .i64 k2, .int .i64 n2, .string s2, u2] := by
  refine ⟨⟨_, _, rfl, by unfold maxLen; simp, Or.inr ⟨g, 0, rfl, hlo, fun i kk nn ss xx hi => ?_⟩⟩, rfl, Or.inr ⟨g, 2, _, rfl, hlo, hg, by decide, by decide, rfl, rfl⟩⟩
  match i, hi with
  | 0, hi =>
    simp at hi
    obtain ⟨rfl, rfl, rfl, rfl⟩ := hi
    exact ⟨by unfold maxLen; omega, u, by rw [cell_of_row w g _ _ _ _ hg]; rfl, by rw [cell_of_row w g _ _ _ _ hg]; rfl, by rw [cell_of_row w g _ _ _ _ hg]; rfl, by rw [cell_of_row w g _ _ _ _ hg]; rfl, ha⟩
  | 1, hi =>
    simp at hi
    obtain ⟨rfl, rfl, rfl, rfl⟩ := hi
    exact ⟨by unfold maxLen; omega, u2, by rw [cell_of_row w g _ _ _ _ hg]; rfl, by rw [cell_of_row w g _ _ _ _ hg]; rfl, by rw [cell_of_row w g _ _ _ _ hg]; rfl, by rw [cell_of_row w g _ _ _ _ hg]; rfl, ha2⟩
  | i + 2, hi => simp at hi

set_option maxRecDepth 100000 in
set_option maxHeartbeats 6000000 in
theorem draw_step (d : Nat) (hd : d ≤ 5) (hI : ∀ d', d = d' + 1 → DrawAt d') : DrawAt d := by
  intro g B cv len w hcode hcur
  have hBl := hcur.lt
  have HC := Lib.hid (hcode.alloc hBl (.cells #[.int .i64 0, .int .i64 0, .string ⟨#[]⟩, .slice none 0 0] 26)); clear hcode
  have HU0 := Lib.hid (hcur.alloc (.cells #[.int .i64 0, .int .i64 0, .string ⟨#[]⟩, .slice none 0 0] 26)); clear hcur
  have HBZ : Hid (B < (boxZ w).heap.size) := Lib.hid (by simp; omega)
  have HG0 := Lib.hid (grown_refl (boxZ w) (some B))
  have HI := Lib.hid hI; clear hI
  go_enter Tryz.func53, Tryz.ntmps53
  by_cases hd2 : (d : Int) < 2
  · skip
    cases g with
    | true =>
      go_wp2_with fail
      refine (once_any B cv len 2 _ (by decide) (by decide) (HC.out.grown HBZ.out HG0.out) HU0.out).mono ?_
      rintro e w1 ⟨b1, rfl, hu1, hg1⟩
      have HU1 := Lib.hid hu1; clear hu1
      have HG1 := Lib.hid (grown_trans HG0.out hg1); clear hg1
      cases b1 with
      | true =>
        go_wp2_with fail
        refine (below_any B cv len 4 _ (by decide) (by decide) (HC.out.grown HBZ.out HG1.out) HU1.out).mono ?_
        rintro e w2 ⟨x2, rfl, hx2, hy2, hu2, hg2⟩
        have HU2 := Lib.hid hu2; clear hu2
        have HG2 := Lib.hid (grown_trans HG1.out hg2); clear hg2
        go_wp2_with fail
        refine (l3Word_any x2 _).mono ?_
        rintro e w3 ⟨rfl, hb3⟩
        have HU3 := Lib.hid (HU2.out.bel (hb3))
        have HG3 := Lib.hid (grown_trans HG2.out (Below.toGrown (hb3) (some B)))
        obtain ⟨⟨z0, z1, z2, z3⟩, y0, y1, y2, y3⟩ := boxZ_cells hBl HG3.out
        go_wp2
        (try simp only [Exit.inBlock, Exit.then])
        refine bodyPost_ret (v := tv 3 x2 ByteArray.empty (.slice none 0 0)) ?hr rfl ?_
        case hr =>
          rw [results_cell (a := 6) (t := 26) (ad := ⟨w.heap.size, 0, none⟩) rfl rfl]
          go_simp
        exact draw_fin hBl (by decide) (ArgsAt.nil _ _ _ _ _) (by simp) (xs := []) ⟨rfl, Or.inl ⟨rfl, rfl⟩⟩ (wT_leaf _ _ _ d (by decide)) HU3.out HG3.out ⟨_, rfl⟩ _ _ _ _
      | false =>
        have c4 := pick_any B w1.heap.size 2 cv len appTexts (w1.alloc (.cells (appTexts.map Value.string).toArray 9)) (by decide) (by decide) (by have := HU1.out.lt; omega) (new_strs w1 appTexts _) ((HC.out.grown HBZ.out HG1.out).alloc HU1.out.lt _) (HU1.out.alloc _)
        have HK4 := Lib.hid c4; clear c4
        go_wp2_with fail
        refine HK4.out.mono ?_
        rintro e w4 ⟨v4, hv4, rfl, hu4, hg4⟩
        obtain ⟨p4, hp4, rfl⟩ := List.mem_map.1 hv4
        have hps4 := appTexts_one p4 hp4
        clear hv4 hp4
        have HU4 := Lib.hid hu4; clear hu4
        have HG4 := Lib.hid (grown_trans HG1.out (grown_trans (World.grownBy_alloc w1 _ (some B)) hg4)); clear hg4 HK4
        go_wp2_with fail
        refine (l3App_any p4 _ _ _ _).mono ?_
        rintro e w5 ⟨rfl, hb5⟩
        have hba5 : Below w4.heap.size w4 w5 := ((Below.refl _ _).alloc (Nat.le_refl _) (.cells #[] 26)).trans (hb5.mono (by simp))
        have hzs5 : w.heap.size + 1 ≤ w4.heap.size := by have := HG4.out.size; simp at this; omega
        have ho5 := keep_own (World.ownsRow_lit (base := w.heap.size + 1) (size := 4) (e := 26) w4 #[] 0 hzs5 (by decide) rfl) hb5
        have HU5 := Lib.hid (HU4.out.bel (hba5))
        have HG5 := Lib.hid (grown_trans HG4.out (Below.toGrown (hba5) (some B)))
        obtain ⟨⟨z0, z1, z2, z3⟩, y0, y1, y2, y3⟩ := boxZ_cells hBl HG5.out
        go_wp2
        (try simp only [Exit.inBlock, Exit.then])
        refine bodyPost_ret (v := tv 2 0 p4 (.slice (some ⟨w4.heap.size, 0, none⟩) 0 0)) ?hr rfl ?_
        case hr =>
          rw [results_cell (a := 6) (t := 26) (ad := ⟨w.heap.size, 0, none⟩) rfl rfl]
          go_simp
        exact draw_fin hBl (by omega) (ArgsAt.nil _ _ _ _ _) (by simp) ho5 (wT_leaf _ _ _ d (by omega)) HU5.out HG5.out ⟨_, rfl⟩ _ _ _ _
    | false =>
      go_wp2_with fail
      refine (once_any B cv len 2 _ (by decide) (by decide) (HC.out.grown HBZ.out HG0.out) HU0.out).mono ?_
      rintro e w6 ⟨b6, rfl, hu6, hg6⟩
      have HU6 := Lib.hid hu6; clear hu6
      have HG6 := Lib.hid (grown_trans HG0.out hg6); clear hg6
      cases b6 with
      | true =>
        have c7 := pick_any B w6.heap.size 3 cv len varTexts (w6.alloc (.cells (varTexts.map Value.string).toArray 9)) (by decide) (by decide) (by have := HU6.out.lt; omega) (new_strs w6 varTexts _) ((HC.out.grown HBZ.out HG6.out).alloc HU6.out.lt _) (HU6.out.alloc _)
        have HK7 := Lib.hid c7; clear c7
        go_wp2_with fail
        refine HK7.out.mono ?_
        rintro e w7 ⟨v7, hv7, rfl, hu7, hg7⟩
        obtain ⟨p7, hp7, rfl⟩ := List.mem_map.1 hv7
        have hps7 := varTexts_one p7 hp7
        clear hv7 hp7
        have HU7 := Lib.hid hu7; clear hu7
        have HG7 := Lib.hid (grown_trans HG6.out (grown_trans (World.grownBy_alloc w6 _ (some B)) hg7)); clear hg7 HK7
        go_wp2_with fail
        refine (l3Var_any p7 _).mono ?_
        rintro e w8 ⟨rfl, hb8⟩
        have HU8 := Lib.hid (HU7.out.bel (hb8))
        have HG8 := Lib.hid (grown_trans HG7.out (Below.toGrown (hb8) (some B)))
        obtain ⟨⟨z0, z1, z2, z3⟩, y0, y1, y2, y3⟩ := boxZ_cells hBl HG8.out
        go_wp2
        (try simp only [Exit.inBlock, Exit.then])
        refine bodyPost_ret (v := tv 1 0 p7 (.slice none 0 0)) ?hr rfl ?_
        case hr =>
          rw [results_cell (a := 6) (t := 26) (ad := ⟨w.heap.size, 0, none⟩) rfl rfl]
          go_simp
        exact draw_fin hBl (by omega) (ArgsAt.nil _ _ _ _ _) (by simp) (xs := []) ⟨rfl, Or.inl ⟨rfl, rfl⟩⟩ (wT_leaf _ _ _ d (by omega)) HU8.out HG8.out ⟨_, rfl⟩ _ _ _ _
      | false =>
        go_wp2_with fail
        refine (once_any B cv len 2 _ (by decide) (by decide) (HC.out.grown HBZ.out HG6.out) HU6.out).mono ?_
        rintro e w9 ⟨b9, rfl, hu9, hg9⟩
        have HU9 := Lib.hid hu9; clear hu9
        have HG9 := Lib.hid (grown_trans HG6.out hg9); clear hg9
        cases b9 with
        | true =>
          go_wp2_with fail
          refine (below_any B cv len 4 _ (by decide) (by decide) (HC.out.grown HBZ.out HG9.out) HU9.out).mono ?_
          rintro e w10 ⟨x10, rfl, hx10, hy10, hu10, hg10⟩
          have HU10 := Lib.hid hu10; clear hu10
          have HG10 := Lib.hid (grown_trans HG9.out hg10); clear hg10
          go_wp2_with fail
          refine (l3Word_any x10 _).mono ?_
          rintro e w11 ⟨rfl, hb11⟩
          have HU11 := Lib.hid (HU10.out.bel (hb11))
          have HG11 := Lib.hid (grown_trans HG10.out (Below.toGrown (hb11) (some B)))
          obtain ⟨⟨z0, z1, z2, z3⟩, y0, y1, y2, y3⟩ := boxZ_cells hBl HG11.out
          go_wp2
          (try simp only [Exit.inBlock, Exit.then])
          refine bodyPost_ret (v := tv 3 x10 ByteArray.empty (.slice none 0 0)) ?hr rfl ?_
          case hr =>
            rw [results_cell (a := 6) (t := 26) (ad := ⟨w.heap.size, 0, none⟩) rfl rfl]
            go_simp
          exact draw_fin hBl (by decide) (ArgsAt.nil _ _ _ _ _) (by simp) (xs := []) ⟨rfl, Or.inl ⟨rfl, rfl⟩⟩ (wT_leaf _ _ _ d (by decide)) HU11.out HG11.out ⟨_, rfl⟩ _ _ _ _
        | false =>
          have c12 := pick_any B w9.heap.size 2 cv len appTexts (w9.alloc (.cells (appTexts.map Value.string).toArray 9)) (by decide) (by decide) (by have := HU9.out.lt; omega) (new_strs w9 appTexts _) ((HC.out.grown HBZ.out HG9.out).alloc HU9.out.lt _) (HU9.out.alloc _)
          have HK12 := Lib.hid c12; clear c12
          go_wp2_with fail
          refine HK12.out.mono ?_
          rintro e w12 ⟨v12, hv12, rfl, hu12, hg12⟩
          obtain ⟨p12, hp12, rfl⟩ := List.mem_map.1 hv12
          have hps12 := appTexts_one p12 hp12
          clear hv12 hp12
          have HU12 := Lib.hid hu12; clear hu12
          have HG12 := Lib.hid (grown_trans HG9.out (grown_trans (World.grownBy_alloc w9 _ (some B)) hg12)); clear hg12 HK12
          go_wp2_with fail
          refine (l3App_any p12 _ _ _ _).mono ?_
          rintro e w13 ⟨rfl, hb13⟩
          have hba13 : Below w12.heap.size w12 w13 := ((Below.refl _ _).alloc (Nat.le_refl _) (.cells #[] 26)).trans (hb13.mono (by simp))
          have hzs13 : w.heap.size + 1 ≤ w12.heap.size := by have := HG12.out.size; simp at this; omega
          have ho13 := keep_own (World.ownsRow_lit (base := w.heap.size + 1) (size := 4) (e := 26) w12 #[] 0 hzs13 (by decide) rfl) hb13
          have HU13 := Lib.hid (HU12.out.bel (hba13))
          have HG13 := Lib.hid (grown_trans HG12.out (Below.toGrown (hba13) (some B)))
          obtain ⟨⟨z0, z1, z2, z3⟩, y0, y1, y2, y3⟩ := boxZ_cells hBl HG13.out
          go_wp2
          (try simp only [Exit.inBlock, Exit.then])
          refine bodyPost_ret (v := tv 2 0 p12 (.slice (some ⟨w12.heap.size, 0, none⟩) 0 0)) ?hr rfl ?_
          case hr =>
            rw [results_cell (a := 6) (t := 26) (ad := ⟨w.heap.size, 0, none⟩) rfl rfl]
            go_simp
          exact draw_fin hBl (by omega) (ArgsAt.nil _ _ _ _ _) (by simp) ho13 (wT_leaf _ _ _ d (by omega)) HU13.out HG13.out ⟨_, rfl⟩ _ _ _ _
  · skip
    go_wp2_with fail
    refine (once_any B cv len 4 _ (by decide) (by decide) (HC.out.grown HBZ.out HG0.out) HU0.out).mono ?_
    rintro e w14 ⟨b14, rfl, hu14, hg14⟩
    have HU14 := Lib.hid hu14; clear hu14
    have HG14 := Lib.hid (grown_trans HG0.out hg14); clear hg14
    cases b14 with
    | true =>
      cases g with
      | true =>
        go_wp2_with fail
        refine (once_any B cv len 2 _ (by decide) (by decide) (HC.out.grown HBZ.out HG14.out) HU14.out).mono ?_
        rintro e w15 ⟨b15, rfl, hu15, hg15⟩
        have HU15 := Lib.hid hu15; clear hu15
        have HG15 := Lib.hid (grown_trans HG14.out hg15); clear hg15
        cases b15 with
        | true =>
          go_wp2_with fail
          refine (below_any B cv len 4 _ (by decide) (by decide) (HC.out.grown HBZ.out HG15.out) HU15.out).mono ?_
          rintro e w16 ⟨x16, rfl, hx16, hy16, hu16, hg16⟩
          have HU16 := Lib.hid hu16; clear hu16
          have HG16 := Lib.hid (grown_trans HG15.out hg16); clear hg16
          go_wp2_with fail
          refine (l3Word_any x16 _).mono ?_
          rintro e w17 ⟨rfl, hb17⟩
          have HU17 := Lib.hid (HU16.out.bel (hb17))
          have HG17 := Lib.hid (grown_trans HG16.out (Below.toGrown (hb17) (some B)))
          obtain ⟨⟨z0, z1, z2, z3⟩, y0, y1, y2, y3⟩ := boxZ_cells hBl HG17.out
          go_wp2
          (try simp only [Exit.inBlock, Exit.then])
          refine bodyPost_ret (v := tv 3 x16 ByteArray.empty (.slice none 0 0)) ?hr rfl ?_
          case hr =>
            rw [results_cell (a := 6) (t := 26) (ad := ⟨w.heap.size, 0, none⟩) rfl rfl]
            go_simp
          exact draw_fin hBl (by decide) (ArgsAt.nil _ _ _ _ _) (by simp) (xs := []) ⟨rfl, Or.inl ⟨rfl, rfl⟩⟩ (wT_leaf _ _ _ d (by decide)) HU17.out HG17.out ⟨_, rfl⟩ _ _ _ _
        | false =>
          have c18 := pick_any B w15.heap.size 2 cv len appTexts (w15.alloc (.cells (appTexts.map Value.string).toArray 9)) (by decide) (by decide) (by have := HU15.out.lt; omega) (new_strs w15 appTexts _) ((HC.out.grown HBZ.out HG15.out).alloc HU15.out.lt _) (HU15.out.alloc _)
          have HK18 := Lib.hid c18; clear c18
          go_wp2_with fail
          refine HK18.out.mono ?_
          rintro e w18 ⟨v18, hv18, rfl, hu18, hg18⟩
          obtain ⟨p18, hp18, rfl⟩ := List.mem_map.1 hv18
          have hps18 := appTexts_one p18 hp18
          clear hv18 hp18
          have HU18 := Lib.hid hu18; clear hu18
          have HG18 := Lib.hid (grown_trans HG15.out (grown_trans (World.grownBy_alloc w15 _ (some B)) hg18)); clear hg18 HK18
          go_wp2_with fail
          refine (l3App_any p18 _ _ _ _).mono ?_
          rintro e w19 ⟨rfl, hb19⟩
          have hba19 : Below w18.heap.size w18 w19 := ((Below.refl _ _).alloc (Nat.le_refl _) (.cells #[] 26)).trans (hb19.mono (by simp))
          have hzs19 : w.heap.size + 1 ≤ w18.heap.size := by have := HG18.out.size; simp at this; omega
          have ho19 := keep_own (World.ownsRow_lit (base := w.heap.size + 1) (size := 4) (e := 26) w18 #[] 0 hzs19 (by decide) rfl) hb19
          have HU19 := Lib.hid (HU18.out.bel (hba19))
          have HG19 := Lib.hid (grown_trans HG18.out (Below.toGrown (hba19) (some B)))
          obtain ⟨⟨z0, z1, z2, z3⟩, y0, y1, y2, y3⟩ := boxZ_cells hBl HG19.out
          go_wp2
          (try simp only [Exit.inBlock, Exit.then])
          refine bodyPost_ret (v := tv 2 0 p18 (.slice (some ⟨w18.heap.size, 0, none⟩) 0 0)) ?hr rfl ?_
          case hr =>
            rw [results_cell (a := 6) (t := 26) (ad := ⟨w.heap.size, 0, none⟩) rfl rfl]
            go_simp
          exact draw_fin hBl (by omega) (ArgsAt.nil _ _ _ _ _) (by simp) ho19 (wT_leaf _ _ _ d (by omega)) HU19.out HG19.out ⟨_, rfl⟩ _ _ _ _
      | false =>
        go_wp2_with fail
        refine (once_any B cv len 2 _ (by decide) (by decide) (HC.out.grown HBZ.out HG14.out) HU14.out).mono ?_
        rintro e w20 ⟨b20, rfl, hu20, hg20⟩
        have HU20 := Lib.hid hu20; clear hu20
        have HG20 := Lib.hid (grown_trans HG14.out hg20); clear hg20
        cases b20 with
        | true =>
          have c21 := pick_any B w20.heap.size 3 cv len varTexts (w20.alloc (.cells (varTexts.map Value.string).toArray 9)) (by decide) (by decide) (by have := HU20.out.lt; omega) (new_strs w20 varTexts _) ((HC.out.grown HBZ.out HG20.out).alloc HU20.out.lt _) (HU20.out.alloc _)
          have HK21 := Lib.hid c21; clear c21
          go_wp2_with fail
          refine HK21.out.mono ?_
          rintro e w21 ⟨v21, hv21, rfl, hu21, hg21⟩
          obtain ⟨p21, hp21, rfl⟩ := List.mem_map.1 hv21
          have hps21 := varTexts_one p21 hp21
          clear hv21 hp21
          have HU21 := Lib.hid hu21; clear hu21
          have HG21 := Lib.hid (grown_trans HG20.out (grown_trans (World.grownBy_alloc w20 _ (some B)) hg21)); clear hg21 HK21
          go_wp2_with fail
          refine (l3Var_any p21 _).mono ?_
          rintro e w22 ⟨rfl, hb22⟩
          have HU22 := Lib.hid (HU21.out.bel (hb22))
          have HG22 := Lib.hid (grown_trans HG21.out (Below.toGrown (hb22) (some B)))
          obtain ⟨⟨z0, z1, z2, z3⟩, y0, y1, y2, y3⟩ := boxZ_cells hBl HG22.out
          go_wp2
          (try simp only [Exit.inBlock, Exit.then])
          refine bodyPost_ret (v := tv 1 0 p21 (.slice none 0 0)) ?hr rfl ?_
          case hr =>
            rw [results_cell (a := 6) (t := 26) (ad := ⟨w.heap.size, 0, none⟩) rfl rfl]
            go_simp
          exact draw_fin hBl (by omega) (ArgsAt.nil _ _ _ _ _) (by simp) (xs := []) ⟨rfl, Or.inl ⟨rfl, rfl⟩⟩ (wT_leaf _ _ _ d (by omega)) HU22.out HG22.out ⟨_, rfl⟩ _ _ _ _
        | false =>
          go_wp2_with fail
          refine (once_any B cv len 2 _ (by decide) (by decide) (HC.out.grown HBZ.out HG20.out) HU20.out).mono ?_
          rintro e w23 ⟨b23, rfl, hu23, hg23⟩
          have HU23 := Lib.hid hu23; clear hu23
          have HG23 := Lib.hid (grown_trans HG20.out hg23); clear hg23
          cases b23 with
          | true =>
            go_wp2_with fail
            refine (below_any B cv len 4 _ (by decide) (by decide) (HC.out.grown HBZ.out HG23.out) HU23.out).mono ?_
            rintro e w24 ⟨x24, rfl, hx24, hy24, hu24, hg24⟩
            have HU24 := Lib.hid hu24; clear hu24
            have HG24 := Lib.hid (grown_trans HG23.out hg24); clear hg24
            go_wp2_with fail
            refine (l3Word_any x24 _).mono ?_
            rintro e w25 ⟨rfl, hb25⟩
            have HU25 := Lib.hid (HU24.out.bel (hb25))
            have HG25 := Lib.hid (grown_trans HG24.out (Below.toGrown (hb25) (some B)))
            obtain ⟨⟨z0, z1, z2, z3⟩, y0, y1, y2, y3⟩ := boxZ_cells hBl HG25.out
            go_wp2
            (try simp only [Exit.inBlock, Exit.then])
            refine bodyPost_ret (v := tv 3 x24 ByteArray.empty (.slice none 0 0)) ?hr rfl ?_
            case hr =>
              rw [results_cell (a := 6) (t := 26) (ad := ⟨w.heap.size, 0, none⟩) rfl rfl]
              go_simp
            exact draw_fin hBl (by decide) (ArgsAt.nil _ _ _ _ _) (by simp) (xs := []) ⟨rfl, Or.inl ⟨rfl, rfl⟩⟩ (wT_leaf _ _ _ d (by decide)) HU25.out HG25.out ⟨_, rfl⟩ _ _ _ _
          | false =>
            have c26 := pick_any B w23.heap.size 2 cv len appTexts (w23.alloc (.cells (appTexts.map Value.string).toArray 9)) (by decide) (by decide) (by have := HU23.out.lt; omega) (new_strs w23 appTexts _) ((HC.out.grown HBZ.out HG23.out).alloc HU23.out.lt _) (HU23.out.alloc _)
            have HK26 := Lib.hid c26; clear c26
            go_wp2_with fail
            refine HK26.out.mono ?_
            rintro e w26 ⟨v26, hv26, rfl, hu26, hg26⟩
            obtain ⟨p26, hp26, rfl⟩ := List.mem_map.1 hv26
            have hps26 := appTexts_one p26 hp26
            clear hv26 hp26
            have HU26 := Lib.hid hu26; clear hu26
            have HG26 := Lib.hid (grown_trans HG23.out (grown_trans (World.grownBy_alloc w23 _ (some B)) hg26)); clear hg26 HK26
            go_wp2_with fail
            refine (l3App_any p26 _ _ _ _).mono ?_
            rintro e w27 ⟨rfl, hb27⟩
            have hba27 : Below w26.heap.size w26 w27 := ((Below.refl _ _).alloc (Nat.le_refl _) (.cells #[] 26)).trans (hb27.mono (by simp))
            have hzs27 : w.heap.size + 1 ≤ w26.heap.size := by have := HG26.out.size; simp at this; omega
            have ho27 := keep_own (World.ownsRow_lit (base := w.heap.size + 1) (size := 4) (e := 26) w26 #[] 0 hzs27 (by decide) rfl) hb27
            have HU27 := Lib.hid (HU26.out.bel (hba27))
            have HG27 := Lib.hid (grown_trans HG26.out (Below.toGrown (hba27) (some B)))
            obtain ⟨⟨z0, z1, z2, z3⟩, y0, y1, y2, y3⟩ := boxZ_cells hBl HG27.out
            go_wp2
            (try simp only [Exit.inBlock, Exit.then])
            refine bodyPost_ret (v := tv 2 0 p26 (.slice (some ⟨w26.heap.size, 0, none⟩) 0 0)) ?hr rfl ?_
            case hr =>
              rw [results_cell (a := 6) (t := 26) (ad := ⟨w.heap.size, 0, none⟩) rfl rfl]
              go_simp
            exact draw_fin hBl (by omega) (ArgsAt.nil _ _ _ _ _) (by simp) ho27 (wT_leaf _ _ _ d (by omega)) HU27.out HG27.out ⟨_, rfl⟩ _ _ _ _
    | false =>
      obtain ⟨d', hdd⟩ : ∃ d', d = d' + 1 := ⟨d - 1, by omega⟩
      have HD := Lib.hid (HI.out d' hdd)
      go_wp2_with fail
      refine (once_any B cv len 3 _ (by decide) (by decide) (HC.out.grown HBZ.out HG14.out) HU14.out).mono ?_
      rintro e w28 ⟨b28, rfl, hu28, hg28⟩
      have HU28 := Lib.hid hu28; clear hu28
      have HG28 := Lib.hid (grown_trans HG14.out hg28); clear hg28
      cases b28 with
      | true =>
        go_wp2_with fail
        refine (HD.out g B cv len _ (HC.out.grown HBZ.out HG28.out) HU28.out).mono ?_
        rintro e w29 ⟨k29, n29, s29, u29, ts29, xs29, rfl, hs29, ha29, hl29, ho29, hw29, hu29, hg29, _⟩
        have HU29 := Lib.hid hu29; clear hu29
        have HG29 := Lib.hid (grown_trans HG28.out hg29); clear hg29 ho29
        obtain ⟨ua29, uc29, rfl⟩ := ha29.slice
        have HA29 := Lib.hid ha29; clear ha29
        go_wp2_with fail
        refine (l3One_any ⟨#[103]⟩ k29 n29 s29 _ _).mono ?_
        rintro e w30 ⟨g30, rfl, hgl30, hgr30, hb30⟩
        have hz28 : w.heap.size + 1 ≤ w28.heap.size := by have := HG28.out.size; simp at this; omega
        have hz29 : w.heap.size + 1 ≤ w29.heap.size := by have := HG29.out.size; simp at this; omega
        obtain ⟨hra, hro⟩ := row1_args hgr30 (lo := w.heap.size + 1) (by omega) hs29 ((HA29.out.below hb30).low hz28)
        have hwl : wT (.node 2 0 ⟨#[103]⟩ [.node k29 n29 s29 ts29]) + 3 ≤ 4 * 2 ^ d := by
          have h1 : 1 ≤ 2 ^ d' := Nat.one_le_two_pow
          have h2 : (⟨#[103]⟩ : ByteArray).size = 1 := rfl
          rw [hdd, Nat.pow_succ, wT_node, h2]
          simp only [wS, List.map_cons, List.map_nil, List.sum_cons, List.sum_nil, List.length_cons, List.length_nil]
          omega
        rw [← hdd] at hra
        clear hgr30 hz29
        have HU30 := Lib.hid (HU29.out.bel (hb30))
        have HG30 := Lib.hid (grown_trans HG29.out (Below.toGrown (hb30) (some B)))
        obtain ⟨⟨z0, z1, z2, z3⟩, y0, y1, y2, y3⟩ := boxZ_cells hBl HG30.out
        go_wp2
        (try simp only [Exit.inBlock, Exit.then])
        refine bodyPost_ret (v := tv 2 0 ⟨#[103]⟩ (.slice (some ⟨g30, 0, none⟩) 1 1)) ?hr rfl ?_
        case hr =>
          rw [results_cell (a := 6) (t := 26) (ad := ⟨w.heap.size, 0, none⟩) rfl rfl]
          go_simp
        exact draw_fin hBl (by decide) hra (by simp) hro hwl HU30.out HG30.out ⟨_, rfl⟩ _ _ _ _
      | false =>
        go_wp2_with fail
        refine (HD.out g B cv len _ (HC.out.grown HBZ.out HG28.out) HU28.out).mono ?_
        rintro e w31 ⟨k31, n31, s31, u31, ts31, xs31, rfl, hs31, ha31, hl31, ho31, hw31, hu31, hg31, _⟩
        have HU31 := Lib.hid hu31; clear hu31
        have HG31 := Lib.hid (grown_trans HG28.out hg31); clear hg31 ho31
        obtain ⟨ua31, uc31, rfl⟩ := ha31.slice
        have HA31 := Lib.hid ha31; clear ha31
        have HKP : Hid (∀ w', (boxed w31 k31 n31 s31 (.slice ua31 ts31.length uc31)).grownBy w' (some B) → (w'.cell? ⟨w31.heap.size, 0, none⟩ = some (.int .i64 k31) ∧ w'.cell? ⟨w31.heap.size, 1, none⟩ = some (.int .i64 n31) ∧ w'.cell? ⟨w31.heap.size, 2, none⟩ = some (.string s31) ∧ w'.cell? ⟨w31.heap.size, 3, none⟩ = some (.slice ua31 ts31.length uc31))) := Lib.hid (fun w' hg => by
          obtain ⟨c0, c1, c2, c3⟩ := boxed_cells (Below.refl (boxed w31 k31 n31 s31 (.slice ua31 ts31.length uc31)).heap.size (boxed w31 k31 n31 s31 (.slice ua31 ts31.length uc31)))
          have hne : (some w31.heap.size : Option Nat) ≠ some B := fun e => by cases e; exact absurd HU31.out.lt (by omega)
          exact ⟨hg.cell c0 hne, hg.cell c1 hne, hg.cell c2 hne, hg.cell c3 hne⟩)
        have HCX := Lib.hid ((HC.out.grown HBZ.out HG31.out).alloc HU31.out.lt (.cells #[.int .i64 k31, .int .i64 n31, .string s31, .slice ua31 ts31.length uc31] 26))
        have HUX := Lib.hid (HU31.out.alloc (.cells #[.int .i64 k31, .int .i64 n31, .string s31, .slice ua31 ts31.length uc31] 26))
        have HBX : Hid (B < (boxed w31 k31 n31 s31 (.slice ua31 ts31.length uc31)).heap.size) := Lib.hid (by have := HU31.out.lt; simp; omega)
        have HGX : Hid ((boxZ w).grownBy (boxed w31 k31 n31 s31 (.slice ua31 ts31.length uc31)) (some B)) := Lib.hid (grown_trans HG31.out (World.grownBy_alloc w31 _ (some B)))
        obtain ⟨p0, p1, p2, p3⟩ := HKP.out _ (grown_refl _ _)
        have hgY : (boxed w31 k31 n31 s31 (.slice ua31 ts31.length uc31)).grownBy ((boxed w31 k31 n31 s31 (.slice ua31 ts31.length uc31)).alloc (.cells (pairTexts.map Value.string).toArray 9)) (some B) := World.grownBy_alloc _ _ _
        obtain ⟨q0, q1, q2, q3⟩ := HKP.out _ hgY
        have hgYd : (boxed w31 k31 n31 s31 (.slice ua31 ts31.length uc31)).grownBy ((boxed w31 k31 n31 s31 (.slice ua31 ts31.length uc31)).alloc (.cells (pairTexts.map Value.string).toArray 9)).drew (some B) := gr_drew hgY
        have HGY := Lib.hid hgYd; clear hgYd hgY
        have hpick := fun (W : World) (hW : W = ((boxed w31 k31 n31 s31 (.slice ua31 ts31.length uc31)).alloc (.cells (pairTexts.map Value.string).toArray 9)).drew) => pick_any B (w31.heap.size + 1) 3 cv len pairTexts W (by decide) (by decide) (by have := HU31.out.lt; omega) (fun i p h => by
          rw [hW]
          have e : (boxed w31 k31 n31 s31 (.slice ua31 ts31.length uc31)).heap.size = w31.heap.size + 1 := by simp
          have := new_strs (boxed w31 k31 n31 s31 (.slice ua31 ts31.length uc31)) pairTexts 9 i p h
          rw [e] at this
          exact this) (by rw [hW]; exact HCX.out.grown HBX.out HGY.out) (by rw [hW]; exact cu_drew (HUX.out.alloc _))
        have HPK := Lib.hid hpick; clear hpick
        have hzX : w.heap.size + 1 ≤ w31.heap.size := by have := HG31.out.size; simp at this; omega
        have hzJ : w.heap.size + 1 ≤ w28.heap.size := by have := HG28.out.size; simp at this; omega
        have HHA := HA31
        have hwr := wrap_small d' (by omega)
        have HZJ := Lib.hid (And.intro hzX hzJ); clear hzX hzJ
        go_wp2
        go_region_with (first
            | (go_at_call 50; refine (HPK.out _ rfl).mono ?_; rintro e w32 ⟨v32, hv32, rfl, hu32, hg32⟩; obtain ⟨p32, hp32, rfl⟩ := List.mem_map.1 hv32; have HPS := Lib.hid (pairTexts_one p32 hp32); have HU32 := Lib.hid hu32; have HG32 := Lib.hid (grown_trans HGY.out hg32); clear hv32 hp32 hu32 hg32; obtain ⟨a0, a1, a2, a3⟩ := HKP.out _ HG32.out)
            | (go_at_call 53; (try rw [hwr]); refine (HD.out g B cv len _ (HCX.out.grown HBX.out HG32.out) HU32.out).mono ?_; rintro e w33 ⟨k33, n33, s33, u33, ts33, xs33, rfl, hs33, ha33, hl33, ho33, hw33, hu33, hg33, _⟩; have HU33 := Lib.hid hu33; have HG33 := Lib.hid (grown_trans HG32.out hg33); obtain ⟨ua33, uc33, rfl⟩ := ha33.slice; have HA33 := Lib.hid ha33; have HW33 := Lib.hid (And.intro hs33 hw33); clear hu33 hg33 ha33 ho33 hl33 hs33 hw33; obtain ⟨b0, b1, b2, b3⟩ := HKP.out _ HG33.out)
            | (go_at_call 84; refine (l3Pair_any p32 k31 n31 s31 _ k33 n33 s33 _ _).mono ?_; rintro e w34 ⟨g34, rfl, hgl34, hgr34, hb34⟩; have HG34 := Lib.hid (grown_trans (grown_trans HGX.out HG33.out) (Below.toGrown hb34 (some B))); have HGR := Lib.hid (And.intro hgl34 hgr34); have HB34 := Lib.hid hb34; clear hgl34 hgr34 hb34; obtain ⟨⟨z0, z1, z2, z3⟩, y0, y1, y2, y3⟩ := boxZ_cells hBl HG34.out))
        all_goals
          have HFIN : Hid (∀ v0 v1 v2 v3 : Value, DrawnT d B cv len w (.returned (tv 2 0 p32 (.slice (some ⟨g34, 0, none⟩) 2 2))) ((((w34.setCell ⟨w.heap.size, 0, none⟩ v0).setCell ⟨w.heap.size, 1, none⟩ v1).setCell ⟨w.heap.size, 2, none⟩ v2).setCell ⟨w.heap.size, 3, none⟩ v3)) := Lib.hid (by
            obtain ⟨hzX, hzJ⟩ := HZJ.out
            have hsz32 := HG32.out.size
            have hsz33 := HG33.out.size
            have hsX : (boxed w31 k31 n31 s31 (.slice ua31 ts31.length uc31)).heap.size = w31.heap.size + 1 := by simp
            have hBj := HU28.out.lt
            have hgl := HGR.out.1
            have hg14 : w31.grownBy w34 (some B) := grown_trans (grown_trans (World.grownBy_alloc w31 _ (some B)) HG33.out) (Below.toGrown HB34.out (some B))
            obtain ⟨hra, hro⟩ := row2_args HGR.out.2 (lo := w.heap.size + 1) (by omega) hs31 ((HHA.out.grown hg14 (fun j e => by cases e; omega)).low hzJ) HW33.out.1 ((HA33.out.below HB34.out).low (by omega))
            have hp := HPS.out
            have hw33 := HW33.out.2
            have hwl : wT (.node 2 0 p32 [.node k31 n31 s31 ts31, .node k33 n33 s33 ts33]) + 3 ≤ 4 * 2 ^ d := by
              rw [hdd, Nat.pow_succ, wT_node, hp]
              simp only [wS, List.map_cons, List.map_nil, List.sum_cons, List.sum_nil, List.length_cons, List.length_nil]
              omega
            rw [← hdd] at hra
            intro v0 v1 v2 v3
            exact draw_fin hBl (by omega) hra (by simp) hro hwl (HU33.out.bel HB34.out) HG34.out ⟨_, rfl⟩ v0 v1 v2 v3)
          go_wp2
          (try simp only [Exit.inBlock, Exit.then])
          refine bodyPost_ret (v := tv 2 0 p32 (.slice (some ⟨g34, 0, none⟩) 2 2)) ?_ rfl ?_
          · rw [results_cell (a := 6) (t := 26) (ad := ⟨w.heap.size, 0, none⟩) rfl rfl]
            go_simp
          · exact HFIN.out _ _ _ _

theorem draw_any : ∀ d, d ≤ 5 → DrawAt d
  | 0, _ => draw_step 0 (by omega) (fun d' e => by omega)
  | d + 1, h => draw_step (d + 1) h (fun d' e => by cases e; exact draw_any d (by omega))
end Go.Proofs.YtidbokheeieifaaGreatDoor
