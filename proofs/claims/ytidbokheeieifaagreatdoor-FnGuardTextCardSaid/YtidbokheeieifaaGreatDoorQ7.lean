/-
  The draws of terms by their sorts: spec.l6Term.
-/
import Derived.Test.YtidbokheeieifaaGreatDoorQ6
namespace Go.Proofs.YtidbokheeieifaaGreatDoor
open Go.RowKit

/-- A drawn term: what it holds, how heavy it is, and how far the cursor came. -/
def DrawnS (X B : Nat) (cv : Value) (len : Nat) (w : World) (e : Ending) (w' : World) : Prop :=
  ∃ (k n : Int) (s : ByteArray) (u : Value) (ts : List T) (h : Nat), e = .returned (tv k n s u) ∧ s.size ≤ 1000 ∧ ArgsAt w' w.heap.size h u ts ∧ wT (.node k n s ts) + 7 ≤ X ∧ CurAt w' B cv len ∧ w.grownBy w' (some B)
def DrawS (st : ByteArray) (d : Nat) : Prop := ∀ (g : Bool) (B : Nat) (cv : Value) (len : Nat) (w : World), CodeAt w B cv len → CurAt w B cv len →
  Calls Tryz.prog 52 #[.pointer (some ⟨B, 0, none⟩), .string st, .int .i64 d, .bool g] w (DrawnS (16 * 2 ^ d) B cv len w)
abbrev sWord : ByteArray := ⟨#[119, 111, 114, 100]⟩
abbrev sE : ByteArray := ⟨#[101]⟩
abbrev sNum : ByteArray := ⟨#[110, 117, 109]⟩

theorem drawS_fin {X B : Nat} {cv : Value} {len : Nat} {w w' : World} {k n : Int} {s : ByteArray} {u : Value} {ts : List T} {h : Nat} (hB : B < w.heap.size) (hs : s.size ≤ 1000) (ha : ArgsAt w' (w.heap.size + 1) h u ts)
    (hw : wT (.node k n s ts) + 7 ≤ X) (hu : CurAt w' B cv len) (hg : (boxZ w).grownBy w' (some B)) (v0 v1 v2 v3 : Value) :
    DrawnS X B cv len w (.returned (tv k n s u)) ((((w'.setCell ⟨w.heap.size, 0, none⟩ v0).setCell ⟨w.heap.size, 1, none⟩ v1).setCell ⟨w.heap.size, 2, none⟩ v2).setCell ⟨w.heap.size, 3, none⟩ v3) := by
  have hlt : ∀ j, some w.heap.size = some j → j < w.heap.size + 1 := fun j e => by cases e; omega
  have hg4 : w'.grownBy ((((w'.setCell ⟨w.heap.size, 0, none⟩ v0).setCell ⟨w.heap.size, 1, none⟩ v1).setCell ⟨w.heap.size, 2, none⟩ v2).setCell ⟨w.heap.size, 3, none⟩ v3) (some w.heap.size) :=
    grown_trans (grown_trans (grown_trans (set_grown _ _ _ _) (set_grown _ _ _ _)) (set_grown _ _ _ _)) (set_grown _ _ _ _)
  refine ⟨k, n, s, u, ts, h, rfl, hs, ArgsAt.low (by omega) (ha.grown hg4 hlt), hw, ?_, ?_⟩
  · have hl := hu.lt
    obtain ⟨i, x, hi, hB2⟩ := hu
    exact ⟨i, x, hi, by rw [hg4.block B hl (fun e => by cases e; omega)]; exact hB2⟩
  · have h1 := grown_trans (World.grownBy_alloc w (.cells #[.int .i64 0, .int .i64 0, .string ⟨#[]⟩, .slice none 0 0] 26) (some B)) hg
    exact ⟨hg4.os.trans h1.os, hg4.tape.trans h1.tape, hg4.output.trans h1.output, Nat.le_trans h1.size hg4.size, fun i hi hr => (hg4.block i (Nat.lt_of_lt_of_le hi h1.size) (fun e => by cases e; omega)).trans (h1.block i hi hr)⟩

def wvTexts : List ByteArray := [⟨#[78]⟩, ⟨#[77]⟩]
def opTexts : List ByteArray := [⟨#[112, 108, 117, 115]⟩, ⟨#[109, 105, 110, 117, 115]⟩, ⟨#[116, 105, 109, 101, 115]⟩]
def xyTexts : List ByteArray := [⟨#[88]⟩, ⟨#[89]⟩]
def abTexts : List ByteArray := [⟨#[97]⟩, ⟨#[98]⟩]
theorem wvTexts_one : ∀ p ∈ wvTexts, p.size ≤ 5 := by unfold wvTexts; intro p hp; simp only [List.mem_cons, List.mem_nil_iff, or_false] at hp; rcases hp with rfl | rfl <;> decide
theorem opTexts_one : ∀ p ∈ opTexts, p.size ≤ 5 := by unfold opTexts; intro p hp; simp only [List.mem_cons, List.mem_nil_iff, or_false] at hp; rcases hp with rfl | rfl | rfl <;> decide
theorem xyTexts_one : ∀ p ∈ xyTexts, p.size ≤ 5 := by unfold xyTexts; intro p hp; simp only [List.mem_cons, List.mem_nil_iff, or_false] at hp; rcases hp with rfl | rfl <;> decide
theorem abTexts_one : ∀ p ∈ abTexts, p.size ≤ 5 := by unfold abTexts; intro p hp; simp only [List.mem_cons, List.mem_nil_iff, or_false] at hp; rcases hp with rfl | rfl <;> decide
theorem wS_leaf (k n : Int) (s : ByteArray) (d : Nat) (h : s.size ≤ 5) : wT (.node k n s []) + 7 ≤ 16 * 2 ^ d := by
  have : 1 ≤ 2 ^ d := Nat.one_le_two_pow
  rw [wT_node]; simp [wS]; omega
theorem wS_one {k n k1 n1 : Int} {s s1 : ByteArray} {ts1 : List T} {d : Nat} (h : s.size ≤ 5) (h1 : wT (.node k1 n1 s1 ts1) + 7 ≤ 16 * 2 ^ d) : wT (.node k n s [.node k1 n1 s1 ts1]) + 7 ≤ 16 * 2 ^ (d + 1) := by
  have : 1 ≤ 2 ^ d := Nat.one_le_two_pow
  rw [wT_node, Nat.pow_succ]
  simp only [wS, List.map_cons, List.map_nil, List.sum_cons, List.sum_nil, List.length_cons, List.length_nil]
  omega
theorem wS_num {k n k1 n1 : Int} {s s1 : ByteArray} {ts1 : List T} {d : Nat} (h : s.size ≤ 3) (h1 : wT (.node k1 n1 s1 ts1) ≤ 5) : wT (.node k n s [.node k1 n1 s1 ts1]) + 7 ≤ 16 * 2 ^ d := by
  have : 1 ≤ 2 ^ d := Nat.one_le_two_pow
  rw [wT_node]
  simp only [wS, List.map_cons, List.map_nil, List.sum_cons, List.sum_nil, List.length_cons, List.length_nil]
  omega
theorem wS_two {k n k1 n1 k2 n2 : Int} {s s1 s2 : ByteArray} {ts1 ts2 : List T} {d : Nat} (h : s.size ≤ 5) (h1 : wT (.node k1 n1 s1 ts1) + 7 ≤ 16 * 2 ^ d) (h2 : wT (.node k2 n2 s2 ts2) + 7 ≤ 16 * 2 ^ d) : wT (.node k n s [.node k1 n1 s1 ts1, .node k2 n2 s2 ts2]) + 7 ≤ 16 * 2 ^ (d + 1) := by
  have : 1 ≤ 2 ^ d := Nat.one_le_two_pow
  rw [wT_node, Nat.pow_succ]
  simp only [wS, List.map_cons, List.map_nil, List.sum_cons, List.sum_nil, List.length_cons, List.length_nil]
  omega
/-- A drawn word without arguments, of depth at most one. -/
def DrawS1 : Prop := ∀ (g : Bool) (B : Nat) (cv : Value) (len : Nat) (w : World), CodeAt w B cv len → CurAt w B cv len →
  Calls Tryz.prog 52 #[.pointer (some ⟨B, 0, none⟩), .string sWord, .int .i64 1, .bool g] w (DrawnS 12 B cv len w)

/-! ### words -/
set_option maxRecDepth 100000 in
set_option maxHeartbeats 6000000 in
theorem drawW_step (d : Nat) (hd : d ≤ 5) (hI : ∀ d', d = d' + 1 → DrawS sWord d') : DrawS sWord d := by
  intro g B cv len w hcode hcur
  have hBl := hcur.lt
  have HC := Lib.hid (hcode.alloc hBl (.cells #[.int .i64 0, .int .i64 0, .string ⟨#[]⟩, .slice none 0 0] 26)); clear hcode
  have HU0 := Lib.hid (hcur.alloc (.cells #[.int .i64 0, .int .i64 0, .string ⟨#[]⟩, .slice none 0 0] 26)); clear hcur
  have HBZ : Hid (B < (boxZ w).heap.size) := Lib.hid (by simp; omega)
  have HG0 := Lib.hid (grown_refl (boxZ w) (some B))
  have HI := Lib.hid hI; clear hI
  go_enter Tryz.func52, Tryz.ntmps52
  cases g with
  | true =>
    by_cases hd2 : (1 : Int) < (d : Int)
    · skip
      go_wp2_with fail
      refine (once_any B cv len 3 _ (by decide) (by decide) (HC.out.grown HBZ.out HG0.out) HU0.out).mono ?_
      rintro e w1 ⟨b1, rfl, hu1, hg1⟩
      have HU1 := Lib.hid hu1; clear hu1
      have HG1 := Lib.hid (grown_trans HG0.out hg1); clear hg1
      cases b1 with
      | true =>
        obtain ⟨d', hdd⟩ : ∃ d', d = d' + 1 := ⟨d - 1, by omega⟩
        have HD := Lib.hid (HI.out d' hdd)
        have hwr0 := wrap_small d' (by omega)
        go_wp2_with fail
        refine (HD.out true B cv len _ (HC.out.grown HBZ.out HG1.out) HU1.out).mono ?_
        rintro e w2 ⟨k2, n2, s2, u2, ts2, h2, rfl, hs2, ha2, hw2, hu2, hg2⟩
        have HU2 := Lib.hid hu2; clear hu2
        have HG2 := Lib.hid (grown_trans HG1.out hg2); clear hg2
        obtain ⟨ua2, uc2, rfl⟩ := ha2.slice
        have HA2 := Lib.hid ha2; clear ha2
        have HKP : Hid (∀ w', (boxed w2 k2 n2 s2 (.slice ua2 ts2.length uc2)).grownBy w' (some B) → (w'.cell? ⟨w2.heap.size, 0, none⟩ = some (.int .i64 k2) ∧ w'.cell? ⟨w2.heap.size, 1, none⟩ = some (.int .i64 n2) ∧ w'.cell? ⟨w2.heap.size, 2, none⟩ = some (.string s2) ∧ w'.cell? ⟨w2.heap.size, 3, none⟩ = some (.slice ua2 ts2.length uc2))) := Lib.hid (fun w' hg => by
          obtain ⟨c0, c1, c2, c3⟩ := boxed_cells (Below.refl (boxed w2 k2 n2 s2 (.slice ua2 ts2.length uc2)).heap.size (boxed w2 k2 n2 s2 (.slice ua2 ts2.length uc2)))
          have hne : (some w2.heap.size : Option Nat) ≠ some B := fun e => by cases e; exact absurd HU2.out.lt (by omega)
          exact ⟨hg.cell c0 hne, hg.cell c1 hne, hg.cell c2 hne, hg.cell c3 hne⟩)
        have HCX := Lib.hid ((HC.out.grown HBZ.out HG2.out).alloc HU2.out.lt (.cells #[.int .i64 k2, .int .i64 n2, .string s2, .slice ua2 ts2.length uc2] 26))
        have HUX := Lib.hid (HU2.out.alloc (.cells #[.int .i64 k2, .int .i64 n2, .string s2, .slice ua2 ts2.length uc2] 26))
        have HBX : Hid (B < (boxed w2 k2 n2 s2 (.slice ua2 ts2.length uc2)).heap.size) := Lib.hid (by have := HU2.out.lt; simp; omega)
        have HGX : Hid ((boxZ w).grownBy (boxed w2 k2 n2 s2 (.slice ua2 ts2.length uc2)) (some B)) := Lib.hid (grown_trans HG2.out (World.grownBy_alloc w2 _ (some B)))
        obtain ⟨p0, p1, p2, p3⟩ := HKP.out _ (grown_refl _ _)
        have hgY : (boxed w2 k2 n2 s2 (.slice ua2 ts2.length uc2)).grownBy ((boxed w2 k2 n2 s2 (.slice ua2 ts2.length uc2)).alloc (.cells (opTexts.map Value.string).toArray 9)) (some B) := World.grownBy_alloc _ _ _
        obtain ⟨q0, q1, q2, q3⟩ := HKP.out _ hgY
        have hgYd : (boxed w2 k2 n2 s2 (.slice ua2 ts2.length uc2)).grownBy ((boxed w2 k2 n2 s2 (.slice ua2 ts2.length uc2)).alloc (.cells (opTexts.map Value.string).toArray 9)).drew (some B) := gr_drew hgY
        have HGY := Lib.hid hgYd; clear hgYd hgY
        have hpick := fun (W : World) (hW : W = ((boxed w2 k2 n2 s2 (.slice ua2 ts2.length uc2)).alloc (.cells (opTexts.map Value.string).toArray 9)).drew) => pick_any B (w2.heap.size + 1) 3 cv len opTexts W (by decide) (by decide) (by have := HU2.out.lt; omega) (fun i p h => by
          rw [hW]
          have e : (boxed w2 k2 n2 s2 (.slice ua2 ts2.length uc2)).heap.size = w2.heap.size + 1 := by simp
          have := new_strs (boxed w2 k2 n2 s2 (.slice ua2 ts2.length uc2)) opTexts 9 i p h
          rw [e] at this
          exact this) (by rw [hW]; exact HCX.out.grown HBX.out HGY.out) (by rw [hW]; exact cu_drew (HUX.out.alloc _))
        have HPK := Lib.hid hpick; clear hpick
        have hzX : w.heap.size + 1 ≤ w2.heap.size := by have := HG2.out.size; simp at this; omega
        have hzJ : w.heap.size + 1 ≤ w1.heap.size := by have := HG1.out.size; simp at this; omega
        have HHA := HA2
        have hwr := wrap_small d' (by omega)
        have HZJ := Lib.hid (And.intro hzX hzJ); clear hzX hzJ
        go_wp2
        go_region_with (first
            | (go_at_call 50; refine (HPK.out _ rfl).mono ?_; rintro e w32 ⟨v32, hv32, rfl, hu32, hg32⟩; obtain ⟨p32, hp32, rfl⟩ := List.mem_map.1 hv32; have HPS := Lib.hid (opTexts_one p32 hp32); have HU32 := Lib.hid hu32; have HG32 := Lib.hid (grown_trans HGY.out hg32); clear hv32 hp32 hu32 hg32; obtain ⟨r0, r1, r2, r3⟩ := HKP.out _ HG32.out)
            | (go_at_call 52; (try rw [hwr]); refine (HD.out true B cv len _ (HCX.out.grown HBX.out HG32.out) HU32.out).mono ?_; rintro e w33 ⟨k33, n33, s33, u33, ts33, h33, rfl, hs33, ha33, hw33, hu33, hg33⟩; have HU33 := Lib.hid hu33; have HG33 := Lib.hid (grown_trans HG32.out hg33); have HW33 := Lib.hid (And.intro hs33 hw33); obtain ⟨ua33, uc33, rfl⟩ := ha33.slice; have HA33 := Lib.hid ha33; clear hs33 hw33 hu33 hg33 ha33; obtain ⟨x0, x1, x2, x3⟩ := HKP.out _ HG33.out)
            | (go_at_call 84; refine (l3Pair_any p32 k2 n2 s2 _ k33 n33 s33 _ _).mono ?_; rintro e w34 ⟨g34, rfl, hgl34, hgr34, hb34⟩; have HG34 := Lib.hid (grown_trans (grown_trans HGX.out HG33.out) (Below.toGrown hb34 (some B))); have HGR := Lib.hid (And.intro hgl34 hgr34); have HB34 := Lib.hid hb34; clear hgl34 hgr34 hb34; obtain ⟨⟨z0, z1, z2, z3⟩, y0, y1, y2, y3⟩ := boxZ_cells hBl HG34.out))
        all_goals
          have HFIN : Hid (∀ v0 v1 v2 v3 : Value, DrawnS (16 * 2 ^ d) B cv len w (.returned (tv 2 0 p32 (.slice (some ⟨g34, 0, none⟩) 2 2))) ((((w34.setCell ⟨w.heap.size, 0, none⟩ v0).setCell ⟨w.heap.size, 1, none⟩ v1).setCell ⟨w.heap.size, 2, none⟩ v2).setCell ⟨w.heap.size, 3, none⟩ v3)) := Lib.hid (by
            obtain ⟨hzX, hzJ⟩ := HZJ.out
            have hsz32 := HG32.out.size
            have hsz33 := HG33.out.size
            have hsX : (boxed w2 k2 n2 s2 (.slice ua2 ts2.length uc2)).heap.size = w2.heap.size + 1 := by simp
            have hBj := HU1.out.lt
            have hgl := HGR.out.1
            (try simp only [World.drew] at hsz32)
            have hg14 : w2.grownBy w34 (some B) := grown_trans (grown_trans (World.grownBy_alloc w2 _ (some B)) HG33.out) (Below.toGrown HB34.out (some B))
            obtain ⟨hra, hro⟩ := row2_args HGR.out.2 (lo := w.heap.size + 1) (by omega) hs2 (((HHA.out.grown hg14 (fun j e => by cases e; omega)).low hzJ).le (Nat.le_max_left h2 h33)) HW33.out.1 (((HA33.out.below HB34.out).low (by omega)).le (Nat.le_max_right h2 h33))
            have hw33 := HW33.out.2
            intro v0 v1 v2 v3
            exact drawS_fin hBl (by have := HPS.out; omega) hra (by rw [hdd]; exact wS_two (by exact HPS.out) hw2 hw33) (HU33.out.bel HB34.out) HG34.out v0 v1 v2 v3)
          go_wp2
          (try simp only [Exit.inBlock, Exit.then])
          refine bodyPost_ret (v := tv 2 0 p32 (.slice (some ⟨g34, 0, none⟩) 2 2)) ?_ rfl ?_
          · rw [results_cell (a := 8) (t := 26) (ad := ⟨w.heap.size, 0, none⟩) rfl rfl]
            go_simp
          · exact HFIN.out _ _ _ _
      | false =>
        go_wp2_with fail
        refine (below_any B cv len 4 _ (by decide) (by decide) (HC.out.grown HBZ.out HG1.out) HU1.out).mono ?_
        rintro e w3 ⟨x3, rfl, hx3, hy3, hu3, hg3⟩
        have HU3 := Lib.hid hu3; clear hu3
        have HG3 := Lib.hid (grown_trans HG1.out hg3); clear hg3
        go_wp2_with fail
        refine (l3Word_any x3 _).mono ?_
        rintro e w4 ⟨rfl, hb4⟩
        have HU4 := Lib.hid (HU3.out.bel (hb4))
        have HG4 := Lib.hid (grown_trans HG3.out (Below.toGrown (hb4) (some B)))
        obtain ⟨⟨z0, z1, z2, z3⟩, y0, y1, y2, y3⟩ := boxZ_cells hBl HG4.out
        go_wp2
        (try simp only [Exit.inBlock, Exit.then])
        refine bodyPost_ret (v := tv 3 x3 ByteArray.empty (.slice none 0 0)) ?hr rfl ?_
        case hr =>
          rw [results_cell (a := 8) (t := 26) (ad := ⟨w.heap.size, 0, none⟩) rfl rfl]
          go_simp
        exact drawS_fin hBl (by decide) (ArgsAt.nil _ _ 0 _ _) (wS_leaf _ _ _ d (by decide)) HU4.out HG4.out _ _ _ _
    · skip
      go_wp2_with fail
      refine (below_any B cv len 4 _ (by decide) (by decide) (HC.out.grown HBZ.out HG0.out) HU0.out).mono ?_
      rintro e w5 ⟨x5, rfl, hx5, hy5, hu5, hg5⟩
      have HU5 := Lib.hid hu5; clear hu5
      have HG5 := Lib.hid (grown_trans HG0.out hg5); clear hg5
      go_wp2_with fail
      refine (l3Word_any x5 _).mono ?_
      rintro e w6 ⟨rfl, hb6⟩
      have HU6 := Lib.hid (HU5.out.bel (hb6))
      have HG6 := Lib.hid (grown_trans HG5.out (Below.toGrown (hb6) (some B)))
      obtain ⟨⟨z0, z1, z2, z3⟩, y0, y1, y2, y3⟩ := boxZ_cells hBl HG6.out
      go_wp2
      (try simp only [Exit.inBlock, Exit.then])
      refine bodyPost_ret (v := tv 3 x5 ByteArray.empty (.slice none 0 0)) ?hr rfl ?_
      case hr =>
        rw [results_cell (a := 8) (t := 26) (ad := ⟨w.heap.size, 0, none⟩) rfl rfl]
        go_simp
      exact drawS_fin hBl (by decide) (ArgsAt.nil _ _ 0 _ _) (wS_leaf _ _ _ d (by decide)) HU6.out HG6.out _ _ _ _
  | false =>
    go_wp2_with fail
    refine (once_any B cv len 2 _ (by decide) (by decide) (HC.out.grown HBZ.out HG0.out) HU0.out).mono ?_
    rintro e w7 ⟨b7, rfl, hu7, hg7⟩
    have HU7 := Lib.hid hu7; clear hu7
    have HG7 := Lib.hid (grown_trans HG0.out hg7); clear hg7
    cases b7 with
    | true =>
      have c8 := pick_any B w7.heap.size 2 cv len wvTexts (w7.alloc (.cells (wvTexts.map Value.string).toArray 9)) (by decide) (by decide) (by have := HU7.out.lt; omega) (new_strs w7 wvTexts _) ((HC.out.grown HBZ.out HG7.out).alloc HU7.out.lt _) (HU7.out.alloc _)
      have HK8 := Lib.hid c8; clear c8
      go_wp2_with fail
      refine HK8.out.mono ?_
      rintro e w8 ⟨v8, hv8, rfl, hu8, hg8⟩
      obtain ⟨p8, hp8, rfl⟩ := List.mem_map.1 hv8
      have hps8 := wvTexts_one p8 hp8
      clear hv8 hp8
      have HU8 := Lib.hid hu8; clear hu8
      have HG8 := Lib.hid (grown_trans HG7.out (grown_trans (World.grownBy_alloc w7 _ (some B)) hg8)); clear hg8 HK8
      go_wp2_with fail
      refine (l3Var_any p8 _).mono ?_
      rintro e w9 ⟨rfl, hb9⟩
      have HU9 := Lib.hid (HU8.out.bel (hb9))
      have HG9 := Lib.hid (grown_trans HG8.out (Below.toGrown (hb9) (some B)))
      obtain ⟨⟨z0, z1, z2, z3⟩, y0, y1, y2, y3⟩ := boxZ_cells hBl HG9.out
      go_wp2
      (try simp only [Exit.inBlock, Exit.then])
      refine bodyPost_ret (v := tv 1 0 p8 (.slice none 0 0)) ?hr rfl ?_
      case hr =>
        rw [results_cell (a := 8) (t := 26) (ad := ⟨w.heap.size, 0, none⟩) rfl rfl]
        go_simp
      exact drawS_fin hBl (by omega) (ArgsAt.nil _ _ 0 _ _) (wS_leaf _ _ _ d (by omega)) HU9.out HG9.out _ _ _ _
    | false =>
      by_cases hd2 : (1 : Int) < (d : Int)
      · skip
        go_wp2_with fail
        refine (once_any B cv len 3 _ (by decide) (by decide) (HC.out.grown HBZ.out HG7.out) HU7.out).mono ?_
        rintro e w10 ⟨b10, rfl, hu10, hg10⟩
        have HU10 := Lib.hid hu10; clear hu10
        have HG10 := Lib.hid (grown_trans HG7.out hg10); clear hg10
        cases b10 with
        | true =>
          obtain ⟨d', hdd⟩ : ∃ d', d = d' + 1 := ⟨d - 1, by omega⟩
          have HD := Lib.hid (HI.out d' hdd)
          have hwr0 := wrap_small d' (by omega)
          go_wp2_with fail
          refine (HD.out false B cv len _ (HC.out.grown HBZ.out HG10.out) HU10.out).mono ?_
          rintro e w11 ⟨k11, n11, s11, u11, ts11, h11, rfl, hs11, ha11, hw11, hu11, hg11⟩
          have HU11 := Lib.hid hu11; clear hu11
          have HG11 := Lib.hid (grown_trans HG10.out hg11); clear hg11
          obtain ⟨ua11, uc11, rfl⟩ := ha11.slice
          have HA11 := Lib.hid ha11; clear ha11
          have HKP : Hid (∀ w', (boxed w11 k11 n11 s11 (.slice ua11 ts11.length uc11)).grownBy w' (some B) → (w'.cell? ⟨w11.heap.size, 0, none⟩ = some (.int .i64 k11) ∧ w'.cell? ⟨w11.heap.size, 1, none⟩ = some (.int .i64 n11) ∧ w'.cell? ⟨w11.heap.size, 2, none⟩ = some (.string s11) ∧ w'.cell? ⟨w11.heap.size, 3, none⟩ = some (.slice ua11 ts11.length uc11))) := Lib.hid (fun w' hg => by
            obtain ⟨c0, c1, c2, c3⟩ := boxed_cells (Below.refl (boxed w11 k11 n11 s11 (.slice ua11 ts11.length uc11)).heap.size (boxed w11 k11 n11 s11 (.slice ua11 ts11.length uc11)))
            have hne : (some w11.heap.size : Option Nat) ≠ some B := fun e => by cases e; exact absurd HU11.out.lt (by omega)
            exact ⟨hg.cell c0 hne, hg.cell c1 hne, hg.cell c2 hne, hg.cell c3 hne⟩)
          have HCX := Lib.hid ((HC.out.grown HBZ.out HG11.out).alloc HU11.out.lt (.cells #[.int .i64 k11, .int .i64 n11, .string s11, .slice ua11 ts11.length uc11] 26))
          have HUX := Lib.hid (HU11.out.alloc (.cells #[.int .i64 k11, .int .i64 n11, .string s11, .slice ua11 ts11.length uc11] 26))
          have HBX : Hid (B < (boxed w11 k11 n11 s11 (.slice ua11 ts11.length uc11)).heap.size) := Lib.hid (by have := HU11.out.lt; simp; omega)
          have HGX : Hid ((boxZ w).grownBy (boxed w11 k11 n11 s11 (.slice ua11 ts11.length uc11)) (some B)) := Lib.hid (grown_trans HG11.out (World.grownBy_alloc w11 _ (some B)))
          obtain ⟨p0, p1, p2, p3⟩ := HKP.out _ (grown_refl _ _)
          have hgY : (boxed w11 k11 n11 s11 (.slice ua11 ts11.length uc11)).grownBy ((boxed w11 k11 n11 s11 (.slice ua11 ts11.length uc11)).alloc (.cells (opTexts.map Value.string).toArray 9)) (some B) := World.grownBy_alloc _ _ _
          obtain ⟨q0, q1, q2, q3⟩ := HKP.out _ hgY
          have hgYd : (boxed w11 k11 n11 s11 (.slice ua11 ts11.length uc11)).grownBy ((boxed w11 k11 n11 s11 (.slice ua11 ts11.length uc11)).alloc (.cells (opTexts.map Value.string).toArray 9)).drew (some B) := gr_drew hgY
          have HGY := Lib.hid hgYd; clear hgYd hgY
          have hpick := fun (W : World) (hW : W = ((boxed w11 k11 n11 s11 (.slice ua11 ts11.length uc11)).alloc (.cells (opTexts.map Value.string).toArray 9)).drew) => pick_any B (w11.heap.size + 1) 3 cv len opTexts W (by decide) (by decide) (by have := HU11.out.lt; omega) (fun i p h => by
            rw [hW]
            have e : (boxed w11 k11 n11 s11 (.slice ua11 ts11.length uc11)).heap.size = w11.heap.size + 1 := by simp
            have := new_strs (boxed w11 k11 n11 s11 (.slice ua11 ts11.length uc11)) opTexts 9 i p h
            rw [e] at this
            exact this) (by rw [hW]; exact HCX.out.grown HBX.out HGY.out) (by rw [hW]; exact cu_drew (HUX.out.alloc _))
          have HPK := Lib.hid hpick; clear hpick
          have hzX : w.heap.size + 1 ≤ w11.heap.size := by have := HG11.out.size; simp at this; omega
          have hzJ : w.heap.size + 1 ≤ w10.heap.size := by have := HG10.out.size; simp at this; omega
          have HHA := HA11
          have hwr := wrap_small d' (by omega)
          have HZJ := Lib.hid (And.intro hzX hzJ); clear hzX hzJ
          go_wp2
          go_region_with (first
              | (go_at_call 50; refine (HPK.out _ rfl).mono ?_; rintro e w32 ⟨v32, hv32, rfl, hu32, hg32⟩; obtain ⟨p32, hp32, rfl⟩ := List.mem_map.1 hv32; have HPS := Lib.hid (opTexts_one p32 hp32); have HU32 := Lib.hid hu32; have HG32 := Lib.hid (grown_trans HGY.out hg32); clear hv32 hp32 hu32 hg32; obtain ⟨r0, r1, r2, r3⟩ := HKP.out _ HG32.out)
              | (go_at_call 52; (try rw [hwr]); refine (HD.out false B cv len _ (HCX.out.grown HBX.out HG32.out) HU32.out).mono ?_; rintro e w33 ⟨k33, n33, s33, u33, ts33, h33, rfl, hs33, ha33, hw33, hu33, hg33⟩; have HU33 := Lib.hid hu33; have HG33 := Lib.hid (grown_trans HG32.out hg33); have HW33 := Lib.hid (And.intro hs33 hw33); obtain ⟨ua33, uc33, rfl⟩ := ha33.slice; have HA33 := Lib.hid ha33; clear hs33 hw33 hu33 hg33 ha33; obtain ⟨x0, x1, x2, x3⟩ := HKP.out _ HG33.out)
              | (go_at_call 84; refine (l3Pair_any p32 k11 n11 s11 _ k33 n33 s33 _ _).mono ?_; rintro e w34 ⟨g34, rfl, hgl34, hgr34, hb34⟩; have HG34 := Lib.hid (grown_trans (grown_trans HGX.out HG33.out) (Below.toGrown hb34 (some B))); have HGR := Lib.hid (And.intro hgl34 hgr34); have HB34 := Lib.hid hb34; clear hgl34 hgr34 hb34; obtain ⟨⟨z0, z1, z2, z3⟩, y0, y1, y2, y3⟩ := boxZ_cells hBl HG34.out))
          all_goals
            have HFIN : Hid (∀ v0 v1 v2 v3 : Value, DrawnS (16 * 2 ^ d) B cv len w (.returned (tv 2 0 p32 (.slice (some ⟨g34, 0, none⟩) 2 2))) ((((w34.setCell ⟨w.heap.size, 0, none⟩ v0).setCell ⟨w.heap.size, 1, none⟩ v1).setCell ⟨w.heap.size, 2, none⟩ v2).setCell ⟨w.heap.size, 3, none⟩ v3)) := Lib.hid (by
              obtain ⟨hzX, hzJ⟩ := HZJ.out
              have hsz32 := HG32.out.size
              have hsz33 := HG33.out.size
              have hsX : (boxed w11 k11 n11 s11 (.slice ua11 ts11.length uc11)).heap.size = w11.heap.size + 1 := by simp
              have hBj := HU10.out.lt
              have hgl := HGR.out.1
              (try simp only [World.drew] at hsz32)
              have hg14 : w11.grownBy w34 (some B) := grown_trans (grown_trans (World.grownBy_alloc w11 _ (some B)) HG33.out) (Below.toGrown HB34.out (some B))
              obtain ⟨hra, hro⟩ := row2_args HGR.out.2 (lo := w.heap.size + 1) (by omega) hs11 (((HHA.out.grown hg14 (fun j e => by cases e; omega)).low hzJ).le (Nat.le_max_left h11 h33)) HW33.out.1 (((HA33.out.below HB34.out).low (by omega)).le (Nat.le_max_right h11 h33))
              have hw33 := HW33.out.2
              intro v0 v1 v2 v3
              exact drawS_fin hBl (by have := HPS.out; omega) hra (by rw [hdd]; exact wS_two (by exact HPS.out) hw11 hw33) (HU33.out.bel HB34.out) HG34.out v0 v1 v2 v3)
            go_wp2
            (try simp only [Exit.inBlock, Exit.then])
            refine bodyPost_ret (v := tv 2 0 p32 (.slice (some ⟨g34, 0, none⟩) 2 2)) ?_ rfl ?_
            · rw [results_cell (a := 8) (t := 26) (ad := ⟨w.heap.size, 0, none⟩) rfl rfl]
              go_simp
            · exact HFIN.out _ _ _ _
        | false =>
          go_wp2_with fail
          refine (below_any B cv len 4 _ (by decide) (by decide) (HC.out.grown HBZ.out HG10.out) HU10.out).mono ?_
          rintro e w12 ⟨x12, rfl, hx12, hy12, hu12, hg12⟩
          have HU12 := Lib.hid hu12; clear hu12
          have HG12 := Lib.hid (grown_trans HG10.out hg12); clear hg12
          go_wp2_with fail
          refine (l3Word_any x12 _).mono ?_
          rintro e w13 ⟨rfl, hb13⟩
          have HU13 := Lib.hid (HU12.out.bel (hb13))
          have HG13 := Lib.hid (grown_trans HG12.out (Below.toGrown (hb13) (some B)))
          obtain ⟨⟨z0, z1, z2, z3⟩, y0, y1, y2, y3⟩ := boxZ_cells hBl HG13.out
          go_wp2
          (try simp only [Exit.inBlock, Exit.then])
          refine bodyPost_ret (v := tv 3 x12 ByteArray.empty (.slice none 0 0)) ?hr rfl ?_
          case hr =>
            rw [results_cell (a := 8) (t := 26) (ad := ⟨w.heap.size, 0, none⟩) rfl rfl]
            go_simp
          exact drawS_fin hBl (by decide) (ArgsAt.nil _ _ 0 _ _) (wS_leaf _ _ _ d (by decide)) HU13.out HG13.out _ _ _ _
      · skip
        go_wp2_with fail
        refine (below_any B cv len 4 _ (by decide) (by decide) (HC.out.grown HBZ.out HG7.out) HU7.out).mono ?_
        rintro e w14 ⟨x14, rfl, hx14, hy14, hu14, hg14⟩
        have HU14 := Lib.hid hu14; clear hu14
        have HG14 := Lib.hid (grown_trans HG7.out hg14); clear hg14
        go_wp2_with fail
        refine (l3Word_any x14 _).mono ?_
        rintro e w15 ⟨rfl, hb15⟩
        have HU15 := Lib.hid (HU14.out.bel (hb15))
        have HG15 := Lib.hid (grown_trans HG14.out (Below.toGrown (hb15) (some B)))
        obtain ⟨⟨z0, z1, z2, z3⟩, y0, y1, y2, y3⟩ := boxZ_cells hBl HG15.out
        go_wp2
        (try simp only [Exit.inBlock, Exit.then])
        refine bodyPost_ret (v := tv 3 x14 ByteArray.empty (.slice none 0 0)) ?hr rfl ?_
        case hr =>
          rw [results_cell (a := 8) (t := 26) (ad := ⟨w.heap.size, 0, none⟩) rfl rfl]
          go_simp
        exact drawS_fin hBl (by decide) (ArgsAt.nil _ _ 0 _ _) (wS_leaf _ _ _ d (by decide)) HU15.out HG15.out _ _ _ _
theorem drawW_any : ∀ d, d ≤ 5 → DrawS sWord d
  | 0, _ => drawW_step 0 (by omega) (fun d' e => by omega)
  | d + 1, h => drawW_step (d + 1) h (fun d' e => by cases e; exact drawW_any d (by omega))
theorem wS_leaf1 (k n : Int) (s : ByteArray) (h : s.size ≤ 5) : wT (.node k n s []) + 7 ≤ 12 := by rw [wT_node]; simp [wS]; omega
set_option maxRecDepth 100000 in
set_option maxHeartbeats 6000000 in
theorem drawW1_any : DrawS1 := by
  intro g B cv len w hcode hcur
  have hBl := hcur.lt
  have HC := Lib.hid (hcode.alloc hBl (.cells #[.int .i64 0, .int .i64 0, .string ⟨#[]⟩, .slice none 0 0] 26)); clear hcode
  have HU0 := Lib.hid (hcur.alloc (.cells #[.int .i64 0, .int .i64 0, .string ⟨#[]⟩, .slice none 0 0] 26)); clear hcur
  have HBZ : Hid (B < (boxZ w).heap.size) := Lib.hid (by simp; omega)
  have HG0 := Lib.hid (grown_refl (boxZ w) (some B))
  go_enter Tryz.func52, Tryz.ntmps52
  cases g with
  | true =>
    go_wp2_with fail
    refine (below_any B cv len 4 _ (by decide) (by decide) (HC.out.grown HBZ.out HG0.out) HU0.out).mono ?_
    rintro e w1 ⟨x1, rfl, hx1, hy1, hu1, hg1⟩
    have HU1 := Lib.hid hu1; clear hu1
    have HG1 := Lib.hid (grown_trans HG0.out hg1); clear hg1
    go_wp2_with fail
    refine (l3Word_any x1 _).mono ?_
    rintro e w2 ⟨rfl, hb2⟩
    have HU2 := Lib.hid (HU1.out.bel (hb2))
    have HG2 := Lib.hid (grown_trans HG1.out (Below.toGrown (hb2) (some B)))
    obtain ⟨⟨z0, z1, z2, z3⟩, y0, y1, y2, y3⟩ := boxZ_cells hBl HG2.out
    go_wp2
    (try simp only [Exit.inBlock, Exit.then])
    refine bodyPost_ret (v := tv 3 x1 ByteArray.empty (.slice none 0 0)) ?hr rfl ?_
    case hr =>
      rw [results_cell (a := 8) (t := 26) (ad := ⟨w.heap.size, 0, none⟩) rfl rfl]
      go_simp
    exact drawS_fin hBl (by decide) (ArgsAt.nil _ _ 0 _ _) (wS_leaf1 _ _ _ (by decide)) HU2.out HG2.out _ _ _ _
  | false =>
    go_wp2_with fail
    refine (once_any B cv len 2 _ (by decide) (by decide) (HC.out.grown HBZ.out HG0.out) HU0.out).mono ?_
    rintro e w3 ⟨b3, rfl, hu3, hg3⟩
    have HU3 := Lib.hid hu3; clear hu3
    have HG3 := Lib.hid (grown_trans HG0.out hg3); clear hg3
    cases b3 with
    | true =>
      have c4 := pick_any B w3.heap.size 2 cv len wvTexts (w3.alloc (.cells (wvTexts.map Value.string).toArray 9)) (by decide) (by decide) (by have := HU3.out.lt; omega) (new_strs w3 wvTexts _) ((HC.out.grown HBZ.out HG3.out).alloc HU3.out.lt _) (HU3.out.alloc _)
      have HK4 := Lib.hid c4; clear c4
      go_wp2_with fail
      refine HK4.out.mono ?_
      rintro e w4 ⟨v4, hv4, rfl, hu4, hg4⟩
      obtain ⟨p4, hp4, rfl⟩ := List.mem_map.1 hv4
      have hps4 := wvTexts_one p4 hp4
      clear hv4 hp4
      have HU4 := Lib.hid hu4; clear hu4
      have HG4 := Lib.hid (grown_trans HG3.out (grown_trans (World.grownBy_alloc w3 _ (some B)) hg4)); clear hg4 HK4
      go_wp2_with fail
      refine (l3Var_any p4 _).mono ?_
      rintro e w5 ⟨rfl, hb5⟩
      have HU5 := Lib.hid (HU4.out.bel (hb5))
      have HG5 := Lib.hid (grown_trans HG4.out (Below.toGrown (hb5) (some B)))
      obtain ⟨⟨z0, z1, z2, z3⟩, y0, y1, y2, y3⟩ := boxZ_cells hBl HG5.out
      go_wp2
      (try simp only [Exit.inBlock, Exit.then])
      refine bodyPost_ret (v := tv 1 0 p4 (.slice none 0 0)) ?hr rfl ?_
      case hr =>
        rw [results_cell (a := 8) (t := 26) (ad := ⟨w.heap.size, 0, none⟩) rfl rfl]
        go_simp
      exact drawS_fin hBl (by omega) (ArgsAt.nil _ _ 0 _ _) (wS_leaf1 _ _ _ (by omega)) HU5.out HG5.out _ _ _ _
    | false =>
      go_wp2_with fail
      refine (below_any B cv len 4 _ (by decide) (by decide) (HC.out.grown HBZ.out HG3.out) HU3.out).mono ?_
      rintro e w6 ⟨x6, rfl, hx6, hy6, hu6, hg6⟩
      have HU6 := Lib.hid hu6; clear hu6
      have HG6 := Lib.hid (grown_trans HG3.out hg6); clear hg6
      go_wp2_with fail
      refine (l3Word_any x6 _).mono ?_
      rintro e w7 ⟨rfl, hb7⟩
      have HU7 := Lib.hid (HU6.out.bel (hb7))
      have HG7 := Lib.hid (grown_trans HG6.out (Below.toGrown (hb7) (some B)))
      obtain ⟨⟨z0, z1, z2, z3⟩, y0, y1, y2, y3⟩ := boxZ_cells hBl HG7.out
      go_wp2
      (try simp only [Exit.inBlock, Exit.then])
      refine bodyPost_ret (v := tv 3 x6 ByteArray.empty (.slice none 0 0)) ?hr rfl ?_
      case hr =>
        rw [results_cell (a := 8) (t := 26) (ad := ⟨w.heap.size, 0, none⟩) rfl rfl]
        go_simp
      exact drawS_fin hBl (by decide) (ArgsAt.nil _ _ 0 _ _) (wS_leaf1 _ _ _ (by decide)) HU7.out HG7.out _ _ _ _
/-! ### the sort e -/
set_option maxRecDepth 100000 in
set_option maxHeartbeats 6000000 in
theorem drawE_step (d : Nat) (hd : d ≤ 5) (hI : ∀ d', d = d' + 1 → DrawS sE d') : DrawS sE d := by
  intro g B cv len w hcode hcur
  have hBl := hcur.lt
  have HC := Lib.hid (hcode.alloc hBl (.cells #[.int .i64 0, .int .i64 0, .string ⟨#[]⟩, .slice none 0 0] 26)); clear hcode
  have HU0 := Lib.hid (hcur.alloc (.cells #[.int .i64 0, .int .i64 0, .string ⟨#[]⟩, .slice none 0 0] 26)); clear hcur
  have HBZ : Hid (B < (boxZ w).heap.size) := Lib.hid (by simp; omega)
  have HG0 := Lib.hid (grown_refl (boxZ w) (some B))
  have HI := Lib.hid hI; clear hI
  have HW1 := Lib.hid drawW1_any
  go_enter Tryz.func52, Tryz.ntmps52
  by_cases hd2 : (d : Int) < 2
  · skip
    cases g with
    | true =>
      go_wp2_with fail
      refine (once_any B cv len 2 _ (by decide) (by decide) (HC.out.grown HBZ.out HG0.out) HU0.out).mono ?_
      rintro e w1 ⟨b1, rfl, hu1, hg1⟩
      have HU1 := Lib.hid hu1; clear hu1
      have HG1 := Lib.hid (grown_trans HG0.out hg1); clear hg1
      cases b1 with
      | true =>
        go_wp2_with fail
        refine (HW1.out true B cv len _ (HC.out.grown HBZ.out HG1.out) HU1.out).mono ?_
        rintro e w2 ⟨k2, n2, s2, u2, ts2, h2, rfl, hs2, ha2, hw2, hu2, hg2⟩
        have HU2 := Lib.hid hu2; clear hu2
        have HG2 := Lib.hid (grown_trans HG1.out hg2); clear hg2
        obtain ⟨ua2, uc2, rfl⟩ := ha2.slice
        have HA2 := Lib.hid ha2; clear ha2
        go_wp2_with fail
        refine (l3One_any sNum k2 n2 s2 _ _).mono ?_
        rintro e w3 ⟨g3, rfl, hgl3, hgr3, hb3⟩
        have hz1 : w.heap.size + 1 ≤ w1.heap.size := by have := HG1.out.size; simp at this; omega
        have hz2 : w.heap.size + 1 ≤ w2.heap.size := by have := HG2.out.size; simp at this; omega
        obtain ⟨hra, hro⟩ := row1_args hgr3 (lo := w.heap.size + 1) (by omega) hs2 ((HA2.out.below hb3).low hz1)
        have hwl : wT (.node 2 0 sNum [.node k2 n2 s2 ts2]) + 7 ≤ 16 * 2 ^ d := wS_num (by decide) (by omega)
        clear hgr3 hz2 hro
        have HU3 := Lib.hid (HU2.out.bel (hb3))
        have HG3 := Lib.hid (grown_trans HG2.out (Below.toGrown (hb3) (some B)))
        obtain ⟨⟨z0, z1, z2, z3⟩, y0, y1, y2, y3⟩ := boxZ_cells hBl HG3.out
        go_wp2
        (try simp only [Exit.inBlock, Exit.then])
        refine bodyPost_ret (v := tv 2 0 sNum (.slice (some ⟨g3, 0, none⟩) 1 1)) ?hr rfl ?_
        case hr =>
          rw [results_cell (a := 8) (t := 26) (ad := ⟨w.heap.size, 0, none⟩) rfl rfl]
          go_simp
        exact drawS_fin hBl (by decide) hra hwl HU3.out HG3.out _ _ _ _
      | false =>
        have c4 := pick_any B w1.heap.size 2 cv len abTexts (w1.alloc (.cells (abTexts.map Value.string).toArray 9)) (by decide) (by decide) (by have := HU1.out.lt; omega) (new_strs w1 abTexts _) ((HC.out.grown HBZ.out HG1.out).alloc HU1.out.lt _) (HU1.out.alloc _)
        have HK4 := Lib.hid c4; clear c4
        go_wp2_with fail
        refine HK4.out.mono ?_
        rintro e w4 ⟨v4, hv4, rfl, hu4, hg4⟩
        obtain ⟨p4, hp4, rfl⟩ := List.mem_map.1 hv4
        have hps4 := abTexts_one p4 hp4
        clear hv4 hp4
        have HU4 := Lib.hid hu4; clear hu4
        have HG4 := Lib.hid (grown_trans HG1.out (grown_trans (World.grownBy_alloc w1 _ (some B)) hg4)); clear hg4 HK4
        go_wp2_with fail
        refine (l3App_any p4 _ _ _ _).mono ?_
        rintro e w5 ⟨rfl, hb5⟩
        have hba5 : Below w4.heap.size w4 w5 := ((Below.refl _ _).alloc (Nat.le_refl _) (.cells #[] 26)).trans (hb5.mono (by simp))
        have HU5 := Lib.hid (HU4.out.bel (hba5))
        have HG5 := Lib.hid (grown_trans HG4.out (Below.toGrown (hba5) (some B)))
        obtain ⟨⟨z0, z1, z2, z3⟩, y0, y1, y2, y3⟩ := boxZ_cells hBl HG5.out
        go_wp2
        (try simp only [Exit.inBlock, Exit.then])
        refine bodyPost_ret (v := tv 2 0 p4 (.slice (some ⟨w4.heap.size, 0, none⟩) 0 0)) ?hr rfl ?_
        case hr =>
          rw [results_cell (a := 8) (t := 26) (ad := ⟨w.heap.size, 0, none⟩) rfl rfl]
          go_simp
        exact drawS_fin hBl (by omega) (ArgsAt.nil _ _ 0 _ _) (wS_leaf _ _ _ d (by omega)) HU5.out HG5.out _ _ _ _
    | false =>
      go_wp2_with fail
      refine (once_any B cv len 2 _ (by decide) (by decide) (HC.out.grown HBZ.out HG0.out) HU0.out).mono ?_
      rintro e w6 ⟨b6, rfl, hu6, hg6⟩
      have HU6 := Lib.hid hu6; clear hu6
      have HG6 := Lib.hid (grown_trans HG0.out hg6); clear hg6
      cases b6 with
      | true =>
        have c7 := pick_any B w6.heap.size 2 cv len xyTexts (w6.alloc (.cells (xyTexts.map Value.string).toArray 9)) (by decide) (by decide) (by have := HU6.out.lt; omega) (new_strs w6 xyTexts _) ((HC.out.grown HBZ.out HG6.out).alloc HU6.out.lt _) (HU6.out.alloc _)
        have HK7 := Lib.hid c7; clear c7
        go_wp2_with fail
        refine HK7.out.mono ?_
        rintro e w7 ⟨v7, hv7, rfl, hu7, hg7⟩
        obtain ⟨p7, hp7, rfl⟩ := List.mem_map.1 hv7
        have hps7 := xyTexts_one p7 hp7
        clear hv7 hp7
        have HU7 := Lib.hid hu7; clear hu7
        have HG7 := Lib.hid (grown_trans HG6.out (grown_trans (World.grownBy_alloc w6 _ (some B)) hg7)); clear hg7 HK7
        go_wp2_with fail
        refine (l3Var_any p7 _).mono ?_
        rintro e w8 ⟨rfl, hb8⟩
        have HU8 := Lib.hid (HU7.out.bel (hb8))
        have HG8 := Lib.hid (grown_trans HG7.out (Below.toGrown (hb8) (some B)))
        obtain ⟨⟨z0, z1, z2, z3⟩, y0, y1, y2, y3⟩ := boxZ_cells hBl HG8.out
        go_wp2
        (try simp only [Exit.inBlock, Exit.then])
        refine bodyPost_ret (v := tv 1 0 p7 (.slice none 0 0)) ?hr rfl ?_
        case hr =>
          rw [results_cell (a := 8) (t := 26) (ad := ⟨w.heap.size, 0, none⟩) rfl rfl]
          go_simp
        exact drawS_fin hBl (by omega) (ArgsAt.nil _ _ 0 _ _) (wS_leaf _ _ _ d (by omega)) HU8.out HG8.out _ _ _ _
      | false =>
        go_wp2_with fail
        refine (once_any B cv len 2 _ (by decide) (by decide) (HC.out.grown HBZ.out HG6.out) HU6.out).mono ?_
        rintro e w9 ⟨b9, rfl, hu9, hg9⟩
        have HU9 := Lib.hid hu9; clear hu9
        have HG9 := Lib.hid (grown_trans HG6.out hg9); clear hg9
        cases b9 with
        | true =>
          go_wp2_with fail
          refine (HW1.out false B cv len _ (HC.out.grown HBZ.out HG9.out) HU9.out).mono ?_
          rintro e w10 ⟨k10, n10, s10, u10, ts10, h10, rfl, hs10, ha10, hw10, hu10, hg10⟩
          have HU10 := Lib.hid hu10; clear hu10
          have HG10 := Lib.hid (grown_trans HG9.out hg10); clear hg10
          obtain ⟨ua10, uc10, rfl⟩ := ha10.slice
          have HA10 := Lib.hid ha10; clear ha10
          go_wp2_with fail
          refine (l3One_any sNum k10 n10 s10 _ _).mono ?_
          rintro e w11 ⟨g11, rfl, hgl11, hgr11, hb11⟩
          have hz9 : w.heap.size + 1 ≤ w9.heap.size := by have := HG9.out.size; simp at this; omega
          have hz10 : w.heap.size + 1 ≤ w10.heap.size := by have := HG10.out.size; simp at this; omega
          obtain ⟨hra, hro⟩ := row1_args hgr11 (lo := w.heap.size + 1) (by omega) hs10 ((HA10.out.below hb11).low hz9)
          have hwl : wT (.node 2 0 sNum [.node k10 n10 s10 ts10]) + 7 ≤ 16 * 2 ^ d := wS_num (by decide) (by omega)
          clear hgr11 hz10 hro
          have HU11 := Lib.hid (HU10.out.bel (hb11))
          have HG11 := Lib.hid (grown_trans HG10.out (Below.toGrown (hb11) (some B)))
          obtain ⟨⟨z0, z1, z2, z3⟩, y0, y1, y2, y3⟩ := boxZ_cells hBl HG11.out
          go_wp2
          (try simp only [Exit.inBlock, Exit.then])
          refine bodyPost_ret (v := tv 2 0 sNum (.slice (some ⟨g11, 0, none⟩) 1 1)) ?hr rfl ?_
          case hr =>
            rw [results_cell (a := 8) (t := 26) (ad := ⟨w.heap.size, 0, none⟩) rfl rfl]
            go_simp
          exact drawS_fin hBl (by decide) hra hwl HU11.out HG11.out _ _ _ _
        | false =>
          have c12 := pick_any B w9.heap.size 2 cv len abTexts (w9.alloc (.cells (abTexts.map Value.string).toArray 9)) (by decide) (by decide) (by have := HU9.out.lt; omega) (new_strs w9 abTexts _) ((HC.out.grown HBZ.out HG9.out).alloc HU9.out.lt _) (HU9.out.alloc _)
          have HK12 := Lib.hid c12; clear c12
          go_wp2_with fail
          refine HK12.out.mono ?_
          rintro e w12 ⟨v12, hv12, rfl, hu12, hg12⟩
          obtain ⟨p12, hp12, rfl⟩ := List.mem_map.1 hv12
          have hps12 := abTexts_one p12 hp12
          clear hv12 hp12
          have HU12 := Lib.hid hu12; clear hu12
          have HG12 := Lib.hid (grown_trans HG9.out (grown_trans (World.grownBy_alloc w9 _ (some B)) hg12)); clear hg12 HK12
          go_wp2_with fail
          refine (l3App_any p12 _ _ _ _).mono ?_
          rintro e w13 ⟨rfl, hb13⟩
          have hba13 : Below w12.heap.size w12 w13 := ((Below.refl _ _).alloc (Nat.le_refl _) (.cells #[] 26)).trans (hb13.mono (by simp))
          have HU13 := Lib.hid (HU12.out.bel (hba13))
          have HG13 := Lib.hid (grown_trans HG12.out (Below.toGrown (hba13) (some B)))
          obtain ⟨⟨z0, z1, z2, z3⟩, y0, y1, y2, y3⟩ := boxZ_cells hBl HG13.out
          go_wp2
          (try simp only [Exit.inBlock, Exit.then])
          refine bodyPost_ret (v := tv 2 0 p12 (.slice (some ⟨w12.heap.size, 0, none⟩) 0 0)) ?hr rfl ?_
          case hr =>
            rw [results_cell (a := 8) (t := 26) (ad := ⟨w.heap.size, 0, none⟩) rfl rfl]
            go_simp
          exact drawS_fin hBl (by omega) (ArgsAt.nil _ _ 0 _ _) (wS_leaf _ _ _ d (by omega)) HU13.out HG13.out _ _ _ _
  · skip
    go_wp2_with fail
    refine (once_any B cv len 5 _ (by decide) (by decide) (HC.out.grown HBZ.out HG0.out) HU0.out).mono ?_
    rintro e w14 ⟨b14, rfl, hu14, hg14⟩
    have HU14 := Lib.hid hu14; clear hu14
    have HG14 := Lib.hid (grown_trans HG0.out hg14); clear hg14
    cases b14 with
    | true =>
      cases g with
      | true =>
        go_wp2_with fail
        refine (once_any B cv len 2 _ (by decide) (by decide) (HC.out.grown HBZ.out HG14.out) HU14.out).mono ?_
        rintro e w15 ⟨b15, rfl, hu15, hg15⟩
        have HU15 := Lib.hid hu15; clear hu15
        have HG15 := Lib.hid (grown_trans HG14.out hg15); clear hg15
        cases b15 with
        | true =>
          go_wp2_with fail
          refine (HW1.out true B cv len _ (HC.out.grown HBZ.out HG15.out) HU15.out).mono ?_
          rintro e w16 ⟨k16, n16, s16, u16, ts16, h16, rfl, hs16, ha16, hw16, hu16, hg16⟩
          have HU16 := Lib.hid hu16; clear hu16
          have HG16 := Lib.hid (grown_trans HG15.out hg16); clear hg16
          obtain ⟨ua16, uc16, rfl⟩ := ha16.slice
          have HA16 := Lib.hid ha16; clear ha16
          go_wp2_with fail
          refine (l3One_any sNum k16 n16 s16 _ _).mono ?_
          rintro e w17 ⟨g17, rfl, hgl17, hgr17, hb17⟩
          have hz15 : w.heap.size + 1 ≤ w15.heap.size := by have := HG15.out.size; simp at this; omega
          have hz16 : w.heap.size + 1 ≤ w16.heap.size := by have := HG16.out.size; simp at this; omega
          obtain ⟨hra, hro⟩ := row1_args hgr17 (lo := w.heap.size + 1) (by omega) hs16 ((HA16.out.below hb17).low hz15)
          have hwl : wT (.node 2 0 sNum [.node k16 n16 s16 ts16]) + 7 ≤ 16 * 2 ^ d := wS_num (by decide) (by omega)
          clear hgr17 hz16 hro
          have HU17 := Lib.hid (HU16.out.bel (hb17))
          have HG17 := Lib.hid (grown_trans HG16.out (Below.toGrown (hb17) (some B)))
          obtain ⟨⟨z0, z1, z2, z3⟩, y0, y1, y2, y3⟩ := boxZ_cells hBl HG17.out
          go_wp2
          (try simp only [Exit.inBlock, Exit.then])
          refine bodyPost_ret (v := tv 2 0 sNum (.slice (some ⟨g17, 0, none⟩) 1 1)) ?hr rfl ?_
          case hr =>
            rw [results_cell (a := 8) (t := 26) (ad := ⟨w.heap.size, 0, none⟩) rfl rfl]
            go_simp
          exact drawS_fin hBl (by decide) hra hwl HU17.out HG17.out _ _ _ _
        | false =>
          have c18 := pick_any B w15.heap.size 2 cv len abTexts (w15.alloc (.cells (abTexts.map Value.string).toArray 9)) (by decide) (by decide) (by have := HU15.out.lt; omega) (new_strs w15 abTexts _) ((HC.out.grown HBZ.out HG15.out).alloc HU15.out.lt _) (HU15.out.alloc _)
          have HK18 := Lib.hid c18; clear c18
          go_wp2_with fail
          refine HK18.out.mono ?_
          rintro e w18 ⟨v18, hv18, rfl, hu18, hg18⟩
          obtain ⟨p18, hp18, rfl⟩ := List.mem_map.1 hv18
          have hps18 := abTexts_one p18 hp18
          clear hv18 hp18
          have HU18 := Lib.hid hu18; clear hu18
          have HG18 := Lib.hid (grown_trans HG15.out (grown_trans (World.grownBy_alloc w15 _ (some B)) hg18)); clear hg18 HK18
          go_wp2_with fail
          refine (l3App_any p18 _ _ _ _).mono ?_
          rintro e w19 ⟨rfl, hb19⟩
          have hba19 : Below w18.heap.size w18 w19 := ((Below.refl _ _).alloc (Nat.le_refl _) (.cells #[] 26)).trans (hb19.mono (by simp))
          have HU19 := Lib.hid (HU18.out.bel (hba19))
          have HG19 := Lib.hid (grown_trans HG18.out (Below.toGrown (hba19) (some B)))
          obtain ⟨⟨z0, z1, z2, z3⟩, y0, y1, y2, y3⟩ := boxZ_cells hBl HG19.out
          go_wp2
          (try simp only [Exit.inBlock, Exit.then])
          refine bodyPost_ret (v := tv 2 0 p18 (.slice (some ⟨w18.heap.size, 0, none⟩) 0 0)) ?hr rfl ?_
          case hr =>
            rw [results_cell (a := 8) (t := 26) (ad := ⟨w.heap.size, 0, none⟩) rfl rfl]
            go_simp
          exact drawS_fin hBl (by omega) (ArgsAt.nil _ _ 0 _ _) (wS_leaf _ _ _ d (by omega)) HU19.out HG19.out _ _ _ _
      | false =>
        go_wp2_with fail
        refine (once_any B cv len 2 _ (by decide) (by decide) (HC.out.grown HBZ.out HG14.out) HU14.out).mono ?_
        rintro e w20 ⟨b20, rfl, hu20, hg20⟩
        have HU20 := Lib.hid hu20; clear hu20
        have HG20 := Lib.hid (grown_trans HG14.out hg20); clear hg20
        cases b20 with
        | true =>
          have c21 := pick_any B w20.heap.size 2 cv len xyTexts (w20.alloc (.cells (xyTexts.map Value.string).toArray 9)) (by decide) (by decide) (by have := HU20.out.lt; omega) (new_strs w20 xyTexts _) ((HC.out.grown HBZ.out HG20.out).alloc HU20.out.lt _) (HU20.out.alloc _)
          have HK21 := Lib.hid c21; clear c21
          go_wp2_with fail
          refine HK21.out.mono ?_
          rintro e w21 ⟨v21, hv21, rfl, hu21, hg21⟩
          obtain ⟨p21, hp21, rfl⟩ := List.mem_map.1 hv21
          have hps21 := xyTexts_one p21 hp21
          clear hv21 hp21
          have HU21 := Lib.hid hu21; clear hu21
          have HG21 := Lib.hid (grown_trans HG20.out (grown_trans (World.grownBy_alloc w20 _ (some B)) hg21)); clear hg21 HK21
          go_wp2_with fail
          refine (l3Var_any p21 _).mono ?_
          rintro e w22 ⟨rfl, hb22⟩
          have HU22 := Lib.hid (HU21.out.bel (hb22))
          have HG22 := Lib.hid (grown_trans HG21.out (Below.toGrown (hb22) (some B)))
          obtain ⟨⟨z0, z1, z2, z3⟩, y0, y1, y2, y3⟩ := boxZ_cells hBl HG22.out
          go_wp2
          (try simp only [Exit.inBlock, Exit.then])
          refine bodyPost_ret (v := tv 1 0 p21 (.slice none 0 0)) ?hr rfl ?_
          case hr =>
            rw [results_cell (a := 8) (t := 26) (ad := ⟨w.heap.size, 0, none⟩) rfl rfl]
            go_simp
          exact drawS_fin hBl (by omega) (ArgsAt.nil _ _ 0 _ _) (wS_leaf _ _ _ d (by omega)) HU22.out HG22.out _ _ _ _
        | false =>
          go_wp2_with fail
          refine (once_any B cv len 2 _ (by decide) (by decide) (HC.out.grown HBZ.out HG20.out) HU20.out).mono ?_
          rintro e w23 ⟨b23, rfl, hu23, hg23⟩
          have HU23 := Lib.hid hu23; clear hu23
          have HG23 := Lib.hid (grown_trans HG20.out hg23); clear hg23
          cases b23 with
          | true =>
            go_wp2_with fail
            refine (HW1.out false B cv len _ (HC.out.grown HBZ.out HG23.out) HU23.out).mono ?_
            rintro e w24 ⟨k24, n24, s24, u24, ts24, h24, rfl, hs24, ha24, hw24, hu24, hg24⟩
            have HU24 := Lib.hid hu24; clear hu24
            have HG24 := Lib.hid (grown_trans HG23.out hg24); clear hg24
            obtain ⟨ua24, uc24, rfl⟩ := ha24.slice
            have HA24 := Lib.hid ha24; clear ha24
            go_wp2_with fail
            refine (l3One_any sNum k24 n24 s24 _ _).mono ?_
            rintro e w25 ⟨g25, rfl, hgl25, hgr25, hb25⟩
            have hz23 : w.heap.size + 1 ≤ w23.heap.size := by have := HG23.out.size; simp at this; omega
            have hz24 : w.heap.size + 1 ≤ w24.heap.size := by have := HG24.out.size; simp at this; omega
            obtain ⟨hra, hro⟩ := row1_args hgr25 (lo := w.heap.size + 1) (by omega) hs24 ((HA24.out.below hb25).low hz23)
            have hwl : wT (.node 2 0 sNum [.node k24 n24 s24 ts24]) + 7 ≤ 16 * 2 ^ d := wS_num (by decide) (by omega)
            clear hgr25 hz24 hro
            have HU25 := Lib.hid (HU24.out.bel (hb25))
            have HG25 := Lib.hid (grown_trans HG24.out (Below.toGrown (hb25) (some B)))
            obtain ⟨⟨z0, z1, z2, z3⟩, y0, y1, y2, y3⟩ := boxZ_cells hBl HG25.out
            go_wp2
            (try simp only [Exit.inBlock, Exit.then])
            refine bodyPost_ret (v := tv 2 0 sNum (.slice (some ⟨g25, 0, none⟩) 1 1)) ?hr rfl ?_
            case hr =>
              rw [results_cell (a := 8) (t := 26) (ad := ⟨w.heap.size, 0, none⟩) rfl rfl]
              go_simp
            exact drawS_fin hBl (by decide) hra hwl HU25.out HG25.out _ _ _ _
          | false =>
            have c26 := pick_any B w23.heap.size 2 cv len abTexts (w23.alloc (.cells (abTexts.map Value.string).toArray 9)) (by decide) (by decide) (by have := HU23.out.lt; omega) (new_strs w23 abTexts _) ((HC.out.grown HBZ.out HG23.out).alloc HU23.out.lt _) (HU23.out.alloc _)
            have HK26 := Lib.hid c26; clear c26
            go_wp2_with fail
            refine HK26.out.mono ?_
            rintro e w26 ⟨v26, hv26, rfl, hu26, hg26⟩
            obtain ⟨p26, hp26, rfl⟩ := List.mem_map.1 hv26
            have hps26 := abTexts_one p26 hp26
            clear hv26 hp26
            have HU26 := Lib.hid hu26; clear hu26
            have HG26 := Lib.hid (grown_trans HG23.out (grown_trans (World.grownBy_alloc w23 _ (some B)) hg26)); clear hg26 HK26
            go_wp2_with fail
            refine (l3App_any p26 _ _ _ _).mono ?_
            rintro e w27 ⟨rfl, hb27⟩
            have hba27 : Below w26.heap.size w26 w27 := ((Below.refl _ _).alloc (Nat.le_refl _) (.cells #[] 26)).trans (hb27.mono (by simp))
            have HU27 := Lib.hid (HU26.out.bel (hba27))
            have HG27 := Lib.hid (grown_trans HG26.out (Below.toGrown (hba27) (some B)))
            obtain ⟨⟨z0, z1, z2, z3⟩, y0, y1, y2, y3⟩ := boxZ_cells hBl HG27.out
            go_wp2
            (try simp only [Exit.inBlock, Exit.then])
            refine bodyPost_ret (v := tv 2 0 p26 (.slice (some ⟨w26.heap.size, 0, none⟩) 0 0)) ?hr rfl ?_
            case hr =>
              rw [results_cell (a := 8) (t := 26) (ad := ⟨w.heap.size, 0, none⟩) rfl rfl]
              go_simp
            exact drawS_fin hBl (by omega) (ArgsAt.nil _ _ 0 _ _) (wS_leaf _ _ _ d (by omega)) HU27.out HG27.out _ _ _ _
    | false =>
      obtain ⟨d', hdd⟩ : ∃ d', d = d' + 1 := ⟨d - 1, by omega⟩
      have HD := Lib.hid (HI.out d' hdd)
      have HWD := Lib.hid (drawW_any d' (by omega))
      have hwr0 := wrap_small d' (by omega)
      go_wp2_with fail
      refine (HD.out g B cv len _ (HC.out.grown HBZ.out HG14.out) HU14.out).mono ?_
      rintro e w28 ⟨k28, n28, s28, u28, ts28, h28, rfl, hs28, ha28, hw28, hu28, hg28⟩
      have HU28 := Lib.hid hu28; clear hu28
      have HG28 := Lib.hid (grown_trans HG14.out hg28); clear hg28
      obtain ⟨ua28, uc28, rfl⟩ := ha28.slice
      have HA28 := Lib.hid ha28; clear ha28
      have HUB := Lib.hid (HU28.out.alloc (.cells #[.int .i64 k28, .int .i64 n28, .string s28, .slice ua28 ts28.length uc28] 26))
      have HCB := Lib.hid ((HC.out.grown HBZ.out HG28.out).alloc HU28.out.lt (.cells #[.int .i64 k28, .int .i64 n28, .string s28, .slice ua28 ts28.length uc28] 26))
      go_wp2_with fail
      refine (below_any B cv len 3 _ (by decide) (by decide) HCB.out HUB.out).mono ?_
      rintro e w29 ⟨x29, rfl, hx29, hy29, hu29, hg29⟩
      have hBb : B < (boxed w28 k28 n28 s28 (.slice ua28 ts28.length uc28)).heap.size := HUB.out.lt
      have HUQ := Lib.hid hu29
      have HGQ := Lib.hid hg29
      have HKP : Hid (∀ w', w29.grownBy w' (some B) → w'.cell? ⟨w28.heap.size, 0, none⟩ = some (.int .i64 k28) ∧ w'.cell? ⟨w28.heap.size, 1, none⟩ = some (.int .i64 n28) ∧ w'.cell? ⟨w28.heap.size, 2, none⟩ = some (.string s28) ∧ w'.cell? ⟨w28.heap.size, 3, none⟩ = some (.slice ua28 ts28.length uc28)) := Lib.hid (fun w' hg => by
        obtain ⟨c0, c1, c2, c3⟩ := boxed_cells (Below.refl (boxed w28 k28 n28 s28 (.slice ua28 ts28.length uc28)).heap.size (boxed w28 k28 n28 s28 (.slice ua28 ts28.length uc28)))
        have hne : (some w28.heap.size : Option Nat) ≠ some B := fun e => by cases e; exact absurd HU28.out.lt (by omega)
        have hg2 := grown_trans HGQ.out hg
        exact ⟨hg2.cell c0 hne, hg2.cell c1 hne, hg2.cell c2 hne, hg2.cell c3 hne⟩)
      have HCQ := Lib.hid (HCB.out.grown hBb HGQ.out)
      have HBQ : Hid (B < w29.heap.size) := Lib.hid (by have := HUQ.out.lt; omega)
      have HGX : Hid ((boxZ w).grownBy w29 (some B)) := Lib.hid (grown_trans (grown_trans HG28.out (World.grownBy_alloc w28 _ (some B))) HGQ.out)
      have hzX : w.heap.size + 1 ≤ w28.heap.size := by have := HG28.out.size; simp at this; omega
      have hzJ : w.heap.size + 1 ≤ w14.heap.size := by have := HG14.out.size; simp at this; omega
      have HQZ : Hid (w28.heap.size + 1 ≤ w29.heap.size) := Lib.hid (by have := HGQ.out.size; simpa using this)
      have HZJ := Lib.hid (And.intro hzX hzJ)
      clear hu29 hg29 hBb hzX hzJ
      obtain ⟨p0, p1, p2, p3⟩ := HKP.out _ (grown_refl _ _)
      have h3 : x29 = 0 ∨ x29 = 1 ∨ x29 = 2 := by omega
      clear hx29 hy29
      rcases h3 with rfl | rfl | rfl
      · skip
        go_wp2_with fail
        refine (l3One_any ⟨#[103]⟩ k28 n28 s28 _ _).mono ?_
        rintro e w30 ⟨g30, rfl, hgl30, hgr30, hb30⟩
        have HHA : Hid (ArgsAt w30 (w.heap.size + 1) h28 (.slice ua28 ts28.length uc28) ts28) := Lib.hid (by
          have hg14 : w28.grownBy w30 (some B) := grown_trans (grown_trans (World.grownBy_alloc w28 _ (some B)) HGQ.out) (Below.toGrown hb30 (some B))
          have hBj := HU14.out.lt
          exact (HA28.out.grown hg14 (fun j e => by cases e; omega)).low HZJ.out.2)
        obtain ⟨hra, hro⟩ := row1_args hgr30 (lo := w.heap.size + 1) (by have := HQZ.out; have := HZJ.out.1; omega) hs28 HHA.out
        have HU30 := Lib.hid (HUQ.out.bel hb30)
        have HG30 := Lib.hid (grown_trans HGX.out (Below.toGrown hb30 (some B)))
        clear hgr30 hro p0 p1 p2 p3
        obtain ⟨⟨z0, z1, z2, z3⟩, y0, y1, y2, y3⟩ := boxZ_cells hBl HG30.out
        go_wp2
        (try simp only [Exit.inBlock, Exit.then])
        refine bodyPost_ret (v := tv 2 0 ⟨#[103]⟩ (.slice (some ⟨g30, 0, none⟩) 1 1)) ?hr rfl ?_
        case hr =>
          rw [results_cell (a := 8) (t := 26) (ad := ⟨w.heap.size, 0, none⟩) rfl rfl]
          go_simp
        exact drawS_fin hBl (by decide) hra (by rw [hdd]; exact wS_one (by decide) hw28) HU30.out HG30.out _ _ _ _
      · skip
        have hqd : w29.grownBy w29.drew (some B) := gr_drew (grown_refl _ _)
        have HG32 := Lib.hid hqd; clear hqd
        have HU32 : Hid (CurAt w29.drew B cv len) := Lib.hid (cu_drew HUQ.out)
        obtain ⟨q0, q1, q2, q3⟩ := HKP.out _ HG32.out
        go_wp2
        go_region_with (first
            | (go_at_call 52; (try rw [hwr0]); refine (HWD.out g B cv len _ (HCQ.out.grown HBQ.out HG32.out) HU32.out).mono ?_; rintro e w33 ⟨k33, n33, s33, u33, ts33, h33, rfl, hs33, ha33, hw33, hu33, hg33⟩; have HU33 := Lib.hid hu33; have HG33 := Lib.hid (grown_trans HG32.out hg33); have HW33 := Lib.hid (And.intro hs33 hw33); obtain ⟨ua33, uc33, rfl⟩ := ha33.slice; have HA33 := Lib.hid ha33; clear hs33 hw33 hu33 hg33 ha33; obtain ⟨x0, x1, x2, x3⟩ := HKP.out _ HG33.out)
            | (go_at_call 84; refine (l3Pair_any ⟨#[104]⟩ k28 n28 s28 _ k33 n33 s33 _ _).mono ?_; rintro e w34 ⟨g34, rfl, hgl34, hgr34, hb34⟩; have HG34 := Lib.hid (grown_trans (grown_trans HGX.out HG33.out) (Below.toGrown hb34 (some B))); have HGR := Lib.hid (And.intro hgl34 hgr34); have HB34 := Lib.hid hb34; clear hgl34 hgr34 hb34; obtain ⟨⟨z0, z1, z2, z3⟩, y0, y1, y2, y3⟩ := boxZ_cells hBl HG34.out))
        all_goals
          have HFIN : Hid (∀ v0 v1 v2 v3 : Value, DrawnS (16 * 2 ^ d) B cv len w (.returned (tv 2 0 ⟨#[104]⟩ (.slice (some ⟨g34, 0, none⟩) 2 2))) ((((w34.setCell ⟨w.heap.size, 0, none⟩ v0).setCell ⟨w.heap.size, 1, none⟩ v1).setCell ⟨w.heap.size, 2, none⟩ v2).setCell ⟨w.heap.size, 3, none⟩ v3)) := Lib.hid (by
            obtain ⟨hzX, hzJ⟩ := HZJ.out
            have hQZ := HQZ.out
            have hsz33 := HG33.out.size
            have hBj := HU14.out.lt
            have hgl := HGR.out.1
            have hdz : w29.drew.heap.size = w29.heap.size := rfl
            have hg14 : w28.grownBy w34 (some B) := grown_trans (grown_trans (grown_trans (World.grownBy_alloc w28 _ (some B)) HGQ.out) HG33.out) (Below.toGrown HB34.out (some B))
            obtain ⟨hra, hro⟩ := row2_args HGR.out.2 (lo := w.heap.size + 1) (by omega) hs28 (((HA28.out.grown hg14 (fun j e => by cases e; omega)).low hzJ).le (Nat.le_max_left h28 h33)) HW33.out.1 (((HA33.out.below HB34.out).low (by omega)).le (Nat.le_max_right h28 h33))
            have hw33 := HW33.out.2
            intro v0 v1 v2 v3
            exact drawS_fin hBl (by decide) hra (by rw [hdd]; exact wS_two (by decide) hw28 hw33) (HU33.out.bel HB34.out) HG34.out v0 v1 v2 v3)
          go_wp2
          (try simp only [Exit.inBlock, Exit.then])
          refine bodyPost_ret (v := tv 2 0 ⟨#[104]⟩ (.slice (some ⟨g34, 0, none⟩) 2 2)) ?_ rfl ?_
          · rw [results_cell (a := 8) (t := 26) (ad := ⟨w.heap.size, 0, none⟩) rfl rfl]
            go_simp
          · exact HFIN.out _ _ _ _
      · skip
        have hqd : w29.grownBy w29.drew (some B) := gr_drew (grown_refl _ _)
        have HG32 := Lib.hid hqd; clear hqd
        have HU32 : Hid (CurAt w29.drew B cv len) := Lib.hid (cu_drew HUQ.out)
        obtain ⟨q0, q1, q2, q3⟩ := HKP.out _ HG32.out
        go_wp2
        go_region_with (first
            | (go_at_call 52; (try rw [hwr0]); refine (HD.out g B cv len _ (HCQ.out.grown HBQ.out HG32.out) HU32.out).mono ?_; rintro e w33 ⟨k33, n33, s33, u33, ts33, h33, rfl, hs33, ha33, hw33, hu33, hg33⟩; have HU33 := Lib.hid hu33; have HG33 := Lib.hid (grown_trans HG32.out hg33); have HW33 := Lib.hid (And.intro hs33 hw33); obtain ⟨ua33, uc33, rfl⟩ := ha33.slice; have HA33 := Lib.hid ha33; clear hs33 hw33 hu33 hg33 ha33; obtain ⟨x0, x1, x2, x3⟩ := HKP.out _ HG33.out)
            | (go_at_call 84; refine (l3Pair_any ⟨#[102]⟩ k28 n28 s28 _ k33 n33 s33 _ _).mono ?_; rintro e w34 ⟨g34, rfl, hgl34, hgr34, hb34⟩; have HG34 := Lib.hid (grown_trans (grown_trans HGX.out HG33.out) (Below.toGrown hb34 (some B))); have HGR := Lib.hid (And.intro hgl34 hgr34); have HB34 := Lib.hid hb34; clear hgl34 hgr34 hb34; obtain ⟨⟨z0, z1, z2, z3⟩, y0, y1, y2, y3⟩ := boxZ_cells hBl HG34.out))
        all_goals
          have HFIN : Hid (∀ v0 v1 v2 v3 : Value, DrawnS (16 * 2 ^ d) B cv len w (.returned (tv 2 0 ⟨#[102]⟩ (.slice (some ⟨g34, 0, none⟩) 2 2))) ((((w34.setCell ⟨w.heap.size, 0, none⟩ v0).setCell ⟨w.heap.size, 1, none⟩ v1).setCell ⟨w.heap.size, 2, none⟩ v2).setCell ⟨w.heap.size, 3, none⟩ v3)) := Lib.hid (by
            obtain ⟨hzX, hzJ⟩ := HZJ.out
            have hQZ := HQZ.out
            have hsz33 := HG33.out.size
            have hBj := HU14.out.lt
            have hgl := HGR.out.1
            have hdz : w29.drew.heap.size = w29.heap.size := rfl
            have hg14 : w28.grownBy w34 (some B) := grown_trans (grown_trans (grown_trans (World.grownBy_alloc w28 _ (some B)) HGQ.out) HG33.out) (Below.toGrown HB34.out (some B))
            obtain ⟨hra, hro⟩ := row2_args HGR.out.2 (lo := w.heap.size + 1) (by omega) hs28 (((HA28.out.grown hg14 (fun j e => by cases e; omega)).low hzJ).le (Nat.le_max_left h28 h33)) HW33.out.1 (((HA33.out.below HB34.out).low (by omega)).le (Nat.le_max_right h28 h33))
            have hw33 := HW33.out.2
            intro v0 v1 v2 v3
            exact drawS_fin hBl (by decide) hra (by rw [hdd]; exact wS_two (by decide) hw28 hw33) (HU33.out.bel HB34.out) HG34.out v0 v1 v2 v3)
          go_wp2
          (try simp only [Exit.inBlock, Exit.then])
          refine bodyPost_ret (v := tv 2 0 ⟨#[102]⟩ (.slice (some ⟨g34, 0, none⟩) 2 2)) ?_ rfl ?_
          · rw [results_cell (a := 8) (t := 26) (ad := ⟨w.heap.size, 0, none⟩) rfl rfl]
            go_simp
          · exact HFIN.out _ _ _ _
theorem drawE_any : ∀ d, d ≤ 5 → DrawS sE d
  | 0, _ => drawE_step 0 (by omega) (fun d' e => by omega)
  | d + 1, h => drawE_step (d + 1) h (fun d' e => by cases e; exact drawE_any d (by omega))
end Go.Proofs.YtidbokheeieifaaGreatDoor
