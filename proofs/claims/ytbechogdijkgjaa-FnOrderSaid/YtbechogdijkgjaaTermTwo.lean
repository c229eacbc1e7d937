/-
  The draws of two terms: spec.l3Two, DrawCompareTerms; DrawIsGround.
-/
import Derived.Test.YtbechogdijkgjaaTermCopy
import Derived.Test.YtbechogdijkgjaaLawTerms
namespace Go.Proofs.Ytbechogdijkgjaa
open Go.RowKit

theorem results_cell2 {fn : Func} {a b : Tmp} {t : TypeId} {tmps : Array Value} {ad bd : Addr} (h : fn.results = #[.cell a t, .cell b t]) (ha : tmps.getD a undef = .pointer (some ad)) (hb : tmps.getD b undef = .pointer (some bd)) (P : Program) (w : World) {x y : Value}
    (hx : (loadVar t ad).run P w = .ok x w) (hy : (loadVar t bd).run P w = .ok y w) : (results fn tmps).run P w = .ok (.tuple #[x, y]) w := by
  have h2 : tmps[a]?.getD undef = .pointer (some ad) := by rw [← ha]; simp
  have h3 : tmps[b]?.getD undef = .pointer (some bd) := by rw [← hb]; simp
  simp [results, h, h2, h3, asAddr, hx, hy, Result.andThen]

/-- Two terms that were drawn. -/
def DrawnTwo (w : World) (e : Ending) (w' : World) : Prop :=
  ∃ k n s a m c k2 n2 s2 a2 m2 c2 t t2 h h2, e = .returned (.tuple #[tv k n s (.slice a m c), tv k2 n2 s2 (.slice a2 m2 c2)]) ∧ TermAt w' w.heap.size h (tv k n s (.slice a m c)) t ∧ TermAt w' w.heap.size h2 (tv k2 n2 s2 (.slice a2 m2 c2)) t2 ∧ wT t ≤ 1000 ∧ wT t2 ≤ 1000 ∧ Below w.heap.size w w'

abbrev boxZ2 (w : World) : World := boxZ (boxZ w)
/-- Both results stored. -/
abbrev stored2 (X : World) (b : Nat) (v0 v1 v2 v3 u0 u1 u2 u3 : Value) : World :=
  (((((((X.setCell ⟨b, 0, none⟩ v0).setCell ⟨b, 1, none⟩ v1).setCell ⟨b, 2, none⟩ v2).setCell ⟨b, 3, none⟩ v3).setCell ⟨b + 1, 0, none⟩ u0).setCell ⟨b + 1, 1, none⟩ u1).setCell ⟨b + 1, 2, none⟩ u2).setCell ⟨b + 1, 3, none⟩ u3

theorem TermAt.grown {w w' : World} {lo h : Nat} {v : Value} {t : T} {row : Option Nat} (k : TermAt w lo h v t) (hg : w.grownBy w' row) (hr : ∀ j, row = some j → j < lo) : TermAt w' lo h v t := by
  obtain ⟨k', n, s, u, xs, e1, e2, hs, ha⟩ := k
  exact ⟨k', n, s, u, xs, e1, e2, hs, ha.grown hg hr⟩

theorem two_fin {w X : World} {k n : Int} {s : ByteArray} {a : Option Addr} {m c : Nat} {k2 n2 : Int} {s2 : ByteArray} {a2 : Option Addr} {m2 c2 : Nat} {t t2 : T} {h h2 : Nat} (ht : TermAt X (w.heap.size + 2) h (tv k n s (.slice a m c)) t) (ht2 : TermAt X (w.heap.size + 2) h2 (tv k2 n2 s2 (.slice a2 m2 c2)) t2)
    (hw : wT t ≤ 1000) (hw2 : wT t2 ≤ 1000) (hb : Below w.heap.size w X) (v0 v1 v2 v3 u0 u1 u2 u3 : Value) :
    DrawnTwo w (.returned (.tuple #[tv k n s (.slice a m c), tv k2 n2 s2 (.slice a2 m2 c2)])) (stored2 X w.heap.size v0 v1 v2 v3 u0 u1 u2 u3) := by
  have up : ∀ {h : Nat} {v : Value} {t : T}, TermAt X (w.heap.size + 2) h v t → TermAt (stored2 X w.heap.size v0 v1 v2 v3 u0 u1 u2 u3) (w.heap.size + 2) h v t := by
    intro h v t q
    have q1 := q.grown (set_grown X w.heap.size 0 v0) (fun j e => by cases e; omega)
    have q2 := q1.grown (set_grown _ w.heap.size 1 v1) (fun j e => by cases e; omega)
    have q3 := q2.grown (set_grown _ w.heap.size 2 v2) (fun j e => by cases e; omega)
    have q4 := q3.grown (set_grown _ w.heap.size 3 v3) (fun j e => by cases e; omega)
    have q5 := q4.grown (set_grown _ (w.heap.size + 1) 0 u0) (fun j e => by cases e; omega)
    have q6 := q5.grown (set_grown _ (w.heap.size + 1) 1 u1) (fun j e => by cases e; omega)
    have q7 := q6.grown (set_grown _ (w.heap.size + 1) 2 u2) (fun j e => by cases e; omega)
    exact q7.grown (set_grown _ (w.heap.size + 1) 3 u3) (fun j e => by cases e; omega)
  refine ⟨k, n, s, a, m, c, k2, n2, s2, a2, m2, c2, t, t2, h, h2, rfl, (up ht).low (by omega), (up ht2).low (by omega), hw, hw2, ?_⟩
  exact (((((((hb.setCell (Nat.le_refl _) _).setCell (Nat.le_refl _) _).setCell (Nat.le_refl _) _).setCell (Nat.le_refl _) _).setCell (Nat.le_succ _) _).setCell (Nat.le_succ _) _).setCell (Nat.le_succ _) _).setCell (Nat.le_succ _) _

/-- The two results' blocks in a later world. -/
theorem boxZ2_cells {w wr : World} {row : Option Nat} (hg : (boxZ2 w).grownBy wr row) (h1 : some w.heap.size ≠ row) (h2 : some (w.heap.size + 1) ≠ row) :
    wr.heap[w.heap.size]? = some (.cells #[.int .i64 0, .int .i64 0, .string ⟨#[]⟩, .slice none 0 0] 26 (0, 0)) ∧ wr.heap[w.heap.size + 1]? = some (.cells #[.int .i64 0, .int .i64 0, .string ⟨#[]⟩, .slice none 0 0] 26 (0, 0)) := by
  constructor
  · rw [hg.block _ (by simp; omega) h1, Below.heap_alloc _ _ _ (by simp)]
    exact heap_new w _ rfl
  · rw [hg.block _ (by simp) h2]
    exact heap_new _ _ (by simp)

theorem cells_of4 {Y : World} {b : Nat} {x0 x1 x2 x3 : Value} (hb : Y.heap[b]? = some (.cells #[x0, x1, x2, x3] 26 (0, 0))) : (Y.cell? ⟨b, 0, none⟩ = some x0 ∧ Y.cell? ⟨b, 1, none⟩ = some x1 ∧ Y.cell? ⟨b, 2, none⟩ = some x2 ∧ Y.cell? ⟨b, 3, none⟩ = some x3) ∧
    (Y.frozen? ⟨b, 0, none⟩ = false ∧ Y.frozen? ⟨b, 1, none⟩ = false ∧ Y.frozen? ⟨b, 2, none⟩ = false ∧ Y.frozen? ⟨b, 3, none⟩ = false) :=
  ⟨⟨by rw [cell_of_row Y b 0 _ _ _ hb]; rfl, by rw [cell_of_row Y b 1 _ _ _ hb]; rfl, by rw [cell_of_row Y b 2 _ _ _ hb]; rfl, by rw [cell_of_row Y b 3 _ _ _ hb]; rfl⟩, frozen_of_row Y b 0 _ _ hb, frozen_of_row Y b 1 _ _ hb, frozen_of_row Y b 2 _ _ hb, frozen_of_row Y b 3 _ _ hb⟩

set_option maxRecDepth 100000 in
set_option maxHeartbeats 3200000 in
theorem two_any (cv : Value) (len : Nat) (w : World) (hcode : CodeAt w w.heap.size cv len) :
    Calls Try.prog 50 #[cv] w (DrawnTwo w) := by
  have hz : (boxZ2 w).heap.size = w.heap.size + 2 := by simp
  have HB0 : Hid (Below w.heap.size w (boxZ2 w)) := Lib.hid (((Below.refl _ _).alloc (Nat.le_refl _) _).alloc (by simp) _)
  have HC : Hid (CodeAt (boxZ2 w) (boxZ2 w).heap.size cv len) := Lib.hid (hcode.below HB0.out)
  have HZ := Lib.hid hz
  clear hcode hz
  go_enter Try.func50, Try.ntmps50
  go_wp2_with fail
  refine (new_any cv len _ HC.out).mono ?_
  rintro e w1 ⟨rfl, hu1, hb1, hlt1⟩
  have hz := HZ.out
  have hc1 := HC.out.at_new hb1
  rw [hz] at hc1 hu1
  have HC1 := Lib.hid hc1; clear hc1
  have HU1 := Lib.hid hu1; clear hu1
  have HB1 := Lib.hid hb1; clear hb1
  have hs1 : w.heap.size + 3 ≤ w1.heap.size := by omega
  clear hz hlt1
  go_wp2_with fail
  refine (bent_any (w.heap.size + 2) cv len _ HC1.out HU1.out).mono ?_
  rintro e w2 ⟨v, t, h, rfl, ht, hw, hu2, hg2⟩
  obtain ⟨k, n, s, a, m, cap, rfl⟩ := ht.shape
  have hs2 : w.heap.size + 3 ≤ w2.heap.size := by have := hg2.size; omega
  have HT2 := Lib.hid (ht.low hs1); clear ht
  have HW := Lib.hid hw; clear hw
  have HG1 : Hid ((boxZ2 w).grownBy w2 (some (w.heap.size + 2))) := Lib.hid (grown_trans (Below.toGrown HB1.out _) hg2)
  have HGC : Hid (w1.grownBy w2 (some (w.heap.size + 2))) := Lib.hid hg2
  clear hg2
  obtain ⟨X, hX⟩ : ∃ X, X = w2.alloc (.cells #[.int .i64 k, .int .i64 n, .string s, .slice a m cap] 26) := ⟨_, rfl⟩
  have HX2 : Hid (w2.grownBy X (some (w.heap.size + 2))) := Lib.hid (by rw [hX]; exact World.grownBy_alloc _ _ _)
  have HUX : Hid (CurAt X (w.heap.size + 2) cv len) := Lib.hid (by rw [hX]; exact hu2.alloc _)
  have HXB : Hid (X.heap[w2.heap.size]? = some (.cells #[.int .i64 k, .int .i64 n, .string s, .slice a m cap] 26 (0, 0))) := Lib.hid (by rw [hX]; exact heap_new w2 _ rfl)
  have HXC : Hid (∀ Y, X.grownBy Y (some (w.heap.size + 2)) → CodeAt Y (w.heap.size + 2) cv len) := Lib.hid (fun Y hY => HC1.out.grown HU1.out.lt (grown_trans HGC.out (grown_trans HX2.out hY)))
  clear hu2
  go_wp2_with fail
  rw [← hX]
  clear hX
  refine (once_any (w.heap.size + 2) cv len 3 _ (by decide) (by decide) (HXC.out _ (grown_refl _ _)) HUX.out).mono ?_
  rintro e w4 ⟨b4, rfl, hu4, hg4⟩
  have HU4 := Lib.hid hu4; clear hu4
  have HG4 := Lib.hid hg4; clear hg4
  -- what lies in every world behind, but for the cursor
  have HK : Hid (∀ Y, w4.grownBy Y (some (w.heap.size + 2)) → (Y.heap[w2.heap.size]? = some (.cells #[.int .i64 k, .int .i64 n, .string s, .slice a m cap] 26 (0, 0)) ∧ Y.heap[w.heap.size]? = some (.cells #[.int .i64 0, .int .i64 0, .string ⟨#[]⟩, .slice none 0 0] 26 (0, 0)) ∧ Y.heap[w.heap.size + 1]? = some (.cells #[.int .i64 0, .int .i64 0, .string ⟨#[]⟩, .slice none 0 0] 26 (0, 0)) ∧
      TermAt Y (w.heap.size + 3) h (tv k n s (.slice a m cap)) t ∧ Below w.heap.size w Y)) := Lib.hid (fun Y hY => by
    have hXY := grown_trans HG4.out hY
    have h2Y := grown_trans HX2.out hXY
    have hZY := grown_trans HG1.out h2Y
    obtain ⟨z1, z2⟩ := boxZ2_cells hZY (by simp) (by simp)
    refine ⟨(hXY.block _ (Array.getElem?_eq_some_iff.1 HXB.out).1 (fun e => by have := Option.some.inj e; omega)).trans HXB.out, z1, z2, HT2.out.grown h2Y (fun j e => by cases e; omega), ?_⟩
    have hzz := HZ.out
    exact HB0.out.trans ⟨hZY.os, hZY.tape, hZY.output, hZY.size, fun i hi => hZY.block i (by omega) (fun e => by have := Option.some.inj e; omega)⟩)
  obtain ⟨k1, k2, k3, _, _⟩ := HK.out _ (grown_refl _ _)
  obtain ⟨⟨p0, p1, p2, p3⟩, _, _, _, _⟩ := cells_of4 k1
  clear k1 k2 k3
  cases b4 with
  | true =>
    have hcall := fun (Y : World) (hY : Y = w4.drew) => lcopy_any h (tv k n s (.slice a m cap)) t (w.heap.size + 3) Y (by rw [hY]; exact (HK.out _ (gr_drew (grown_refl w4 (some (w.heap.size + 2))))).2.2.2.1) (by have := HW.out; omega)
    have HCALL := Lib.hid hcall; clear hcall
    go_wp2_with fail
    go_region_with (go_at_call 75; refine (HCALL.out _ rfl).mono ?_; rintro e w5 ⟨k5, n5, s5, a5, m5, c5, rfl, ht5, hb5⟩; have HT5 := Lib.hid ht5; have HG5 : Hid (w4.grownBy w5 (some (w.heap.size + 2))) := Lib.hid (grown_trans (gr_drew (grown_refl w4 (some (w.heap.size + 2)))) (Below.toGrown hb5 _)); obtain ⟨q1, q2, q3, _, _⟩ := HK.out _ HG5.out; obtain ⟨⟨r0, r1, r2, r3⟩, _, _, _, _⟩ := cells_of4 q1; obtain ⟨⟨z0, z1, z2, z3⟩, y0, y1, y2, y3⟩ := cells_of4 q2; obtain ⟨⟨x0, x1, x2, x3⟩, f0, f1, f2, f3⟩ := cells_of4 q3; clear q1 q2 q3 ht5 hb5)
    all_goals (
      obtain ⟨_, _, _, ta, hbw⟩ := HK.out _ HG5.out
      have hs4 : w.heap.size + 2 ≤ w4.drew.heap.size := by have e1 := HX2.out.size; have e2 := HG4.out.size; show w.heap.size + 2 ≤ w4.heap.size; omega
      have HF := Lib.hid (two_fin (ta.low (by omega)) (HT5.out.low hs4) HW.out HW.out hbw)
      clear ta hbw hs4
      go_wp2
      (try simp only [Exit.inBlock, Exit.then])
      refine bodyPost_ret (v := .tuple #[tv k n s (.slice a m cap), tv k5 n5 s5 (.slice a5 m5 c5)]) ?_ rfl ?_
      · refine results_cell2 (a := 2) (b := 3) (t := 26) (ad := ⟨w.heap.size, 0, none⟩) (bd := ⟨w.heap.size + 1, 0, none⟩) rfl rfl rfl _ _ ?_ ?_ <;> go_simp
      · exact HF.out _ _ _ _ _ _ _ _)
  | false =>
    have hcall := fun (Y : World) (hY : Y = w4.drew) => bent_any (w.heap.size + 2) cv len Y (HXC.out _ (by rw [hY]; exact gr_drew HG4.out)) (by rw [hY]; exact cu_drew HU4.out)
    have HCALL := Lib.hid hcall; clear hcall
    go_wp2_with fail
    go_region_with (go_at_call 39; refine (HCALL.out _ rfl).mono ?_; rintro e w5 ⟨v5, t5, h5, rfl, ht5, hw5, hu5, hb5⟩; obtain ⟨k5, n5, s5, a5, m5, c5, rfl⟩ := ht5.shape; have HT5 := Lib.hid ht5; have HW5 := Lib.hid hw5; have HG5 : Hid (w4.grownBy w5 (some (w.heap.size + 2))) := Lib.hid (grown_trans (gr_drew (grown_refl w4 (some (w.heap.size + 2)))) hb5); obtain ⟨q1, q2, q3, _, _⟩ := HK.out _ HG5.out; obtain ⟨⟨r0, r1, r2, r3⟩, _, _, _, _⟩ := cells_of4 q1; obtain ⟨⟨z0, z1, z2, z3⟩, y0, y1, y2, y3⟩ := cells_of4 q2; obtain ⟨⟨x0, x1, x2, x3⟩, f0, f1, f2, f3⟩ := cells_of4 q3; clear q1 q2 q3 ht5 hw5 hu5 hb5)
    all_goals (
      obtain ⟨_, _, _, ta, hbw⟩ := HK.out _ HG5.out
      have hs4 : w.heap.size + 2 ≤ w4.drew.heap.size := by have e1 := HX2.out.size; have e2 := HG4.out.size; show w.heap.size + 2 ≤ w4.heap.size; omega
      have HF := Lib.hid (two_fin (ta.low (by omega)) (HT5.out.low hs4) HW.out HW5.out hbw)
      clear ta hbw hs4
      go_wp2
      (try simp only [Exit.inBlock, Exit.then])
      refine bodyPost_ret (v := .tuple #[tv k n s (.slice a m cap), tv k5 n5 s5 (.slice a5 m5 c5)]) ?_ rfl ?_
      · refine results_cell2 (a := 2) (b := 3) (t := 26) (ad := ⟨w.heap.size, 0, none⟩) (bd := ⟨w.heap.size + 1, 0, none⟩) rfl rfl rfl _ _ ?_ ?_ <;> go_simp
      · exact HF.out _ _ _ _ _ _ _ _)
end Go.Proofs.Ytbechogdijkgjaa
