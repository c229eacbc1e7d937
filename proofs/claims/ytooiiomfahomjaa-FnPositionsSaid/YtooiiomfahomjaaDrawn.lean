/-
  What draws of one term and of two leave; what a call does in every later world. No walk.
-/
import Derived.Test.YtooiiomfahomjaaTermDraw2
namespace Go.Proofs.Ytooiiomfahomjaa
open Go.RowKit

/-- A term that was drawn. -/
def DrawnTerm (w : World) (e : Ending) (w' : World) : Prop :=
  ∃ k n s a m cap t h, e = .returned (tv k n s (.slice a m cap)) ∧ TermAt w' w.heap.size h (tv k n s (.slice a m cap)) t ∧ wT t ≤ 1000 ∧ Below w.heap.size w w'

theorem drawn_fin {w w2 : World} {k n : Int} {s : ByteArray} {a : Option Addr} {m cap : Nat} {t : T} {h : Nat} (ht : TermAt w2 (w.heap.size + 1) h (tv k n s (.slice a m cap)) t) (hw : wT t ≤ 1000) (hb : Below w.heap.size w w2) (v0 v1 v2 v3 : Value) :
    DrawnTerm w (.returned (tv k n s (.slice a m cap))) ((((w2.setCell ⟨w.heap.size, 0, none⟩ v0).setCell ⟨w.heap.size, 1, none⟩ v1).setCell ⟨w.heap.size, 2, none⟩ v2).setCell ⟨w.heap.size, 3, none⟩ v3) := by
  have hg4 : w2.grownBy ((((w2.setCell ⟨w.heap.size, 0, none⟩ v0).setCell ⟨w.heap.size, 1, none⟩ v1).setCell ⟨w.heap.size, 2, none⟩ v2).setCell ⟨w.heap.size, 3, none⟩ v3) (some w.heap.size) :=
    grown_trans (grown_trans (grown_trans (set_grown _ _ _ _) (set_grown _ _ _ _)) (set_grown _ _ _ _)) (set_grown _ _ _ _)
  obtain ⟨k', n', s', u', xs, e1, e2, hs, ha⟩ := ht
  cases e1
  refine ⟨k, n, s, a, m, cap, t, h, rfl, ⟨k, n, s, _, xs, rfl, e2, hs, (ha.grown hg4 (fun j e => by cases e; omega)).low (by omega)⟩, hw, ?_⟩
  exact (((hb.setCell (Nat.le_refl _) _).setCell (Nat.le_refl _) _).setCell (Nat.le_refl _) _).setCell (Nat.le_refl _) _

theorem boxZ_cells' {w wr : World} (hg : (boxZ w).grownBy wr (some (boxZ w).heap.size)) :
    (wr.cell? ⟨w.heap.size, 0, none⟩ = some (.int .i64 0) ∧ wr.cell? ⟨w.heap.size, 1, none⟩ = some (.int .i64 0) ∧ wr.cell? ⟨w.heap.size, 2, none⟩ = some (.string ⟨#[]⟩) ∧ wr.cell? ⟨w.heap.size, 3, none⟩ = some (.slice none 0 0)) ∧
    (wr.frozen? ⟨w.heap.size, 0, none⟩ = false ∧ wr.frozen? ⟨w.heap.size, 1, none⟩ = false ∧ wr.frozen? ⟨w.heap.size, 2, none⟩ = false ∧ wr.frozen? ⟨w.heap.size, 3, none⟩ = false) := by
  have q := hg.block w.heap.size (by simp) (fun e => by simp at e)
  rw [heap_new w (.cells #[.int .i64 0, .int .i64 0, .string ⟨#[]⟩, .slice none 0 0] 26) rfl] at q
  have a0 := cell_of_row wr w.heap.size 0 _ _ _ q
  have a1 := cell_of_row wr w.heap.size 1 _ _ _ q
  have a2 := cell_of_row wr w.heap.size 2 _ _ _ q
  have a3 := cell_of_row wr w.heap.size 3 _ _ _ q
  simp at a0 a1 a2 a3
  exact ⟨⟨a0, a1, a2, a3⟩, frozen_of_row wr w.heap.size 0 _ _ q, frozen_of_row wr w.heap.size 1 _ _ q, frozen_of_row wr w.heap.size 2 _ _ q, frozen_of_row wr w.heap.size 3 _ _ q⟩

/-- What a call does in every world behind W. -/
def Behind (W : World) (f : FuncId) (args : Array Value) (R : Ending → World → Prop) : Prop := ∀ w', Below W.heap.size W w' → Calls Try.prog f args w' (fun e w2 => R e w2 ∧ Below W.heap.size W w2)

theorem results_cell2 {fn : Func} {a b : Tmp} {t : TypeId} {tmps : Array Value} {ad bd : Addr} (h : fn.results = #[.cell a t, .cell b t]) (ha : tmps.getD a undef = .pointer (some ad)) (hb : tmps.getD b undef = .pointer (some bd)) (P : Program) (w : World) {x y : Value}
    (hx : (loadVar t ad).run P w = .ok x w) (hy : (loadVar t bd).run P w = .ok y w) : (results fn tmps).run P w = .ok (.tuple #[x, y]) w := by
  have h2 : tmps[a]?.getD undef = .pointer (some ad) := by rw [← ha]; simp
  have h3 : tmps[b]?.getD undef = .pointer (some bd) := by rw [← hb]; simp
  simp [results, h, h2, h3, asAddr, hx, hy, Result.andThen]

/-- Two terms that were drawn. -/
def DrawnTwo (w : World) (e : Ending) (w' : World) : Prop :=
  ∃ k n s a m c k2 n2 s2 a2 m2 c2 t t2 h h2, e = .returned (.tuple #[tv k n s (.slice a m c), tv k2 n2 s2 (.slice a2 m2 c2)]) ∧ TermAt w' w.heap.size h (tv k n s (.slice a m c)) t ∧ TermAt w' w.heap.size h2 (tv k2 n2 s2 (.slice a2 m2 c2)) t2 ∧ wT t ≤ 1000 ∧ wT t2 ≤ 1000 ∧ Below w.heap.size w w'

abbrev boxZ2 (w : World) : World := boxZ (boxZ w)
/-- Both results stored. -/
abbrev stored2 (X : World) (b : Nat) (v0 v1 v2 v3 u0 u1 u2 u3 : Value) : World :=
  (((((((X.setCell ⟨b, 0, none⟩ v0).setCell ⟨b, 1, none⟩ v1).setCell ⟨b, 2, none⟩ v2).setCell ⟨b, 3, none⟩ v3).setCell ⟨b + 1, 0, none⟩ u0).setCell ⟨b + 1, 1, none⟩ u1).setCell ⟨b + 1, 2, none⟩ u2).setCell ⟨b + 1, 3, none⟩ u3

theorem TermAt.grown {w w' : World} {lo h : Nat} {v : Value} {t : T} {row : Option Nat} (k : TermAt w lo h v t) (hg : w.grownBy w' row) (hr : ∀ j, row = some j → j < lo) : TermAt w' lo h v t := by
  obtain ⟨k', n, s, u, xs, e1, e2, hs, ha⟩ := k
  exact ⟨k', n, s, u, xs, e1, e2, hs, ha.grown hg hr⟩

theorem two_fin {w X : World} {k n : Int} {s : ByteArray} {a : Option Addr} {m c : Nat} {k2 n2 : Int} {s2 : ByteArray} {a2 : Option Addr} {m2 c2 : Nat} {t t2 : T} {h h2 : Nat} (ht : TermAt X (w.heap.size + 2) h (tv k n s (.slice a m c)) t) (ht2 : TermAt X (w.heap.size + 2) h2 (tv k2 n2 s2 (.slice a2 m2 c2)) t2)
    (hw : wT t ≤ 1000) (hw2 : wT t2 ≤ 1000) (hb : Below w.heap.size w X) (v0 v1 v2 v3 u0 u1 u2 u3 : Value) :
    DrawnTwo w (.returned (.tuple #[tv k n s (.slice a m c), tv k2 n2 s2 (.slice a2 m2 c2)])) (stored2 X w.heap.size v0 v1 v2 v3 u0 u1 u2 u3) := by
  have up : ∀ {h : Nat} {v : Value} {t : T}, TermAt X (w.heap.size + 2) h v t → TermAt (stored2 X w.heap.size v0 v1 v2 v3 u0 u1 u2 u3) (w.heap.size + 2) h v t := by
    intro h v t q
    have q1 := q.grown (set_grown X w.heap.size 0 v0) (fun j e => by cases e; omega)
    have q2 := q1.grown (set_grown _ w.heap.size 1 v1) (fun j e => by cases e; omega)
    have q3 := q2.grown (set_grown _ w.heap.size 2 v2) (fun j e => by cases e; omega)
    have q4 := q3.grown (set_grown _ w.heap.size 3 v3) (fun j e => by cases e; omega)
    have q5 := q4.grown (set_grown _ (w.heap.size + 1) 0 u0) (fun j e => by cases e; omega)
    have q6 := q5.grown (set_grown _ (w.heap.size + 1) 1 u1) (fun j e => by cases e; omega)
    have q7 := q6.grown (set_grown _ (w.heap.size + 1) 2 u2) (fun j e => by cases e; omega)
    exact q7.grown (set_grown _ (w.heap.size + 1) 3 u3) (fun j e => by cases e; omega)
  refine ⟨k, n, s, a, m, c, k2, n2, s2, a2, m2, c2, t, t2, h, h2, rfl, (up ht).low (by omega), (up ht2).low (by omega), hw, hw2, ?_⟩
  exact (((((((hb.setCell (Nat.le_refl _) _).setCell (Nat.le_refl _) _).setCell (Nat.le_refl _) _).setCell (Nat.le_refl _) _).setCell (Nat.le_succ _) _).setCell (Nat.le_succ _) _).setCell (Nat.le_succ _) _).setCell (Nat.le_succ _) _

/-- The two results' blocks in a later world. -/
theorem boxZ2_cells {w wr : World} {row : Option Nat} (hg : (boxZ2 w).grownBy wr row) (h1 : some w.heap.size ≠ row) (h2 : some (w.heap.size + 1) ≠ row) :
    wr.heap[w.heap.size]? = some (.cells #[.int .i64 0, .int .i64 0, .string ⟨#[]⟩, .slice none 0 0] 26 (0, 0)) ∧ wr.heap[w.heap.size + 1]? = some (.cells #[.int .i64 0, .int .i64 0, .string ⟨#[]⟩, .slice none 0 0] 26 (0, 0)) := by
  constructor
  · rw [hg.block _ (by simp; omega) h1, Below.heap_alloc _ _ _ (by simp)]
    exact heap_new w _ rfl
  · rw [hg.block _ (by simp) h2]
    exact heap_new _ _ (by simp)

theorem cells_of4 {Y : World} {b : Nat} {x0 x1 x2 x3 : Value} (hb : Y.heap[b]? = some (.cells #[x0, x1, x2, x3] 26 (0, 0))) : (Y.cell? ⟨b, 0, none⟩ = some x0 ∧ Y.cell? ⟨b, 1, none⟩ = some x1 ∧ Y.cell? ⟨b, 2, none⟩ = some x2 ∧ Y.cell? ⟨b, 3, none⟩ = some x3) ∧
    (Y.frozen? ⟨b, 0, none⟩ = false ∧ Y.frozen? ⟨b, 1, none⟩ = false ∧ Y.frozen? ⟨b, 2, none⟩ = false ∧ Y.frozen? ⟨b, 3, none⟩ = false) :=
  ⟨⟨by rw [cell_of_row Y b 0 _ _ _ hb]; rfl, by rw [cell_of_row Y b 1 _ _ _ hb]; rfl, by rw [cell_of_row Y b 2 _ _ _ hb]; rfl, by rw [cell_of_row Y b 3 _ _ _ hb]; rfl⟩, frozen_of_row Y b 0 _ _ hb, frozen_of_row Y b 1 _ _ hb, frozen_of_row Y b 2 _ _ hb, frozen_of_row Y b 3 _ _ hb⟩

end Go.Proofs.Ytooiiomfahomjaa
