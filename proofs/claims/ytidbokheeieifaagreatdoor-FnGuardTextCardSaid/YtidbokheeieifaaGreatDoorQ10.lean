/-
  What draws of one term and of two leave; what a call does in every later world. No walk.
  A term of which all rows below are a call's own and lie apart, with what they hold; a copy in the making: what is still to be copied, and what it will have been worth. No walk.
  Positions: the subterm at one, a term in which it is replaced, all positions of a term. No walk.
  A slice of integers: what it holds; laws.toIntS copies it, laws.eqIntS finds it equal to another.
  spec.l3Copy copies a term into memory of the call's own.
  spec.TermAt returns the subterm at a position.
  What lies below is kept twice. No walk.
  An argument of a law in a block of its own. No walk.
-/
import Derived.Test.YtidbokheeieifaaGreatDoorQ6
import Derived.Test.YtidbokheeieifaaGreatDoorQ8
import Derived.Test.YtidbokheeieifaaGreatDoorQ5
import Derived.Test.YtidbokheeieifaaGreatDoorQ9
import Derived.Lib.Hide
import Derived.OwnWalk
import Derived.WalkLawsBesides
import Derived.BigQuiet
import Derived.Deep.QuietTactic
import Derived.Deep.AppendLies
namespace Go.Proofs.YtidbokheeieifaaGreatDoor
open Go.RowKit

/-- A term that was drawn. -/
def DrawnTerm (w : World) (e : Ending) (w' : World) : Prop :=
  ∃ k n s a m cap t h, e = .returned (tv k n s (.slice a m cap)) ∧ TermAt w' w.heap.size h (tv k n s (.slice a m cap)) t ∧ wT t ≤ 1000 ∧ Below w.heap.size w w'

theorem drawn_fin {w w2 : World} {k n : Int} {s : ByteArray} {a : Option Addr} {m cap : Nat} {t : T} {h : Nat} (ht : TermAt w2 (w.heap.size + 1) h (tv k n s (.slice a m cap)) t) (hw : wT t ≤ 1000) (hb : Below w.heap.size w w2) (v0 v1 v2 v3 : Value) :
    DrawnTerm w (.returned (tv k n s (.slice a m cap))) ((((w2.setCell ⟨w.heap.size, 0, none⟩ v0).setCell ⟨w.heap.size, 1, none⟩ v1).setCell ⟨w.heap.size, 2, none⟩ v2).setCell ⟨w.heap.size, 3, none⟩ v3) := by
  have hg4 : w2.grownBy ((((w2.setCell ⟨w.heap.size, 0, none⟩ v0).setCell ⟨w.heap.size, 1, none⟩ v1).setCell ⟨w.heap.size, 2, none⟩ v2).setCell ⟨w.heap.size, 3, none⟩ v3) (some w.heap.size) :=
    grown_trans (grown_trans (grown_trans (set_grown _ _ _ _) (set_grown _ _ _ _)) (set_grown _ _ _ _)) (set_grown _ _ _ _)
  obtain ⟨k', n', s', u', xs, e1, e2, hs, ha⟩ := ht
  cases e1
  refine ⟨k, n, s, a, m, cap, t, h, rfl, ⟨k, n, s, _, xs, rfl, e2, hs, (ha.grown hg4 (fun j e => by cases e; omega)).low (by omega)⟩, hw, ?_⟩
  exact (((hb.setCell (Nat.le_refl _) _).setCell (Nat.le_refl _) _).setCell (Nat.le_refl _) _).setCell (Nat.le_refl _) _

theorem boxZ_cells' {w wr : World} (hg : (boxZ w).grownBy wr (some (boxZ w).heap.size)) :
    (wr.cell? ⟨w.heap.size, 0, none⟩ = some (.int .i64 0) ∧ wr.cell? ⟨w.heap.size, 1, none⟩ = some (.int .i64 0) ∧ wr.cell? ⟨w.heap.size, 2, none⟩ = some (.string ⟨#[]⟩) ∧ wr.cell? ⟨w.heap.size, 3, none⟩ = some (.slice none 0 0)) ∧
    (wr.frozen? ⟨w.heap.size, 0, none⟩ = false ∧ wr.frozen? ⟨w.heap.size, 1, none⟩ = false ∧ wr.frozen? ⟨w.heap.size, 2, none⟩ = false ∧ wr.frozen? ⟨w.heap.size, 3, none⟩ = false) := by
  have q := hg.block w.heap.size (by simp) (fun e => by simp at e)
  rw [heap_new w (.cells #[.int .i64 0, .int .i64 0, .string ⟨#[]⟩, .slice none 0 0] 26) rfl] at q
  have a0 := cell_of_row wr w.heap.size 0 _ _ _ q
  have a1 := cell_of_row wr w.heap.size 1 _ _ _ q
  have a2 := cell_of_row wr w.heap.size 2 _ _ _ q
  have a3 := cell_of_row wr w.heap.size 3 _ _ _ q
  simp at a0 a1 a2 a3
  exact ⟨⟨a0, a1, a2, a3⟩, frozen_of_row wr w.heap.size 0 _ _ q, frozen_of_row wr w.heap.size 1 _ _ q, frozen_of_row wr w.heap.size 2 _ _ q, frozen_of_row wr w.heap.size 3 _ _ q⟩

/-- What a call does in every world behind W. -/
def Behind (W : World) (f : FuncId) (args : Array Value) (R : Ending → World → Prop) : Prop := ∀ w', Below W.heap.size W w' → Calls Tryz.prog f args w' (fun e w2 => R e w2 ∧ Below W.heap.size W w2)

theorem results_cell2 {fn : Func} {a b : Tmp} {t : TypeId} {tmps : Array Value} {ad bd : Addr} (h : fn.results = #[.cell a t, .cell b t]) (ha : tmps.getD a undef = .pointer (some ad)) (hb : tmps.getD b undef = .pointer (some bd)) (P : Program) (w : World) {x y : Value}
    (hx : (loadVar t ad).run P w = .ok x w) (hy : (loadVar t bd).run P w = .ok y w) : (results fn tmps).run P w = .ok (.tuple #[x, y]) w := by
  have h2 : tmps[a]?.getD undef = .pointer (some ad) := by rw [← ha]; simp
  have h3 : tmps[b]?.getD undef = .pointer (some bd) := by rw [← hb]; simp
  simp [results, h, h2, h3, asAddr, hx, hy, Result.andThen]

/-- Two terms that were drawn. -/
def DrawnTwo (w : World) (e : Ending) (w' : World) : Prop :=
  ∃ k n s a m c k2 n2 s2 a2 m2 c2 t t2 h h2, e = .returned (.tuple #[tv k n s (.slice a m c), tv k2 n2 s2 (.slice a2 m2 c2)]) ∧ TermAt w' w.heap.size h (tv k n s (.slice a m c)) t ∧ TermAt w' w.heap.size h2 (tv k2 n2 s2 (.slice a2 m2 c2)) t2 ∧ wT t ≤ 1000 ∧ wT t2 ≤ 1000 ∧ Below w.heap.size w w'

abbrev boxZ2 (w : World) : World := boxZ (boxZ w)
/-- Both results stored. -/
abbrev stored2 (X : World) (b : Nat) (v0 v1 v2 v3 u0 u1 u2 u3 : Value) : World :=
  (((((((X.setCell ⟨b, 0, none⟩ v0).setCell ⟨b, 1, none⟩ v1).setCell ⟨b, 2, none⟩ v2).setCell ⟨b, 3, none⟩ v3).setCell ⟨b + 1, 0, none⟩ u0).setCell ⟨b + 1, 1, none⟩ u1).setCell ⟨b + 1, 2, none⟩ u2).setCell ⟨b + 1, 3, none⟩ u3

theorem TermAt.grown {w w' : World} {lo h : Nat} {v : Value} {t : T} {row : Option Nat} (k : TermAt w lo h v t) (hg : w.grownBy w' row) (hr : ∀ j, row = some j → j < lo) : TermAt w' lo h v t := by
  obtain ⟨k', n, s, u, xs, e1, e2, hs, ha⟩ := k
  exact ⟨k', n, s, u, xs, e1, e2, hs, ha.grown hg hr⟩

theorem two_fin {w X : World} {k n : Int} {s : ByteArray} {a : Option Addr} {m c : Nat} {k2 n2 : Int} {s2 : ByteArray} {a2 : Option Addr} {m2 c2 : Nat} {t t2 : T} {h h2 : Nat} (ht : TermAt X (w.heap.size + 2) h (tv k n s (.slice a m c)) t) (ht2 : TermAt X (w.heap.size + 2) h2 (tv k2 n2 s2 (.slice a2 m2 c2)) t2)
    (hw : wT t ≤ 1000) (hw2 : wT t2 ≤ 1000) (hb : Below w.heap.size w X) (v0 v1 v2 v3 u0 u1 u2 u3 : Value) :
    DrawnTwo w (.returned (.tuple #[tv k n s (.slice a m c), tv k2 n2 s2 (.slice a2 m2 c2)])) (stored2 X w.heap.size v0 v1 v2 v3 u0 u1 u2 u3) := by
  have up : ∀ {h : Nat} {v : Value} {t : T}, TermAt X (w.heap.size + 2) h v t → TermAt (stored2 X w.heap.size v0 v1 v2 v3 u0 u1 u2 u3) (w.heap.size + 2) h v t := by
    intro h v t q
    have q1 := q.grown (set_grown X w.heap.size 0 v0) (fun j e => by cases e; omega)
    have q2 := q1.grown (set_grown _ w.heap.size 1 v1) (fun j e => by cases e; omega)
    have q3 := q2.grown (set_grown _ w.heap.size 2 v2) (fun j e => by cases e; omega)
    have q4 := q3.grown (set_grown _ w.heap.size 3 v3) (fun j e => by cases e; omega)
    have q5 := q4.grown (set_grown _ (w.heap.size + 1) 0 u0) (fun j e => by cases e; omega)
    have q6 := q5.grown (set_grown _ (w.heap.size + 1) 1 u1) (fun j e => by cases e; omega)
    have q7 := q6.grown (set_grown _ (w.heap.size + 1) 2 u2) (fun j e => by cases e; omega)
    exact q7.grown (set_grown _ (w.heap.size + 1) 3 u3) (fun j e => by cases e; omega)
  refine ⟨k, n, s, a, m, c, k2, n2, s2, a2, m2, c2, t, t2, h, h2, rfl, (up ht).low (by omega), (up ht2).low (by omega), hw, hw2, ?_⟩
  exact (((((((hb.setCell (Nat.le_refl _) _).setCell (Nat.le_refl _) _).setCell (Nat.le_refl _) _).setCell (Nat.le_refl _) _).setCell (Nat.le_succ _) _).setCell (Nat.le_succ _) _).setCell (Nat.le_succ _) _).setCell (Nat.le_succ _) _

/-- The two results' blocks in a later world. -/
theorem boxZ2_cells {w wr : World} {row : Option Nat} (hg : (boxZ2 w).grownBy wr row) (h1 : some w.heap.size ≠ row) (h2 : some (w.heap.size + 1) ≠ row) :
    wr.heap[w.heap.size]? = some (.cells #[.int .i64 0, .int .i64 0, .string ⟨#[]⟩, .slice none 0 0] 26 (0, 0)) ∧ wr.heap[w.heap.size + 1]? = some (.cells #[.int .i64 0, .int .i64 0, .string ⟨#[]⟩, .slice none 0 0] 26 (0, 0)) := by
  constructor
  · rw [hg.block _ (by simp; omega) h1, Below.heap_alloc _ _ _ (by simp)]
    exact heap_new w _ rfl
  · rw [hg.block _ (by simp) h2]
    exact heap_new _ _ (by simp)

theorem cells_of4 {Y : World} {b : Nat} {x0 x1 x2 x3 : Value} (hb : Y.heap[b]? = some (.cells #[x0, x1, x2, x3] 26 (0, 0))) : (Y.cell? ⟨b, 0, none⟩ = some x0 ∧ Y.cell? ⟨b, 1, none⟩ = some x1 ∧ Y.cell? ⟨b, 2, none⟩ = some x2 ∧ Y.cell? ⟨b, 3, none⟩ = some x3) ∧
    (Y.frozen? ⟨b, 0, none⟩ = false ∧ Y.frozen? ⟨b, 1, none⟩ = false ∧ Y.frozen? ⟨b, 2, none⟩ = false ∧ Y.frozen? ⟨b, 3, none⟩ = false) :=
  ⟨⟨by rw [cell_of_row Y b 0 _ _ _ hb]; rfl, by rw [cell_of_row Y b 1 _ _ _ hb]; rfl, by rw [cell_of_row Y b 2 _ _ _ hb]; rfl, by rw [cell_of_row Y b 3 _ _ _ hb]; rfl⟩, frozen_of_row Y b 0 _ _ hb, frozen_of_row Y b 1 _ _ hb, frozen_of_row Y b 2 _ _ hb, frozen_of_row Y b 3 _ _ hb⟩

end Go.Proofs.YtidbokheeieifaaGreatDoor
namespace Go.Proofs.YtidbokheeieifaaGreatDoor
open Go.RowKit

/-- The slice value u holds the terms ts; its rows, and those below, are owned, lie in blocks from lo to hi of which Q holds, and lie apart. -/
def OwnR (Q : Nat → Prop) (w : World) : Nat → Nat → Nat → Value → List T → Prop
  | 0, _, _, u, ts => ts = [] ∧ ∃ a cap, u = .slice a 0 cap
  | h + 1, lo, hi, u, ts => ∃ a cap, u = .slice a ts.length cap ∧ ts.length ≤ maxLen ∧ (ts = [] ∨ ∃ (g : Nat) (xs : List Value) (U : Nat → Value) (L R : Nat → Nat), a = some ⟨g, 0, none⟩ ∧ Q g ∧ lo ≤ g ∧ g < hi ∧ w.ownsRow g 26 4 u ts.length xs ∧
      (∀ i k n s txs, ts[i]? = some (T.node k n s txs) → (s.size ≤ maxLen ∧ xs[i * 4]? = some (.int .i64 k) ∧ xs[i * 4 + 1]? = some (.int .i64 n) ∧ xs[i * 4 + 2]? = some (.string s)) ∧ xs[i * 4 + 3]? = some (U i) ∧ lo ≤ L i ∧ R i ≤ hi ∧ (g < L i ∨ R i ≤ g) ∧ OwnR Q w h (L i) (R i) (U i) txs) ∧
      (∀ i j, i < j → j < ts.length → R i ≤ L j ∨ R j ≤ L i))

theorem OwnR.own {Q : Nat → Prop} {w : World} : ∀ {h lo hi : Nat} {u : Value} {ts : List T}, OwnR Q w h lo hi u ts → OwnA w h lo hi u ts
  | 0, _, _, _, _, k => k
  | h + 1, lo, hi, u, ts, ⟨a, cap, e, _, hc⟩ => by
    refine ⟨a, cap, e, ?_⟩
    rcases hc with hc | ⟨g, xs, U, L, R, ea, _, h1, h2, ho, hx, hd⟩
    · exact Or.inl hc
    · refine Or.inr ⟨g, xs, U, L, R, ea, h1, h2, ho, fun i k n s txs hi => ?_, hd⟩
      obtain ⟨_, x3, l1, l2, l3, hr⟩ := hx i k n s txs hi
      exact ⟨x3, l1, l2, l3, hr.own⟩
theorem OwnR.args {Q : Nat → Prop} {w : World} {m : Nat} : ∀ {h lo hi : Nat} {u : Value} {ts : List T}, m ≤ lo → OwnR Q w h lo hi u ts → ArgsAt w m h u ts
  | 0, _, _, _, _, _, k => k
  | h + 1, lo, hi, u, ts, hm, ⟨a, cap, e, hl, hc⟩ => by
    refine ⟨a, cap, e, hl, ?_⟩
    rcases hc with hc | ⟨g, xs, U, L, R, ea, _, h1, h2, ho, hx, hd⟩
    · exact Or.inl hc
    · subst ea
      subst e
      refine Or.inr ⟨g, 0, rfl, by omega, fun i k n s txs hi => ?_⟩
      obtain ⟨⟨hs, x0, x1, x2⟩, x3, l1, l2, l3, hr⟩ := hx i k n s txs hi
      have hil : i < ts.length := (List.getElem?_eq_some_iff.1 hi).1
      refine ⟨hs, U i, ?_, ?_, ?_, ?_, hr.args (by omega)⟩
      · rw [Nat.zero_add, ho.cellAt (i * 4) (by omega), x0]
      · rw [Nat.zero_add, ho.cellAt (i * 4 + 1) (by omega), x1]
      · rw [Nat.zero_add, ho.cellAt (i * 4 + 2) (by omega), x2]
      · rw [Nat.zero_add, ho.cellAt (i * 4 + 3) (by omega), x3]
theorem OwnR.keep {Q Q' : Nat → Prop} {w w' : World} : ∀ {h lo hi : Nat} {u : Value} {ts : List T}, (∀ b, Q b → lo ≤ b → b < hi → w'.heap[b]? = w.heap[b]? ∧ Q' b) → OwnR Q w h lo hi u ts → OwnR Q' w' h lo hi u ts
  | 0, _, _, _, _, _, k => k
  | h + 1, lo, hi, u, ts, hk, ⟨a, cap, e, hl, hc⟩ => by
    refine ⟨a, cap, e, hl, ?_⟩
    rcases hc with hc | ⟨g, xs, U, L, R, rfl, hq, h1, h2, ho, hx, hd⟩
    · exact Or.inl hc
    · subst e
      refine Or.inr ⟨g, xs, U, L, R, rfl, (hk g hq h1 h2).2, h1, h2, row_keep ho (hk g hq h1 h2).1, fun i k n s txs hi => ?_, hd⟩
      obtain ⟨c, x3, l1, l2, l3, hr⟩ := hx i k n s txs hi
      exact ⟨c, x3, l1, l2, l3, hr.keep (fun b hb b1 b2 => hk b hb (by omega) (by omega))⟩
theorem OwnR.wide {Q : Nat → Prop} {w : World} : ∀ {h lo hi lo' hi' : Nat} {u : Value} {ts : List T}, lo' ≤ lo → hi ≤ hi' → OwnR Q w h lo hi u ts → OwnR Q w h lo' hi' u ts
  | 0, _, _, _, _, _, _, _, _, k => k
  | h + 1, lo, hi, lo', hi', u, ts, w1, w2, ⟨a, cap, e, hl, hc⟩ => by
    refine ⟨a, cap, e, hl, ?_⟩
    rcases hc with hc | ⟨g, xs, U, L, R, ea, hq, h1, h2, ho, hx, hd⟩
    · exact Or.inl hc
    · refine Or.inr ⟨g, xs, U, L, R, ea, hq, by omega, by omega, ho, fun i k n s txs hi => ?_, hd⟩
      obtain ⟨c, x3, l1, l2, l3, hr⟩ := hx i k n s txs hi
      exact ⟨c, x3, by omega, by omega, l3, hr⟩
theorem OwnR.nil (Q : Nat → Prop) (w : World) (h lo hi : Nat) (a : Option Addr) (cap : Nat) : OwnR Q w h lo hi (.slice a 0 cap) [] := by
  cases h with
  | zero => exact ⟨rfl, a, cap, rfl⟩
  | succ h => exact ⟨a, cap, rfl, Nat.zero_le _, Or.inl rfl⟩
theorem OwnR.slice {Q : Nat → Prop} {w : World} {h lo hi : Nat} {u : Value} {ts : List T} (k : OwnR Q w h lo hi u ts) : ∃ a cap, u = .slice a ts.length cap := k.own.slice

/-- A node whose arguments are still those of another term: where it lies, what its fourth cell holds, the terms that are read there. -/
structure Pd where
  b : Nat
  o : Nat
  h : Nat
  u : Value
  xs : List T
/-- A block that is not a slice's own. -/
def NotOwn (v : Value) (g : Nat) : Prop := some g ≠ v.ownBlock

theorem setCell_heap {w w' : World} {ad : Addr} {x : Value} (h : w'.heap[ad.block]? = w.heap[ad.block]?) : (w'.setCell ad x).heap[ad.block]? = (w.setCell ad x).heap[ad.block]? := by
  unfold World.setCell
  simp only [Array.getElem?_modify]
  simp [h]

/-- The node was copied: only its fourth cell has turned, beside the slice v of what is still to do, which may have moved; its arguments lie in new blocks. -/
structure Done (p : Pd) (v : Value) (w : World) (v' : Value) (w' : World) (u' : Value) : Prop where
  size : w.heap.size ≤ w'.heap.size
  keep : ∀ b, b < w.heap.size → b ≠ p.b → NotOwn v b → w'.heap[b]? = w.heap[b]?
  cell : w'.heap[p.b]? = (w.setCell ⟨p.b, p.o + 3, none⟩ u').heap[p.b]?
  ob : v'.ownBlock = v.ownBlock ∨ ∃ k, v'.ownBlock = some k ∧ w.heap.size ≤ k
  own : OwnR (NotOwn v') w' p.h w.heap.size w'.heap.size u' p.xs

/-- What is still to do, the next one first, is worth Fin: once all of it is done, Fin holds. -/
def GoodW (w0 : World) (Pb : Nat → Prop) (Fin : World → Prop) : List Pd → Value → World → Prop
  | [], _, w => Fin w
  | p :: ps, v, w => (w.cell? ⟨p.b, p.o + 3, none⟩ = some p.u ∧ w.frozen? ⟨p.b, p.o + 3, none⟩ = false ∧ Pb p.b ∧ p.b < w.heap.size ∧ NotOwn v p.b ∧ ArgsAt w0 0 p.h p.u p.xs) ∧ ∀ v' w' u', Done p v w v' w' u' → GoodW w0 Pb Fin ps v' w'

/-- An argument of a node whose row of arguments is the call's own. -/
def kid (g h : Nat) (U : Nat → Value) (X : Nat → List T) (j : Nat) : Pd := ⟨g, j * 4, h, U j, X j⟩
def kidL (g h : Nat) (U : Nat → Value) (X : Nat → List T) : Nat → List Pd
  | 0 => []
  | j + 1 => kid g h U X j :: kidL g h U X j

/-- A node whose row was copied, and whose arguments from j on are done. -/
structure Mid (p : Pd) (v : Value) (w : World) (g cap h : Nat) (U : Nat → Value) (j : Nat) (vj : Value) (wj : World) : Prop where
  size : w.heap.size ≤ wj.heap.size
  keep : ∀ b, b < w.heap.size → b ≠ p.b → NotOwn v b → wj.heap[b]? = w.heap[b]?
  cell : wj.heap[p.b]? = (w.setCell ⟨p.b, p.o + 3, none⟩ (.slice (some ⟨g, 0, none⟩) p.xs.length cap)).heap[p.b]?
  ob : vj.ownBlock = v.ownBlock ∨ ∃ k, vj.ownBlock = some k ∧ w.heap.size ≤ k
  gs : g < wj.heap.size
  gn : NotOwn vj g
  row : ∃ (ys : List Value) (V : Nat → Value) (L R : Nat → Nat), wj.ownsRow g 26 4 (.slice (some ⟨g, 0, none⟩) p.xs.length cap) p.xs.length ys ∧
    (∀ i k n s txs, p.xs[i]? = some (.node k n s txs) → (s.size ≤ maxLen ∧ ys[i * 4]? = some (.int .i64 k) ∧ ys[i * 4 + 1]? = some (.int .i64 n) ∧ ys[i * 4 + 2]? = some (.string s)) ∧ (i < j → ys[i * 4 + 3]? = some (U i)) ∧
      (j ≤ i → ys[i * 4 + 3]? = some (V i) ∧ g < L i ∧ w.heap.size ≤ L i ∧ R i ≤ wj.heap.size ∧ OwnR (NotOwn vj) wj h (L i) (R i) (V i) txs)) ∧
    ∀ i i', j ≤ i → i < i' → i' < p.xs.length → R i' ≤ L i

theorem ob_trans {v1 v2 v3 : Value} {n1 n2 : Nat} (hn : n1 ≤ n2) (h1 : v2.ownBlock = v1.ownBlock ∨ ∃ k, v2.ownBlock = some k ∧ n1 ≤ k) (h2 : v3.ownBlock = v2.ownBlock ∨ ∃ k, v3.ownBlock = some k ∧ n2 ≤ k) :
    v3.ownBlock = v1.ownBlock ∨ ∃ k, v3.ownBlock = some k ∧ n1 ≤ k := by
  rcases h2 with h2 | ⟨k, e, hk⟩
  · rw [h2]; exact h1
  · exact Or.inr ⟨k, e, by omega⟩
theorem notOwn_old {v v' : Value} {n b : Nat} (h : v'.ownBlock = v.ownBlock ∨ ∃ k, v'.ownBlock = some k ∧ n ≤ k) (hb : b < n) (hv : NotOwn v b) : NotOwn v' b := by
  unfold NotOwn at *
  rcases h with h | ⟨k, e, hk⟩
  · rw [h]; exact hv
  · rw [e]; intro e2; cases e2; omega

theorem Mid.step {p : Pd} {v : Value} {w : World} {g cap h : Nat} {U : Nat → Value} {X : Nat → List T} {j : Nat} {vj : Value} {wj : World} {v' : Value} {w' : World} {u' : Value} (m : Mid p v w g cap h U (j + 1) vj wj) (d : Done (kid g h U X j) vj wj v' w' u')
    (hg : w.heap.size ≤ g) (hp : p.b < w.heap.size) (hpo : NotOwn v p.b) (hj : j < p.xs.length) (hX : ∀ i k n s txs, p.xs[i]? = some (.node k n s txs) → txs = X i) : Mid p v w g cap h U j v' w' := by
  obtain ⟨ys, V, L, R, ho, hx, hd⟩ := m.row
  have hyl := ho.1
  have dk : ∀ b, b < wj.heap.size → b ≠ g → NotOwn vj b → w'.heap[b]? = wj.heap[b]? := d.keep
  have ms := m.size
  have ds := d.size
  refine ⟨Nat.le_trans m.size d.size, fun b hb hne hno => ?_, ?_, ob_trans m.size m.ob d.ob, Nat.lt_of_lt_of_le m.gs d.size, notOwn_old d.ob m.gs m.gn, ?_⟩
  · exact (dk b (by omega) (by omega) (notOwn_old m.ob hb hno)).trans (m.keep b hb hne hno)
  · exact (dk p.b (by omega) (by omega) (notOwn_old m.ob hp hpo)).trans m.cell
  · have hst := (ho.stored (j * 4 + 3) u').1
    have hrow := row_keep hst (w' := w') (d.cell : w'.heap[g]? = (wj.setCell ⟨g, j * 4 + 3, none⟩ u').heap[g]?)
    refine ⟨ys.set (j * 4 + 3) u', fun i => if i = j then u' else V i, fun i => if i = j then wj.heap.size else L i, fun i => if i = j then w'.heap.size else R i, hrow, fun i k n s txs hi => ?_, fun i i' h1 h2 h3 => ?_⟩
    · obtain ⟨⟨c0, c1, c2, c3⟩, hlo, hhi⟩ := hx i k n s txs hi
      refine ⟨⟨c0, by rw [List.getElem?_set_ne (by omega)]; exact c1, by rw [List.getElem?_set_ne (by omega)]; exact c2, by rw [List.getElem?_set_ne (by omega)]; exact c3⟩, fun hlt => ?_, fun hle => ?_⟩
      · rw [List.getElem?_set_ne (by omega)]; exact hlo (by omega)
      · by_cases e : i = j
        · subst e
          simp only [if_true]
          have hown := d.own
          have hxs : (kid g h U X i).xs = txs := (hX i k n s txs hi).symm
          rw [hxs] at hown
          exact ⟨List.getElem?_set_self (by omega), m.gs, m.size, Nat.le_refl _, hown⟩
        · simp only [if_neg e]
          obtain ⟨x3, l1, l2, l3, hr⟩ := hhi (by omega)
          rw [List.getElem?_set_ne (by omega)]
          exact ⟨x3, l1, l2, by omega, hr.keep (fun b hb b1 b2 => ⟨dk b (by omega) (by omega) hb, notOwn_old d.ob (by omega) hb⟩)⟩
    · by_cases e : i = j
      · subst e
        have e2 : i' ≠ i := by omega
        simp only [if_true, if_neg e2]
        obtain ⟨t, ht⟩ : ∃ t, p.xs[i']? = some t := ⟨_, List.getElem?_eq_getElem h3⟩
        obtain ⟨k, n, s, txs⟩ := t
        obtain ⟨_, _, hhi⟩ := hx i' k n s txs ht
        exact (hhi (by omega)).2.2.2.1
      · have e2 : i' ≠ j := by omega
        simp only [if_neg e, if_neg e2]
        exact hd i i' (by omega) h2 h3

theorem Mid.done {p : Pd} {v : Value} {w : World} {g cap h : Nat} {U : Nat → Value} {vj : Value} {wj : World} (m : Mid p v w g cap h U 0 vj wj) (hg : w.heap.size ≤ g) (hl : p.xs.length ≤ maxLen) (hh : p.h = h + 1) :
    Done p v w vj wj (.slice (some ⟨g, 0, none⟩) p.xs.length cap) := by
  obtain ⟨ys, V, L, R, ho, hx, hd⟩ := m.row
  refine ⟨m.size, m.keep, m.cell, m.ob, ?_⟩
  rw [hh]
  refine ⟨_, cap, rfl, hl, Or.inr ⟨g, ys, V, L, R, rfl, m.gn, hg, m.gs, ho, fun i k n s txs hi => ?_, fun i j h1 h2 => Or.inr (hd i j (Nat.zero_le _) h1 h2)⟩⟩
  obtain ⟨c, _, hhi⟩ := hx i k n s txs hi
  obtain ⟨x3, l1, l2, l3, hr⟩ := hhi (Nat.zero_le _)
  exact ⟨c, x3, l2, l3, Or.inl l1, hr⟩

theorem GoodW.kids {w0 : World} {Pb : Nat → Prop} {Fin : World → Prop} {ps : List Pd} {p : Pd} {v : Value} {w : World} {g cap h : Nat} {U : Nat → Value} {X : Nat → List T}
    (cont : ∀ v' w' u', Done p v w v' w' u' → GoodW w0 Pb Fin ps v' w') (hg : w.heap.size ≤ g) (hn : Pb g) (hp : p.b < w.heap.size) (hpo : NotOwn v p.b) (hl : p.xs.length ≤ maxLen) (hh : p.h = h + 1)
    (hX : ∀ i k n s txs, p.xs[i]? = some (.node k n s txs) → txs = X i ∧ ArgsAt w0 0 h (U i) (X i)) :
    ∀ (j : Nat) (vj : Value) (wj : World), j ≤ p.xs.length → Mid p v w g cap h U j vj wj → GoodW w0 Pb Fin (kidL g h U X j ++ ps) vj wj
  | 0, vj, wj, _, m => cont _ _ _ (m.done hg hl hh)
  | j + 1, vj, wj, hj, m => by
    obtain ⟨t, ht⟩ : ∃ t, p.xs[j]? = some t := ⟨_, List.getElem?_eq_getElem (by omega)⟩
    obtain ⟨k, n, s, txs⟩ := t
    obtain ⟨ys, V, L, R, ho, hx, hd⟩ := m.row
    obtain ⟨_, hlo, _⟩ := hx j k n s txs ht
    refine ⟨⟨?_, ho.frozenAt _, hn, m.gs, m.gn, (hX j k n s txs ht).2⟩, fun v' w' u' d => GoodW.kids cont hg hn hp hpo hl hh hX j v' w' (by omega) (m.step d hg hp hpo (by omega) (fun i k n s txs hi => (hX i k n s txs hi).1))⟩
    show wj.cell? ⟨g, j * 4 + 3, none⟩ = some (U j)
    rw [ho.cellAt (j * 4 + 3) (by omega), hlo (by omega)]
end Go.Proofs.YtidbokheeieifaaGreatDoor
namespace Go.Proofs.YtidbokheeieifaaGreatDoor

/-- The argument with an index. -/
def argT (t : T) (p : Int) : Option T := if 0 ≤ p then (kT t)[p.toNat]? else none
/-- The subterm at a position. -/
def subT : List Int → T → Option T
  | [], t => some t
  | p :: ps, t => (argT t p).bind (subT ps)
theorem subT_nil (t : T) : subT [] t = some t := rfl
theorem subT_cons (p : Int) (ps : List Int) (t : T) : subT (p :: ps) t = (argT t p).bind (subT ps) := rfl
theorem subT_append (ps qs : List Int) (t : T) : subT (ps ++ qs) t = (subT ps t).bind (subT qs) := by
  induction ps generalizing t with
  | nil => rfl
  | cons p ps ih =>
    rw [List.cons_append, subT_cons, subT_cons]
    cases argT t p with
    | none => rfl
    | some x => exact ih x
theorem subT_snoc (ps : List Int) (p : Int) (t : T) : subT (ps ++ [p]) t = (subT ps t).bind (fun x => argT x p) := by
  rw [subT_append]
  congr 1
  funext x
  rw [subT_cons]
  cases argT x p <;> rfl
theorem argT_out {t : T} {p : Int} (h : ¬ (0 ≤ p ∧ p < (kT t).length)) : argT t p = none := by
  unfold argT
  split
  · rw [List.getElem?_eq_none]; omega
  · rfl
theorem argT_in {t : T} {p : Int} (h0 : 0 ≤ p) (h1 : p < (kT t).length) : ∃ j x, p = ((j : Nat) : Int) ∧ (kT t)[j]? = some x ∧ argT t p = some x := by
  refine ⟨p.toNat, _, by omega, List.getElem?_eq_getElem (by omega), ?_⟩
  unfold argT
  rw [if_pos h0]; exact List.getElem?_eq_getElem (by omega)

theorem wS_mem (xs : List T) : ∀ x ∈ xs, wT x ≤ wS xs := by
  induction xs with
  | nil => simp
  | cons y r ih =>
    intro x hx
    simp only [wS, List.map_cons, List.sum_cons]
    rcases List.mem_cons.1 hx with rfl | hx
    · omega
    · have := ih x hx; simp only [wS] at this; omega
theorem wT_kT (t : T) : wS (kT t) ≤ wT t := by
  obtain ⟨k, n, s, xs⟩ := t
  rw [wT_node]; show wS xs ≤ _; omega
theorem argT_mem {t x : T} {p : Int} (h : argT t p = some x) : x ∈ kT t := by
  unfold argT at h
  split at h
  · exact List.mem_of_getElem? h
  · cases h
theorem argT_w {t x : T} {p : Int} (h : argT t p = some x) : wT x ≤ wT t := Nat.le_trans (wS_mem _ x (argT_mem h)) (wT_kT t)
theorem subT_w (ps : List Int) (t x : T) (h : subT ps t = some x) : wT x ≤ wT t := by
  induction ps generalizing t with
  | nil => cases h; exact Nat.le_refl _
  | cons p ps ih =>
    rw [subT_cons] at h
    cases e : argT t p with
    | none => rw [e] at h; cases h
    | some y =>
      rw [e] at h
      exact Nat.le_trans (ih y h) (argT_w e)

/-- A term in which the subterm at a position is replaced. -/
def putT : List Int → T → T → T
  | [], _, u => u
  | p :: ps, .node k n s xs, u => match xs[p.toNat]? with
    | some x => .node k n s (xs.set p.toNat (putT ps x u))
    | none => .node k n s xs
theorem putT_nil (t u : T) : putT [] t u = u := by cases t; rfl
theorem putT_cons (j : Nat) (ps : List Int) (k n : Int) (s : ByteArray) (xs : List T) (x u : T) (h : xs[j]? = some x) : putT ((j : Int) :: ps) (.node k n s xs) u = .node k n s (xs.set j (putT ps x u)) := by
  rw [putT]
  simp only [Int.toNat_natCast, h]

/-- What is there when it is not replaced. -/
theorem putT_self (ps : List Int) (t x : T) (h : subT ps t = some x) : putT ps t x = t := by
  induction ps generalizing t with
  | nil => cases h; exact putT_nil _ _
  | cons p ps ih =>
    rw [subT_cons] at h
    cases e : argT t p with
    | none => rw [e] at h; cases h
    | some y =>
      rw [e] at h
      obtain ⟨k, n, s, xs⟩ := t
      unfold argT at e
      split at e
      · rename_i hp
        obtain ⟨j, rfl⟩ : ∃ j : Nat, p = j := ⟨p.toNat, by omega⟩
        have e' : xs[j]? = some y := by simpa [kT] using e
        rw [putT_cons j ps k n s xs y x e', ih y h]
        congr 1
        have hj := (List.getElem?_eq_some_iff.1 e')
        obtain ⟨hj, hv⟩ := hj
        rw [← hv, List.set_getElem_self]
      · cases e
theorem subT_put (ps : List Int) (t x u : T) (h : subT ps t = some x) : subT ps (putT ps t u) = some u := by
  induction ps generalizing t with
  | nil => rw [putT_nil]; rfl
  | cons p ps ih =>
    rw [subT_cons] at h
    cases e : argT t p with
    | none => rw [e] at h; cases h
    | some y =>
      rw [e] at h
      obtain ⟨k, n, s, xs⟩ := t
      unfold argT at e
      split at e
      · rename_i hp
        obtain ⟨j, rfl⟩ : ∃ j : Nat, p = j := ⟨p.toNat, by omega⟩
        have e' : xs[j]? = some y := by simpa [kT] using e
        have hj := (List.getElem?_eq_some_iff.1 e').1
        rw [putT_cons j ps k n s xs y u e', subT_cons]
        have : argT (.node k n s (xs.set j (putT ps y u))) (j : Int) = some (putT ps y u) := by
          unfold argT
          rw [if_pos hp]
          show (xs.set j (putT ps y u))[(j : Int).toNat]? = _
          rw [Int.toNat_natCast, List.getElem?_set_self hj]
        rw [this]
        exact ih y h
      · cases e

mutual
/-- All positions of a term, in order. -/
def posT : T → List (List Int)
  | .node _ _ _ xs => [] :: posS 0 xs
/-- Those in a list of arguments, from index i on. -/
def posS (i : Nat) : List T → List (List Int)
  | [] => []
  | x :: xs => (posT x).map ((i : Int) :: ·) ++ posS (i + 1) xs
end
theorem posT_node (k n : Int) (s : ByteArray) (xs : List T) : posT (.node k n s xs) = [] :: posS 0 xs := by rw [posT]
theorem posS_nil (i : Nat) : posS i [] = [] := by rw [posS]
theorem posS_cons (i : Nat) (x : T) (xs : List T) : posS i (x :: xs) = (posT x).map ((i : Int) :: ·) ++ posS (i + 1) xs := by rw [posS]
theorem posS_snoc (xs : List T) (i : Nat) (x : T) : posS i (xs ++ [x]) = posS i xs ++ (posT x).map (((i + xs.length : Nat) : Int) :: ·) := by
  induction xs generalizing i with
  | nil => rw [List.nil_append, posS_cons, posS_nil, posS_nil]; simp
  | cons y ys ih =>
    rw [List.cons_append, posS_cons, posS_cons, ih, List.append_assoc, List.length_cons]
    rw [show i + 1 + ys.length = i + (ys.length + 1) by omega]
theorem posT_length : ∀ t : T, (posT t).length = cT t
  | .node k n s xs => by
    have h : ∀ x ∈ xs, (posT x).length = cT x := fun x _ => posT_length x
    rw [posT_node, cT_node, List.length_cons]
    have : ∀ (ys : List T) (i : Nat), (∀ y ∈ ys, (posT y).length = cT y) → (posS i ys).length = cS ys := by
      intro ys
      induction ys with
      | nil => intro i _; rw [posS_nil]; rfl
      | cons y ys ih =>
        intro i hy
        rw [posS_cons, List.length_append, List.length_map, hy y (by simp), ih (i + 1) (fun z hz => hy z (by simp [hz]))]
        simp [cS]
    rw [this xs 0 h]; omega

/-- Every one of them is a position. -/
theorem posT_sub : ∀ (t : T), ∀ p ∈ posT t, ∃ x, subT p t = some x
  | .node k n s xs => by
    have h : ∀ x ∈ xs, ∀ p ∈ posT x, ∃ y, subT p x = some y := fun x _ => posT_sub x
    intro p hp
    rw [posT_node, List.mem_cons] at hp
    rcases hp with rfl | hp
    · exact ⟨_, rfl⟩
    · have key : ∀ (ys : List T) (i : Nat), (∀ y ∈ ys, ∀ p ∈ posT y, ∃ z, subT p y = some z) → ∀ p ∈ posS i ys, ∃ j q y, p = ((i + j : Nat) : Int) :: q ∧ ys[j]? = some y ∧ ∃ z, subT q y = some z := by
        intro ys
        induction ys with
        | nil => intro i _ p hp; rw [posS_nil] at hp; cases hp
        | cons y ys ih =>
          intro i hy p hp
          rw [posS_cons, List.mem_append, List.mem_map] at hp
          rcases hp with ⟨q, hq, rfl⟩ | hp
          · exact ⟨0, q, y, rfl, rfl, hy y (by simp) q hq⟩
          · obtain ⟨j, q, z, rfl, hj, hz⟩ := ih (i + 1) (fun z hz => hy z (by simp [hz])) p hp
            exact ⟨j + 1, q, z, by rw [show i + 1 + j = i + (j + 1) by omega], by simpa using hj, hz⟩
      obtain ⟨j, q, y, rfl, hj, z, hz⟩ := key xs 0 h p hp
      refine ⟨z, ?_⟩
      rw [subT_cons]
      have : argT (.node k n s xs) ((0 + j : Nat) : Int) = some y := by
        unfold argT
        rw [if_pos (by omega), Int.toNat_natCast, Nat.zero_add]
        exact hj
      rw [this]; exact hz
end Go.Proofs.YtidbokheeieifaaGreatDoor
namespace Go.Proofs.YtidbokheeieifaaGreatDoor
open Go.RowKit

/-- An int's value. -/
abbrev iv (z : Int) : Value := .int .i64 z
/-- The slice value v holds the integers ps. -/
def IntsAt (w : World) (v : Value) (ps : List Int) : Prop :=
  ∃ a cap, v = .slice a ps.length cap ∧ ps.length ≤ cap ∧ (ps = [] ∨ ∃ b o, a = some ⟨b, o, none⟩ ∧ ∀ i p, ps[i]? = some p → w.cell? ⟨b, o + i, none⟩ = some (iv p))

theorem IntsAt.of_owns {w : World} {B : Nat} {e : TypeId} {v : Value} {ps : List Int} (h : w.ownsRow B e 1 v ps.length (ps.map iv)) : IntsAt w v ps := by
  rcases h.2 with ⟨rfl, h0⟩ | ⟨g, cap, cur, rfl, _, _, hn, _, _, _⟩
  · exact ⟨none, 0, by rw [h0], by omega, Or.inl (List.eq_nil_of_length_eq_zero h0)⟩
  · refine ⟨_, cap, rfl, hn, Or.inr ⟨g, 0, rfl, fun i p hp => ?_⟩⟩
    have hi : i < ps.length := (List.getElem?_eq_some_iff.1 hp).1
    rw [Nat.zero_add, h.cellAt i (by omega)]
    simp [hp]
theorem IntsAt.keep {w w' : World} {v : Value} {ps : List Int} (h : IntsAt w v ps) (hk : ∀ (ad : Addr) x, (∀ a n c, v = .slice (some a) n c → a.block = ad.block) → w.cell? ad = some x → w'.cell? ad = some x) : IntsAt w' v ps := by
  obtain ⟨a, cap, rfl, hc, h⟩ := h
  refine ⟨a, cap, rfl, hc, ?_⟩
  rcases h with h | ⟨b, o, rfl, h⟩
  · exact Or.inl h
  · exact Or.inr ⟨b, o, rfl, fun i p hp => hk _ _ (fun a n c e => by cases e; rfl) (h i p hp)⟩
theorem IntsAt.below {w w' : World} {v : Value} {ps : List Int} (h : IntsAt w v ps) (hb : Below w.heap.size w w') : IntsAt w' v ps :=
  h.keep fun ad x _ hc => by rw [hb.cell (World.block_lt_of_cell? w _ hc)]; exact hc
theorem IntsAt.slice {w : World} {v : Value} {ps : List Int} (h : IntsAt w v ps) : ∃ a cap, v = .slice a ps.length cap := by
  obtain ⟨a, cap, e, _⟩ := h; exact ⟨a, cap, e⟩
theorem IntsAt.at {w : World} {a : Option Addr} {n cap : Nat} {ps : List Int} (h : IntsAt w (.slice a n cap) ps) {i : Nat} {p : Int} (hp : ps[i]? = some p) : ∃ b o, a = some ⟨b, o, none⟩ ∧ w.cell? ⟨b, o + i, none⟩ = some (iv p) := by
  obtain ⟨a', cap', e, _, h⟩ := h
  cases e
  rcases h with rfl | ⟨b, o, rfl, h⟩
  · simp at hp
  · exact ⟨b, o, rfl, h i p hp⟩
theorem IntsAt.len {w : World} {a : Option Addr} {n cap : Nat} {ps : List Int} (h : IntsAt w (.slice a n cap) ps) : n = ps.length := by
  obtain ⟨a', cap', e, _, h⟩ := h; cases e; rfl
theorem IntsAt.cap {w : World} {a : Option Addr} {n cap : Nat} {ps : List Int} (h : IntsAt w (.slice a n cap) ps) : n ≤ cap := by
  obtain ⟨a', cap', e, hc, h⟩ := h; cases e; exact hc
theorem IntsAt.tail {w : World} {b o n cap : Nat} {p : Int} {ps : List Int} (h : IntsAt w (.slice (some ⟨b, o, none⟩) n cap) (p :: ps)) : IntsAt w (.slice (some ⟨b, o + 1, none⟩) ps.length (cap - 1)) ps := by
  have hc := h.cap
  have hl := h.len
  simp at hl
  refine ⟨_, _, rfl, by omega, Or.inr ⟨b, o + 1, rfl, fun j q hq => ?_⟩⟩
  obtain ⟨b', o', e, hx⟩ := h.at (i := j + 1) (p := q) (by simpa using hq)
  cases e
  rw [show o + 1 + j = o + (j + 1) by omega]; exact hx

theorem infoInt : (Tryz.prog.info? 3).map (fun i => (i.zero, i.size, i.bytes)) = some (some (iv 0), 1, 8) := by kernel_rfl

/-- A copy of the integers, in a slice of the call's own. -/
def CopyI (ps : List Int) (w : World) (e : Ending) (w' : World) : Prop :=
  ∃ v, e = .returned v ∧ w'.ownsRow w.heap.size 3 1 v ps.length (ps.map iv) ∧ Below w.heap.size w w'

theorem takeI (ps : List Int) (k : Nat) (p : Int) (h : ps[k]? = some p) : ps.take (k + 1) = ps.take k ++ [p] := by
  rw [List.take_add_one, h]; rfl
theorem copyI_set (ps : List Int) (ys : List Value) (k : Nat) (p : Int) (hp : ps[k]? = some p) (hy : k < ys.length) :
    ((ps.take k).map iv ++ ys.drop k).set k (iv p) = (ps.take (k + 1)).map iv ++ ys.drop (k + 1) := by
  have hk : k < ps.length := (List.getElem?_eq_some_iff.1 hp).1
  have hl : ((ps.take k).map iv).length = k := by simp; omega
  rw [List.set_append_right _ _ (by omega), hl, Nat.sub_self, takeI ps k p hp, List.drop_eq_getElem_cons hy, List.set_cons_zero, List.map_append, List.append_assoc]
  rfl

/-- An answer that leaves what was there. -/
def TrueI (w : World) (e : Ending) (w' : World) : Prop := e = .returned (.bool true) ∧ Below w.heap.size w w'

end Go.Proofs.YtidbokheeieifaaGreatDoor
namespace Go.Proofs.YtidbokheeieifaaGreatDoor
open Go.RowKit

theorem len_cSc : ∀ xs : List T, xs.length ≤ cS xs
  | [] => by simp [cS]
  | x :: xs => by
    have h1 := len_cSc xs
    have h2 : 1 ≤ cT x := by obtain ⟨k, n, s, ys⟩ := x; rw [cT_node]; omega
    simp only [cS, List.map_cons, List.sum_cons, List.length_cons] at *
    omega
theorem cT_atc (ts : List T) (k : Nat) (t : T) (h : ts[k]? = some t) : cS (ts.take k) + cT t ≤ cS ts := by
  have h1 := cS_take ts (k + 1)
  rw [tk ts k t h, cS_snoc] at h1
  exact h1
/-- A copy in new blocks. -/
def LCopyT (h : Nat) (t : T) (w : World) (e : Ending) (w' : World) : Prop := ∃ k n s a m c, e = .returned (tv k n s (.slice a m c)) ∧ TermAt w' w.heap.size h (tv k n s (.slice a m c)) t ∧ Below w.heap.size w w'
/-- The same, of which the row of the arguments is the call's own. -/
def LCopyO (h : Nat) (t : T) (w : World) (e : Ending) (w' : World) : Prop := ∃ k n s a m c xs vs, e = .returned (tv k n s (.slice a m c)) ∧ t = .node k n s xs ∧ s.size ≤ maxLen ∧ m = xs.length ∧ m ≤ maxLen ∧ (h = 0 → xs = []) ∧
  w'.ownsRow w.heap.size 26 4 (.slice a m c) m vs ∧ RowP (fun j => w.heap.size ≤ j ∧ some j ≠ (Value.slice a m c).ownBlock ∧ j < w'.heap.size) w' (h - 1) xs vs ∧ Below w.heap.size w w'
theorem LCopyO.args {w' : World} {B h : Nat} {u : Value} {xs : List T} {vs : List Value} {P : Nat → Prop} (ho : w'.ownsRow B 26 4 u xs.length vs) (hl : xs.length ≤ maxLen) (h0 : h = 0 → xs = []) (hP : ∀ j, P j → B ≤ j) (hr : RowP P w' (h - 1) xs vs) : ArgsAt w' B h u xs := by
  have h1 := hr.args ho rfl hl hP (Nat.le_refl _)
  cases h with
  | zero =>
    have := h0 rfl
    subst this
    obtain ⟨a, c, e⟩ := own_form' ho
    subst e
    exact ArgsAt.nil _ _ _ _ _
  | succ h => exact h1
theorem LCopyO.toT {h : Nat} {t : T} {w : World} {e : Ending} {w' : World} (c : LCopyO h t w e w') : LCopyT h t w e w' := by
  obtain ⟨k, n, s, a, m, cc, xs, vs, rfl, rfl, hs, rfl, hl, h0, ho, hr, hb⟩ := c
  exact ⟨k, n, s, a, _, cc, rfl, ⟨k, n, s, _, xs, rfl, rfl, hs, LCopyO.args ho hl h0 (fun j hj => hj.1) hr⟩, hb⟩
def LCopyAt (h : Nat) : Prop := ∀ (v : Value) (t : T) (lo : Nat) (w : World), TermAt w lo h v t → cT t ≤ 4294967296 → Calls Tryz.prog 89 #[v] w (LCopyO h t w)

/-- How far the copy of the arguments has come. -/
def LCRel (lo h k : Nat) (ts : List T) (v : Value) (w wr : World) : Prop :=
  ∃ vs, wr.ownsRow lo 26 4 v k vs ∧ RowP (fun j => lo ≤ j ∧ some j ≠ v.ownBlock ∧ j < wr.heap.size) wr (h - 1) (ts.take k) vs ∧ Below lo w wr

theorem lcopy_fin {w wr : World} {k n : Int} {s : ByteArray} {a : Option Addr} {m c h : Nat} {xs : List T} {vs : List Value} {v0 v1 v2 v3 v4 : Value} (hs : s.size ≤ maxLen) (hm : m = xs.length) (hl : m ≤ maxLen) (h0 : h = 0 → xs = []) (ho : wr.ownsRow (w.heap.size + 2) 26 4 (.slice a m c) m vs)
    (hr : RowP (fun j => w.heap.size + 2 ≤ j ∧ some j ≠ (Value.slice a m c).ownBlock ∧ j < wr.heap.size) wr (h - 1) xs vs) (hb : Below w.heap.size w wr) :
    LCopyO h (.node k n s xs) w (.returned (tv k n s (.slice a m c))) (((((wr.setCell ⟨w.heap.size, 3, none⟩ v4).setCell ⟨w.heap.size + 1, 0, none⟩ v0).setCell ⟨w.heap.size + 1, 1, none⟩ v1).setCell ⟨w.heap.size + 1, 2, none⟩ v2).setCell ⟨w.heap.size + 1, 3, none⟩ v3) := by
  have st : ∀ (W : World) (g j : Nat) (v : Value), g < w.heap.size + 2 → W.ownsRow (w.heap.size + 2) 26 4 (.slice a m c) m vs ∧ RowP (fun j => w.heap.size + 2 ≤ j ∧ some j ≠ (Value.slice a m c).ownBlock ∧ j < wr.heap.size) W (h - 1) xs vs →
      (W.setCell ⟨g, j, none⟩ v).ownsRow (w.heap.size + 2) 26 4 (.slice a m c) m vs ∧ RowP (fun j => w.heap.size + 2 ≤ j ∧ some j ≠ (Value.slice a m c).ownBlock ∧ j < wr.heap.size) (W.setCell ⟨g, j, none⟩ v) (h - 1) xs vs := by
    intro W g j v hg ⟨o, r⟩
    refine ⟨keep_above o (u := .slice (some ⟨g, 0, none⟩) 0 0) (fun k hk => by simp [Value.ownBlock] at hk; omega) (by simpa [Value.ownBlock] using set_grown W g j v), r.keep fun ad x hP hx => (set_grown W g j v).cell hx (fun e => by cases e; have := hP.1; omega)⟩
  obtain ⟨o5, r5⟩ := st _ (w.heap.size + 1) 3 v3 (by omega) (st _ (w.heap.size + 1) 2 v2 (by omega) (st _ (w.heap.size + 1) 1 v1 (by omega) (st _ (w.heap.size + 1) 0 v0 (by omega) (st wr w.heap.size 3 v4 (by omega) ⟨ho, hr⟩))))
  exact ⟨k, n, s, a, m, c, xs, vs, rfl, rfl, hs, hm, hl, h0, own_low o5 (by omega), r5.imp (fun j hj => ⟨by omega, hj.2.1, by simpa [World.setCell] using hj.2.2⟩),
    ((((hb.setCell (Nat.le_refl _) _).setCell (Nat.le_succ _) _).setCell (Nat.le_succ _) _).setCell (Nat.le_succ _) _).setCell (Nat.le_succ _) _⟩

set_option maxRecDepth 100000 in
set_option maxHeartbeats 3200000 in
theorem lcopy_step (h : Nat) (IH : ∀ h', h = h' + 1 → LCopyAt h') : LCopyAt h := by
  intro v t lo w ht hw
  obtain ⟨k, n, s, u, xs, rfl, rfl, hs, ha⟩ := ht
  obtain ⟨a, cap, rfl⟩ := ha.slice
  obtain ⟨i0, hi, hz0, hz1, hz2⟩ := info_parts infoTermD
  have HI := Lib.hid hi; clear hi
  have HZ0 := Lib.hid hz0; clear hz0
  have HZ1 := Lib.hid hz1; clear hz1
  have HZ2 := Lib.hid hz2; clear hz2
  have HS := Lib.hid hs; clear hs
  have HA := Lib.hid ha; clear ha
  have HW : Hid (1 + cS xs ≤ 4294967296 ∧ xs.length ≤ cS xs) := Lib.hid ⟨by rw [cT_node] at hw; exact hw, len_cSc xs⟩
  clear hw
  have HIH := Lib.hid IH; clear IH
  obtain ⟨m, hm⟩ : ∃ m, m = xs.length := ⟨_, rfl⟩
  have hml : m ≤ 4294967296 := by have := HW.out; omega
  rw [← hm] at HA ⊢
  have HM := Lib.hid hm; clear hm
  obtain ⟨W0, hW0⟩ : ∃ W0, W0 = ((boxed w k n s (.slice a m cap)).alloc (.cells #[.int .i64 0, .int .i64 0, .string ⟨#[]⟩, .slice none 0 0] 26)).alloc (.cells #[] 26) := ⟨_, rfl⟩
  have hs0 : W0.heap.size = w.heap.size + 3 := by rw [hW0]; simp
  have hB0 : Below w.heap.size w W0 := by rw [hW0]; exact ((boxed_below w k n s _).alloc (by simp) _).alloc (by simp; omega) _
  have r0 : W0.heap[w.heap.size]? = some (.cells #[.int .i64 k, .int .i64 n, .string s, .slice a m cap] 26 (0, 0)) := by
    rw [hW0, Below.heap_alloc _ _ _ (by simp; omega), Below.heap_alloc _ _ _ (by simp)]; exact heap_new w _ rfl
  have r1 : W0.heap[w.heap.size + 1]? = some (.cells #[.int .i64 0, .int .i64 0, .string ⟨#[]⟩, .slice none 0 0] 26 (0, 0)) := by
    rw [hW0, Below.heap_alloc _ _ _ (by simp)]; exact heap_new _ _ (by simp)
  have ho0 : W0.ownsRow (w.heap.size + 2) 26 4 (.slice (some ⟨w.heap.size + 2, 0, none⟩) 0 0) 0 [] := by
    rw [hW0]
    have e : ((boxed w k n s (.slice a m cap)).alloc (.cells #[.int .i64 0, .int .i64 0, .string ⟨#[]⟩, .slice none 0 0] 26)).heap.size = w.heap.size + 2 := by simp
    have := World.ownsRow_lit (base := w.heap.size + 2) (size := 4) (e := 26) ((boxed w k n s (.slice a m cap)).alloc (.cells #[.int .i64 0, .int .i64 0, .string ⟨#[]⟩, .slice none 0 0] 26)) #[] 0 (by rw [e]; omega) (by decide) rfl
    rw [e] at this
    exact this
  have HR0 : Hid (LCRel (w.heap.size + 2) h 0 xs (.slice (some ⟨w.heap.size + 2, 0, none⟩) 0 0) W0 W0) := Lib.hid ⟨[], ho0, rfl, Below.refl _ _⟩
  have HB0 := Lib.hid hB0
  have HS0 := Lib.hid hs0
  have HRR := Lib.hid (And.intro r0 r1)
  clear ho0 hB0 hs0 r0 r1
  go_enter Tryz.func89, Tryz.ntmps89
  go_wp2
  rw [← hW0]
  clear hW0
  go_loopw [3, 4] (fun v i wr => ∃ j : Nat, j ≤ m ∧ i = .int .i64 j ∧ (∃ va vc, v = .slice va j vc) ∧ Hid (LCRel (w.heap.size + 2) h j xs v W0 wr)) (fun _ i _ => m - (intOf i).toNat)
  case atStart => exact ⟨0, Nat.zero_le _, rfl, ⟨_, _, rfl⟩, HR0⟩
  case round =>
    clear HR0
    obtain ⟨j, hj, rfl, ⟨va, vc, rfl⟩, HR⟩ := hrel
    obtain ⟨vs, ho, hrp, hbl⟩ := HR.out
    have q0 := (hbl.block w.heap.size (by omega)).trans HRR.out.1
    have q1 := (hbl.block (w.heap.size + 1) (by omega)).trans HRR.out.2
    have c3 := cell_of_row wr w.heap.size 3 _ _ _ q0
    simp at c3
    have hzr : w.heap.size + 3 ≤ wr.heap.size := by have := HS0.out; have := hbl.size; omega
    have HQ := Lib.hid (And.intro q0 q1); clear q0 q1
    have HO := Lib.hid ho; clear ho
    have HP := Lib.hid hrp; clear hrp
    have HB := Lib.hid hbl; clear hbl
    by_cases hlt : j < m
    · obtain ⟨x, hx⟩ : ∃ x, xs[j]? = some x := ⟨_, List.getElem?_eq_getElem (by have := HM.out; omega)⟩
      obtain ⟨h', b, o, tk', tn, tsn, txs, u', e, rfl, rfl, hsz, p0, p1, p2, p3, har⟩ := HA.out.at hx
      obtain ⟨ua, uc, rfl⟩ := har.slice
      have hbw : Below w.heap.size w wr := HB0.out.trans (HB.out.mono (by omega))
      have d0 := cell_on hbw p0
      have d1 := cell_on hbw p1
      have d2 := cell_on hbw p2
      have d3 := cell_on hbw p3
      have hwt := cT_atc xs j _ hx
      have HCALL := Lib.hid ((HIH.out h' e _ _ lo wr ⟨tk', tn, tsn, _, txs, rfl, rfl, hsz, har.below hbw⟩ (by have := HW.out; omega)).mono fun _ _ q => LCopyO.toT q)
      have HTK : Hid (xs.take (j + 1) = xs.take j ++ [.node tk' tn tsn txs]) := Lib.hid (tk xs j _ hx)
      have HE := Lib.hid e
      clear hwt har hsz e p0 p1 p2 p3 hx hbw
      go_wp2_with fail
      refine HCALL.out.mono ?_
      rintro e w2 ⟨k2, n2, s2, a2, m2, c2', rfl, ht2, hb2⟩
      obtain ⟨_, _, _, _, ys, e1, e2, hs2, ha2⟩ := ht2
      cases e1
      cases e2
      have HA2 := Lib.hid (And.intro hs2 ha2); clear hs2 ha2
      have HO2 := Lib.hid (keep_own HO.out hb2)
      have HB2 := Lib.hid hb2; clear hb2
      go_wp2_with (first | (at_builtin; refine wpList_append_lies _ rfl (.tmp 13) (.tmp 20) 24 rfl (w.heap.size + 2) 26 i0 (.agg #[.int .i64 0, .int .i64 0, .string ByteArray.empty, .slice none 0 0]) 4 56 Tryz.underlying24 HI.out HZ0.out HZ1.out HZ2.out rfl (by decide) _ _ _ rfl (HO2.out.alloc _) ⟨w2.heap.size, 0, none⟩ 1 1 [.int .i64 tk', .int .i64 tn, .string tsn, .slice a2 m2 c2'] rfl rfl (news4' _ _ _ _ _ _ rfl) (by simp [Value.oneCell']) (by decide) (by unfold maxLen; omega) (by omega) (Nat.le_trans (by omega : w.heap.size + 2 ≤ wr.heap.size) (Nat.le_trans HB2.out.size (by simp))) _ rfl ?_))
      intro g cap3 w3 hown hgr hat hlt3
      have hown1 := (HO.out.lt)
      have hst : LCRel (w.heap.size + 2) h (j + 1) xs (.slice (some ⟨g, 0, none⟩) (j + 1) cap3) W0 w3 := by
        have hw2 := HB2.out.size
        have hza : (w2.alloc (.cells #[.int .i64 tk', .int .i64 tn, .string tsn, .slice a2 m2 c2'] 26)).heap.size = w2.heap.size + 1 := by simp
        have hw3 := hgr.size
        have hc3 : ∀ (ad : Addr) v, some ad.block ≠ (Value.slice va j vc).ownBlock → w2.cell? ad = some v → w3.cell? ad = some v := fun ad v hne hv => hgr.cell (cell_on ((Below.refl _ _).alloc (Nat.le_refl _) _) hv) hne
        refine ⟨_, hown, ?_, ?_⟩
        · rw [HTK.out]
          have e1 : h - 1 = h' := by have := HE.out; omega
          have hp := HP.out
          rw [e1] at hp ⊢
          refine RowP.snoc HA2.out.1 ?_ ((hp.keep (fun ad v hP hv => hc3 ad v hP.2.1 (cell_on HB2.out hv))).imp (fun i hP => ⟨hP.1, ?_, ?_⟩))
          · have h1 : ArgsP (fun i => wr.heap.size ≤ i ∧ i < w2.heap.size) w2 h' (.slice a2 m2 c2') txs := ArgsP.of (fun i h1 h2 => ⟨h1, h2⟩) HA2.out.2
            refine (h1.keep (fun ad v hP hv => hc3 ad v (fun e => ?_) hv)).imp (fun i hP => ⟨by omega, fun e => ?_, by omega⟩)
            · have := (HO.out.lt _ e.symm).2
              omega
            · have e2 : i = g := by simpa [Value.ownBlock] using e
              rcases hat with h2 | h2
              · have := (HO.out.lt _ h2).2
                omega
              · omega
          · intro e
            have e2 : i = g := by simpa [Value.ownBlock] using e
            rcases hat with h2 | h2
            · exact hP.2.1 (by rw [h2, e2])
            · have := hP.2.2
              omega
          · have := hP.2.2
            omega
        · have h1 : Below (w.heap.size + 2) W0 w2 := HB.out.trans (HB2.out.mono (by omega))
          have h2 := h1.alloc (by omega) (.cells #[.int .i64 tk', .int .i64 tn, .string tsn, .slice a2 m2 c2'] 26)
          exact h2.grown hgr (by omega) (fun i hi => (HO.out.lt _ hi).1)
      have HST := Lib.hid hst
      clear hst hown1 hown hgr hat hlt3
      go_wp2
      go_roundw
      case rel => exact ⟨j + 1, by omega, by go_num, ⟨_, _, rfl⟩, HST⟩
      case measure => simp [intOf]; omega
    · have hjm : j = m := by omega
      subst hjm
      have q0 := HQ.out.1
      have q1 := HQ.out.2
      have e0 := cell_of_row wr w.heap.size 0 _ _ _ q0
      have e1 := cell_of_row wr w.heap.size 1 _ _ _ q0
      have e2 := cell_of_row wr w.heap.size 2 _ _ _ q0
      have g3 := frozen_of_row wr w.heap.size 3 _ _ q0
      have z0 := cell_of_row wr (w.heap.size + 1) 0 _ _ _ q1
      have z1 := cell_of_row wr (w.heap.size + 1) 1 _ _ _ q1
      have z2 := cell_of_row wr (w.heap.size + 1) 2 _ _ _ q1
      have z3 := cell_of_row wr (w.heap.size + 1) 3 _ _ _ q1
      have y0 := frozen_of_row wr (w.heap.size + 1) 0 _ _ q1
      have y1 := frozen_of_row wr (w.heap.size + 1) 1 _ _ q1
      have y2 := frozen_of_row wr (w.heap.size + 1) 2 _ _ q1
      have y3 := frozen_of_row wr (w.heap.size + 1) 3 _ _ q1
      simp at e0 e1 e2 z0 z1 z2 z3
      clear q0 q1
      have hp := HP.out
      rw [show xs.take j = xs from by rw [List.take_of_length_le]; have := HM.out; omega] at hp
      have h0 : h = 0 → xs = [] := fun e => by
        subst e
        exact HA.out.1
      have HF := Lib.hid (fun v0 v1 v2 v3 v4 => lcopy_fin (v0 := v0) (v1 := v1) (v2 := v2) (v3 := v3) (v4 := v4) (k := k) (n := n) (w := w) HS.out HM.out (by unfold maxLen; omega) h0 HO.out hp (HB0.out.trans (HB.out.mono (by omega))))
      clear hp h0
      go_wp2
      (try simp only [Exit.inBlock, Exit.then])
      refine bodyPost_ret (v := tv k n s (.slice va j vc)) ?hr rfl ?_
      case hr =>
        rw [results_cell (a := 2) (t := 26) (ad := ⟨w.heap.size + 1, 0, none⟩) rfl rfl]
        go_simp
      exact HF.out _ _ _ _ _

theorem lcopyO_anyK (h : Nat) : LCopyAt h := by_height lcopy_step h
theorem lcopy_anyK (h : Nat) (v : Value) (t : T) (lo : Nat) (w : World) (ht : TermAt w lo h v t) (hw : cT t ≤ 4294967296) : Calls Tryz.prog 89 #[v] w (LCopyT h t w) :=
  (lcopyO_anyK h v t lo w ht hw).mono fun _ _ q => LCopyO.toT q
theorem lcopyO_any (h : Nat) (v : Value) (t : T) (lo : Nat) (w : World) (ht : TermAt w lo h v t) (hw : wT t ≤ 1048576) : Calls Tryz.prog 89 #[v] w (LCopyO h t w) := lcopyO_anyK h v t lo w ht (by have := cT_le t; omega)
theorem lcopy_any (h : Nat) (v : Value) (t : T) (lo : Nat) (w : World) (ht : TermAt w lo h v t) (hw : wT t ≤ 1048576) : Calls Tryz.prog 89 #[v] w (LCopyT h t w) := lcopy_anyK h v t lo w ht (by have := cT_le t; omega)
end Go.Proofs.YtidbokheeieifaaGreatDoor
namespace Go.Proofs.YtidbokheeieifaaGreatDoor
open Go.RowKit

theorem in_any (a b c : Int) (w : World) : Calls Tryz.prog 45 #[.int .i64 a, .int .i64 b, .int .i64 c] w (fun e w' => e = .returned (.bool (decide (b ≤ a) && decide (a ≤ c))) ∧ w' = w) := by
  by_cases h1 : b ≤ a
  · have h1' : decide (b ≤ a) = true := by simpa using h1
    by_cases h2 : a ≤ c
    · have h2' : decide (a ≤ c) = true := by simpa using h2
      go_enter Tryz.func45, Tryz.ntmps45
      go_wp2
      go_ret
      exact ⟨by simp [h1, h2], rfl⟩
    · have h2' : decide (a ≤ c) = false := by simpa using h2
      go_enter Tryz.func45, Tryz.ntmps45
      go_wp2
      go_ret
      exact ⟨by simp [h1, h2], rfl⟩
  · have h1' : decide (b ≤ a) = false := by simpa using h1
    go_enter Tryz.func45, Tryz.ntmps45
    go_wp2
    go_ret
    exact ⟨by simp [h1], rfl⟩

theorem results_ct {fn : Func} {a b : Tmp} {t : TypeId} {tmps : Array Value} {ad : Addr} (h : fn.results = #[.cell a t, .tmp b]) (ha : tmps.getD a undef = .pointer (some ad)) (P : Program) (w : World) {x : Value}
    (hx : (loadVar t ad).run P w = .ok x w) : (results fn tmps).run P w = .ok (.tuple #[x, tmps.getD b undef]) w := by
  have h2 : tmps[a]?.getD undef = .pointer (some ad) := by rw [← ha]; simp
  simp [results, h, h2, asAddr, hx, Result.andThen]

/-- The zero term. -/
abbrev zT : T := .node 0 0 ByteArray.empty []
/-- A copy of the subterm at a position, or the zero term. -/
def SubT (o : Option T) (w : World) (e : Ending) (w' : World) : Prop :=
  ∃ k n s a m c h, e = .returned (.tuple #[tv k n s (.slice a m c), .bool o.isSome]) ∧ TermAt w' w.heap.size h (tv k n s (.slice a m c)) (o.getD zT) ∧ Below w.heap.size w w'

/-- A struct's row in a block. -/
abbrev trow (k n : Int) (s : ByteArray) (u : Value) : Obj := .cells #[.int .i64 k, .int .i64 n, .string s, u] 26 (0, 0)

theorem box_two (w : World) (k n : Int) (s : ByteArray) (u : Value) : ((boxed w k n s u).alloc (.cells #[.int .i64 0, .int .i64 0, .string ⟨#[]⟩, .slice none 0 0] 26)).heap[w.heap.size]? = some (trow k n s u) ∧
    ((boxed w k n s u).alloc (.cells #[.int .i64 0, .int .i64 0, .string ⟨#[]⟩, .slice none 0 0] 26)).heap[w.heap.size + 1]? = some (trow 0 0 ByteArray.empty (.slice none 0 0)) ∧
    Below w.heap.size w ((boxed w k n s u).alloc (.cells #[.int .i64 0, .int .i64 0, .string ⟨#[]⟩, .slice none 0 0] 26)) :=
  ⟨heap_mid _ _ _ rfl, heap_new _ _ (by simp), (boxed_below w k n s u).alloc (by simp) _⟩

theorem sub_fin {w wr : World} {o : Option T} {k n : Int} {s : ByteArray} {a : Option Addr} {m c h : Nat} (ht : TermAt wr (w.heap.size + 2) h (tv k n s (.slice a m c)) (o.getD zT)) (hb : Below w.heap.size w wr) (v0 v1 v2 v3 : Value) :
    SubT o w (.returned (.tuple #[tv k n s (.slice a m c), .bool o.isSome])) ((((wr.setCell ⟨w.heap.size + 1, 0, none⟩ v0).setCell ⟨w.heap.size + 1, 1, none⟩ v1).setCell ⟨w.heap.size + 1, 2, none⟩ v2).setCell ⟨w.heap.size + 1, 3, none⟩ v3) := by
  have q1 := ht.grown (set_grown wr (w.heap.size + 1) 0 v0) (fun j e => by cases e; omega)
  have q2 := q1.grown (set_grown _ (w.heap.size + 1) 1 v1) (fun j e => by cases e; omega)
  have q3 := q2.grown (set_grown _ (w.heap.size + 1) 2 v2) (fun j e => by cases e; omega)
  have q4 := q3.grown (set_grown _ (w.heap.size + 1) 3 v3) (fun j e => by cases e; omega)
  exact ⟨k, n, s, a, m, c, h, rfl, q4.low (by omega), (((hb.setCell (Nat.le_succ _) _).setCell (Nat.le_succ _) _).setCell (Nat.le_succ _) _).setCell (Nat.le_succ _) _⟩

theorem zT_at (w : World) (lo : Nat) : TermAt w lo 0 (tv 0 0 ByteArray.empty (.slice none 0 0)) zT := ⟨0, 0, ByteArray.empty, _, [], rfl, rfl, by simp, rfl, _, _, rfl⟩

/-- The box of the subterm at hand, the result's box, and what was there. -/
def Boxes (w : World) (k n : Int) (s : ByteArray) (u : Value) (wr : World) : Prop :=
  wr.heap[w.heap.size]? = some (trow k n s u) ∧ wr.heap[w.heap.size + 1]? = some (trow 0 0 ByteArray.empty (.slice none 0 0)) ∧ Below w.heap.size w wr
theorem Boxes.drewN {w wr : World} {k n : Int} {s : ByteArray} {u : Value} (h : Boxes w k n s u wr) (q : Nat) : Boxes w k n s u (wr.drewN q) :=
  ⟨h.1, h.2.1, h.2.2.trans ((below_q wr q).mono h.2.2.size)⟩
theorem Boxes.step {w wr : World} {k n : Int} {s : ByteArray} {u : Value} (h : Boxes w k n s u wr) (k2 n2 : Int) (s2 : ByteArray) (u2 : Value) :
    Boxes w k2 n2 s2 u2 ((((wr.setCell ⟨w.heap.size, 0, none⟩ (.int .i64 k2)).setCell ⟨w.heap.size, 1, none⟩ (.int .i64 n2)).setCell ⟨w.heap.size, 2, none⟩ (.string s2)).setCell ⟨w.heap.size, 3, none⟩ u2) := by
  refine ⟨set4_row h.1 _ _ _ _, ?_, (((h.2.2.setCell (Nat.le_refl _) _).setCell (Nat.le_refl _) _).setCell (Nat.le_refl _) _).setCell (Nat.le_refl _) _⟩
  have hne : ∀ (W : World) (j : Nat) (v : Value), (W.setCell ⟨w.heap.size, j, none⟩ v).heap[w.heap.size + 1]? = W.heap[w.heap.size + 1]? := fun W j v => Below.heap_setCell _ _ _ _ (by simp)
  rw [hne, hne, hne, hne]
  exact h.2.1

end Go.Proofs.YtidbokheeieifaaGreatDoor
namespace Go.Proofs.YtidbokheeieifaaGreatDoor
open Go.RowKit

theorem bel_two {w a b : World} (h : Below w.heap.size w a) (k : Below a.heap.size a b) : Below w.heap.size w b := h.trans (k.mono h.size)
end Go.Proofs.YtidbokheeieifaaGreatDoor
namespace Go.Proofs.YtidbokheeieifaaGreatDoor
open Go.RowKit

end Go.Proofs.YtidbokheeieifaaGreatDoor
