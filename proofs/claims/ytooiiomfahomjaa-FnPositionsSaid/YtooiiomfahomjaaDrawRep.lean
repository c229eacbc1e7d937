/-
  spec.DrawReplaceAt: a term, a position, and another term, all drawn.
-/
import Derived.Test.YtooiiomfahomjaaPosDraw
import Derived.Test.YtooiiomfahomjaaDrawn
import Derived.Test.YtooiiomfahomjaaTermBent
import Derived.Deep.RegionHeld3
namespace Go.Proofs.Ytooiiomfahomjaa
open Go.RowKit

theorem results_ctc {fn : Func} {a b c : Tmp} {t : TypeId} {tmps : Array Value} {ad cd : Addr} (h : fn.results = #[.cell a t, .tmp b, .cell c t]) (ha : tmps.getD a undef = .pointer (some ad)) (hc : tmps.getD c undef = .pointer (some cd)) (P : Program) (w : World) {x y : Value}
    (hx : (loadVar t ad).run P w = .ok x w) (hy : (loadVar t cd).run P w = .ok y w) : (results fn tmps).run P w = .ok (.tuple #[x, tmps.getD b undef, y]) w := by
  have h2 : tmps[a]?.getD undef = .pointer (some ad) := by rw [← ha]; simp
  have h3 : tmps[c]?.getD undef = .pointer (some cd) := by rw [← hc]; simp
  simp [results, h, h2, h3, asAddr, hx, hy, Result.andThen]

/-- Two terms and a position that were drawn. -/
def DrawnRep (w : World) (e : Ending) (w' : World) : Prop :=
  ∃ k n s a m c k2 n2 s2 a2 m2 c2 t t2 h h2 p ps, e = .returned (.tuple #[tv k n s (.slice a m c), p, tv k2 n2 s2 (.slice a2 m2 c2)]) ∧ TermAt w' w.heap.size h (tv k n s (.slice a m c)) t ∧ TermAt w' w.heap.size h2 (tv k2 n2 s2 (.slice a2 m2 c2)) t2 ∧ wT t ≤ 1000 ∧ wT t2 ≤ 1000 ∧
    IntsAt w' p ps ∧ ps.length ≤ 1002 ∧ Below w.heap.size w w'
theorem rep_fin {w X : World} {k n : Int} {s : ByteArray} {a : Option Addr} {m c : Nat} {k2 n2 : Int} {s2 : ByteArray} {a2 : Option Addr} {m2 c2 : Nat} {t t2 : T} {h h2 : Nat} {p : Value} {ps : List Int} (ht : TermAt X (w.heap.size + 2) h (tv k n s (.slice a m c)) t) (ht2 : TermAt X (w.heap.size + 2) h2 (tv k2 n2 s2 (.slice a2 m2 c2)) t2)
    (hw : wT t ≤ 1000) (hw2 : wT t2 ≤ 1000) (hp : X.ownsRow (w.heap.size + 2) 3 1 p ps.length (ps.map iv)) (hl : ps.length ≤ 1002) (hb : Below w.heap.size w X) (v0 v1 v2 v3 u0 u1 u2 u3 : Value) :
    DrawnRep w (.returned (.tuple #[tv k n s (.slice a m c), p, tv k2 n2 s2 (.slice a2 m2 c2)])) (stored2 X w.heap.size v0 v1 v2 v3 u0 u1 u2 u3) := by
  obtain ⟨k', n', s', a', m', c', k2', n2', s2', a2', m2', c2', t', t2', h', h2', e, h1, h3, h4, h5, h6⟩ := two_fin ht ht2 hw hw2 hb v0 v1 v2 v3 u0 u1 u2 u3
  have up : ∀ (W : World) (b j : Nat) (v : Value), b < w.heap.size + 2 → W.ownsRow (w.heap.size + 2) 3 1 p ps.length (ps.map iv) → (W.setCell ⟨b, j, none⟩ v).ownsRow (w.heap.size + 2) 3 1 p ps.length (ps.map iv) := fun W b j v hlt q =>
    own_at q fun kk e => Below.heap_setCell _ _ _ _ (fun e2 => by have := q.lt kk e; simp at e2; omega)
  have hq := up _ (w.heap.size + 1) 3 u3 (by omega) (up _ (w.heap.size + 1) 2 u2 (by omega) (up _ (w.heap.size + 1) 1 u1 (by omega) (up _ (w.heap.size + 1) 0 u0 (by omega) (up _ w.heap.size 3 v3 (by omega) (up _ w.heap.size 2 v2 (by omega) (up _ w.heap.size 1 v1 (by omega) (up X w.heap.size 0 v0 (by omega) hp)))))))
  simp only [Ending.returned.injEq, Value.tuple.injEq] at e
  simp at e
  obtain ⟨⟨rfl, rfl, rfl, rfl, rfl, rfl⟩, rfl, rfl, rfl, rfl, rfl, rfl⟩ := e
  exact ⟨_, _, _, _, _, _, _, _, _, _, _, _, t', t2', h', h2', p, ps, rfl, h1, h3, h4, h5, IntsAt.of_owns hq, hl, h6⟩
theorem keep4 {Y : World} {c g : Nat} {k n : Int} {s : ByteArray} {a : Option Addr} {m cap : Nat} (h : g ≠ c) (v0 v1 v2 v3 : Value)
    (hy : Y.cell? ⟨c, 0, none⟩ = some (.int .i64 k) ∧ Y.cell? ⟨c, 1, none⟩ = some (.int .i64 n) ∧ Y.cell? ⟨c, 2, none⟩ = some (.string s) ∧ Y.cell? ⟨c, 3, none⟩ = some (.slice a m cap)) :
    ((((Y.setCell ⟨g, 0, none⟩ v0).setCell ⟨g, 1, none⟩ v1).setCell ⟨g, 2, none⟩ v2).setCell ⟨g, 3, none⟩ v3).cell? ⟨c, 0, none⟩ = some (.int .i64 k) ∧ ((((Y.setCell ⟨g, 0, none⟩ v0).setCell ⟨g, 1, none⟩ v1).setCell ⟨g, 2, none⟩ v2).setCell ⟨g, 3, none⟩ v3).cell? ⟨c, 1, none⟩ = some (.int .i64 n) ∧ ((((Y.setCell ⟨g, 0, none⟩ v0).setCell ⟨g, 1, none⟩ v1).setCell ⟨g, 2, none⟩ v2).setCell ⟨g, 3, none⟩ v3).cell? ⟨c, 2, none⟩ = some (.string s) ∧ ((((Y.setCell ⟨g, 0, none⟩ v0).setCell ⟨g, 1, none⟩ v1).setCell ⟨g, 2, none⟩ v2).setCell ⟨g, 3, none⟩ v3).cell? ⟨c, 3, none⟩ = some (.slice a m cap) := by
  have e : ∀ (Z : World) (q j : Nat) (v : Value), (Z.setCell ⟨g, q, none⟩ v).cell? ⟨c, j, none⟩ = Z.cell? ⟨c, j, none⟩ := fun Z q j v => World.cell?_of_block (Below.heap_setCell _ _ _ _ (by simp; omega))
  simp only [e]; exact hy
end Go.Proofs.Ytooiiomfahomjaa
