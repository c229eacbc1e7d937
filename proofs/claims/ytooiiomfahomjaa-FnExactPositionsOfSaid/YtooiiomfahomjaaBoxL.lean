/-
  An argument of a law in a block of its own. No walk.
-/
import Derived.Test.YtooiiomfahomjaaTermGen
namespace Go.Proofs.Ytooiiomfahomjaa
open Go.RowKit

theorem bel_two {w a b : World} (h : Below w.heap.size w a) (k : Below a.heap.size a b) : Below w.heap.size w b := h.trans (k.mono h.size)
/-- An argument in a block of its own. -/
abbrev boxedL (w : World) (k n : Int) (s : ByteArray) (u : Value) : World := w.alloc (.cells #[.int .i64 k, .int .i64 n, .string s, u] 36)
theorem boxedL_below (w : World) (k n : Int) (s : ByteArray) (u : Value) : Below w.heap.size w (boxedL w k n s u) := (Below.refl _ _).alloc (Nat.le_refl _) _
theorem boxedL_cells {w wr : World} {k n : Int} {s : ByteArray} {u : Value} (hb : Below (boxedL w k n s u).heap.size (boxedL w k n s u) wr) :
    wr.cell? ⟨w.heap.size, 0, none⟩ = some (.int .i64 k) ∧ wr.cell? ⟨w.heap.size, 1, none⟩ = some (.int .i64 n) ∧ wr.cell? ⟨w.heap.size, 2, none⟩ = some (.string s) ∧ wr.cell? ⟨w.heap.size, 3, none⟩ = some u := by
  have hlt : w.heap.size < (boxedL w k n s u).heap.size := by simp
  have c : ∀ j v, #[Value.int .i64 k, .int .i64 n, .string s, u][j]? = some v → wr.cell? ⟨w.heap.size, j, none⟩ = some v := by
    intro j v hv
    rw [hb.cell (by exact hlt), World.cell?_alloc_mark w _ 36 (0, 0) j]
    exact hv
  exact ⟨c 0 _ rfl, c 1 _ rfl, c 2 _ rfl, c 3 _ rfl⟩
end Go.Proofs.Ytooiiomfahomjaa
