/-
  The first level of a walk level by level. No walk.
-/
import Derived.Test.YtooiiomfahomjaaDoorArgsOf
namespace Go.Proofs.YtooiiomfahomjaaDoor
open Go.RowKit

/-- A term in a row of one cell's length. -/
theorem LevelAt.single {w : World} {h : Nat} {k n : Int} {s : ByteArray} {u : Value} {xs : List T} (b : Nat) (hs : s.size ≤ maxLen) (ha : ArgsAt w 0 h u xs)
    (c0 : w.cell? ⟨b, 0, none⟩ = some (.int .i64 k)) (c1 : w.cell? ⟨b, 1, none⟩ = some (.int .i64 n)) (c2 : w.cell? ⟨b, 2, none⟩ = some (.string s)) (c3 : w.cell? ⟨b, 3, none⟩ = some u) :
    LevelAt w (.slice (some ⟨b, 0, none⟩) 1 1) [.node k n s xs] := by
  refine ⟨h + 1, some ⟨b, 0, none⟩, 1, rfl, by simp [maxLen], Or.inr ⟨b, 0, rfl, Nat.zero_le _, fun i k' n' s' xs' hi => ?_⟩⟩
  match i, hi with
  | 0, hi =>
    simp at hi
    obtain ⟨rfl, rfl, rfl, rfl⟩ := hi
    exact ⟨hs, u, c0, c1, c2, c3, ha⟩
  | i + 1, hi => simp at hi

/-- The first level: the term alone, in a block behind its box. -/
theorem level_first (w : World) {lo h : Nat} {k n : Int} {s : ByteArray} {u : Value} {xs : List T} (hs : s.size ≤ maxLen) (ha : ArgsAt w lo h u xs) :
    LevelAt ((boxed w k n s u).alloc (.cells #[.int .i64 k, .int .i64 n, .string s, u] 26)) (.slice (some ⟨w.heap.size + 1, 0, none⟩) 1 1) [.node k n s xs] := by
  have hbs : (boxed w k n s u).heap.size = w.heap.size + 1 := by simp
  rw [← hbs]
  have hb : Below w.heap.size w (boxed (boxed w k n s u) k n s u) := (boxed_below w k n s u).trans ((boxed_below _ k n s u).mono (boxed_below w k n s u).size)
  obtain ⟨c0, c1, c2, c3⟩ := boxed_cells (Below.refl _ (boxed (boxed w k n s u) k n s u))
  exact LevelAt.single _ hs ((ha.low (Nat.zero_le _)).below hb) c0 c1 c2 c3

theorem single_c (t : T) : cS [t] = cT t := by simp [cS]
theorem single_d (t : T) : dS [t] = dT t := by simp [dS]
end Go.Proofs.YtooiiomfahomjaaDoor
