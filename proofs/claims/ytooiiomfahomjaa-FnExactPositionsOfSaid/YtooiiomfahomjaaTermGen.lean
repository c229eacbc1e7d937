/-
  What the walks over terms share: a struct in a block, an argument's cells, an answer that leaves what was there. No walk.
-/
import Derived.Test.YtooiiomfahomjaaTerm
import Derived.WalkLawsBesides
import Derived.BigQuiet
import Derived.Deep.QuietTactic
namespace Go.Proofs.Ytooiiomfahomjaa
open Go.RowKit

/-- A struct in a block of its own. -/
abbrev boxed (w : World) (k n : Int) (s : ByteArray) (u : Value) : World := w.alloc (.cells #[.int .i64 k, .int .i64 n, .string s, u] 26)
theorem boxed_below (w : World) (k n : Int) (s : ByteArray) (u : Value) : Below w.heap.size w (boxed w k n s u) := (Below.refl _ _).alloc (Nat.le_refl _) _
theorem boxed_cells {w wr : World} {k n : Int} {s : ByteArray} {u : Value} (hb : Below (boxed w k n s u).heap.size (boxed w k n s u) wr) :
    wr.cell? ⟨w.heap.size, 0, none⟩ = some (.int .i64 k) ∧ wr.cell? ⟨w.heap.size, 1, none⟩ = some (.int .i64 n) ∧ wr.cell? ⟨w.heap.size, 2, none⟩ = some (.string s) ∧ wr.cell? ⟨w.heap.size, 3, none⟩ = some u := by
  have hlt : w.heap.size < (boxed w k n s u).heap.size := by simp
  have c : ∀ j v, #[Value.int .i64 k, .int .i64 n, .string s, u][j]? = some v → wr.cell? ⟨w.heap.size, j, none⟩ = some v := by
    intro j v hv
    rw [hb.cell (by exact hlt), World.cell?_alloc_mark w _ 26 (0, 0) j]
    exact hv
  exact ⟨c 0 _ rfl, c 1 _ rfl, c 2 _ rfl, c 3 _ rfl⟩

/-- What a round over the arguments sees. -/
theorem ArgsAt.at {w : World} {lo h : Nat} {a : Option Addr} {m cap : Nat} {ts : List T} {i : Nat} {t : T} (ha : ArgsAt w lo h (.slice a m cap) ts) (ht : ts[i]? = some t) :
    ∃ h' b o k n s xs u', h = h' + 1 ∧ a = some ⟨b, o, none⟩ ∧ t = .node k n s xs ∧ s.size ≤ maxLen ∧ w.cell? ⟨b, o + i * 4, none⟩ = some (.int .i64 k) ∧ w.cell? ⟨b, o + i * 4 + 1, none⟩ = some (.int .i64 n) ∧
      w.cell? ⟨b, o + i * 4 + 2, none⟩ = some (.string s) ∧ w.cell? ⟨b, o + i * 4 + 3, none⟩ = some u' ∧ ArgsAt w lo h' u' xs := by
  rcases ha.cases with ⟨rfl, _⟩ | ⟨h', b, o, cap', e, e2, _, _, hc⟩
  · simp at ht
  · obtain ⟨k, n, s, xs⟩ := t
    obtain ⟨hs, u', c0, c1, c2, c3, hr⟩ := hc i k n s xs ht
    simp only [Value.slice.injEq] at e2
    exact ⟨h', b, o, k, n, s, xs, u', e, e2.1, rfl, hs, c0, c1, c2, c3, hr⟩

theorem cell_on {w w' : World} (hb : Below w.heap.size w w') {ad : Addr} {v : Value} (hv : w.cell? ad = some v) : w'.cell? ad = some v := by
  rw [hb.cell (World.block_lt_of_cell? w _ hv)]; exact hv

/-- A call that hands back a number and leaves what was there. -/
def NumB (x : Int) (w : World) (e : Ending) (w' : World) : Prop := e = .returned (.int .i64 x) ∧ Below w.heap.size w w'

theorem by_height {X : Nat → Prop} (step : ∀ h, (∀ h', h = h' + 1 → X h') → X h) (h : Nat) : X h := by
  induction h with
  | zero => exact step 0 (fun h' e => by omega)
  | succ h ih => exact step (h + 1) (fun h' e => by cases e; exact ih)

theorem cS_take (ts : List T) (k : Nat) : cS (ts.take k) ≤ cS ts := by
  have h : cS ts = cS (ts.take k) + cS (ts.drop k) := by
    unfold cS
    rw [← List.sum_append, ← List.map_append, List.take_append_drop]
  omega

theorem dS_snoc (l : List T) (t : T) : dS (l ++ [t]) = max (dS l) (dT t) := by simp [dS, List.foldl_append]
theorem dT_node (k n : Int) (s : ByteArray) (xs : List T) : dT (.node k n s xs) = dS xs + 1 := by rw [dT]; rfl
end Go.Proofs.Ytooiiomfahomjaa
