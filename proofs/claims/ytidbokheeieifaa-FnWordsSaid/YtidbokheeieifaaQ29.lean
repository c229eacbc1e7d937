/-
  spec.CompareTerms returns the order of two terms.
-/
import Derived.Test.YtidbokheeieifaaQ22
import Derived.Test.YtidbokheeieifaaQ27
namespace Go.Proofs.Ytidbokheeieifaa
open Go.RowKit

theorem less_no {a b : ByteArray} (h : ¬ key a < key b) : Op.bytesLess a.toList b.toList = false := by
  cases e : Op.bytesLess a.toList b.toList with
  | false => rfl
  | true => exact absurd ((less_iff a b).1 e) h

/-- All cells of two boxes. -/
theorem boxed2_all {w wr : World} {k n : Int} {s : ByteArray} {u : Value} {k' n' : Int} {s' : ByteArray} {u' : Value} (hb : Below (boxed2 w k n s u k' n' s' u').heap.size (boxed2 w k n s u k' n' s' u') wr) :
    wr.cell? ⟨w.heap.size, 0, none⟩ = some (.int .i64 k) ∧ wr.cell? ⟨w.heap.size, 1, none⟩ = some (.int .i64 n) ∧ wr.cell? ⟨w.heap.size, 2, none⟩ = some (.string s) ∧ wr.cell? ⟨w.heap.size, 3, none⟩ = some u ∧
    wr.cell? ⟨w.heap.size + 1, 0, none⟩ = some (.int .i64 k') ∧ wr.cell? ⟨w.heap.size + 1, 1, none⟩ = some (.int .i64 n') ∧ wr.cell? ⟨w.heap.size + 1, 2, none⟩ = some (.string s') ∧ wr.cell? ⟨w.heap.size + 1, 3, none⟩ = some u' ∧
    Below (boxed2 w k n s u k' n' s' u').heap.size (boxed2 w k n s u k' n' s' u') wr := by
  have h1 := boxed_cells hb
  have h0 := boxed_cells ((boxed_below (boxed w k n s u) k' n' s' u').trans (hb.mono (by simp)))
  have e : (boxed w k n s u).heap.size = w.heap.size + 1 := by simp
  rw [e] at h1
  exact ⟨h0.1, h0.2.1, h0.2.2.1, h0.2.2.2, h1.1, h1.2.1, h1.2.2.1, h1.2.2.2, hb⟩

theorem nz_at : ∀ (l : List Int) (j : Nat) (z : Int), (∀ i, i < j → l[i]? = some 0) → l[j]? = some z → z ≠ 0 → nz l = z
  | [], j, z, _, h, _ => by simp at h
  | x :: r, 0, z, _, h, hz => by
    simp at h; subst h
    rw [nz_cons, if_neg hz]
  | x :: r, j + 1, z, h0, h, hz => by
    have e := h0 0 (by omega)
    simp at e; subst e
    rw [nz_cons, if_pos rfl]
    exact nz_at r j z (fun i hi => by have := h0 (i + 1) (by omega); simpa using this) (by simpa using h) hz
theorem nz_all : ∀ (l : List Int), (∀ i, i < l.length → l[i]? = some 0) → nz l = 0
  | [], _ => rfl
  | x :: r, h => by
    have e := h 0 (by simp)
    simp at e; subst e
    rw [nz_cons, if_pos rfl]
    exact nz_all r (fun i hi => by have := h (i + 1) (by simp; omega); simpa using this)
theorem first_at : ∀ (xs ys : List T) (j : Nat) (x y : T), (∀ (i : Nat) (x y : T), i < j → xs[i]? = some x → ys[i]? = some y → cmpT x y = 0) → xs[j]? = some x → ys[j]? = some y → cmpT x y ≠ 0 → firstNZ (xs.map cmpT) ys = cmpT x y
  | [], _, j, x, y, _, h, _, _ => by simp at h
  | _ :: _, [], j, x, y, _, _, h, _ => by simp at h
  | a :: r, b :: t, 0, x, y, _, h, h', hz => by
    simp at h h'; subst h; subst h'
    simp only [List.map_cons, firstNZ]
    rw [if_neg hz]
  | a :: r, b :: t, j + 1, x, y, h0, h, h', hz => by
    have e := h0 0 a b (by omega) rfl rfl
    simp only [List.map_cons, firstNZ]
    rw [if_pos e]
    exact first_at r t j x y (fun i x y hi hx hy => h0 (i + 1) x y (by omega) (by simpa using hx) (by simpa using hy)) (by simpa using h) (by simpa using h') hz
theorem first_all : ∀ (xs ys : List T), (∀ (i : Nat) (x y : T), xs[i]? = some x → ys[i]? = some y → cmpT x y = 0) → firstNZ (xs.map cmpT) ys = 0
  | [], _, _ => by simp [firstNZ]
  | _ :: _, [], _ => by simp [firstNZ]
  | a :: r, b :: t, h => by
    have e := h 0 a b rfl rfl
    simp only [List.map_cons, firstNZ]
    rw [if_pos e]
    exact first_all r t (fun i x y hx hy => h (i + 1) x y (by simpa using hx) (by simpa using hy))

theorem below_alloc2 {B : Nat} {w w' : World} (h : Below B w w') (hB : B ≤ w'.heap.size) (o : Obj) : Below B w (w'.alloc o) := h.alloc hB o

end Go.Proofs.Ytidbokheeieifaa
