/-
  Plain facts on the sizes of lists of strings and of what is joined out of them. No program.
-/
import Derived.Lib.Join
namespace Go.Proofs.YtooiiomfahomjaaDoor
open Go

/-- The bytes of all strings together. -/
def total (ps : List ByteArray) : Nat := (ps.map (·.size)).sum
theorem total_snoc (ps : List ByteArray) (p : ByteArray) : total (ps ++ [p]) = total ps + p.size := by simp [total]
theorem take_next {α : Type} (l : List α) (k : Nat) (x : α) (h : l[k]? = some x) : l.take (k + 1) = l.take k ++ [x] := by
  rw [List.take_add_one, h]; rfl
theorem total_take_le (ps : List ByteArray) (k : Nat) : total (ps.take k) ≤ total ps := by
  have h : total ps = total (ps.take k) + total (ps.drop k) := by
    unfold total
    rw [← List.sum_append, ← List.map_append, List.take_append_drop]
  omega

theorem join_length (sep : List UInt8) (ps : List ByteArray) : (Lib.join (ps.map (·.data.toList)) sep).length ≤ total ps + ps.length * sep.length := by
  cases ps with
  | nil => simp [Lib.join_nil]
  | cons p r =>
    rw [List.map_cons, Lib.join_cons]
    have h : ∀ r : List ByteArray, (Lib.joinTail sep (r.map (·.data.toList))).length = total r + r.length * sep.length := by
      intro r
      induction r with
      | nil => simp [Lib.joinTail, total]
      | cons q r ih =>
        have e : Lib.joinTail sep ((q :: r).map (·.data.toList)) = sep ++ q.data.toList ++ Lib.joinTail sep (r.map (·.data.toList)) := by simp [Lib.joinTail]
        have e2 : total (q :: r) = q.size + total r := by simp [total]
        have e3 : q.data.toList.length = q.size := by simp
        rw [e, List.length_append, List.length_append, ih, e2, e3, List.length_cons, Nat.add_mul]
        omega
    have e2 : total (p :: r) = p.size + total r := by simp [total]
    have e3 : p.data.toList.length = p.size := by simp
    rw [List.length_append, h r, e2, e3, List.length_cons, Nat.add_mul]
    omega

end Go.Proofs.YtooiiomfahomjaaDoor
