/-
  The representation of a term, as bytes; how long it is. No walk.
-/
import Derived.Test.YtooiiomfahomjaaDoorTermValid
import Derived.Test.YtooiiomfahomjaaDoorTotal
import Derived.Lib.ItoaLen
import Derived.Lib.ItoaMem
import Derived.Lib.Join
namespace Go.Proofs.YtooiiomfahomjaaDoor
open Go.RowKit

theorem join_snoc5 (sep : List UInt8) (l : List (List UInt8)) (x : List UInt8) (h : l ≠ []) : Lib.join (l ++ [x]) sep = Lib.join l sep ++ sep ++ x := by
  cases l with
  | nil => exact absurd rfl h
  | cons y r => rw [List.cons_append, Lib.join_cons, Lib.join_cons]; simp [Lib.joinTail]

/-- The representation of a term. -/
def textL : T → List UInt8
  | .node k n s xs => if k = 3 then Lib.itoa n else if xs.length = 0 then s.data.toList else s.data.toList ++ [40] ++ Lib.join (xs.map textL) [44, 32] ++ [41]
theorem textL_node (k n : Int) (s : ByteArray) (xs : List T) : textL (.node k n s xs) = if k = 3 then Lib.itoa n else if xs.length = 0 then s.data.toList else s.data.toList ++ [40] ++ Lib.join (xs.map textL) [44, 32] ++ [41] := by rw [textL]
/-- The same as a string. -/
def strT (t : T) : ByteArray := ⟨(textL t).toArray⟩
theorem strT_list (t : T) : (strT t).data.toList = textL t := by simp [strT]
theorem strT_size (t : T) : (strT t).size = (textL t).length := by simp [strT, ByteArray.size]
theorem map_strT (xs : List T) : (xs.map strT).map (·.data.toList) = xs.map textL := by
  rw [List.map_map]; exact List.map_congr_left fun t _ => strT_list t

theorem itoa_word {n : Int} (h0 : 0 ≤ n) (h1 : n ≤ 3) : Lib.itoa n = [UInt8.ofNat (48 + n.toNat)] := by
  obtain ⟨u, rfl⟩ : ∃ u : Nat, n = u := ⟨n.toNat, by omega⟩
  rw [Lib.itoa_nonneg, Lib.decDigits]
  have hu : u < 10 := by omega
  simp [hu]
theorem word_len {n : Int} (h0 : 0 ≤ n) (h1 : n ≤ 3) : (Lib.itoa n).length = 1 := by rw [itoa_word h0 h1]; rfl

theorem okT_kid {k n : Int} {s : ByteArray} {xs : List T} (h : OkT (.node k n s xs)) : NodeOk k n s xs.length ∧ ∀ x ∈ xs, OkT x := (okT_node k n s xs).1 h

theorem total_strT (xs : List T) (h : ∀ x ∈ xs, (textL x).length + 2 ≤ 12 * cT x) : total (xs.map strT) + 2 * xs.length ≤ 12 * cS xs := by
  induction xs with
  | nil => simp [total, cS]
  | cons x r ih =>
    have h1 := h x (by simp)
    have h2 := ih (fun y hy => h y (by simp [hy]))
    have h3 := strT_size x
    simp only [total, cS, List.map_cons, List.sum_cons, List.length_cons] at *
    omega
theorem textL_le : ∀ t : T, OkT t → (textL t).length + 2 ≤ 12 * cT t
  | .node k n s xs, hok => by
    obtain ⟨hn, hx⟩ := okT_kid hok
    have ih : ∀ x ∈ xs, (textL x).length + 2 ≤ 12 * cT x := fun x hm => textL_le x (hx x hm)
    have ht := total_strT xs ih
    have hj := join_length [44, 32] (xs.map strT)
    rw [map_strT] at hj
    rw [textL_node, cT_node]
    have hs : s.data.toList.length = s.size := by simp
    split
    · rename_i h3
      rcases hn with ⟨h, _⟩ | ⟨h, _⟩ | ⟨_, _, h0, h1, _⟩
      · omega
      · omega
      · have := word_len h0 h1; omega
    · have h8 : s.size ≤ 8 := by
        rcases hn with ⟨_, h, _⟩ | ⟨_, h, _⟩ | ⟨h, _⟩
        · exact h.2.1
        · exact h.2.1
        · omega
      split
      · omega
      · simp only [List.length_append, List.length_cons, List.length_nil, List.length_map] at *
        omega
end Go.Proofs.YtooiiomfahomjaaDoor
