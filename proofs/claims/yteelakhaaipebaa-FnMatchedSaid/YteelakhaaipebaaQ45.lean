/-
  What a term weighs of which the variables are changed. No walk.
-/
import Derived.Test.YteelakhaaipebaaQ7
import Derived.Test.YteelakhaaipebaaQ44
namespace Go.Proofs.Yteelakhaaipebaa
open Go.RowKit

theorem wS_map (f : T → T) (M : Nat) (xs : List T) (h : ∀ x ∈ xs, wT (f x) ≤ wT x * (M + 1) + M) : wS (xs.map f) ≤ wS xs * (M + 1) + xs.length * M := by
  induction xs with
  | nil => simp [wS]
  | cons x r ih =>
    have h1 := h x (by simp)
    have h2 := ih (fun y hy => h y (by simp [hy]))
    simp only [wS, List.map_cons, List.sum_cons, List.length_cons, Nat.add_mul] at *
    omega
theorem wT_map (F : ByteArray → Option T) (M : Nat) (hF : ∀ s u, F s = some u → wT u ≤ M) : ∀ t, wT (mapT F (fun s => s) t) ≤ wT t * (M + 1) + M
  | .node k n s xs => by
    have hm : wS (xs.map (mapT F (fun s => s))) ≤ wS xs * (M + 1) + xs.length * M := wS_map _ M xs fun x _ => wT_map F M hF x
    have hn : wT (.node k n s (xs.map (mapT F (fun s => s)))) ≤ wT (.node k n s xs) * (M + 1) + M := by
      rw [wT_node, wT_node, List.length_map]
      simp only [Nat.add_mul, Nat.mul_add, Nat.mul_one] at *
      omega
    rw [mapT_node]
    split
    · split
      · rename_i u hu
        have := hF _ _ hu
        omega
      · exact hn
    · exact hn
theorem findB_mem7 {bs : List (ByteArray × T)} {s : ByteArray} {t : T} (h : findB bs s = some t) : ∃ x ∈ bs, x.2 = t := by
  unfold findB at h
  obtain ⟨x, hx, rfl⟩ := Option.map_eq_some_iff.1 h
  exact ⟨x, List.mem_of_find?_eq_some hx, rfl⟩
theorem small_find {bs : List (ByteArray × T)} (h : Small7 bs) : ∀ s u, findB bs s = some u → wT u ≤ 13 := fun s u hf => by
  obtain ⟨x, hx, rfl⟩ := findB_mem7 hf
  exact (h.2 x hx).2
end Go.Proofs.Yteelakhaaipebaa
