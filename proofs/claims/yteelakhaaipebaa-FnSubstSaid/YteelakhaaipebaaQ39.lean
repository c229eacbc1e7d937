/-
  The ascending list of a list's strings, as a term; what its Binds weigh. No walk.
-/
import Derived.Test.YteelakhaaipebaaQ18
namespace Go.Proofs.Yteelakhaaipebaa
open Go.RowKit

def insK (s : ByteArray) : List ByteArray → List ByteArray
  | [] => [s]
  | r :: t => if key s < key r then s :: r :: t else if key r < key s then r :: insK s t else r :: t
theorem insK_mem (s x : ByteArray) : ∀ l, x ∈ insK s l ↔ x = s ∨ x ∈ l
  | [] => by simp [insK]
  | r :: t => by
    unfold insK
    by_cases h1 : key s < key r
    · rw [if_pos h1]; simp
    · rw [if_neg h1]
      by_cases h2 : key r < key s
      · rw [if_pos h2, List.mem_cons, insK_mem s x t, List.mem_cons]
        constructor
        · rintro (h | h | h)
          · exact Or.inr (Or.inl h)
          · exact Or.inl h
          · exact Or.inr (Or.inr h)
        · rintro (h | h | h)
          · exact Or.inr (Or.inl h)
          · exact Or.inl h
          · exact Or.inr (Or.inr h)
      · rw [if_neg h2]
        have e : s = r := by
          by_cases hk : key s = key r
          · exact key_inj hk
          · rcases lt_or hk with h | h
            · exact absurd h h1
            · exact absurd h h2
        subst e
        simp
theorem insK_pw (s : ByteArray) : ∀ l : List ByteArray, l.Pairwise (fun a b => key a < key b) → (insK s l).Pairwise (fun a b => key a < key b)
  | [], _ => by simp [insK]
  | r :: t, h => by
    obtain ⟨h1, h2⟩ := List.pairwise_cons.1 h
    unfold insK
    by_cases e1 : key s < key r
    · rw [if_pos e1]
      refine List.pairwise_cons.2 ⟨fun y hy => ?_, h⟩
      rcases List.mem_cons.1 hy with e | e
      · subst e; exact e1
      · exact lt_tr e1 (h1 y e)
    · rw [if_neg e1]
      by_cases e2 : key r < key s
      · rw [if_pos e2]
        refine List.pairwise_cons.2 ⟨fun y hy => ?_, insK_pw s t h2⟩
        rcases (insK_mem s y t).1 hy with e | e
        · subst e; exact e2
        · exact h1 y e
      · rw [if_neg e2]; exact h
theorem insK_len (s : ByteArray) : ∀ l : List ByteArray, (insK s l).length ≤ l.length + 1
  | [] => by simp [insK]
  | r :: t => by
    unfold insK
    by_cases e1 : key s < key r
    · rw [if_pos e1]; simp
    · rw [if_neg e1]
      by_cases e2 : key r < key s
      · rw [if_pos e2]; have := insK_len s t; simp; omega
      · rw [if_neg e2]; simp
def sortK : List ByteArray → List ByteArray
  | [] => []
  | s :: l => insK s (sortK l)
theorem sortK_of : ∀ ps, SortedOf ps (sortK ps)
  | [] => SortedOf.nil
  | s :: l => by
    obtain ⟨h1, h2⟩ := sortK_of l
    exact ⟨insK_pw s _ h1, fun x => by rw [sortK, insK_mem, h2 x, List.mem_cons]⟩
theorem sortK_len : ∀ ps, (sortK ps).length ≤ ps.length
  | [] => Nat.le_refl _
  | s :: l => by have := sortK_len l; have := insK_len s (sortK l); rw [sortK, List.length_cons]; omega
end Go.Proofs.Yteelakhaaipebaa
