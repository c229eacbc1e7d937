/-
  Plain facts on cutting a string at every occurrence of a byte: the left-to-right cut is the library's. No program.
-/
import Derived.Lib.Split
import Derived.Lib.SplitLaws
import Derived.Lib.IndexBytes
namespace Go.Proofs.YtjdcehnjdfhbnaaDoor
open Go Go.Lib

/-- The pieces of l between the occurrences of c, acc ahead of the first. -/
def cutFrom (c : UInt8) : List UInt8 → List UInt8 → List (List UInt8)
  | acc, [] => [acc]
  | acc, b :: r => if b = c then acc :: cutFrom c [] r else cutFrom c (acc ++ [b]) r

/-- acc ahead of the first piece. -/
def ahead (acc : List UInt8) : List (List UInt8) → List (List UInt8)
  | [] => []
  | p :: ps => (acc ++ p) :: ps

theorem ahead_nil : ∀ (l : List (List UInt8)), ahead [] l = l
  | [] => rfl
  | _ :: _ => rfl
theorem ahead_two (a b : List UInt8) : ∀ (l : List (List UInt8)), ahead a (ahead b l) = ahead (a ++ b) l
  | [] => rfl
  | p :: ps => by simp [ahead]

theorem splitK_other (c b : UInt8) (r : List UInt8) (h : b ≠ c) (k : Nat) : splitK [c] 0 k (b :: r) = ahead [b] (splitK [c] 0 k r) := by
  cases k with
  | zero => rfl
  | succ k =>
    have hp : List.isPrefixOf [c] (b :: r) = false := by
      simp [List.isPrefixOf]; exact fun e => h e.symm
    have hi : index (b :: r) [c] = if index r [c] == -1 then -1 else index r [c] + 1 := by
      rw [index, hp]; rfl
    have hg := index_ge r [c]
    unfold splitK
    rw [hi]
    by_cases hm : index r [c] = -1
    · simp [hm, ahead]
    · have e1 : (index r [c] == -1) = false := beq_eq_false_iff_ne.2 hm
      have e2 : (index r [c] + 1 == -1) = false := beq_eq_false_iff_ne.2 (by omega)
      rw [e1]
      simp only [Bool.false_eq_true, if_false, e2, ahead]
      have e3 : (index r [c] + 1).toNat = (index r [c]).toNat + 1 := by omega
      rw [e3]
      simp

theorem splitK_ne_nil (sep : List UInt8) (save k : Nat) (s : List UInt8) : splitK sep save k s ≠ [] := by
  cases k with
  | zero => simp [splitK]
  | succ k => unfold splitK; split <;> simp

theorem cut_eq (c : UInt8) : ∀ (l acc : List UInt8), cutFrom c acc l = ahead acc (splitK [c] 0 (count l [c]) l)
  | [], acc => by
    rw [count_one]; simp [splitK, ahead, cutFrom]
  | b :: r, acc => by
    by_cases h : b = c
    · subst h
      have hp : List.isPrefixOf [b] (b :: r) = true := by simp [List.isPrefixOf]
      have hi : index (b :: r) [b] = 0 := by rw [index, hp]; rfl
      rw [count_cons_eq, Nat.add_comm]
      unfold cutFrom splitK
      rw [hi, cut_eq b r [], ahead_nil]
      simp [ahead]
    · rw [count_cons_ne b c r h, splitK_other c b r h, ahead_two]
      have := cut_eq c r (acc ++ [b])
      unfold cutFrom
      rw [if_neg h]
      exact this

/-- The pieces of a string between the occurrences of a byte. -/
def cut (c : UInt8) (l : List UInt8) : List (List UInt8) := cutFrom c [] l
theorem cut_split (c : UInt8) (l : List UInt8) : cut c l = splitK [c] 0 (count l [c]) l := by
  unfold cut; rw [cut_eq, ahead_nil]
theorem cutFrom_ne_nil (c : UInt8) : ∀ (l acc : List UInt8), cutFrom c acc l ≠ []
  | [], _ => by simp [cutFrom]
  | b :: r, acc => by
    unfold cutFrom
    split
    · simp
    · exact cutFrom_ne_nil c r _
theorem cutFrom_length (c : UInt8) : ∀ (l acc : List UInt8), (cutFrom c acc l).length ≤ l.length + 1
  | [], _ => by simp [cutFrom]
  | b :: r, acc => by
    unfold cutFrom
    split
    · have := cutFrom_length c r []; simp; omega
    · have := cutFrom_length c r (acc ++ [b]); simp; omega

/-- The library's cut of s at the byte c, in pieces of bytes. -/
theorem splitB_cut (s : ByteArray) (c : UInt8) : (splitB ⟨#[c]⟩ 0 (countB s ⟨#[c]⟩) s).map (·.data.toList) = cut c s.data.toList := by
  rw [splitB_data, cut_split]
theorem splitB_length (s : ByteArray) (c : UInt8) : (splitB ⟨#[c]⟩ 0 (countB s ⟨#[c]⟩) s).length = countB s ⟨#[c]⟩ + 1 :=
  splitB_all ⟨#[c]⟩ (Nat.le_refl 1) 0 _ s rfl
end Go.Proofs.YtjdcehnjdfhbnaaDoor
