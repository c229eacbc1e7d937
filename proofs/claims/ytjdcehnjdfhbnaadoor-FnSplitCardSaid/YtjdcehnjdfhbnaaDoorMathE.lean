/-
  Plain facts on the pieces of a cut: joined they give the whole back, none holds the byte, together they are no longer than the whole. No program.
-/
import Derived.Test.YtjdcehnjdfhbnaaDoorMathD
import Derived.Test.YtjdcehnjdfhbnaaDoorTotal
namespace Go.Proofs.YtjdcehnjdfhbnaaDoor
open Go

theorem join_cutFrom (c : UInt8) : ∀ (l acc : List UInt8), Lib.join (cutFrom c acc l) [c] = acc ++ l
  | [], acc => by rw [cutFrom, Lib.join_one]; simp
  | b :: r, acc => by
    unfold cutFrom
    split
    · rename_i h
      subst h
      have ih := join_cutFrom b r []
      rw [Lib.join_cons]
      cases hx : cutFrom b [] r with
      | nil => exact absurd hx (cutFrom_ne_nil b r [])
      | cons y ys =>
        rw [hx, Lib.join_cons, List.nil_append] at ih
        have e : Lib.joinTail [b] (y :: ys) = [b] ++ y ++ Lib.joinTail [b] ys := by simp [Lib.joinTail]
        rw [e, List.append_assoc, ih]; rfl
    · rw [join_cutFrom c r (acc ++ [b])]; simp
theorem join_cut (c : UInt8) (l : List UInt8) : Lib.join (cut c l) [c] = l := join_cutFrom c l []

theorem piece_clean (c : UInt8) : ∀ (l acc : List UInt8), c ∉ acc → ∀ p ∈ cutFrom c acc l, c ∉ p
  | [], acc, h, p, hp => by
    have : p = acc := by simpa [cutFrom] using hp
    subst this; exact h
  | b :: r, acc, h, p, hp => by
    unfold cutFrom at hp
    split at hp
    · rename_i e
      rcases List.mem_cons.1 hp with h1 | h1
      · subst h1; exact h
      · exact piece_clean c r [] (by simp) p h1
    · rename_i e
      refine piece_clean c r (acc ++ [b]) (fun hm => ?_) p hp
      rcases List.mem_append.1 hm with h1 | h1
      · exact h h1
      · exact e (List.mem_singleton.1 h1).symm
theorem cutFrom_clean (c : UInt8) : ∀ (l acc : List UInt8), c ∉ l → cutFrom c acc l = [acc ++ l]
  | [], acc, _ => by simp [cutFrom]
  | b :: r, acc, h => by
    have hb : b ≠ c := fun e => h (by rw [e]; exact List.mem_cons_self ..)
    unfold cutFrom
    rw [if_neg hb, cutFrom_clean c r (acc ++ [b]) (fun hm => h (List.mem_cons_of_mem _ hm))]
    simp
theorem cut_piece (c : UInt8) (l p : List UInt8) (hp : p ∈ cut c l) : cut c p = [p] := by
  have h := piece_clean c l [] (by simp) p hp
  unfold cut
  rw [cutFrom_clean c p [] h]; rfl
theorem sum_cutFrom (c : UInt8) : ∀ (l acc : List UInt8), ((cutFrom c acc l).map List.length).sum ≤ acc.length + l.length
  | [], acc => by simp [cutFrom]
  | b :: r, acc => by
    unfold cutFrom
    split
    · have := sum_cutFrom c r []
      simp at this ⊢; omega
    · have := sum_cutFrom c r (acc ++ [b])
      simp at this ⊢; omega

theorem total_data (ps : List ByteArray) : total ps = ((ps.map (·.data.toList)).map List.length).sum := by
  unfold total
  rw [List.map_map]
  congr 1
theorem total_cut {c : UInt8} {s : ByteArray} {ps : List ByteArray} (h : ps.map (·.data.toList) = cut c s.data.toList) : total ps ≤ s.size := by
  rw [total_data, h]
  have := sum_cutFrom c s.data.toList []
  have e : s.data.toList.length = s.size := by simp
  unfold cut
  simp only [List.length_nil, Nat.zero_add] at this
  omega
theorem one_piece {c : UInt8} {s p : ByteArray} {ps qs : List ByteArray} (h : ps.map (·.data.toList) = cut c s.data.toList) (hp : p ∈ ps) (hq : qs.map (·.data.toList) = cut c p.data.toList) : qs.length = 1 := by
  have hm : p.data.toList ∈ cut c s.data.toList := by rw [← h]; exact List.mem_map_of_mem (f := fun x : ByteArray => x.data.toList) hp
  rw [cut_piece c _ _ hm] at hq
  have := congrArg List.length hq
  simpa using this
theorem join_pieces {c : UInt8} {s : ByteArray} {ps : List ByteArray} (h : ps.map (·.data.toList) = cut c s.data.toList) : Lib.join (ps.map (·.data.toList)) [c] = s.data.toList := by rw [h, join_cut]
theorem pieces_pos {c : UInt8} {s : ByteArray} {ps : List ByteArray} (h : ps.map (·.data.toList) = cut c s.data.toList) : 1 ≤ ps.length := by
  rcases Nat.lt_or_ge ps.length 1 with hl | hl
  · have : ps = [] := List.eq_nil_of_length_eq_zero (by omega)
    subst this
    exact absurd h.symm (cutFrom_ne_nil c _ _)
  · exact hl
end Go.Proofs.YtjdcehnjdfhbnaaDoor
