/-
  The representation of a term, as bytes; how long it is. No walk.
  Plain facts on decimal numerals: digits of a positive number, the numeral of an integer. No program.
  Plain facts on reading decimal numerals: the value of a row of digits; that the library's reading of an integer's numeral gives the integer. No program.
-/
import Derived.Test.YtooiiomfahomjaaGreatDoorQ10
import Derived.Lib.ItoaLen
import Derived.Lib.ItoaMem
import Derived.Lib.Join
import Derived.Lib.ItoaNum
import Derived.Lib.AtoiAllCases
namespace Go.Proofs.YtooiiomfahomjaaGreatDoor
open Go.RowKit

theorem join_snoc5 (sep : List UInt8) (l : List (List UInt8)) (x : List UInt8) (h : l ≠ []) : Lib.join (l ++ [x]) sep = Lib.join l sep ++ sep ++ x := by
  cases l with
  | nil => exact absurd rfl h
  | cons y r => rw [List.cons_append, Lib.join_cons, Lib.join_cons]; simp [Lib.joinTail]

/-- The representation of a term. -/
def textL : T → List UInt8
  | .node k n s xs => if k = 3 then Lib.itoa n else if xs.length = 0 then s.data.toList else s.data.toList ++ [40] ++ Lib.join (xs.map textL) [44, 32] ++ [41]
theorem textL_node (k n : Int) (s : ByteArray) (xs : List T) : textL (.node k n s xs) = if k = 3 then Lib.itoa n else if xs.length = 0 then s.data.toList else s.data.toList ++ [40] ++ Lib.join (xs.map textL) [44, 32] ++ [41] := by rw [textL]
/-- The same as a string. -/
def strT (t : T) : ByteArray := ⟨(textL t).toArray⟩
theorem strT_list (t : T) : (strT t).data.toList = textL t := by simp [strT]
theorem strT_size (t : T) : (strT t).size = (textL t).length := by simp [strT, ByteArray.size]
theorem map_strT (xs : List T) : (xs.map strT).map (·.data.toList) = xs.map textL := by
  rw [List.map_map]; exact List.map_congr_left fun t _ => strT_list t

theorem itoa_word {n : Int} (h0 : 0 ≤ n) (h1 : n ≤ 3) : Lib.itoa n = [UInt8.ofNat (48 + n.toNat)] := by
  obtain ⟨u, rfl⟩ : ∃ u : Nat, n = u := ⟨n.toNat, by omega⟩
  rw [Lib.itoa_nonneg, Lib.decDigits]
  have hu : u < 10 := by omega
  simp [hu]
theorem word_len {n : Int} (h0 : 0 ≤ n) (h1 : n ≤ 3) : (Lib.itoa n).length = 1 := by rw [itoa_word h0 h1]; rfl

theorem okT_kid {k n : Int} {s : ByteArray} {xs : List T} (h : OkT (.node k n s xs)) : NodeOk k n s xs.length ∧ ∀ x ∈ xs, OkT x := (okT_node k n s xs).1 h

theorem total_strT (xs : List T) (h : ∀ x ∈ xs, (textL x).length + 2 ≤ 12 * cT x) : total (xs.map strT) + 2 * xs.length ≤ 12 * cS xs := by
  induction xs with
  | nil => simp [total, cS]
  | cons x r ih =>
    have h1 := h x (by simp)
    have h2 := ih (fun y hy => h y (by simp [hy]))
    have h3 := strT_size x
    simp only [total, cS, List.map_cons, List.sum_cons, List.length_cons] at *
    omega
theorem textL_le : ∀ t : T, OkT t → (textL t).length + 2 ≤ 12 * cT t
  | .node k n s xs, hok => by
    obtain ⟨hn, hx⟩ := okT_kid hok
    have ih : ∀ x ∈ xs, (textL x).length + 2 ≤ 12 * cT x := fun x hm => textL_le x (hx x hm)
    have ht := total_strT xs ih
    have hj := join_length [44, 32] (xs.map strT)
    rw [map_strT] at hj
    rw [textL_node, cT_node]
    have hs : s.data.toList.length = s.size := by simp
    split
    · rename_i h3
      rcases hn with ⟨h, _⟩ | ⟨h, _⟩ | ⟨_, _, h0, h1, _⟩
      · omega
      · omega
      · have := word_len h0 h1; omega
    · have h8 : s.size ≤ 8 := by
        rcases hn with ⟨_, h, _⟩ | ⟨_, h, _⟩ | ⟨h, _⟩
        · exact h.2.1
        · exact h.2.1
        · omega
      split
      · omega
      · simp only [List.length_append, List.length_cons, List.length_nil, List.length_map] at *
        omega
end Go.Proofs.YtooiiomfahomjaaGreatDoor
namespace Go.Proofs.YtooiiomfahomjaaGreatDoor
open Go

/-- The digits of u, none for 0. -/
def decPos (u : Nat) : List UInt8 :=
  if _h : u = 0 then [] else decPos (u / 10) ++ [UInt8.ofNat (48 + u % 10)]
termination_by u
decreasing_by omega

theorem decPos_zero : decPos 0 = [] := by rw [decPos, dif_pos rfl]
theorem decPos_pos {u : Nat} (h : u ≠ 0) : decPos u = decPos (u / 10) ++ [UInt8.ofNat (48 + u % 10)] := by
  rw [decPos, dif_neg h]
theorem decPos_eq (u : Nat) (h : u ≠ 0) : decPos u = Lib.decDigits u := by
  induction u using Nat.strongRecOn with
  | _ u ih =>
    rw [decPos_pos h]
    by_cases hs : u < 10
    · rw [Lib.decDigits_one hs, show u / 10 = 0 by omega, decPos_zero, show u % 10 = u by omega]; rfl
    · rw [Lib.decDigits, dif_neg hs, ih (u / 10) (by omega) (by omega)]

/-- One round: the last digit of the rest goes ahead of what has been written. -/
theorem decPos_step {u : Nat} (h : u ≠ 0) (out : List UInt8) : decPos (u / 10) ++ (UInt8.ofNat (48 + u % 10) :: out) = decPos u ++ out := by
  rw [decPos_pos h, List.append_assoc]; rfl

theorem decPos_length_le (u : Nat) (h : u < 10 ^ 20) : (decPos u).length ≤ 20 := by
  by_cases h0 : u = 0
  · rw [h0, decPos_zero]; simp
  · rw [decPos_eq u h0, Lib.decDigits_length]
    have h1 := Lib.nDigits_pos u
    rcases Nat.lt_or_ge 20 (Lib.nDigits u) with hlt | hge
    · exfalso
      obtain ⟨k, hk⟩ : ∃ k, Lib.nDigits u = k + 1 := ⟨Lib.nDigits u - 1, by omega⟩
      have hle : ∀ (k u : Nat), Lib.nDigits u = k + 1 → 1 ≤ k → 10 ^ k ≤ u := by
        intro k
        induction k with
        | zero => intro u _ h; omega
        | succ k ih =>
          intro u hu _
          have hb : ¬ u < 10 := by
            intro hlt; rw [Lib.nDigits_small hlt] at hu; omega
          rw [Lib.nDigits_big hb] at hu
          by_cases hk0 : k = 0
          · subst hk0; omega
          · have := ih (u / 10) (by omega) (by omega)
            rw [Nat.pow_succ]; omega
      have h2 := hle k u hk (by omega)
      have h3 : 10 ^ 20 ≤ 10 ^ k := Nat.pow_le_pow_right (by omega) (by omega)
      omega
    · omega

theorem itoa_pos {n : Int} (h : 0 < n) : Lib.itoa n = decPos n.toNat := by
  unfold Lib.itoa; rw [if_neg (by omega), decPos_eq _ (by omega)]
theorem itoa_neg' {n : Int} (h : n < 0) : Lib.itoa n = 45 :: decPos n.natAbs := by
  unfold Lib.itoa; rw [if_pos h, decPos_eq _ (by omega)]
theorem itoa_zero : Lib.itoa 0 = [48] := by
  unfold Lib.itoa; rw [if_neg (by omega)]; exact Lib.decDigits_one (by decide)
end Go.Proofs.YtooiiomfahomjaaGreatDoor
namespace Go.Proofs.YtooiiomfahomjaaGreatDoor
open Go Go.Lib

/-- The number that a row of digits spells, behind acc. -/
def dval : Nat → List UInt8 → Nat
  | acc, [] => acc
  | acc, c :: r => dval (acc * 10 + (c.toNat - 48)) r

theorem dval_append (l r : List UInt8) : ∀ acc, dval acc (l ++ r) = dval (dval acc l) r := by
  induction l with
  | nil => intro acc; rfl
  | cons c l ih => intro acc; exact ih _

theorem dval_ge : ∀ (l : List UInt8) (acc : Nat), acc ≤ dval acc l
  | [], _ => Nat.le_refl _
  | c :: r, acc => Nat.le_trans (by omega) (dval_ge r (acc * 10 + (c.toNat - 48)))

/-- Digits alone. -/
def Digits (l : List UInt8) : Prop := ∀ c ∈ l, 48 ≤ c.toNat ∧ c.toNat ≤ 57

theorem digit_toNat {k : Nat} (h : k < 10) : (UInt8.ofNat (48 + k)).toNat = 48 + k := by
  rw [UInt8.toNat_ofNat']; omega

theorem digits_dec (u : Nat) : Digits (decDigits u) := by
  induction u using Nat.strongRecOn with
  | _ u ih =>
    intro c hc
    rw [decDigits] at hc
    split at hc
    · have : c = UInt8.ofNat (48 + u) := by simpa using hc
      subst this; rw [digit_toNat (by omega)]; omega
    · rename_i h
      rcases List.mem_append.1 hc with h1 | h1
      · exact ih (u / 10) (by omega) c h1
      · have : c = UInt8.ofNat (48 + u % 10) := by simpa using h1
        subst this; rw [digit_toNat (by omega)]; omega

theorem dval_dec (u : Nat) : dval 0 (decDigits u) = u := by
  induction u using Nat.strongRecOn with
  | _ u ih =>
    rw [decDigits]
    split
    · show 0 * 10 + ((UInt8.ofNat (48 + u)).toNat - 48) = u
      rw [digit_toNat (by omega)]; omega
    · rename_i h
      rw [dval_append, ih (u / 10) (by omega)]
      show u / 10 * 10 + ((UInt8.ofNat (48 + u % 10)).toNat - 48) = u
      rw [digit_toNat (by omega)]; omega

theorem dec_ne_nil (u : Nat) : decDigits u ≠ [] := by
  rw [decDigits]; split <;> simp

theorem parse_digits : ∀ (l : List UInt8) (acc : Nat), Digits l → dval acc l < 18446744073709551616 → parseUint10 acc l = .ok (dval acc l)
  | [], _, _, _ => rfl
  | c :: r, acc, hd, hv => by
    have hc := hd c (List.mem_cons_self ..)
    have hg : acc * 10 + (c.toNat - 48) ≤ dval acc (c :: r) := dval_ge r _
    unfold parseUint10
    rw [if_pos hc, if_neg (by omega), if_neg (by omega)]
    exact parse_digits r _ (fun x hx => hd x (List.mem_cons_of_mem _ hx)) hv

theorem parseMag_dec (u : Nat) (h : u < 18446744073709551616) : parseMag (decDigits u) = .ok u := by
  unfold parseMag
  rw [if_neg (dec_ne_nil u), parse_digits _ 0 (digits_dec u) (by rw [dval_dec]; exact h), dval_dec]

/-- The library reads an int's numeral as that int. -/
theorem atoi_itoa (v : Int) (h0 : -9223372036854775808 ≤ v) (h1 : v ≤ 9223372036854775807) : atoiAll (itoa v) = .ok v := by
  by_cases hn : v < 0
  · have e : itoa v = 45 :: decDigits v.natAbs := by unfold itoa; rw [if_pos hn]
    rw [e, atoiAll_minus, parseMag_dec _ (by omega)]
    unfold signed
    simp only []
    rw [if_neg (by omega)]
    congr 1; omega
  · have e : itoa v = decDigits v.toNat := by unfold itoa; rw [if_neg hn]
    rw [e]
    obtain ⟨c, r, hcr⟩ : ∃ c r, decDigits v.toNat = c :: r := by
      cases hd : decDigits v.toNat with
      | nil => exact absurd hd (dec_ne_nil _)
      | cons c r => exact ⟨c, r, rfl⟩
    have hc := digits_dec v.toNat c (by rw [hcr]; exact List.mem_cons_self ..)
    have hp := parseMag_dec v.toNat (by omega)
    rw [hcr] at hp ⊢
    rw [atoiAll_plain c r (by omega) (by omega), hp]
    unfold signless
    simp only []
    rw [if_neg (by omega)]
    congr 1; omega

theorem itoa_inj {v u : Int} (h0 : -9223372036854775808 ≤ v) (h1 : v ≤ 9223372036854775807) (g0 : -9223372036854775808 ≤ u) (g1 : u ≤ 9223372036854775807) (h : itoa v = itoa u) : v = u := by
  have a := atoi_itoa v h0 h1
  rw [h, atoi_itoa u g0 g1] at a
  injection a with a
  exact a.symm

/-- (v, b) is what the reading of l within lo .. hi answers. -/
def Good (lo hi : Int) (l : List UInt8) (v : Int) (b : Bool) : Prop :=
  (b = true → lo ≤ v ∧ v ≤ hi ∧ itoa v = l) ∧ (b = false → v = 0 ∧ ∀ u, lo ≤ u → u ≤ hi → itoa u ≠ l)

theorem good_unique {lo hi : Int} {l : List UInt8} {v u : Int} {b c : Bool} (hlo : -9223372036854775808 ≤ lo) (hhi : hi ≤ 9223372036854775807) (h : Good lo hi l v b) (g : Good lo hi l u c) : v = u ∧ b = c := by
  cases b <;> cases c
  · exact ⟨by rw [(h.2 rfl).1, (g.2 rfl).1], rfl⟩
  · have := g.1 rfl; exact absurd this.2.2 ((h.2 rfl).2 u this.1 this.2.1)
  · have := h.1 rfl; exact absurd this.2.2 ((g.2 rfl).2 v this.1 this.2.1)
  · have h1 := h.1 rfl; have g1 := g.1 rfl
    exact ⟨itoa_inj (by omega) (by omega) (by omega) (by omega) (h1.2.2.trans g1.2.2.symm), rfl⟩
end Go.Proofs.YtooiiomfahomjaaGreatDoor
