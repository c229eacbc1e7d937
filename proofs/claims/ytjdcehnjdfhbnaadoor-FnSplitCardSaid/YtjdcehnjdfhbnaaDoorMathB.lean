/-
  Plain facts on reading decimal numerals: the value of a row of digits; that the library's reading of an integer's numeral gives the integer. No program.
-/
import Derived.Test.YtjdcehnjdfhbnaaDoorMathA
import Derived.Lib.AtoiAllCases
namespace Go.Proofs.YtjdcehnjdfhbnaaDoor
open Go Go.Lib

/-- The number that a row of digits spells, behind acc. -/
def dval : Nat → List UInt8 → Nat
  | acc, [] => acc
  | acc, c :: r => dval (acc * 10 + (c.toNat - 48)) r

theorem dval_append (l r : List UInt8) : ∀ acc, dval acc (l ++ r) = dval (dval acc l) r := by
  induction l with
  | nil => intro acc; rfl
  | cons c l ih => intro acc; exact ih _

theorem dval_ge : ∀ (l : List UInt8) (acc : Nat), acc ≤ dval acc l
  | [], _ => Nat.le_refl _
  | c :: r, acc => Nat.le_trans (by omega) (dval_ge r (acc * 10 + (c.toNat - 48)))

/-- Digits alone. -/
def Digits (l : List UInt8) : Prop := ∀ c ∈ l, 48 ≤ c.toNat ∧ c.toNat ≤ 57

theorem digit_toNat {k : Nat} (h : k < 10) : (UInt8.ofNat (48 + k)).toNat = 48 + k := by
  rw [UInt8.toNat_ofNat']; omega

theorem digits_dec (u : Nat) : Digits (decDigits u) := by
  induction u using Nat.strongRecOn with
  | _ u ih =>
    intro c hc
    rw [decDigits] at hc
    split at hc
    · have : c = UInt8.ofNat (48 + u) := by simpa using hc
      subst this; rw [digit_toNat (by omega)]; omega
    · rename_i h
      rcases List.mem_append.1 hc with h1 | h1
      · exact ih (u / 10) (by omega) c h1
      · have : c = UInt8.ofNat (48 + u % 10) := by simpa using h1
        subst this; rw [digit_toNat (by omega)]; omega

theorem dval_dec (u : Nat) : dval 0 (decDigits u) = u := by
  induction u using Nat.strongRecOn with
  | _ u ih =>
    rw [decDigits]
    split
    · show 0 * 10 + ((UInt8.ofNat (48 + u)).toNat - 48) = u
      rw [digit_toNat (by omega)]; omega
    · rename_i h
      rw [dval_append, ih (u / 10) (by omega)]
      show u / 10 * 10 + ((UInt8.ofNat (48 + u % 10)).toNat - 48) = u
      rw [digit_toNat (by omega)]; omega

theorem dec_ne_nil (u : Nat) : decDigits u ≠ [] := by
  rw [decDigits]; split <;> simp

theorem parse_digits : ∀ (l : List UInt8) (acc : Nat), Digits l → dval acc l < 18446744073709551616 → parseUint10 acc l = .ok (dval acc l)
  | [], _, _, _ => rfl
  | c :: r, acc, hd, hv => by
    have hc := hd c (List.mem_cons_self ..)
    have hg : acc * 10 + (c.toNat - 48) ≤ dval acc (c :: r) := dval_ge r _
    unfold parseUint10
    rw [if_pos hc, if_neg (by omega), if_neg (by omega)]
    exact parse_digits r _ (fun x hx => hd x (List.mem_cons_of_mem _ hx)) hv

theorem parseMag_dec (u : Nat) (h : u < 18446744073709551616) : parseMag (decDigits u) = .ok u := by
  unfold parseMag
  rw [if_neg (dec_ne_nil u), parse_digits _ 0 (digits_dec u) (by rw [dval_dec]; exact h), dval_dec]

/-- The library reads an int's numeral as that int. -/
theorem atoi_itoa (v : Int) (h0 : -9223372036854775808 ≤ v) (h1 : v ≤ 9223372036854775807) : atoiAll (itoa v) = .ok v := by
  by_cases hn : v < 0
  · have e : itoa v = 45 :: decDigits v.natAbs := by unfold itoa; rw [if_pos hn]
    rw [e, atoiAll_minus, parseMag_dec _ (by omega)]
    unfold signed
    simp only []
    rw [if_neg (by omega)]
    congr 1; omega
  · have e : itoa v = decDigits v.toNat := by unfold itoa; rw [if_neg hn]
    rw [e]
    obtain ⟨c, r, hcr⟩ : ∃ c r, decDigits v.toNat = c :: r := by
      cases hd : decDigits v.toNat with
      | nil => exact absurd hd (dec_ne_nil _)
      | cons c r => exact ⟨c, r, rfl⟩
    have hc := digits_dec v.toNat c (by rw [hcr]; exact List.mem_cons_self ..)
    have hp := parseMag_dec v.toNat (by omega)
    rw [hcr] at hp ⊢
    rw [atoiAll_plain c r (by omega) (by omega), hp]
    unfold signless
    simp only []
    rw [if_neg (by omega)]
    congr 1; omega

theorem itoa_inj {v u : Int} (h0 : -9223372036854775808 ≤ v) (h1 : v ≤ 9223372036854775807) (g0 : -9223372036854775808 ≤ u) (g1 : u ≤ 9223372036854775807) (h : itoa v = itoa u) : v = u := by
  have a := atoi_itoa v h0 h1
  rw [h, atoi_itoa u g0 g1] at a
  injection a with a
  exact a.symm

/-- (v, b) is what the reading of l within lo .. hi answers. -/
def Good (lo hi : Int) (l : List UInt8) (v : Int) (b : Bool) : Prop :=
  (b = true → lo ≤ v ∧ v ≤ hi ∧ itoa v = l) ∧ (b = false → v = 0 ∧ ∀ u, lo ≤ u → u ≤ hi → itoa u ≠ l)

theorem good_unique {lo hi : Int} {l : List UInt8} {v u : Int} {b c : Bool} (hlo : -9223372036854775808 ≤ lo) (hhi : hi ≤ 9223372036854775807) (h : Good lo hi l v b) (g : Good lo hi l u c) : v = u ∧ b = c := by
  cases b <;> cases c
  · exact ⟨by rw [(h.2 rfl).1, (g.2 rfl).1], rfl⟩
  · have := g.1 rfl; exact absurd this.2.2 ((h.2 rfl).2 u this.1 this.2.1)
  · have := h.1 rfl; exact absurd this.2.2 ((g.2 rfl).2 v this.1 this.2.1)
  · have h1 := h.1 rfl; have g1 := g.1 rfl
    exact ⟨itoa_inj (by omega) (by omega) (by omega) (by omega) (h1.2.2.trans g1.2.2.symm), rfl⟩
end Go.Proofs.YtjdcehnjdfhbnaaDoor
