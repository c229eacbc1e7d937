/-
  Plain facts on what the model's reading of a numeral goes by: a sign, a row of digits, its value. No program.
-/
import Derived.Test.YtjdcehnjdfhbnaaDoorMathB
namespace Go.Proofs.YtjdcehnjdfhbnaaDoor
open Go Go.Lib

theorem nDigits_le : ∀ (m u : Nat), 1 ≤ m → u < 10 ^ m → nDigits u ≤ m
  | 0, _, h, _ => by omega
  | m + 1, u, _, hu => by
    by_cases h : u < 10
    · rw [nDigits_small h]; omega
    · rw [nDigits_big h]
      have hm : m ≠ 0 := by
        intro e; subst e
        rw [Nat.pow_one] at hu; exact h hu
      have := nDigits_le m (u / 10) (by omega) (by rw [Nat.pow_succ] at hu; omega)
      omega

theorem mul_step {a d p x : Nat} (hd : d ≤ 9) (h : x < (a * 10 + d + 1) * p) : x < (a + 1) * (p * 10) := by
  have h2 : (a * 10 + d + 1) * p ≤ ((a + 1) * 10) * p := Nat.mul_le_mul_right _ (by omega)
  have h3 : (a + 1) * (p * 10) = ((a + 1) * 10) * p := by rw [Nat.mul_comm p 10, Nat.mul_assoc]
  rw [h3]
  exact Nat.lt_of_lt_of_le h h2
theorem dval_lt (l : List UInt8) : ∀ (acc : Nat), Digits l → dval acc l < (acc + 1) * 10 ^ l.length := by
  induction l with
  | nil =>
    intro acc _
    rw [List.length_nil, Nat.pow_zero, Nat.mul_one]
    exact Nat.lt_succ_self acc
  | cons c r ih0 =>
    intro acc h
    have hc := h c (List.mem_cons_self ..)
    have ih := ih0 (acc * 10 + (c.toNat - 48)) (fun x hx => h x (List.mem_cons_of_mem _ hx))
    rw [List.length_cons, Nat.pow_succ]
    exact mul_step (by omega) ih

/-- The list l is the sign (below) and the rest t. -/
def Parts (l : List UInt8) (below : Bool) (t : List UInt8) : Prop :=
  (below = true ∧ l = 45 :: t) ∨ (below = false ∧ l = t ∧ ∀ r, l ≠ 45 :: r)

theorem dec_no_minus (u : Nat) (r : List UInt8) : decDigits u ≠ 45 :: r := by
  intro h
  have := digits_dec u 45 (by rw [h]; exact List.mem_cons_self ..)
  have e : (45 : UInt8).toNat = 45 := rfl
  omega

theorem parts_itoa {l : List UInt8} {below : Bool} {t : List UInt8} (h : Parts l below t) {u : Int} (hu : itoa u = l) :
    t = decDigits u.natAbs ∧ u = if below then -(u.natAbs : Int) else (u.natAbs : Int) := by
  unfold itoa at hu
  rcases h with ⟨hb, hl⟩ | ⟨hb, hl, hno⟩
  · subst hb
    split at hu
    · rw [hl] at hu
      injection hu with _ hu
      exact ⟨hu.symm, by simp; omega⟩
    · rw [hl] at hu; exact absurd hu (dec_no_minus _ _)
  · subst hb
    split at hu
    · exact absurd hu.symm (hno _)
    · rw [← hl, ← hu, show u.natAbs = u.toNat by omega]
      exact ⟨rfl, by simp; omega⟩

theorem no_of_len {l : List UInt8} {below : Bool} {t : List UInt8} {m : Nat} (hm : 1 ≤ m) (h : Parts l below t) (hl : t.length < 1 ∨ m < t.length) {u : Int} (h1 : u.natAbs < 10 ^ m) : itoa u ≠ l := by
  intro hu
  have e := congrArg List.length (parts_itoa h hu).1
  rw [decDigits_length] at e
  have a := nDigits_pos u.natAbs
  have b := nDigits_le m u.natAbs hm h1
  omega

theorem no_of_bad {l : List UInt8} {below : Bool} {t : List UInt8} (h : Parts l below t) {c : UInt8} (hc : c ∈ t) (hd : c.toNat < 48 ∨ 57 < c.toNat) {u : Int} : itoa u ≠ l := by
  intro hu
  have e := (parts_itoa h hu).1
  have := digits_dec u.natAbs c (by rw [← e]; exact hc)
  omega

theorem val_of {l : List UInt8} {below : Bool} {t : List UInt8} (h : Parts l below t) {u : Int} (hu : itoa u = l) : u = if below then -(dval 0 t : Int) else (dval 0 t : Int) := by
  obtain ⟨e1, e2⟩ := parts_itoa h hu
  rw [e1, dval_dec]
  exact e2
theorem take_snoc (s : ByteArray) (k : Nat) (h : k < s.size) : s.data.toList.take (k + 1) = s.data.toList.take k ++ [s[k]] := by
  rw [List.take_succ_eq_append_getElem (by simpa using h)]; rfl
theorem dval_snoc (l : List UInt8) (c : UInt8) : dval 0 (l ++ [c]) = dval 0 l * 10 + (c.toNat - 48) := by rw [dval_append]; rfl
theorem dval_bound {l : List UInt8} {k : Nat} (hl : l.length ≤ k) (h : Digits l) : dval 0 l < 10 ^ k := by
  have h1 := dval_lt l 0 h
  rw [Nat.zero_add, Nat.one_mul] at h1
  exact Nat.lt_of_lt_of_le h1 (Nat.pow_le_pow_right (by decide) hl)
theorem digits_snoc {l : List UInt8} {c : UInt8} (h : Digits l) (h1 : 48 ≤ c.toNat) (h2 : c.toNat ≤ 57) : Digits (l ++ [c]) := by
  intro x hx
  rcases List.mem_append.1 hx with hx | hx
  · exact h x hx
  · have : x = c := by simpa using hx
    subst this; exact ⟨h1, h2⟩
theorem byte_mem (t : ByteArray) (k : Nat) (h : k < t.size) : t[k] ∈ t.data.toList := by
  have : t[k] = t.data.toList[k]'(by simpa using h) := rfl
  rw [this]; exact List.getElem_mem _
end Go.Proofs.YtjdcehnjdfhbnaaDoor
