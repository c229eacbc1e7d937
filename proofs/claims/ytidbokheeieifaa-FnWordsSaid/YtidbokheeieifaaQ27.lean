/-
  The order of terms, as the document says it: by kind, number, name, number of arguments, then the arguments in order. That it is a total order. No program.
-/
import Derived.Test.YtidbokheeieifaaQ2
import Derived.Test.YtidbokheeieifaaQ26
namespace Go.Proofs.Ytidbokheeieifaa
open Go

def cmpI (a b : Int) : Int := if a < b then -1 else if b < a then 1 else 0
open Classical in
noncomputable def cmpS (a b : ByteArray) : Int := if key a < key b then -1 else if key b < key a then 1 else 0
/-- The first that is not zero. -/
def nz : List Int → Int
  | [] => 0
  | x :: r => if x = 0 then nz r else x
def firstNZ : List (T → Int) → List T → Int
  | f :: fs, y :: ys => if f y = 0 then firstNZ fs ys else f y
  | _, _ => 0
noncomputable def headC (k n : Int) (s : ByteArray) (m : Nat) (k' n' : Int) (s' : ByteArray) (m' : Nat) : List Int := [cmpI k k', cmpI n n', cmpS s s', cmpI m m']
noncomputable def cmpT : T → T → Int
  | .node k n s xs => fun b => match b with
    | .node k' n' s' ys => if nz (headC k n s xs.length k' n' s' ys.length) = 0 then firstNZ (xs.map cmpT) ys else nz (headC k n s xs.length k' n' s' ys.length)
theorem cmpT_node (k n : Int) (s : ByteArray) (xs : List T) (k' n' : Int) (s' : ByteArray) (ys : List T) :
    cmpT (.node k n s xs) (.node k' n' s' ys) = if nz (headC k n s xs.length k' n' s' ys.length) = 0 then firstNZ (xs.map cmpT) ys else nz (headC k n s xs.length k' n' s' ys.length) := by rw [cmpT]

theorem cmpI_range (a b : Int) : cmpI a b = -1 ∨ cmpI a b = 0 ∨ cmpI a b = 1 := by
  unfold cmpI
  repeat' split
  · exact Or.inl rfl
  · exact Or.inr (Or.inr rfl)
  · exact Or.inr (Or.inl rfl)
theorem cmpI_flip (a b : Int) : cmpI b a = - cmpI a b := by unfold cmpI; repeat' split <;> omega
theorem cmpI_zero (a b : Int) : cmpI a b = 0 ↔ a = b := by unfold cmpI; repeat' split <;> omega
theorem cmpI_trans {a b c : Int} (h : cmpI a b ≤ 0) (k : cmpI b c ≤ 0) : cmpI a c ≤ 0 ∧ (cmpI a c = 0 → cmpI a b = 0 ∧ cmpI b c = 0) := by unfold cmpI at *; repeat' split at * <;> omega
theorem cmpS_range (a b : ByteArray) : cmpS a b = -1 ∨ cmpS a b = 0 ∨ cmpS a b = 1 := by
  unfold cmpS
  repeat' split
  · exact Or.inl rfl
  · exact Or.inr (Or.inr rfl)
  · exact Or.inr (Or.inl rfl)
theorem cmpS_flip (a b : ByteArray) : cmpS b a = - cmpS a b := by
  unfold cmpS
  by_cases h1 : key a < key b
  · have h2 : ¬ key b < key a := fun h => lt_irr _ (lt_tr h1 h)
    simp [h1, h2]
  · by_cases h2 : key b < key a <;> simp [h1, h2]
theorem cmpS_zero (a b : ByteArray) : cmpS a b = 0 ↔ a = b := by
  unfold cmpS
  constructor
  · intro h
    by_cases e : key a = key b
    · exact key_inj e
    · rcases lt_or e with k | k
      · simp [k] at h
      · have h2 : ¬ key a < key b := fun q => lt_irr _ (lt_tr q k)
        simp [k, h2] at h
  · rintro rfl
    simp [lt_irr]
theorem cmpS_neg {a b : ByteArray} : cmpS a b ≤ 0 ↔ key a < key b ∨ a = b := by
  unfold cmpS
  by_cases h1 : key a < key b
  · simp [h1]
  · by_cases h2 : key b < key a
    · have hne : a ≠ b := fun e => by subst e; exact lt_irr _ h2
      simp [h1, h2, hne]
    · have e : a = b := by
        by_cases q : key a = key b
        · exact key_inj q
        · rcases lt_or q with k | k
          · exact absurd k h1
          · exact absurd k h2
      subst e; simp [lt_irr]
theorem cmpS_trans {a b c : ByteArray} (h : cmpS a b ≤ 0) (k : cmpS b c ≤ 0) : cmpS a c ≤ 0 ∧ (cmpS a c = 0 → cmpS a b = 0 ∧ cmpS b c = 0) := by
  rcases cmpS_neg.1 h with h1 | rfl
  · rcases cmpS_neg.1 k with k1 | rfl
    · have hac := lt_tr h1 k1
      refine ⟨cmpS_neg.2 (Or.inl hac), fun e => ?_⟩
      rw [cmpS_zero] at e
      subst e
      exact absurd hac (lt_irr _)
    · exact ⟨h, fun e => ⟨e, (cmpS_zero _ _).2 rfl⟩⟩
  · exact ⟨k, fun e => ⟨(cmpS_zero _ _).2 rfl, e⟩⟩

/-- A way of comparing that is the lexical one of three results. -/
structure Ord3 (f g h : Int) : Prop where
  le : f ≤ 0 → g ≤ 0 → h ≤ 0 ∧ (h = 0 → f = 0 ∧ g = 0)
theorem nz_cons (x : Int) (r : List Int) : nz (x :: r) = if x = 0 then nz r else x := rfl
theorem nz_zero (l : List Int) : nz l = 0 ↔ ∀ x ∈ l, x = 0 := by
  induction l with
  | nil => simp [nz]
  | cons x r ih =>
    rw [nz_cons]
    by_cases h : x = 0
    · rw [if_pos h, ih]; simp [h]
    · rw [if_neg h]; simp [h]
theorem nz_neg (l : List Int) : nz (l.map (- ·)) = - nz l := by
  induction l with
  | nil => simp [nz]
  | cons x r ih =>
    rw [List.map_cons, nz_cons, nz_cons, ih]
    by_cases h : x = 0
    · simp [h]
    · have : ¬ -x = 0 := by omega
      simp [h]
theorem ord3_cons {a b c : Int} {f g h : Int} (h1 : Ord3 a b c) (h2 : a = 0 → b = 0 → Ord3 f g h) : Ord3 (if a = 0 then f else a) (if b = 0 then g else b) (if c = 0 then h else c) := by
  refine ⟨fun p q => ?_⟩
  have ha : a ≤ 0 := by split at p <;> omega
  have hb : b ≤ 0 := by split at q <;> omega
  obtain ⟨l1, l2⟩ := h1.le ha hb
  by_cases hc : c = 0
  · obtain ⟨rfl, rfl⟩ := l2 hc
    simp only [if_true] at p q
    obtain ⟨m1, m2⟩ := (h2 rfl rfl).le p q
    simp [hc, m1]
    exact m2
  · simp [hc]
    omega
theorem head_ord (k n : Int) (s : ByteArray) (m : Nat) (k' n' : Int) (s' : ByteArray) (m' : Nat) (k'' n'' : Int) (s'' : ByteArray) (m'' : Nat) :
    Ord3 (nz (headC k n s m k' n' s' m')) (nz (headC k' n' s' m' k'' n'' s'' m'')) (nz (headC k n s m k'' n'' s'' m'')) := by
  have oi : ∀ a b c : Int, Ord3 (cmpI a b) (cmpI b c) (cmpI a c) := fun a b c => ⟨fun h k => cmpI_trans h k⟩
  have os : ∀ a b c : ByteArray, Ord3 (cmpS a b) (cmpS b c) (cmpS a c) := fun a b c => ⟨fun h k => cmpS_trans h k⟩
  unfold headC
  simp only [nz_cons]
  refine ord3_cons (oi _ _ _) fun _ _ => ord3_cons (oi _ _ _) fun _ _ => ord3_cons (os _ _ _) fun _ _ => ord3_cons (oi _ _ _) fun _ _ => ?_
  exact ⟨fun _ _ => ⟨by simp [nz], fun _ => ⟨rfl, rfl⟩⟩⟩
theorem head_flip (k n : Int) (s : ByteArray) (m : Nat) (k' n' : Int) (s' : ByteArray) (m' : Nat) : nz (headC k' n' s' m' k n s m) = - nz (headC k n s m k' n' s' m') := by
  rw [← nz_neg]
  unfold headC
  rw [cmpI_flip k, cmpI_flip n, cmpS_flip s, cmpI_flip (m : Int)]
  rfl
theorem head_zero {k n : Int} {s : ByteArray} {m : Nat} {k' n' : Int} {s' : ByteArray} {m' : Nat} : nz (headC k n s m k' n' s' m') = 0 ↔ k = k' ∧ n = n' ∧ s = s' ∧ m = m' := by
  rw [nz_zero]
  unfold headC
  simp only [List.mem_cons, List.mem_nil_iff, or_false, forall_eq_or_imp, forall_eq, cmpI_zero, cmpS_zero]
  constructor
  · rintro ⟨a, b, c, d⟩; exact ⟨a, b, c, by omega⟩
  · rintro ⟨a, b, c, d⟩; exact ⟨a, b, c, by omega⟩

theorem first_flip (xs : List T) (h : ∀ x ∈ xs, ∀ y, cmpT y x = - cmpT x y) : ∀ ys, firstNZ (ys.map cmpT) xs = - firstNZ (xs.map cmpT) ys := by
  induction xs with
  | nil => intro ys; cases ys <;> simp [firstNZ]
  | cons x r ih =>
    intro ys
    cases ys with
    | nil => simp [firstNZ]
    | cons y t =>
      simp only [List.map_cons, firstNZ]
      rw [h x (by simp) y, ih (fun z hz => h z (by simp [hz])) t]
      by_cases e : cmpT x y = 0
      · simp [e]
      · have : ¬ - cmpT x y = 0 := by omega
        simp [e]
theorem first_zero (xs : List T) (h : ∀ x ∈ xs, ∀ y, cmpT x y = 0 ↔ x = y) : ∀ ys, xs.length = ys.length → (firstNZ (xs.map cmpT) ys = 0 ↔ xs = ys) := by
  induction xs with
  | nil => intro ys hl; cases ys <;> simp_all [firstNZ]
  | cons x r ih =>
    intro ys hl
    cases ys with
    | nil => simp at hl
    | cons y t =>
      simp only [List.map_cons, firstNZ]
      have h1 := h x (by simp) y
      have h2 := ih (fun z hz => h z (by simp [hz])) t (by simpa using hl)
      by_cases e : cmpT x y = 0
      · rw [if_pos e, h2, h1.1 e]; simp
      · rw [if_neg e]
        have : x ≠ y := fun q => e (h1.2 q)
        simp [e, this]
theorem first_ord (xs : List T) (h : ∀ x ∈ xs, ∀ y z, Ord3 (cmpT x y) (cmpT y z) (cmpT x z)) : ∀ ys zs, xs.length = ys.length → ys.length = zs.length →
    Ord3 (firstNZ (xs.map cmpT) ys) (firstNZ (ys.map cmpT) zs) (firstNZ (xs.map cmpT) zs) := by
  induction xs with
  | nil => intro ys zs h1 h2; cases ys <;> cases zs <;> simp at h1 h2; exact ⟨fun _ _ => by simp [firstNZ]⟩
  | cons x r ih =>
    intro ys zs h1 h2
    cases ys with
    | nil => simp at h1
    | cons y t =>
      cases zs with
      | nil => simp at h2
      | cons z q =>
        simp only [List.map_cons, firstNZ]
        exact ord3_cons (h x (by simp) y z) fun _ _ => ih (fun w hw => h w (by simp [hw])) t q (by simpa using h1) (by simpa using h2)

theorem cmpT_flip : ∀ a b : T, cmpT b a = - cmpT a b
  | .node k n s xs, .node k' n' s' ys => by
    have h := first_flip xs (fun x _ y => cmpT_flip x y) ys
    rw [cmpT_node, cmpT_node, head_flip, h]
    by_cases e : nz (headC k n s xs.length k' n' s' ys.length) = 0
    · simp [e]
    · have : ¬ - nz (headC k n s xs.length k' n' s' ys.length) = 0 := by omega
      simp [e]
theorem cmpT_zero : ∀ a b : T, cmpT a b = 0 ↔ a = b
  | .node k n s xs, .node k' n' s' ys => by
    have h := first_zero xs (fun x _ y => cmpT_zero x y) ys
    rw [cmpT_node]
    by_cases e : nz (headC k n s xs.length k' n' s' ys.length) = 0
    · obtain ⟨rfl, rfl, rfl, hl⟩ := head_zero.1 e
      rw [if_pos e, h hl]
      simp
    · rw [if_neg e]
      constructor
      · intro q; exact absurd q e
      · intro q; cases q; exact absurd (head_zero.2 ⟨rfl, rfl, rfl, rfl⟩) e
theorem cmpT_ord : ∀ a b c : T, Ord3 (cmpT a b) (cmpT b c) (cmpT a c)
  | .node k n s xs, .node k' n' s' ys, .node k'' n'' s'' zs => by
    have h := first_ord xs (fun x _ y z => cmpT_ord x y z) ys zs
    rw [cmpT_node, cmpT_node, cmpT_node]
    refine ord3_cons (head_ord _ _ _ _ _ _ _ _ _ _ _ _) fun e1 e2 => h (head_zero.1 e1).2.2.2 (head_zero.1 e2).2.2.2
theorem first_range (xs : List T) (h : ∀ x ∈ xs, ∀ y, cmpT x y = -1 ∨ cmpT x y = 0 ∨ cmpT x y = 1) : ∀ ys, firstNZ (xs.map cmpT) ys = -1 ∨ firstNZ (xs.map cmpT) ys = 0 ∨ firstNZ (xs.map cmpT) ys = 1 := by
  induction xs with
  | nil => intro ys; simp [firstNZ]
  | cons x r ih =>
    intro ys
    cases ys with
    | nil => simp [firstNZ]
    | cons y t =>
      simp only [List.map_cons, firstNZ]
      split
      · exact ih (fun z hz => h z (by simp [hz])) t
      · exact h x (by simp) y
theorem nz_range (l : List Int) (h : ∀ x ∈ l, x = -1 ∨ x = 0 ∨ x = 1) : nz l = -1 ∨ nz l = 0 ∨ nz l = 1 := by
  induction l with
  | nil => simp [nz]
  | cons x r ih =>
    rw [nz_cons]
    split
    · exact ih (fun y hy => h y (by simp [hy]))
    · exact h x (by simp)
theorem head_range (k n : Int) (s : ByteArray) (m : Nat) (k' n' : Int) (s' : ByteArray) (m' : Nat) : nz (headC k n s m k' n' s' m') = -1 ∨ nz (headC k n s m k' n' s' m') = 0 ∨ nz (headC k n s m k' n' s' m') = 1 := by
  refine nz_range _ fun x hx => ?_
  unfold headC at hx
  simp only [List.mem_cons, List.mem_nil_iff, or_false] at hx
  rcases hx with rfl | rfl | rfl | rfl
  · exact cmpI_range _ _
  · exact cmpI_range _ _
  · exact cmpS_range _ _
  · exact cmpI_range _ _
theorem cmpT_range : ∀ a b : T, cmpT a b = -1 ∨ cmpT a b = 0 ∨ cmpT a b = 1
  | .node k n s xs, .node k' n' s' ys => by
    have h := first_range xs (fun x _ y => cmpT_range x y) ys
    rw [cmpT_node]
    split
    · exact h
    · exact head_range _ _ _ _ _ _ _ _
end Go.Proofs.Ytidbokheeieifaa
