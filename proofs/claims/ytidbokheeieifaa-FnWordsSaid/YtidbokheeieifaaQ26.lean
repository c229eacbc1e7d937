/-
  Plain facts on lists of strings: their keys in a set, the strictly ascending list of their elements, the insertion that builds it. No program.
-/
import Derived.Test.YtidbokheeieifaaQ16
import Derived.Sort.KeysCollected
import Derived.Maps.Views
import Derived.Lib.SlicesS
import Derived.WalkKit
namespace Go.Proofs.Ytidbokheeieifaa
open Go Go.Maps

theorem less_iff (a b : ByteArray) : Op.bytesLess a.toList b.toList = true ↔ key a < key b := by
  rw [toList_key, toList_key]
  have h : ∀ (x y : List UInt8), Op.bytesLess x y = decide (x < y) := by
    intro x
    induction x with
    | nil => intro y; cases y <;> simp [Op.bytesLess]
    | cons a x ih =>
      intro y
      cases y with
      | nil => simp [Op.bytesLess]
      | cons b y =>
        rw [Op.bytesLess, ih y]
        simp only [List.cons_lt_cons_iff]
        by_cases h1 : a < b <;> by_cases h2 : a = b <;> by_cases h3 : x < y <;> simp [h1, h2, h3]
  rw [h, decide_eq_true_iff]

/-! ### the ascending list -/
/-- rs are the elements of ps, each once, in strictly ascending order. -/
def SortedOf (ps rs : List ByteArray) : Prop := rs.Pairwise (fun a b => key a < key b) ∧ ∀ x, x ∈ rs ↔ x ∈ ps

theorem lt_irr (a : List UInt8) : ¬ a < a := List.lt_irrefl a
theorem lt_tr {a b c : List UInt8} (h : a < b) (k : b < c) : a < c := List.lt_trans h k
theorem lt_or {a b : List UInt8} (h : a ≠ b) : a < b ∨ b < a := by
  by_cases h1 : a < b
  · exact Or.inl h1
  · by_cases h2 : b < a
    · exact Or.inr h2
    · exact absurd (List.le_antisymm (List.not_lt.1 h2) (List.not_lt.1 h1)) h

theorem asc_unique : ∀ (a b : List ByteArray), a.Pairwise (fun x y => key x < key y) → b.Pairwise (fun x y => key x < key y) → (∀ x, x ∈ a ↔ x ∈ b) → a = b
  | [], [], _, _, _ => rfl
  | [], y :: b, _, _, h => absurd ((h y).2 (by simp)) (by simp)
  | x :: a, [], _, _, h => absurd ((h x).1 (by simp)) (by simp)
  | x :: a, y :: b, ha, hb, h => by
    obtain ⟨ha1, ha2⟩ := List.pairwise_cons.1 ha
    obtain ⟨hb1, hb2⟩ := List.pairwise_cons.1 hb
    have hxy : x = y := by
      rcases List.mem_cons.1 ((h x).1 (by simp)) with e | hx
      · exact e
      · rcases List.mem_cons.1 ((h y).2 (by simp)) with e | hy
        · exact e.symm
        · exact absurd (lt_tr (ha1 y hy) (hb1 x hx)) (lt_irr _)
    subst hxy
    congr 1
    refine asc_unique a b ha2 hb2 fun z => ?_
    have hz := h z
    rw [List.mem_cons, List.mem_cons] at hz
    constructor
    · intro k
      rcases hz.1 (Or.inr k) with e | e
      · subst e; exact absurd (ha1 z k) (lt_irr _)
      · exact e
    · intro k
      rcases hz.2 (Or.inr k) with e | e
      · subst e; exact absurd (hb1 z k) (lt_irr _)
      · exact e

theorem SortedOf.unique {ps a b : List ByteArray} (ha : SortedOf ps a) (hb : SortedOf ps b) : a = b :=
  asc_unique a b ha.1 hb.1 fun x => (ha.2 x).trans (hb.2 x).symm

theorem SortedOf.nil : SortedOf [] [] := ⟨List.Pairwise.nil, fun _ => Iff.rfl⟩

/-- An element that is there already. -/
theorem SortedOf.there {ps rs : List ByteArray} (h : SortedOf ps rs) (s : ByteArray) (hs : s ∈ rs) : SortedOf (ps ++ [s]) rs := by
  refine ⟨h.1, fun x => ?_⟩
  rw [List.mem_append, List.mem_singleton, h.2 x]
  constructor
  · exact Or.inl
  · rintro (k | rfl)
    · exact k
    · exact (h.2 x).1 hs

/-- A new element goes in behind the lesser ones. -/
theorem SortedOf.insert {ps rs : List ByteArray} (h : SortedOf ps rs) (s : ByteArray) (at' : Nat) (hat : at' ≤ rs.length) (hl : ∀ j r, j < at' → rs[j]? = some r → key r < key s)
    (hr : ∀ r, rs[at']? = some r → ¬ key r < key s ∧ r ≠ s) : SortedOf (ps ++ [s]) (rs.take at' ++ [s] ++ rs.drop at') := by
  have hp : (rs.take at' ++ rs.drop at').Pairwise (fun a b => key a < key b) := by rw [List.take_append_drop]; exact h.1
  obtain ⟨p1, p2, p3⟩ := List.pairwise_append.1 hp
  have hlow : ∀ a ∈ rs.take at', key a < key s := by
    intro a ha
    obtain ⟨j, hj⟩ := List.mem_iff_getElem?.1 ha
    have hj' : j < at' := by
      have := (List.getElem?_eq_some_iff.1 hj).1
      rw [List.length_take] at this; omega
    rw [List.getElem?_take, if_pos hj'] at hj
    exact hl j a hj' hj
  have hhigh : ∀ b ∈ rs.drop at', key s < key b := by
    intro b hb
    cases hd : rs.drop at' with
    | nil => rw [hd] at hb; cases hb
    | cons r t =>
      have h0 : rs[at']? = some r := by
        have e : (rs.drop at')[0]? = some r := by rw [hd]; rfl
        rw [List.getElem?_drop] at e; simpa using e
      obtain ⟨n1, n2⟩ := hr r h0
      have hsr : key s < key r := by
        rcases lt_or (a := key r) (b := key s) (fun e => n2 (key_inj e)) with k | k
        · exact absurd k n1
        · exact k
      rw [hd] at hb p2
      rcases List.mem_cons.1 hb with rfl | hb
      · exact hsr
      · exact lt_tr hsr ((List.pairwise_cons.1 p2).1 b hb)
  refine ⟨?_, fun x => ?_⟩
  · rw [List.append_assoc]
    refine List.pairwise_append.2 ⟨p1, ?_, ?_⟩
    · exact List.pairwise_cons.2 ⟨hhigh, p2⟩
    · intro a ha b hb
      rcases List.mem_cons.1 (by simpa using hb) with rfl | hb
      · exact hlow a ha
      · exact lt_tr (hlow a ha) (hhigh b hb)
  · have hx := h.2 x
    rw [← List.take_append_drop at' rs] at hx
    simp only [List.mem_append, List.mem_singleton] at hx ⊢
    rw [← hx]
    constructor
    · rintro ((a | a) | a)
      · exact Or.inl (Or.inl a)
      · exact Or.inr a
      · exact Or.inl (Or.inr a)
    · rintro ((a | a) | a)
      · exact Or.inl (Or.inl a)
      · exact Or.inr a
      · exact Or.inl (Or.inr a)

/-! ### the set of a list's strings -/
section
variable {H : Type}
def lits (ps : List ByteArray) : List Lit := ps.map fun s => .string (key s)
def Sset (ps : List ByteArray) : DataW H := setOf (.lit (.bool true)) (lits ps)
theorem lits_key (ps : List ByteArray) : ∀ x ∈ lits ps, WideAt.IsKeyLit x := by
  intro x hx
  obtain ⟨s, _, rfl⟩ := List.mem_map.1 hx
  trivial
theorem Sset_nil : Sset (H := H) [] = .map [] := rfl
theorem Sset_snoc (ps : List ByteArray) (s : ByteArray) : Sset (H := H) (ps ++ [s]) = (Sset ps).put (.string (key s)) (.lit (.bool true)) := by
  unfold Sset lits
  rw [List.map_append, List.map_cons, List.map_nil, setOf_snoc]
theorem any_same (ps : List ByteArray) (x : List UInt8) : (lits ps).any (fun y => y.sameKey (.string x)) = true ↔ ∃ s ∈ ps, key s = x := by
  rw [List.any_eq_true]
  constructor
  · rintro ⟨y, hy, hs⟩
    obtain ⟨s, hs', rfl⟩ := List.mem_map.1 hy
    exact ⟨s, hs', by simpa [Lit.sameKey] using hs⟩
  · rintro ⟨s, hs, rfl⟩
    exact ⟨_, List.mem_map.2 ⟨s, hs, rfl⟩, by simp [Lit.sameKey]⟩
theorem has_Sset (ps : List ByteArray) (s : ByteArray) : Maps.has (Sset (H := H) ps) (.string (key s)) = true ↔ s ∈ ps := by
  unfold Sset
  rw [has_setOf _ _ _ (lits_key ps), any_same]
  exact ⟨fun ⟨x, hx, e⟩ => key_inj e ▸ hx, fun h => ⟨s, h, rfl⟩⟩
theorem tidy_Sset (ps : List ByteArray) : Tidy (Sset (H := H) ps) := tidy_setOf _ _ (lits_key ps)

theorem snoc_ind {α : Type} {X : List α → Prop} (h0 : X []) (hs : ∀ l x, X l → X (l ++ [x])) (l : List α) : X l := by
  have h : ∀ l : List α, X l.reverse := by
    intro l
    induction l with
    | nil => exact h0
    | cons x l ih => rw [List.reverse_cons]; exact hs _ _ ih
  have := h l.reverse
  rwa [List.reverse_reverse] at this
theorem size_Sset_le (ps : List ByteArray) : Maps.size (Sset (H := H) ps) ≤ ps.length := by
  refine snoc_ind (X := fun ps => Maps.size (Sset (H := H) ps) ≤ ps.length) (by simp [Sset_nil, Maps.size]) (fun ps s ih => ?_) ps
  rw [Sset_snoc, size_put (tidy_Sset ps)]
  split <;> simp <;> omega
/-- A set filled from a list is as great as the list just where no element is there twice. -/
theorem size_Sset (ps : List ByteArray) : Maps.size (Sset (H := H) ps) = ps.length ↔ ps.Nodup := by
  refine snoc_ind (X := fun ps => Maps.size (Sset (H := H) ps) = ps.length ↔ ps.Nodup) (by simp [Sset_nil, Maps.size]) (fun ps s ih => ?_) ps
  · rw [Sset_snoc, size_put (tidy_Sset ps)]
    have hle := size_Sset_le (H := H) ps
    have hh := has_Sset (H := H) ps s
    rw [List.length_append, List.length_cons, List.length_nil]
    by_cases hs : s ∈ ps
    · rw [if_pos (hh.2 hs)]
      constructor
      · intro e; omega
      · intro nd
        exact absurd rfl ((List.nodup_append.1 nd).2.2 s hs s (by simp))
    · have hf : ¬ Maps.has (Sset (H := H) ps) (.string (key s)) = true := fun e => hs (hh.1 e)
      rw [if_neg hf]
      constructor
      · intro e
        refine List.nodup_append.2 ⟨ih.1 (by omega), by simp, fun a ha b hb e2 => ?_⟩
        simp at hb
        subst hb; subst e2
        exact hs ha
      · intro nd
        have := ih.2 (List.nodup_append.1 nd).1
        omega
end

/-- The sort's answer, as strings. -/
def strs (l : List (List UInt8)) : List ByteArray := l.map fun x => ⟨x.toArray⟩
theorem key_strs (x : List UInt8) : key ⟨x.toArray⟩ = x := by simp [key]
theorem strs_vals (l : List (List UInt8)) : (strs l).map Value.string = l.map encStr := by simp [strs, encStr]

theorem sorted_strs {H : Type} (ps : List ByteArray) (ks : List (List UInt8)) (hk : ∀ x ∈ strKeys (Sset (H := H) ps), ∃ s ∈ ps, key s = x) (h : ks.Perm (strKeys (Sset (H := H) ps))) (hnd : (strKeys (Sset (H := H) ps)).Nodup)
    (hall : ∀ s ∈ ps, key s ∈ strKeys (Sset (H := H) ps)) : SortedOf ps (strs (ks.mergeSort leB)) := by
  have tr : ∀ a b c : List UInt8, leB a b = true → leB b c = true → leB a c = true := fun a b c h1 h2 => by simp only [leB, decide_eq_true_eq] at *; exact List.le_trans h1 h2
  have tot : ∀ a b : List UInt8, (leB a b || leB b a) = true := fun a b => by simp only [leB, Bool.or_eq_true, decide_eq_true_eq]; exact List.le_total a b
  have hp := List.pairwise_mergeSort tr tot ks
  have hperm := List.mergeSort_perm ks leB
  have hnd2 : (ks.mergeSort leB).Nodup := (hperm.trans h).nodup_iff.2 hnd
  refine ⟨?_, fun x => ?_⟩
  · unfold strs
    rw [List.pairwise_map]
    have hq := hp.and hnd2
    refine hq.imp fun {a b} hab => ?_
    rw [key_strs, key_strs]
    obtain ⟨h1, h2⟩ := hab
    simp only [leB, decide_eq_true_eq] at h1
    rcases lt_or h2 with k | k
    · exact k
    · exact absurd k (List.not_lt.2 h1)
  · unfold strs
    rw [List.mem_map]
    constructor
    · rintro ⟨y, hy, rfl⟩
      obtain ⟨s, hs, e⟩ := hk y (h.subset (hperm.subset hy))
      have : (⟨y.toArray⟩ : ByteArray) = s := key_inj (by rw [key_strs, e])
      rw [this]; exact hs
    · intro hx
      refine ⟨key x, hperm.symm.subset (h.symm.subset (hall x hx)), key_inj (key_strs _)⟩

/-- The keys of the set that a walk holds. -/
theorem keys_Sset {H : Type} {P : Program} {k : TypeId} {R : Value → Option (DataW H × List MemPlace)} {w : World} {b n : Nat} (ps : List ByteArray) (hown : w.ownsMap P k R b n (Sset (H := H) ps)) (hk : P.underlying k = some .string) :
    (strKeys (Sset (H := H) ps)).Nodup ∧ (∀ x ∈ strKeys (Sset (H := H) ps), ∃ s ∈ ps, key s = x) ∧ ∀ s ∈ ps, key s ∈ strKeys (Sset (H := H) ps) := by
  obtain ⟨es, hD, hpw⟩ := tidy_Sset (H := H) ps
  obtain ⟨es', hD', hko⟩ := hown.keysOf
  obtain rfl : es = es' := by rw [hD] at hD'; simpa using hD'
  have hstr : ∀ p ∈ es, ∃ x, p.1 = .string x := fun p hp => by
    obtain ⟨v, hv⟩ := hko p hp
    obtain ⟨x, _, hx, _⟩ := Maps.keyOf_str hk hv
    exact ⟨x, hx⟩
  have hm : ∀ x, x ∈ strKeys (Sset (H := H) ps) ↔ ∃ s ∈ ps, key s = x := by
    intro x
    have h1 : x ∈ strKeys (Sset (H := H) ps) ↔ Maps.has (Sset (H := H) ps) (.string x) = true := by
      rw [hD, has_eq, List.any_eq_true]
      show x ∈ es.map (fun p => strOf p.1) ↔ _
      rw [List.mem_map]
      constructor
      · rintro ⟨p, hp, rfl⟩
        obtain ⟨a, ha⟩ := hstr p hp
        exact ⟨p, hp, by rw [ha]; simp [Lit.sameKey, strOf]⟩
      · rintro ⟨p, hp, hs⟩
        obtain ⟨a, ha⟩ := hstr p hp
        rw [ha] at hs
        exact ⟨p, hp, by rw [ha]; simpa [Lit.sameKey, strOf] using hs⟩
    rw [h1]
    unfold Sset
    rw [has_setOf _ _ _ (lits_key ps), any_same]
  refine ⟨?_, fun x hx => (hm x).1 hx, fun s hs => (hm _).2 ⟨s, hs, rfl⟩⟩
  rw [hD]
  show (es.map fun p => strOf p.1).Nodup
  refine List.pairwise_map.2 (hpw.imp_of_mem fun {p q} hp' hq' hne e => hne ?_)
  obtain ⟨a, ha⟩ := hstr p hp'
  obtain ⟨b, hb⟩ := hstr q hq'
  rw [ha, hb] at e ⊢
  exact congrArg _ e
theorem sorted_len {H : Type} (ps : List ByteArray) (ks : List (List UInt8)) (h : ks.Perm (strKeys (Sset (H := H) ps))) : (strs (ks.mergeSort leB)).length = ks.length ∧ ks.length ≤ ps.length := by
  have e1 : (strs (ks.mergeSort leB)).length = ks.length := by simp [strs]
  refine ⟨e1, ?_⟩
  rw [h.length_eq]
  obtain ⟨es, hD, _⟩ := tidy_Sset (H := H) ps
  have h2 := size_Sset_le (H := H) ps
  rw [hD] at h2 ⊢
  show (es.map fun p => strOf p.1).length ≤ _
  rw [List.length_map]
  exact h2
end Go.Proofs.Ytidbokheeieifaa
