/-
  Plain facts on lists of strings: their keys in a set, the strictly ascending list of their elements, the insertion that builds it. No program.
  The order of terms, as the document says it: by kind, number, name, number of arguments, then the arguments in order. That it is a total order. No program.
  Comparing two terms by two lists of nodes that are still to be compared, the next one last. No walk.
  spec.CompareTerms returns the order of two terms.
  The library's comparisons (cmp.Compare, strings.Compare, cmp.Or), and impl.compareNodes on them.
  impl.argsOf over a level that the caller owns, whose terms lie in an earlier world: the level below is again owned, its terms in that world.
-/
import Derived.Test.YtidbokheeieifaaGreatDoorQ15
import Derived.Test.YtidbokheeieifaaGreatDoorQ5
import Derived.Test.YtidbokheeieifaaGreatDoorQ40
import Derived.Test.YtidbokheeieifaaGreatDoorQ8
import Derived.Test.YtidbokheeieifaaGreatDoorQ38
import Derived.Test.YtidbokheeieifaaGreatDoorQ23
import Derived.Sort.KeysCollected
import Derived.Maps.Views
import Derived.Lib.SlicesS
import Derived.WalkKit
import Derived.Lib.Bytealg
namespace Go.Proofs.YtidbokheeieifaaGreatDoor
open Go Go.Maps

theorem less_iff (a b : ByteArray) : Op.bytesLess a.toList b.toList = true ↔ key a < key b := by
  rw [toList_key, toList_key]
  have h : ∀ (x y : List UInt8), Op.bytesLess x y = decide (x < y) := by
    intro x
    induction x with
    | nil => intro y; cases y <;> simp [Op.bytesLess]
    | cons a x ih =>
      intro y
      cases y with
      | nil => simp [Op.bytesLess]
      | cons b y =>
        rw [Op.bytesLess, ih y]
        simp only [List.cons_lt_cons_iff]
        by_cases h1 : a < b <;> by_cases h2 : a = b <;> by_cases h3 : x < y <;> simp [h1, h2, h3]
  rw [h, decide_eq_true_iff]

/-! ### the ascending list -/
/-- rs are the elements of ps, each once, in strictly ascending order. -/
def SortedOf (ps rs : List ByteArray) : Prop := rs.Pairwise (fun a b => key a < key b) ∧ ∀ x, x ∈ rs ↔ x ∈ ps

theorem lt_irr (a : List UInt8) : ¬ a < a := List.lt_irrefl a
theorem lt_tr {a b c : List UInt8} (h : a < b) (k : b < c) : a < c := List.lt_trans h k
theorem lt_or {a b : List UInt8} (h : a ≠ b) : a < b ∨ b < a := by
  by_cases h1 : a < b
  · exact Or.inl h1
  · by_cases h2 : b < a
    · exact Or.inr h2
    · exact absurd (List.le_antisymm (List.not_lt.1 h2) (List.not_lt.1 h1)) h

theorem asc_unique : ∀ (a b : List ByteArray), a.Pairwise (fun x y => key x < key y) → b.Pairwise (fun x y => key x < key y) → (∀ x, x ∈ a ↔ x ∈ b) → a = b
  | [], [], _, _, _ => rfl
  | [], y :: b, _, _, h => absurd ((h y).2 (by simp)) (by simp)
  | x :: a, [], _, _, h => absurd ((h x).1 (by simp)) (by simp)
  | x :: a, y :: b, ha, hb, h => by
    obtain ⟨ha1, ha2⟩ := List.pairwise_cons.1 ha
    obtain ⟨hb1, hb2⟩ := List.pairwise_cons.1 hb
    have hxy : x = y := by
      rcases List.mem_cons.1 ((h x).1 (by simp)) with e | hx
      · exact e
      · rcases List.mem_cons.1 ((h y).2 (by simp)) with e | hy
        · exact e.symm
        · exact absurd (lt_tr (ha1 y hy) (hb1 x hx)) (lt_irr _)
    subst hxy
    congr 1
    refine asc_unique a b ha2 hb2 fun z => ?_
    have hz := h z
    rw [List.mem_cons, List.mem_cons] at hz
    constructor
    · intro k
      rcases hz.1 (Or.inr k) with e | e
      · subst e; exact absurd (ha1 z k) (lt_irr _)
      · exact e
    · intro k
      rcases hz.2 (Or.inr k) with e | e
      · subst e; exact absurd (hb1 z k) (lt_irr _)
      · exact e

theorem SortedOf.unique {ps a b : List ByteArray} (ha : SortedOf ps a) (hb : SortedOf ps b) : a = b :=
  asc_unique a b ha.1 hb.1 fun x => (ha.2 x).trans (hb.2 x).symm

theorem SortedOf.nil : SortedOf [] [] := ⟨List.Pairwise.nil, fun _ => Iff.rfl⟩

/-- An element that is there already. -/
theorem SortedOf.there {ps rs : List ByteArray} (h : SortedOf ps rs) (s : ByteArray) (hs : s ∈ rs) : SortedOf (ps ++ [s]) rs := by
  refine ⟨h.1, fun x => ?_⟩
  rw [List.mem_append, List.mem_singleton, h.2 x]
  constructor
  · exact Or.inl
  · rintro (k | rfl)
    · exact k
    · exact (h.2 x).1 hs

/-- A new element goes in behind the lesser ones. -/
theorem SortedOf.insert {ps rs : List ByteArray} (h : SortedOf ps rs) (s : ByteArray) (at' : Nat) (hat : at' ≤ rs.length) (hl : ∀ j r, j < at' → rs[j]? = some r → key r < key s)
    (hr : ∀ r, rs[at']? = some r → ¬ key r < key s ∧ r ≠ s) : SortedOf (ps ++ [s]) (rs.take at' ++ [s] ++ rs.drop at') := by
  have hp : (rs.take at' ++ rs.drop at').Pairwise (fun a b => key a < key b) := by rw [List.take_append_drop]; exact h.1
  obtain ⟨p1, p2, p3⟩ := List.pairwise_append.1 hp
  have hlow : ∀ a ∈ rs.take at', key a < key s := by
    intro a ha
    obtain ⟨j, hj⟩ := List.mem_iff_getElem?.1 ha
    have hj' : j < at' := by
      have := (List.getElem?_eq_some_iff.1 hj).1
      rw [List.length_take] at this; omega
    rw [List.getElem?_take, if_pos hj'] at hj
    exact hl j a hj' hj
  have hhigh : ∀ b ∈ rs.drop at', key s < key b := by
    intro b hb
    cases hd : rs.drop at' with
    | nil => rw [hd] at hb; cases hb
    | cons r t =>
      have h0 : rs[at']? = some r := by
        have e : (rs.drop at')[0]? = some r := by rw [hd]; rfl
        rw [List.getElem?_drop] at e; simpa using e
      obtain ⟨n1, n2⟩ := hr r h0
      have hsr : key s < key r := by
        rcases lt_or (a := key r) (b := key s) (fun e => n2 (key_inj e)) with k | k
        · exact absurd k n1
        · exact k
      rw [hd] at hb p2
      rcases List.mem_cons.1 hb with rfl | hb
      · exact hsr
      · exact lt_tr hsr ((List.pairwise_cons.1 p2).1 b hb)
  refine ⟨?_, fun x => ?_⟩
  · rw [List.append_assoc]
    refine List.pairwise_append.2 ⟨p1, ?_, ?_⟩
    · exact List.pairwise_cons.2 ⟨hhigh, p2⟩
    · intro a ha b hb
      rcases List.mem_cons.1 (by simpa using hb) with rfl | hb
      · exact hlow a ha
      · exact lt_tr (hlow a ha) (hhigh b hb)
  · have hx := h.2 x
    rw [← List.take_append_drop at' rs] at hx
    simp only [List.mem_append, List.mem_singleton] at hx ⊢
    rw [← hx]
    constructor
    · rintro ((a | a) | a)
      · exact Or.inl (Or.inl a)
      · exact Or.inr a
      · exact Or.inl (Or.inr a)
    · rintro ((a | a) | a)
      · exact Or.inl (Or.inl a)
      · exact Or.inr a
      · exact Or.inl (Or.inr a)

/-! ### the set of a list's strings -/
section
variable {H : Type}
def lits (ps : List ByteArray) : List Lit := ps.map fun s => .string (key s)
def Sset (ps : List ByteArray) : DataW H := setOf (.lit (.bool true)) (lits ps)
theorem lits_key (ps : List ByteArray) : ∀ x ∈ lits ps, WideAt.IsKeyLit x := by
  intro x hx
  obtain ⟨s, _, rfl⟩ := List.mem_map.1 hx
  trivial
theorem Sset_nil : Sset (H := H) [] = .map [] := rfl
theorem Sset_snoc (ps : List ByteArray) (s : ByteArray) : Sset (H := H) (ps ++ [s]) = (Sset ps).put (.string (key s)) (.lit (.bool true)) := by
  unfold Sset lits
  rw [List.map_append, List.map_cons, List.map_nil, setOf_snoc]
theorem any_same (ps : List ByteArray) (x : List UInt8) : (lits ps).any (fun y => y.sameKey (.string x)) = true ↔ ∃ s ∈ ps, key s = x := by
  rw [List.any_eq_true]
  constructor
  · rintro ⟨y, hy, hs⟩
    obtain ⟨s, hs', rfl⟩ := List.mem_map.1 hy
    exact ⟨s, hs', by simpa [Lit.sameKey] using hs⟩
  · rintro ⟨s, hs, rfl⟩
    exact ⟨_, List.mem_map.2 ⟨s, hs, rfl⟩, by simp [Lit.sameKey]⟩
theorem has_Sset (ps : List ByteArray) (s : ByteArray) : Maps.has (Sset (H := H) ps) (.string (key s)) = true ↔ s ∈ ps := by
  unfold Sset
  rw [has_setOf _ _ _ (lits_key ps), any_same]
  exact ⟨fun ⟨x, hx, e⟩ => key_inj e ▸ hx, fun h => ⟨s, h, rfl⟩⟩
theorem tidy_Sset (ps : List ByteArray) : Tidy (Sset (H := H) ps) := tidy_setOf _ _ (lits_key ps)

theorem snoc_ind {α : Type} {X : List α → Prop} (h0 : X []) (hs : ∀ l x, X l → X (l ++ [x])) (l : List α) : X l := by
  have h : ∀ l : List α, X l.reverse := by
    intro l
    induction l with
    | nil => exact h0
    | cons x l ih => rw [List.reverse_cons]; exact hs _ _ ih
  have := h l.reverse
  rwa [List.reverse_reverse] at this
theorem size_Sset_le (ps : List ByteArray) : Maps.size (Sset (H := H) ps) ≤ ps.length := by
  refine snoc_ind (X := fun ps => Maps.size (Sset (H := H) ps) ≤ ps.length) (by simp [Sset_nil, Maps.size]) (fun ps s ih => ?_) ps
  rw [Sset_snoc, size_put (tidy_Sset ps)]
  split <;> simp <;> omega
/-- A set filled from a list is as great as the list just where no element is there twice. -/
theorem size_Sset (ps : List ByteArray) : Maps.size (Sset (H := H) ps) = ps.length ↔ ps.Nodup := by
  refine snoc_ind (X := fun ps => Maps.size (Sset (H := H) ps) = ps.length ↔ ps.Nodup) (by simp [Sset_nil, Maps.size]) (fun ps s ih => ?_) ps
  · rw [Sset_snoc, size_put (tidy_Sset ps)]
    have hle := size_Sset_le (H := H) ps
    have hh := has_Sset (H := H) ps s
    rw [List.length_append, List.length_cons, List.length_nil]
    by_cases hs : s ∈ ps
    · rw [if_pos (hh.2 hs)]
      constructor
      · intro e; omega
      · intro nd
        exact absurd rfl ((List.nodup_append.1 nd).2.2 s hs s (by simp))
    · have hf : ¬ Maps.has (Sset (H := H) ps) (.string (key s)) = true := fun e => hs (hh.1 e)
      rw [if_neg hf]
      constructor
      · intro e
        refine List.nodup_append.2 ⟨ih.1 (by omega), by simp, fun a ha b hb e2 => ?_⟩
        simp at hb
        subst hb; subst e2
        exact hs ha
      · intro nd
        have := ih.2 (List.nodup_append.1 nd).1
        omega
end

/-- The sort's answer, as strings. -/
def strs (l : List (List UInt8)) : List ByteArray := l.map fun x => ⟨x.toArray⟩
theorem key_strs (x : List UInt8) : key ⟨x.toArray⟩ = x := by simp [key]
theorem strs_vals (l : List (List UInt8)) : (strs l).map Value.string = l.map encStr := by simp [strs, encStr]

theorem sorted_strs {H : Type} (ps : List ByteArray) (ks : List (List UInt8)) (hk : ∀ x ∈ strKeys (Sset (H := H) ps), ∃ s ∈ ps, key s = x) (h : ks.Perm (strKeys (Sset (H := H) ps))) (hnd : (strKeys (Sset (H := H) ps)).Nodup)
    (hall : ∀ s ∈ ps, key s ∈ strKeys (Sset (H := H) ps)) : SortedOf ps (strs (ks.mergeSort leB)) := by
  have tr : ∀ a b c : List UInt8, leB a b = true → leB b c = true → leB a c = true := fun a b c h1 h2 => by simp only [leB, decide_eq_true_eq] at *; exact List.le_trans h1 h2
  have tot : ∀ a b : List UInt8, (leB a b || leB b a) = true := fun a b => by simp only [leB, Bool.or_eq_true, decide_eq_true_eq]; exact List.le_total a b
  have hp := List.pairwise_mergeSort tr tot ks
  have hperm := List.mergeSort_perm ks leB
  have hnd2 : (ks.mergeSort leB).Nodup := (hperm.trans h).nodup_iff.2 hnd
  refine ⟨?_, fun x => ?_⟩
  · unfold strs
    rw [List.pairwise_map]
    have hq := hp.and hnd2
    refine hq.imp fun {a b} hab => ?_
    rw [key_strs, key_strs]
    obtain ⟨h1, h2⟩ := hab
    simp only [leB, decide_eq_true_eq] at h1
    rcases lt_or h2 with k | k
    · exact k
    · exact absurd k (List.not_lt.2 h1)
  · unfold strs
    rw [List.mem_map]
    constructor
    · rintro ⟨y, hy, rfl⟩
      obtain ⟨s, hs, e⟩ := hk y (h.subset (hperm.subset hy))
      have : (⟨y.toArray⟩ : ByteArray) = s := key_inj (by rw [key_strs, e])
      rw [this]; exact hs
    · intro hx
      refine ⟨key x, hperm.symm.subset (h.symm.subset (hall x hx)), key_inj (key_strs _)⟩

/-- The keys of the set that a walk holds. -/
theorem keys_Sset {H : Type} {P : Program} {k : TypeId} {R : Value → Option (DataW H × List MemPlace)} {w : World} {b n : Nat} (ps : List ByteArray) (hown : w.ownsMap P k R b n (Sset (H := H) ps)) (hk : P.underlying k = some .string) :
    (strKeys (Sset (H := H) ps)).Nodup ∧ (∀ x ∈ strKeys (Sset (H := H) ps), ∃ s ∈ ps, key s = x) ∧ ∀ s ∈ ps, key s ∈ strKeys (Sset (H := H) ps) := by
  obtain ⟨es, hD, hpw⟩ := tidy_Sset (H := H) ps
  obtain ⟨es', hD', hko⟩ := hown.keysOf
  obtain rfl : es = es' := by rw [hD] at hD'; simpa using hD'
  have hstr : ∀ p ∈ es, ∃ x, p.1 = .string x := fun p hp => by
    obtain ⟨v, hv⟩ := hko p hp
    obtain ⟨x, _, hx, _⟩ := Maps.keyOf_str hk hv
    exact ⟨x, hx⟩
  have hm : ∀ x, x ∈ strKeys (Sset (H := H) ps) ↔ ∃ s ∈ ps, key s = x := by
    intro x
    have h1 : x ∈ strKeys (Sset (H := H) ps) ↔ Maps.has (Sset (H := H) ps) (.string x) = true := by
      rw [hD, has_eq, List.any_eq_true]
      show x ∈ es.map (fun p => strOf p.1) ↔ _
      rw [List.mem_map]
      constructor
      · rintro ⟨p, hp, rfl⟩
        obtain ⟨a, ha⟩ := hstr p hp
        exact ⟨p, hp, by rw [ha]; simp [Lit.sameKey, strOf]⟩
      · rintro ⟨p, hp, hs⟩
        obtain ⟨a, ha⟩ := hstr p hp
        rw [ha] at hs
        exact ⟨p, hp, by rw [ha]; simpa [Lit.sameKey, strOf] using hs⟩
    rw [h1]
    unfold Sset
    rw [has_setOf _ _ _ (lits_key ps), any_same]
  refine ⟨?_, fun x hx => (hm x).1 hx, fun s hs => (hm _).2 ⟨s, hs, rfl⟩⟩
  rw [hD]
  show (es.map fun p => strOf p.1).Nodup
  refine List.pairwise_map.2 (hpw.imp_of_mem fun {p q} hp' hq' hne e => hne ?_)
  obtain ⟨a, ha⟩ := hstr p hp'
  obtain ⟨b, hb⟩ := hstr q hq'
  rw [ha, hb] at e ⊢
  exact congrArg _ e
theorem sorted_len {H : Type} (ps : List ByteArray) (ks : List (List UInt8)) (h : ks.Perm (strKeys (Sset (H := H) ps))) : (strs (ks.mergeSort leB)).length = ks.length ∧ ks.length ≤ ps.length := by
  have e1 : (strs (ks.mergeSort leB)).length = ks.length := by simp [strs]
  refine ⟨e1, ?_⟩
  rw [h.length_eq]
  obtain ⟨es, hD, _⟩ := tidy_Sset (H := H) ps
  have h2 := size_Sset_le (H := H) ps
  rw [hD] at h2 ⊢
  show (es.map fun p => strOf p.1).length ≤ _
  rw [List.length_map]
  exact h2
end Go.Proofs.YtidbokheeieifaaGreatDoor
namespace Go.Proofs.YtidbokheeieifaaGreatDoor
open Go

def cmpI (a b : Int) : Int := if a < b then -1 else if b < a then 1 else 0
open Classical in
noncomputable def cmpS (a b : ByteArray) : Int := if key a < key b then -1 else if key b < key a then 1 else 0
/-- The first that is not zero. -/
def nz : List Int → Int
  | [] => 0
  | x :: r => if x = 0 then nz r else x
def firstNZ : List (T → Int) → List T → Int
  | f :: fs, y :: ys => if f y = 0 then firstNZ fs ys else f y
  | _, _ => 0
noncomputable def headC (k n : Int) (s : ByteArray) (m : Nat) (k' n' : Int) (s' : ByteArray) (m' : Nat) : List Int := [cmpI k k', cmpI n n', cmpS s s', cmpI m m']
noncomputable def cmpT : T → T → Int
  | .node k n s xs => fun b => match b with
    | .node k' n' s' ys => if nz (headC k n s xs.length k' n' s' ys.length) = 0 then firstNZ (xs.map cmpT) ys else nz (headC k n s xs.length k' n' s' ys.length)
theorem cmpT_node (k n : Int) (s : ByteArray) (xs : List T) (k' n' : Int) (s' : ByteArray) (ys : List T) :
    cmpT (.node k n s xs) (.node k' n' s' ys) = if nz (headC k n s xs.length k' n' s' ys.length) = 0 then firstNZ (xs.map cmpT) ys else nz (headC k n s xs.length k' n' s' ys.length) := by rw [cmpT]

theorem cmpI_range (a b : Int) : cmpI a b = -1 ∨ cmpI a b = 0 ∨ cmpI a b = 1 := by
  unfold cmpI
  repeat' split
  · exact Or.inl rfl
  · exact Or.inr (Or.inr rfl)
  · exact Or.inr (Or.inl rfl)
theorem cmpI_flip (a b : Int) : cmpI b a = - cmpI a b := by unfold cmpI; repeat' split <;> omega
theorem cmpI_zero (a b : Int) : cmpI a b = 0 ↔ a = b := by unfold cmpI; repeat' split <;> omega
theorem cmpI_trans {a b c : Int} (h : cmpI a b ≤ 0) (k : cmpI b c ≤ 0) : cmpI a c ≤ 0 ∧ (cmpI a c = 0 → cmpI a b = 0 ∧ cmpI b c = 0) := by unfold cmpI at *; repeat' split at * <;> omega
theorem cmpS_range (a b : ByteArray) : cmpS a b = -1 ∨ cmpS a b = 0 ∨ cmpS a b = 1 := by
  unfold cmpS
  repeat' split
  · exact Or.inl rfl
  · exact Or.inr (Or.inr rfl)
  · exact Or.inr (Or.inl rfl)
theorem cmpS_flip (a b : ByteArray) : cmpS b a = - cmpS a b := by
  unfold cmpS
  by_cases h1 : key a < key b
  · have h2 : ¬ key b < key a := fun h => lt_irr _ (lt_tr h1 h)
    simp [h1, h2]
  · by_cases h2 : key b < key a <;> simp [h1, h2]
theorem cmpS_zero (a b : ByteArray) : cmpS a b = 0 ↔ a = b := by
  unfold cmpS
  constructor
  · intro h
    by_cases e : key a = key b
    · exact key_inj e
    · rcases lt_or e with k | k
      · simp [k] at h
      · have h2 : ¬ key a < key b := fun q => lt_irr _ (lt_tr q k)
        simp [k, h2] at h
  · rintro rfl
    simp [lt_irr]
theorem cmpS_neg {a b : ByteArray} : cmpS a b ≤ 0 ↔ key a < key b ∨ a = b := by
  unfold cmpS
  by_cases h1 : key a < key b
  · simp [h1]
  · by_cases h2 : key b < key a
    · have hne : a ≠ b := fun e => by subst e; exact lt_irr _ h2
      simp [h1, h2, hne]
    · have e : a = b := by
        by_cases q : key a = key b
        · exact key_inj q
        · rcases lt_or q with k | k
          · exact absurd k h1
          · exact absurd k h2
      subst e; simp [lt_irr]
theorem cmpS_trans {a b c : ByteArray} (h : cmpS a b ≤ 0) (k : cmpS b c ≤ 0) : cmpS a c ≤ 0 ∧ (cmpS a c = 0 → cmpS a b = 0 ∧ cmpS b c = 0) := by
  rcases cmpS_neg.1 h with h1 | rfl
  · rcases cmpS_neg.1 k with k1 | rfl
    · have hac := lt_tr h1 k1
      refine ⟨cmpS_neg.2 (Or.inl hac), fun e => ?_⟩
      rw [cmpS_zero] at e
      subst e
      exact absurd hac (lt_irr _)
    · exact ⟨h, fun e => ⟨e, (cmpS_zero _ _).2 rfl⟩⟩
  · exact ⟨k, fun e => ⟨(cmpS_zero _ _).2 rfl, e⟩⟩

/-- A way of comparing that is the lexical one of three results. -/
structure Ord3 (f g h : Int) : Prop where
  le : f ≤ 0 → g ≤ 0 → h ≤ 0 ∧ (h = 0 → f = 0 ∧ g = 0)
theorem nz_cons (x : Int) (r : List Int) : nz (x :: r) = if x = 0 then nz r else x := rfl
theorem nz_zero (l : List Int) : nz l = 0 ↔ ∀ x ∈ l, x = 0 := by
  induction l with
  | nil => simp [nz]
  | cons x r ih =>
    rw [nz_cons]
    by_cases h : x = 0
    · rw [if_pos h, ih]; simp [h]
    · rw [if_neg h]; simp [h]
theorem nz_neg (l : List Int) : nz (l.map (- ·)) = - nz l := by
  induction l with
  | nil => simp [nz]
  | cons x r ih =>
    rw [List.map_cons, nz_cons, nz_cons, ih]
    by_cases h : x = 0
    · simp [h]
    · have : ¬ -x = 0 := by omega
      simp [h]
theorem ord3_cons {a b c : Int} {f g h : Int} (h1 : Ord3 a b c) (h2 : a = 0 → b = 0 → Ord3 f g h) : Ord3 (if a = 0 then f else a) (if b = 0 then g else b) (if c = 0 then h else c) := by
  refine ⟨fun p q => ?_⟩
  have ha : a ≤ 0 := by split at p <;> omega
  have hb : b ≤ 0 := by split at q <;> omega
  obtain ⟨l1, l2⟩ := h1.le ha hb
  by_cases hc : c = 0
  · obtain ⟨rfl, rfl⟩ := l2 hc
    simp only [if_true] at p q
    obtain ⟨m1, m2⟩ := (h2 rfl rfl).le p q
    simp [hc, m1]
    exact m2
  · simp [hc]
    omega
theorem head_ord (k n : Int) (s : ByteArray) (m : Nat) (k' n' : Int) (s' : ByteArray) (m' : Nat) (k'' n'' : Int) (s'' : ByteArray) (m'' : Nat) :
    Ord3 (nz (headC k n s m k' n' s' m')) (nz (headC k' n' s' m' k'' n'' s'' m'')) (nz (headC k n s m k'' n'' s'' m'')) := by
  have oi : ∀ a b c : Int, Ord3 (cmpI a b) (cmpI b c) (cmpI a c) := fun a b c => ⟨fun h k => cmpI_trans h k⟩
  have os : ∀ a b c : ByteArray, Ord3 (cmpS a b) (cmpS b c) (cmpS a c) := fun a b c => ⟨fun h k => cmpS_trans h k⟩
  unfold headC
  simp only [nz_cons]
  refine ord3_cons (oi _ _ _) fun _ _ => ord3_cons (oi _ _ _) fun _ _ => ord3_cons (os _ _ _) fun _ _ => ord3_cons (oi _ _ _) fun _ _ => ?_
  exact ⟨fun _ _ => ⟨by simp [nz], fun _ => ⟨rfl, rfl⟩⟩⟩
theorem head_flip (k n : Int) (s : ByteArray) (m : Nat) (k' n' : Int) (s' : ByteArray) (m' : Nat) : nz (headC k' n' s' m' k n s m) = - nz (headC k n s m k' n' s' m') := by
  rw [← nz_neg]
  unfold headC
  rw [cmpI_flip k, cmpI_flip n, cmpS_flip s, cmpI_flip (m : Int)]
  rfl
theorem head_zero {k n : Int} {s : ByteArray} {m : Nat} {k' n' : Int} {s' : ByteArray} {m' : Nat} : nz (headC k n s m k' n' s' m') = 0 ↔ k = k' ∧ n = n' ∧ s = s' ∧ m = m' := by
  rw [nz_zero]
  unfold headC
  simp only [List.mem_cons, List.mem_nil_iff, or_false, forall_eq_or_imp, forall_eq, cmpI_zero, cmpS_zero]
  constructor
  · rintro ⟨a, b, c, d⟩; exact ⟨a, b, c, by omega⟩
  · rintro ⟨a, b, c, d⟩; exact ⟨a, b, c, by omega⟩

theorem first_flip (xs : List T) (h : ∀ x ∈ xs, ∀ y, cmpT y x = - cmpT x y) : ∀ ys, firstNZ (ys.map cmpT) xs = - firstNZ (xs.map cmpT) ys := by
  induction xs with
  | nil => intro ys; cases ys <;> simp [firstNZ]
  | cons x r ih =>
    intro ys
    cases ys with
    | nil => simp [firstNZ]
    | cons y t =>
      simp only [List.map_cons, firstNZ]
      rw [h x (by simp) y, ih (fun z hz => h z (by simp [hz])) t]
      by_cases e : cmpT x y = 0
      · simp [e]
      · have : ¬ - cmpT x y = 0 := by omega
        simp [e]
theorem first_zero (xs : List T) (h : ∀ x ∈ xs, ∀ y, cmpT x y = 0 ↔ x = y) : ∀ ys, xs.length = ys.length → (firstNZ (xs.map cmpT) ys = 0 ↔ xs = ys) := by
  induction xs with
  | nil => intro ys hl; cases ys <;> simp_all [firstNZ]
  | cons x r ih =>
    intro ys hl
    cases ys with
    | nil => simp at hl
    | cons y t =>
      simp only [List.map_cons, firstNZ]
      have h1 := h x (by simp) y
      have h2 := ih (fun z hz => h z (by simp [hz])) t (by simpa using hl)
      by_cases e : cmpT x y = 0
      · rw [if_pos e, h2, h1.1 e]; simp
      · rw [if_neg e]
        have : x ≠ y := fun q => e (h1.2 q)
        simp [e, this]
theorem first_ord (xs : List T) (h : ∀ x ∈ xs, ∀ y z, Ord3 (cmpT x y) (cmpT y z) (cmpT x z)) : ∀ ys zs, xs.length = ys.length → ys.length = zs.length →
    Ord3 (firstNZ (xs.map cmpT) ys) (firstNZ (ys.map cmpT) zs) (firstNZ (xs.map cmpT) zs) := by
  induction xs with
  | nil => intro ys zs h1 h2; cases ys <;> cases zs <;> simp at h1 h2; exact ⟨fun _ _ => by simp [firstNZ]⟩
  | cons x r ih =>
    intro ys zs h1 h2
    cases ys with
    | nil => simp at h1
    | cons y t =>
      cases zs with
      | nil => simp at h2
      | cons z q =>
        simp only [List.map_cons, firstNZ]
        exact ord3_cons (h x (by simp) y z) fun _ _ => ih (fun w hw => h w (by simp [hw])) t q (by simpa using h1) (by simpa using h2)

theorem cmpT_flip : ∀ a b : T, cmpT b a = - cmpT a b
  | .node k n s xs, .node k' n' s' ys => by
    have h := first_flip xs (fun x _ y => cmpT_flip x y) ys
    rw [cmpT_node, cmpT_node, head_flip, h]
    by_cases e : nz (headC k n s xs.length k' n' s' ys.length) = 0
    · simp [e]
    · have : ¬ - nz (headC k n s xs.length k' n' s' ys.length) = 0 := by omega
      simp [e]
theorem cmpT_zero : ∀ a b : T, cmpT a b = 0 ↔ a = b
  | .node k n s xs, .node k' n' s' ys => by
    have h := first_zero xs (fun x _ y => cmpT_zero x y) ys
    rw [cmpT_node]
    by_cases e : nz (headC k n s xs.length k' n' s' ys.length) = 0
    · obtain ⟨rfl, rfl, rfl, hl⟩ := head_zero.1 e
      rw [if_pos e, h hl]
      simp
    · rw [if_neg e]
      constructor
      · intro q; exact absurd q e
      · intro q; cases q; exact absurd (head_zero.2 ⟨rfl, rfl, rfl, rfl⟩) e
theorem cmpT_ord : ∀ a b c : T, Ord3 (cmpT a b) (cmpT b c) (cmpT a c)
  | .node k n s xs, .node k' n' s' ys, .node k'' n'' s'' zs => by
    have h := first_ord xs (fun x _ y z => cmpT_ord x y z) ys zs
    rw [cmpT_node, cmpT_node, cmpT_node]
    refine ord3_cons (head_ord _ _ _ _ _ _ _ _ _ _ _ _) fun e1 e2 => h (head_zero.1 e1).2.2.2 (head_zero.1 e2).2.2.2
theorem first_range (xs : List T) (h : ∀ x ∈ xs, ∀ y, cmpT x y = -1 ∨ cmpT x y = 0 ∨ cmpT x y = 1) : ∀ ys, firstNZ (xs.map cmpT) ys = -1 ∨ firstNZ (xs.map cmpT) ys = 0 ∨ firstNZ (xs.map cmpT) ys = 1 := by
  induction xs with
  | nil => intro ys; simp [firstNZ]
  | cons x r ih =>
    intro ys
    cases ys with
    | nil => simp [firstNZ]
    | cons y t =>
      simp only [List.map_cons, firstNZ]
      split
      · exact ih (fun z hz => h z (by simp [hz])) t
      · exact h x (by simp) y
theorem nz_range (l : List Int) (h : ∀ x ∈ l, x = -1 ∨ x = 0 ∨ x = 1) : nz l = -1 ∨ nz l = 0 ∨ nz l = 1 := by
  induction l with
  | nil => simp [nz]
  | cons x r ih =>
    rw [nz_cons]
    split
    · exact ih (fun y hy => h y (by simp [hy]))
    · exact h x (by simp)
theorem head_range (k n : Int) (s : ByteArray) (m : Nat) (k' n' : Int) (s' : ByteArray) (m' : Nat) : nz (headC k n s m k' n' s' m') = -1 ∨ nz (headC k n s m k' n' s' m') = 0 ∨ nz (headC k n s m k' n' s' m') = 1 := by
  refine nz_range _ fun x hx => ?_
  unfold headC at hx
  simp only [List.mem_cons, List.mem_nil_iff, or_false] at hx
  rcases hx with rfl | rfl | rfl | rfl
  · exact cmpI_range _ _
  · exact cmpI_range _ _
  · exact cmpS_range _ _
  · exact cmpI_range _ _
theorem cmpT_range : ∀ a b : T, cmpT a b = -1 ∨ cmpT a b = 0 ∨ cmpT a b = 1
  | .node k n s xs, .node k' n' s' ys => by
    have h := first_range xs (fun x _ y => cmpT_range x y) ys
    rw [cmpT_node]
    split
    · exact h
    · exact head_range _ _ _ _ _ _ _ _
end Go.Proofs.YtidbokheeieifaaGreatDoor
namespace Go.Proofs.YtidbokheeieifaaGreatDoor
open Go.RowKit

theorem first_app : ∀ (ps cs bs ds : List T), ps.length = cs.length → firstNZ ((ps ++ bs).map cmpT) (cs ++ ds) = if firstNZ (ps.map cmpT) cs = 0 then firstNZ (bs.map cmpT) ds else firstNZ (ps.map cmpT) cs
  | [], [], bs, ds, _ => by simp [firstNZ]
  | [], _ :: _, _, _, h => by simp at h
  | _ :: _, [], _, _, h => by simp at h
  | p :: ps, c :: cs, bs, ds, h => by
    have ih := first_app ps cs bs ds (by simpa using h)
    simp only [List.cons_append, List.map_cons, firstNZ]
    by_cases e : cmpT p c = 0
    · simp only [e, if_true]; exact ih
    · simp [e]

/-- What is left of a comparison. -/
noncomputable def SC (ls rs : List T) : Int := firstNZ (ls.reverse.map cmpT) rs.reverse
theorem SC_nil : SC [] [] = 0 := rfl
theorem SC_one (t u : T) : SC [t] [u] = cmpT t u := by
  simp [SC, firstNZ]
  intro h; exact h.symm
theorem SC_snoc (ls rs : List T) (x y : T) : SC (ls ++ [x]) (rs ++ [y]) = if cmpT x y = 0 then SC ls rs else cmpT x y := by
  simp [SC, firstNZ]
theorem SC_app (ls rs xs ys : List T) (h : xs.length = ys.length) : SC (ls ++ xs.reverse) (rs ++ ys.reverse) = if firstNZ (xs.map cmpT) ys = 0 then SC ls rs else firstNZ (xs.map cmpT) ys := by
  unfold SC
  rw [List.reverse_append, List.reverse_append, List.reverse_reverse, List.reverse_reverse, first_app _ _ _ _ h]
theorem head_len {k n : Int} {s : ByteArray} {m : Nat} {k' n' : Int} {s' : ByteArray} {m' : Nat} (h : nz (headC k n s m k' n' s' m') = 0) : m = m' := by
  have := (nz_zero _).1 h (cmpI m m') (by simp [headC])
  have := (cmpI_zero _ _).1 this
  omega
theorem SC_ne {ls rs : List T} {k n : Int} {s : ByteArray} {xs : List T} {k' n' : Int} {s' : ByteArray} {ys : List T} (h : nz (headC k n s xs.length k' n' s' ys.length) ≠ 0) :
    SC (ls ++ [.node k n s xs]) (rs ++ [.node k' n' s' ys]) = nz (headC k n s xs.length k' n' s' ys.length) := by
  have e : cmpT (.node k n s xs) (.node k' n' s' ys) = nz (headC k n s xs.length k' n' s' ys.length) := by rw [cmpT_node, if_neg h]
  rw [SC_snoc, e, if_neg h]
theorem SC_eq {ls rs : List T} {k n : Int} {s : ByteArray} {xs : List T} {k' n' : Int} {s' : ByteArray} {ys : List T} (h : nz (headC k n s xs.length k' n' s' ys.length) = 0) :
    SC (ls ++ [.node k n s xs]) (rs ++ [.node k' n' s' ys]) = SC (ls ++ xs.reverse) (rs ++ ys.reverse) := by
  have e : cmpT (.node k n s xs) (.node k' n' s' ys) = firstNZ (xs.map cmpT) ys := by rw [cmpT_node, if_pos h]
  rw [SC_snoc, e, SC_app _ _ _ _ (head_len h)]

/-! ### rows of nodes -/
theorem RowV.le {w : World} {h h' : Nat} (hle : h ≤ h') : ∀ {ts : List T} {vs : List Value}, RowV w h ts vs → RowV w h' ts vs
  | [], _, e => e
  | .node _ _ _ _ :: _, _, ⟨a, m, cap, rest, e, hs, ha, hr⟩ => ⟨a, m, cap, rest, e, hs, ha.le hle, hr.le hle⟩
theorem RowV.split {w : World} {h : Nat} {us : List T} : ∀ {ts : List T} {vs : List Value}, RowV w h (ts ++ us) vs → ∃ v1 v2, vs = v1 ++ v2 ∧ RowV w h ts v1 ∧ RowV w h us v2
  | [], vs, r => ⟨[], vs, rfl, rfl, r⟩
  | .node _ _ _ _ :: ts, _, ⟨a, m, cap, rest, e, hs, ha, hr⟩ => by
    obtain ⟨v1, v2, e1, h1, h2⟩ := RowV.split (ts := ts) hr
    exact ⟨_, v2, by rw [e, e1]; rfl, ⟨a, m, cap, v1, rfl, hs, ha, h1⟩, h2⟩
/-- A node's struct holds a term. -/
def NdT (w : World) (h : Nat) (t : T) (d : Nd) : Prop := ∃ xs, t = .node d.k d.n d.s xs ∧ d.s.size ≤ maxLen ∧ ArgsAt w 0 h (.slice d.a d.m d.c) xs
def NdsT (w : World) (h : Nat) : List T → List Nd → Prop
  | [], [] => True
  | t :: ts, d :: ds => NdT w h t d ∧ NdsT w h ts ds
  | _, _ => False
theorem NdsT.row {w : World} {h : Nat} : ∀ {ts : List T} {ds : List Nd}, NdsT w h ts ds → RowV w h ts (ds.flatMap Nd.cs)
  | [], [], _ => rfl
  | [], _ :: _, k => k.elim
  | _ :: _, [], k => k.elim
  | _ :: _, d :: _, ⟨⟨xs, e, hs, ha⟩, hr⟩ => by
    subst e
    exact ⟨d.a, d.m, d.c, _, rfl, hs, ha, hr.row⟩
theorem NdsT.app {w : World} {h : Nat} {us : List T} {es : List Nd} (q : NdsT w h us es) : ∀ {ts : List T} {ds : List Nd}, NdsT w h ts ds → NdsT w h (ts ++ us) (ds ++ es)
  | [], [], _ => q
  | [], _ :: _, k => k.elim
  | _ :: _, [], k => k.elim
  | _ :: _, _ :: _, ⟨h1, hr⟩ => ⟨h1, q.app hr⟩
theorem NdsT.rev {w : World} {h : Nat} : ∀ {ts : List T} {ds : List Nd}, NdsT w h ts ds → NdsT w h ts.reverse ds.reverse
  | [], [], _ => trivial
  | [], _ :: _, k => k.elim
  | _ :: _, [], k => k.elim
  | t :: ts, d :: ds, ⟨h1, hr⟩ => by
    rw [List.reverse_cons, List.reverse_cons]
    have q : NdsT w h [t] [d] := ⟨h1, trivial⟩
    exact q.app hr.rev
theorem NdsT.len {w : World} {h : Nat} : ∀ {ts : List T} {ds : List Nd}, NdsT w h ts ds → ds.length = ts.length
  | [], [], _ => rfl
  | [], _ :: _, k => k.elim
  | _ :: _, [], k => k.elim
  | _ :: _, _ :: _, ⟨_, hr⟩ => by simp [hr.len]
theorem NdsT.of_row {w : World} {lo h b : Nat} : ∀ {ts : List T} {o : Nat}, RowAt w lo h b o ts → ∃ ds, NdsT w h ts ds ∧ NdsAt w b o ds
  | [], _, _ => ⟨[], trivial, by intro j d hj; simp at hj⟩
  | .node k n s xs :: ts, o, hc => by
    obtain ⟨hs, u', c0, c1, c2, c3, hr⟩ := hc 0 k n s xs rfl
    obtain ⟨a, cap, rfl⟩ := hr.slice
    have hc' : RowAt w lo h b (o + 4) ts := fun i k n s xs hi => by
      have := hc (i + 1) k n s xs (by simpa using hi)
      rw [show o + (i + 1) * 4 = o + 4 + i * 4 by omega] at this
      exact this
    obtain ⟨ds, hd, hx⟩ := NdsT.of_row hc'
    refine ⟨⟨k, n, s, a, xs.length, cap⟩ :: ds, ⟨⟨xs, rfl, hs, hr.low (Nat.zero_le _)⟩, hd⟩, fun j d hj => ?_⟩
    cases j with
    | zero =>
      simp at hj; subst hj
      simp only [Nat.zero_mul, Nat.add_zero] at c0 c1 c2 c3 ⊢
      exact ⟨c0, c1, c2, c3⟩
    | succ j =>
      have := hx j d (by simpa using hj)
      rw [show o + (j + 1) * 4 = o + 4 + j * 4 by omega]
      exact this
/-- The arguments of a node, as what is appended. -/
theorem nds_of {w : World} {h : Nat} {v : Value} {xs : List T} (ha : ArgsAt w 0 h v xs) : ∃ ds, NdsT w h xs ds ∧ NdsIn w.heap.size w v ds := by
  rcases ha.cases with ⟨rfl, a, cap, rfl⟩ | ⟨h', b, o, cap, rfl, rfl, hl, _, hrow⟩
  · exact ⟨[], trivial, Or.inl ⟨a, cap, rfl, rfl⟩⟩
  · obtain ⟨ds, hd, hx⟩ := NdsT.of_row hrow
    have hlen := hd.len
    cases xs with
    | nil =>
      have : ds = [] := List.eq_nil_of_length_eq_zero (by simpa using hlen)
      subst this
      exact ⟨[], trivial, Or.inl ⟨_, cap, rfl, rfl⟩⟩
    | cons t ts =>
      obtain ⟨k, n, s, ys⟩ := t
      obtain ⟨_, u', c0, _⟩ := hrow 0 k n s ys rfl
      refine ⟨ds, ?_, Or.inr ⟨b, o, cap, by rw [hlen], World.block_lt_of_cell? w _ c0, hx⟩⟩
      have up : ∀ {ts : List T} {ds : List Nd}, NdsT w h' ts ds → NdsT w (h' + 1) ts ds := by
        intro ts
        induction ts with
        | nil => intro ds k; cases ds with
          | nil => trivial
          | cons _ _ => exact k.elim
        | cons t ts ih => intro ds k; cases ds with
          | nil => exact k.elim
          | cons d ds => exact ⟨by obtain ⟨xs, e, hs, ha⟩ := k.1; exact ⟨xs, e, hs, ha.le (Nat.le_succ _)⟩, ih k.2⟩
      exact up hd

/-- A list without its last node. -/
theorem own_cut {w : World} {B n m size cap : Nat} {e : TypeId} {a : Option Addr} {xs : List Value} (h : w.ownsRow B e size (.slice a n cap) n xs) (hm : m ≤ n) : w.ownsRow B e size (.slice a m cap) m (xs.take (m * size)) := by
  rcases h.2 with ⟨h1, h2⟩ | ⟨g, cap', cur, h1, hg, hc, hn, hcm, hs, ht⟩
  · have hm0 : m = 0 := by omega
    cases h1
    subst hm0
    exact ⟨by simp, Or.inl ⟨rfl, rfl⟩⟩
  · cases h1
    refine ⟨by rw [List.length_take, h.1]; exact Nat.min_eq_left (Nat.mul_le_mul_right _ hm), Or.inr ⟨g, cap, cur, rfl, hg, hc, by omega, hcm, hs, ?_⟩⟩
    rw [← ht, List.take_take, Nat.min_eq_left (Nat.mul_le_mul_right _ hm)]
end Go.Proofs.YtidbokheeieifaaGreatDoor
namespace Go.Proofs.YtidbokheeieifaaGreatDoor
open Go.RowKit

theorem less_no {a b : ByteArray} (h : ¬ key a < key b) : Op.bytesLess a.toList b.toList = false := by
  cases e : Op.bytesLess a.toList b.toList with
  | false => rfl
  | true => exact absurd ((less_iff a b).1 e) h

/-- All cells of two boxes. -/
theorem boxed2_all {w wr : World} {k n : Int} {s : ByteArray} {u : Value} {k' n' : Int} {s' : ByteArray} {u' : Value} (hb : Below (boxed2 w k n s u k' n' s' u').heap.size (boxed2 w k n s u k' n' s' u') wr) :
    wr.cell? ⟨w.heap.size, 0, none⟩ = some (.int .i64 k) ∧ wr.cell? ⟨w.heap.size, 1, none⟩ = some (.int .i64 n) ∧ wr.cell? ⟨w.heap.size, 2, none⟩ = some (.string s) ∧ wr.cell? ⟨w.heap.size, 3, none⟩ = some u ∧
    wr.cell? ⟨w.heap.size + 1, 0, none⟩ = some (.int .i64 k') ∧ wr.cell? ⟨w.heap.size + 1, 1, none⟩ = some (.int .i64 n') ∧ wr.cell? ⟨w.heap.size + 1, 2, none⟩ = some (.string s') ∧ wr.cell? ⟨w.heap.size + 1, 3, none⟩ = some u' ∧
    Below (boxed2 w k n s u k' n' s' u').heap.size (boxed2 w k n s u k' n' s' u') wr := by
  have h1 := boxed_cells hb
  have h0 := boxed_cells ((boxed_below (boxed w k n s u) k' n' s' u').trans (hb.mono (by simp)))
  have e : (boxed w k n s u).heap.size = w.heap.size + 1 := by simp
  rw [e] at h1
  exact ⟨h0.1, h0.2.1, h0.2.2.1, h0.2.2.2, h1.1, h1.2.1, h1.2.2.1, h1.2.2.2, hb⟩

theorem nz_at : ∀ (l : List Int) (j : Nat) (z : Int), (∀ i, i < j → l[i]? = some 0) → l[j]? = some z → z ≠ 0 → nz l = z
  | [], j, z, _, h, _ => by simp at h
  | x :: r, 0, z, _, h, hz => by
    simp at h; subst h
    rw [nz_cons, if_neg hz]
  | x :: r, j + 1, z, h0, h, hz => by
    have e := h0 0 (by omega)
    simp at e; subst e
    rw [nz_cons, if_pos rfl]
    exact nz_at r j z (fun i hi => by have := h0 (i + 1) (by omega); simpa using this) (by simpa using h) hz
theorem nz_all : ∀ (l : List Int), (∀ i, i < l.length → l[i]? = some 0) → nz l = 0
  | [], _ => rfl
  | x :: r, h => by
    have e := h 0 (by simp)
    simp at e; subst e
    rw [nz_cons, if_pos rfl]
    exact nz_all r (fun i hi => by have := h (i + 1) (by simp; omega); simpa using this)
theorem first_at : ∀ (xs ys : List T) (j : Nat) (x y : T), (∀ (i : Nat) (x y : T), i < j → xs[i]? = some x → ys[i]? = some y → cmpT x y = 0) → xs[j]? = some x → ys[j]? = some y → cmpT x y ≠ 0 → firstNZ (xs.map cmpT) ys = cmpT x y
  | [], _, j, x, y, _, h, _, _ => by simp at h
  | _ :: _, [], j, x, y, _, _, h, _ => by simp at h
  | a :: r, b :: t, 0, x, y, _, h, h', hz => by
    simp at h h'; subst h; subst h'
    simp only [List.map_cons, firstNZ]
    rw [if_neg hz]
  | a :: r, b :: t, j + 1, x, y, h0, h, h', hz => by
    have e := h0 0 a b (by omega) rfl rfl
    simp only [List.map_cons, firstNZ]
    rw [if_pos e]
    exact first_at r t j x y (fun i x y hi hx hy => h0 (i + 1) x y (by omega) (by simpa using hx) (by simpa using hy)) (by simpa using h) (by simpa using h') hz
theorem first_all : ∀ (xs ys : List T), (∀ (i : Nat) (x y : T), xs[i]? = some x → ys[i]? = some y → cmpT x y = 0) → firstNZ (xs.map cmpT) ys = 0
  | [], _, _ => by simp [firstNZ]
  | _ :: _, [], _ => by simp [firstNZ]
  | a :: r, b :: t, h => by
    have e := h 0 a b rfl rfl
    simp only [List.map_cons, firstNZ]
    rw [if_pos e]
    exact first_all r t (fun i x y hx hy => h (i + 1) x y (by simpa using hx) (by simpa using hy))

theorem below_alloc2 {B : Nat} {w w' : World} (h : Below B w w') (hB : B ≤ w'.heap.size) (o : Obj) : Below B w (w'.alloc o) := h.alloc hB o

end Go.Proofs.YtidbokheeieifaaGreatDoor
namespace Go.Proofs.YtidbokheeieifaaGreatDoor
open Go.RowKit

set_option maxRecDepth 100000 in
set_option maxHeartbeats 400000 in
theorem nan_any (a : Int) (w : World) : Calls Tryz.prog 120 #[.int .i64 a] w fun e w' => e = .returned (.bool false) ∧ w' = w := by
  go_enter Tryz.func120, Tryz.ntmps120
  go_wp2
  go_ret
  exact ⟨by simp, rfl⟩

set_option maxRecDepth 100000 in
set_option maxHeartbeats 800000 in
theorem cmpInt_any (a b : Int) (w : World) : Calls Tryz.prog 106 #[.int .i64 a, .int .i64 b] w fun e w' => e = .returned (.int .i64 (cmpI a b)) ∧ w' = w := by
  have hc : (a < b ∧ cmpI a b = -1) ∨ (¬ a < b ∧ b < a ∧ cmpI a b = 1) ∨ (¬ a < b ∧ ¬ b < a ∧ cmpI a b = 0) := by
    unfold cmpI
    by_cases h1 : a < b
    · simp [h1]
    · by_cases h2 : b < a
      · simp [h1, h2]
      · simp [h1, h2]
  rcases hc with ⟨h1, e⟩ | ⟨h1, h2, e⟩ | ⟨h1, h2, e⟩ <;> rw [e] <;> clear e
  · go_enter Tryz.func106, Tryz.ntmps106
    go_wp2_with (go_at_call 120; refine (nan_any _ _).mono ?_; rintro e w1 ⟨rfl, rfl⟩)
    go_ret
    exact ⟨rfl, rfl⟩
  · go_enter Tryz.func106, Tryz.ntmps106
    go_wp2_with (go_at_call 120; refine (nan_any _ _).mono ?_; rintro e w1 ⟨rfl, rfl⟩)
    go_ret
    exact ⟨rfl, rfl⟩
  · go_enter Tryz.func106, Tryz.ntmps106
    go_wp2_with (go_at_call 120; refine (nan_any _ _).mono ?_; rintro e w1 ⟨rfl, rfl⟩)
    go_ret
    exact ⟨rfl, rfl⟩

theorem bytes_cmp : ∀ (a b : List UInt8), (Lib.compareBytes a b = -1 ∧ a < b) ∨ (Lib.compareBytes a b = 1 ∧ b < a) ∨ (Lib.compareBytes a b = 0 ∧ a = b)
  | [], [] => by simp [Lib.compareBytes]
  | [], _ :: _ => by simp [Lib.compareBytes]
  | _ :: _, [] => by simp [Lib.compareBytes]
  | x :: a, y :: b => by
    unfold Lib.compareBytes
    by_cases h1 : x < y
    · simp [h1, List.cons_lt_cons_iff]
    · by_cases h2 : y < x
      · simp [h1, h2, List.cons_lt_cons_iff]
      · have e : x = y := UInt8.le_antisymm (UInt8.not_lt.1 h2) (UInt8.not_lt.1 h1)
        subst e
        simp only [h1, if_false]
        rcases bytes_cmp a b with ⟨h, k⟩ | ⟨h, k⟩ | ⟨h, k⟩
        · exact Or.inl ⟨h, List.cons_lt_cons_iff.2 (Or.inr ⟨rfl, k⟩)⟩
        · exact Or.inr (Or.inl ⟨h, List.cons_lt_cons_iff.2 (Or.inr ⟨rfl, k⟩)⟩)
        · exact Or.inr (Or.inr ⟨h, by rw [k]⟩)
theorem bytes_cmpS (a b : ByteArray) : Lib.compareBytes a.data.toList b.data.toList = cmpS a b := by
  unfold cmpS
  rcases bytes_cmp (key a) (key b) with ⟨h, k⟩ | ⟨h, k⟩ | ⟨h, k⟩
  · rw [if_pos k]; exact h
  · have : ¬ key a < key b := fun q => lt_irr _ (lt_tr q k)
    rw [if_neg this, if_pos k]; exact h
  · rw [if_neg (by rw [k]; exact lt_irr _), if_neg (by rw [k]; exact lt_irr _)]; exact h

set_option maxRecDepth 100000 in
set_option maxHeartbeats 400000 in
theorem cmpStr1_any (a b : ByteArray) (w : World) : Calls Tryz.prog 121 #[.string a, .string b] w fun e w' => e = .returned (.int .i64 (cmpS a b)) ∧ w' = w := by
  rw [← bytes_cmpS]
  go_enter Tryz.func121, Tryz.ntmps121
  go_wp2
  rw [run_callFunc_extern Tryz.func129 (by kernel_rfl) (by kernel_rfl) (by kernel_rfl) (e := Extern.BytealgCompare.compare) (by kernel_rfl), Lib.run_compareString]
  simp only [Result.andThen]
  rw [Oper.upon_value]
  go_wp2
  go_ret
  exact ⟨rfl, rfl⟩
set_option maxRecDepth 100000 in
set_option maxHeartbeats 400000 in
theorem cmpStr_any (a b : ByteArray) (w : World) : Calls Tryz.prog 107 #[.string a, .string b] w fun e w' => e = .returned (.int .i64 (cmpS a b)) ∧ w' = w := by
  go_enter Tryz.func107, Tryz.ntmps107
  go_wp2_with (go_at_call 121; refine (cmpStr1_any _ _ _).mono ?_; rintro e w1 ⟨rfl, rfl⟩)
  go_ret
  exact ⟨rfl, rfl⟩

set_option maxRecDepth 100000 in
set_option maxHeartbeats 1600000 in
theorem or4_any (z0 z1 z2 z3 : Int) (b : Nat) (w : World) (c0 : w.cell? ⟨b, 0, none⟩ = some (.int .i64 z0)) (c1 : w.cell? ⟨b, 1, none⟩ = some (.int .i64 z1)) (c2 : w.cell? ⟨b, 2, none⟩ = some (.int .i64 z2)) (c3 : w.cell? ⟨b, 3, none⟩ = some (.int .i64 z3)) :
    Calls Tryz.prog 105 #[.slice (some ⟨b, 0, none⟩) 4 4] w fun e w' => e = .returned (.int .i64 (nz [z0, z1, z2, z3])) ∧ w' = w := by
  have hcl : ∀ (j : Nat) (z : Int), [z0, z1, z2, z3][j]? = some z → w.cell? ⟨b, j, none⟩ = some (.int .i64 z) := by
    intro j z hz
    match j, hz with
    | 0, hz => simp at hz; subst hz; exact c0
    | 1, hz => simp at hz; subst hz; exact c1
    | 2, hz => simp at hz; subst hz; exact c2
    | 3, hz => simp at hz; subst hz; exact c3
    | j + 4, hz => simp at hz
  have HCL := Lib.hid hcl; clear hcl c0 c1 c2 c3
  obtain ⟨L, hL⟩ : ∃ L, L = [z0, z1, z2, z3] := ⟨_, rfl⟩
  have hLl : L.length = 4 := by rw [hL]; rfl
  rw [← hL] at HCL ⊢
  have HLL := Lib.hid hLl; clear hLl hL z0 z1 z2 z3
  go_enter Tryz.func105, Tryz.ntmps105
  go_wp2
  go_loop [5, 8] (fun _ i => ∃ j : Nat, j ≤ 4 ∧ i = .int .i64 j ∧ Hid (∀ i, i < j → L[i]? = some 0)) (fun _ i => 4 - (intOf i).toNat)
  case atStart => exact ⟨0, by omega, rfl, Lib.hid (fun i hi => by omega)⟩
  case round =>
    obtain ⟨j, hj, rfl, HZ⟩ := hrel
    by_cases hlt : j < 4
    · obtain ⟨z, hz⟩ : ∃ z, L[j]? = some z := ⟨_, List.getElem?_eq_getElem (by have := HLL.out; omega)⟩
      have hcell := HCL.out j z hz
      have HZ2 := Lib.hid hz; clear hz
      by_cases hz0 : z = 0
      · subst hz0
        go_wp2
        go_round
        case rel =>
          refine ⟨j + 1, by omega, by go_num, Lib.hid (fun i hi => ?_)⟩
          by_cases hij : i = j
          · subst hij; exact HZ2.out
          · exact HZ.out i (by omega)
        case measure => simp [intOf]; omega
      · have hz1 : (z != 0) = true := by simpa using hz0
        go_wp2
        go_ret
        exact ⟨by rw [nz_at L j z HZ.out HZ2.out hz0]; rfl, rfl⟩
    · have hj4 : j = 4 := by omega
      subst hj4
      go_wp2
      go_ret
      exact ⟨by rw [nz_all L (fun i hi => HZ.out i (by have := HLL.out; omega))]; rfl, rfl⟩

theorem alloc4 (w : World) (x0 x1 x2 x3 : Value) (t : TypeId) {n : Nat} (h : n = w.heap.size) :
    (w.alloc (.cells #[x0, x1, x2, x3] t)).drew.cell? ⟨n, 0, none⟩ = some x0 ∧ (w.alloc (.cells #[x0, x1, x2, x3] t)).drew.cell? ⟨n, 1, none⟩ = some x1 ∧
    (w.alloc (.cells #[x0, x1, x2, x3] t)).drew.cell? ⟨n, 2, none⟩ = some x2 ∧ (w.alloc (.cells #[x0, x1, x2, x3] t)).drew.cell? ⟨n, 3, none⟩ = some x3 := by
  subst h
  have e : ∀ j, (w.alloc (.cells #[x0, x1, x2, x3] t)).drew.cell? ⟨w.heap.size, j, none⟩ = #[x0, x1, x2, x3][j]? := fun j => World.cell?_alloc_mark w #[x0, x1, x2, x3] t (0, 0) j
  exact ⟨e 0, e 1, e 2, e 3⟩
theorem or4_new (z0 z1 z2 z3 : Int) (n : Nat) (w : World) (h : n = w.heap.size) :
    Calls Tryz.prog 105 #[.slice (some ⟨n, 0, none⟩) 4 4] (w.alloc (.cells #[.int .i64 z0, .int .i64 z1, .int .i64 z2, .int .i64 z3] 3)).drew fun e w' => e = .returned (.int .i64 (nz [z0, z1, z2, z3])) ∧ w' = (w.alloc (.cells #[.int .i64 z0, .int .i64 z1, .int .i64 z2, .int .i64 z3] 3)).drew := by
  obtain ⟨c0, c1, c2, c3⟩ := alloc4 w (.int .i64 z0) (.int .i64 z1) (.int .i64 z2) (.int .i64 z3) 3 h
  exact or4_any z0 z1 z2 z3 n _ c0 c1 c2 c3

set_option maxRecDepth 100000 in
set_option maxHeartbeats 1600000 in
theorem node_any (k n : Int) (s : ByteArray) (a : Option Addr) (m cap : Nat) (k' n' : Int) (s' : ByteArray) (a' : Option Addr) (m' cap' : Nat) (w : World) :
    Calls Tryz.prog 81 #[tv k n s (.slice a m cap), tv k' n' s' (.slice a' m' cap')] w (NumB (nz (headC k n s m k' n' s' m')) w) := by
  have HB0 := Lib.hid (boxed2_below w k n s (.slice a m cap) k' n' s' (.slice a' m' cap'))
  have HK : Hid (∀ w', Below (boxed2 w k n s (.slice a m cap) k' n' s' (.slice a' m' cap')).heap.size (boxed2 w k n s (.slice a m cap) k' n' s' (.slice a' m' cap')) w' → _) := Lib.hid (fun w' hb => boxed2_all hb)
  have hall := HK.out _ (Below.refl _ _)
  obtain ⟨c0, c1, c2, c3, d0, d1, d2, d3, hb0⟩ := hall
  go_enter Tryz.func81, Tryz.ntmps81
  go_wp2
  go_region_held3 (fun w' => w'.cell? ⟨w.heap.size, 0, none⟩ = some (.int .i64 k) ∧ w'.cell? ⟨w.heap.size, 1, none⟩ = some (.int .i64 n) ∧ w'.cell? ⟨w.heap.size, 2, none⟩ = some (.string s) ∧ w'.cell? ⟨w.heap.size, 3, none⟩ = some (.slice a m cap) ∧
      w'.cell? ⟨w.heap.size + 1, 0, none⟩ = some (.int .i64 k') ∧ w'.cell? ⟨w.heap.size + 1, 1, none⟩ = some (.int .i64 n') ∧ w'.cell? ⟨w.heap.size + 1, 2, none⟩ = some (.string s') ∧ w'.cell? ⟨w.heap.size + 1, 3, none⟩ = some (.slice a' m' cap') ∧
      Below (boxed2 w k n s (.slice a m cap) k' n' s' (.slice a' m' cap')).heap.size (boxed2 w k n s (.slice a m cap) k' n' s' (.slice a' m' cap')) w')
    (first | exact HK.out _ (by assumption) | exact HK.out _ (Below.drew (by assumption)) | exact HK.out _ (below_alloc2 (by assumption) (Below.size (by assumption)) _) | exact HK.out _ (below_alloc2 (Below.drew (by assumption)) (Below.size (Below.drew (by assumption))) _) | go_keep)
    (first
      | (go_at_call 106; refine (cmpInt_any _ _ _).mono ?_; rintro e w1 ⟨rfl, rfl⟩)
      | (go_at_call 107; refine (cmpStr_any _ _ _).mono ?_; rintro e w1 ⟨rfl, rfl⟩)
      | (go_at_call 105; refine (or4_new _ _ _ _ _ _ (by simp)).mono ?_; rintro e w1 ⟨rfl, rfl⟩))
  have hbe : Below w.heap.size w (((boxed2 w k n s (.slice a m cap) k' n' s' (.slice a' m' cap')).alloc (.cells #[.int .i64 (cmpI k k'), .int .i64 (cmpI n n'), .int .i64 (cmpS s s'), .int .i64 (cmpI (m : Int) (m' : Int))] 3)).drew) :=
    (HB0.out.alloc HB0.out.size _).drew
  have HBE := Lib.hid hbe; clear hbe c0 c1 c2 c3 d0 d1 d2 d3 hb0
  go_wp2
  go_ret
  exact ⟨rfl, HBE.out⟩
end Go.Proofs.YtidbokheeieifaaGreatDoor
namespace Go.Proofs.YtidbokheeieifaaGreatDoor
open Go.RowKit

/-- A level of terms: a row of cells in w, the terms' arguments in the earlier world w0. -/
def LvlAt (w0 w : World) (v : Value) (ts : List T) : Prop := ∃ h ls a cap, v = .slice a ts.length cap ∧ RowV w0 h ts ls ∧ (ts = [] ∨ ∃ b o, a = some ⟨b, o, none⟩ ∧ ∀ (j : Nat) (u : Value), ls[j]? = some u → w.cell? ⟨b, o + j, none⟩ = some u)
/-- The same, in memory of the caller's own, from block B on. -/
def LvlOwn (B : Nat) (w0 w : World) (v : Value) (ts : List T) : Prop := ∃ h ls, RowV w0 h ts ls ∧ w.ownsRow B 26 4 v ts.length ls

theorem LvlOwn.at {B : Nat} {w0 w : World} {v : Value} {ts : List T} (l : LvlOwn B w0 w v ts) : LvlAt w0 w v ts := by
  obtain ⟨h, ls, hr, ho⟩ := l
  rcases ho.2 with hnil | ⟨g, cap, cur, rfl, _⟩
  · obtain ⟨rfl, h0⟩ := hnil
    have : ts = [] := List.eq_nil_of_length_eq_zero (by omega)
    subst this
    exact ⟨h, ls, none, 0, rfl, hr, Or.inl rfl⟩
  · refine ⟨h, ls, _, cap, rfl, hr, Or.inr ⟨g, 0, rfl, fun j u hj => ?_⟩⟩
    have hl := (List.getElem?_eq_some_iff.1 hj).1
    have := ho.1
    rw [Nat.zero_add, ho.cellAt j (by omega), hj]
theorem LvlOwn.below {B : Nat} {w0 w w' : World} {v : Value} {ts : List T} (l : LvlOwn B w0 w v ts) (hb : Below w.heap.size w w') : LvlOwn B w0 w' v ts := by
  obtain ⟨h, ls, hr, ho⟩ := l
  exact ⟨h, ls, hr, keep_own ho hb⟩
theorem LvlOwn.low {B B' : Nat} {w0 w : World} {v : Value} {ts : List T} (l : LvlOwn B w0 w v ts) (hb : B' ≤ B) : LvlOwn B' w0 w v ts := by
  obtain ⟨h, ls, hr, ho⟩ := l
  exact ⟨h, ls, hr, own_low ho hb⟩
/-- Rows of other elements lie in other blocks. -/
theorem keep_type {w w' : World} {A B n m size size' : Nat} {e f : TypeId} {v u : Value} {xs ys : List Value} (h : w.ownsRow A e size v n xs) (hu : w.ownsRow B f size' u m ys) (hne : e ≠ f) (hg : w.grownBy w' u.ownBlock) : w'.ownsRow A e size v n xs :=
  h.kept hg (by
    rcases h.2 with hnil | ⟨g, cap, cur, rfl, _, hc, _⟩
    · rw [hnil.1]; exact Or.inl rfl
    · refine Or.inr fun e2 => ?_
      rcases hu.2 with hnil | ⟨g', cap', cur', rfl, _, hc', _⟩
      · rw [hnil.1] at e2; cases e2
      · cases e2
        rw [hc] at hc'
        cases hc'
        exact hne rfl)
theorem LvlOwn.other {A B m size : Nat} {w0 w w' : World} {v u : Value} {ts : List T} {ys : List Value} {f : TypeId} (l : LvlOwn A w0 w v ts) (hu : w.ownsRow B f size u m ys) (hne : 26 ≠ f) (hg : w.grownBy w' u.ownBlock) : LvlOwn A w0 w' v ts := by
  obtain ⟨h, ls, hr, ho⟩ := l
  exact ⟨h, ls, hr, keep_type ho hu hne hg⟩

theorem lvl_cells {w0 w : World} {h : Nat} {ls : List Value} {a : Option Addr} {ts : List T} {i : Nat} {t : T} (hr : RowV w0 h ts ls) (hc : ts = [] ∨ ∃ b o, a = some ⟨b, o, none⟩ ∧ ∀ (j : Nat) (u : Value), ls[j]? = some u → w.cell? ⟨b, o + j, none⟩ = some u) (ht : ts[i]? = some t) :
    ∃ b o k n s xs a' c', a = some ⟨b, o, none⟩ ∧ t = .node k n s xs ∧ s.size ≤ maxLen ∧ w.cell? ⟨b, o + i * 4, none⟩ = some (.int .i64 k) ∧ w.cell? ⟨b, o + i * 4 + 1, none⟩ = some (.int .i64 n) ∧
      w.cell? ⟨b, o + i * 4 + 2, none⟩ = some (.string s) ∧ w.cell? ⟨b, o + i * 4 + 3, none⟩ = some (.slice a' xs.length c') ∧ ArgsAt w0 0 h (.slice a' xs.length c') xs := by
  rcases hc with rfl | ⟨b, o, rfl, hc⟩
  · simp at ht
  · obtain ⟨k, n, s, xs⟩ := t
    obtain ⟨hs, a', m', c', x0, x1, x2, x3, ha⟩ := hr.at i k n s xs ht
    obtain ⟨a2, c2, e⟩ := ha.slice
    cases e
    refine ⟨b, o, k, n, s, xs, a', c', rfl, rfl, hs, hc _ _ x0, ?_, ?_, ?_, ha⟩
    · have := hc _ _ x1; rw [← Nat.add_assoc] at this; exact this
    · have := hc _ _ x2; rw [← Nat.add_assoc] at this; exact this
    · have := hc _ _ x3; rw [← Nat.add_assoc] at this; exact this

/-- How far argsOf has come. -/
def KidsRelG (h : Nat) (ts : List T) (k : Nat) (v : Value) (w0 w wr : World) : Prop :=
  ∃ vs, wr.ownsRow w.heap.size 26 4 v (kids (ts.take k)).length vs ∧ RowV w0 (h - 1) (kids (ts.take k)) vs ∧ Below w.heap.size w wr
def KidsOwn (w0 : World) (ts : List T) (w : World) (e : Ending) (w' : World) : Prop :=
  ∃ u, e = .returned u ∧ LvlOwn w.heap.size w0 w' u (kids ts) ∧ Below w.heap.size w w'

set_option maxRecDepth 100000 in
set_option maxHeartbeats 1600000 in
theorem argsOf_ownK (v : Value) (ts : List T) (w0 w : World) (hl : LvlAt w0 w v ts) (hb0 : Below w0.heap.size w0 w) (hk : (kids ts).length ≤ 4294967296) (ht : ts.length ≤ 8589934592) :
    Calls Tryz.prog 66 #[v] w (KidsOwn w0 ts w) := by
  obtain ⟨h, ls, a, cap, rfl, ha, hcl⟩ := hl
  have HCL := Lib.hid hcl; clear hcl
  have HBZ := Lib.hid hb0; clear hb0
  obtain ⟨i0, hi, hz0, hz1, hz2⟩ := info_parts infoTermL
  have HI := Lib.hid hi; clear hi
  have HZ0 := Lib.hid hz0; clear hz0
  have HZ1 := Lib.hid hz1; clear hz1
  have HZ2 := Lib.hid hz2; clear hz2
  have HA := Lib.hid ha; clear ha
  have HK := Lib.hid hk; clear hk
  obtain ⟨m, hm⟩ : ∃ m, m = ts.length := ⟨_, rfl⟩
  rw [← hm] at ht ⊢
  have HM := Lib.hid hm; clear hm
  go_enter Tryz.func66, Tryz.ntmps66
  go_wp2
  go_loopw [3, 8] (fun b i wr => ∃ k : Nat, k ≤ m ∧ i = .int .i64 k ∧ Hid (KidsRelG h ts k b w0 w wr)) (fun _ i _ => m - (intOf i).toNat)
  case atStart => exact ⟨0, Nat.zero_le _, rfl, Lib.hid ⟨[], World.ownsRow_nil _ _ _ _, rfl, Below.refl _ _⟩⟩
  case round =>
    obtain ⟨k, hk, rfl, HR⟩ := hrel
    by_cases hlt : k < m
    · obtain ⟨t, ht⟩ : ∃ t, ts[k]? = some t := ⟨_, List.getElem?_eq_getElem (by have := HM.out; omega)⟩
      obtain ⟨b, o, kk, nn, s, xs, a', cap', rfl, rfl, hsz, c0, c1, c2, c3, har⟩ := lvl_cells HA.out HCL.out ht
      obtain ⟨vs, ho, hv, hb⟩ := HR.out
      have d0 := cell_on hb c0
      have d1 := cell_on hb c1
      have d2 := cell_on hb c2
      have d3 := cell_on hb c3
      clear c0 c1 c2 c3
      have HTK : Hid (kids (ts.take (k + 1)) = kids (ts.take k) ++ xs) := Lib.hid (by rw [tk ts k _ ht, kids_snoc]; rfl)
      have hle := kids_take ts (k + 1)
      have hlx : (kids (ts.take k)).length + xs.length ≤ 4294967296 := by
        rw [HTK.out, List.length_append] at hle
        have := HK.out; omega
      clear hle ht
      obtain ⟨n, hn⟩ : ∃ n, n = (kids (ts.take k)).length := ⟨_, rfl⟩
      rw [← hn] at ho hlx
      have HN := Lib.hid hn; clear hn
      have HO := Lib.hid ho; clear ho
      have HV := Lib.hid hv; clear hv
      have HB := Lib.hid hb; clear hb
      have HBX : Hid (Below w.heap.size w (wr.alloc (.cells #[.int .i64 kk, .int .i64 nn, .string s, .slice a' xs.length cap'] 26))) := Lib.hid (HB.out.alloc HB.out.size _)
      have HHA := Lib.hid har; clear har
      rcases HHA.out.cases with ⟨hnil, _⟩ | ⟨h2, b2, o2, cap2, e2, e3, hl3, _, hrow⟩
      · have hx0 : xs.length = 0 := by rw [hnil]; rfl
        rw [hx0] at d3 HBX
        go_wp2_with (first | (at_builtin; refine wpList_app_zero rfl (.tmp 12) (.tmp 14) 24 rfl w.heap.size 26 i0 4 Tryz.underlying24 HI.out _ _ _ rfl (HO.out.alloc _) _ _ rfl ?_))
        go_roundw
        case rel =>
          refine ⟨k + 1, by omega, by go_num, Lib.hid ⟨vs, ?_, ?_, HBX.out⟩⟩
          · rw [HTK.out, hnil, List.append_nil, ← HN.out]
            exact HO.out.alloc _
          · rw [HTK.out, hnil, List.append_nil]
            exact HV.out
        case measure => simp [intOf]; omega
      · have HHE := Lib.hid e2; clear e2
        obtain ⟨ws, hws, hwc⟩ := RowV.of_row hrow
        have hwl := hws.len
        cases e3
        have hwc' : ∀ (j : Nat) (u : Value), ws[j]? = some u → (wr.alloc (.cells #[.int .i64 kk, .int .i64 nn, .string s, .slice (some ⟨b2, o2, none⟩) xs.length cap'] 26)).cell? (Addr.add ⟨b2, o2, none⟩ j) = some u := fun j u hj => cell_on (HBZ.out.trans (HBX.out.mono HBZ.out.size)) (hwc j u hj)
        have HWC := Lib.hid hwc'; clear hwc' hwc
        have HWL := Lib.hid hwl; clear hwl
        have HWS := Lib.hid hws; clear hws
        clear hrow
        obtain ⟨mx, hmx⟩ : ∃ mx, mx = xs.length := ⟨_, rfl⟩
        rw [← hmx] at hlx d3 HBX HWC HWL
        have HMX := Lib.hid hmx; clear hmx
        go_wp2_with (first | (at_builtin; refine wpList_append_own _ rfl (.tmp 12) (.tmp 14) 24 rfl w.heap.size 26 i0 (.agg #[.int .i64 0, .int .i64 0, .string ByteArray.empty, .slice none 0 0]) 4 56 Tryz.underlying24 HI.out HZ0.out HZ1.out HZ2.out rfl (by decide) _ _ _ rfl (HO.out.alloc _) ⟨b2, o2, none⟩ mx cap' ws rfl HWL.out HWC.out HWS.out.one (by unfold maxLen; omega) (by omega) HBX.out.size ?_))
        intro v' w1 hown' hgr _
        have hb1 : Below w.heap.size w w1 := HBX.out.grown hgr HBX.out.size (fun j hj => (HO.out.lt j hj).1)
        have HO1 := Lib.hid hown'; clear hown'
        have HB1 := Lib.hid hb1; clear hb1 hgr
        go_wp2
        go_roundw
        case rel =>
          refine ⟨k + 1, by omega, by go_num, Lib.hid ⟨vs ++ ws, ?_, ?_, HB1.out⟩⟩
          · rw [HTK.out, List.length_append, ← HN.out, ← HMX.out]
            exact HO1.out
          · rw [HTK.out, show h - 1 = h2 by have := HHE.out; omega]
            exact HWS.out.app (by have := HV.out; rw [show h - 1 = h2 by have := HHE.out; omega] at this; exact this)
        case measure => simp [intOf]; omega
    · obtain ⟨vs, ho, hv, hb⟩ := HR.out
      rw [show ts.take k = ts from by rw [List.take_of_length_le]; have := HM.out; omega] at ho hv
      have HE := Lib.hid (show LvlOwn w.heap.size w0 wr _ (kids ts) from ⟨_, _, hv, ho⟩)
      have HB := Lib.hid hb
      clear ho hv hb
      go_wp2
      go_ret
      exact ⟨_, rfl, HE.out, HB.out⟩

theorem argsOf_own (v : Value) (ts : List T) (w0 w : World) (hl : LvlAt w0 w v ts) (hb0 : Below w0.heap.size w0 w) (hk : (kids ts).length ≤ 1048576) (ht : ts.length ≤ 2097152) :
    Calls Tryz.prog 66 #[v] w (KidsOwn w0 ts w) := argsOf_ownK v ts w0 w hl hb0 (by omega) (by omega)
end Go.Proofs.YtidbokheeieifaaGreatDoor
