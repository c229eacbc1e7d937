/-
  The sorted names of a table: slices.Sorted(maps.Keys(m)).
-/
import Derived.Test.YteelakhaaipebaaQ11
import Derived.Test.YteelakhaaipebaaQ23
namespace Go.Proofs.Yteelakhaaipebaa
open Go.RowKit Go.Maps Go.Sort Go.Shelf

theorem firstV_iff (l : List (ByteArray × Value)) (nm : ByteArray) : firstV l nm ≠ none ↔ nm ∈ l.map Prod.fst := by
  unfold firstV
  rw [List.mem_map]
  constructor
  · intro h
    cases e : l.find? (fun x => x.1.toList == nm.toList) with
    | none => rw [e] at h; exact absurd rfl h
    | some x =>
      have h1 := List.find?_some e
      exact ⟨x, List.mem_of_find?_eq_some e, (same_iff _ _).1 h1⟩
  · rintro ⟨x, hx, rfl⟩ h
    have e : l.find? (fun y => y.1.toList == x.1.toList) = none := by
      cases e : l.find? (fun y => y.1.toList == x.1.toList) with
      | none => rfl
      | some y => rw [e] at h; cases h
    have := List.find?_eq_none.1 e x hx
    simp at this

/-- The keys of a table. -/
theorem keys_Tab {w : World} {b : Nat} {l : List (ByteArray × Value)} {D : DataW Value} (hown : w.ownsMap Try.prog 9 heldV b l.length D) (hk : TabOk l D) :
    (strKeys D).Nodup ∧ (∀ x ∈ strKeys D, ∃ s ∈ l.map Prod.fst, key s = x) ∧ ∀ s ∈ l.map Prod.fst, key s ∈ strKeys D := by
  obtain ⟨es, hD, hpw⟩ := hown.tidy lawStrT
  obtain ⟨es', hD', hko⟩ := hown.keysOf
  obtain rfl : es = es' := by rw [hD] at hD'; simpa using hD'
  have hstr : ∀ p ∈ es, ∃ x, p.1 = .string x := fun p hp => by
    obtain ⟨v, hv⟩ := hko p hp
    obtain ⟨x, _, hx, _⟩ := Maps.keyOf_str Try.underlying9 hv
    exact ⟨x, hx⟩
  have h1 : ∀ x, x ∈ strKeys D ↔ Maps.has D (.string x) = true := by
    intro x
    rw [hD, has_eq, List.any_eq_true]
    show x ∈ es.map (fun p => strOf p.1) ↔ _
    rw [List.mem_map]
    constructor
    · rintro ⟨p, hp, rfl⟩
      obtain ⟨a, ha⟩ := hstr p hp
      exact ⟨p, hp, by rw [ha]; simp [Lit.sameKey, strOf]⟩
    · rintro ⟨p, hp, hs⟩
      obtain ⟨a, ha⟩ := hstr p hp
      rw [ha] at hs
      exact ⟨p, hp, by rw [ha]; simpa [Lit.sameKey, strOf] using hs⟩
  have hm : ∀ nm : ByteArray, Maps.has D (.string (key nm)) = true ↔ nm ∈ l.map Prod.fst := fun nm => by
    rw [← firstV_iff]
    constructor
    · intro h e
      rw [(hk.2 nm).1 e] at h; cases h
    · intro h
      cases e : firstV l nm with
      | none => exact absurd e h
      | some v => exact ((hk.2 nm).2 v e).1
  refine ⟨?_, fun x hx => ?_, fun s hs => (h1 _).2 ((hm s).2 hs)⟩
  · rw [hD]
    show (es.map fun p => strOf p.1).Nodup
    refine List.pairwise_map.2 (hpw.imp_of_mem fun {p q} hp' hq' hne e => hne ?_)
    obtain ⟨a, ha⟩ := hstr p hp'
    obtain ⟨b, hb⟩ := hstr q hq'
    rw [ha, hb] at e ⊢
    simp only [strOf] at e
    rw [e]
  · have h2 := (h1 x).1 hx
    have e : key (⟨x.toArray⟩ : ByteArray) = x := key_strs x
    rw [← e] at h2
    exact ⟨_, (hm _).1 h2, e⟩

theorem sorted_gen (ps : List ByteArray) (ks ks0 : List (List UInt8)) (hk : ∀ x ∈ ks0, ∃ s ∈ ps, key s = x) (h : ks.Perm ks0) (hnd : ks0.Nodup) (hall : ∀ s ∈ ps, key s ∈ ks0) : SortedOf ps (strs (ks.mergeSort leB)) := by
  have tr : ∀ a b c : List UInt8, leB a b = true → leB b c = true → leB a c = true := fun a b c h1 h2 => by simp only [leB, decide_eq_true_eq] at *; exact List.le_trans h1 h2
  have tot : ∀ a b : List UInt8, (leB a b || leB b a) = true := fun a b => by simp only [leB, Bool.or_eq_true, decide_eq_true_eq]; exact List.le_total a b
  have hp := List.pairwise_mergeSort tr tot ks
  have hperm := List.mergeSort_perm ks leB
  have hnd2 : (ks.mergeSort leB).Nodup := (hperm.trans h).nodup_iff.2 hnd
  refine ⟨?_, fun x => ?_⟩
  · unfold strs
    rw [List.pairwise_map]
    have hq := hp.and hnd2
    refine hq.imp fun {a b} hab => ?_
    rw [key_strs, key_strs]
    obtain ⟨h1, h2⟩ := hab
    simp only [leB, decide_eq_true_eq] at h1
    rcases lt_or h2 with k | k
    · exact k
    · exact absurd k (List.not_lt.2 h1)
  · unfold strs
    rw [List.mem_map]
    constructor
    · rintro ⟨y, hy, rfl⟩
      obtain ⟨s, hs, e⟩ := hk y (h.subset (hperm.subset hy))
      have : (⟨y.toArray⟩ : ByteArray) = s := key_inj (by rw [key_strs, e])
      rw [this]; exact hs
    · intro hx
      refine ⟨key x, hperm.symm.subset (h.symm.subset (hall x hx)), key_inj (key_strs _)⟩

theorem mapKeysT_any (mb : Option Nat) (W : World) : Calls Try.prog 123 #[.map mb] W fun e w' =>
    e = .returned (.func (.func 149) #[] #[.pointer (some ⟨W.heap.size, 0, none⟩)]) ∧ w' = W.alloc (.cells #[.map mb] 81) :=
  (callsIn_wide (n := 5)).1 (AnyZ.keys_in Try.keysT Fence.wide 5 trivial rfl mb W)

set_option maxHeartbeats 1000000 in
/-- The sorted names of a table, from the world ahead of the call that made the iterator. -/
theorem sortedT_any (b : Nat) (l : List (ByteArray × Value)) (w : World) (ht : TabAt b l w) (hmax : l.length ≤ 4194304) :
    Calls Try.prog 119 #[.func (.func 149) #[] #[.pointer (some ⟨w.heap.size, 0, none⟩)]] (w.alloc (.cells #[.map (some b)] 81)) (SortEnd (l.map Prod.fst) w) := by
  obtain ⟨D, hown, hk⟩ := ht
  have hbl := hown.lt
  have hsz := hown.size_le
  have hseq : SeqGives Fence.wide 2 Try.prog 149 #[.pointer (some ⟨w.heap.size, 0, none⟩)] encStr (fun ss => ss.Perm (strKeys D)) (Maps.size D) (w.alloc (.cells #[.map (some b)] 81)) :=
    AnyZ.keys_gives (ρ := Try.keysT_ren) { Try.keysT with } Fence.wide _ trivial rfl (by omega) w.heap.size b l.length D _ (by simp) (by simp) (by
      obtain ⟨es, clock, hb, Ft, hs, hD⟩ := hown
      exact ⟨es, clock, (Below.heap_alloc _ _ b hbl).trans hb, Ft, hs, hD⟩)
  have h := AnyZ.sorted_in Try.sortedK Fence.wide 5 trivial trivial trivial trivial rfl (by omega) (sortsK _) (enters_of Try.func144 (by kernel_rfl) rfl) 149 #[.pointer (some ⟨w.heap.size, 0, none⟩)] trivial (enters_of Try.func149 (by kernel_rfl) rfl) _ _ (by unfold maxLen; omega) (by omega) _ hseq
  refine ((callsIn_wide (n := 5)).1 h).mono fun e w' ⟨v, ss, he, hperm, hrow, _, hb⟩ => ?_
  obtain ⟨k1, k2, k3⟩ := keys_Tab hown hk
  have l1 : (strs (ss.mergeSort leB)).length = ss.length := by simp [strs]
  have l2 : ss.length ≤ (l.map Prod.fst).length := by
    rw [hperm.length_eq, List.length_map]
    obtain ⟨es, hD, _⟩ := hown.tidy lawStrT
    rw [hD] at hsz ⊢
    show (es.map fun p => strOf p.1).length ≤ _
    rw [List.length_map]
    exact hsz
  refine ⟨v, strs (ss.mergeSort leB), he, sorted_gen _ ss _ k2 hperm k1 k3, by omega, ?_, ?_⟩
  · rw [l1, strs_vals]
    exact own_low hrow (by simp)
  · exact ((Below.refl _ _).alloc (Nat.le_refl _) _).trans (hb.mono (by simp))

set_option maxHeartbeats 1000000 in
/-- The same where there is no table. -/
theorem sortedT_nil (w : World) :
    Calls Try.prog 119 #[.func (.func 149) #[] #[.pointer (some ⟨w.heap.size, 0, none⟩)]] (w.alloc (.cells #[.map none] 81)) (SortEnd [] w) := by
  have hseq : SeqGives Fence.wide 2 Try.prog 149 #[.pointer (some ⟨w.heap.size, 0, none⟩)] encStr (fun ss : List (List UInt8) => ss = []) 0 (w.alloc (.cells #[.map none] 81)) :=
    AnyZ.keys_gives_nil (ρ := Try.keysT_ren) { Try.keysT with } Fence.wide _ trivial rfl w.heap.size _ (by simp) (by simp)
  have h := AnyZ.sorted_in Try.sortedK Fence.wide 5 trivial trivial trivial trivial rfl (by omega) (sortsK _) (enters_of Try.func144 (by kernel_rfl) rfl) 149 #[.pointer (some ⟨w.heap.size, 0, none⟩)] trivial (enters_of Try.func149 (by kernel_rfl) rfl) _ _ (by unfold maxLen; omega) (by omega) _ hseq
  refine ((callsIn_wide (n := 5)).1 h).mono fun e w' ⟨v, ss, he, hperm, hrow, _, hb⟩ => ?_
  subst hperm
  exact ⟨v, [], he, SortedOf.nil, Nat.le_refl _, by
    have h := own_low hrow (show w.heap.size ≤ _ by simp)
    simp only [List.length_nil, List.mergeSort_nil, List.map_nil] at h
    exact h, ((Below.refl _ _).alloc (Nat.le_refl _) _).trans (hb.mono (by simp))⟩
end Go.Proofs.Yteelakhaaipebaa
