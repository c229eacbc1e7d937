/-
  impl.SortNames returns the strings of its list in strictly ascending order, each once, in a slice of its own.
-/
import Derived.Test.YtbechogdijkgjaaKnown
import Derived.Test.YtbechogdijkgjaaSortDef
import Derived.Test.YtbechogdijkgjaaLaysK
namespace Go.Proofs.Ytbechogdijkgjaa
open Go.RowKit Go.Maps Go.Sort Go.Shelf

theorem sortsK (m : Nat) : AnyZ.SortsIn Try.prog Try.sortedK_ren Fence.wide m :=
  ⟨fun blk off cap ss W hH hblk hsz => callsIn_wide.2 (AnyM.slices_Sort_string Try.sortK blk off cap ss W hH hblk hsz),
   fun p cap W => callsIn_wide.2 (AnyM.slices_Sort_string_none Try.sortK p cap W)⟩

theorem mapKeys_any (mb : Option Nat) (W : World) : Calls Try.prog 72 #[.map mb] W fun e w' =>
    e = .returned (.func (.func 87) #[] #[.pointer (some ⟨W.heap.size, 0, none⟩)]) ∧ w' = W.alloc (.cells #[.map mb] 89) :=
  (callsIn_wide (n := 5)).1 (AnyZ.keys_in Try.keysK Fence.wide 5 trivial rfl mb W)

def SortedEnd (ks : List (List UInt8)) (w : World) (e : Ending) (w' : World) : Prop :=
  ∃ (v : Value) (ss : List (List UInt8)), e = .returned v ∧ ss.Perm ks ∧ w'.ownsRow w.heap.size 9 1 v ss.length ((ss.mergeSort leB).map encStr) ∧ Below w.heap.size w w'

set_option maxHeartbeats 1000000 in
/-- The sorted keys of a map, from the world ahead of the call that made the iterator. -/
theorem sortedKeys_any {H : Type} (b nn : Nat) (D0 : DataW H) (R : Value → Option (DataW H × List MemPlace)) (w : World) (hown : w.ownsMap Try.prog 9 R b nn D0) (hmax : Maps.size D0 ≤ 4194304) :
    Calls Try.prog 71 #[.func (.func 87) #[] #[.pointer (some ⟨w.heap.size, 0, none⟩)]] (w.alloc (.cells #[.map (some b)] 89)) (SortedEnd (strKeys D0) (w.alloc (.cells #[.map (some b)] 89))) := by
  have hbl := hown.lt
  have hseq : SeqGives Fence.wide 2 Try.prog 87 #[.pointer (some ⟨w.heap.size, 0, none⟩)] encStr (fun ss => ss.Perm (strKeys D0)) (Maps.size D0) (w.alloc (.cells #[.map (some b)] 89)) :=
    AnyZ.keys_gives (ρ := Try.keysK_ren) { Try.keysK with } Fence.wide _ trivial rfl (by omega) w.heap.size b nn D0 _ (by simp) (by simp) (by
      obtain ⟨es, clock, hb, Ft, hs, hD⟩ := hown
      exact ⟨es, clock, (Below.heap_alloc _ _ b hbl).trans hb, Ft, hs, hD⟩)
  have h := AnyZ.sorted_in Try.sortedK Fence.wide 5 trivial trivial trivial trivial rfl (by omega) (sortsK _) (enters_of Try.func86 (by kernel_rfl) rfl) 87 #[.pointer (some ⟨w.heap.size, 0, none⟩)] trivial (enters_of Try.func87 (by kernel_rfl) rfl) _ _ (by unfold maxLen; omega) (by omega) _ hseq
  exact ((callsIn_wide (n := 5)).1 h).mono fun e w' ⟨v, ss, he, hp, hrow, _, hb⟩ => ⟨v, ss, he, hp, hrow, hb⟩

theorem sort_of_keys {ps : List ByteArray} {w w1 : World} {b : Nat} (hset : HoldsSet w1 b ps) (hb : Below w.heap.size w w1) (e : Ending) (w' : World)
    (h : SortedEnd (strKeys (Sset (H := Unit) ps)) (w1.alloc (.cells #[.map (some b)] 89)) e w') : SortEnd ps w e w' := by
  obtain ⟨v, ss, he, hperm, hrow, hb2⟩ := h
  obtain ⟨k1, k2, k3⟩ := keys_Sset ps hset Try.underlying9
  obtain ⟨l1, l2⟩ := sorted_len ps ss hperm
  refine ⟨v, strs (ss.mergeSort leB), he, sorted_strs ps ss k2 hperm k1 k3, by omega, ?_, ?_⟩
  · rw [l1, strs_vals]
    exact own_low hrow (by have := hb.size; simp; omega)
  · exact (hb.alloc hb.size _).trans (hb2.mono (by have := hb.size; simp; omega))

set_option maxRecDepth 100000 in
set_option maxHeartbeats 400000 in
theorem iSort_any (v : Value) (ps : List ByteArray) (w : World) (hl : ps.length ≤ 4194304) (hs : ∀ p ∈ ps, p.size ≤ maxLen) (hv : StrsAt w v ps) :
    Calls Try.prog 45 #[v] w (SortEnd ps w) := by
  have hk := known_any v ps w hl hs hv
  have HK := Lib.hid hk; clear hk
  clear hv
  go_enter Try.func45, Try.ntmps45
  go_wp2_with fail
  refine HK.out.mono ?_
  rintro e w1 ⟨m, rfl, hown, _, hb⟩
  have HB := Lib.hid hb; clear hb
  have HO := Lib.hid hown; clear hown
  go_wp2_with fail
  refine (mapKeys_any (some m) _).mono ?_
  rintro e w2 ⟨rfl, rfl⟩
  go_wp2_with fail
  refine (sortedKeys_any m ps.length (Sset (H := Unit) ps) _ w1 HO.out (by have := size_Sset_le (H := Unit) ps; omega)).mono ?_
  rintro e w3 he
  obtain ⟨u, rs, rfl, h1, h2, h3, h4⟩ := sort_of_keys HO.out HB.out e w3 he
  have H1 := Lib.hid h1; clear h1
  have H3 := Lib.hid h3; clear h3
  have H4 := Lib.hid h4; clear h4 he
  go_wp2
  go_ret
  exact ⟨_, rs, rfl, H1.out, h2, H3.out, H4.out⟩
end Go.Proofs.Ytbechogdijkgjaa
