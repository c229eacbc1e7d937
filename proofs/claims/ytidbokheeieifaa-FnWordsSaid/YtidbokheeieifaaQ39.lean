/-
  A slice of strings: what it holds. No walk.
  Plain facts on the sizes of lists of strings and of what is joined out of them. No program.
  A slice of strings that came in, or that was made: small facts. No walk.
  impl.knownNames makes a set of a list's strings.
  What a sort of names hands back. No walk.
  impl.SortNames returns the strings of its list in strictly ascending order, each once, in a slice of its own.
  spec.CountTerm returns how many terms there are in a term.
  spec.CountTerm and spec.DepthOfTerm, together. No walk.
-/
import Derived.Test.YtidbokheeieifaaRows
import Derived.Test.YtidbokheeieifaaQ2
import Derived.Test.YtidbokheeieifaaQ26
import Derived.Test.YtidbokheeieifaaQ1
import Derived.Test.YtidbokheeieifaaQ20
import Derived.WalkKit
import Derived.WalkSpells
import Derived.WalkLawsBesides
import Derived.Lib.Hide
import Derived.BigQuiet
import Derived.Deep.QuietTactic
import Derived.Lib.Join
import Derived.ProofKit
import Derived.Maps.OwnSet
namespace Go.Proofs.Ytidbokheeieifaa
open Go.RowKit

/-- The slice value v holds the strings ps. -/
def StrsAt (w : World) (v : Value) (ps : List ByteArray) : Prop :=
  ∃ a cap, v = .slice a ps.length cap ∧ (ps = [] ∨ ∃ b o, a = some ⟨b, o, none⟩ ∧ ∀ i p, ps[i]? = some p → w.cell? ⟨b, o + i, none⟩ = some (.string p))

theorem StrsAt.of_owns {w : World} {B : Nat} {e : TypeId} {v : Value} {ps : List ByteArray} (h : w.ownsRow B e 1 v ps.length (ps.map Value.string)) : StrsAt w v ps := by
  rcases h.2 with ⟨rfl, h0⟩ | ⟨g, cap, cur, rfl, _, _, _, _, _, _⟩
  · exact ⟨none, 0, by rw [h0], Or.inl (List.eq_nil_of_length_eq_zero h0)⟩
  · refine ⟨_, cap, rfl, Or.inr ⟨g, 0, rfl, fun i p hp => ?_⟩⟩
    have hi : i < ps.length := (List.getElem?_eq_some_iff.1 hp).1
    rw [Nat.zero_add, h.cellAt i (by omega)]
    simp [hp]
theorem StrsAt.drewN {w : World} {v : Value} {ps : List ByteArray} (h : StrsAt w v ps) (n : Nat) : StrsAt (w.drewN n) v ps := by
  obtain ⟨a, cap, rfl, h⟩ := h
  refine ⟨a, cap, rfl, ?_⟩
  rcases h with h | ⟨b, o, rfl, h⟩
  · exact Or.inl h
  · exact Or.inr ⟨b, o, rfl, fun i p hp => by simpa using h i p hp⟩

end Go.Proofs.Ytidbokheeieifaa
namespace Go.Proofs.Ytidbokheeieifaa
open Go

/-- The bytes of all strings together. -/
def total (ps : List ByteArray) : Nat := (ps.map (·.size)).sum
theorem total_snoc (ps : List ByteArray) (p : ByteArray) : total (ps ++ [p]) = total ps + p.size := by simp [total]
theorem take_next {α : Type} (l : List α) (k : Nat) (x : α) (h : l[k]? = some x) : l.take (k + 1) = l.take k ++ [x] := by
  rw [List.take_add_one, h]; rfl
theorem total_take_le (ps : List ByteArray) (k : Nat) : total (ps.take k) ≤ total ps := by
  have h : total ps = total (ps.take k) + total (ps.drop k) := by
    unfold total
    rw [← List.sum_append, ← List.map_append, List.take_append_drop]
  omega

theorem join_length (sep : List UInt8) (ps : List ByteArray) : (Lib.join (ps.map (·.data.toList)) sep).length ≤ total ps + ps.length * sep.length := by
  cases ps with
  | nil => simp [Lib.join_nil]
  | cons p r =>
    rw [List.map_cons, Lib.join_cons]
    have h : ∀ r : List ByteArray, (Lib.joinTail sep (r.map (·.data.toList))).length = total r + r.length * sep.length := by
      intro r
      induction r with
      | nil => simp [Lib.joinTail, total]
      | cons q r ih =>
        have e : Lib.joinTail sep ((q :: r).map (·.data.toList)) = sep ++ q.data.toList ++ Lib.joinTail sep (r.map (·.data.toList)) := by simp [Lib.joinTail]
        have e2 : total (q :: r) = q.size + total r := by simp [total]
        have e3 : q.data.toList.length = q.size := by simp
        rw [e, List.length_append, List.length_append, ih, e2, e3, List.length_cons, Nat.add_mul]
        omega
    have e2 : total (p :: r) = p.size + total r := by simp [total]
    have e3 : p.data.toList.length = p.size := by simp
    rw [List.length_append, h r, e2, e3, List.length_cons, Nat.add_mul]
    omega

end Go.Proofs.Ytidbokheeieifaa
namespace Go.Proofs.Ytidbokheeieifaa
open Go.RowKit

theorem infoStr' : (Try.prog.info? 9).map (fun i => (i.zero, i.size, i.bytes)) = some (some (.string ByteArray.empty), 1, 16) := by kernel_rfl

/-- A slice of strings that came in. -/
theorem strsAt_of_open {w : World} {a : Addr} {len cap : Nat} {ss : List ByteArray} (hl : len ≤ ss.length)
    (hc : ∀ i, i < ss.length → w.cell? (a.add i) = some (.string (ss.getD i ByteArray.empty))) : StrsAt w (.slice (some a) len cap) (ss.take len) := by
  have hlen : (ss.take len).length = len := by simp; omega
  refine ⟨some a, cap, by rw [hlen], ?_⟩
  by_cases h0 : len = 0
  · left; rw [h0]; simp
  · right
    have h := hc 0 (by omega)
    have hs := World.cell?_spot h
    obtain ⟨b, o, sp⟩ := a
    have hsp : sp = none := by simpa [Addr.add] using hs
    subst hsp
    refine ⟨b, o, rfl, fun i p hp => ?_⟩
    have hi : i < len := by have := (List.getElem?_eq_some_iff.1 hp).1; omega
    have hx := hc i (by omega)
    have e : (⟨b, o, none⟩ : Addr).add i = ⟨b, o + i, none⟩ := by
      unfold Addr.add
      split
      · rename_i h; subst h; rfl
      · rfl
    rw [e] at hx
    rw [hx]
    rw [List.getElem?_take, if_pos hi] at hp
    simp [List.getD, hp]

theorem StrsAt.below {w w' : World} {v : Value} {ps : List ByteArray} (h : StrsAt w v ps) (hb : Below w.heap.size w w') : StrsAt w' v ps := by
  obtain ⟨a, cap, rfl, h⟩ := h
  refine ⟨a, cap, rfl, ?_⟩
  rcases h with h | ⟨b, o, rfl, h⟩
  · exact Or.inl h
  · refine Or.inr ⟨b, o, rfl, fun i p hp => ?_⟩
    have hc := h i p hp
    rw [hb.cell (World.block_lt_of_cell? w _ hc)]; exact hc
end Go.Proofs.Ytidbokheeieifaa
namespace Go.Proofs.Ytidbokheeieifaa
open Go.RowKit Go.Maps Go.WideMaps

theorem lawStr : Keyed Try.prog 9 := string_keyed Try.underlying9

/-- A set of the call's own that holds the strings ps. -/
def HoldsSet (w : World) (b : Nat) (ps : List ByteArray) : Prop := w.ownsMap Try.prog 9 (plainElem (H := Unit) Try.prog 4) b ps.length (Sset (H := Unit) ps)
def KnownEnd (ps : List ByteArray) (w : World) (e : Ending) (w' : World) : Prop :=
  ∃ b, e = .returned (.map (some b)) ∧ HoldsSet w' b ps ∧ w.heap.size ≤ b ∧ Below w.heap.size w w'

set_option maxRecDepth 100000 in
set_option maxHeartbeats 400000 in
theorem known_empty (a : Option Addr) (cap : Nat) (w : World) :
    Calls Try.prog 159 #[.slice a 0 cap] w (KnownEnd [] w) := by
  have hmm := @run_makeMap Try.prog
  go_enter Try.func159, Try.ntmps159
  go_wp2
  refine wp_loop_rounds 1 ?_
  rw [rounds_succ]
  go_wp2
  go_ret
  exact ⟨_, rfl, World.ownsMap_made _ _ _ _, Nat.le_refl _, (Below.refl _ _).alloc (Nat.le_refl _) _⟩

set_option maxRecDepth 100000 in
set_option maxHeartbeats 800000 in
theorem known_some (b o cap : Nat) (ps : List ByteArray) (w : World) (hl : ps.length ≤ 4294967296) (hs : ∀ p ∈ ps, p.size ≤ maxLen)
    (hc : ∀ i p, ps[i]? = some p → w.cell? ⟨b, o + i, none⟩ = some (.string p)) :
    Calls Try.prog 159 #[.slice (some ⟨b, o, none⟩) ps.length cap] w (KnownEnd ps w) := by
  have HC := Lib.hid hc; clear hc
  have HS := Lib.hid hs; clear hs
  obtain ⟨n, hn⟩ : ∃ n, n = ps.length := ⟨_, rfl⟩
  rw [← hn] at hl ⊢
  have HN := Lib.hid hn; clear hn
  have hmm := @run_makeMap Try.prog
  go_enter Try.func159, Try.ntmps159
  go_wp2
  go_loopw [9] (fun i wr => ∃ k : Nat, k ≤ n ∧ i = .int .i64 k ∧ HoldsSet wr w.heap.size (ps.take k) ∧ Below w.heap.size w wr) (fun i _ => n - (intOf i).toNat)
  case atStart => exact ⟨0, Nat.zero_le _, rfl, World.ownsMap_made _ _ _ _, (Below.refl _ _).alloc (Nat.le_refl _) _⟩
  case round =>
    obtain ⟨k, hk, rfl, hown, hb⟩ := hrel
    have HB := Lib.hid hb; clear hb
    have HO := Lib.hid hown; clear hown
    by_cases hlt : k < n
    · obtain ⟨p, hp⟩ : ∃ p, ps[k]? = some p := ⟨_, List.getElem?_eq_getElem (by have := HN.out; omega)⟩
      have hc0 := HC.out k p hp
      have hcell : wr.cell? ⟨b, o + k, none⟩ = some (.string p) := by rw [HB.out.cell (World.block_lt_of_cell? w _ hc0)]; exact hc0
      clear hc0
      have hkey : keyOf Try.prog 9 (.string p) = some (.string (key p)) := WideMaps.keyOf_string_mk Try.underlying9 (HS.out p (List.mem_of_getElem? hp))
      have HK := Lib.hid hkey; clear hkey
      have hkl : (ps.take k).length = k := by rw [List.length_take]; have := HN.out; omega
      have HKL := Lib.hid hkl; clear hkl
      have hst : Sset (H := Unit) (ps.take (k + 1)) = (Sset (ps.take k)).put (.string (key p)) (.lit (.bool true)) := by rw [take_next ps k p hp, Sset_snoc]
      have HST := Lib.hid hst; clear hst hp
      go_wp2_with (first
        | (at_mapUpdate; refine wpList_mapUpdate_own _ rfl _ _ _ 137 rfl 9 4 lawStr Try.underlying137 (plainElem (H := Unit) Try.prog 4) w.heap.size (ps.take k).length _ rfl HO.out ?m1 _ _ _ rfl rfl HK.out _ [] (plainElem_bool Try.underlying4 true) ?_))
      case m1 => rw [HKL.out]; unfold maxLen; omega
      intro w1 hown1 hgrow1
      have hown2 : HoldsSet w1 w.heap.size (ps.take (k + 1)) := by
        unfold HoldsSet
        rw [HST.out]
        exact hown1.mono (by simp only [List.length_take]; have := HN.out; omega)
      have hb2 := HB.out.grown hgrow1 HB.out.size (fun j hj => by cases hj; exact Nat.le_refl _)
      have HO2 := Lib.hid hown2; clear hown1 hown2
      have HB2 := Lib.hid hb2; clear hb2 hgrow1
      go_wp2
      go_roundw
      case rel => exact ⟨k + 1, by omega, by go_num, HO2.out, HB2.out⟩
      case measure => simp [intOf]; omega
    · have HD : Hid (ps.take k = ps) := Lib.hid (by
        have hkn : k = ps.length := by have := HN.out; omega
        rw [hkn, List.take_length])
      go_wp2
      go_ret
      refine ⟨_, rfl, ?_, Nat.le_refl _, HB.out⟩
      have h := HO.out
      rw [HD.out] at h
      exact h

theorem known_any (v : Value) (ps : List ByteArray) (w : World) (hl : ps.length ≤ 4294967296) (hs : ∀ p ∈ ps, p.size ≤ maxLen) (hv : StrsAt w v ps) :
    Calls Try.prog 159 #[v] w (KnownEnd ps w) := by
  obtain ⟨a, cap, rfl, hv⟩ := hv
  rcases hv with rfl | ⟨b, o, rfl, hv⟩
  · exact known_empty a cap w
  · exact known_some b o cap ps w hl hs hv
end Go.Proofs.Ytidbokheeieifaa
namespace Go.Proofs.Ytidbokheeieifaa
open Go.RowKit

/-- What a sort of names hands back. -/
def SortEnd (ps : List ByteArray) (w : World) (e : Ending) (w' : World) : Prop :=
  ∃ (v : Value) (rs : List ByteArray), e = .returned v ∧ SortedOf ps rs ∧ rs.length ≤ ps.length ∧ w'.ownsRow w.heap.size 9 1 v rs.length (rs.map Value.string) ∧ Below w.heap.size w w'
end Go.Proofs.Ytidbokheeieifaa
namespace Go.Proofs.Ytidbokheeieifaa
open Go.RowKit Go.Maps Go.Sort Go.Shelf

theorem sortsK (m : Nat) : AnyZ.SortsIn Try.prog Try.sortedK_ren Fence.wide m :=
  ⟨fun blk off cap ss W hH hblk hsz => callsIn_wide.2 (AnyM.slices_Sort_string Try.sortK blk off cap ss W hH hblk hsz),
   fun p cap W => callsIn_wide.2 (AnyM.slices_Sort_string_none Try.sortK p cap W)⟩

theorem mapKeys_any (mb : Option Nat) (W : World) : Calls Try.prog 158 #[.map mb] W fun e w' =>
    e = .returned (.func (.func 168) #[] #[.pointer (some ⟨W.heap.size, 0, none⟩)]) ∧ w' = W.alloc (.cells #[.map mb] 137) :=
  (callsIn_wide (n := 5)).1 (AnyZ.keys_in Try.keysK Fence.wide 5 trivial rfl mb W)

def SortedEnd (ks : List (List UInt8)) (w : World) (e : Ending) (w' : World) : Prop :=
  ∃ (v : Value) (ss : List (List UInt8)), e = .returned v ∧ ss.Perm ks ∧ w'.ownsRow w.heap.size 9 1 v ss.length ((ss.mergeSort leB).map encStr) ∧ Below w.heap.size w w'

set_option maxHeartbeats 1000000 in
/-- The sorted keys of a map, from the world ahead of the call that made the iterator. -/
theorem sortedKeys_any {H : Type} (b nn : Nat) (D0 : DataW H) (R : Value → Option (DataW H × List MemPlace)) (w : World) (hown : w.ownsMap Try.prog 9 R b nn D0) (hmax : Maps.size D0 ≤ 4294967296) :
    Calls Try.prog 135 #[.func (.func 168) #[] #[.pointer (some ⟨w.heap.size, 0, none⟩)]] (w.alloc (.cells #[.map (some b)] 137)) (SortedEnd (strKeys D0) (w.alloc (.cells #[.map (some b)] 137))) := by
  have hbl := hown.lt
  have hseq : SeqGives Fence.wide 2 Try.prog 168 #[.pointer (some ⟨w.heap.size, 0, none⟩)] encStr (fun ss => ss.Perm (strKeys D0)) (Maps.size D0) (w.alloc (.cells #[.map (some b)] 137)) :=
    AnyZ.keys_gives (ρ := Try.keysK_ren) { Try.keysK with } Fence.wide _ trivial rfl (by omega) w.heap.size b nn D0 _ (by simp) (by simp) (by
      obtain ⟨es, clock, hb, Ft, hs, hD⟩ := hown
      exact ⟨es, clock, (Below.heap_alloc _ _ b hbl).trans hb, Ft, hs, hD⟩)
  have h := AnyZ.sorted_in Try.sortedK Fence.wide 5 trivial trivial trivial trivial rfl (by omega) (sortsK _) (enters_of Try.func156 (by kernel_rfl) rfl) 168 #[.pointer (some ⟨w.heap.size, 0, none⟩)] trivial (enters_of Try.func168 (by kernel_rfl) rfl) _ _ (by unfold maxLen; omega) (by omega) _ hseq
  exact ((callsIn_wide (n := 5)).1 h).mono fun e w' ⟨v, ss, he, hp, hrow, _, hb⟩ => ⟨v, ss, he, hp, hrow, hb⟩

theorem sort_of_keys {ps : List ByteArray} {w w1 : World} {b : Nat} (hset : HoldsSet w1 b ps) (hb : Below w.heap.size w w1) (e : Ending) (w' : World)
    (h : SortedEnd (strKeys (Sset (H := Unit) ps)) (w1.alloc (.cells #[.map (some b)] 137)) e w') : SortEnd ps w e w' := by
  obtain ⟨v, ss, he, hperm, hrow, hb2⟩ := h
  obtain ⟨k1, k2, k3⟩ := keys_Sset ps hset Try.underlying9
  obtain ⟨l1, l2⟩ := sorted_len ps ss hperm
  refine ⟨v, strs (ss.mergeSort leB), he, sorted_strs ps ss k2 hperm k1 k3, by omega, ?_, ?_⟩
  · rw [l1, strs_vals]
    exact own_low hrow (by have := hb.size; simp; omega)
  · exact (hb.alloc hb.size _).trans (hb2.mono (by have := hb.size; simp; omega))

set_option maxRecDepth 100000 in
set_option maxHeartbeats 400000 in
theorem iSort_any (v : Value) (ps : List ByteArray) (w : World) (hl : ps.length ≤ 4294967296) (hs : ∀ p ∈ ps, p.size ≤ maxLen) (hv : StrsAt w v ps) :
    Calls Try.prog 141 #[v] w (SortEnd ps w) := by
  have hk := known_any v ps w hl hs hv
  have HK := Lib.hid hk; clear hk
  clear hv
  go_enter Try.func141, Try.ntmps141
  go_wp2_with fail
  refine HK.out.mono ?_
  rintro e w1 ⟨m, rfl, hown, _, hb⟩
  have HB := Lib.hid hb; clear hb
  have HO := Lib.hid hown; clear hown
  go_wp2_with fail
  refine (mapKeys_any (some m) _).mono ?_
  rintro e w2 ⟨rfl, rfl⟩
  go_wp2_with fail
  refine (sortedKeys_any m ps.length (Sset (H := Unit) ps) _ w1 HO.out (by have := size_Sset_le (H := Unit) ps; omega)).mono ?_
  rintro e w3 he
  obtain ⟨u, rs, rfl, h1, h2, h3, h4⟩ := sort_of_keys HO.out HB.out e w3 he
  have H1 := Lib.hid h1; clear h1
  have H3 := Lib.hid h3; clear h3
  have H4 := Lib.hid h4; clear h4 he
  go_wp2
  go_ret
  exact ⟨_, rs, rfl, H1.out, h2, H3.out, H4.out⟩
end Go.Proofs.Ytidbokheeieifaa
namespace Go.Proofs.Ytidbokheeieifaa
open Go.RowKit

end Go.Proofs.Ytidbokheeieifaa
namespace Go.Proofs.Ytidbokheeieifaa
open Go.RowKit

end Go.Proofs.Ytidbokheeieifaa
