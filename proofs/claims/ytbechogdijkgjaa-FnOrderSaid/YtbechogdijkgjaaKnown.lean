/-
  impl.knownNames makes a set of a list's strings.
-/
import Derived.Test.YtbechogdijkgjaaStrsG
import Derived.Test.YtbechogdijkgjaaNamesM
import Derived.Maps.OwnSet
namespace Go.Proofs.Ytbechogdijkgjaa
open Go.RowKit Go.Maps Go.WideMaps

theorem lawStr : Keyed Try.prog 9 := string_keyed Try.underlying9

/-- A set of the call's own that holds the strings ps. -/
def HoldsSet (w : World) (b : Nat) (ps : List ByteArray) : Prop := w.ownsMap Try.prog 9 (plainElem (H := Unit) Try.prog 4) b ps.length (Sset (H := Unit) ps)
def KnownEnd (ps : List ByteArray) (w : World) (e : Ending) (w' : World) : Prop :=
  ∃ b, e = .returned (.map (some b)) ∧ HoldsSet w' b ps ∧ w.heap.size ≤ b ∧ Below w.heap.size w w'

set_option maxRecDepth 100000 in
set_option maxHeartbeats 400000 in
theorem known_empty (a : Option Addr) (cap : Nat) (w : World) :
    Calls Try.prog 73 #[.slice a 0 cap] w (KnownEnd [] w) := by
  have hmm := @run_makeMap Try.prog
  go_enter Try.func73, Try.ntmps73
  go_wp2
  refine wp_loop_rounds 1 ?_
  rw [rounds_succ]
  go_wp2
  go_ret
  exact ⟨_, rfl, World.ownsMap_made _ _ _ _, Nat.le_refl _, (Below.refl _ _).alloc (Nat.le_refl _) _⟩

set_option maxRecDepth 100000 in
set_option maxHeartbeats 800000 in
theorem known_some (b o cap : Nat) (ps : List ByteArray) (w : World) (hl : ps.length ≤ 4194304) (hs : ∀ p ∈ ps, p.size ≤ maxLen)
    (hc : ∀ i p, ps[i]? = some p → w.cell? ⟨b, o + i, none⟩ = some (.string p)) :
    Calls Try.prog 73 #[.slice (some ⟨b, o, none⟩) ps.length cap] w (KnownEnd ps w) := by
  have HC := Lib.hid hc; clear hc
  have HS := Lib.hid hs; clear hs
  obtain ⟨n, hn⟩ : ∃ n, n = ps.length := ⟨_, rfl⟩
  rw [← hn] at hl ⊢
  have HN := Lib.hid hn; clear hn
  have hmm := @run_makeMap Try.prog
  go_enter Try.func73, Try.ntmps73
  go_wp2
  go_loopw [9] (fun i wr => ∃ k : Nat, k ≤ n ∧ i = .int .i64 k ∧ HoldsSet wr w.heap.size (ps.take k) ∧ Below w.heap.size w wr) (fun i _ => n - (intOf i).toNat)
  case atStart => exact ⟨0, Nat.zero_le _, rfl, World.ownsMap_made _ _ _ _, (Below.refl _ _).alloc (Nat.le_refl _) _⟩
  case round =>
    obtain ⟨k, hk, rfl, hown, hb⟩ := hrel
    have HB := Lib.hid hb; clear hb
    have HO := Lib.hid hown; clear hown
    by_cases hlt : k < n
    · obtain ⟨p, hp⟩ : ∃ p, ps[k]? = some p := ⟨_, List.getElem?_eq_getElem (by have := HN.out; omega)⟩
      have hc0 := HC.out k p hp
      have hcell : wr.cell? ⟨b, o + k, none⟩ = some (.string p) := by rw [HB.out.cell (World.block_lt_of_cell? w _ hc0)]; exact hc0
      clear hc0
      have hkey : keyOf Try.prog 9 (.string p) = some (.string (key p)) := WideMaps.keyOf_string_mk Try.underlying9 (HS.out p (List.mem_of_getElem? hp))
      have HK := Lib.hid hkey; clear hkey
      have hkl : (ps.take k).length = k := by rw [List.length_take]; have := HN.out; omega
      have HKL := Lib.hid hkl; clear hkl
      have hst : Sset (H := Unit) (ps.take (k + 1)) = (Sset (ps.take k)).put (.string (key p)) (.lit (.bool true)) := by rw [take_next ps k p hp, Sset_snoc]
      have HST := Lib.hid hst; clear hst hp
      go_wp2_with (first
        | (at_mapUpdate; refine wpList_mapUpdate_own _ rfl _ _ _ 89 rfl 9 4 lawStr Try.underlying89 (plainElem (H := Unit) Try.prog 4) w.heap.size (ps.take k).length _ rfl HO.out ?m1 _ _ _ rfl rfl HK.out _ [] (plainElem_bool Try.underlying4 true) ?_))
      case m1 => rw [HKL.out]; unfold maxLen; omega
      intro w1 hown1 hgrow1
      have hown2 : HoldsSet w1 w.heap.size (ps.take (k + 1)) := by
        unfold HoldsSet
        rw [HST.out]
        exact hown1.mono (by simp only [List.length_take]; have := HN.out; omega)
      have hb2 := HB.out.grown hgrow1 HB.out.size (fun j hj => by cases hj; exact Nat.le_refl _)
      have HO2 := Lib.hid hown2; clear hown1 hown2
      have HB2 := Lib.hid hb2; clear hb2 hgrow1
      go_wp2
      go_roundw
      case rel => exact ⟨k + 1, by omega, by go_num, HO2.out, HB2.out⟩
      case measure => simp [intOf]; omega
    · have HD : Hid (ps.take k = ps) := Lib.hid (by
        have hkn : k = ps.length := by have := HN.out; omega
        rw [hkn, List.take_length])
      go_wp2
      go_ret
      refine ⟨_, rfl, ?_, Nat.le_refl _, HB.out⟩
      have h := HO.out
      rw [HD.out] at h
      exact h

theorem known_any (v : Value) (ps : List ByteArray) (w : World) (hl : ps.length ≤ 4194304) (hs : ∀ p ∈ ps, p.size ≤ maxLen) (hv : StrsAt w v ps) :
    Calls Try.prog 73 #[v] w (KnownEnd ps w) := by
  obtain ⟨a, cap, rfl, hv⟩ := hv
  rcases hv with rfl | ⟨b, o, rfl, hv⟩
  · exact known_empty a cap w
  · exact known_some b o cap ps w hl hs hv
end Go.Proofs.Ytbechogdijkgjaa
