/-
  A slice of strings: what it holds. No walk.
  A slice of strings that came in, or that was made: small facts. No walk.
  impl.Join returns the elements with the separator between them.
-/
import Derived.Test.YtooiiomfahomjaaGreatDoorRows
import Derived.Test.YtooiiomfahomjaaGreatDoorQ4
import Derived.Test.YtooiiomfahomjaaGreatDoorQ10
import Derived.Test.YtooiiomfahomjaaGreatDoorQ3
import Derived.WalkKit
import Derived.WalkSpells
import Derived.WalkLawsBesides
import Derived.Lib.Hide
import Derived.BigQuiet
import Derived.Deep.QuietTactic
import Derived.ProofKit
import Derived.Shelf.Strings.OnBuilder
namespace Go.Proofs.YtooiiomfahomjaaGreatDoor
open Go.RowKit

/-- The slice value v holds the strings ps. -/
def StrsAt (w : World) (v : Value) (ps : List ByteArray) : Prop :=
  ∃ a cap, v = .slice a ps.length cap ∧ (ps = [] ∨ ∃ b o, a = some ⟨b, o, none⟩ ∧ ∀ i p, ps[i]? = some p → w.cell? ⟨b, o + i, none⟩ = some (.string p))

theorem StrsAt.of_owns {w : World} {B : Nat} {e : TypeId} {v : Value} {ps : List ByteArray} (h : w.ownsRow B e 1 v ps.length (ps.map Value.string)) : StrsAt w v ps := by
  rcases h.2 with ⟨rfl, h0⟩ | ⟨g, cap, cur, rfl, _, _, _, _, _, _⟩
  · exact ⟨none, 0, by rw [h0], Or.inl (List.eq_nil_of_length_eq_zero h0)⟩
  · refine ⟨_, cap, rfl, Or.inr ⟨g, 0, rfl, fun i p hp => ?_⟩⟩
    have hi : i < ps.length := (List.getElem?_eq_some_iff.1 hp).1
    rw [Nat.zero_add, h.cellAt i (by omega)]
    simp [hp]
theorem StrsAt.drewN {w : World} {v : Value} {ps : List ByteArray} (h : StrsAt w v ps) (n : Nat) : StrsAt (w.drewN n) v ps := by
  obtain ⟨a, cap, rfl, h⟩ := h
  refine ⟨a, cap, rfl, ?_⟩
  rcases h with h | ⟨b, o, rfl, h⟩
  · exact Or.inl h
  · exact Or.inr ⟨b, o, rfl, fun i p hp => by simpa using h i p hp⟩

end Go.Proofs.YtooiiomfahomjaaGreatDoor
namespace Go.Proofs.YtooiiomfahomjaaGreatDoor
open Go.RowKit

theorem infoStr' : (Tryz.prog.info? 9).map (fun i => (i.zero, i.size, i.bytes)) = some (some (.string ByteArray.empty), 1, 16) := by kernel_rfl

/-- A slice of strings that came in. -/
theorem strsAt_of_open {w : World} {a : Addr} {len cap : Nat} {ss : List ByteArray} (hl : len ≤ ss.length)
    (hc : ∀ i, i < ss.length → w.cell? (a.add i) = some (.string (ss.getD i ByteArray.empty))) : StrsAt w (.slice (some a) len cap) (ss.take len) := by
  have hlen : (ss.take len).length = len := by simp; omega
  refine ⟨some a, cap, by rw [hlen], ?_⟩
  by_cases h0 : len = 0
  · left; rw [h0]; simp
  · right
    have h := hc 0 (by omega)
    have hs := World.cell?_spot h
    obtain ⟨b, o, sp⟩ := a
    have hsp : sp = none := by simpa [Addr.add] using hs
    subst hsp
    refine ⟨b, o, rfl, fun i p hp => ?_⟩
    have hi : i < len := by have := (List.getElem?_eq_some_iff.1 hp).1; omega
    have hx := hc i (by omega)
    have e : (⟨b, o, none⟩ : Addr).add i = ⟨b, o + i, none⟩ := by
      unfold Addr.add
      split
      · rename_i h; subst h; rfl
      · rfl
    rw [e] at hx
    rw [hx]
    rw [List.getElem?_take, if_pos hi] at hp
    simp [List.getD, hp]

theorem StrsAt.below {w w' : World} {v : Value} {ps : List ByteArray} (h : StrsAt w v ps) (hb : Below w.heap.size w w') : StrsAt w' v ps := by
  obtain ⟨a, cap, rfl, h⟩ := h
  refine ⟨a, cap, rfl, ?_⟩
  rcases h with h | ⟨b, o, rfl, h⟩
  · exact Or.inl h
  · refine Or.inr ⟨b, o, rfl, fun i p hp => ?_⟩
    have hc := h i p hp
    rw [hb.cell (World.block_lt_of_cell? w _ hc)]; exact hc
end Go.Proofs.YtooiiomfahomjaaGreatDoor
namespace Go.Proofs.YtooiiomfahomjaaGreatDoor
open Go.RowKit

def JoinEnd (ps : List ByteArray) (sep : ByteArray) (w : World) (e : Ending) (w' : World) : Prop :=
  e = .returned (.string ⟨(Lib.join (ps.map (·.data.toList)) sep.data.toList).toArray⟩) ∧ Below w.heap.size w w'

set_option maxRecDepth 100000 in
set_option maxHeartbeats 400000 in
theorem iJoin_any (B : Nat) (v : Value) (ps : List ByteArray) (sep : ByteArray) (w : World) (hl : ps.length + total ps ≤ 33554432) (hs : sep.size ≤ 1048576)
    (hown : w.ownsRow B 9 1 v ps.length (ps.map Value.string)) :
    Calls Tryz.prog 35 #[v, .string sep] w (JoinEnd ps sep w) := by
  have hjl := join_length sep.data.toList ps
  have e3 : sep.data.toList.length = sep.size := by simp
  have h4 : ps.length * sep.data.toList.length ≤ 33554432 * 1048576 := Nat.mul_le_mul (by omega) (by omega)
  have hj : (Lib.join (ps.map (·.data.toList)) sep.data.toList).length ≤ 140737488355328 := by omega
  have HJ := Lib.hid hj; clear hj hjl h4 e3
  have hc : Calls Tryz.prog 53 #[v, .string sep] w (JoinEnd ps sep w) := by
    rcases hown.2 with ⟨rfl, h0⟩ | ⟨g, cap, cur, rfl, hbg, hg, hnc, hcm, hcs, htk⟩
    · have hp : ps = [] := List.eq_nil_of_length_eq_zero h0
      subst hp
      exact (Any.strings_Join_none Tryz.lays156 Tryz.Builder_Extra_156 none 0 sep w).mono fun e w' ⟨he, hw⟩ => ⟨he, hw ▸ Below.refl _ _⟩
    · exact (Any.strings_Join Tryz.lays156 Tryz.Builder_Extra_156 g 0 cap ps sep w (fun j x hx => by
        have hj : j < ps.length := (List.getElem?_eq_some_iff.1 hx).1
        rw [Nat.zero_add, hown.cellAt j (by omega)]
        simp [hx]) (hown.lt g rfl).2 (by omega) hnc HJ.out).mono fun e w' h => h
  have HC := Lib.hid hc; clear hc
  go_enter Tryz.func35, Tryz.ntmps35
  go_wp2_with fail
  refine HC.out.mono ?_
  rintro e w1 ⟨rfl, hb⟩
  go_wp2
  go_ret
  exact ⟨rfl, hb⟩

end Go.Proofs.YtooiiomfahomjaaGreatDoor
