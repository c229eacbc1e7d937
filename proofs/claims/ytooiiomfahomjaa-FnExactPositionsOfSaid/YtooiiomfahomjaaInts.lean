/-
  A slice of integers: what it holds; laws.toIntS copies it, laws.eqIntS finds it equal to another.
-/
import Derived.Test.YtooiiomfahomjaaOwn
import Derived.OwnWalk
import Derived.WalkLawsBesides
import Derived.Lib.Hide
import Derived.BigQuiet
import Derived.Deep.QuietTactic
namespace Go.Proofs.Ytooiiomfahomjaa
open Go.RowKit

/-- An int's value. -/
abbrev iv (z : Int) : Value := .int .i64 z
/-- The slice value v holds the integers ps. -/
def IntsAt (w : World) (v : Value) (ps : List Int) : Prop :=
  ∃ a cap, v = .slice a ps.length cap ∧ ps.length ≤ cap ∧ (ps = [] ∨ ∃ b o, a = some ⟨b, o, none⟩ ∧ ∀ i p, ps[i]? = some p → w.cell? ⟨b, o + i, none⟩ = some (iv p))

theorem IntsAt.of_owns {w : World} {B : Nat} {e : TypeId} {v : Value} {ps : List Int} (h : w.ownsRow B e 1 v ps.length (ps.map iv)) : IntsAt w v ps := by
  rcases h.2 with ⟨rfl, h0⟩ | ⟨g, cap, cur, rfl, _, _, hn, _, _, _⟩
  · exact ⟨none, 0, by rw [h0], by omega, Or.inl (List.eq_nil_of_length_eq_zero h0)⟩
  · refine ⟨_, cap, rfl, hn, Or.inr ⟨g, 0, rfl, fun i p hp => ?_⟩⟩
    have hi : i < ps.length := (List.getElem?_eq_some_iff.1 hp).1
    rw [Nat.zero_add, h.cellAt i (by omega)]
    simp [hp]
theorem IntsAt.keep {w w' : World} {v : Value} {ps : List Int} (h : IntsAt w v ps) (hk : ∀ (ad : Addr) x, (∀ a n c, v = .slice (some a) n c → a.block = ad.block) → w.cell? ad = some x → w'.cell? ad = some x) : IntsAt w' v ps := by
  obtain ⟨a, cap, rfl, hc, h⟩ := h
  refine ⟨a, cap, rfl, hc, ?_⟩
  rcases h with h | ⟨b, o, rfl, h⟩
  · exact Or.inl h
  · exact Or.inr ⟨b, o, rfl, fun i p hp => hk _ _ (fun a n c e => by cases e; rfl) (h i p hp)⟩
theorem IntsAt.below {w w' : World} {v : Value} {ps : List Int} (h : IntsAt w v ps) (hb : Below w.heap.size w w') : IntsAt w' v ps :=
  h.keep fun ad x _ hc => by rw [hb.cell (World.block_lt_of_cell? w _ hc)]; exact hc
theorem IntsAt.slice {w : World} {v : Value} {ps : List Int} (h : IntsAt w v ps) : ∃ a cap, v = .slice a ps.length cap := by
  obtain ⟨a, cap, e, _⟩ := h; exact ⟨a, cap, e⟩
theorem IntsAt.at {w : World} {a : Option Addr} {n cap : Nat} {ps : List Int} (h : IntsAt w (.slice a n cap) ps) {i : Nat} {p : Int} (hp : ps[i]? = some p) : ∃ b o, a = some ⟨b, o, none⟩ ∧ w.cell? ⟨b, o + i, none⟩ = some (iv p) := by
  obtain ⟨a', cap', e, _, h⟩ := h
  cases e
  rcases h with rfl | ⟨b, o, rfl, h⟩
  · simp at hp
  · exact ⟨b, o, rfl, h i p hp⟩
theorem IntsAt.len {w : World} {a : Option Addr} {n cap : Nat} {ps : List Int} (h : IntsAt w (.slice a n cap) ps) : n = ps.length := by
  obtain ⟨a', cap', e, _, h⟩ := h; cases e; rfl
theorem IntsAt.cap {w : World} {a : Option Addr} {n cap : Nat} {ps : List Int} (h : IntsAt w (.slice a n cap) ps) : n ≤ cap := by
  obtain ⟨a', cap', e, hc, h⟩ := h; cases e; exact hc
theorem IntsAt.tail {w : World} {b o n cap : Nat} {p : Int} {ps : List Int} (h : IntsAt w (.slice (some ⟨b, o, none⟩) n cap) (p :: ps)) : IntsAt w (.slice (some ⟨b, o + 1, none⟩) ps.length (cap - 1)) ps := by
  have hc := h.cap
  have hl := h.len
  simp at hl
  refine ⟨_, _, rfl, by omega, Or.inr ⟨b, o + 1, rfl, fun j q hq => ?_⟩⟩
  obtain ⟨b', o', e, hx⟩ := h.at (i := j + 1) (p := q) (by simpa using hq)
  cases e
  rw [show o + 1 + j = o + (j + 1) by omega]; exact hx

theorem infoInt : (Try.prog.info? 3).map (fun i => (i.zero, i.size, i.bytes)) = some (some (iv 0), 1, 8) := by kernel_rfl

/-- A copy of the integers, in a slice of the call's own. -/
def CopyI (ps : List Int) (w : World) (e : Ending) (w' : World) : Prop :=
  ∃ v, e = .returned v ∧ w'.ownsRow w.heap.size 3 1 v ps.length (ps.map iv) ∧ Below w.heap.size w w'

theorem takeI (ps : List Int) (k : Nat) (p : Int) (h : ps[k]? = some p) : ps.take (k + 1) = ps.take k ++ [p] := by
  rw [List.take_add_one, h]; rfl
theorem copyI_set (ps : List Int) (ys : List Value) (k : Nat) (p : Int) (hp : ps[k]? = some p) (hy : k < ys.length) :
    ((ps.take k).map iv ++ ys.drop k).set k (iv p) = (ps.take (k + 1)).map iv ++ ys.drop (k + 1) := by
  have hk : k < ps.length := (List.getElem?_eq_some_iff.1 hp).1
  have hl : ((ps.take k).map iv).length = k := by simp; omega
  rw [List.set_append_right _ _ (by omega), hl, Nat.sub_self, takeI ps k p hp, List.drop_eq_getElem_cons hy, List.set_cons_zero, List.map_append, List.append_assoc]
  rfl

/-- An answer that leaves what was there. -/
def TrueI (w : World) (e : Ending) (w' : World) : Prop := e = .returned (.bool true) ∧ Below w.heap.size w w'

end Go.Proofs.Ytooiiomfahomjaa
