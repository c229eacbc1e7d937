/-
  A map of texts that is filled from a list: of several texts of one name, the one that was put in last counts. No walk.
-/
import Derived.Test.YtidbokheeieifaaQ12
import Derived.Test.YtidbokheeieifaaQ14
import Derived.Test.YtidbokheeieifaaQ5
import Derived.Maps.OwnSet
import Derived.Maps.OwnIn
namespace Go.Proofs.Ytidbokheeieifaa
open Go.RowKit Go.Maps Go.WideMaps

theorem lawStrM : Keyed Try.prog 9 := string_keyed Try.underlying9
def heldM (v : Value) : Option (DataW Value × List MemPlace) := some (.held v, [])
theorem zeroStrM (W : World) : (zeroValue 9).run Try.prog W = .ok (.string ⟨#[]⟩) W := by kernel_rfl
def firstM (l : List (ByteArray × ByteArray)) (nm : ByteArray) : Option ByteArray := (l.find? (fun x => x.1.toList == nm.toList)).map Prod.snd
theorem env_first (l : List (ByteArray × ByteArray)) (nm : ByteArray) : envOf l nm = (firstM l nm).getD ⟨#[]⟩ := rfl
theorem firstM_cons (nm v n : ByteArray) (l : List (ByteArray × ByteArray)) : firstM ((nm, v) :: l) n = if nm = n then some v else firstM l n := by
  unfold firstM
  rw [List.find?_cons]
  by_cases h : nm = n
  · have : (nm.toList == n.toList) = true := (same_iff _ _).2 h
    simp [h]
  · have : (nm.toList == n.toList) = false := by
      cases hb : (nm.toList == n.toList) with
      | false => rfl
      | true => exact absurd ((same_iff _ _).1 hb) h
    simp only [this, if_neg h]
def TabOkM (l : List (ByteArray × ByteArray)) (D : DataW Value) : Prop :=
  IsMap D ∧ ∀ nm, (firstM l nm = none → has D (.string (key nm)) = false) ∧ ∀ v, firstM l nm = some v → has D (.string (key nm)) = true ∧ ∀ z, D.atKey (.string (key nm)) z = .held (.string v)
theorem TabOkM.nil : TabOkM [] (.map []) := ⟨isMap_empty, fun nm => ⟨fun _ => rfl, fun v h => by cases h⟩⟩
theorem TabOkM.front {l : List (ByteArray × ByteArray)} {D : DataW Value} (h : TabOkM l D) (nm v : ByteArray) : TabOkM ((nm, v) :: l) (D.put (.string (key nm)) (.held (.string v))) := by
  refine ⟨h.1.put _ _, fun n => ?_⟩
  obtain ⟨h1, h2⟩ := h.2 n
  rw [firstM_cons]
  by_cases hn : nm = n
  · subst hn
    simp only [if_true]
    exact ⟨(fun q => by cases q), fun v' hv => by cases hv; exact ⟨has_put_same h.1 (show WideAt.IsKeyLit (.string (key nm)) from trivial) _, fun z => atKey_put_same h.1 (show WideAt.IsKeyLit (.string (key nm)) from trivial) _ z⟩⟩
  · have hne : Lit.string (key n) ≠ .string (key nm) := fun e => hn (key_inj (by injection e with e1; exact e1.symm))
    rw [has_put_other hne]
    have hat := fun z => atKey_put_other (D := D) (d := .held (.string v)) (z := z) hne
    simp only [if_neg hn]
    exact ⟨h1, fun v' hv => ⟨(h2 v' hv).1, fun z => by rw [hat]; exact (h2 v' hv).2 z⟩⟩
/-- Block b is a map of the entries l, the one that was put in last in front. -/
def TabM (b : Nat) (l : List (ByteArray × ByteArray)) (w : World) : Prop := ∃ D, w.ownsMap Try.prog 9 heldM b l.length D ∧ TabOkM l D
theorem TabM.kept {b : Nat} {l : List (ByteArray × ByteArray)} {w w' : World} {row : Option Nat} (h : TabM b l w) (hg : w.grownBy w' row) (hne : some b ≠ row) : TabM b l w' := by
  obtain ⟨D, ho, hk⟩ := h
  exact ⟨D, ho.kept hg hne, hk⟩
theorem TabM.below {b : Nat} {l : List (ByteArray × ByteArray)} {w w' : World} (h : TabM b l w) (hb : Below w.heap.size w w') : TabM b l w' := h.kept (Below.toGrown hb none) (by simp)
theorem TabM.lt {b : Nat} {l : List (ByteArray × ByteArray)} {w : World} (h : TabM b l w) : b < w.heap.size := by obtain ⟨D, ho, _⟩ := h; exact ho.lt
theorem TabM.look {b : Nat} {l : List (ByteArray × ByteArray)} {w : World} (h : TabM b l w) {nm : ByteArray} (hs : nm.size ≤ maxLen) :
    (Instr.lookup 117 (.map (some b)) (.string nm) false).run Try.prog w = .ok (.string (envOf l nm)) w := by
  obtain ⟨D, ho, hk⟩ := h
  have hkey : keyOf Try.prog 9 (.string nm) = some (.string (key nm)) := WideMaps.keyOf_string_mk Try.underlying9 hs
  obtain ⟨v, ps, hrun, hv⟩ := ho.lookup lawStrM Try.underlying117 (zeroStrM w) (zd := .held (.string ⟨#[]⟩)) (zp := []) rfl hkey
  obtain ⟨h1, h2⟩ := hk.2 nm
  rw [hrun, env_first]
  cases e : firstM l nm with
  | none =>
    rw [atKey_of_not_has (h1 e)] at hv
    simp only [heldM, Option.some.injEq, Prod.mk.injEq, DataW.held.injEq] at hv
    rw [hv.1]; rfl
  | some y =>
    rw [(h2 y e).2] at hv
    simp only [heldM, Option.some.injEq, Prod.mk.injEq, DataW.held.injEq] at hv
    rw [hv.1]; rfl
theorem TabM.is {b : Nat} {l : List (ByteArray × ByteArray)} {w : World} (h : TabM b l w) : MapIs (.map (some b)) (envOf l) w := fun _ hb _ hs => (h.below hb).look hs
theorem VsAt.inV {w : World} {u : Value} {vs : List (ByteArray × ByteArray)} (h : VsAt w u vs) (hl : ∀ ad v, w.cell? ad = some v → ad.block < w.heap.size) : NdsInV w.heap.size w u vs := by
  obtain ⟨a, cap, rfl, h⟩ := h
  rcases h with rfl | ⟨b, o, rfl, h⟩
  · exact Or.inl ⟨a, cap, rfl, rfl⟩
  · cases vs with
    | nil => exact Or.inl ⟨_, cap, rfl, rfl⟩
    | cons p vs =>
      have h0 := (h 0 p rfl).1
      exact Or.inr ⟨b, o, cap, rfl, hl _ _ h0, h⟩
end Go.Proofs.Ytidbokheeieifaa
