/-
  impl.table: of several values that are added of one name, the first one counts; impl.substitutionOf, and the method find.
-/
import Derived.Test.YtidbokheeieifaaQ13
import Derived.Test.YtidbokheeieifaaQ16
import Derived.Test.YtidbokheeieifaaQ11
import Derived.Test.YtidbokheeieifaaQ5
import Derived.Maps.OwnSet
namespace Go.Proofs.Ytidbokheeieifaa
open Go.RowKit Go.Maps Go.WideMaps

theorem lawStrT : Keyed Try.prog 9 := string_keyed Try.underlying9
/-- How a value of the table reads: as itself. -/
def heldV (v : Value) : Option (DataW Value × List MemPlace) := some (.held v, [])
abbrev zTv : Value := tv 0 0 ByteArray.empty (.slice none 0 0)
theorem zeroTerm (W : World) : (zeroValue 26).run Try.prog W = .ok zTv W := by kernel_rfl

/-- The value of the first entry of a name. -/
def firstV (l : List (ByteArray × Value)) (nm : ByteArray) : Option Value := (l.find? (fun x => x.1.toList == nm.toList)).map Prod.snd
theorem firstV_snoc_some {l : List (ByteArray × Value)} {nm : ByteArray} {v : Value} (x : ByteArray × Value) (h : firstV l nm = some v) : firstV (l ++ [x]) nm = some v := by
  unfold firstV at *
  rw [List.find?_append]
  cases e : l.find? (fun x => x.1.toList == nm.toList) with
  | none => rw [e] at h; cases h
  | some y => rw [e] at h; simpa using h
theorem firstV_snoc_none {l : List (ByteArray × Value)} {nm : ByteArray} (x : ByteArray × Value) (h : firstV l nm = none) : firstV (l ++ [x]) nm = if x.1 = nm then some x.2 else none := by
  unfold firstV at *
  rw [List.find?_append]
  cases e : l.find? (fun x => x.1.toList == nm.toList) with
  | some y => rw [e] at h; cases h
  | none =>
    by_cases hx : x.1 = nm
    · have : (x.1.toList == nm.toList) = true := (same_iff _ _).2 hx
      simp [hx]
    · have : (x.1.toList == nm.toList) = false := by
        cases hb : (x.1.toList == nm.toList) with
        | false => rfl
        | true => exact absurd ((same_iff _ _).1 hb) hx
      simp [this, hx]

/-- The datum D says which value each name has. -/
def TabOk (l : List (ByteArray × Value)) (D : DataW Value) : Prop :=
  IsMap D ∧ ∀ nm, (firstV l nm = none → has D (.string (key nm)) = false) ∧ ∀ v, firstV l nm = some v → has D (.string (key nm)) = true ∧ ∀ z, D.atKey (.string (key nm)) z = .held v
theorem TabOk.nil : TabOk [] (.map []) := ⟨isMap_empty, fun nm => ⟨fun _ => rfl, fun v h => by cases h⟩⟩
theorem TabOk.known {l : List (ByteArray × Value)} {D : DataW Value} (h : TabOk l D) {nm : ByteArray} (v : Value) (hk : has D (.string (key nm)) = true) : TabOk (l ++ [(nm, v)]) D := by
  refine ⟨h.1, fun n => ?_⟩
  obtain ⟨h1, h2⟩ := h.2 n
  cases e : firstV l n with
  | some y =>
    rw [firstV_snoc_some _ e]
    exact ⟨(fun q => by cases q), fun v hv => by cases hv; exact h2 y e⟩
  | none =>
    rw [firstV_snoc_none _ e]
    by_cases hn : nm = n
    · subst hn
      rw [h1 e] at hk; cases hk
    · simp only [if_neg hn]
      exact ⟨fun _ => h1 e, fun v hv => by cases hv⟩
theorem TabOk.add {l : List (ByteArray × Value)} {D : DataW Value} (h : TabOk l D) {nm : ByteArray} (v : Value) (hk : has D (.string (key nm)) = false) : TabOk (l ++ [(nm, v)]) (D.put (.string (key nm)) (.held v)) := by
  refine ⟨h.1.put _ _, fun n => ?_⟩
  obtain ⟨h1, h2⟩ := h.2 n
  by_cases hn : nm = n
  · subst hn
    have e : firstV l nm = none := by
      cases e : firstV l nm with
      | none => rfl
      | some y => rw [(h2 y e).1] at hk; cases hk
    rw [firstV_snoc_none _ e]
    simp only [if_true]
    exact ⟨(fun q => by cases q), fun v' hv => by cases hv; exact ⟨has_put_same h.1 (show WideAt.IsKeyLit (.string (key nm)) from trivial) _, fun z => atKey_put_same h.1 (show WideAt.IsKeyLit (.string (key nm)) from trivial) _ z⟩⟩
  · have hne : Lit.string (key n) ≠ .string (key nm) := fun e => hn (key_inj (by injection e with e1; exact e1.symm))
    rw [has_put_other hne]
    have hat := fun z => atKey_put_other (D := D) (d := .held v) (z := z) hne
    cases e : firstV l n with
    | some y =>
      rw [firstV_snoc_some _ e]
      exact ⟨(fun q => by cases q), fun v' hv => by cases hv; exact ⟨(h2 y e).1, fun z => by rw [hat]; exact (h2 y e).2 z⟩⟩
    | none =>
      rw [firstV_snoc_none _ e]
      simp only [if_neg hn]
      exact ⟨fun _ => h1 e, fun v hv => by cases hv⟩

/-- Block b is a table of the entries l. -/
def TabAt (b : Nat) (l : List (ByteArray × Value)) (w : World) : Prop := ∃ D, w.ownsMap Try.prog 9 heldV b l.length D ∧ TabOk l D
theorem TabAt.kept {b : Nat} {l : List (ByteArray × Value)} {w w' : World} {row : Option Nat} (h : TabAt b l w) (hg : w.grownBy w' row) (hne : some b ≠ row) : TabAt b l w' := by
  obtain ⟨D, ho, hk⟩ := h
  exact ⟨D, ho.kept hg hne, hk⟩
theorem TabAt.below {b : Nat} {l : List (ByteArray × Value)} {w w' : World} (h : TabAt b l w) (hb : Below w.heap.size w w') : TabAt b l w' := h.kept (Below.toGrown hb none) (by simp)
theorem TabAt.lt {b : Nat} {l : List (ByteArray × Value)} {w : World} (h : TabAt b l w) : b < w.heap.size := by obtain ⟨D, ho, _⟩ := h; exact ho.lt
/-- A look-up. -/
theorem TabAt.look {b : Nat} {l : List (ByteArray × Value)} {w : World} (h : TabAt b l w) {nm : ByteArray} (hs : nm.size ≤ maxLen) :
    (Instr.lookup 134 (.map (some b)) (.string nm) true).run Try.prog w = .ok (.tuple #[(firstV l nm).getD zTv, .bool (firstV l nm).isSome]) w := by
  obtain ⟨D, ho, hk⟩ := h
  have hkey : keyOf Try.prog 9 (.string nm) = some (.string (key nm)) := WideMaps.keyOf_string_mk Try.underlying9 hs
  obtain ⟨v, ps, hrun, hv⟩ := ho.look_ok lawStrT Try.underlying134 (zeroTerm w) (zd := .held zTv) (zp := []) rfl hkey
  obtain ⟨h1, h2⟩ := hk.2 nm
  rw [hrun]
  cases e : firstV l nm with
  | none =>
    rw [atKey_of_not_has (h1 e)] at hv
    simp only [heldV, Option.some.injEq, Prod.mk.injEq, DataW.held.injEq] at hv
    rw [h1 e, hv.1]; rfl
  | some y =>
    rw [(h2 y e).2] at hv
    simp only [heldV, Option.some.injEq, Prod.mk.injEq, DataW.held.injEq] at hv
    rw [(h2 y e).1, hv.1]; rfl

def AddE (b : Nat) (l : List (ByteArray × Value)) (w : World) (e : Ending) (w' : World) : Prop := e = .returned (.tuple #[]) ∧ TabAt b l w' ∧ w.grownBy w' (some b)

set_option maxRecDepth 100000 in
set_option maxHeartbeats 1600000 in
theorem add_any (b : Nat) (l : List (ByteArray × Value)) (nm : ByteArray) (k n : Int) (s : ByteArray) (a : Option Addr) (m c : Nat) (w : World) (ht : TabAt b l w) (hs : nm.size ≤ maxLen) (hl : l.length ≤ 4194304) (hsh : ∀ v, firstV l nm = some v → ∃ k' n' s' a' m' c', v = tv k' n' s' (.slice a' m' c')) :
    Calls Try.prog 134 #[.map (some b), .string nm, tv k n s (.slice a m c)] w (AddE b (l ++ [(nm, tv k n s (.slice a m c))]) w) := by
  have hb1 : Below w.heap.size w (w.alloc (.cells #[.int .i64 k, .int .i64 n, .string s, .slice a m c] 26)) := (Below.refl _ _).alloc (Nat.le_refl _) _
  have hlook := (ht.below hb1).look hs
  cases hf : firstV l nm with
  | some v =>
    obtain ⟨k', n', s', a', m', c', rfl⟩ := hsh v hf
    rw [hf] at hlook
    simp only [Option.getD_some, Option.isSome_some] at hlook
    have HF : Hid (∀ w', Below w.heap.size w w' → AddE b (l ++ [(nm, tv k n s (.slice a m c))]) w (.returned (.tuple #[])) w') := Lib.hid (fun w' hb => by
      obtain ⟨D, ho, hk⟩ := ht.below hb
      refine ⟨rfl, ⟨D, ho.mono (by simp), hk.known _ ((hk.2 nm).2 _ hf).1⟩, Below.toGrown hb _⟩)
    clear ht hsh hb1
    go_enter Try.func134, Try.ntmps134
    go_wp2
    go_end0
    exact HF.out _ (((Below.refl _ _).alloc (Nat.le_refl _) _).alloc (by simp) _)
  | none =>
    rw [hf] at hlook
    simp only [Option.getD_none, Option.isSome_none] at hlook
    have hkey : keyOf Try.prog 9 (.string nm) = some (.string (key nm)) := WideMaps.keyOf_string_mk Try.underlying9 hs
    have HK := Lib.hid hkey; clear hkey
    have hb2 : Below w.heap.size w ((w.alloc (.cells #[.int .i64 k, .int .i64 n, .string s, .slice a m c] 26)).alloc (.cells #[.int .i64 0, .int .i64 0, .string ⟨#[]⟩, .slice none 0 0] 26)) := hb1.alloc (by simp) _
    obtain ⟨D, ho, hk⟩ := ht.below hb2
    have HO := Lib.hid ho
    have HT := Lib.hid (hk.add (tv k n s (.slice a m c)) ((hk.2 nm).1 hf))
    have HB2 := Lib.hid hb2
    have HL := Lib.hid hl
    clear ht hsh hb1 hb2 ho hk hl
    go_enter Try.func134, Try.ntmps134
    go_wp2_with (first
        | (at_mapUpdate; refine wpList_mapUpdate_own _ rfl _ _ _ 134 rfl 9 26 lawStrT Try.underlying134 heldV b l.length D rfl HO.out ?m1 _ _ _ rfl rfl HK.out _ [] rfl ?_))
    case m1 => have := HL.out; unfold maxLen; omega
    intro w1 hown1 hgrow1
    have HF : Hid (AddE b (l ++ [(nm, tv k n s (.slice a m c))]) w (.returned (.tuple #[])) w1) := Lib.hid ⟨rfl, ⟨_, by rw [List.length_append]; exact hown1, HT.out⟩, grown_trans (Below.toGrown HB2.out _) hgrow1⟩
    clear hown1 hgrow1
    go_wp2
    go_end0
    exact HF.out
end Go.Proofs.Ytidbokheeieifaa
