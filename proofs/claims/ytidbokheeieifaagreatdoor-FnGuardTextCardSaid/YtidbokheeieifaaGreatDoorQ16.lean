/-
  impl.table: of several values that are added of one name, the first one counts; impl.substitutionOf, and the method find.
  impl.substitutionOf, and the method find of a substitution; impl.FindBind.
  impl.changeVars: a term with its variables changed, in memory of the call's own, all rows below it owned and apart; what it asks of the function that changes a variable.
  impl.changeVars: the walk.
  The model's terms with changed variables: the rows grow by one changed argument a round. spec.RenameVars.
-/
import Derived.Test.YtidbokheeieifaaGreatDoorQ15
import Derived.Test.YtidbokheeieifaaGreatDoorQ11
import Derived.Test.YtidbokheeieifaaGreatDoorQ12
import Derived.Maps.OwnSet
import Derived.Deep.DeepCutAuto
import Derived.Deep.CutBlock
import Derived.Deep.AppendLies
import Derived.Deep.RegionLawGrows
namespace Go.Proofs.YtidbokheeieifaaGreatDoor
open Go.RowKit Go.Maps Go.WideMaps

theorem lawStrT : Keyed Tryz.prog 9 := string_keyed Tryz.underlying9
/-- How a value of the table reads: as itself. -/
def heldV (v : Value) : Option (DataW Value × List MemPlace) := some (.held v, [])
abbrev zTv : Value := tv 0 0 ByteArray.empty (.slice none 0 0)
theorem zeroTerm (W : World) : (zeroValue 26).run Tryz.prog W = .ok zTv W := by kernel_rfl

/-- The value of the first entry of a name. -/
def firstV (l : List (ByteArray × Value)) (nm : ByteArray) : Option Value := (l.find? (fun x => x.1.toList == nm.toList)).map Prod.snd
theorem firstV_snoc_some {l : List (ByteArray × Value)} {nm : ByteArray} {v : Value} (x : ByteArray × Value) (h : firstV l nm = some v) : firstV (l ++ [x]) nm = some v := by
  unfold firstV at *
  rw [List.find?_append]
  cases e : l.find? (fun x => x.1.toList == nm.toList) with
  | none => rw [e] at h; cases h
  | some y => rw [e] at h; simpa using h
theorem firstV_snoc_none {l : List (ByteArray × Value)} {nm : ByteArray} (x : ByteArray × Value) (h : firstV l nm = none) : firstV (l ++ [x]) nm = if x.1 = nm then some x.2 else none := by
  unfold firstV at *
  rw [List.find?_append]
  cases e : l.find? (fun x => x.1.toList == nm.toList) with
  | some y => rw [e] at h; cases h
  | none =>
    by_cases hx : x.1 = nm
    · have : (x.1.toList == nm.toList) = true := (same_iff _ _).2 hx
      simp [hx]
    · have : (x.1.toList == nm.toList) = false := by
        cases hb : (x.1.toList == nm.toList) with
        | false => rfl
        | true => exact absurd ((same_iff _ _).1 hb) hx
      simp [this, hx]

/-- The datum D says which value each name has. -/
def TabOk (l : List (ByteArray × Value)) (D : DataW Value) : Prop :=
  IsMap D ∧ ∀ nm, (firstV l nm = none → has D (.string (key nm)) = false) ∧ ∀ v, firstV l nm = some v → has D (.string (key nm)) = true ∧ ∀ z, D.atKey (.string (key nm)) z = .held v
theorem TabOk.nil : TabOk [] (.map []) := ⟨isMap_empty, fun nm => ⟨fun _ => rfl, fun v h => by cases h⟩⟩
theorem TabOk.known {l : List (ByteArray × Value)} {D : DataW Value} (h : TabOk l D) {nm : ByteArray} (v : Value) (hk : has D (.string (key nm)) = true) : TabOk (l ++ [(nm, v)]) D := by
  refine ⟨h.1, fun n => ?_⟩
  obtain ⟨h1, h2⟩ := h.2 n
  cases e : firstV l n with
  | some y =>
    rw [firstV_snoc_some _ e]
    exact ⟨(fun q => by cases q), fun v hv => by cases hv; exact h2 y e⟩
  | none =>
    rw [firstV_snoc_none _ e]
    by_cases hn : nm = n
    · subst hn
      rw [h1 e] at hk; cases hk
    · simp only [if_neg hn]
      exact ⟨fun _ => h1 e, fun v hv => by cases hv⟩
theorem TabOk.add {l : List (ByteArray × Value)} {D : DataW Value} (h : TabOk l D) {nm : ByteArray} (v : Value) (hk : has D (.string (key nm)) = false) : TabOk (l ++ [(nm, v)]) (D.put (.string (key nm)) (.held v)) := by
  refine ⟨h.1.put _ _, fun n => ?_⟩
  obtain ⟨h1, h2⟩ := h.2 n
  by_cases hn : nm = n
  · subst hn
    have e : firstV l nm = none := by
      cases e : firstV l nm with
      | none => rfl
      | some y => rw [(h2 y e).1] at hk; cases hk
    rw [firstV_snoc_none _ e]
    simp only [if_true]
    exact ⟨(fun q => by cases q), fun v' hv => by cases hv; exact ⟨has_put_same h.1 (show WideAt.IsKeyLit (.string (key nm)) from trivial) _, fun z => atKey_put_same h.1 (show WideAt.IsKeyLit (.string (key nm)) from trivial) _ z⟩⟩
  · have hne : Lit.string (key n) ≠ .string (key nm) := fun e => hn (key_inj (by injection e with e1; exact e1.symm))
    rw [has_put_other hne]
    have hat := fun z => atKey_put_other (D := D) (d := .held v) (z := z) hne
    cases e : firstV l n with
    | some y =>
      rw [firstV_snoc_some _ e]
      exact ⟨(fun q => by cases q), fun v' hv => by cases hv; exact ⟨(h2 y e).1, fun z => by rw [hat]; exact (h2 y e).2 z⟩⟩
    | none =>
      rw [firstV_snoc_none _ e]
      simp only [if_neg hn]
      exact ⟨fun _ => h1 e, fun v hv => by cases hv⟩

/-- Block b is a table of the entries l. -/
def TabAt (b : Nat) (l : List (ByteArray × Value)) (w : World) : Prop := ∃ D, w.ownsMap Tryz.prog 9 heldV b l.length D ∧ TabOk l D
theorem TabAt.kept {b : Nat} {l : List (ByteArray × Value)} {w w' : World} {row : Option Nat} (h : TabAt b l w) (hg : w.grownBy w' row) (hne : some b ≠ row) : TabAt b l w' := by
  obtain ⟨D, ho, hk⟩ := h
  exact ⟨D, ho.kept hg hne, hk⟩
theorem TabAt.below {b : Nat} {l : List (ByteArray × Value)} {w w' : World} (h : TabAt b l w) (hb : Below w.heap.size w w') : TabAt b l w' := h.kept (Below.toGrown hb none) (by simp)
theorem TabAt.lt {b : Nat} {l : List (ByteArray × Value)} {w : World} (h : TabAt b l w) : b < w.heap.size := by obtain ⟨D, ho, _⟩ := h; exact ho.lt
/-- A look-up. -/
theorem TabAt.look {b : Nat} {l : List (ByteArray × Value)} {w : World} (h : TabAt b l w) {nm : ByteArray} (hs : nm.size ≤ maxLen) :
    (Instr.lookup 55 (.map (some b)) (.string nm) true).run Tryz.prog w = .ok (.tuple #[(firstV l nm).getD zTv, .bool (firstV l nm).isSome]) w := by
  obtain ⟨D, ho, hk⟩ := h
  have hkey : keyOf Tryz.prog 9 (.string nm) = some (.string (key nm)) := WideMaps.keyOf_string_mk Tryz.underlying9 hs
  obtain ⟨v, ps, hrun, hv⟩ := ho.look_ok lawStrT Tryz.underlying55 (zeroTerm w) (zd := .held zTv) (zp := []) rfl hkey
  obtain ⟨h1, h2⟩ := hk.2 nm
  rw [hrun]
  cases e : firstV l nm with
  | none =>
    rw [atKey_of_not_has (h1 e)] at hv
    simp only [heldV, Option.some.injEq, Prod.mk.injEq, DataW.held.injEq] at hv
    rw [h1 e, hv.1]; rfl
  | some y =>
    rw [(h2 y e).2] at hv
    simp only [heldV, Option.some.injEq, Prod.mk.injEq, DataW.held.injEq] at hv
    rw [(h2 y e).1, hv.1]; rfl

def AddE (b : Nat) (l : List (ByteArray × Value)) (w : World) (e : Ending) (w' : World) : Prop := e = .returned (.tuple #[]) ∧ TabAt b l w' ∧ w.grownBy w' (some b)

set_option maxRecDepth 100000 in
set_option maxHeartbeats 1600000 in
theorem add_any (b : Nat) (l : List (ByteArray × Value)) (nm : ByteArray) (k n : Int) (s : ByteArray) (a : Option Addr) (m c : Nat) (w : World) (ht : TabAt b l w) (hs : nm.size ≤ maxLen) (hl : l.length ≤ 4194304) (hsh : ∀ v, firstV l nm = some v → ∃ k' n' s' a' m' c', v = tv k' n' s' (.slice a' m' c')) :
    Calls Tryz.prog 54 #[.map (some b), .string nm, tv k n s (.slice a m c)] w (AddE b (l ++ [(nm, tv k n s (.slice a m c))]) w) := by
  have hb1 : Below w.heap.size w (w.alloc (.cells #[.int .i64 k, .int .i64 n, .string s, .slice a m c] 26)) := (Below.refl _ _).alloc (Nat.le_refl _) _
  have hlook := (ht.below hb1).look hs
  cases hf : firstV l nm with
  | some v =>
    obtain ⟨k', n', s', a', m', c', rfl⟩ := hsh v hf
    rw [hf] at hlook
    simp only [Option.getD_some, Option.isSome_some] at hlook
    have HF : Hid (∀ w', Below w.heap.size w w' → AddE b (l ++ [(nm, tv k n s (.slice a m c))]) w (.returned (.tuple #[])) w') := Lib.hid (fun w' hb => by
      obtain ⟨D, ho, hk⟩ := ht.below hb
      refine ⟨rfl, ⟨D, ho.mono (by simp), hk.known _ ((hk.2 nm).2 _ hf).1⟩, Below.toGrown hb _⟩)
    clear ht hsh hb1
    go_enter Tryz.func54, Tryz.ntmps54
    go_wp2
    go_end0
    exact HF.out _ (((Below.refl _ _).alloc (Nat.le_refl _) _).alloc (by simp) _)
  | none =>
    rw [hf] at hlook
    simp only [Option.getD_none, Option.isSome_none] at hlook
    have hkey : keyOf Tryz.prog 9 (.string nm) = some (.string (key nm)) := WideMaps.keyOf_string_mk Tryz.underlying9 hs
    have HK := Lib.hid hkey; clear hkey
    have hb2 : Below w.heap.size w ((w.alloc (.cells #[.int .i64 k, .int .i64 n, .string s, .slice a m c] 26)).alloc (.cells #[.int .i64 0, .int .i64 0, .string ⟨#[]⟩, .slice none 0 0] 26)) := hb1.alloc (by simp) _
    obtain ⟨D, ho, hk⟩ := ht.below hb2
    have HO := Lib.hid ho
    have HT := Lib.hid (hk.add (tv k n s (.slice a m c)) ((hk.2 nm).1 hf))
    have HB2 := Lib.hid hb2
    have HL := Lib.hid hl
    clear ht hsh hb1 hb2 ho hk hl
    go_enter Tryz.func54, Tryz.ntmps54
    go_wp2_with (first
        | (at_mapUpdate; refine wpList_mapUpdate_own _ rfl _ _ _ 55 rfl 9 26 lawStrT Tryz.underlying55 heldV b l.length D rfl HO.out ?m1 _ _ _ rfl rfl HK.out _ [] rfl ?_))
    case m1 => have := HL.out; unfold maxLen; omega
    intro w1 hown1 hgrow1
    have HF : Hid (AddE b (l ++ [(nm, tv k n s (.slice a m c))]) w (.returned (.tuple #[])) w1) := Lib.hid ⟨rfl, ⟨_, by rw [List.length_append]; exact hown1, HT.out⟩, grown_trans (Below.toGrown HB2.out _) hgrow1⟩
    clear hown1 hgrow1
    go_wp2
    go_end0
    exact HF.out
end Go.Proofs.YtidbokheeieifaaGreatDoor
namespace Go.Proofs.YtidbokheeieifaaGreatDoor
open Go.RowKit Go.Maps Go.WideMaps

theorem rows_of {P : Nat → ByteArray → T → Value → Prop} : ∀ (bs : List (ByteArray × T)) (d : Nat), (∀ i p t, bs[i]? = some (p, t) → ∃ v, P (i + d) p t v) → ∃ l : List (ByteArray × Value), l.length = bs.length ∧ ∀ i p t, bs[i]? = some (p, t) → ∃ v, l[i]? = some (p, v) ∧ P (i + d) p t v
  | [], _, _ => ⟨[], rfl, fun i p t h => by simp at h⟩
  | (p0, t0) :: r, d, h => by
    obtain ⟨v0, h0⟩ := h 0 p0 t0 rfl
    obtain ⟨l, hl, hx⟩ := rows_of r (d + 1) (fun i p t hi => by
      obtain ⟨v, hv⟩ := h (i + 1) p t (by simpa using hi)
      exact ⟨v, by rw [show i + (d + 1) = i + 1 + d by omega]; exact hv⟩)
    refine ⟨(p0, v0) :: l, by simp [hl], fun i p t hi => ?_⟩
    cases i with
    | zero => simp at hi; obtain ⟨rfl, rfl⟩ := hi; exact ⟨v0, rfl, h0⟩
    | succ i =>
      obtain ⟨v, hv, hp⟩ := hx i p t (by simpa using hi)
      exact ⟨v, by simpa using hv, by rw [show i + 1 + d = i + (d + 1) by omega]; exact hp⟩

/-- The entries l are those of the Binds bs. -/
def BsV (w : World) (lo h : Nat) (bs : List (ByteArray × T)) (l : List (ByteArray × Value)) : Prop :=
  l.length = bs.length ∧ ∀ (i : Nat) (p : ByteArray) (t : T), bs[i]? = some (p, t) → ∃ v, l[i]? = some (p, v) ∧ p.size ≤ maxLen ∧ TermAt w lo h v t
theorem BsV.below {w w' : World} {lo h : Nat} {bs : List (ByteArray × T)} {l : List (ByteArray × Value)} (q : BsV w lo h bs l) (hb : Below w.heap.size w w') : BsV w' lo h bs l :=
  ⟨q.1, fun i p t hi => by obtain ⟨v, h1, h2, h3⟩ := q.2 i p t hi; exact ⟨v, h1, h2, h3.below hb⟩⟩
theorem BsV.first {w : World} {lo h : Nat} : ∀ {bs : List (ByteArray × T)} {l : List (ByteArray × Value)}, BsV w lo h bs l → ∀ nm, (findB bs nm = none → firstV l nm = none) ∧ ∀ t, findB bs nm = some t → ∃ v, firstV l nm = some v ∧ TermAt w lo h v t
  | [], l, q, nm => by
    have : l = [] := List.eq_nil_of_length_eq_zero q.1
    subst this
    exact ⟨fun _ => rfl, fun t e => by cases e⟩
  | (p0, t0) :: r, l, q, nm => by
    obtain ⟨v0, h0, _, ht0⟩ := q.2 0 p0 t0 rfl
    cases l with
    | nil => simp at h0
    | cons x l =>
      simp at h0; subst h0
      have qr : BsV w lo h r l := ⟨by have := q.1; simpa using this, fun i p t hi => by
        obtain ⟨v, h1, h2, h3⟩ := q.2 (i + 1) p t (by simpa using hi)
        exact ⟨v, by simpa using h1, h2, h3⟩⟩
      obtain ⟨i1, i2⟩ := qr.first nm
      unfold findB firstV at *
      cases hb : (p0.toList == nm.toList) with
      | true => simp only [List.find?_cons, hb]; exact ⟨fun e => (by cases e), fun t e => by cases e; exact ⟨v0, rfl, ht0⟩⟩
      | false => simp only [List.find?_cons, hb]; exact ⟨i1, i2⟩

/-- A substitution: a table of the Binds, in blocks of the call's own. -/
def SubE (l : List (ByteArray × Value)) (w : World) (e : Ending) (w' : World) : Prop := ∃ b, e = .returned (.agg #[.map (some b)]) ∧ w.heap.size ≤ b ∧ TabAt b l w' ∧ Below w.heap.size w w'

set_option maxRecDepth 100000 in
set_option maxHeartbeats 1600000 in
theorem subOf_any (u : Value) (bs : List (ByteArray × T)) (lo h : Nat) (w : World) (hl : bs.length ≤ 1048576) (hv : BsAt w lo h u bs) :
    ∃ l, BsV w lo h bs l ∧ Calls Tryz.prog 33 #[u] w (SubE l w) := by
  obtain ⟨a, cap, hu, hml, hc⟩ := hv
  obtain ⟨l, hll, hlx⟩ := rows_of (P := fun i p t v => ∃ b o k n s a' m c xs, a = some ⟨b, o, none⟩ ∧ v = tv k n s (.slice a' m c) ∧ t = .node k n s xs ∧ p.size ≤ maxLen ∧ w.cell? ⟨b, o + i * 5, none⟩ = some (.string p) ∧
    w.cell? ⟨b, o + i * 5 + 1, none⟩ = some (.int .i64 k) ∧ w.cell? ⟨b, o + i * 5 + 2, none⟩ = some (.int .i64 n) ∧ w.cell? ⟨b, o + i * 5 + 3, none⟩ = some (.string s) ∧ w.cell? ⟨b, o + i * 5 + 4, none⟩ = some (.slice a' m c) ∧ TermAt w lo h v t) bs 0 (fun i p t hi => by
      rcases hc with rfl | ⟨b, o, rfl, _, hc⟩
      · simp at hi
      · obtain ⟨k, n, s, xs⟩ := t
        obtain ⟨hp, hs, u', c0, c1, c2, c3, c4, hr⟩ := hc i p k n s xs hi
        obtain ⟨a', cap', rfl⟩ := hr.slice
        exact ⟨_, b, o, k, n, s, a', _, cap', xs, rfl, rfl, rfl, hp, c0, c1, c2, c3, c4, ⟨k, n, s, _, xs, rfl, rfl, hs, hr⟩⟩)
  have hbv : BsV w lo h bs l := ⟨hll, fun i p t hi => by
    obtain ⟨v, h1, b, o, k, n, s, a', m, c, xs, _, _, _, hp, _, _, _, _, _, ht⟩ := hlx i p t hi
    exact ⟨v, h1, hp, ht⟩⟩
  refine ⟨l, hbv, ?_⟩
  subst hu
  have HX := Lib.hid hlx
  have HBV := Lib.hid hbv
  clear hlx hc hml hbv
  obtain ⟨n, hn⟩ : ∃ n, n = bs.length := ⟨_, rfl⟩
  rw [← hn] at hl hll ⊢
  have HN := Lib.hid hn; clear hn
  have HLL := Lib.hid hll; clear hll
  have hmm := @run_makeMap Tryz.prog
  obtain ⟨W0, hW0⟩ : ∃ W0, W0 = ((w.alloc (.cells #[.map none] 57)).alloc (.map #[] 0)).alloc (.cells #[.map (some (w.heap.size + 1))] 57) := ⟨_, rfl⟩
  have hs0 : W0.heap.size = w.heap.size + 3 := by rw [hW0]; simp
  have hB0 : Below w.heap.size w W0 := by rw [hW0]; exact (((Below.refl _ _).alloc (Nat.le_refl _) _).alloc (by simp) _).alloc (by simp; omega) _
  have r0 : W0.heap[w.heap.size]? = some (.cells #[.map none] 57 (0, 0)) := by
    rw [hW0, Below.heap_alloc _ _ _ (by simp; omega), Below.heap_alloc _ _ _ (by simp)]; exact heap_new w _ rfl
  have r2 : W0.heap[w.heap.size + 2]? = some (.cells #[.map (some (w.heap.size + 1))] 57 (0, 0)) := by rw [hW0]; exact heap_new _ _ (by simp)
  have ht0 : TabAt (w.heap.size + 1) [] W0 := by
    refine ⟨_, ?_, TabOk.nil⟩
    rw [hW0]
    have h1 := World.ownsMap_made (w.alloc (.cells #[.map none] 57)) Tryz.prog 9 heldV
    have e : (w.alloc (.cells #[.map none] 57)).heap.size = w.heap.size + 1 := by simp
    rw [e] at h1
    exact h1.alloc _
  have HB0 := Lib.hid hB0; have HS0 := Lib.hid hs0; have HR0 := Lib.hid (And.intro r0 r2); have HT0 := Lib.hid ht0
  clear hB0 hs0 r0 r2 ht0
  go_enter Tryz.func33, Tryz.ntmps33
  go_wp2
  rw [← hW0]
  clear hW0
  go_loopw [10] (fun i wr => ∃ k : Nat, k ≤ n ∧ i = .int .i64 k ∧ Hid (TabAt (w.heap.size + 1) (l.take k) wr) ∧ Hid (W0.grownBy wr (some (w.heap.size + 1)))) (fun i _ => n - (intOf i).toNat)
  case atStart => exact ⟨0, Nat.zero_le _, rfl, by simpa using HT0, Lib.hid (Below.toGrown (Below.refl _ _) _)⟩
  case round =>
    obtain ⟨k, hk, rfl, HT, HG⟩ := hrel
    have hz0 := HS0.out
    have q0 : wr.heap[w.heap.size]? = some (.cells #[.map none] 57 (0, 0)) := (HG.out.block _ (by omega) (by simp)).trans HR0.out.1
    have q2 : wr.heap[w.heap.size + 2]? = some (.cells #[.map (some (w.heap.size + 1))] 57 (0, 0)) := (HG.out.block _ (by omega) (by simp)).trans HR0.out.2
    have hbw : Below w.heap.size w wr := HB0.out.grown HG.out (by omega) (fun j hj => by cases hj; omega)
    by_cases hlt : k < n
    · obtain ⟨⟨p, t⟩, hx⟩ : ∃ x, bs[k]? = some x := ⟨_, List.getElem?_eq_getElem (by have := HN.out; omega)⟩
      obtain ⟨v, hlk, b, o, tk', tn, tsn, ua, um, uc, xs, rfl, rfl, rfl, hps, c0, c1, c2, c3, c4, htm⟩ := HX.out k p t hx
      simp only [Nat.add_zero] at c0 c1 c2 c3 c4
      have d0 := cell_on hbw c0
      have d1 := cell_on hbw c1
      have d2 := cell_on hbw c2
      have d3 := cell_on hbw c3
      have d4 := cell_on hbw c4
      have e2 := cell_of_row wr (w.heap.size + 2) 0 _ _ _ q2
      simp at e2
      have hgr1 := (Below.toGrown ((Below.refl wr.heap.size wr).alloc (Nat.le_refl _) (.cells #[.string p, .int .i64 tk', .int .i64 tn, .string tsn, .slice ua um uc] 78)) (some (w.heap.size + 1)))
      have e3 : (wr.alloc (.cells #[.string p, .int .i64 tk', .int .i64 tn, .string tsn, .slice ua um uc] 78)).cell? ⟨w.heap.size + 2, 0, none⟩ = some (.map (some (w.heap.size + 1))) := cell_on ((Below.refl _ _).alloc (Nat.le_refl _) _) e2
      have HCALL := Lib.hid (add_any (w.heap.size + 1) (l.take k) p tk' tn tsn ua um uc (wr.alloc (.cells #[.string p, .int .i64 tk', .int .i64 tn, .string tsn, .slice ua um uc] 78)) (HT.out.below ((Below.refl _ _).alloc (Nat.le_refl _) _)) hps (by rw [List.length_take]; omega) (fun v hv => by
        unfold firstV at hv
        obtain ⟨y, hy, rfl⟩ := Option.map_eq_some_iff.1 hv
        obtain ⟨j, hj⟩ := List.mem_iff_getElem?.1 (List.mem_of_find?_eq_some hy)
        have hjk : j < k := by have := (List.getElem?_eq_some_iff.1 hj).1; rw [List.length_take] at this; omega
        rw [List.getElem?_take_of_lt hjk] at hj
        obtain ⟨⟨p', t'⟩, hx'⟩ : ∃ x, bs[j]? = some x := ⟨_, List.getElem?_eq_getElem (by have := HN.out; omega)⟩
        obtain ⟨v', hl', _, _, k1, n1, s1, a1, m1, c1', _, _, rfl, _⟩ := HX.out j p' t' hx'
        rw [hj] at hl'
        cases hl'
        exact ⟨k1, n1, s1, a1, m1, c1', rfl⟩))
      have HGR := Lib.hid hgr1
      have HTK : Hid (l.take (k + 1) = l.take k ++ [(p, tv tk' tn tsn (.slice ua um uc))]) := Lib.hid (by rw [tk l k _ hlk])
      clear c0 c1 c2 c3 c4 hgr1 hps htm hx hlk q0 q2 hbw
      go_wp2_with fail
      refine HCALL.out.mono ?_
      rintro e w2 ⟨rfl, hta, hg2⟩
      have HT2 : Hid (TabAt (w.heap.size + 1) (l.take (k + 1)) w2) := Lib.hid (by rw [HTK.out]; exact hta)
      have HG2 := Lib.hid (grown_trans HG.out (grown_trans HGR.out hg2))
      clear hta hg2 d0 d1 d2 d3 d4 e2 e3
      go_wp2
      go_roundw
      case rel => exact ⟨k + 1, by omega, by go_num, HT2, HG2⟩
      case measure => simp [intOf]; omega
    · have hkn : k = n := by omega
      have HD : Hid (l.take k = l) := Lib.hid (List.take_of_length_le (by have := HLL.out; omega))
      have z0 := cell_of_row wr w.heap.size 0 _ _ _ q0
      have f0 := frozen_of_row wr w.heap.size 0 _ _ q0
      have e2 := cell_of_row wr (w.heap.size + 2) 0 _ _ _ q2
      simp at z0 e2
      have HF : Hid (∀ v0, SubE l w (.returned (.agg #[.map (some (w.heap.size + 1))])) (wr.setCell ⟨w.heap.size, 0, none⟩ v0)) := Lib.hid (fun v0 => by
        refine ⟨_, rfl, Nat.le_succ _, ?_, hbw.setCell (Nat.le_refl _) _⟩
        have h1 := HT.out
        rw [HD.out] at h1
        exact h1.kept (set_grown wr w.heap.size 0 v0) (by simp))
      clear q0 q2 hbw hkn hz0
      go_wp2
      (try simp only [Exit.inBlock, Exit.then])
      refine bodyPost_ret (v := .agg #[.map (some (w.heap.size + 1))]) ?hr rfl ?_
      case hr =>
        rw [results_cell (a := 2) (t := 57) (ad := ⟨w.heap.size, 0, none⟩) rfl rfl]
        go_simp
      exact HF.out _

/-- An answer that is a term of a depth of at most h, in rows of the call's own, and a word. -/
def ResOH (h : Nat) (ok : Bool) (r : T) (w : World) (e : Ending) (w' : World) : Prop :=
  ∃ k n s a m c xs, e = .returned (.tuple #[tv k n s (.slice a m c), .bool ok]) ∧ r = .node k n s xs ∧ s.size ≤ maxLen ∧ OwnR (fun _ => True) w' h w.heap.size w'.heap.size (.slice a m c) xs ∧ Below w.heap.size w w'

set_option maxRecDepth 100000 in
set_option maxHeartbeats 1600000 in
theorem find_anyK (b : Nat) (nm : ByteArray) (bs : List (ByteArray × T)) (l : List (ByteArray × Value)) (lo h : Nat) (w : World) (ht : TabAt b l w) (hb : BsV w lo h bs l) (hs : nm.size ≤ maxLen) (hw : wBs bs ≤ 1048577) :
    Calls Tryz.prog 57 #[.agg #[.map (some b)], .string nm] w (ResOH h (findB bs nm).isSome ((findB bs nm).getD zT) w) := by
  obtain ⟨W1, hW1⟩ : ∃ W1, W1 = (w.alloc (.cells #[.map (some b)] 57)).alloc (.cells #[.int .i64 0, .int .i64 0, .string ⟨#[]⟩, .slice none 0 0] 26) := ⟨_, rfl⟩
  have hB1 : Below w.heap.size w W1 := by rw [hW1]; exact ((Below.refl _ _).alloc (Nat.le_refl _) _).alloc (by simp) _
  have hs1 : W1.heap.size = w.heap.size + 2 := by rw [hW1]; simp
  have r1 : W1.heap[w.heap.size + 1]? = some (trow 0 0 ByteArray.empty (.slice none 0 0)) := by rw [hW1]; exact heap_new _ _ (by simp)
  obtain ⟨ok, hok⟩ : ∃ ok, ok = (firstV l nm).isSome := ⟨_, rfl⟩
  have hlook := (ht.below hB1).look hs
  rw [← hok] at hlook
  obtain ⟨r, hr⟩ : ∃ r, r = (findB bs nm).getD zT := ⟨_, rfl⟩
  obtain ⟨k, n, s, a, m, c, hv, htm, hse, hwr⟩ : ∃ k n s a m c, (firstV l nm).getD zTv = tv k n s (.slice a m c) ∧ TermAt w 0 h (tv k n s (.slice a m c)) r ∧ (findB bs nm).isSome = ok ∧ wT r ≤ 4194303 := by
    obtain ⟨f1, f2⟩ := hb.first nm
    rw [hok, hr]
    cases e : findB bs nm with
    | none =>
      rw [f1 e]
      refine ⟨_, _, _, _, _, _, rfl, ⟨_, _, _, _, [], rfl, rfl, by simp [maxLen], ArgsAt.nil _ _ _ _ _⟩, rfl, ?_⟩
      show wT zT ≤ _
      rw [wT_node]; simp [wS]
    | some t =>
      obtain ⟨v, e2, hvt⟩ := f2 t e
      rw [e2]
      obtain ⟨k, n, s, a, m, c, rfl⟩ := hvt.shape
      refine ⟨k, n, s, a, m, c, rfl, hvt.low (Nat.zero_le _), rfl, ?_⟩
      have := findB_w e
      show wT t ≤ _
      omega
  rw [hv] at hlook
  obtain ⟨W2, hW2⟩ : ∃ W2, W2 = W1.alloc (.cells #[.int .i64 k, .int .i64 n, .string s, .slice a m c] 26) := ⟨_, rfl⟩
  have hB2 : Below W1.heap.size W1 W2 := by rw [hW2]; exact (Below.refl _ _).alloc (Nat.le_refl _) _
  have hBB := hB1.trans (hB2.mono hB1.size)
  have HC := Lib.hid (copyI_any _ _ 0 h W2 (htm.below hBB) hwr)
  have HBB := Lib.hid hBB
  have HR1 : Hid (W2.heap[w.heap.size + 1]? = some (trow 0 0 ByteArray.empty (.slice none 0 0)) ∧ w.heap.size + 2 ≤ W2.heap.size) := Lib.hid ⟨(hB2.block _ (by omega)).trans r1, by have := hB2.size; omega⟩
  rw [← hr, hse]
  clear ht hb htm hB1 hs1 r1 hB2 hBB hwr hv hr hok hse
  rw [hW1] at hlook hW2
  go_enter Tryz.func57, Tryz.ntmps57
  go_wp2_with fail
  rw [← hW2]
  clear hW2 hlook hW1
  refine HC.out.mono ?_
  rintro e w5 ⟨k5, n5, s5, u5, xs5, rfl, e5, hs5, ho5, hb5⟩
  obtain ⟨a5, c5, rfl⟩ := ho5.slice
  obtain ⟨m5, hm5⟩ : ∃ m, m = xs5.length := ⟨_, rfl⟩
  rw [← hm5] at ho5 ⊢
  have q1 : w5.heap[w.heap.size + 1]? = some (trow 0 0 ByteArray.empty (.slice none 0 0)) := (hb5.block _ (by have := HR1.out.2; omega)).trans HR1.out.1
  obtain ⟨⟨y0, y1, y2, y3⟩, f0, f1, f2, f3⟩ := cells_of4 q1
  have HF : Hid (∀ v0 v1 v2 v3, ResOH h ok r w (.returned (.tuple #[tv k5 n5 s5 (.slice a5 m5 c5), .bool ok])) ((((w5.setCell ⟨w.heap.size + 1, 0, none⟩ v0).setCell ⟨w.heap.size + 1, 1, none⟩ v1).setCell ⟨w.heap.size + 1, 2, none⟩ v2).setCell ⟨w.heap.size + 1, 3, none⟩ v3)) := Lib.hid (fun v0 v1 v2 v3 => by
    have hb := HBB.out.trans (hb5.mono HBB.out.size)
    have st : ∀ (W : World) (j : Nat) (v : Value), OwnR (fun _ => True) W h W2.heap.size w5.heap.size (.slice a5 m5 c5) xs5 → OwnR (fun _ => True) (W.setCell ⟨w.heap.size + 1, j, none⟩ v) h W2.heap.size w5.heap.size (.slice a5 m5 c5) xs5 := fun W j v o =>
      o.keep fun b' _ h1 _ => ⟨Below.heap_setCell _ _ _ _ (fun e => by simp at e; have := HR1.out.2; omega), trivial⟩
    exact ⟨k5, n5, s5, a5, m5, c5, xs5, rfl, e5, hs5, (st _ _ _ (st _ _ _ (st _ _ _ (st _ _ _ ho5)))).wide (by have := HR1.out.2; omega) (by simp [World.setCell]), (((hb.setCell (Nat.le_succ _) _).setCell (Nat.le_succ _) _).setCell (Nat.le_succ _) _).setCell (Nat.le_succ _) _⟩)
  clear q1 ho5 hb5 hm5 hs5
  go_wp2
  (try simp only [Exit.inBlock, Exit.then])
  refine bodyPost_ret (v := .tuple #[tv k5 n5 s5 (.slice a5 m5 c5), .bool ok]) ?_ rfl ?_
  · refine results_ct (a := 4) (b := 5) (t := 26) (ad := ⟨w.heap.size + 1, 0, none⟩) rfl rfl _ _ ?_
    go_simp
  · exact HF.out _ _ _ _
theorem find_anyH (b : Nat) (nm : ByteArray) (bs : List (ByteArray × T)) (l : List (ByteArray × Value)) (lo h : Nat) (w : World) (ht : TabAt b l w) (hb : BsV w lo h bs l) (hs : nm.size ≤ maxLen) (hw : wBs bs ≤ 1048576) :
    Calls Tryz.prog 57 #[.agg #[.map (some b)], .string nm] w (ResOH h (findB bs nm).isSome ((findB bs nm).getD zT) w) := find_anyK b nm bs l lo h w ht hb hs (by omega)
theorem find_any (b : Nat) (nm : ByteArray) (bs : List (ByteArray × T)) (l : List (ByteArray × Value)) (lo h : Nat) (w : World) (ht : TabAt b l w) (hb : BsV w lo h bs l) (hs : nm.size ≤ maxLen) (hw : wBs bs ≤ 1048576) :
    Calls Tryz.prog 57 #[.agg #[.map (some b)], .string nm] w (ResO (findB bs nm).isSome ((findB bs nm).getD zT) w) :=
  (find_anyH b nm bs l lo h w ht hb hs hw).mono fun _ _ ⟨k, n, s, a, m, c, xs, q⟩ => ⟨k, n, s, a, m, c, h, xs, q⟩
end Go.Proofs.YtidbokheeieifaaGreatDoor
namespace Go.Proofs.YtidbokheeieifaaGreatDoor
open Go.RowKit

abbrev pQ (p : Pv) : Value := .pointer (some ⟨p.b, p.o, none⟩)
def todoM (ps : List Pv) : Nat := (ps.map fun p => 1 + cS p.xs).sum
theorem todoM_cons (p : Pv) (ps : List Pv) : todoM (p :: ps) = 1 + cS p.xs + todoM ps := by simp [todoM]
theorem todoM_app (ps qs : List Pv) : todoM (ps ++ qs) = todoM ps + todoM qs := by simp [todoM]
theorem todoM_len (ps : List Pv) : ps.length ≤ todoM ps := by
  induction ps with
  | nil => simp [todoM]
  | cons p ps ih => rw [todoM_cons, List.length_cons]; omega
def hdV (vs : List Value) (xs : List T) (i : Nat) : Hd := match xs[i]? with
  | some (.node k n s txs) => ⟨k, n, s, (vs[i * 4 + 3]?).getD undef, txs⟩
  | none => ⟨0, 0, ⟨#[]⟩, undef, []⟩
theorem hdV_at {vs : List Value} {xs : List T} {i : Nat} {k n : Int} {s : ByteArray} {txs : List T} (h : xs[i]? = some (.node k n s txs)) : hdV vs xs i = ⟨k, n, s, (vs[i * 4 + 3]?).getD undef, txs⟩ := by simp [hdV, h]
theorem todoM_kids (g h : Nat) (vs : List Value) (xs : List T) (j : Nat) (hj : j ≤ xs.length) : todoM (kidsM g h (hdV vs xs) j) = cS (xs.take j) := by
  induction j with
  | zero => simp [kidsM, todoM, cS]
  | succ j ih =>
    obtain ⟨t, ht⟩ : ∃ t, xs[j]? = some t := ⟨_, List.getElem?_eq_getElem (by omega)⟩
    obtain ⟨k, n, s, txs⟩ := t
    rw [kidsM, todoM_cons, ih (by omega), tk xs j _ ht, cS_snoc, cT_node]
    simp only [kidM, hdV_at ht]; omega
theorem kidsM_rev (g h : Nat) (U : Nat → Hd) (q : Nat) (ps : List Pv) : ((kidsM g h U (q + 1) ++ ps).reverse.map pQ) = ((kidsM g h U q ++ ps).reverse.map pQ) ++ [.pointer (some ⟨g, q * 4, none⟩)] := by
  simp [kidsM, kidM]
theorem kidsM_len (g h : Nat) (U : Nat → Hd) (q : Nat) : (kidsM g h U q).length = q := by
  induction q with
  | zero => rfl
  | succ q ih => rw [kidsM, List.length_cons, ih]

/-- The node's arguments were copied, and all of them are put behind what is still to do. -/
theorem goodM_push {f : T → T} {D : Nat} {w0 : World} {Pb : Nat → Prop} {Fin : World → Prop} {ps : List Pv} {p : Pv} {v v1 vi : Value} {w w1 wc wi : World} {a : Option Addr} {m c g : Nat} {vs : List Value} {S : ByteArray}
    (cont : ∀ v' w', DoneM f D p v w v' w' → GoodM f D w0 Pb Fin ps v' w') (hn : NodeC w p.b p.o p.k p.n p.s p.u) (hp : p.b < w.heap.size) (hpo : NotOwn v p.b) (hl : p.xs.length ≤ maxLen) (hm : m = p.xs.length) (hv1 : v1.ownBlock = v.ownBlock) (hvl : ∀ k, v.ownBlock = some k → k < w.heap.size)
    (hw1s : w.heap.size ≤ w1.heap.size) (hw1k : ∀ b, b < w.heap.size → b ≠ p.b → w1.heap[b]? = w.heap[b]?) (hw1c : w1.heap[p.b]? = (w.setCell ⟨p.b, p.o + 2, none⟩ (.string S)).heap[p.b]?) (hS : S.size ≤ maxLen) (hf : f (.node p.k p.n p.s p.xs) = .node p.k p.n S (p.xs.map f)) (hwt : wT (.node p.k p.n p.s p.xs) ≤ 4194303)
    (hb : Below w1.heap.size w1 wc) (ho : wc.ownsRow w1.heap.size 26 4 (.slice a m c) m vs) (hg : m = 0 ∨ a = some ⟨g, 0, none⟩) (hPg : ∀ b, w.heap.size ≤ b → Pb b)
    (hr : RowV w0 (p.h - 1) p.xs vs) (hh : p.h = 0 → p.xs = []) (hG : Grew v1 (wc.setCell ⟨p.b, p.o + 3, none⟩ (.slice a m c)) vi wi) :
    GoodM f D w0 Pb Fin (kidsM g (p.h - 1) (hdV vs p.xs) m ++ ps) vi wi := by
  obtain ⟨s1, k1, o1⟩ := hG
  have hz : (wc.setCell ⟨p.b, p.o + 3, none⟩ (.slice a m c)).heap.size = wc.heap.size := by simp [World.setCell]
  rw [hz] at s1 k1 o1
  have hws := hb.size
  rw [hv1] at o1
  have hn1 : ∀ b, NotOwn v b → NotOwn v1 b := fun b h => by unfold NotOwn at *; rw [hv1]; exact h
  have hnv : ∀ b, w.heap.size ≤ b → NotOwn v b := fun b h e => by have := hvl b e.symm; omega
  have size : w.heap.size ≤ wi.heap.size := by omega
  have keep : ∀ b, b < w.heap.size → b ≠ p.b → NotOwn v b → wi.heap[b]? = w.heap[b]? := fun b h1 h2 h3 =>
    (k1 b (by omega) (hn1 b h3)).trans ((Below.heap_setCell _ _ _ _ (fun e => h2 (by simpa using e))).trans ((hb.block b (by omega)).trans (hw1k b h1 h2)))
  have cell : wi.heap[p.b]? = (cellsQ w p.b p.o p.k p.n S (.slice a m c)).heap[p.b]? := by
    rw [cellsQ_head hn.c0 hn.c1]
    exact (k1 p.b (by omega) (hn1 _ hpo)).trans (setCell_heap' ((hb.block p.b (by omega)).trans hw1c))
  have ob : vi.ownBlock = v.ownBlock ∨ ∃ k, vi.ownBlock = some k ∧ w.heap.size ≤ k := by
    rcases o1 with o1 | ⟨k, e, hk⟩
    · exact Or.inl o1
    · exact Or.inr ⟨k, e, by omega⟩
  by_cases h0 : m = 0
  · have hx : p.xs = [] := List.eq_nil_of_length_eq_zero (by omega)
    subst h0
    refine cont vi wi ⟨size, keep, ob, _, _, _, _, _, hf, hS, cell, ?_⟩
    rw [hx]
    exact OwnR.nil _ _ _ _ _ _ _
  · have ha : a = some ⟨g, 0, none⟩ := hg.resolve_left h0
    subst ha
    have hlt := ho.lt g rfl
    obtain ⟨h', hh'⟩ : ∃ h', p.h = h' + 1 := ⟨p.h - 1, by
      have : p.h ≠ 0 := fun e => h0 (by rw [hm, hh e]; rfl)
      omega⟩
    rw [show p.h - 1 = h' by omega] at hr ⊢
    refine GoodM.kids (cap := c) cont (by omega) (hPg g (by omega)) hp hpo hl hh' hS hf hwt (fun i k n s txs hi => ?_) m vi wi (by omega) ⟨size, keep, by rw [← hm]; exact cell, ob, by omega, notOwn_old (n := wc.heap.size) o1 hlt.2 (hnv g (by omega)), ?_⟩
    · obtain ⟨_, a', m', cap', _, _, _, x3, ha⟩ := hr.at i k n s txs hi
      rw [hdV_at hi]
      simp only [x3, Option.getD_some]
      exact ⟨trivial, trivial, trivial, trivial, ha⟩
    · have hrow1 : (wc.setCell ⟨p.b, p.o + 3, none⟩ (.slice (some ⟨g, 0, none⟩) m c)).ownsRow w1.heap.size 26 4 (.slice (some ⟨g, 0, none⟩) m c) m vs := row_keep ho (Below.heap_setCell _ _ _ _ (fun e => by simp at e; omega))
      have hrow2 := row_keep hrow1 (w' := wi) (k1 g hlt.2 (hn1 _ (hnv g (by omega))))
      have hrow3 : wi.ownsRow g 26 4 (.slice (some ⟨g, 0, none⟩) m c) m vs := by
        refine ⟨hrow2.1, ?_⟩
        rcases hrow2.2 with ⟨e, _⟩ | ⟨g', cap', cur, e, _, rest⟩
        · cases e
        · cases e
          exact Or.inr ⟨g, c, cur, rfl, Nat.le_refl _, rest⟩
      refine ⟨vs, fun _ => undef, fun _ => 0, fun _ => 0, by rw [← hm]; exact hrow3, fun i hi hil => ?_, fun i t hle hi => ?_, fun i i' h1 h2 h3 => by omega⟩
      · obtain ⟨t, ht⟩ : ∃ t, p.xs[i]? = some t := ⟨_, List.getElem?_eq_getElem (by omega)⟩
        obtain ⟨k, n, s, txs⟩ := t
        obtain ⟨hs, a', m', cap', x0, x1, x2, x3, _⟩ := hr.at i k n s txs ht
        rw [hdV_at ht]
        exact ⟨x0, x1, x2, by simp [x3]⟩
      · have hil := (List.getElem?_eq_some_iff.1 hi).1
        omega

/-- What the function that changes a variable does to a node. -/
def CbE (F : ByteArray → Option T) (R : ByteArray → ByteArray) (D : Nat) (w0 : World) (b o : Nat) (s : ByteArray) (W : World) (e : Ending) (w' : World) : Prop :=
  ∃ B, e = .returned (.bool B) ∧ Below w0.heap.size w0 w' ∧ W.heap.size ≤ w'.heap.size ∧ (∀ j, j < W.heap.size → j ≠ b → w'.heap[j]? = W.heap[j]?) ∧
  (B = true → ∃ k' n' s' u' xs', F s = some (.node k' n' s' xs') ∧ s'.size ≤ maxLen ∧ w'.heap[b]? = (cellsQ W b o k' n' s' u').heap[b]? ∧ OwnR (fun _ => True) w' D W.heap.size w'.heap.size u' xs') ∧
  (B = false → F s = none ∧ (R s).size ≤ maxLen ∧ w'.heap[b]? = (W.setCell ⟨b, o + 2, none⟩ (.string (R s))).heap[b]?)
def CbOk (fid : FuncId) (cv : Value) (F : ByteArray → Option T) (R : ByteArray → ByteArray) (D : Nat) (w0 : World) : Prop :=
  ∀ (b o : Nat) (n : Int) (s : ByteArray) (u : Value) (W : World), Below w0.heap.size w0 W → w0.heap.size ≤ b → b < W.heap.size → NodeC W b o 1 n s u → s.size ≤ 4194303 →
    Calls Tryz.prog fid #[.pointer (some ⟨b, o, none⟩), cv] W (CbE F R D w0 b o s W)

/-- What the box of the term holds at the end. -/
def FinM (f : T → T) (D : Nat) (w : World) (t : T) (h : Nat) (w' : World) : Prop :=
  ∃ k n s u xs, f t = .node k n s xs ∧ s.size ≤ maxLen ∧ w'.heap[w.heap.size]? = some (trow k n s u) ∧ OwnR (fun _ => True) w' (h + D) (w.heap.size + 2) w'.heap.size u xs
theorem startM (f : T → T) (D : Nat) (w : World) (k n : Int) (s : ByteArray) (a : Option Addr) (cap h : Nat) (xs : List T) (hw : wT (.node k n s xs) ≤ 4194303) (ha : ArgsAt w 0 h (.slice a xs.length cap) xs) :
    GoodM f D w (PbC w) (FinM f D w (.node k n s xs) h) [⟨w.heap.size, 0, h, k, n, s, .slice a xs.length cap, xs⟩] (.slice (some ⟨w.heap.size + 2, 0, none⟩) 1 1) (boxC w k n s (.slice a xs.length cap)) := by
  have r0 : (boxC w k n s (.slice a xs.length cap)).heap[w.heap.size]? = some (trow k n s (.slice a xs.length cap)) := by
    rw [Below.heap_alloc _ _ _ (by simp; omega), Below.heap_alloc _ _ _ (by simp)]; exact heap_new w _ rfl
  obtain ⟨⟨c0, c1, c2, c3⟩, f0, f1, f2, f3⟩ := cells_of4 r0
  refine ⟨⟨⟨c0, c1, c2, c3, f0, f1, f2, f3⟩, hw, Or.inl rfl, by simp; omega, fun e => ?_, ha⟩, fun v' w' d => ?_⟩
  · simp [Value.ownBlock] at e
  · obtain ⟨k', n', s', u', xs', ef, hs', hc, ho⟩ := d.res
    refine ⟨k', n', s', u', xs', ef, hs', ?_, (ho.wide (by simp) (Nat.le_refl _)).keep (fun b _ _ _ => ⟨rfl, trivial⟩)⟩
    have h1 := heap_set_at r0 0 (.int .i64 k')
    have h2 := heap_set_at h1 1 (.int .i64 n')
    have h3 := heap_set_at h2 2 (.string s')
    have h4 := heap_set_at h3 3 u'
    exact hc.trans h4
end Go.Proofs.YtidbokheeieifaaGreatDoor
namespace Go.Proofs.YtidbokheeieifaaGreatDoor
open Go.RowKit

/-- The node has been looked at: it was changed whole, or its name alone. -/
def LookE (F : ByteArray → Option T) (R : ByteArray → ByteArray) (D : Nat) (w0 : World) (p : Pv) (W : World) (B : Bool) (w' : World) : Prop :=
  Below w0.heap.size w0 w' ∧ W.heap.size ≤ w'.heap.size ∧ (∀ j, j < W.heap.size → j ≠ p.b → w'.heap[j]? = W.heap[j]?) ∧
  (B = true → ∃ k' n' s' u' xs', mapT F R (.node p.k p.n p.s p.xs) = .node k' n' s' xs' ∧ s'.size ≤ maxLen ∧ w'.heap[p.b]? = (cellsQ W p.b p.o k' n' s' u').heap[p.b]? ∧ OwnR (fun _ => True) w' D W.heap.size w'.heap.size u' xs') ∧
  (B = false → ∃ S, mapT F R (.node p.k p.n p.s p.xs) = .node p.k p.n S (p.xs.map (mapT F R)) ∧ S.size ≤ maxLen ∧ w'.heap[p.b]? = (W.setCell ⟨p.b, p.o + 2, none⟩ (.string S)).heap[p.b]?)
theorem LookE.done {F : ByteArray → Option T} {R : ByteArray → ByteArray} {D : Nat} {w0 : World} {p : Pv} {v v' : Value} {W w' : World} (h : LookE F R D w0 p W true w') (hv : v'.ownBlock = v.ownBlock) (hvl : ∀ k, v.ownBlock = some k → k < W.heap.size) : DoneM (mapT F R) D p v W v' w' := by
  obtain ⟨_, hz, hk, h1, _⟩ := h
  obtain ⟨k', n', s', u', xs', e, hs, hc, ho⟩ := h1 rfl
  refine ⟨hz, fun b hb hne _ => hk b hb hne, Or.inl hv, k', n', s', u', xs', e, hs, hc, (ho.le (Nat.le_add_left _ _)).keep fun b _ h1 _ => ⟨rfl, fun e => ?_⟩⟩
  rw [hv] at e
  have := hvl b e.symm
  omega

set_option maxRecDepth 100000 in
set_option maxHeartbeats 3200000 in
theorem chg_any (fid : FuncId) (cv : Value) (F : ByteArray → Option T) (R : ByteArray → ByteArray) (D : Nat) (v : Value) (t : T) (lo h : Nat) (w : World) (hcf : ∀ (args : Array Value) (W : World), (callFunc fid args).run Tryz.prog W = .ok (.enter fid args) W) (hcb : CbOk fid cv F R D w) (ht : TermAt w lo h v t) (hw : wT t ≤ 4194303) :
    Calls Tryz.prog 55 #[v, .func (.func fid) #[] #[cv]] w (CopyR (h + D) (mapT F R t) w) := by
  obtain ⟨k, n, s, u, xs, rfl, rfl, hs, ha⟩ := ht
  obtain ⟨a, cap, rfl⟩ := ha.slice
  obtain ⟨i0, hi, hz0, hz1, hz2⟩ := info_parts infoPtr
  have HI := Lib.hid hi; clear hi
  have HZ0 := Lib.hid hz0; clear hz0
  have HZ1 := Lib.hid hz1; clear hz1
  have HZ2 := Lib.hid hz2; clear hz2
  have HS := Lib.hid hs
  have HCB := Lib.hid hcb; clear hcb
  have HG0 := Lib.hid (startM (mapT F R) D w k n s a cap h xs hw (ha.low (Nat.zero_le _)))
  obtain ⟨m0, hm0⟩ : ∃ m, m = xs.length := ⟨_, rfl⟩
  rw [← hm0] at HG0 ⊢
  obtain ⟨W0, hW0⟩ : ∃ W0, W0 = boxC w k n s (.slice a m0 cap) := ⟨_, rfl⟩
  have hB0 : Below w.heap.size w W0 := by rw [hW0]; exact ((boxed_below w k n s _).alloc (by simp) _).alloc (by simp; omega) _
  have hs0 : W0.heap.size = w.heap.size + 3 := by rw [hW0]; simp
  have r1 : W0.heap[w.heap.size + 1]? = some (trow 0 0 ByteArray.empty (.slice none 0 0)) := by
    rw [hW0, Below.heap_alloc _ _ _ (by simp)]; exact heap_new _ _ (by simp)
  have ho0 : W0.ownsRow (w.heap.size + 2) 81 1 (.slice (some ⟨w.heap.size + 2, 0, none⟩) 1 1) 1 [.pointer (some ⟨w.heap.size, 0, none⟩)] := by
    rw [hW0]
    have e : ((boxed w k n s (.slice a m0 cap)).alloc (.cells #[.int .i64 0, .int .i64 0, .string ⟨#[]⟩, .slice none 0 0] 26)).heap.size = w.heap.size + 2 := by simp
    have := World.ownsRow_lit (base := w.heap.size + 2) (size := 1) (e := 81) ((boxed w k n s (.slice a m0 cap)).alloc (.cells #[.int .i64 0, .int .i64 0, .string ⟨#[]⟩, .slice none 0 0] 26)) #[.pointer (some ⟨w.heap.size, 0, none⟩)] 1 (by rw [e]; omega) (by decide) rfl
    rw [e] at this
    exact this
  have HB0 := Lib.hid hB0; clear hB0
  have HS0 := Lib.hid hs0; clear hs0
  have HR1 := Lib.hid r1; clear r1
  have HO0 := Lib.hid ho0; clear ho0
  have HT0 : Hid (1 + cS xs ≤ 4194304 ∧ todoM [⟨w.heap.size, 0, h, k, n, s, .slice a m0 cap, xs⟩] = 1 + cS xs) := Lib.hid ⟨by have h1 := cT_le (.node k n s xs); rw [cT_node] at h1; omega, by simp [todoM]⟩
  have HM0 := Lib.hid hm0; clear hm0 ha hw hs
  rw [← hW0] at HG0
  unfold boxC boxed at hW0
  go_enter Tryz.func55, Tryz.ntmps55
  go_wp2
  rw [← hW0]
  clear hW0
  go_loopg [5] (1 + cS xs) (fun g v wr => ∃ ps : List Pv, g = todoM ps ∧ Hid (todoM ps ≤ 4194304) ∧ Hid (wr.ownsRow (w.heap.size + 2) 81 1 v ps.length (ps.reverse.map pQ)) ∧ Hid (GoodM (mapT F R) D w (PbC w) (FinM (mapT F R) D w (.node k n s xs) h) ps v wr) ∧
    Hid (wr.heap[w.heap.size + 1]? = some (trow 0 0 ByteArray.empty (.slice none 0 0)) ∧ w.heap.size + 3 ≤ wr.heap.size) ∧ Hid (Below w.heap.size w wr))
  case atStart => exact ⟨_, HT0.out.2.symm, Lib.hid (by rw [HT0.out.2]; exact HT0.out.1), HO0, HG0, Lib.hid ⟨HR1.out, by rw [HS0.out]; exact Nat.le_refl _⟩, HB0⟩
  case round =>
    clear HG0 HO0 HR1 HB0 HS0
    obtain ⟨ps, hg, HT, HO, HG, HR, HB⟩ := hrel
    have HGH := Lib.hid hg; clear hg
    cases ps with
    | nil =>
      obtain ⟨a1, c1, rfl⟩ := own_formK HO.out
      obtain ⟨k', n', s', u', xs', hef, hs', q0, hown⟩ := HG.out
      have q1 := HR.out.1
      obtain ⟨ua, uc, rfl⟩ := hown.slice
      obtain ⟨m', hm'⟩ : ∃ m', m' = xs'.length := ⟨_, rfl⟩
      rw [← hm'] at q0 hown
      have e0 := cell_of_row wr w.heap.size 0 _ _ _ q0
      have e1 := cell_of_row wr w.heap.size 1 _ _ _ q0
      have e2 := cell_of_row wr w.heap.size 2 _ _ _ q0
      have e3 := cell_of_row wr w.heap.size 3 _ _ _ q0
      have z0 := cell_of_row wr (w.heap.size + 1) 0 _ _ _ q1
      have z1 := cell_of_row wr (w.heap.size + 1) 1 _ _ _ q1
      have z2 := cell_of_row wr (w.heap.size + 1) 2 _ _ _ q1
      have z3 := cell_of_row wr (w.heap.size + 1) 3 _ _ _ q1
      have y0 := frozen_of_row wr (w.heap.size + 1) 0 _ _ q1
      have y1 := frozen_of_row wr (w.heap.size + 1) 1 _ _ q1
      have y2 := frozen_of_row wr (w.heap.size + 1) 2 _ _ q1
      have y3 := frozen_of_row wr (w.heap.size + 1) 3 _ _ q1
      simp at e0 e1 e2 e3 z0 z1 z2 z3
      have HF := Lib.hid (fun v0 v1 v2 v3 => copy_fin (k := k') (n := n') (v0 := v0) (v1 := v1) (v2 := v2) (v3 := v3) hs' hown HB.out)
      have HEF := Lib.hid hef
      clear q0 q1 hown HG hef hs' hm'
      go_wp2
      (try simp only [Exit.inBlock, Exit.then])
      refine bodyPost_ret (v := tv k' n' s' (.slice ua m' uc)) ?hr rfl ?_
      case hr =>
        rw [results_cell (a := 4) (t := 26) (ad := ⟨w.heap.size + 1, 0, none⟩) rfl rfl]
        go_simp
      rw [HEF.out]
      exact HF.out _ _ _ _
    | cons p ps =>
      obtain ⟨n0, hn0⟩ : ∃ n0, n0 = ps.length := ⟨_, rfl⟩
      have ho := HO.out; clear HO
      rw [List.length_cons, ← hn0, List.reverse_cons, List.map_append] at ho
      have hN : n0 + 1 ≤ 4194304 := by have h1 := todoM_len (p :: ps); have h2 := HT.out; rw [List.length_cons, ← hn0] at h1; omega
      have hrl : (ps.reverse.map pQ).length = n0 := by simp [hn0]
      have HN0 := Lib.hid hn0; clear hn0
      have hvl := ho.lt
      obtain ⟨a0, c0, rfl⟩ := own_formK ho
      obtain ⟨g0, rfl, hc0⟩ : ∃ g0, a0 = some ⟨g0, 0, none⟩ ∧ n0 + 1 ≤ c0 := by
        rcases ho.2 with ⟨e1, h0⟩ | ⟨g, c, cur, e1, hb, hg, hc, _⟩
        · omega
        · cases e1; exact ⟨g, rfl, hc⟩
      have hcp : wr.cell? ⟨g0, n0, none⟩ = some (.pointer (some ⟨p.b, p.o, none⟩)) := by
        rw [ho.cellAt n0 (by omega), List.getElem?_append_right (by omega), hrl, Nat.sub_self]; rfl
      have HF := Lib.hid (own_front ho hrl (by simp)); clear ho hrl
      obtain ⟨⟨hpn4, hps, hpb, hpl, hpn, hpa⟩, hcont⟩ := HG.out
      obtain ⟨pa, pc, hpu⟩ := hpa.slice
      obtain ⟨m, hm⟩ : ∃ m, m = p.xs.length := ⟨_, rfl⟩
      rw [hpu, ← hm] at hpn4 hpa
      have hml : m ≤ 4194304 := by have h1 := todoM_cons p ps; have h2 := HT.out; have h3 := len_le_cS p.xs; omega
      have HM := Lib.hid hm; clear hm
      have hwr : w.heap.size + 3 ≤ wr.heap.size := HR.out.2
      have hck := hpn4.c0
      obtain ⟨pk, hpk⟩ : ∃ pk, pk = p.k := ⟨_, rfl⟩
      rw [← hpk] at hck
      have HPK := Lib.hid hpk; clear hpk
      have HVL := Lib.hid (fun k hk => (hvl k hk).2)
      have HVL2 := Lib.hid (fun k hk => (hvl k hk).1)
      have HPL := Lib.hid (And.intro hpl hpn)
      have HPF := Lib.hid (And.intro hpn4 (And.intro hpb (And.intro hpa hps)))
      have HCONT := Lib.hid hcont
      have hlow : w.heap.size ≤ p.b := by rcases hpb with e | e <;> omega
      have HLOW := Lib.hid hlow
      clear hpn4 hcont hvl hpb hpn hpl hpa hps HG hlow
      go_upto_region 6 with fail
      go_cut [32] (fun vb wd => Hid (∃ B, vb = .bool B ∧ LookE F R D w p wr B wd))
      case first =>
        by_cases hk1 : pk = 1
        · subst hk1
          have HCALL := Lib.hid (HCB.out p.b p.o p.n p.s (.slice pa m pc) wr HB.out HLOW.out HPL.out.1 (by have h := HPF.out.1; rw [← HPK.out] at h; exact h) (by have h := HPF.out.2.2.2; rw [wT_node] at h; omega))
          go_wp2_with fail
          refine HCALL.out.mono ?_
          rintro e w2 ⟨B, rfl, hbl, hz, hk, h1, h0⟩
          have HLE : Hid (LookE F R D w p wr B w2) := Lib.hid ⟨hbl, hz, hk, fun e => by
            obtain ⟨k', n', s', u', xs', e1, h2⟩ := h1 e
            exact ⟨k', n', s', u', xs', by rw [mapT_node, if_pos HPK.out.symm, e1], h2⟩, fun e => by
            obtain ⟨e1, h2⟩ := h0 e
            exact ⟨R p.s, by rw [mapT_node, if_pos HPK.out.symm, e1], h2⟩⟩
          clear hbl hz hk h1 h0
          go_wp2_with fail
          go_meet
          exact Lib.hid ⟨B, rfl, HLE.out⟩
        · have hq : (pk == 1) = false := by simpa using hk1
          have HLE : Hid (LookE F R D w p wr false wr) := Lib.hid ⟨HB.out, Nat.le_refl _, fun _ _ _ => rfl, (fun e => absurd e (by decide)), fun _ => ⟨p.s, by rw [mapT_node, if_neg (by rw [← HPK.out]; exact hk1)], by have h := HPF.out.2.2.2; rw [wT_node] at h; unfold maxLen; omega, by rw [set_id HPF.out.1.c2]⟩⟩
          clear hk1
          go_wp2_with fail
          go_meet
          exact Lib.hid ⟨false, rfl, HLE.out⟩
      obtain ⟨B, rfl, hlk⟩ := hcut.out
      have HLK := Lib.hid hlk; clear hlk hcut
      have hg0 := HVL.out g0 rfl
      have hne : g0 ≠ p.b := fun e => HPL.out.2 (by rw [← e]; rfl)
      have HO2 : Hid (wc.ownsRow (w.heap.size + 2) 81 1 (.slice (some ⟨g0, 0, none⟩) n0 c0) n0 (ps.reverse.map pQ)) := Lib.hid (row_keep HF.out (HLK.out.2.2.1 g0 hg0 hne))
      have HRS : Hid (wc.heap[w.heap.size + 1]? = some (trow 0 0 ByteArray.empty (.slice none 0 0)) ∧ w.heap.size + 3 ≤ wc.heap.size) := Lib.hid ⟨(HLK.out.2.2.1 _ (by omega) (by rcases HPF.out.2.1 with e | e <;> omega)).trans HR.out.1, Nat.le_trans hwr HLK.out.2.1⟩
      have HNE := Lib.hid (And.intro hg0 hne)
      clear hg0 hne hck hcp
      cases B with
      | true =>
        have HGD := Lib.hid (HCONT.out _ _ (HLK.out.done (v' := .slice (some ⟨g0, 0, none⟩) n0 c0) rfl HVL.out))
        go_wp2
        go_roundg (todoM ps)
        case measure => have := HGH.out; rw [todoM_cons] at this; omega
        case rel => exact ⟨ps, rfl, Lib.hid (by have h1 := HT.out; rw [todoM_cons] at h1; omega), by rw [← HN0.out]; exact HO2, HGD, HRS, Lib.hid HLK.out.1⟩
      | false =>
        obtain ⟨S, hef, hSz, hcS⟩ := HLK.out.2.2.2.2 rfl
        have hpc : wc.cell? ⟨p.b, p.o + 3, none⟩ = some (.slice pa m pc) := (cell_heap hcS).trans ((World.cell?_setCell_other _ _ _ _ (by simp)).trans HPF.out.1.c3)
        have hpf : wc.frozen? ⟨p.b, p.o + 3, none⟩ = false := by
          have h1 : wc.frozen? ⟨p.b, p.o + 3, none⟩ = (wr.setCell ⟨p.b, p.o + 2, none⟩ (.string S)).frozen? ⟨p.b, p.o + 3, none⟩ := by
            unfold World.frozen?
            rw [show (⟨p.b, p.o + 3, none⟩ : Addr).block = p.b from rfl, hcS]
          rw [h1, World.frozen?_setCell]
          exact HPF.out.1.f3
        have hpa2 : ArgsAt w 0 p.h (.slice pa p.xs.length pc) p.xs := by rw [← HM.out]; exact HPF.out.2.2.1
        obtain ⟨vs, hrow, hnone, hcells, hh0⟩ := args_row hpa2
        have hvs := hrow.len
        have hone := hrow.one
        have HCALL := Lib.hid (ownArgs_any p.b p.o pa m pc vs wc (by rw [HM.out]; exact hvs) hml (by rw [HM.out]; exact hnone) (fun ad e j u hu => by
          have h1 := hcells ad e j u hu
          rw [HLK.out.1.cell (World.block_lt_of_cell? w _ h1)]; exact h1) hone hpc hpf)
        have HHR := Lib.hid (And.intro hrow hh0)
        have HEF := Lib.hid (And.intro hef (And.intro hSz hcS))
        have hplc : p.b < wc.heap.size := Nat.lt_of_lt_of_le HPL.out.1 HLK.out.2.1
        clear hrow hnone hcells hh0 hvs hone hpa2 hef hSz hcS
        go_wp2_with fail
        refine HCALL.out.mono ?_
        rintro e w2 ⟨rfl, u1, wq, rfl, how, hbw⟩
        obtain ⟨a1, c1, rfl⟩ := own_formK how
        have hwcz := hbw.size
        obtain ⟨w1, hw1⟩ : ∃ w1, w1 = wq.setCell ⟨p.b, p.o + 3, none⟩ (.slice a1 m c1) := ⟨_, rfl⟩
        rw [← hw1]
        have hz1 : w1.heap.size = wq.heap.size := by rw [hw1]; simp [World.setCell]
        have d3 : w1.cell? ⟨p.b, p.o + 3, none⟩ = some (.slice a1 m c1) := by
          rw [hw1]
          exact World.cell?_setCell_same' _ _ _ (by rw [hbw.cell hplc, hpc]; rfl)
        obtain ⟨g, hg⟩ : ∃ g, m = 0 ∨ a1 = some ⟨g, 0, none⟩ := by
          rcases how.2 with ⟨e1, h0⟩ | ⟨g, c, cur, e1, _⟩
          · exact ⟨0, Or.inl h0⟩
          · cases e1; exact ⟨g, Or.inr rfl⟩
        have hwsz := HLK.out.2.1
        have HPUSH := Lib.hid (fun vi wi (hG : Grew (.slice (some ⟨g0, 0, none⟩) n0 c0) w1 vi wi) => goodM_push (w0 := w) (Pb := PbC w) (Fin := FinM (mapT F R) D w (.node k n s xs) h) (g := g) HCONT.out (by have h := HPF.out.1; rw [hpu, ← HM.out]; exact h) HPL.out.1 HPL.out.2 (by rw [← HM.out]; unfold maxLen; omega) HM.out (v1 := .slice (some ⟨g0, 0, none⟩) n0 c0) rfl HVL.out HLK.out.2.1 HLK.out.2.2.1 HEF.out.2.2 HEF.out.2.1 HEF.out.1 HPF.out.2.2.2 hbw how hg (fun b hb => Or.inr (by omega)) HHR.out.1 HHR.out.2 (by rw [← hw1]; exact hG))
        have HW1 : Hid (Below w.heap.size w w1) := Lib.hid (by
          rw [hw1]
          exact (HLK.out.1.trans (hbw.mono HLK.out.1.size)).setCell (by show w.heap.size ≤ p.b; exact HLOW.out) _)
        have HBX : Hid (w1.heap[w.heap.size + 1]? = some (trow 0 0 ByteArray.empty (.slice none 0 0))) := Lib.hid (by
          rw [hw1, Below.heap_setCell _ _ _ _ (fun e => by simp at e; rcases HPF.out.2.1 with h1 | h1 <;> omega), hbw.block _ (by have := HRS.out.2; omega)]
          exact HRS.out.1)
        have hown1 : w1.ownsRow (w.heap.size + 2) 81 1 (.slice (some ⟨g0, 0, none⟩) n0 c0) n0 (ps.reverse.map pQ) := by
          exact row_keep (keep_own HO2.out hbw) (by rw [hw1]; exact Below.heap_setCell _ _ _ _ (fun e => by simp at e; exact HNE.out.2 e))
        have HO1 := Lib.hid hown1
        have HD3 := Lib.hid d3
        have HG := Lib.hid hg
        have HZ1b := Lib.hid (And.intro hz1 (And.intro hwcz hwsz))
        have HTD : Hid (todoM (kidsM g (p.h - 1) (hdV vs p.xs) m ++ ps) + 1 = todoM (p :: ps)) := Lib.hid (by rw [todoM_app, todoM_kids _ _ _ _ _ (by rw [HM.out]; exact Nat.le_refl _), HM.out, List.take_length, todoM_cons]; omega)
        have hpz : p.b < w1.heap.size := by omega
        have HPNV : Hid (NotOwn (.slice (some ⟨g0, 0, none⟩) n0 c0) p.b) := Lib.hid HPL.out.2
        have HZR := HRS
        clear hown1 hg hw1 how hbw HCALL hwcz hz1 hpc hpu hpf hplc hwsz
        go_wp2
        go_loopw [5, 40] (fun vi i wi => ∃ q : Nat, q ≤ m ∧ i = .int .i64 q ∧ Hid (wi.ownsRow (w.heap.size + 2) 81 1 vi (n0 + q) ((kidsM g (p.h - 1) (hdV vs p.xs) q ++ ps).reverse.map pQ)) ∧
          Hid (Grew (.slice (some ⟨g0, 0, none⟩) n0 c0) w1 vi wi) ∧ Hid (Below w.heap.size w wi)) (fun _ i _ => m - (intOf i).toNat)
        case atStart => exact ⟨0, Nat.zero_le _, rfl, HO1, Lib.hid (Grew.refl _ _ _ rfl), HW1⟩
        case round =>
          rename_i wr0 _
          obtain ⟨q, hq, rfl, HOI, HGI, HBI⟩ := hrel
          by_cases hlt : q < m
          · obtain rfl : a1 = some ⟨g, 0, none⟩ := HG.out.resolve_left (by omega)
            have hnm : n0 + m ≤ 8388608 := by omega
            have e3 : wr.cell? ⟨p.b, p.o + 3, none⟩ = some (.slice (some ⟨g, 0, none⟩) m c1) := by
              rw [cell_heap (HGI.out.2.1 p.b hpz HPNV.out)]; exact HD3.out
            have hlo : w.heap.size + 2 ≤ wr.heap.size := by have := HGI.out.1; have := HZ1b.out; have := HRS.out.2; omega
            have HHI := Lib.hid hlt; have HNM := Lib.hid hnm; clear hnm
            go_wp2_with (first | (at_builtin; refine wpList_append_lies _ rfl (.tmp 43) (.tmp 50) 104 rfl (w.heap.size + 2) 81 i0 (.pointer none) 1 8 Tryz.underlying104 HI.out HZ0.out HZ1.out HZ2.out rfl (by decide) _ _ _ rfl (HOI.out.alloc _) ⟨wr.heap.size, 0, none⟩ 1 1 [.pointer (some ⟨g, q * 4, none⟩)] ?c0 rfl ?c1 ?c2 (by decide) ?c3 ?c4 ?c5 _ rfl ?_))
            case c2 => rfl
            case c3 => have := HNM.out; unfold maxLen; omega
            case c4 => have := HNM.out; omega
            case c5 => omega
            intro g3 cap3 w3 hown hgr hat hlt3
            have HG3 := Lib.hid (HGI.out.trans (grew_app (n := n0 + q + 1) (cap := cap3) (o := .cells #[.pointer (some ⟨g, q * 4, none⟩)] 81) hgr (by simpa using hat)))
            have HB3 : Hid (Below w.heap.size w w3) := Lib.hid ((HBI.out.alloc HBI.out.size (.cells #[.pointer (some ⟨g, q * 4, none⟩)] 81)).grown hgr (by simp; omega) (fun i hi => by have := (HOI.out.lt _ hi).1; omega))
            have HO3 : Hid (w3.ownsRow (w.heap.size + 2) 81 1 (.slice (some ⟨g3, 0, none⟩) (n0 + q + 1) cap3) (n0 + q + 1) ((kidsM g (p.h - 1) (hdV vs p.xs) (q + 1) ++ ps).reverse.map pQ)) := Lib.hid (by rw [kidsM_rev]; simpa using hown)
            clear hown hgr hat hlt3
            go_wp2
            go_roundw
            case rel => exact ⟨q + 1, by omega, by go_num, HO3, HG3, HB3⟩
            case measure => simp [intOf]; omega
          · have hqm : q = m := by omega
            subst hqm
            have HGD := Lib.hid (HPUSH.out _ _ HGI.out)
            have HLEN : Hid ((kidsM g (p.h - 1) (hdV vs p.xs) q ++ ps).length = n0 + q) := Lib.hid (by rw [List.length_append, kidsM_len, HN0.out]; omega)
            have HBX2 : Hid (wr.heap[w.heap.size + 1]? = some (trow 0 0 ByteArray.empty (.slice none 0 0)) ∧ w.heap.size + 3 ≤ wr.heap.size) := Lib.hid (by
              have h1 := HZ1b.out
              have h2 := HGI.out.1
              have h3 := HRS.out.2
              refine ⟨(HGI.out.2.1 _ (by omega) (fun e => ?_)).trans HBX.out, by omega⟩
              have := HVL2.out g0 rfl
              simp [Value.ownBlock] at e; omega)
            clear hlt
            have hqq : ¬ q < q := by omega
            go_wp2
            go_roundg (todoM (kidsM g (p.h - 1) (hdV vs p.xs) q ++ ps))
            case measure => have := HTD.out; have := HGH.out; omega
            case rel => exact ⟨_, rfl, Lib.hid (by have := HTD.out; have := HT.out; omega), Lib.hid (by rw [HLEN.out]; exact HOI.out), HGD, HBX2, HBI⟩
end Go.Proofs.YtidbokheeieifaaGreatDoor
namespace Go.Proofs.YtidbokheeieifaaGreatDoor
open Go.RowKit

theorem heap_set_at' {w : World} {b : Nat} {cs : Array Value} {e : TypeId} (h : w.heap[b]? = some (.cells cs e (0, 0))) (j : Nat) (v : Value) : (w.setCell ⟨b, j, none⟩ v).heap[b]? = some (.cells (cs.setIfInBounds j v) e (0, 0)) := by
  unfold World.setCell
  simp [Array.getElem?_modify, h]

/-- The changed node in the making lies in block tb; its row lies behind. -/
structure OutR (B tb H : Nat) (K N : Int) (S : ByteArray) (ua : Option Addr) (m uc : Nat) (txs : List T) (base wr : World) : Prop where
  box : wr.heap[tb]? = some (trow K N S (.slice ua m uc))
  row : OwnR (fun _ => True) wr H (tb + 1) wr.heap.size (.slice ua m uc) txs
  nil : txs = [] → Value.slice ua m uc = .slice none 0 0
  len : m = txs.length
  bel : Below B base wr

/-- One changed argument more. -/
def GotE (B tb H : Nat) (K N : Int) (S : ByteArray) (ua : Option Addr) (m uc : Nat) (txs : List T) (t : T) (base : World) (e : Ending) (w1 : World) : Prop :=
  ∃ kc nc nmc ac mc cc ys, e = .returned (tv kc nc nmc (.slice ac mc cc)) ∧ w1.heap[tb]? = some (trow K N S (.slice ua m uc)) ∧ Below B base w1 ∧ w1.ownsRow (tb + 1) 26 4 (.slice ua m uc) m ys ∧
    ∀ g3 c3 w3, w3.ownsRow (tb + 1) 26 4 (.slice (some ⟨g3, 0, none⟩) (m + 1) c3) (m + 1) (ys ++ [.int .i64 kc, .int .i64 nc, .string nmc, .slice ac mc cc]) →
      (w1.alloc (.cells #[.int .i64 kc, .int .i64 nc, .string nmc, .slice ac mc cc] 26)).grownBy w3 (Value.slice ua m uc).ownBlock → ((Value.slice ua m uc).ownBlock = some g3 ∨ g3 = (w1.alloc (.cells #[.int .i64 kc, .int .i64 nc, .string nmc, .slice ac mc cc] 26)).heap.size) →
      w3.heap[tb]? = some (trow K N S (.slice ua m uc)) ∧ OutR B tb H K N S (some ⟨g3, 0, none⟩) (m + 1) c3 (txs ++ [t]) base (w3.setCell ⟨tb, 3, none⟩ (.slice (some ⟨g3, 0, none⟩) (m + 1) c3))

theorem got_e {B tb H H1 : Nat} {K N : Int} {S : ByteArray} {ua : Option Addr} {m uc : Nat} {txs : List T} {t : T} {base wr w1 : World} {e : Ending} (hH : H1 = H + 1) (o : OutR B tb H1 K N S ua m uc txs base wr) (hB : B ≤ tb) (hml : m + 1 ≤ maxLen) (h : CopyR H t wr.drew e w1) : GotE B tb H1 K N S ua m uc txs t base e w1 := by
  subst hH
  obtain ⟨kc, nc, nmc, u, xc, rfl, rfl, hsz, hoc, hb0⟩ := h
  obtain ⟨ac, cc, rfl⟩ := hoc.slice
  have hb1 : Below wr.heap.size wr w1 := bel_drew hb0
  have htb : tb < wr.heap.size := (Array.getElem?_eq_some_iff.1 o.box).1
  have hz1 := hb1.size
  have hBr : B ≤ wr.heap.size := by omega
  have ho1 : OwnR (fun _ => True) w1 (H + 1) (tb + 1) wr.heap.size (.slice ua m uc) txs := o.row.keep fun b _ _ b2 => ⟨hb1.block b b2, trivial⟩
  obtain ⟨ys, hys, hyl, hstep⟩ := ho1.row (Nat.le_refl _) o.nil hz1 (by omega) (by rw [← o.len]; exact hml)
  rw [← o.len] at hys hstep
  have hBw : Below B base w1 := o.bel.trans (hb1.mono hBr)
  refine ⟨kc, nc, nmc, ac, xc.length, cc, ys, rfl, (hb1.block tb htb).trans o.box, hBw, hys, fun g3 c3 w3 ho3 hg3 ha3 => ?_⟩
  have hza : (w1.alloc (.cells #[.int .i64 kc, .int .i64 nc, .string nmc, .slice ac xc.length cc] 26)).heap.size = w1.heap.size + 1 := by simp
  have hgz := hg3.size
  rw [hza] at hgz ha3
  have hne : some tb ≠ (Value.slice ua m uc).ownBlock := fun e => by have := (hyl tb e.symm).1; omega
  have hbx3 : w3.heap[tb]? = some (trow K N S (.slice ua m uc)) := (hg3.block tb (by omega) hne).trans ((Below.heap_alloc _ _ _ (by omega)).trans ((hb1.block tb htb).trans o.box))
  refine ⟨hbx3, ?_⟩
  have hsn : Snoc (tb + 1) w1 (.slice ua m uc) m ys [.int .i64 kc, .int .i64 nc, .string nmc, .slice ac xc.length cc] w3 (.slice (some ⟨g3, 0, none⟩) (m + 1) c3) := by
    refine ⟨by omega, fun b hb hno => (hg3.block b (by omega) hno).trans (Below.heap_alloc _ _ _ hb), ho3, ?_⟩
    rcases ha3 with h | h
    · exact Or.inl (by rw [h]; rfl)
    · exact Or.inr ⟨g3, rfl, by omega⟩
  have hrow := hstep w3 _ kc nc nmc (.slice ac xc.length cc) xc wr.heap.size w1.heap.size hsn hsz (by omega) (Nat.le_refl _) (Nat.le_refl _) hoc
  refine ⟨?_, ?_, fun e => by simp at e, by rw [List.length_append, List.length_singleton, o.len], ?_⟩
  · exact heap_set_at' hbx3 3 _
  · have hz : (w3.setCell ⟨tb, 3, none⟩ (.slice (some ⟨g3, 0, none⟩) (m + 1) c3)).heap.size = w3.heap.size := by simp [World.setCell]
    rw [hz]
    exact hrow.keep fun b _ h1 _ => ⟨Below.heap_setCell _ _ _ _ (fun e => by simp at e; omega), trivial⟩
  · exact Below.setCell ((hBw.alloc (by omega) _).grown hg3 (by omega) (fun k hk => by have := (hyl k hk).1; omega)) hB _

/-- A copy, put into the result's box b. -/
theorem copy_fin2 {w wr : World} {b B : Nat} {k n : Int} {s : ByteArray} {u : Value} {h : Nat} {xs : List T} (hs : s.size ≤ maxLen) (ho : OwnR (fun _ => True) wr h B wr.heap.size u xs) (hb : Below w.heap.size w wr) (h1 : w.heap.size ≤ b) (h2 : b < B) (v0 v1 v2 v3 : Value) :
    CopyR h (.node k n s xs) w (.returned (tv k n s u)) ((((wr.setCell ⟨b, 0, none⟩ v0).setCell ⟨b, 1, none⟩ v1).setCell ⟨b, 2, none⟩ v2).setCell ⟨b, 3, none⟩ v3) := by
  have st : ∀ (W : World) (j : Nat) (v : Value), OwnR (fun _ => True) W h B wr.heap.size u xs → OwnR (fun _ => True) (W.setCell ⟨b, j, none⟩ v) h B wr.heap.size u xs := fun W j v o =>
    o.keep fun b' _ h1 _ => ⟨Below.heap_setCell _ _ _ _ (fun e => by simp at e; omega), trivial⟩
  refine ⟨k, n, s, u, xs, rfl, rfl, hs, (st _ _ _ (st _ _ _ (st _ _ _ (st _ _ _ ho)))).wide (by omega) (by simp [World.setCell]), ?_⟩
  exact (((hb.setCell h1 _).setCell h1 _).setCell h1 _).setCell h1 _

end Go.Proofs.YtidbokheeieifaaGreatDoor
