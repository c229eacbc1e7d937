/-
  impl.wordOperations: the table of the operators on words; impl.isWord, impl.wordCongruentTo, and what the operators compute.
  slices.Backward over a slice of terms: the contract of its iterator.
-/
import Derived.Test.YtidbokheeieifaaQ16
import Derived.Test.YtidbokheeieifaaQ20
import Derived.Test.YtidbokheeieifaaQ21
import Derived.Test.YtidbokheeieifaaQ22
import Derived.Test.YtidbokheeieifaaQ2
import Derived.RangeFuncNested
import Derived.RangeFuncBound
import Derived.RangeFuncCalls
import Derived.RangeFuncLeaves
import Derived.RangeFuncBox
import Derived.Shelf.Abstract
import Derived.Shelf.RegionOpen
import Derived.WalkKit
import Derived.OwnWalkIn
import Derived.TacticsInMore
import Derived.LoopNIn
import Derived.LoopIn
import Derived.Maps.AppendAt
namespace Go.Proofs.Ytidbokheeieifaa
open Go.RowKit Go.Maps Go.WideMaps

abbrev plusN : ByteArray := ⟨#[112, 108, 117, 115]⟩
abbrev minusN : ByteArray := ⟨#[109, 105, 110, 117, 115]⟩
abbrev timesN : ByteArray := ⟨#[116, 105, 109, 101, 115]⟩
abbrev fnV (f : Nat) : Value := .func (.func f) #[] #[]
/-- The table's entries. -/
def opsL : List (ByteArray × Value) := [(plusN, fnV 106), (minusN, fnV 107), (timesN, fnV 108)]
theorem zeroFn (W : World) : (zeroValue 167).run Try.prog W = .ok .nilFunc W := by kernel_rfl
/-- A look-up in a table of functions. -/
theorem TabAt.lookF {b : Nat} {l : List (ByteArray × Value)} {w : World} (h : TabAt b l w) {nm : ByteArray} (hs : nm.size ≤ maxLen) :
    (Instr.lookup 88 (.map (some b)) (.string nm) true).run Try.prog w = .ok (.tuple #[(firstV l nm).getD .nilFunc, .bool (firstV l nm).isSome]) w := by
  obtain ⟨D, ho, hk⟩ := h
  have hkey : keyOf Try.prog 9 (.string nm) = some (.string (key nm)) := WideMaps.keyOf_string_mk Try.underlying9 hs
  obtain ⟨v, ps, hrun, hv⟩ := ho.look_ok lawStrT Try.underlying88 (zeroFn w) (zd := .held .nilFunc) (zp := []) rfl hkey
  obtain ⟨h1, h2⟩ := hk.2 nm
  rw [hrun]
  cases e : firstV l nm with
  | none =>
    rw [atKey_of_not_has (h1 e)] at hv
    simp only [heldV, Option.some.injEq, Prod.mk.injEq, DataW.held.injEq] at hv
    rw [h1 e, hv.1]; rfl
  | some y =>
    rw [(h2 y e).2] at hv
    simp only [heldV, Option.some.injEq, Prod.mk.injEq, DataW.held.injEq] at hv
    rw [(h2 y e).1, hv.1]; rfl
/-- What the table tells of a name. -/
theorem ops_ways (s : ByteArray) : (s.toList = [112, 108, 117, 115] ∧ firstV opsL s = some (fnV 106) ∧ builtinB s = true) ∨ (s.toList = [109, 105, 110, 117, 115] ∧ firstV opsL s = some (fnV 107) ∧ builtinB s = true) ∨
    (s.toList = [116, 105, 109, 101, 115] ∧ firstV opsL s = some (fnV 108) ∧ builtinB s = true) ∨ (firstV opsL s = none ∧ builtinB s = false) := by
  have e1 : plusN.toList = [112, 108, 117, 115] := by kernel_rfl
  have e2 : minusN.toList = [109, 105, 110, 117, 115] := by kernel_rfl
  have e3 : timesN.toList = [116, 105, 109, 101, 115] := by kernel_rfl
  by_cases h1 : s.toList = [112, 108, 117, 115]
  · refine Or.inl ⟨h1, ?_, ?_⟩
    · unfold firstV opsL; simp [List.find?, e1, h1]
    · unfold builtinB; simp [h1]
  by_cases h2 : s.toList = [109, 105, 110, 117, 115]
  · refine Or.inr (Or.inl ⟨h2, ?_, ?_⟩)
    · unfold firstV opsL; simp [List.find?, e1, e2, h2]
    · unfold builtinB; simp [h2]
  by_cases h3 : s.toList = [116, 105, 109, 101, 115]
  · refine Or.inr (Or.inr (Or.inl ⟨h3, ?_, ?_⟩))
    · unfold firstV opsL; simp [List.find?, e1, e2, e3, h3]
    · unfold builtinB; simp [h3]
  · refine Or.inr (Or.inr (Or.inr ⟨?_, ?_⟩))
    · have f1 : ([112, 108, 117, 115] == s.toList) = false := by simpa using fun e => h1 e.symm
      have f2 : ([109, 105, 110, 117, 115] == s.toList) = false := by simpa using fun e => h2 e.symm
      have f3 : ([116, 105, 109, 101, 115] == s.toList) = false := by simpa using fun e => h3 e.symm
      unfold firstV opsL; simp only [List.find?, e1, e2, e3, f1, f2, f3]; rfl
    · have f1 : (s.toList == [112, 108, 117, 115]) = false := by simpa using h1
      have f2 : (s.toList == [109, 105, 110, 117, 115]) = false := by simpa using h2
      have f3 : (s.toList == [116, 105, 109, 101, 115]) = false := by simpa using h3
      unfold builtinB; rw [f1, f2, f3]; rfl

def OpsE (w : World) (e : Ending) (w' : World) : Prop := ∃ b, e = .returned (.map (some b)) ∧ w.heap.size ≤ b ∧ TabAt b opsL w' ∧ Below w.heap.size w w'
set_option maxRecDepth 100000 in
set_option maxHeartbeats 1600000 in
theorem wordOps_any (w : World) : Calls Try.prog 56 #[] w (OpsE w) := by
  have k1 : keyOf Try.prog 9 (.string plusN) = some (.string (key plusN)) := WideMaps.keyOf_string_mk Try.underlying9 (by decide)
  have k2 : keyOf Try.prog 9 (.string minusN) = some (.string (key minusN)) := WideMaps.keyOf_string_mk Try.underlying9 (by decide)
  have k3 : keyOf Try.prog 9 (.string timesN) = some (.string (key timesN)) := WideMaps.keyOf_string_mk Try.underlying9 (by decide)
  have hmm := @run_makeMap Try.prog
  have ho0 := World.ownsMap_made w Try.prog 9 heldV
  obtain ⟨w1, hr1, o1, g1⟩ := ho0.update lawStrT Try.underlying88 (by decide) k1 (val := fnV 106) (d := .held (fnV 106)) (ps := []) rfl
  obtain ⟨w2, hr2, o2, g2⟩ := o1.update lawStrT Try.underlying88 (by decide) k2 (val := fnV 107) (d := .held (fnV 107)) (ps := []) rfl
  obtain ⟨w3, hr3, o3, g3⟩ := o2.update lawStrT Try.underlying88 (by decide) k3 (val := fnV 108) (d := .held (fnV 108)) (ps := []) rfl
  have t0 : TabOk [] (.map []) := TabOk.nil
  have hk12 : plusN ≠ minusN := by decide
  have hk13 : plusN ≠ timesN := by decide
  have hk23 : minusN ≠ timesN := by decide
  have n1 : firstV [] plusN = none := rfl
  have t1 := t0.add (nm := plusN) (fnV 106) ((t0.2 plusN).1 n1)
  have n2 : firstV ([] ++ [(plusN, fnV 106)]) minusN = none := by rw [firstV_snoc_none _ rfl]; simp [hk12]
  have t2 := t1.add (nm := minusN) (fnV 107) ((t1.2 minusN).1 n2)
  have n3 : firstV ([] ++ [(plusN, fnV 106)] ++ [(minusN, fnV 107)]) timesN = none := by
    have n3a : firstV ([] ++ [(plusN, fnV 106)]) timesN = none := by rw [firstV_snoc_none _ rfl]; simp [hk13]
    rw [firstV_snoc_none _ n3a]; simp [hk23]
  have t3 := t2.add (nm := timesN) (fnV 108) ((t2.2 timesN).1 n3)
  have HF : Hid (OpsE w (.returned (.map (some w.heap.size))) w3) := Lib.hid ⟨_, rfl, Nat.le_refl _, ⟨_, o3, t3⟩, (((Below.refl _ _).alloc (Nat.le_refl _) _).grown g1 (by simp) (fun k e => by cases e; omega)).grown g2 (by have := g1.size; simp at this; omega) (fun k e => by cases e; omega) |>.grown g3 (by have := g1.size; have := g2.size; simp at *; omega) (fun k e => by cases e; omega)⟩
  clear o1 o2 o3 g1 g2 g3 t0 t1 t2 t3 n1 n2 n3 hk12 hk13 hk23 ho0 k1 k2 k3
  go_enter Try.func56, Try.ntmps56
  go_wp2
  go_ret
  exact HF.out

theorem wordV_node (n : Int) (s : ByteArray) (m : Nat) : wordV 3 n s m = true ↔ NodeOk 3 n s m := by
  have he : s.toList = [] ↔ s.size = 0 := by
    have h1 : (s.toList == ByteArray.empty.toList) = true ↔ s = ByteArray.empty := same_iff _ _
    have h2 : ByteArray.empty.toList = [] := by kernel_rfl
    rw [h2] at h1
    constructor
    · intro h
      have := h1.1 (by simpa using h)
      rw [this]; rfl
    · intro h
      have h3 : s = ByteArray.empty := ByteArray.size_eq_zero_iff.1 h
      rw [h3]; exact h2
  rw [wordV_iff, he]
  unfold NodeOk
  constructor
  · rintro ⟨_, h1, h2, h3, h4⟩
    exact Or.inr (Or.inr ⟨rfl, h3, h1, h2, h4⟩)
  · rintro (⟨h, _⟩ | ⟨h, _⟩ | ⟨_, h3, h1, h2, h4⟩)
    · omega
    · omega
    · exact ⟨rfl, h1, h2, h3, h4⟩

set_option maxRecDepth 100000 in
set_option maxHeartbeats 1600000 in
theorem iWord_any (k n : Int) (s : ByteArray) (a : Option Addr) (m c : Nat) (w : World) (hs : s.size ≤ maxLen) :
    Calls Try.prog 66 #[tv k n s (.slice a m c)] w (AnsB (wordV k n s m) w) := by
  have hb0 : Below w.heap.size w (w.alloc (.cells #[.int .i64 k, .int .i64 n, .string s, .slice a m c] 26)) := (Below.refl _ _).alloc (Nat.le_refl _) _
  have HB0 := Lib.hid hb0; clear hb0
  by_cases hk : k = 3
  · subst hk
    have HC := Lib.hid (fun w' => bad_any 3 n s a m c w' hs)
    have HV := Lib.hid (wordV_node n s m)
    clear hs
    go_enter Try.func66, Try.ntmps66
    go_wp2_with fail
    refine (HC.out _).mono ?_
    rintro e w1 ⟨b, rfl, hbq, hb1⟩
    have HB1 := Lib.hid (HB0.out.trans (hb1.mono HB0.out.size)); clear hb1
    cases b with
    | true =>
      have HN : Hid (wordV 3 n s m = false) := Lib.hid (by
        cases hh : wordV 3 n s m with
        | false => rfl
        | true => exact absurd (HV.out.1 hh) (hbq.1 rfl))
      clear hbq
      go_wp2
      go_ret
      exact ⟨by rw [HN.out]; rfl, HB1.out⟩
    | false =>
      have HN : Hid (wordV 3 n s m = true) := Lib.hid (HV.out.2 (Classical.byContradiction fun hh => by have := hbq.2 hh; cases this))
      clear hbq
      go_wp2
      go_ret
      exact ⟨by rw [HN.out]; rfl, HB1.out⟩
  · have HN : Hid (wordV k n s m = false) := Lib.hid (by
      cases hh : wordV k n s m with
      | false => rfl
      | true => exact absurd ((wordV_iff _ _ _ _).1 hh).1 hk)
    have hkb : (k == 3) = false := by simpa using hk
    clear hk
    go_enter Try.func66, Try.ntmps66
    go_wp2
    go_ret
    exact ⟨by rw [HN.out]; rfl, HB0.out⟩

theorem fourI (x : Int) (h0 : 0 ≤ x) (h1 : x ≤ 3) : x = 0 ∨ x = 1 ∨ x = 2 ∨ x = 3 := by omega
set_option maxRecDepth 100000 in
set_option maxHeartbeats 3200000 in
/-- What a function of the table computes, and the word that it is. -/
theorem compute_any (s : ByteArray) (f : Nat) (hf : firstV opsL s = some (fnV f)) (x y : Int) (w : World) (hx0 : 0 ≤ x) (hx1 : x ≤ 3) (hy0 : 0 ≤ y) (hy1 : y ≤ 3) :
    ∃ z, Calls Try.prog f #[.int .i64 x, .int .i64 y] w (fun e w' => e = .returned (.int .i64 z) ∧ w' = w) ∧ (z.tmod 4 + 4).tmod 4 = opW s x y ∧ -3 ≤ z ∧ z ≤ 9 := by
  have hx := fourI x hx0 hx1
  have hy := fourI y hy0 hy1
  rcases ops_ways s with ⟨h, hff, _⟩ | ⟨h, hff, _⟩ | ⟨h, hff, _⟩ | ⟨hff, _⟩
  · rw [hf] at hff; simp only [Option.some.injEq, Value.func.injEq, Fn.func.injEq] at hff
    obtain ⟨rfl, -⟩ := hff
    refine ⟨x + y, ?_, by unfold opW; rw [h]; rfl, by omega, by omega⟩
    clear h hf hx0 hx1 hy0 hy1
    rcases hx with rfl | rfl | rfl | rfl <;> rcases hy with rfl | rfl | rfl | rfl
    all_goals
      go_enter Try.func106, Try.ntmps106
      go_wp2
      go_ret
      exact ⟨rfl, rfl⟩
  · rw [hf] at hff; simp only [Option.some.injEq, Value.func.injEq, Fn.func.injEq] at hff
    obtain ⟨rfl, -⟩ := hff
    refine ⟨x - y, ?_, by unfold opW; rw [h]; rfl, by omega, by omega⟩
    clear h hf hx0 hx1 hy0 hy1
    rcases hx with rfl | rfl | rfl | rfl <;> rcases hy with rfl | rfl | rfl | rfl
    all_goals
      go_enter Try.func107, Try.ntmps107
      go_wp2
      go_ret
      exact ⟨rfl, rfl⟩
  · rw [hf] at hff; simp only [Option.some.injEq, Value.func.injEq, Fn.func.injEq] at hff
    obtain ⟨rfl, -⟩ := hff
    refine ⟨x * y, ?_, by unfold opW; rw [h]; rfl, ?_, ?_⟩
    · clear h hf hx0 hx1 hy0 hy1
      rcases hx with rfl | rfl | rfl | rfl <;> rcases hy with rfl | rfl | rfl | rfl
      all_goals
        go_enter Try.func108, Try.ntmps108
        go_wp2
        go_ret
        exact ⟨rfl, rfl⟩
    · rcases hx with rfl | rfl | rfl | rfl <;> omega
    · rcases hx with rfl | rfl | rfl | rfl <;> omega
  · rw [hf] at hff; cases hff

set_option maxRecDepth 100000 in
set_option maxHeartbeats 1600000 in
theorem congr_any (z : Int) (w : World) (h0 : -3 ≤ z) (h1 : z ≤ 9) :
    Calls Try.prog 111 #[.int .i64 z] w (fun e w' => e = .returned (tv 3 ((z.tmod 4 + 4).tmod 4) ByteArray.empty (.slice none 0 0)) ∧ Below w.heap.size w w') := by
  have r1 : (w.alloc (.cells #[.int .i64 0, .int .i64 0, .string ⟨#[]⟩, .slice none 0 0] 26)).heap[w.heap.size]? = some (trow 0 0 ByteArray.empty (.slice none 0 0)) := heap_new _ _ rfl
  obtain ⟨⟨z0, z1, z2, z3⟩, y0, y1, y2, y3⟩ := cells_of4 r1
  clear r1
  have h4 : z = -3 ∨ z = -2 ∨ z = -1 ∨ z = 0 ∨ z = 1 ∨ z = 2 ∨ z = 3 ∨ z = 4 ∨ z = 5 ∨ z = 6 ∨ z = 7 ∨ z = 8 ∨ z = 9 := by omega
  clear h0 h1
  obtain ⟨r, hr⟩ : ∃ r, r = (z.tmod 4 + 4).tmod 4 := ⟨_, rfl⟩
  rw [← hr]
  rcases h4 with rfl | rfl | rfl | rfl | rfl | rfl | rfl | rfl | rfl | rfl | rfl | rfl | rfl
  all_goals
    have HR := Lib.hid hr
    clear hr
    go_enter Try.func111, Try.ntmps111
    go_wp2
    (try simp only [Exit.inBlock, Exit.then])
    refine bodyPost_ret (v := tv 3 r ByteArray.empty (.slice none 0 0)) ?_ rfl ?_
    · rw [results_cell (a := 2) (t := 26) (ad := ⟨w.heap.size, 0, none⟩) rfl rfl]
      go_simp
      rw [HR.out]
      first | rfl | exact ⟨rfl, rfl⟩
    · exact ⟨rfl, (Below.refl _ _).alloc (Nat.le_refl _) _⟩
end Go.Proofs.Ytidbokheeieifaa
namespace Go.Proofs.Ytidbokheeieifaa
open Go.RowKit Go.Shelf

attribute [local go_sem] Oper.semAt_some

/-- The struct of a term, as the cells hold it. -/
structure Nd where
  k : Int
  n : Int
  s : ByteArray
  a : Option Addr
  m : Nat
  c : Nat
def Nd.none : Nd := ⟨0, 0, ByteArray.empty, Option.none, 0, 0⟩
def Nd.cs (d : Nd) : List Value := [.int .i64 d.k, .int .i64 d.n, .string d.s, .slice d.a d.m d.c]

/-- What has come when q rounds are over. -/
def upto {α : Type} (f : Nat → α) (q : Nat) : List α := (List.range q).map f
theorem upto_succ {α : Type} (f : Nat → α) (q : Nat) : upto f (q + 1) = upto f q ++ [f q] := by simp [upto, List.range_succ]
theorem upto_length {α : Type} (f : Nat → α) (q : Nat) : (upto f q).length = q := by simp [upto]

/-- The nodes from the last to the first, with their indices. -/
def backF (ds : List Nd) (j : Nat) : Nat × Nd := (ds.length - 1 - j, (ds[ds.length - 1 - j]?).getD Nd.none)
theorem back_next (ds : List Nd) (p : Nat) (d : Nd) (h : ds[p]? = some d) : upto (backF ds) (ds.length - p) = upto (backF ds) (ds.length - (p + 1)) ++ [(p, d)] := by
  have hp := (List.getElem?_eq_some_iff.1 h).1
  have e1 : ds.length - p = ds.length - (p + 1) + 1 := by omega
  have e2 : backF ds (ds.length - (p + 1)) = (p, d) := by
    have e3 : ds.length - 1 - (ds.length - (p + 1)) = p := by omega
    unfold backF
    rw [e3, h]; rfl
  rw [e1, upto_succ, e2]
theorem back_all (ds : List Nd) : (upto (backF ds) ds.length).map Prod.snd = ds.reverse := by
  apply List.ext_getElem
  · simp [upto]
  · intro i h1 h2
    have hi : i < ds.length := by simpa [upto] using h1
    have h3 : ds.length - 1 - i < ds.length := by omega
    simp [upto, backF, List.getElem_reverse, h3]

/-- The nodes of a row lie in the cells from o on. -/
def NdsAt (w : World) (b o : Nat) (ds : List Nd) : Prop := ∀ j d, ds[j]? = some d → w.cell? ⟨b, o + j * 4, none⟩ = some (.int .i64 d.k) ∧ w.cell? ⟨b, o + j * 4 + 1, none⟩ = some (.int .i64 d.n) ∧
  w.cell? ⟨b, o + j * 4 + 2, none⟩ = some (.string d.s) ∧ w.cell? ⟨b, o + j * 4 + 3, none⟩ = some (.slice d.a d.m d.c)
theorem NdsAt.below {n₀ : Nat} {A B : World} (h : Below n₀ A B) {b o : Nat} {ds : List Nd} (hb : b < n₀) (k : NdsAt A b o ds) : NdsAt B b o ds := fun j d hj => by
  obtain ⟨c0, c1, c2, c3⟩ := k j d hj
  exact ⟨(h.cell (p := ⟨b, o + j * 4, none⟩) hb).trans c0, (h.cell (p := ⟨b, o + j * 4 + 1, none⟩) hb).trans c1, (h.cell (p := ⟨b, o + j * 4 + 2, none⟩) hb).trans c2, (h.cell (p := ⟨b, o + j * 4 + 3, none⟩) hb).trans c3⟩

/-- What a round must keep: what lay below n₀, and the box that the iterator reads. -/
def KpB (Bs n₀ : Nat) (A B : World) : Prop := Below n₀ A B ∧ ∀ v, Boxed A Bs 24 v → Boxed B Bs 24 v
theorem KpB.refl (Bs n₀ : Nat) (A : World) : KpB Bs n₀ A A := ⟨Below.refl _ _, fun _ h => h⟩
theorem KpB.trans {Bs n₀ : Nat} {A B C : World} (h : KpB Bs n₀ A B) (k : KpB Bs n₀ B C) : KpB Bs n₀ A C := ⟨h.1.trans k.1, fun v q => k.2 v (h.2 v q)⟩

set_option maxRecDepth 100000 in
set_option maxHeartbeats 2000000 in
theorem back1_in (F : Fence) (n : Nat) (hF : F.fn 151) (hro : F.round = none) (hn : 1 ≤ n) (l Bs n₀ b o cap : Nat) (ds : List Nd) (hlen : ds.length ≤ 4294967296) (hb : b < n₀) (J Jx : List (Nat × Nd) → World → Prop)
    (hY : ∀ pre x W, J pre W → pre.length < ds.length → YieldAt F (n - 1) Try.prog l #[.int .i64 (x.1 : Int), tv x.2.k x.2.n x.2.s (.slice x.2.a x.2.m x.2.c)] W fun e W' =>
      (e = .returned (.bool true) ∧ J (pre ++ [x]) W' ∧ KpB Bs n₀ W W') ∨ (e = .returned (.bool false) ∧ Jx (pre ++ [x]) W'))
    (W : World) (hBs : Boxed W Bs 24 (.slice (some ⟨b, o, none⟩) ds.length cap)) (hc : NdsAt W b o ds) (h0 : J [] W) :
    CallsIn F n Try.prog 151 #[.func (.yield l) #[] #[], .pointer (some ⟨Bs, 0, none⟩)] W fun e W' => (∃ v, e = .returned v) ∧
      ((∃ ys, ys = upto (backF ds) ds.length ∧ J ys W') ∨ (∃ pre, (∃ k, k ≤ ds.length ∧ pre = upto (backF ds) k) ∧ Jx pre W')) := by
  refine callsIn_of_wp Try.func151 rfl hF ?_ hro
  simp only [Try.ntmps151, List.size_toArray, List.length_cons, List.length_nil, Nat.reduceAdd, Nat.reduceSub, Array.replicate_succ, Array.replicate_zero, List.push_toArray, List.append_toArray, List.nil_append, List.cons_append]
  have hbc := hBs.cell
  gi_wp2
  gi_loopw [3] (fun i wr => ∃ q : Nat, q ≤ ds.length ∧ i = .int .i64 ((q : Int) - 1) ∧ J (upto (backF ds) (ds.length - q)) wr ∧ KpB Bs n₀ W wr)
    (fun i _ => (intOf i + 1).toNat)
  case atStart => exact ⟨ds.length, Nat.le_refl _, rfl, by rw [Nat.sub_self]; exact h0, KpB.refl _ _ _⟩
  case round =>
    obtain ⟨q, hq, rfl, hJs, hnx⟩ := hrel
    cases q with
    | succ p =>
      obtain ⟨d, hd⟩ : ∃ d, ds[p]? = some d := ⟨_, List.getElem?_eq_getElem (by omega)⟩
      obtain ⟨d0, d1, d2, d3⟩ := (hc.below hnx.1 hb) p d hd
      have hbx := (hnx.2 _ hBs).cell
      obtain ⟨fn, tmps, assign, body, hy, hR⟩ := hY _ (p, d) wr hJs (by rw [upto_length]; omega)
      dsimp only at hy
      have e1 : (((p + 1 : Nat) : Int) - 1) = (p : Int) := by omega
      rw [e1]
      have hpl : p < ds.length := by omega
      have hnext := back_next ds p d hd
      have HNX := Lib.hid hnext; clear hnext
      have HD := Lib.hid hd; clear hd
      gi_wp2
      refine hR.mono ?_
      rintro e W3 (⟨rfl, hJ3, hk3⟩ | ⟨rfl, hJx3⟩)
      · gi_wp2
        go_roundw
        case rel => exact ⟨p, by omega, rfl, by rw [HNX.out]; exact hJ3, hnx.trans hk3⟩
        case measure => simp [intOf]
      · gi_wp2
        refine bodyPost_ret (results_none rfl _ _ _) rfl ?_
        exact ⟨⟨_, rfl⟩, .inr ⟨_, ⟨ds.length - p, by omega, HNX.out.symm⟩, hJx3⟩⟩
    | zero =>
      gi_wp2
      go_end0
      exact ⟨⟨_, rfl⟩, .inl ⟨_, by simp, hJs⟩⟩

set_option maxRecDepth 100000 in
set_option maxHeartbeats 1000000 in
/-- .. over no term: no round. -/
theorem back0_in (F : Fence) (n : Nat) (hF : F.fn 151) (hro : F.round = none) (l Bs : Nat) (a : Option Addr) (cap : Nat) (J : List (Nat × Nd) → World → Prop) (W : World) (hBs : Boxed W Bs 24 (.slice a 0 cap)) (h0 : J [] W) :
    CallsIn F n Try.prog 151 #[.func (.yield l) #[] #[], .pointer (some ⟨Bs, 0, none⟩)] W fun e W' => (∃ v, e = .returned v) ∧ J [] W' := by
  refine callsIn_of_wp Try.func151 rfl hF ?_ hro
  simp only [Try.ntmps151, List.size_toArray, List.length_cons, List.length_nil, Nat.reduceAdd, Nat.reduceSub, Array.replicate_succ, Array.replicate_zero, List.push_toArray, List.append_toArray, List.nil_append, List.cons_append]
  have hbc := hBs.cell
  gi_wp2
  gi_loopw [3] (fun i wr => i = .int .i64 (-1) ∧ J [] wr) (fun _ _ => 0)
  case atStart => exact ⟨rfl, h0⟩
  case round =>
    obtain ⟨rfl, hJs⟩ := hrel
    gi_wp2
    go_end0
    exact ⟨⟨_, rfl⟩, hJs⟩

set_option maxHeartbeats 1000000 in
/-- slices.Backward(s): the slice value is boxed; the function value captures the box. -/
theorem backward_in (F : Fence) (n : Nat) (hF : F.fn 127) (hro : F.round = none) (a : Option Addr) (len cap : Nat) (w : World) :
    CallsIn F n Try.prog 127 #[.slice a len cap] w fun e w' =>
      e = .returned (.func (.func 151) #[] #[.pointer (some ⟨w.heap.size, 0, none⟩)]) ∧ w' = w.alloc (.cells #[.slice a len cap] 24) := by
  refine callsIn_of_wp Try.func127 rfl hF ?_ hro
  simp only [Try.ntmps127, List.size_toArray, List.length_cons, List.length_nil, Nat.reduceAdd, Nat.reduceSub, Array.replicate_succ, Array.replicate_zero, List.push_toArray, List.append_toArray, List.nil_append, List.cons_append]
  gi_wp2
  go_ret
  exact ⟨rfl, rfl⟩

/-- A slice value holds the nodes ds, in a block below n₀; or there are none. -/
def NdsIn (n₀ : Nat) (W : World) (v : Value) (ds : List Nd) : Prop := (∃ a cap, v = .slice a 0 cap ∧ ds = []) ∨ ∃ b o cap, v = .slice (some ⟨b, o, none⟩) ds.length cap ∧ b < n₀ ∧ NdsAt W b o ds

/-- The iterator hands out all nodes, from the last to the first; or a part of them. -/
theorem back_stops (F : Fence) (n : Nat) (hF : F.fn 151) (hro : F.round = none) (hn : 1 ≤ n) (Bs n₀ : Nat) (sv : Value) (ds : List Nd) (hlen : ds.length ≤ 4294967296) (w : World) (hn₀ : n₀ ≤ w.heap.size)
    (hBs : Boxed w Bs 24 sv) (hI : NdsIn n₀ w sv ds) :
    SeqStopsK F n Try.prog 151 #[.pointer (some ⟨Bs, 0, none⟩)] (fun x : Nat × Nd => #[Value.int .i64 (x.1 : Int), tv x.2.k x.2.n x.2.s (.slice x.2.a x.2.m x.2.c)]) (KpB Bs n₀)
      (fun ys => ys = upto (backF ds) ds.length) (fun pre => ∃ k, k ≤ ds.length ∧ pre = upto (backF ds) k) ds.length w := fun l J Jx W hW _ _ hY h0 => by
  have hB' : Boxed W Bs 24 sv := (hW.block Bs hBs.lt).trans hBs
  rcases hI with ⟨a, cap, rfl, rfl⟩ | ⟨b, o, cap, rfl, hb, hcs⟩
  · exact (back0_in F n hF hro l Bs a cap J W hB' h0).mono fun e W' ⟨he, hj⟩ => ⟨he, .inl ⟨_, rfl, hj⟩⟩
  · exact back1_in F n hF hro hn l Bs n₀ b o cap ds hlen hb J Jx hY W hB' (hcs.below (hW.mono hn₀) hb) h0
theorem kpB_b {Bs n₀ : Nat} {w : World} (hn : n₀ ≤ w.heap.size) (hs : Bs < w.heap.size) (W : World) (l : Nat) (o o' : Obj) (hl : w.heap.size ≤ l) (h : W.heap[l]? = some o) (h1 : o.isCells = false) (h2 : o.isWalk = false) : KpB Bs n₀ W (W.putObj l o') :=
  ⟨belowK_b hn W l o o' hl h h1 h2, fun v hv => hv.kept (grownBy_putObj' W l o') (fun e => by cases e; omega)⟩
theorem NdsIn.below {n₀ : Nat} {A B : World} {v : Value} {ds : List Nd} (k : NdsIn n₀ A v ds) (h : Below n₀ A B) : NdsIn n₀ B v ds := by
  rcases k with h0 | ⟨b, o, cap, rfl, hb, hc⟩
  · exact Or.inl h0
  · exact Or.inr ⟨b, o, cap, rfl, hb, hc.below h hb⟩
end Go.Proofs.Ytidbokheeieifaa
