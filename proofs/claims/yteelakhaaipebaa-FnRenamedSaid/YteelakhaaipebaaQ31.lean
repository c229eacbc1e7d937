/-
  impl.appendArgEquations appends the equations of two lists of arguments backwards to a row that the caller owns.
-/
import Derived.Test.YteelakhaaipebaaQ27
import Derived.Test.YteelakhaaipebaaQ28
import Derived.Test.YteelakhaaipebaaQ30
namespace Go.Proofs.Yteelakhaaipebaa
open Go.RowKit Go.Shelf

attribute [local go_sem] Oper.semAt_some

/-- The cells of an equation. -/
def eqC (p : Nd × Nd) : List Value := p.1.cs ++ p.2.cs
def pairI (ds es : List Nd) (x : DsI ds) : Nd × Nd := (x.1.2, (es[x.1.1]?).getD Nd.none)
def EqI (B : Nat) (w : World) (v0 : Value) (nn : Nat) (vs : List Value) (lv rv : Value) (ds es : List Nd) (pre : List (DsI ds)) (W : World) : Prop :=
  ∃ v, (Boxed W w.heap.size 149 v ∧ W.ownsRow B 148 8 v (nn + pre.length) (vs ++ (pre.map (pairI ds es)).flatMap eqC) ∧ Moved v0 w v) ∧ Below B w W ∧ w.grownBy W v0.ownBlock ∧ w.heap.size + 4 ≤ W.heap.size ∧ Boxed W (w.heap.size + 1) 27 lv ∧ Boxed W (w.heap.size + 2) 27 rv
theorem boxed_kept {X Y : World} {b n0 : Nat} {t : TypeId} {v : Value} {row : Option Nat} (hb : Boxed X b t v) (hg : X.grownBy Y row) (hr : ∀ k, row = some k → n0 ≤ k ∧ ∃ o, X.heap[k]? = some o ∧ o.isCells = false) : Boxed Y b t v := by
  refine hb.kept hg (fun e => ?_)
  obtain ⟨_, o, h1, h2⟩ := hr _ e.symm
  unfold Boxed at hb
  rw [hb] at h1; cases h1; cases h2
theorem EqI.own {B : Nat} {w : World} {v0 : Value} {nn : Nat} {vs : List Value} {lv rv : Value} {ds es : List Nd} {n0 : Nat} (hB : B ≤ w.heap.size) (hn : w.heap.size ≤ n0) : OwnFrom n0 (EqI B w v0 nn vs lv rv ds es) := by
  intro pre X Y row hs hg hr
  obtain ⟨v, ⟨hb, ho, hm⟩, hbel, hgr, hz, hbl, hbr⟩ := hs
  have hno : v.ownBlock = none ∨ v.ownBlock ≠ row := by
    rcases ho.2 with ⟨rfl, _⟩ | ⟨g, cap, cur, rfl, _, hc, _⟩
    · exact Or.inl rfl
    · refine Or.inr fun e => ?_
      obtain ⟨_, o, h1, h2⟩ := hr g e.symm
      rw [hc] at h1; cases h1; cases h2
  have hrow : ∀ i, i < w.heap.size → some i ≠ row := by
    intro i hi e
    have := (hr i e.symm).1
    omega
  exact ⟨v, ⟨boxed_kept hb hg hr, ho.kept hg hno, hm⟩, ⟨hg.os.trans hbel.os, hg.tape.trans hbel.tape, hg.output.trans hbel.output, Nat.le_trans hbel.size hg.size, fun i hi => (hg.block i (Nat.lt_of_lt_of_le (Nat.lt_of_lt_of_le hi hB) hgr.size) (hrow i (by omega))).trans (hbel.block i hi)⟩,
    ⟨hg.os.trans hgr.os, hg.tape.trans hgr.tape, hg.output.trans hgr.output, Nat.le_trans hgr.size hg.size, fun i hi hq => (hg.block i (Nat.lt_of_lt_of_le hi hgr.size) (hrow i hi)).trans (hgr.block i hi hq)⟩, Nat.le_trans hz hg.size, boxed_kept hbl hg hr, boxed_kept hbr hg hr⟩

/-- One round more. -/
theorem EqI.step {B : Nat} {w : World} {v0 : Value} {nn : Nat} {vs : List Value} {lv rv : Value} {ds es : List Nd} {pre : List (DsI ds)} {W W' : World} {va : Option Addr} {vc : Nat} (x : DsI ds)
    (hrow : W.ownsRow B 148 8 (.slice va (nn + pre.length) vc) (nn + pre.length) (vs ++ (pre.map (pairI ds es)).flatMap eqC)) (hm : Moved v0 w (.slice va (nn + pre.length) vc)) (hbel : Below B w W) (hgr : w.grownBy W v0.ownBlock)
    (hb1 : Boxed W (w.heap.size + 1) 27 lv) (hb2 : Boxed W (w.heap.size + 2) 27 rv)
    (hf : AppE B w.heap.size (nn + pre.length) va vc (vs ++ (pre.map (pairI ds es)).flatMap eqC) (eqC (pairI ds es x)) W W') (n0 : Nat) (hs : w.heap.size + 4 ≤ W.heap.size) :
    KeepsFrom n0 W W' ∧ KpB (w.heap.size + 3) B W W' ∧ EqI B w v0 nn vs lv rv ds es (pre ++ [x]) W' := by
  obtain ⟨g, cap, ⟨hb, ho⟩, hko, hbl, hst, hmv⟩ := hf
  refine ⟨hko.from _, ⟨hbl, fun v hv => ?_⟩, ⟨_, ⟨hb, ?_, ?_⟩, hbel.trans hbl, ⟨hbl.os.trans hgr.os, hbl.tape.trans hgr.tape, hbl.output.trans hgr.output, Nat.le_trans hgr.size hbl.size, fun i hi hq => ?_⟩, Nat.le_trans hs hbl.size, ?_, ?_⟩⟩
  · exact (hst _ (by omega) (by omega) (hv.not_row (by decide) hrow)).trans hv
  · have e : vs ++ ((pre ++ [x]).map (pairI ds es)).flatMap eqC = (vs ++ (pre.map (pairI ds es)).flatMap eqC) ++ eqC (pairI ds es x) := by
      simp [List.flatMap_append]
    rw [e, List.length_append, List.length_singleton, ← Nat.add_assoc]
    exact ho
  · rcases hmv with h | h
    · rcases hm with k | ⟨j, k1, k2⟩
      · exact Or.inl (by rw [← k, h]; rfl)
      · exact Or.inr ⟨j, by rw [← k1, h]; rfl, k2⟩
    · exact Or.inr ⟨g, rfl, by omega⟩
  · refine (hst i (by omega) (by omega) (fun e => ?_)).trans (hgr.block i hi hq)
    rcases hm with k | ⟨j, k1, k2⟩
    · exact hq (e.trans k)
    · rw [k1] at e; cases e; omega
  · exact (hst _ (by omega) (by omega) (hb1.not_row (by decide) hrow)).trans hb1
  · exact (hst _ (by omega) (by omega) (hb2.not_row (by decide) hrow)).trans hb2

/-- What all rounds append. -/
theorem eq_all {ds es : List Nd} (hl : es.length = ds.length) {ys : List (DsI ds)} (h : ys.map Subtype.val = upto (backF ds) ds.length) : ys.map (pairI ds es) = (ds.zip es).reverse := by
  have e : ys.map (pairI ds es) = (ys.map Subtype.val).map (fun x => (x.2, (es[x.1]?).getD Nd.none)) := by
    rw [List.map_map]; rfl
  rw [e, h]
  apply List.ext_getElem
  · simp [upto, hl]
  · intro i h1 h2
    have hi : i < ds.length := by simpa [upto] using h1
    have h3 : ds.length - 1 - i < ds.length := by omega
    simp [upto, backF, List.getElem_reverse, h3, hl]

set_option maxRecDepth 100000 in
set_option maxHeartbeats 2000000 in
theorem appE_in (F : Fence) (n : Nat) (h52 : F.fn 106) (h79 : F.fn 134) (h93 : F.fn 153) (hro : F.round = none) (hn : 3 ≤ n)
    (a0 : Option Addr) (nn c0 : Nat) (vs : List Value) (a1 : Option Addr) (m1 c1 : Nat) (ds : List Nd) (a2 : Option Addr) (m2 c2 : Nat) (es : List Nd) (B : Nat) (w : World) (hown : w.ownsRow B 148 8 (.slice a0 nn c0) nn vs) (hB : B ≤ w.heap.size) (hI : NdsIn B w (.slice a1 m1 c1) ds) (hI2 : NdsIn B w (.slice a2 m2 c2) es) (hle : es.length = ds.length) (hlen : nn + ds.length ≤ 2097152) (hds : ds.length ≤ 1048576) :
    CallsIn F n Try.prog 106 #[.slice a0 nn c0, .slice a1 m1 c1, .slice a2 m2 c2] w fun e w' =>
      ∃ v', e = .returned v' ∧ w'.ownsRow B 148 8 v' (nn + ds.length) (vs ++ (ds.zip es).reverse.flatMap eqC) ∧ Below B w w' ∧ w.grownBy w' (Value.slice a0 nn c0).ownBlock ∧ Moved (.slice a0 nn c0) w v' := by
  have h1 : 1 ≤ n := by omega
  have HIN := Lib.hid (And.intro hI hI2); clear hI hI2
  have HOW := Lib.hid hown; clear hown
  refine callsIn_of_wp_marks Try.func106 rfl h52 ?_ hro
  simp only [Try.ntmps106, List.size_toArray, List.length_cons, List.length_nil, Nat.reduceAdd, Nat.reduceSub, Array.replicate_succ, Array.replicate_zero, List.push_toArray, List.append_toArray, List.nil_append, List.cons_append]
  gi_wp2_with (gi_at_call 134; refine (backward_in F (n - 1) h79 hro _ _ _ _).mono ?_; rintro e w' ⟨rfl, rfl⟩)
  have bL : Boxed ((((w.alloc (.cells #[.slice a0 nn c0] 149)).alloc (.cells #[.slice a1 m1 c1] 27)).alloc (.cells #[.slice a2 m2 c2] 27)).alloc (.cells #[.slice a1 m1 c1] 27)) w.heap.size 149 (.slice a0 nn c0) := (((Boxed.new w 149 (.slice a0 nn c0)).alloc _).alloc _).alloc _
  have b1 := ((Boxed.new (w.alloc (.cells #[.slice a0 nn c0] 149)) 27 (.slice a1 m1 c1)).alloc (.cells #[.slice a2 m2 c2] 27)).alloc (.cells #[.slice a1 m1 c1] 27)
  have b2 := (Boxed.new ((w.alloc (.cells #[.slice a0 nn c0] 149)).alloc (.cells #[.slice a1 m1 c1] 27)) 27 (.slice a2 m2 c2)).alloc (.cells #[.slice a1 m1 c1] 27)
  have b3 := Boxed.new (((w.alloc (.cells #[.slice a0 nn c0] 149)).alloc (.cells #[.slice a1 m1 c1] 27)).alloc (.cells #[.slice a2 m2 c2] 27)) 27 (.slice a1 m1 c1)
  simp only [World.size_alloc] at b1 b2 b3
  have hB0 : Below w.heap.size w ((((w.alloc (.cells #[.slice a0 nn c0] 149)).alloc (.cells #[.slice a1 m1 c1] 27)).alloc (.cells #[.slice a2 m2 c2] 27)).alloc (.cells #[.slice a1 m1 c1] 27)) := ((((Below.refl _ w).alloc (Nat.le_refl _) _).alloc (by simp) _).alloc (by simp; omega) _).alloc (by simp; omega) _
  have hrow0 : ((((w.alloc (.cells #[.slice a0 nn c0] 149)).alloc (.cells #[.slice a1 m1 c1] 27)).alloc (.cells #[.slice a2 m2 c2] 27)).alloc (.cells #[.slice a1 m1 c1] 27)).ownsRow B 148 8 (.slice a0 nn c0) nn vs := (((HOW.out.alloc _).alloc _).alloc _).alloc _
  obtain ⟨W0, hW0⟩ : ∃ W0, ((((w.alloc (.cells #[.slice a0 nn c0] 149)).alloc (.cells #[.slice a1 m1 c1] 27)).alloc (.cells #[.slice a2 m2 c2] 27)).alloc (.cells #[.slice a1 m1 c1] 27)) = W0 := ⟨_, rfl⟩
  have hsz : W0.heap.size = w.heap.size + 4 := by rw [← hW0]; simp
  rw [hW0] at bL b1 b2 b3 hB0 hrow0 ⊢
  clear hW0
  have hBW : Below B w W0 := hB0.mono hB
  have hI0 : EqI B w (.slice a0 nn c0) nn vs (.slice a1 m1 c1) (.slice a2 m2 c2) ds es [] W0 := ⟨_, ⟨bL, by simpa using hrow0, Or.inl rfl⟩, hBW, Below.toGrown hB0 _, by omega, b1, b2⟩
  have HI0 := Lib.hid hI0; clear hI0
  have HIW := Lib.hid (And.intro (HIN.out.1.below hBW) (HIN.out.2.below hBW))
  have HB0 := Lib.hid hB0
  have HSZ := Lib.hid hsz
  refine wpIn_rangeFunc_ownH hro h1 (gf := 153) (lb := #[.pointer (some ⟨w.heap.size + 3, 0, none⟩)]) rfl h93 (enters_of Try.func153 (by kernel_rfl) rfl)
    (back_stopsS F (n - 1) h93 hro (by omega) (w.heap.size + 3) B _ ds hds W0 (by omega) b3 HIW.out.1) (fun h k => h.trans k) (kpB_b (by omega) (by omega)) (Below.refl _ _) (fun _ => rfl)
    (EqI B w (.slice a0 nn c0) nn vs (.slice a1 m1 c1) (.slice a2 m2 c2) ds es)
    (fun _ _ _ => False)
    (EqI.own hB (by omega))
    (fun _ _ _ _ _ hs _ _ => hs)
    HI0.out
    (fun x a' W => a' = { tmps := #[.slice a0 nn c0, .slice a1 m1 c1, .slice a2 m2 c2, .pointer (some ⟨w.heap.size, 0, none⟩), .pointer (some ⟨w.heap.size + 1, 0, none⟩), .pointer (some ⟨w.heap.size + 2, 0, none⟩), .slice none 0 0, .int .i64 (x.1.1 : Int), .slice a1 m1 c1, .func (.func 153) #[] #[.pointer (some ⟨w.heap.size + 3, 0, none⟩)], .int .i64 (x.1.1 : Int), tv x.1.2.k x.1.2.n x.1.2.s (.slice x.1.2.a x.1.2.m x.1.2.c), undef, undef, undef, undef, undef, undef, undef, undef, undef, undef, undef, undef, undef], defers := [] })
    (fun x a' _ X Y row hs hg hr => hs)
    ?assign ?body ?done ?stop
  case assign =>
    rintro l pre x W K hI hK
    have HI2 := Lib.hid hI; clear hI
    gi_wp2
    exact hK _ _ (KeepsFrom.refl _ _) (KpB.refl _ _ _) HI2.out rfl
  case body =>
    rintro l pre x a' W hl ⟨r, hr⟩ ⟨v, ⟨bv, hrow, hmv⟩, hBel, hgr, hz, bl, br⟩ rfl hlt
    obtain ⟨va, vc, rfl⟩ : ∃ a c, v = .slice a (nn + pre.length) c := by
      rcases hrow.2 with ⟨rfl, h0⟩ | ⟨g, cp, cur, rfl, _⟩
      · exact ⟨none, 0, by rw [h0]⟩
      · exact ⟨_, cp, rfl⟩
    have HST := Lib.hid (fun W' hf => EqI.step (W' := W') x hrow hmv hBel hgr bl br hf W0.heap.size hz)
    obtain ⟨⟨p, d⟩, hx⟩ := x
    have hpl : p < ds.length := (List.getElem?_eq_some_iff.1 hx).1
    obtain ⟨e2, he2⟩ : ∃ e2, es[p]? = some e2 := ⟨_, List.getElem?_eq_getElem (by omega)⟩
    have hpair : eqC (pairI ds es ⟨(p, d), hx⟩) = [.int .i64 d.k, .int .i64 d.n, .string d.s, .slice d.a d.m d.c, .int .i64 e2.k, .int .i64 e2.n, .string e2.s, .slice e2.a e2.m e2.c] := by
      simp only [eqC, pairI, he2]; rfl
    rw [hpair] at HST
    have hNl : NdsIn B W (.slice a1 m1 c1) ds := HIN.out.1.below hBel
    have hNr : NdsIn B W (.slice a2 m2 c2) es := HIN.out.2.below hBel
    rcases hNl with ⟨_, _, _, h0⟩ | ⟨b1', o1, cap1, e1, hb1, hcl⟩
    · rw [h0] at hpl; simp at hpl
    rcases hNr with ⟨_, _, _, h0⟩ | ⟨b2', o2, cap2, e3, hb2, hcr⟩
    · rw [h0] at hle; simp at hle; omega
    simp only [Value.slice.injEq] at e1 e3
    obtain ⟨rfl, rfl, rfl⟩ := e1
    obtain ⟨rfl, rfl, rfl⟩ := e3
    rw [hle] at br
    have HR := Lib.hid hrow; clear hrow
    have HBV := Lib.hid bv; clear bv
    have HBL := Lib.hid (And.intro bl br); clear bl br
    have HCL := Lib.hid (hcl p d hx); have HCR := Lib.hid (hcr p e2 he2)
    have HPL := Lib.hid hpl
    clear hr hmv hBel hgr hz hcl hcr hpair
    rw [hle] at HST
    rw [hle]
    gi_wp2_with fail
    change (Code.region 3 eqnOps true).wpIn _ _ _ _ _ _
    refine eqn_region F l _ _ _ _ _ _ _ _ _ _ _ _ _ _ _ _ _ _ _ _ _ _ _ _ _ _ _ _ _ _ _ _ _ _ _ _ _ _ _ _ _ _ _ _ _ _ _ _ _ _ _ _ HBV.out HBL.out.1 HBL.out.2 HCL.out HCR.out HR.out hB (by omega) HPL.out (fun a' W' hf => ?_)
    exact HST.out W' hf
  case done =>
    rintro D ys W hD hys ⟨v, ⟨bv, hrow, hmv⟩, hBel, hgr, hz, _, _⟩ hK
    have hcv := bv.cell
    rw [eq_all hle hys] at hrow
    have hyl : ys.length = ds.length := by have h := congrArg List.length hys; simpa [upto_length] using h
    rw [hyl] at hrow
    have HROW := Lib.hid hrow
    clear hrow
    gi_wp2
    refine ⟨by simp, .inl ⟨_, _, rfl, run_takeDeferred hK, ?_⟩⟩
    have hbd : Below w.heap.size W (W.putObj D (.deferred none)) := belowK_b (w := w) (Nat.le_refl _) W D _ _ (by omega) hK rfl rfl
    exact ⟨_, results_tmp rfl _ _ _, v, rfl, ownsRow_putObj HROW.out _ hK rfl, hBel.trans (hbd.mono hB), grown_behind hgr hbd, hmv⟩
  case stop =>
    rintro D c pre W _ _ h _
    exact h.elim

/-- The same, unfenced. -/
theorem appE_any (a0 : Option Addr) (nn c0 : Nat) (vs : List Value) (a1 : Option Addr) (m1 c1 : Nat) (ds : List Nd) (a2 : Option Addr) (m2 c2 : Nat) (es : List Nd) (B : Nat) (w : World) (hown : w.ownsRow B 148 8 (.slice a0 nn c0) nn vs) (hB : B ≤ w.heap.size) (hI : NdsIn B w (.slice a1 m1 c1) ds) (hI2 : NdsIn B w (.slice a2 m2 c2) es) (hle : es.length = ds.length) (hlen : nn + ds.length ≤ 2097152) (hds : ds.length ≤ 1048576) :
    Calls Try.prog 106 #[.slice a0 nn c0, .slice a1 m1 c1, .slice a2 m2 c2] w fun e w' =>
      ∃ v', e = .returned v' ∧ w'.ownsRow B 148 8 v' (nn + ds.length) (vs ++ (ds.zip es).reverse.flatMap eqC) ∧ Below B w w' ∧ w.grownBy w' (Value.slice a0 nn c0).ownBlock ∧ Moved (.slice a0 nn c0) w v' :=
  (callsIn_wide (n := 3)).1 (appE_in Fence.wide 3 trivial trivial trivial rfl (Nat.le_refl _) a0 nn c0 vs a1 m1 c1 ds a2 m2 c2 es B w hown hB hI hI2 hle hlen hds)
end Go.Proofs.Yteelakhaaipebaa
