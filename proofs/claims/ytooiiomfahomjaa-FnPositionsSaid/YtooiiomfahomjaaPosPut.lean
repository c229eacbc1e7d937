/-
  spec.l4Put and spec.ReplaceAt: a copy of a term in which the subterm at a position is replaced.
-/
import Derived.Test.YtooiiomfahomjaaPosS
import Derived.Test.YtooiiomfahomjaaTermEq
import Derived.Test.YtooiiomfahomjaaIntsMark
import Derived.Deep.RegionHeld3
namespace Go.Proofs.Ytooiiomfahomjaa
open Go.RowKit

/-- A term in new blocks. -/
def NewT (x : T) (w : World) (e : Ending) (w' : World) : Prop := ∃ k n s a m c h, e = .returned (tv k n s (.slice a m c)) ∧ TermAt w' w.heap.size h (tv k n s (.slice a m c)) x ∧ Below w.heap.size w w'

def PutAt (ps : List Int) : Prop := ∀ (v p uv : Value) (t u y : T) (lo lo2 h h2 : Nat) (w : World), TermAt w lo h v t → IntsAt w p ps → TermAt w lo2 h2 uv u → subT ps t = some y → wT t ≤ 1048576 → wT u ≤ 1048576 →
  Calls Try.prog 28 #[v, p, uv] w (NewT (putT ps t u) w)

theorem new_fin {w wr : World} {b : Nat} {k n : Int} {s : ByteArray} {a : Option Addr} {m c h : Nat} {x : T} (ht : TermAt wr (w.heap.size + 3) h (tv k n s (.slice a m c)) x) (hb : Below w.heap.size w wr) (h0 : w.heap.size ≤ b) (h1 : b < w.heap.size + 3) (v0 v1 v2 v3 : Value) :
    NewT x w (.returned (tv k n s (.slice a m c))) ((((wr.setCell ⟨b, 0, none⟩ v0).setCell ⟨b, 1, none⟩ v1).setCell ⟨b, 2, none⟩ v2).setCell ⟨b, 3, none⟩ v3) := by
  have q1 := ht.grown (set_grown wr b 0 v0) (fun j e => by cases e; omega)
  have q2 := q1.grown (set_grown _ b 1 v1) (fun j e => by cases e; omega)
  have q3 := q2.grown (set_grown _ b 2 v2) (fun j e => by cases e; omega)
  have q4 := q3.grown (set_grown _ b 3 v3) (fun j e => by cases e; omega)
  exact ⟨k, n, s, a, m, c, h, rfl, q4.low (by omega), (((hb.setCell h0 _).setCell h0 _).setCell h0 _).setCell h0 _⟩

/-- A struct stored into a row of the call's own. -/
theorem row_put {B g m c i h h5 lo5 : Nat} {w5 : World} {xs : List T} {x' : T} {vs : List Value} {k5 n5 : Int} {s5 : ByteArray} {a5 : Option Addr} {m5 c5 : Nat} (ho : w5.ownsRow B 26 4 (.slice (some ⟨g, 0, none⟩) m c) m vs) (hr : RowP (fun j => B ≤ j ∧ j ≠ g) w5 h xs vs)
    (hm : m = xs.length) (hl : m ≤ maxLen) (hi : i < m) (hx : TermAt w5 lo5 h5 (tv k5 n5 s5 (.slice a5 m5 c5)) x') (hlo : g < lo5) :
    ArgsAt ((((w5.setCell ⟨g, i * 4, none⟩ (.int .i64 k5)).setCell ⟨g, i * 4 + 1, none⟩ (.int .i64 n5)).setCell ⟨g, i * 4 + 2, none⟩ (.string s5)).setCell ⟨g, i * 4 + 3, none⟩ (.slice a5 m5 c5)) B (max h h5 + 1) (.slice (some ⟨g, 0, none⟩) m c) (xs.set i x') := by
  have o4 := (((((ho.stored (i * 4) (.int .i64 k5)).1.stored (i * 4 + 1) (.int .i64 n5)).1.stored (i * 4 + 2) (.string s5)).1).stored (i * 4 + 3) (.slice a5 m5 c5)).1
  have hvl : vs.length = m * 4 := ho.1
  obtain ⟨_, _, _, _, ys, e1, rfl, hs5, ha5⟩ := hx
  cases e1
  have hBg : B ≤ g := own_base ho
  have G : ∀ (W : World) (j : Nat) (v : Value), W.grownBy (W.setCell ⟨g, j, none⟩ v) (some g) := fun W j v => set_grown W g j v
  refine ⟨_, c, by rw [List.length_set, hm], by rw [List.length_set]; omega, Or.inr ⟨g, 0, rfl, hBg, fun j kk nn ss txs hj => ?_⟩⟩
  have hjl : j < xs.length := by have := (List.getElem?_eq_some_iff.1 hj).1; simpa using this
  by_cases hij : i = j
  · subst hij
    rw [List.getElem?_set_self (by omega)] at hj
    simp only [Option.some.injEq, T.node.injEq] at hj
    obtain ⟨rfl, rfl, rfl, rfl⟩ := hj
    refine ⟨hs5, .slice a5 m5 c5, ?_, ?_, ?_, ?_, ?_⟩
    · rw [Nat.zero_add, o4.cellAt (i * 4) (by omega)]; simp [List.getElem?_set]; omega
    · rw [Nat.zero_add, o4.cellAt (i * 4 + 1) (by omega)]; simp [List.getElem?_set]; omega
    · rw [Nat.zero_add, o4.cellAt (i * 4 + 2) (by omega)]; simp [List.getElem?_set]; omega
    · rw [Nat.zero_add, o4.cellAt (i * 4 + 3) (by omega)]; simp [List.getElem?_set]; omega
    · have hg : ∀ j, some g = some j → j < lo5 := fun j e => by cases e; exact hlo
      exact ((((ha5.grown (G _ _ _) hg).grown (G _ _ _) hg).grown (G _ _ _) hg).grown (G _ _ _) hg).low (by omega) |>.le (by omega)
  · rw [List.getElem?_set_ne hij] at hj
    obtain ⟨hs, a, m2, c2, x0, x1, x2, x3, _⟩ := hr.rowV.at j kk nn ss txs hj
    obtain ⟨a', m', c', y3, ha⟩ := hr.at j kk nn ss txs hj
    rw [x3] at y3
    cases y3
    refine ⟨hs, .slice a m2 c2, ?_, ?_, ?_, ?_, ?_⟩
    · rw [Nat.zero_add, o4.cellAt (j * 4) (by omega), set4 (a := i * 4) (p := j * 4) (by omega) (by omega) (by omega) (by omega), x0]
    · rw [Nat.zero_add, o4.cellAt (j * 4 + 1) (by omega), set4 (a := i * 4) (p := j * 4 + 1) (by omega) (by omega) (by omega) (by omega), x1]
    · rw [Nat.zero_add, o4.cellAt (j * 4 + 2) (by omega), set4 (a := i * 4) (p := j * 4 + 2) (by omega) (by omega) (by omega) (by omega), x2]
    · rw [Nat.zero_add, o4.cellAt (j * 4 + 3) (by omega), set4 (a := i * 4) (p := j * 4 + 3) (by omega) (by omega) (by omega) (by omega), x3]
    · have hg : ∀ j, (B ≤ j ∧ j ≠ g) → j ≠ g := fun j hj => hj.2
      exact ((((ha.grown (G _ _ _) hg).grown (G _ _ _) hg).grown (G _ _ _) hg).grown (G _ _ _) hg).args (fun j hj => hj.1) |>.le (by omega)

/-- Three boxes, one behind the other. -/
theorem box_three (w : World) (k n : Int) (s : ByteArray) (u : Value) (k2 n2 : Int) (s2 : ByteArray) (u2 : Value) {W : World} (hW : W = ((boxed (boxed w k n s u) k2 n2 s2 u2).alloc (.cells #[.int .i64 0, .int .i64 0, .string ⟨#[]⟩, .slice none 0 0] 26))) :
    W.heap.size = w.heap.size + 3 ∧ W.heap[w.heap.size]? = some (trow k n s u) ∧ W.heap[w.heap.size + 1]? = some (trow k2 n2 s2 u2) ∧ W.heap[w.heap.size + 2]? = some (trow 0 0 ByteArray.empty (.slice none 0 0)) ∧ Below w.heap.size w W := by
  subst hW
  refine ⟨by simp, ?_, ?_, ?_, ((boxed_below w k n s u).trans ((boxed_below (boxed w k n s u) k2 n2 s2 u2).mono (by simp))).alloc (by simp; omega) _⟩
  · rw [Below.heap_alloc _ _ _ (by simp; omega), Below.heap_alloc _ _ _ (by simp)]; exact heap_new w _ rfl
  · rw [Below.heap_alloc _ _ _ (by simp)]; exact heap_new _ _ (by simp)
  · exact heap_new _ _ (by simp)

set_option maxRecDepth 100000 in
set_option maxHeartbeats 3200000 in
theorem put_nil : PutAt [] := by
  intro v p uv t u y lo lo2 h h2 w ht hp hu _ hw hwu
  obtain ⟨k, n, s, a, m, cap, rfl⟩ := ht.shape
  obtain ⟨k2, n2, s2, a2, m2, cap2, rfl⟩ := hu.shape
  obtain ⟨pa, pc, rfl⟩ := hp.slice
  obtain ⟨W, hW⟩ : ∃ W, W = ((boxed (boxed w k n s (.slice a m cap)) k2 n2 s2 (.slice a2 m2 cap2)).alloc (.cells #[.int .i64 0, .int .i64 0, .string ⟨#[]⟩, .slice none 0 0] 26)) := ⟨_, rfl⟩
  obtain ⟨hz, r0, r1, r2, hb⟩ := box_three w _ _ _ _ _ _ _ _ hW
  have HCALL := Lib.hid (lcopy_any h2 _ u lo2 W (hu.below hb) hwu)
  have HB := Lib.hid hb; clear hb
  have HR := Lib.hid r2; clear r0 r1 r2
  have HZ := Lib.hid hz; clear hz
  have HE := Lib.hid (putT_nil t u)
  clear ht hp hu
  go_enter Try.func28, Try.ntmps28
  go_wp2_with fail
  rw [← hW]
  clear hW
  refine HCALL.out.mono ?_
  rintro e w5 ⟨k5, n5, s5, a5, m5, c5, rfl, ht5, hb5⟩
  have q2 := (hb5.block (w.heap.size + 2) (by have := HZ.out; omega)).trans HR.out
  obtain ⟨⟨y0, y1, y2, y3⟩, g0, g1, g2, g3⟩ := cells_of4 q2
  have HF : Hid (∀ v0 v1 v2 v3, NewT (putT [] t u) w (.returned (tv k5 n5 s5 (.slice a5 m5 c5))) ((((w5.setCell ⟨w.heap.size + 2, 0, none⟩ v0).setCell ⟨w.heap.size + 2, 1, none⟩ v1).setCell ⟨w.heap.size + 2, 2, none⟩ v2).setCell ⟨w.heap.size + 2, 3, none⟩ v3)) :=
    Lib.hid (fun v0 v1 v2 v3 => by rw [HE.out]; rw [HZ.out] at ht5; exact new_fin ht5 (HB.out.trans (hb5.mono HB.out.size)) (by omega) (by omega) _ _ _ _)
  clear ht5 hb5 q2
  go_wp2
  (try simp only [Exit.inBlock, Exit.then])
  refine bodyPost_ret (v := tv k5 n5 s5 (.slice a5 m5 c5)) ?hr rfl ?_
  case hr =>
    rw [results_cell (a := 6) (t := 26) (ad := ⟨w.heap.size + 2, 0, none⟩) rfl rfl]
    go_simp
  exact HF.out _ _ _ _

set_option maxRecDepth 100000 in
set_option maxHeartbeats 800000 in
theorem put_step (z : Int) (ps : List Int) (hl : ps.length ≤ 4194304) (IH : PutAt ps) : PutAt (z :: ps) := by
  intro v p uv t u y lo lo2 h h2 w ht hp hu hsub hw hwu
  obtain ⟨k, n, s, uu, xs, rfl, rfl, hs, ha⟩ := ht
  obtain ⟨a, cap, rfl⟩ := ha.slice
  obtain ⟨k2, n2, s2, a2, m2, cap2, rfl⟩ := hu.shape
  obtain ⟨pa, pc, rfl⟩ := hp.slice
  obtain ⟨x, hax, hsx⟩ : ∃ x, argT (.node k n s xs) z = some x ∧ subT ps x = some y := by
    rw [subT_cons] at hsub
    cases e : argT (.node k n s xs) z with
    | none => rw [e] at hsub; cases hsub
    | some x => rw [e] at hsub; exact ⟨x, rfl, hsub⟩
  have hz0 : 0 ≤ z ∧ z < (xs.length : Int) := by
    by_cases h : 0 ≤ z ∧ z < ((kT (.node k n s xs)).length : Int)
    · exact h
    · rw [argT_out h] at hax; cases hax
  obtain ⟨i, x', rfl, hxi, hax'⟩ := argT_in (t := T.node k n s xs) hz0.1 hz0.2
  rw [hax] at hax'
  cases hax'
  have hxw := argT_w hax
  obtain ⟨h', b, o, k3, n3, s3, xs3, u3, e, rfl, rfl, hs3, d0, d1, d2, d3, har⟩ := ha.at hxi
  obtain ⟨a3, cap3, rfl⟩ := har.slice
  obtain ⟨pb, po, rfl, hp0⟩ := hp.at (i := 0) (p := (i : Int)) rfl
  have hpcap := hp.cap
  simp only [List.length_cons] at hpcap
  obtain ⟨ta, tl, tcap, hptail, hways⟩ : ∃ ta tl tcap, IntsAt w (.slice ta tl tcap) ps ∧ ((ps = [] ∧ pc = 1 ∧ ta = some ⟨pb, po, none⟩ ∧ tl = 0 ∧ tcap = 0) ∨ (¬ pc = 1 ∧ ta = some ⟨pb, po + 1, none⟩ ∧ tl = ps.length ∧ tcap = pc - 1)) := by
    by_cases h1 : pc = 1
    · have h0 : ps = [] := List.eq_nil_of_length_eq_zero (by omega)
      exact ⟨_, 0, _, ⟨some ⟨pb, po, none⟩, 0, by rw [h0]; rfl, by rw [h0]; simp, Or.inl h0⟩, Or.inl ⟨h0, h1, rfl, rfl, rfl⟩⟩
    · exact ⟨_, _, _, hp.tail, Or.inr ⟨h1, rfl, rfl, rfl⟩⟩
  obtain ⟨W, hW⟩ : ∃ W, W = ((boxed (boxed w k n s (.slice (some ⟨b, o, none⟩) xs.length cap)) k2 n2 s2 (.slice a2 m2 cap2)).alloc (.cells #[.int .i64 0, .int .i64 0, .string ⟨#[]⟩, .slice none 0 0] 26)) := ⟨_, rfl⟩
  obtain ⟨hz, r0, r1, r2, hb⟩ := box_three w _ _ _ _ _ _ _ _ hW
  have htW : TermAt W lo h (tv k n s (.slice (some ⟨b, o, none⟩) xs.length cap)) (.node k n s xs) := ⟨k, n, s, _, xs, rfl, rfl, hs, ha.below hb⟩
  have HCOPY := Lib.hid (lcopyO_any h _ _ lo W htW hw)
  have HCALL : Hid (∀ W', Below w.heap.size w W' → Calls Try.prog 28 #[tv k3 n3 s3 (.slice a3 xs3.length cap3), .slice ta tl tcap, tv k2 n2 s2 (.slice a2 m2 cap2)] W' (NewT (putT ps (.node k3 n3 s3 xs3) u) W')) :=
    Lib.hid (fun W' hb' => IH _ _ _ _ u y lo lo2 h' h2 W' ⟨k3, n3, s3, _, xs3, rfl, rfl, hs3, har.below hb'⟩ (hptail.below hb') (hu.below hb') hsx (Nat.le_trans hxw hw) hwu)
  have HPUT := Lib.hid (putT_cons i ps k n s xs _ u hxi)
  have HB := Lib.hid hb; clear hb
  have HR := Lib.hid (And.intro r0 (And.intro r1 r2)); clear r0 r1 r2
  have HZ := Lib.hid hz; clear hz
  have HD := Lib.hid (And.intro d0 (And.intro d1 (And.intro d2 d3))); clear d0 d1 d2 d3
  have HP0 := Lib.hid hp0; clear hp0
  have hil : i < xs.length := by have := hz0.2; omega
  have hxl : xs.length ≤ 1048576 := by rw [wT_node] at hw; omega
  clear htW ha hp hptail hu hax hsub hxi hz0 hxw har hs3 hs hsx IH e hw hwu
  go_enter Try.func28, Try.ntmps28
  go_wp2_with fail
  rw [← hW]
  clear hW
  refine HCOPY.out.mono ?_
  rintro e w1 ⟨k1, n1, s1, a1, m1, c1, xs1, vs, rfl, et, hs1, hm1, hl1, h0, ho, hrp, hb1⟩
  cases et
  subst hm1
  obtain ⟨g, cg, eg, hgB⟩ : ∃ g cg, Value.slice a1 xs.length c1 = .slice (some ⟨g, 0, none⟩) xs.length cg ∧ W.heap.size ≤ g := by
    rcases own_slice ho with ⟨_, h0⟩ | q
    · omega
    · exact q
  cases eg
  have hrp2 := hrp.imp (Q := fun j => W.heap.size ≤ j ∧ j ≠ g) (fun j hj => ⟨hj.1, fun e => hj.2.1 (by rw [e]; rfl)⟩)
  clear hrp h0
  have hgl : g < w1.heap.size := (ho.lt g rfl).2
  have hbx := boxed_below w1 k n s (.slice (some ⟨g, 0, none⟩) xs.length c1)
  have hbc := boxed_cells (Below.refl (boxed w1 k n s (.slice (some ⟨g, 0, none⟩) xs.length c1)).heap.size (boxed w1 k n s (.slice (some ⟨g, 0, none⟩) xs.length c1)))
  obtain ⟨Y1, hY1⟩ : ∃ Y1, Y1 = w1.alloc (.cells #[.int .i64 k, .int .i64 n, .string s, .slice (some ⟨g, 0, none⟩) xs.length c1] 26) := ⟨_, rfl⟩
  rw [show boxed w1 k n s (.slice (some ⟨g, 0, none⟩) xs.length c1) = Y1 from hY1.symm] at hbx hbc
  have hW1 : Below W.heap.size W Y1 := hb1.trans (hbx.mono hb1.size)
  have hw1 : Below w.heap.size w Y1 := HB.out.trans (hW1.mono HB.out.size)
  have HOB : Hid (Y1.heap[w1.heap.size]? = some (trow k n s (.slice (some ⟨g, 0, none⟩) xs.length c1))) := Lib.hid (by rw [hY1]; exact heap_new w1 _ rfl)
  have HOWN := Lib.hid (And.intro (keep_own ho hbx) (hrp2.keep (w' := Y1) fun ad x _ hx => cell_on hbx hx))
  have hsz1 : w1.heap.size < Y1.heap.size := by rw [hY1]; simp
  have HW1 := Lib.hid hw1
  have HZ1 : Hid (w.heap.size + 3 ≤ w1.heap.size) := Lib.hid (by have := HZ.out; have := hb1.size; omega)
  have HK : Hid (∀ Y, Below Y1.heap.size Y1 Y → (Y.heap[w.heap.size]? = some (trow k n s (.slice (some ⟨b, o, none⟩) xs.length cap)) ∧ Y.heap[w.heap.size + 1]? = some (trow k2 n2 s2 (.slice a2 m2 cap2)) ∧ Y.heap[w.heap.size + 2]? = some (trow 0 0 ByteArray.empty (.slice none 0 0)) ∧
      Y.heap[w1.heap.size]? = some (trow k n s (.slice (some ⟨g, 0, none⟩) xs.length c1)) ∧ Y.cell? ⟨pb, po, none⟩ = some (iv i) ∧ Y.cell? ⟨b, o + i * 4, none⟩ = some (.int .i64 k3) ∧ Y.cell? ⟨b, o + i * 4 + 1, none⟩ = some (.int .i64 n3) ∧ Y.cell? ⟨b, o + i * 4 + 2, none⟩ = some (.string s3) ∧ Y.cell? ⟨b, o + i * 4 + 3, none⟩ = some (.slice a3 xs3.length cap3) ∧
      Y.ownsRow W.heap.size 26 4 (.slice (some ⟨g, 0, none⟩) xs.length c1) xs.length vs ∧ RowP (fun j => W.heap.size ≤ j ∧ j ≠ g) Y (h - 1) xs vs ∧ Below w.heap.size w Y)) := Lib.hid (fun Y hY => by
    obtain ⟨r0, r1, r2⟩ := HR.out
    obtain ⟨d0, d1, d2, d3⟩ := HD.out
    have hWY : Below W.heap.size W Y := hW1.trans (hY.mono hW1.size)
    have hwY : Below w.heap.size w Y := hw1.trans (hY.mono hw1.size)
    have hz := HZ.out
    exact ⟨(hWY.block _ (by omega)).trans r0, (hWY.block _ (by omega)).trans r1, (hWY.block _ (by omega)).trans r2, (hY.block _ (by omega)).trans HOB.out, cell_on hwY HP0.out, cell_on hwY d0, cell_on hwY d1, cell_on hwY d2, cell_on hwY d3,
      keep_own HOWN.out.1 hY, HOWN.out.2.keep (fun ad x _ hx => cell_on hY hx), hwY⟩)
  obtain ⟨q0, q1, q2, q3, z0, e0, e1, e2, e3, _, _, _⟩ := HK.out _ (Below.refl _ _)
  obtain ⟨⟨A0, A1, A2, A3⟩, _, _, _, _⟩ := cells_of4 q0
  obtain ⟨⟨B0, B1, B2, B3⟩, _, _, _, _⟩ := cells_of4 q1
  obtain ⟨⟨C0, C1, C2, C3⟩, _, _, _, _⟩ := cells_of4 q3
  clear q0 q1 q2 q3 hbx hbc ho hrp2 hb1 hW1 hw1
  have HST : Hid (∀ Y, Below Y1.heap.size Y1 Y → (Y.frozen? ⟨g, i * 4, none⟩ = false ∧ Y.frozen? ⟨g, i * 4 + 1, none⟩ = false ∧ Y.frozen? ⟨g, i * 4 + 2, none⟩ = false ∧ Y.frozen? ⟨g, i * 4 + 3, none⟩ = false) ∧
      (∃ o0 o1 o2 o3, Y.cell? ⟨g, i * 4, none⟩ = some o0 ∧ Y.cell? ⟨g, i * 4 + 1, none⟩ = some o1 ∧ Y.cell? ⟨g, i * 4 + 2, none⟩ = some o2 ∧ Y.cell? ⟨g, i * 4 + 3, none⟩ = some o3)) := Lib.hid (fun Y hY => by
    obtain ⟨_, _, _, _, _, _, _, _, _, ow, _, _⟩ := HK.out _ hY
    have hvl : vs.length = xs.length * 4 := ow.1
    have cl : ∀ q, q < xs.length * 4 → ∃ o0, Y.cell? ⟨g, q, none⟩ = some o0 := fun q hq => ⟨_, by rw [ow.cellAt q (by omega)]; exact List.getElem?_eq_getElem (by omega)⟩
    obtain ⟨o0, O0⟩ := cl (i * 4) (by omega)
    obtain ⟨o1, O1⟩ := cl (i * 4 + 1) (by omega)
    obtain ⟨o2, O2⟩ := cl (i * 4 + 2) (by omega)
    obtain ⟨o3, O3⟩ := cl (i * 4 + 3) (by omega)
    exact ⟨⟨ow.frozenAt (i * 4), ow.frozenAt (i * 4 + 1), ow.frozenAt (i * 4 + 2), ow.frozenAt (i * 4 + 3)⟩, ⟨o0, o1, o2, o3, O0, O1, O2, O3⟩⟩)
  have HKS : Hid (∀ Y, Below Y1.heap.size Y1 Y → (Y.cell? ⟨w1.heap.size, 3, none⟩ = some (.slice (some ⟨g, 0, none⟩) xs.length c1) ∧ Y.cell? ⟨w.heap.size, 3, none⟩ = some (.slice (some ⟨b, o, none⟩) xs.length cap) ∧ Y.cell? ⟨pb, po, none⟩ = some (iv i) ∧
      Y.cell? ⟨b, o + i * 4, none⟩ = some (.int .i64 k3) ∧ Y.cell? ⟨b, o + i * 4 + 1, none⟩ = some (.int .i64 n3) ∧ Y.cell? ⟨b, o + i * 4 + 2, none⟩ = some (.string s3) ∧ Y.cell? ⟨b, o + i * 4 + 3, none⟩ = some (.slice a3 xs3.length cap3) ∧
      Y.cell? ⟨w.heap.size + 1, 0, none⟩ = some (.int .i64 k2) ∧ Y.cell? ⟨w.heap.size + 1, 1, none⟩ = some (.int .i64 n2) ∧ Y.cell? ⟨w.heap.size + 1, 2, none⟩ = some (.string s2) ∧ Y.cell? ⟨w.heap.size + 1, 3, none⟩ = some (.slice a2 m2 cap2))) := Lib.hid (fun Y hY => by
    obtain ⟨q0, q1, q2, q3, z0, e0, e1, e2, e3, _, _, _⟩ := HK.out _ hY
    obtain ⟨⟨A0, A1, A2, A3⟩, _⟩ := cells_of4 q0
    obtain ⟨⟨B0, B1, B2, B3⟩, _⟩ := cells_of4 q1
    obtain ⟨⟨C0, C1, C2, C3⟩, _⟩ := cells_of4 q3
    exact ⟨C3, A3, z0, e0, e1, e2, e3, B0, B1, B2, B3⟩)
  have hWz := HB.out.size
  have hgb : g ≠ b := by have h : b < w.heap.size := World.block_lt_of_cell? w _ HD.out.1; omega
  have hgp : g ≠ pb := by have h : pb < w.heap.size := World.block_lt_of_cell? w _ HP0.out; omega
  have hgw : g ≠ w1.heap.size := by omega
  have hgz : w.heap.size + 3 ≤ g := by have := HZ.out; omega
  have HKV : Hid (∀ Y, Below Y1.heap.size Y1 Y → ∀ v0 v1 v2 v3, (((((Y.setCell ⟨g, i * 4, none⟩ v0).setCell ⟨g, i * 4 + 1, none⟩ v1).setCell ⟨g, i * 4 + 2, none⟩ v2).setCell ⟨g, i * 4 + 3, none⟩ v3).cell? ⟨w1.heap.size, 3, none⟩ = some (.slice (some ⟨g, 0, none⟩) xs.length c1) ∧ ((((Y.setCell ⟨g, i * 4, none⟩ v0).setCell ⟨g, i * 4 + 1, none⟩ v1).setCell ⟨g, i * 4 + 2, none⟩ v2).setCell ⟨g, i * 4 + 3, none⟩ v3).cell? ⟨w.heap.size, 3, none⟩ = some (.slice (some ⟨b, o, none⟩) xs.length cap) ∧
      ((((Y.setCell ⟨g, i * 4, none⟩ v0).setCell ⟨g, i * 4 + 1, none⟩ v1).setCell ⟨g, i * 4 + 2, none⟩ v2).setCell ⟨g, i * 4 + 3, none⟩ v3).cell? ⟨pb, po, none⟩ = some (iv i) ∧
      ((((Y.setCell ⟨g, i * 4, none⟩ v0).setCell ⟨g, i * 4 + 1, none⟩ v1).setCell ⟨g, i * 4 + 2, none⟩ v2).setCell ⟨g, i * 4 + 3, none⟩ v3).cell? ⟨b, o + i * 4, none⟩ = some (.int .i64 k3) ∧ ((((Y.setCell ⟨g, i * 4, none⟩ v0).setCell ⟨g, i * 4 + 1, none⟩ v1).setCell ⟨g, i * 4 + 2, none⟩ v2).setCell ⟨g, i * 4 + 3, none⟩ v3).cell? ⟨b, o + i * 4 + 1, none⟩ = some (.int .i64 n3) ∧
      ((((Y.setCell ⟨g, i * 4, none⟩ v0).setCell ⟨g, i * 4 + 1, none⟩ v1).setCell ⟨g, i * 4 + 2, none⟩ v2).setCell ⟨g, i * 4 + 3, none⟩ v3).cell? ⟨b, o + i * 4 + 2, none⟩ = some (.string s3) ∧ ((((Y.setCell ⟨g, i * 4, none⟩ v0).setCell ⟨g, i * 4 + 1, none⟩ v1).setCell ⟨g, i * 4 + 2, none⟩ v2).setCell ⟨g, i * 4 + 3, none⟩ v3).cell? ⟨b, o + i * 4 + 3, none⟩ = some (.slice a3 xs3.length cap3) ∧
      ((((Y.setCell ⟨g, i * 4, none⟩ v0).setCell ⟨g, i * 4 + 1, none⟩ v1).setCell ⟨g, i * 4 + 2, none⟩ v2).setCell ⟨g, i * 4 + 3, none⟩ v3).cell? ⟨w.heap.size + 1, 0, none⟩ = some (.int .i64 k2) ∧ ((((Y.setCell ⟨g, i * 4, none⟩ v0).setCell ⟨g, i * 4 + 1, none⟩ v1).setCell ⟨g, i * 4 + 2, none⟩ v2).setCell ⟨g, i * 4 + 3, none⟩ v3).cell? ⟨w.heap.size + 1, 1, none⟩ = some (.int .i64 n2) ∧
      ((((Y.setCell ⟨g, i * 4, none⟩ v0).setCell ⟨g, i * 4 + 1, none⟩ v1).setCell ⟨g, i * 4 + 2, none⟩ v2).setCell ⟨g, i * 4 + 3, none⟩ v3).cell? ⟨w.heap.size + 1, 2, none⟩ = some (.string s2) ∧ ((((Y.setCell ⟨g, i * 4, none⟩ v0).setCell ⟨g, i * 4 + 1, none⟩ v1).setCell ⟨g, i * 4 + 2, none⟩ v2).setCell ⟨g, i * 4 + 3, none⟩ v3).cell? ⟨w.heap.size + 1, 3, none⟩ = some (.slice a2 m2 cap2))) := Lib.hid (fun Y hY v0 v1 v2 v3 => by
    have st : ∀ (c : Nat) (j : Nat) (x : Value), g ≠ c → Y.cell? ⟨c, j, none⟩ = some x → ((((Y.setCell ⟨g, i * 4, none⟩ v0).setCell ⟨g, i * 4 + 1, none⟩ v1).setCell ⟨g, i * 4 + 2, none⟩ v2).setCell ⟨g, i * 4 + 3, none⟩ v3).cell? ⟨c, j, none⟩ = some x := fun c j x hc hx => by
      have e : ∀ (Z : World) (q : Nat) (v : Value), (Z.setCell ⟨g, q, none⟩ v).cell? ⟨c, j, none⟩ = Z.cell? ⟨c, j, none⟩ := fun Z q v => World.cell?_of_block (Below.heap_setCell _ _ _ _ (by simp; omega))
      rw [e, e, e, e]; exact hx
    obtain ⟨h1, h2, h3, h4, h5, h6, h7, h8, h9, h10, h11⟩ := HKS.out _ hY
    exact ⟨st _ _ _ hgw h1, st _ _ _ (by omega) h2, st _ _ _ hgp h3, st _ _ _ hgb h4, st _ _ _ hgb h5, st _ _ _ hgb h6, st _ _ _ hgb h7, st _ _ _ (by omega) h8, st _ _ _ (by omega) h9, st _ _ _ (by omega) h10, st _ _ _ (by omega) h11⟩)
  have HC : Hid (∀ Y, Below Y1.heap.size Y1 Y → Calls Try.prog 28 #[tv k3 n3 s3 (.slice a3 xs3.length cap3), .slice ta tl tcap, tv k2 n2 s2 (.slice a2 m2 cap2)] Y (NewT (putT ps (.node k3 n3 s3 xs3) u) Y)) := Lib.hid (fun Y hY => HCALL.out Y (HW1.out.trans (hY.mono HW1.out.size)))
  have HEND : Hid (∀ (w5 : World) (k5 n5 : Int) (s5 : ByteArray) (a5 : Option Addr) (m5 c5 h5 : Nat), Below Y1.heap.size Y1 w5 → TermAt w5 Y1.heap.size h5 (tv k5 n5 s5 (.slice a5 m5 c5)) (putT ps (.node k3 n3 s3 xs3) u) →
      ∀ W9, W9 = ((((w5.setCell ⟨g, i * 4, none⟩ (.int .i64 k5)).setCell ⟨g, i * 4 + 1, none⟩ (.int .i64 n5)).setCell ⟨g, i * 4 + 2, none⟩ (.string s5)).setCell ⟨g, i * 4 + 3, none⟩ (.slice a5 m5 c5)) →
      W9.heap[w1.heap.size]? = some (trow k n s (.slice (some ⟨g, 0, none⟩) xs.length c1)) ∧ W9.heap[w.heap.size + 2]? = some (trow 0 0 ByteArray.empty (.slice none 0 0)) ∧
      ∀ v0 v1 v2 v3, NewT (putT ((i : Int) :: ps) (.node k n s xs) u) w (.returned (tv k n s (.slice (some ⟨g, 0, none⟩) xs.length c1))) ((((W9.setCell ⟨w.heap.size + 2, 0, none⟩ v0).setCell ⟨w.heap.size + 2, 1, none⟩ v1).setCell ⟨w.heap.size + 2, 2, none⟩ v2).setCell ⟨w.heap.size + 2, 3, none⟩ v3)) :=
    Lib.hid (fun w5 k5 n5 s5 a5 m5 c5 h5 hb5 ht5 W9 hW9 => by
      obtain ⟨q0, q1, q2, q3, z0, e0, e1, e2, e3, ow, rp, bw⟩ := HK.out _ hb5
      have hz := HZ.out
      have e : ∀ (Z : World) (q : Nat) (v : Value) (c : Nat), g ≠ c → (Z.setCell ⟨g, q, none⟩ v).heap[c]? = Z.heap[c]? := fun Z q v c hc => Below.heap_setCell _ _ _ _ (by simp; omega)
      have ha := row_put ow rp rfl (by unfold maxLen; omega) hil ht5 (by omega)
      rw [← hW9] at ha
      have hbW : Below w.heap.size w W9 := by rw [hW9]; exact (((bw.setCell (by show w.heap.size ≤ g; omega) _).setCell (by show w.heap.size ≤ g; omega) _).setCell (by show w.heap.size ≤ g; omega) _).setCell (by show w.heap.size ≤ g; omega) _
      refine ⟨by rw [hW9, e _ _ _ _ hgw, e _ _ _ _ hgw, e _ _ _ _ hgw, e _ _ _ _ hgw]; exact q3, by rw [hW9, e _ _ _ _ (by omega), e _ _ _ _ (by omega), e _ _ _ _ (by omega), e _ _ _ _ (by omega)]; exact q2, fun v0 v1 v2 v3 => ?_⟩
      rw [HPUT.out]
      rw [hz] at ha
      exact new_fin ⟨k, n, s, _, _, rfl, rfl, hs1, ha⟩ hbW (by omega) (by omega) _ _ _ _)
  clear HCALL HCOPY
  go_wp2_with fail
  rw [← hY1]
  clear hY1
  rcases hways with ⟨rfl, rfl, rfl, rfl, rfl⟩ | ⟨hne, rfl, rfl, rfl⟩
  · go_region_held3 (fun w' => w'.cell? ⟨w1.heap.size, 3, none⟩ = some (.slice (some ⟨g, 0, none⟩) xs.length c1) ∧ w'.cell? ⟨w.heap.size, 3, none⟩ = some (.slice (some ⟨b, o, none⟩) xs.length cap) ∧ w'.cell? ⟨pb, po, none⟩ = some (iv i) ∧
        w'.cell? ⟨b, o + i * 4, none⟩ = some (.int .i64 k3) ∧ w'.cell? ⟨b, o + i * 4 + 1, none⟩ = some (.int .i64 n3) ∧ w'.cell? ⟨b, o + i * 4 + 2, none⟩ = some (.string s3) ∧ w'.cell? ⟨b, o + i * 4 + 3, none⟩ = some (.slice a3 xs3.length cap3) ∧
        w'.cell? ⟨w.heap.size + 1, 0, none⟩ = some (.int .i64 k2) ∧ w'.cell? ⟨w.heap.size + 1, 1, none⟩ = some (.int .i64 n2) ∧ w'.cell? ⟨w.heap.size + 1, 2, none⟩ = some (.string s2) ∧ w'.cell? ⟨w.heap.size + 1, 3, none⟩ = some (.slice a2 m2 cap2))
      (first | exact HKS.out _ (Below.refl _ _) | exact HKS.out _ (Below.drew (Below.refl _ _)) | exact HKS.out _ (by assumption) | exact HKS.out _ (bel_drew (by assumption)) | exact HKV.out _ (by assumption) _ _ _ _ | exact HKV.out _ (bel_drew (by assumption)) _ _ _ _ | go_keep)
      (first
        | (go_at_call 28; refine (HC.out _ (by first | exact Below.refl _ _ | exact Below.drew (Below.refl _ _))).mono ?_; rintro e w5 ⟨k5, n5, s5, a5, m5, c5, h5, rfl, ht5, hb5⟩; have HT5 := Lib.hid ht5; have HB5 := Lib.hid (show Below Y1.heap.size Y1 w5 by first | exact hb5 | exact bel_drew hb5); obtain ⟨⟨G0, G1, G2, G3⟩, ⟨o0, o1, o2, o3, O0, O1, O2, O3⟩⟩ := HST.out _ HB5.out; clear ht5))
    obtain ⟨W9, hW9⟩ : ∃ W9, W9 = ((((w5.setCell ⟨g, i * 4, none⟩ (.int .i64 k5)).setCell ⟨g, i * 4 + 1, none⟩ (.int .i64 n5)).setCell ⟨g, i * 4 + 2, none⟩ (.string s5)).setCell ⟨g, i * 4 + 3, none⟩ (.slice a5 m5 c5)) := ⟨_, rfl⟩
    obtain ⟨u3, u2, hf⟩ := HEND.out w5 k5 n5 s5 a5 m5 c5 h5 HB5.out HT5.out W9 hW9
    have HF := Lib.hid hf; clear hf
    rw [← hW9]
    obtain ⟨⟨D0, D1, D2, D3⟩, _⟩ := cells_of4 u3
    obtain ⟨⟨E0, E1, E2, E3⟩, F0, F1, F2, F3⟩ := cells_of4 u2
    clear hW9 u3 u2 G0 G1 G2 G3 O0 O1 O2 O3 hb5
    go_wp2
    (try simp only [Exit.inBlock, Exit.then])
    refine bodyPost_ret (v := tv k n s (.slice (some ⟨g, 0, none⟩) xs.length c1)) ?hr rfl ?_
    case hr =>
      rw [results_cell (a := 6) (t := 26) (ad := ⟨w.heap.size + 2, 0, none⟩) rfl rfl]
      go_simp
    exact HF.out _ _ _ _
  · have h11 : (1 : Int) ≤ (ps.length : Int) + 1 := by omega
    go_region_held3 (fun w' => w'.cell? ⟨w1.heap.size, 3, none⟩ = some (.slice (some ⟨g, 0, none⟩) xs.length c1) ∧ w'.cell? ⟨w.heap.size, 3, none⟩ = some (.slice (some ⟨b, o, none⟩) xs.length cap) ∧ w'.cell? ⟨pb, po, none⟩ = some (iv i) ∧
        w'.cell? ⟨b, o + i * 4, none⟩ = some (.int .i64 k3) ∧ w'.cell? ⟨b, o + i * 4 + 1, none⟩ = some (.int .i64 n3) ∧ w'.cell? ⟨b, o + i * 4 + 2, none⟩ = some (.string s3) ∧ w'.cell? ⟨b, o + i * 4 + 3, none⟩ = some (.slice a3 xs3.length cap3) ∧
        w'.cell? ⟨w.heap.size + 1, 0, none⟩ = some (.int .i64 k2) ∧ w'.cell? ⟨w.heap.size + 1, 1, none⟩ = some (.int .i64 n2) ∧ w'.cell? ⟨w.heap.size + 1, 2, none⟩ = some (.string s2) ∧ w'.cell? ⟨w.heap.size + 1, 3, none⟩ = some (.slice a2 m2 cap2))
      (first | exact HKS.out _ (Below.refl _ _) | exact HKS.out _ (Below.drew (Below.refl _ _)) | exact HKS.out _ (by assumption) | exact HKS.out _ (bel_drew (by assumption)) | exact HKV.out _ (by assumption) _ _ _ _ | exact HKV.out _ (bel_drew (by assumption)) _ _ _ _ | go_keep)
      (first
        | (go_at_call 28; refine (HC.out _ (by first | exact Below.refl _ _ | exact Below.drew (Below.refl _ _))).mono ?_; rintro e w5 ⟨k5, n5, s5, a5, m5, c5, h5, rfl, ht5, hb5⟩; have HT5 := Lib.hid ht5; have HB5 := Lib.hid (show Below Y1.heap.size Y1 w5 by first | exact hb5 | exact bel_drew hb5); obtain ⟨⟨G0, G1, G2, G3⟩, ⟨o0, o1, o2, o3, O0, O1, O2, O3⟩⟩ := HST.out _ HB5.out; clear ht5))
    obtain ⟨W9, hW9⟩ : ∃ W9, W9 = ((((w5.setCell ⟨g, i * 4, none⟩ (.int .i64 k5)).setCell ⟨g, i * 4 + 1, none⟩ (.int .i64 n5)).setCell ⟨g, i * 4 + 2, none⟩ (.string s5)).setCell ⟨g, i * 4 + 3, none⟩ (.slice a5 m5 c5)) := ⟨_, rfl⟩
    obtain ⟨u3, u2, hf⟩ := HEND.out w5 k5 n5 s5 a5 m5 c5 h5 HB5.out HT5.out W9 hW9
    have HF := Lib.hid hf; clear hf
    rw [← hW9]
    obtain ⟨⟨D0, D1, D2, D3⟩, _⟩ := cells_of4 u3
    obtain ⟨⟨E0, E1, E2, E3⟩, F0, F1, F2, F3⟩ := cells_of4 u2
    clear hW9 u3 u2 G0 G1 G2 G3 O0 O1 O2 O3 hb5
    go_wp2
    (try simp only [Exit.inBlock, Exit.then])
    refine bodyPost_ret (v := tv k n s (.slice (some ⟨g, 0, none⟩) xs.length c1)) ?hr rfl ?_
    case hr =>
      rw [results_cell (a := 6) (t := 26) (ad := ⟨w.heap.size + 2, 0, none⟩) rfl rfl]
      go_simp
    exact HF.out _ _ _ _

theorem put_any : ∀ (ps : List Int), ps.length ≤ 4194304 → PutAt ps
  | [], _ => put_nil
  | z :: ps, h => put_step z ps (by simp at h; omega) (put_any ps (by simp at h; omega))
end Go.Proofs.Ytooiiomfahomjaa
