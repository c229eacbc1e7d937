/-
  The statement that puts an argument with its position on the stack, inside a round: in whatever order its operations come.
-/
import Derived.Test.YtcmhiindjponcaaDoorQ7
import Derived.Test.YtcmhiindjponcaaDoorQ4
import Derived.RangeFuncNested
import Derived.RangeFuncBound
import Derived.RangeFuncCalls
import Derived.RangeFuncLeaves
import Derived.RangeFuncBox
import Derived.Shelf.Abstract
import Derived.Shelf.RegionOpen
import Derived.WalkKit
import Derived.OwnWalkIn
import Derived.TacticsInMore
import Derived.OrdersIn
import Derived.Maps.AppendAt
namespace Go.Proofs.YtcmhiindjponcaaDoor
open Go.RowKit Go.Shelf

attribute [local go_sem] Oper.semAt_some

/-- The operations of the statement. -/
noncomputable def posOps : Array Oper := match Tryd.f6.body with
  | some (.seq _ (.seq _ (.seq _ (.seq (.block _ (.loop (.seq _ (.block _ (.seq _ (.seq _ (.seq _ (.seq _ (.seq _ (.block _ (.rangeFunc _ _ _ (.block _ (.region _ ops _))))))))))))) _)))) => ops
  | _ => #[]

theorem pop0 : posOps[0]? = some { dst := some 36, op := Op.load 43 (Operand.tmp 4), type := 43, pos := "l04_position.go:73", after := #[], guard := none } := by kernel_rfl
theorem pop1 : posOps[1]? = some { dst := some 37, op := Op.load 26 (Operand.tmp 8), type := 26, pos := "l04_position.go:73", after := #[], guard := none } := by kernel_rfl
theorem pop2 : posOps[2]? = some { dst := some 38, op := Op.fieldAddr 42 (Operand.tmp 6) 1, type := 0, pos := "l04_position.go:73", after := #[], guard := none } := by kernel_rfl
theorem pop3 : posOps[3]? = some { dst := some 39, op := Op.load 33 (Operand.tmp 38), type := 33, pos := "l04_position.go:73", after := #[{ on := 2, ground := Ground.data }], guard := none } := by kernel_rfl
theorem pop4 : posOps[4]? = some { dst := some 40, op := Op.move (Operand.tmp 7), type := 3, pos := "l04_position.go:73", after := #[], guard := none } := by kernel_rfl
theorem pop5 : posOps[5]? = some { dst := some 41, op := Op.buildSlice 33 1 #[(0, Operand.tmp 40)], type := 33, pos := "l04_position.go:73", after := #[{ on := 4, ground := Ground.data }], guard := none } := by kernel_rfl
theorem pop6 : posOps[6]? = some { dst := some 42, op := Op.buildSlice 28 2 #[(0, Operand.tmp 39), (1, Operand.tmp 41)], type := 28, pos := "l04_position.go:73", after := #[{ on := 3, ground := Ground.data }, { on := 5, ground := Ground.data }], guard := none } := by kernel_rfl
theorem pop7 : posOps[7]? = some { dst := some 43, op := Op.call { callee := Callee.value (Operand.func 17), args := #[Operand.tmp 42], argTypes := #[28] }, type := 33, pos := "l04_position.go:73", after := #[{ on := 6, ground := Ground.data }], guard := none } := by kernel_rfl
theorem pop8 : posOps[8]? = some { dst := some 44, op := Op.build 42 #[(0, Operand.tmp 37), (1, Operand.tmp 43)], type := 42, pos := "l04_position.go:73", after := #[{ on := 1, ground := Ground.data }, { on := 7, ground := Ground.data }], guard := none } := by kernel_rfl
theorem pop9 : posOps[9]? = some { dst := some 45, op := Op.buildSlice 43 1 #[(0, Operand.tmp 44)], type := 43, pos := "l04_position.go:73", after := #[{ on := 8, ground := Ground.data }], guard := none } := by kernel_rfl
theorem pop10 : posOps[10]? = some { dst := some 46, op := Op.call { callee := Callee.builtin Builtin.append, args := #[Operand.tmp 36, Operand.tmp 45], argTypes := #[43, 43] }, type := 43, pos := "l04_position.go:73", after := #[{ on := 0, ground := Ground.data }, { on := 9, ground := Ground.data }, { on := 7, ground := Ground.chain }], guard := none } := by kernel_rfl
theorem pop11 : posOps[11]? = some { dst := none, op := Op.store 43 (Operand.tmp 4) (Operand.tmp 46), type := 0, pos := "l04_position.go:73", after := #[{ on := 10, ground := Ground.data }, { on := 10, ground := Ground.chain }, { on := 0, ground := Ground.phase }, { on := 1, ground := Ground.phase }, { on := 2, ground := Ground.phase }, { on := 3, ground := Ground.phase }, { on := 4, ground := Ground.phase }, { on := 5, ground := Ground.phase }, { on := 6, ground := Ground.phase }, { on := 7, ground := Ground.phase }, { on := 8, ground := Ground.phase }, { on := 9, ground := Ground.phase }, { on := 10, ground := Ground.phase }], guard := none } := by kernel_rfl

theorem infoOpen : (Tryd.prog.info? 42).map (fun i => (i.zero, i.size, i.bytes)) = some (some (.agg #[.int .i64 0, .int .i64 0, .string ByteArray.empty, .slice none 0 0, .slice none 0 0]), 5, 80) := by kernel_rfl

/-- The builtin's step, once its run is known. -/
theorem stepIn_appP {F : Fence} {n : Nat} {P : Program} {ops : Array Oper} {o : Oper} {a : Act} {w : World} {K : Act → World → Prop} {Q : Exit → Act → World → Prop} {E : Prop} (hg : o.guard = none) (s x : Operand) (t : TypeId)
    (hop : o.op = Op.call { callee := Callee.builtin Builtin.append, args := #[s, x], argTypes := #[t, t] }) (v : Value) (w1 : World)
    (hrun : (Builtin.append_ #[t, t] o.type #[a.eval s, a.eval x]).run P w = .ok v w1) (hK : K (a.put o.dst v) w1) : if Region.wanted o (yielded ops a.tmps) = true then Oper.wpIn F n P o a w K Q else E := by
  have hw : Region.wanted o (yielded ops a.tmps) = true := by simp [Region.wanted, hg]
  rw [if_pos hw]
  unfold Oper.wpIn
  refine ⟨?_, ?_⟩
  · simp [Oper.about, hop, resolve, Target.leads, Sem.run_pure]
  · rw [Oper.semAt_plain F _ _ (by rw [hop]; intro c hc'; cases hc')]
    simp [execOp, hop, resolve, invoke, builtin, hrun, Result.andThen]
    exact hK

/-- What the statement leaves. -/
def AppP (B Bo kn : Nat) (va : Option Addr) (vc : Nat) (xs : List Value) (k n : Int) (s : ByteArray) (a : Option Addr) (m c : Nat) (cv : Value) (W W' : World) : Prop :=
  ∃ g cap, (Boxed W' Bo 43 (.slice (some ⟨g, 0, none⟩) (kn + 1) cap) ∧ W'.ownsRow B 42 5 (.slice (some ⟨g, 0, none⟩) (kn + 1) cap) (kn + 1) (xs ++ [.int .i64 k, .int .i64 n, .string s, .slice a m c, cv])) ∧ KeepsOthers W W' ∧ Below B W W' ∧
    (∀ j, j < W.heap.size → j ≠ Bo → some j ≠ (Value.slice va kn vc).ownBlock → W'.heap[j]? = W.heap[j]?) ∧ ((Value.slice va kn vc).ownBlock = some g ∨ W.heap.size ≤ g)

/-- A new block's cells, as they are appended. -/
theorem news5 (w : World) (x0 x1 x2 x3 x4 : Value) (t : TypeId) {n : Nat} (h : n = w.heap.size) : ∀ (j : Nat) (u : Value), [x0, x1, x2, x3, x4][j]? = some u → (w.alloc (.cells #[x0, x1, x2, x3, x4] t)).cell? (Addr.add ⟨n, 0, none⟩ j) = some u := by
  subst h
  intro j u hj
  have e := fun j => World.cell?_alloc_mark w #[x0, x1, x2, x3, x4] t (0, 0) j
  match j, hj with
  | 0, hj => simp at hj; subst hj; exact e 0
  | 1, hj => simp at hj; subst hj; exact e 1
  | 2, hj => simp at hj; subst hj; exact e 2
  | 3, hj => simp at hj; subst hj; exact e 3
  | 4, hj => simp at hj; subst hj; exact e 4
  | j + 5, hj => simp at hj
theorem cells4P {Y : World} {b : Nat} {x0 x1 x2 x3 : Value} {t : TypeId} (hb : Y.heap[b]? = some (.cells #[x0, x1, x2, x3] t (0, 0))) : Y.cell? ⟨b, 0, none⟩ = some x0 ∧ Y.cell? ⟨b, 1, none⟩ = some x1 ∧ Y.cell? ⟨b, 2, none⟩ = some x2 ∧ Y.cell? ⟨b, 3, none⟩ = some x3 := by
  have a0 := cell_of_row Y b 0 _ _ _ hb
  have a1 := cell_of_row Y b 1 _ _ _ hb
  have a2 := cell_of_row Y b 2 _ _ _ hb
  have a3 := cell_of_row Y b 3 _ _ _ hb
  simp at a0 a1 a2 a3
  exact ⟨a0, a1, a2, a3⟩
theorem cat_form {w : World} {B : Nat} {e : TypeId} {v : Value} {n : Nat} {xs : List Value} (h : w.ownsRow B e 1 v n xs) (hne : v ≠ .slice none 0 0) : ∃ g c, v = .slice (some ⟨g, 0, none⟩) n c := by
  rcases h.2 with ⟨e1, _⟩ | ⟨g, c, _, e1, _⟩
  · exact absurd e1 hne
  · exact ⟨g, c, e1⟩

set_option maxRecDepth 100000 in
set_option maxHeartbeats 8000000 in
theorem pos_regB (l d : Nat) (Q : Exit → Act → World → Prop) (y0 y1 y2 y3 y5 y9 y10 y11 y12 y13 y14 y15 y16 y17 y18 y19 y20 y21 y22 y23 y24 y25 y26 y27 y28 y29 y30 y31 y32 y33 y34 y35 y36 y37 _y38 _y39 _y40 _y41 _y42 _y43 y44 y45 y46 y47 z5 z6 : Value) (Bo Bh Bx B : Nat) (i : Int) (aa : Option Addr) (an ac : Nat) (va : Option Addr) (kn vc : Nat) (xs : List Value) (k n : Int) (s : ByteArray) (a : Option Addr) (m c : Nat) (ca : Option Addr) (cn cc : Nat) (w7 : World)
    (hbl : Boxed w7 Bo 43 (.slice va kn vc)) (hbx : w7.heap[Bx]? = some (.cells #[.int .i64 k, .int .i64 n, .string s, .slice a m c] 26 (0, 0))) (hown : w7.ownsRow B 42 5 (.slice va kn vc) kn xs)
    (hB : B ≤ Bo) (hkn : kn ≤ 4194304) (hQ : ∀ a' W', AppP B Bo kn va vc xs k n s a m c (.slice ca cn cc) w7 W' → Q .normal a' W') :
    wpAnyIn (Fence.wide.inRound l) d Tryd.prog .any posOps Q 6 #[false, false, true, true, true, true, true, true, false, false, false, false] { tmps := #[y0, y1, y2, y3, .pointer (some ⟨Bo, 0, none⟩), y5, .pointer (some ⟨Bh, 0, none⟩), .int .i64 i, .pointer (some ⟨Bx, 0, none⟩), y9, y10, y11, y12, y13, y14, y15, y16, y17, y18, y19, y20, y21, y22, y23, y24, y25, y26, y27, y28, y29, y30, y31, y32, y33, y34, y35, y36, y37, (.pointer (some ⟨Bh, 4, none⟩)), (.slice aa an ac), (.int .i64 i), z5, z6, (.slice ca cn cc), y44, y45, y46, y47], defers := [] } w7 ∧
      wpAnyIn (Fence.wide.inRound l) d Tryd.prog .any posOps Q 5 #[true, false, true, true, true, true, true, true, false, false, false, false] { tmps := #[y0, y1, y2, y3, .pointer (some ⟨Bo, 0, none⟩), y5, .pointer (some ⟨Bh, 0, none⟩), .int .i64 i, .pointer (some ⟨Bx, 0, none⟩), y9, y10, y11, y12, y13, y14, y15, y16, y17, y18, y19, y20, y21, y22, y23, y24, y25, y26, y27, y28, y29, y30, y31, y32, y33, y34, y35, (.slice va kn vc), y37, (.pointer (some ⟨Bh, 4, none⟩)), (.slice aa an ac), (.int .i64 i), z5, z6, (.slice ca cn cc), y44, y45, y46, y47], defers := [] } w7 ∧
      wpAnyIn (Fence.wide.inRound l) d Tryd.prog .any posOps Q 5 #[false, true, true, true, true, true, true, true, false, false, false, false] { tmps := #[y0, y1, y2, y3, .pointer (some ⟨Bo, 0, none⟩), y5, .pointer (some ⟨Bh, 0, none⟩), .int .i64 i, .pointer (some ⟨Bx, 0, none⟩), y9, y10, y11, y12, y13, y14, y15, y16, y17, y18, y19, y20, y21, y22, y23, y24, y25, y26, y27, y28, y29, y30, y31, y32, y33, y34, y35, y36, (tv k n s (.slice a m c)), (.pointer (some ⟨Bh, 4, none⟩)), (.slice aa an ac), (.int .i64 i), z5, z6, (.slice ca cn cc), y44, y45, y46, y47], defers := [] } w7 ∧
      wpAnyIn (Fence.wide.inRound l) d Tryd.prog .any posOps Q 4 #[true, true, true, true, true, true, true, true, false, false, false, false] { tmps := #[y0, y1, y2, y3, .pointer (some ⟨Bo, 0, none⟩), y5, .pointer (some ⟨Bh, 0, none⟩), .int .i64 i, .pointer (some ⟨Bx, 0, none⟩), y9, y10, y11, y12, y13, y14, y15, y16, y17, y18, y19, y20, y21, y22, y23, y24, y25, y26, y27, y28, y29, y30, y31, y32, y33, y34, y35, (.slice va kn vc), (tv k n s (.slice a m c)), (.pointer (some ⟨Bh, 4, none⟩)), (.slice aa an ac), (.int .i64 i), z5, z6, (.slice ca cn cc), y44, y45, y46, y47], defers := [] } w7 := by
  obtain ⟨i0, hi, hz0, hz1, hz2⟩ := info_parts infoOpen
  have hltB := hbl.lt
  have hblA : Boxed (w7.alloc (.cells #[.int .i64 k, .int .i64 n, .string s, .slice a m c, .slice ca cn cc] 42)) Bo 43 (.slice va kn vc) := Boxed.alloc hbl _
  have hrA : World.ownsRow (w7.alloc (.cells #[.int .i64 k, .int .i64 n, .string s, .slice a m c, .slice ca cn cc] 42)) B 42 5 (.slice va kn vc) kn xs := hown.alloc _
  obtain ⟨v', w10, hrun, hown', hgrow, _, hblk⟩ := run_append_own_at (P := Tryd.prog) (w7.alloc (.cells #[.int .i64 k, .int .i64 n, .string s, .slice a m c, .slice ca cn cc] 42)) B 43 43 42 i0 (.agg #[.int .i64 0, .int .i64 0, .string ByteArray.empty, .slice none 0 0, .slice none 0 0]) 5 80 Tryd.underlying43 hi hz0 hz1 hz2 rfl (by decide) _ _ _ hrA ⟨w7.heap.size, 0, none⟩ 1 1 [.int .i64 k, .int .i64 n, .string s, .slice a m c, .slice ca cn cc] rfl (news5 w7 _ _ _ _ _ _ rfl) (by simp [Value.oneCell']) (by unfold maxLen; omega) (by omega) (Nat.le_trans (by omega : B ≤ w7.heap.size) (by simp))
  obtain ⟨g, cap, rfl⟩ : ∃ g cap, v' = .slice (some ⟨g, 0, none⟩) (kn + 1) cap := by
    rcases hown'.2 with ⟨_, h0⟩ | ⟨g, cap, cur, rfl, _⟩
    · omega
    · exact ⟨g, cap, rfl⟩
  have hblN := hblA.not_row (by decide) hrA
  have hb1 : Boxed w10 Bo 43 (.slice va kn vc) := hblA.kept hgrow hblN
  have hne : Bo ≠ g := by
    have := hb1.not_row (by decide) hown'
    intro e; exact this (by rw [e]; rfl)
  have hszA : (World.heap (w7.alloc (.cells #[.int .i64 k, .int .i64 n, .string s, .slice a m c, .slice ca cn cc] 42))).size = w7.heap.size + 1 := by simp
  have hsz1 := hgrow.size
  have hold : ∀ j, j < w7.heap.size → some j ≠ (Value.slice va kn vc).ownBlock → w10.heap[j]? = w7.heap[j]? := fun j hj hv => (hgrow.block j (by omega) hv).trans (Below.heap_alloc w7 _ j hj)
  have hst : ∀ j, j < w7.heap.size → j ≠ Bo → some j ≠ (Value.slice va kn vc).ownBlock → (w10.setCell ⟨Bo, 0, none⟩ (.slice (some ⟨g, 0, none⟩) (kn + 1) cap)).heap[j]? = w7.heap[j]? := fun j hj hb hv => (Below.heap_setCell w10 _ _ j (by exact hb)).trans (hold j hj hv)
  have hsz3 : (w10.setCell ⟨Bo, 0, none⟩ (.slice (some ⟨g, 0, none⟩) (kn + 1) cap)).heap.size = w10.heap.size := by simp
  have hfin : AppP B Bo kn va vc xs k n s a m c (.slice ca cn cc) w7 (w10.setCell ⟨Bo, 0, none⟩ (.slice (some ⟨g, 0, none⟩) (kn + 1) cap)) := by
    refine ⟨g, cap, ⟨hb1.set _, hown'.kept (grownBy_setCell' w10 Bo _) (Or.inr (fun e => hne (by cases e; rfl)))⟩, ⟨by omega, fun j o hj ho => ?_⟩, ⟨hgrow.os, hgrow.tape, hgrow.output, by omega, fun j hj => ?_⟩, hst, ?_⟩
    · have q : some j ≠ (Value.slice va kn vc).ownBlock ∧ j ≠ Bo := by
        constructor
        · intro e
          rcases hown.2 with h | ⟨g', cap', cur', h, _, hc, _⟩
          · rw [h.1] at e; cases e
          · rw [h] at e; cases e
            rw [hc] at hj; cases hj; cases ho
        · intro e; subst e
          have := hbl
          unfold Boxed at this
          rw [this] at hj; cases hj; cases ho
      exact (hst j (Array.getElem?_eq_some_iff.1 hj).1 q.2 q.1).trans hj
    · refine hst j (by omega) (by omega) (fun e => ?_)
      have := (hown.lt j e.symm).1
      omega
    · rcases hblk with h | h
      · exact Or.inl h.symm
      · have : g = (World.heap (w7.alloc (.cells #[.int .i64 k, .int .i64 n, .string s, .slice a m c, .slice ca cn cc] 42))).size := by simpa [Value.ownBlock] using h
        exact Or.inr (by omega)
  have cB := hbl.cell
  have cBA : World.cell? (w7.alloc (.cells #[.int .i64 k, .int .i64 n, .string s, .slice a m c, .slice ca cn cc] 42)) ⟨Bo, 0, none⟩ = some (.slice va kn vc) := hblA.cell
  obtain ⟨x0, x1, x2, x3⟩ := cells4P hbx
  have cB1 := hb1.cell
  have fB1 := hb1.frozen
  clear hsz3 hst hold hsz1 hszA hne hb1 hblN hblk hgrow hown' hrA hblA hltB hown hbl hbx
  have s0_1_2_3_4_5_6_7_8_9_10_11 : wpAnyIn (Fence.wide.inRound l) d Tryd.prog .any posOps Q 0 #[true, true, true, true, true, true, true, true, true, true, true, true] { tmps := #[y0, y1, y2, y3, .pointer (some ⟨Bo, 0, none⟩), y5, .pointer (some ⟨Bh, 0, none⟩), .int .i64 i, .pointer (some ⟨Bx, 0, none⟩), y9, y10, y11, y12, y13, y14, y15, y16, y17, y18, y19, y20, y21, y22, y23, y24, y25, y26, y27, y28, y29, y30, y31, y32, y33, y34, y35, (.slice va kn vc), (tv k n s (.slice a m c)), (.pointer (some ⟨Bh, 4, none⟩)), (.slice aa an ac), (.int .i64 i), z5, z6, (.slice ca cn cc), (.agg #[.int .i64 k, .int .i64 n, .string s, .slice a m c, .slice ca cn cc]), (.slice (some ⟨w7.heap.size, 0, none⟩) 1 1), (.slice (some ⟨g, 0, none⟩) (kn + 1) cap), y47], defers := [] } (w10.setCell ⟨Bo, 0, none⟩ (.slice (some ⟨g, 0, none⟩) (kn + 1) cap)) := wpAnyIn_done (by kernel_rfl) (hQ _ _ hfin) _
  have s0_1_2_3_4_5_6_7_8_9_10 : wpAnyIn (Fence.wide.inRound l) d Tryd.prog .any posOps Q 1 #[true, true, true, true, true, true, true, true, true, true, true, false] { tmps := #[y0, y1, y2, y3, .pointer (some ⟨Bo, 0, none⟩), y5, .pointer (some ⟨Bh, 0, none⟩), .int .i64 i, .pointer (some ⟨Bx, 0, none⟩), y9, y10, y11, y12, y13, y14, y15, y16, y17, y18, y19, y20, y21, y22, y23, y24, y25, y26, y27, y28, y29, y30, y31, y32, y33, y34, y35, (.slice va kn vc), (tv k n s (.slice a m c)), (.pointer (some ⟨Bh, 4, none⟩)), (.slice aa an ac), (.int .i64 i), z5, z6, (.slice ca cn cc), (.agg #[.int .i64 k, .int .i64 n, .string s, .slice a m c, .slice ca cn cc]), (.slice (some ⟨w7.heap.size, 0, none⟩) 1 1), (.slice (some ⟨g, 0, none⟩) (kn + 1) cap), y47], defers := [] } w10 := by
    refine wpAnyIn_ready (rs := [11]) (by kernel_rfl) (by simp) ?_
    refine AllReadyIn.cons pop11 (fun K hK => ?_) ?_
    · go_simp
      exact hK _ _ s0_1_2_3_4_5_6_7_8_9_10_11
    exact AllReadyIn.nil
  have s0_1_2_3_4_5_6_7_8_9 : wpAnyIn (Fence.wide.inRound l) d Tryd.prog .any posOps Q 2 #[true, true, true, true, true, true, true, true, true, true, false, false] { tmps := #[y0, y1, y2, y3, .pointer (some ⟨Bo, 0, none⟩), y5, .pointer (some ⟨Bh, 0, none⟩), .int .i64 i, .pointer (some ⟨Bx, 0, none⟩), y9, y10, y11, y12, y13, y14, y15, y16, y17, y18, y19, y20, y21, y22, y23, y24, y25, y26, y27, y28, y29, y30, y31, y32, y33, y34, y35, (.slice va kn vc), (tv k n s (.slice a m c)), (.pointer (some ⟨Bh, 4, none⟩)), (.slice aa an ac), (.int .i64 i), z5, z6, (.slice ca cn cc), (.agg #[.int .i64 k, .int .i64 n, .string s, .slice a m c, .slice ca cn cc]), (.slice (some ⟨w7.heap.size, 0, none⟩) 1 1), y46, y47], defers := [] } (w7.alloc (.cells #[.int .i64 k, .int .i64 n, .string s, .slice a m c, .slice ca cn cc] 42)) := by
    refine wpAnyIn_ready (rs := [10]) (by kernel_rfl) (by simp) ?_
    refine AllReadyIn.cons pop10 (fun K hK => ?_) ?_
    · refine stepIn_appP rfl (.tmp 36) (.tmp 45) 43 rfl (.slice (some ⟨g, 0, none⟩) (kn + 1) cap) w10 ?_ ?_
      · exact hrun
      · exact hK _ _ s0_1_2_3_4_5_6_7_8_9_10
    exact AllReadyIn.nil
  have s0_1_2_3_4_5_6_7_8 : wpAnyIn (Fence.wide.inRound l) d Tryd.prog .any posOps Q 3 #[true, true, true, true, true, true, true, true, true, false, false, false] { tmps := #[y0, y1, y2, y3, .pointer (some ⟨Bo, 0, none⟩), y5, .pointer (some ⟨Bh, 0, none⟩), .int .i64 i, .pointer (some ⟨Bx, 0, none⟩), y9, y10, y11, y12, y13, y14, y15, y16, y17, y18, y19, y20, y21, y22, y23, y24, y25, y26, y27, y28, y29, y30, y31, y32, y33, y34, y35, (.slice va kn vc), (tv k n s (.slice a m c)), (.pointer (some ⟨Bh, 4, none⟩)), (.slice aa an ac), (.int .i64 i), z5, z6, (.slice ca cn cc), (.agg #[.int .i64 k, .int .i64 n, .string s, .slice a m c, .slice ca cn cc]), y45, y46, y47], defers := [] } w7 := by
    refine wpAnyIn_ready (rs := [9]) (by kernel_rfl) (by simp) ?_
    refine AllReadyIn.cons pop9 (fun K hK => ?_) ?_
    · go_simp
      exact hK _ _ s0_1_2_3_4_5_6_7_8_9
    exact AllReadyIn.nil
  have s1_2_3_4_5_6_7_8_9 : wpAnyIn (Fence.wide.inRound l) d Tryd.prog .any posOps Q 3 #[false, true, true, true, true, true, true, true, true, true, false, false] { tmps := #[y0, y1, y2, y3, .pointer (some ⟨Bo, 0, none⟩), y5, .pointer (some ⟨Bh, 0, none⟩), .int .i64 i, .pointer (some ⟨Bx, 0, none⟩), y9, y10, y11, y12, y13, y14, y15, y16, y17, y18, y19, y20, y21, y22, y23, y24, y25, y26, y27, y28, y29, y30, y31, y32, y33, y34, y35, y36, (tv k n s (.slice a m c)), (.pointer (some ⟨Bh, 4, none⟩)), (.slice aa an ac), (.int .i64 i), z5, z6, (.slice ca cn cc), (.agg #[.int .i64 k, .int .i64 n, .string s, .slice a m c, .slice ca cn cc]), (.slice (some ⟨w7.heap.size, 0, none⟩) 1 1), y46, y47], defers := [] } (w7.alloc (.cells #[.int .i64 k, .int .i64 n, .string s, .slice a m c, .slice ca cn cc] 42)) := by
    refine wpAnyIn_ready (rs := [0]) (by kernel_rfl) (by simp) ?_
    refine AllReadyIn.cons pop0 (fun K hK => ?_) ?_
    · go_simp
      exact hK _ _ s0_1_2_3_4_5_6_7_8_9
    exact AllReadyIn.nil
  have s0_1_2_3_4_5_6_7 : wpAnyIn (Fence.wide.inRound l) d Tryd.prog .any posOps Q 4 #[true, true, true, true, true, true, true, true, false, false, false, false] { tmps := #[y0, y1, y2, y3, .pointer (some ⟨Bo, 0, none⟩), y5, .pointer (some ⟨Bh, 0, none⟩), .int .i64 i, .pointer (some ⟨Bx, 0, none⟩), y9, y10, y11, y12, y13, y14, y15, y16, y17, y18, y19, y20, y21, y22, y23, y24, y25, y26, y27, y28, y29, y30, y31, y32, y33, y34, y35, (.slice va kn vc), (tv k n s (.slice a m c)), (.pointer (some ⟨Bh, 4, none⟩)), (.slice aa an ac), (.int .i64 i), z5, z6, (.slice ca cn cc), y44, y45, y46, y47], defers := [] } w7 := by
    refine wpAnyIn_ready (rs := [8]) (by kernel_rfl) (by simp) ?_
    refine AllReadyIn.cons pop8 (fun K hK => ?_) ?_
    · go_simp
      exact hK _ _ s0_1_2_3_4_5_6_7_8
    exact AllReadyIn.nil
  have s1_2_3_4_5_6_7_8 : wpAnyIn (Fence.wide.inRound l) d Tryd.prog .any posOps Q 4 #[false, true, true, true, true, true, true, true, true, false, false, false] { tmps := #[y0, y1, y2, y3, .pointer (some ⟨Bo, 0, none⟩), y5, .pointer (some ⟨Bh, 0, none⟩), .int .i64 i, .pointer (some ⟨Bx, 0, none⟩), y9, y10, y11, y12, y13, y14, y15, y16, y17, y18, y19, y20, y21, y22, y23, y24, y25, y26, y27, y28, y29, y30, y31, y32, y33, y34, y35, y36, (tv k n s (.slice a m c)), (.pointer (some ⟨Bh, 4, none⟩)), (.slice aa an ac), (.int .i64 i), z5, z6, (.slice ca cn cc), (.agg #[.int .i64 k, .int .i64 n, .string s, .slice a m c, .slice ca cn cc]), y45, y46, y47], defers := [] } w7 := by
    refine wpAnyIn_ready (rs := [0, 9]) (by kernel_rfl) (by simp) ?_
    refine AllReadyIn.cons pop0 (fun K hK => ?_) ?_
    · go_simp
      exact hK _ _ s0_1_2_3_4_5_6_7_8
    refine AllReadyIn.cons pop9 (fun K hK => ?_) ?_
    · go_simp
      exact hK _ _ s1_2_3_4_5_6_7_8_9
    exact AllReadyIn.nil
  have s0_2_3_4_5_6_7 : wpAnyIn (Fence.wide.inRound l) d Tryd.prog .any posOps Q 5 #[true, false, true, true, true, true, true, true, false, false, false, false] { tmps := #[y0, y1, y2, y3, .pointer (some ⟨Bo, 0, none⟩), y5, .pointer (some ⟨Bh, 0, none⟩), .int .i64 i, .pointer (some ⟨Bx, 0, none⟩), y9, y10, y11, y12, y13, y14, y15, y16, y17, y18, y19, y20, y21, y22, y23, y24, y25, y26, y27, y28, y29, y30, y31, y32, y33, y34, y35, (.slice va kn vc), y37, (.pointer (some ⟨Bh, 4, none⟩)), (.slice aa an ac), (.int .i64 i), z5, z6, (.slice ca cn cc), y44, y45, y46, y47], defers := [] } w7 := by
    refine wpAnyIn_ready (rs := [1]) (by kernel_rfl) (by simp) ?_
    refine AllReadyIn.cons pop1 (fun K hK => ?_) ?_
    · go_simp
      exact hK _ _ s0_1_2_3_4_5_6_7
    exact AllReadyIn.nil
  have s1_2_3_4_5_6_7 : wpAnyIn (Fence.wide.inRound l) d Tryd.prog .any posOps Q 5 #[false, true, true, true, true, true, true, true, false, false, false, false] { tmps := #[y0, y1, y2, y3, .pointer (some ⟨Bo, 0, none⟩), y5, .pointer (some ⟨Bh, 0, none⟩), .int .i64 i, .pointer (some ⟨Bx, 0, none⟩), y9, y10, y11, y12, y13, y14, y15, y16, y17, y18, y19, y20, y21, y22, y23, y24, y25, y26, y27, y28, y29, y30, y31, y32, y33, y34, y35, y36, (tv k n s (.slice a m c)), (.pointer (some ⟨Bh, 4, none⟩)), (.slice aa an ac), (.int .i64 i), z5, z6, (.slice ca cn cc), y44, y45, y46, y47], defers := [] } w7 := by
    refine wpAnyIn_ready (rs := [0, 8]) (by kernel_rfl) (by simp) ?_
    refine AllReadyIn.cons pop0 (fun K hK => ?_) ?_
    · go_simp
      exact hK _ _ s0_1_2_3_4_5_6_7
    refine AllReadyIn.cons pop8 (fun K hK => ?_) ?_
    · go_simp
      exact hK _ _ s1_2_3_4_5_6_7_8
    exact AllReadyIn.nil
  have s2_3_4_5_6_7 : wpAnyIn (Fence.wide.inRound l) d Tryd.prog .any posOps Q 6 #[false, false, true, true, true, true, true, true, false, false, false, false] { tmps := #[y0, y1, y2, y3, .pointer (some ⟨Bo, 0, none⟩), y5, .pointer (some ⟨Bh, 0, none⟩), .int .i64 i, .pointer (some ⟨Bx, 0, none⟩), y9, y10, y11, y12, y13, y14, y15, y16, y17, y18, y19, y20, y21, y22, y23, y24, y25, y26, y27, y28, y29, y30, y31, y32, y33, y34, y35, y36, y37, (.pointer (some ⟨Bh, 4, none⟩)), (.slice aa an ac), (.int .i64 i), z5, z6, (.slice ca cn cc), y44, y45, y46, y47], defers := [] } w7 := by
    refine wpAnyIn_ready (rs := [0, 1]) (by kernel_rfl) (by simp) ?_
    refine AllReadyIn.cons pop0 (fun K hK => ?_) ?_
    · go_simp
      exact hK _ _ s0_2_3_4_5_6_7
    refine AllReadyIn.cons pop1 (fun K hK => ?_) ?_
    · go_simp
      exact hK _ _ s1_2_3_4_5_6_7
    exact AllReadyIn.nil
  exact ⟨s2_3_4_5_6_7, s0_2_3_4_5_6_7, s1_2_3_4_5_6_7, s0_1_2_3_4_5_6_7⟩

/-- What the statement leaves, the position's slice besides. -/
def PosFin (B Bo kn : Nat) (va : Option Addr) (vc : Nat) (xs : List Value) (k n : Int) (s : ByteArray) (a : Option Addr) (m c : Nat) (qs : List Int) (W W' : World) : Prop :=
  ∃ g7 c7 w7, w7.ownsRow W.heap.size 3 1 (.slice (some ⟨g7, 0, none⟩) qs.length c7) qs.length (qs.map iv) ∧ Below W.heap.size W w7 ∧ AppP B Bo kn va vc xs k n s a m c (.slice (some ⟨g7, 0, none⟩) qs.length c7) w7 W'

set_option maxRecDepth 100000 in
set_option maxHeartbeats 16000000 in
theorem pos_region (l d : Nat) (hd : 1 ≤ d) (Q : Exit → Act → World → Prop) (y0 y1 y2 y3 y5 y9 y10 y11 y12 y13 y14 y15 y16 y17 y18 y19 y20 y21 y22 y23 y24 y25 y26 y27 y28 y29 y30 y31 y32 y33 y34 y35 y36 y37 y38 y39 y40 y41 y42 y43 y44 y45 y46 y47 : Value) (Bo Bh Bx B : Nat) (i : Int) (aa : Option Addr) (an ac : Nat) (ps : List Int) (va : Option Addr) (kn vc : Nat) (xs : List Value) (k n : Int) (s : ByteArray) (a : Option Addr) (m c : Nat) (p0 p1 p2 p3 : Value) (W : World)
    (hbl : Boxed W Bo 43 (.slice va kn vc)) (hbx : W.heap[Bx]? = some (.cells #[.int .i64 k, .int .i64 n, .string s, .slice a m c] 26 (0, 0))) (hbh : W.heap[Bh]? = some (.cells #[p0, p1, p2, p3, .slice aa an ac] 42 (0, 0))) (hown : W.ownsRow B 42 5 (.slice va kn vc) kn xs)
    (hB : B ≤ Bo) (hkn : kn ≤ 4194304) (han : an = ps.length) (hpl : ps.length ≤ 4194304) (hs : SrcI W aa ac ps) (hQ : ∀ a' W', PosFin B Bo kn va vc xs k n s a m c (ps ++ [i]) W W' → Q .normal a' W') :
    (Code.region 11 posOps true).wpIn (Fence.wide.inRound l) d Tryd.prog Q { tmps := #[y0, y1, y2, y3, .pointer (some ⟨Bo, 0, none⟩), y5, .pointer (some ⟨Bh, 0, none⟩), .int .i64 i, .pointer (some ⟨Bx, 0, none⟩), y9, y10, y11, y12, y13, y14, y15, y16, y17, y18, y19, y20, y21, y22, y23, y24, y25, y26, y27, y28, y29, y30, y31, y32, y33, y34, y35, y36, y37, y38, y39, y40, y41, y42, y43, y44, y45, y46, y47], defers := [] } W := by
  have hltB := hbl.lt
  have hltX : Bx < W.heap.size := (Array.getElem?_eq_some_iff.1 hbx).1
  have hltH : Bh < W.heap.size := (Array.getElem?_eq_some_iff.1 hbh).1
  have b1 : Below W.heap.size W (W.alloc (.cells #[.int .i64 i] 3)) := (Below.refl _ _).alloc (Nat.le_refl _) _
  have hz1 : (World.heap (W.alloc (.cells #[.int .i64 i] 3))).size = W.heap.size + 1 := by simp
  have b2 : Below W.heap.size W ((W.alloc (.cells #[.int .i64 i] 3)).alloc (.cells #[.slice aa an ac, .slice (some ⟨W.heap.size, 0, none⟩) 1 1] 33)) := b1.alloc b1.size _
  have hz2 : (World.heap ((W.alloc (.cells #[.int .i64 i] 3)).alloc (.cells #[.slice aa an ac, .slice (some ⟨W.heap.size, 0, none⟩) 1 1] 33))).size = W.heap.size + 2 := by simp
  have b2d : Below W.heap.size W (World.drew ((W.alloc (.cells #[.int .i64 i] 3)).alloc (.cells #[.slice aa an ac, .slice (some ⟨W.heap.size, 0, none⟩) 1 1] 33))) := b2.drew
  have hnew1 : (World.heap ((W.alloc (.cells #[.int .i64 i] 3)).alloc (.cells #[.slice aa an ac, .slice (some ⟨W.heap.size, 0, none⟩) 1 1] 33)))[W.heap.size]? = some (.cells #[.int .i64 i] 3 (0, 0)) := (Below.heap_alloc _ _ _ (by rw [hz1]; omega)).trans (heap_new W _ rfl)
  have hnew2 : (World.heap ((W.alloc (.cells #[.int .i64 i] 3)).alloc (.cells #[.slice aa an ac, .slice (some ⟨W.heap.size, 0, none⟩) 1 1] 33)))[W.heap.size + 1]? = some (.cells #[.slice aa an ac, .slice (some ⟨W.heap.size, 0, none⟩) 1 1] 33 (0, 0)) := heap_new _ _ hz1.symm
  have q0 : World.cell? (World.drew ((W.alloc (.cells #[.int .i64 i] 3)).alloc (.cells #[.slice aa an ac, .slice (some ⟨W.heap.size, 0, none⟩) 1 1] 33))) ⟨W.heap.size + 1, 0, none⟩ = some (.slice aa an ac) := (cell_of_row _ (W.heap.size + 1) 0 _ _ _ hnew2).trans rfl
  have q1 : World.cell? (World.drew ((W.alloc (.cells #[.int .i64 i] 3)).alloc (.cells #[.slice aa an ac, .slice (some ⟨W.heap.size, 0, none⟩) 1 1] 33))) ⟨W.heap.size + 1, 1, none⟩ = some (.slice (some ⟨W.heap.size, 0, none⟩) 1 1) := (cell_of_row _ (W.heap.size + 1) 1 _ _ _ hnew2).trans rfl
  have q2 : World.cell? (World.drew ((W.alloc (.cells #[.int .i64 i] 3)).alloc (.cells #[.slice aa an ac, .slice (some ⟨W.heap.size, 0, none⟩) 1 1] 33))) ⟨W.heap.size, 0, none⟩ = some (iv i) := (cell_of_row _ W.heap.size 0 _ _ _ hnew1).trans rfl
  have HCAT := Lib.hid (concat_any (W.heap.size + 1) W.heap.size 1 ac 2 an aa ps i (World.drew ((W.alloc (.cells #[.int .i64 i] 3)).alloc (.cells #[.slice aa an ac, .slice (some ⟨W.heap.size, 0, none⟩) 1 1] 33))) han (by omega) q0 q1 q2 (hs.below b2d))
  have HB : Hid (∀ w7 g7 c7, w7.ownsRow (World.heap (World.drew ((W.alloc (.cells #[.int .i64 i] 3)).alloc (.cells #[.slice aa an ac, .slice (some ⟨W.heap.size, 0, none⟩) 1 1] 33)))).size 3 1 (.slice (some ⟨g7, 0, none⟩) (ps ++ [i]).length c7) (ps ++ [i]).length ((ps ++ [i]).map iv) → Below (World.heap (World.drew ((W.alloc (.cells #[.int .i64 i] 3)).alloc (.cells #[.slice aa an ac, .slice (some ⟨W.heap.size, 0, none⟩) 1 1] 33)))).size (World.drew ((W.alloc (.cells #[.int .i64 i] 3)).alloc (.cells #[.slice aa an ac, .slice (some ⟨W.heap.size, 0, none⟩) 1 1] 33))) w7 → _) := Lib.hid (fun w7 g7 c7 ho hb =>
    have hb7 : Below W.heap.size W w7 := b2d.trans (hb.mono (by rw [show (World.heap (World.drew ((W.alloc (.cells #[.int .i64 i] 3)).alloc (.cells #[.slice aa an ac, .slice (some ⟨W.heap.size, 0, none⟩) 1 1] 33)))).size = W.heap.size + 2 from hz2]; omega))
    pos_regB l d Q y0 y1 y2 y3 y5 y9 y10 y11 y12 y13 y14 y15 y16 y17 y18 y19 y20 y21 y22 y23 y24 y25 y26 y27 y28 y29 y30 y31 y32 y33 y34 y35 y36 y37 y38 y39 y40 y41 y42 y43 y44 y45 y46 y47 (.slice (some ⟨W.heap.size, 0, none⟩) 1 1) (.slice (some ⟨W.heap.size + 1, 0, none⟩) 2 2) Bo Bh Bx B i aa an ac va kn vc xs k n s a m c (some ⟨g7, 0, none⟩) (ps ++ [i]).length c7 w7
      ((hb7.block Bo hltB).trans hbl) ((hb7.block Bx hltX).trans hbx) (keep_own hown hb7) hB hkn
      (fun a' W' h => hQ a' W' ⟨g7, c7, w7, own_low ho (by rw [show (World.heap (World.drew ((W.alloc (.cells #[.int .i64 i] 3)).alloc (.cells #[.slice aa an ac, .slice (some ⟨W.heap.size, 0, none⟩) 1 1] 33)))).size = W.heap.size + 2 from hz2]; omega), hb7, h⟩))
  have cB := hbl.cell
  obtain ⟨x0, x1, x2, x3⟩ := cells4P hbx
  have h4 := cell_of_row W Bh 4 _ _ _ hbh
  simp at h4
  have cB1 := cell_on b1 cB
  have xa0 := cell_on b1 x0
  have xa1 := cell_on b1 x1
  have xa2 := cell_on b1 x2
  have xa3 := cell_on b1 x3
  have ha4 := cell_on b1 h4
  have cB2 := cell_on b2 cB
  have xb0 := cell_on b2 x0
  have xb1 := cell_on b2 x1
  have xb2 := cell_on b2 x2
  have xb3 := cell_on b2 x3
  clear han hQ hpl b1 b2 b2d hnew1 hnew2 q0 q1 q2 hbh hbx hbl hown hs hltB hltX hltH hz1 hz2
  have s0_1_2_3_4_5_6 : wpAnyIn (Fence.wide.inRound l) d Tryd.prog .any posOps Q 5 #[true, true, true, true, true, true, true, false, false, false, false, false] { tmps := #[y0, y1, y2, y3, .pointer (some ⟨Bo, 0, none⟩), y5, .pointer (some ⟨Bh, 0, none⟩), .int .i64 i, .pointer (some ⟨Bx, 0, none⟩), y9, y10, y11, y12, y13, y14, y15, y16, y17, y18, y19, y20, y21, y22, y23, y24, y25, y26, y27, y28, y29, y30, y31, y32, y33, y34, y35, (.slice va kn vc), (tv k n s (.slice a m c)), (.pointer (some ⟨Bh, 4, none⟩)), (.slice aa an ac), (.int .i64 i), (.slice (some ⟨W.heap.size, 0, none⟩) 1 1), (.slice (some ⟨W.heap.size + 1, 0, none⟩) 2 2), y43, y44, y45, y46, y47], defers := [] } (((W.alloc (.cells #[.int .i64 i] 3)).alloc (.cells #[.slice aa an ac, .slice (some ⟨W.heap.size, 0, none⟩) 1 1] 33)).drew) := by
    refine wpAnyIn_ready (rs := [7]) (by kernel_rfl) (by simp) ?_
    refine AllReadyIn.cons pop7 (fun K hK => ?_) ?_
    · go_simp
      refine ⟨trivial, (CallsIn.inRound l (callsIn_wide.2 HCAT.out)).mono ?_⟩
      rintro e w7 ⟨cv, rfl, ho7, hb7, hne7⟩
      obtain ⟨g7, c7, rfl⟩ := cat_form ho7 hne7
      exact hK _ _ (HB.out w7 g7 c7 ho7 hb7).2.2.2
    exact AllReadyIn.nil
  have s1_2_3_4_5_6 : wpAnyIn (Fence.wide.inRound l) d Tryd.prog .any posOps Q 6 #[false, true, true, true, true, true, true, false, false, false, false, false] { tmps := #[y0, y1, y2, y3, .pointer (some ⟨Bo, 0, none⟩), y5, .pointer (some ⟨Bh, 0, none⟩), .int .i64 i, .pointer (some ⟨Bx, 0, none⟩), y9, y10, y11, y12, y13, y14, y15, y16, y17, y18, y19, y20, y21, y22, y23, y24, y25, y26, y27, y28, y29, y30, y31, y32, y33, y34, y35, y36, (tv k n s (.slice a m c)), (.pointer (some ⟨Bh, 4, none⟩)), (.slice aa an ac), (.int .i64 i), (.slice (some ⟨W.heap.size, 0, none⟩) 1 1), (.slice (some ⟨W.heap.size + 1, 0, none⟩) 2 2), y43, y44, y45, y46, y47], defers := [] } (((W.alloc (.cells #[.int .i64 i] 3)).alloc (.cells #[.slice aa an ac, .slice (some ⟨W.heap.size, 0, none⟩) 1 1] 33)).drew) := by
    refine wpAnyIn_ready (rs := [0, 7]) (by kernel_rfl) (by simp) ?_
    refine AllReadyIn.cons pop0 (fun K hK => ?_) ?_
    · go_simp
      exact hK _ _ s0_1_2_3_4_5_6
    refine AllReadyIn.cons pop7 (fun K hK => ?_) ?_
    · go_simp
      refine ⟨trivial, (CallsIn.inRound l (callsIn_wide.2 HCAT.out)).mono ?_⟩
      rintro e w7 ⟨cv, rfl, ho7, hb7, hne7⟩
      obtain ⟨g7, c7, rfl⟩ := cat_form ho7 hne7
      exact hK _ _ (HB.out w7 g7 c7 ho7 hb7).2.2.1
    exact AllReadyIn.nil
  have s0_2_3_4_5_6 : wpAnyIn (Fence.wide.inRound l) d Tryd.prog .any posOps Q 6 #[true, false, true, true, true, true, true, false, false, false, false, false] { tmps := #[y0, y1, y2, y3, .pointer (some ⟨Bo, 0, none⟩), y5, .pointer (some ⟨Bh, 0, none⟩), .int .i64 i, .pointer (some ⟨Bx, 0, none⟩), y9, y10, y11, y12, y13, y14, y15, y16, y17, y18, y19, y20, y21, y22, y23, y24, y25, y26, y27, y28, y29, y30, y31, y32, y33, y34, y35, (.slice va kn vc), y37, (.pointer (some ⟨Bh, 4, none⟩)), (.slice aa an ac), (.int .i64 i), (.slice (some ⟨W.heap.size, 0, none⟩) 1 1), (.slice (some ⟨W.heap.size + 1, 0, none⟩) 2 2), y43, y44, y45, y46, y47], defers := [] } (((W.alloc (.cells #[.int .i64 i] 3)).alloc (.cells #[.slice aa an ac, .slice (some ⟨W.heap.size, 0, none⟩) 1 1] 33)).drew) := by
    refine wpAnyIn_ready (rs := [1, 7]) (by kernel_rfl) (by simp) ?_
    refine AllReadyIn.cons pop1 (fun K hK => ?_) ?_
    · go_simp
      exact hK _ _ s0_1_2_3_4_5_6
    refine AllReadyIn.cons pop7 (fun K hK => ?_) ?_
    · go_simp
      refine ⟨trivial, (CallsIn.inRound l (callsIn_wide.2 HCAT.out)).mono ?_⟩
      rintro e w7 ⟨cv, rfl, ho7, hb7, hne7⟩
      obtain ⟨g7, c7, rfl⟩ := cat_form ho7 hne7
      exact hK _ _ (HB.out w7 g7 c7 ho7 hb7).2.1
    exact AllReadyIn.nil
  have s0_1_2_3_4_5 : wpAnyIn (Fence.wide.inRound l) d Tryd.prog .any posOps Q 6 #[true, true, true, true, true, true, false, false, false, false, false, false] { tmps := #[y0, y1, y2, y3, .pointer (some ⟨Bo, 0, none⟩), y5, .pointer (some ⟨Bh, 0, none⟩), .int .i64 i, .pointer (some ⟨Bx, 0, none⟩), y9, y10, y11, y12, y13, y14, y15, y16, y17, y18, y19, y20, y21, y22, y23, y24, y25, y26, y27, y28, y29, y30, y31, y32, y33, y34, y35, (.slice va kn vc), (tv k n s (.slice a m c)), (.pointer (some ⟨Bh, 4, none⟩)), (.slice aa an ac), (.int .i64 i), (.slice (some ⟨W.heap.size, 0, none⟩) 1 1), y42, y43, y44, y45, y46, y47], defers := [] } ((W.alloc (.cells #[.int .i64 i] 3)).drew) := by
    refine wpAnyIn_ready (rs := [6]) (by kernel_rfl) (by simp) ?_
    refine AllReadyIn.cons pop6 (fun K hK => ?_) ?_
    · go_simp
      exact hK _ _ s0_1_2_3_4_5_6
    exact AllReadyIn.nil
  have s0_1_2_3_4 : wpAnyIn (Fence.wide.inRound l) d Tryd.prog .any posOps Q 7 #[true, true, true, true, true, false, false, false, false, false, false, false] { tmps := #[y0, y1, y2, y3, .pointer (some ⟨Bo, 0, none⟩), y5, .pointer (some ⟨Bh, 0, none⟩), .int .i64 i, .pointer (some ⟨Bx, 0, none⟩), y9, y10, y11, y12, y13, y14, y15, y16, y17, y18, y19, y20, y21, y22, y23, y24, y25, y26, y27, y28, y29, y30, y31, y32, y33, y34, y35, (.slice va kn vc), (tv k n s (.slice a m c)), (.pointer (some ⟨Bh, 4, none⟩)), (.slice aa an ac), (.int .i64 i), y41, y42, y43, y44, y45, y46, y47], defers := [] } W.drew := by
    refine wpAnyIn_ready (rs := [5]) (by kernel_rfl) (by simp) ?_
    refine AllReadyIn.cons pop5 (fun K hK => ?_) ?_
    · go_simp
      exact hK _ _ s0_1_2_3_4_5
    exact AllReadyIn.nil
  have s0_2_3_4_5 : wpAnyIn (Fence.wide.inRound l) d Tryd.prog .any posOps Q 7 #[true, false, true, true, true, true, false, false, false, false, false, false] { tmps := #[y0, y1, y2, y3, .pointer (some ⟨Bo, 0, none⟩), y5, .pointer (some ⟨Bh, 0, none⟩), .int .i64 i, .pointer (some ⟨Bx, 0, none⟩), y9, y10, y11, y12, y13, y14, y15, y16, y17, y18, y19, y20, y21, y22, y23, y24, y25, y26, y27, y28, y29, y30, y31, y32, y33, y34, y35, (.slice va kn vc), y37, (.pointer (some ⟨Bh, 4, none⟩)), (.slice aa an ac), (.int .i64 i), (.slice (some ⟨W.heap.size, 0, none⟩) 1 1), y42, y43, y44, y45, y46, y47], defers := [] } ((W.alloc (.cells #[.int .i64 i] 3)).drew) := by
    refine wpAnyIn_ready (rs := [1, 6]) (by kernel_rfl) (by simp) ?_
    refine AllReadyIn.cons pop1 (fun K hK => ?_) ?_
    · go_simp
      exact hK _ _ s0_1_2_3_4_5
    refine AllReadyIn.cons pop6 (fun K hK => ?_) ?_
    · go_simp
      exact hK _ _ s0_2_3_4_5_6
    exact AllReadyIn.nil
  have s1_2_3_4_5 : wpAnyIn (Fence.wide.inRound l) d Tryd.prog .any posOps Q 7 #[false, true, true, true, true, true, false, false, false, false, false, false] { tmps := #[y0, y1, y2, y3, .pointer (some ⟨Bo, 0, none⟩), y5, .pointer (some ⟨Bh, 0, none⟩), .int .i64 i, .pointer (some ⟨Bx, 0, none⟩), y9, y10, y11, y12, y13, y14, y15, y16, y17, y18, y19, y20, y21, y22, y23, y24, y25, y26, y27, y28, y29, y30, y31, y32, y33, y34, y35, y36, (tv k n s (.slice a m c)), (.pointer (some ⟨Bh, 4, none⟩)), (.slice aa an ac), (.int .i64 i), (.slice (some ⟨W.heap.size, 0, none⟩) 1 1), y42, y43, y44, y45, y46, y47], defers := [] } ((W.alloc (.cells #[.int .i64 i] 3)).drew) := by
    refine wpAnyIn_ready (rs := [0, 6]) (by kernel_rfl) (by simp) ?_
    refine AllReadyIn.cons pop0 (fun K hK => ?_) ?_
    · go_simp
      exact hK _ _ s0_1_2_3_4_5
    refine AllReadyIn.cons pop6 (fun K hK => ?_) ?_
    · go_simp
      exact hK _ _ s1_2_3_4_5_6
    exact AllReadyIn.nil
  have s0_1_2_4_5 : wpAnyIn (Fence.wide.inRound l) d Tryd.prog .any posOps Q 7 #[true, true, true, false, true, true, false, false, false, false, false, false] { tmps := #[y0, y1, y2, y3, .pointer (some ⟨Bo, 0, none⟩), y5, .pointer (some ⟨Bh, 0, none⟩), .int .i64 i, .pointer (some ⟨Bx, 0, none⟩), y9, y10, y11, y12, y13, y14, y15, y16, y17, y18, y19, y20, y21, y22, y23, y24, y25, y26, y27, y28, y29, y30, y31, y32, y33, y34, y35, (.slice va kn vc), (tv k n s (.slice a m c)), (.pointer (some ⟨Bh, 4, none⟩)), y39, (.int .i64 i), (.slice (some ⟨W.heap.size, 0, none⟩) 1 1), y42, y43, y44, y45, y46, y47], defers := [] } ((W.alloc (.cells #[.int .i64 i] 3)).drew) := by
    refine wpAnyIn_ready (rs := [3]) (by kernel_rfl) (by simp) ?_
    refine AllReadyIn.cons pop3 (fun K hK => ?_) ?_
    · go_simp
      exact hK _ _ s0_1_2_3_4_5
    exact AllReadyIn.nil
  have s2_3_4_5_6 : wpAnyIn (Fence.wide.inRound l) d Tryd.prog .any posOps Q 7 #[false, false, true, true, true, true, true, false, false, false, false, false] { tmps := #[y0, y1, y2, y3, .pointer (some ⟨Bo, 0, none⟩), y5, .pointer (some ⟨Bh, 0, none⟩), .int .i64 i, .pointer (some ⟨Bx, 0, none⟩), y9, y10, y11, y12, y13, y14, y15, y16, y17, y18, y19, y20, y21, y22, y23, y24, y25, y26, y27, y28, y29, y30, y31, y32, y33, y34, y35, y36, y37, (.pointer (some ⟨Bh, 4, none⟩)), (.slice aa an ac), (.int .i64 i), (.slice (some ⟨W.heap.size, 0, none⟩) 1 1), (.slice (some ⟨W.heap.size + 1, 0, none⟩) 2 2), y43, y44, y45, y46, y47], defers := [] } (((W.alloc (.cells #[.int .i64 i] 3)).alloc (.cells #[.slice aa an ac, .slice (some ⟨W.heap.size, 0, none⟩) 1 1] 33)).drew) := by
    refine wpAnyIn_ready (rs := [0, 1, 7]) (by kernel_rfl) (by simp) ?_
    refine AllReadyIn.cons pop0 (fun K hK => ?_) ?_
    · go_simp
      exact hK _ _ s0_2_3_4_5_6
    refine AllReadyIn.cons pop1 (fun K hK => ?_) ?_
    · go_simp
      exact hK _ _ s1_2_3_4_5_6
    refine AllReadyIn.cons pop7 (fun K hK => ?_) ?_
    · go_simp
      refine ⟨trivial, (CallsIn.inRound l (callsIn_wide.2 HCAT.out)).mono ?_⟩
      rintro e w7 ⟨cv, rfl, ho7, hb7, hne7⟩
      obtain ⟨g7, c7, rfl⟩ := cat_form ho7 hne7
      exact hK _ _ (HB.out w7 g7 c7 ho7 hb7).1
    exact AllReadyIn.nil
  have s0_2_3_4 : wpAnyIn (Fence.wide.inRound l) d Tryd.prog .any posOps Q 8 #[true, false, true, true, true, false, false, false, false, false, false, false] { tmps := #[y0, y1, y2, y3, .pointer (some ⟨Bo, 0, none⟩), y5, .pointer (some ⟨Bh, 0, none⟩), .int .i64 i, .pointer (some ⟨Bx, 0, none⟩), y9, y10, y11, y12, y13, y14, y15, y16, y17, y18, y19, y20, y21, y22, y23, y24, y25, y26, y27, y28, y29, y30, y31, y32, y33, y34, y35, (.slice va kn vc), y37, (.pointer (some ⟨Bh, 4, none⟩)), (.slice aa an ac), (.int .i64 i), y41, y42, y43, y44, y45, y46, y47], defers := [] } W.drew := by
    refine wpAnyIn_ready (rs := [1, 5]) (by kernel_rfl) (by simp) ?_
    refine AllReadyIn.cons pop1 (fun K hK => ?_) ?_
    · go_simp
      exact hK _ _ s0_1_2_3_4
    refine AllReadyIn.cons pop5 (fun K hK => ?_) ?_
    · go_simp
      exact hK _ _ s0_2_3_4_5
    exact AllReadyIn.nil
  have s1_2_4_5 : wpAnyIn (Fence.wide.inRound l) d Tryd.prog .any posOps Q 8 #[false, true, true, false, true, true, false, false, false, false, false, false] { tmps := #[y0, y1, y2, y3, .pointer (some ⟨Bo, 0, none⟩), y5, .pointer (some ⟨Bh, 0, none⟩), .int .i64 i, .pointer (some ⟨Bx, 0, none⟩), y9, y10, y11, y12, y13, y14, y15, y16, y17, y18, y19, y20, y21, y22, y23, y24, y25, y26, y27, y28, y29, y30, y31, y32, y33, y34, y35, y36, (tv k n s (.slice a m c)), (.pointer (some ⟨Bh, 4, none⟩)), y39, (.int .i64 i), (.slice (some ⟨W.heap.size, 0, none⟩) 1 1), y42, y43, y44, y45, y46, y47], defers := [] } ((W.alloc (.cells #[.int .i64 i] 3)).drew) := by
    refine wpAnyIn_ready (rs := [0, 3]) (by kernel_rfl) (by simp) ?_
    refine AllReadyIn.cons pop0 (fun K hK => ?_) ?_
    · go_simp
      exact hK _ _ s0_1_2_4_5
    refine AllReadyIn.cons pop3 (fun K hK => ?_) ?_
    · go_simp
      exact hK _ _ s1_2_3_4_5
    exact AllReadyIn.nil
  have s0_1_4_5 : wpAnyIn (Fence.wide.inRound l) d Tryd.prog .any posOps Q 8 #[true, true, false, false, true, true, false, false, false, false, false, false] { tmps := #[y0, y1, y2, y3, .pointer (some ⟨Bo, 0, none⟩), y5, .pointer (some ⟨Bh, 0, none⟩), .int .i64 i, .pointer (some ⟨Bx, 0, none⟩), y9, y10, y11, y12, y13, y14, y15, y16, y17, y18, y19, y20, y21, y22, y23, y24, y25, y26, y27, y28, y29, y30, y31, y32, y33, y34, y35, (.slice va kn vc), (tv k n s (.slice a m c)), y38, y39, (.int .i64 i), (.slice (some ⟨W.heap.size, 0, none⟩) 1 1), y42, y43, y44, y45, y46, y47], defers := [] } ((W.alloc (.cells #[.int .i64 i] 3)).drew) := by
    refine wpAnyIn_ready (rs := [2]) (by kernel_rfl) (by simp) ?_
    refine AllReadyIn.cons pop2 (fun K hK => ?_) ?_
    · go_simp
      exact hK _ _ s0_1_2_4_5
    exact AllReadyIn.nil
  have s0_2_4_5 : wpAnyIn (Fence.wide.inRound l) d Tryd.prog .any posOps Q 8 #[true, false, true, false, true, true, false, false, false, false, false, false] { tmps := #[y0, y1, y2, y3, .pointer (some ⟨Bo, 0, none⟩), y5, .pointer (some ⟨Bh, 0, none⟩), .int .i64 i, .pointer (some ⟨Bx, 0, none⟩), y9, y10, y11, y12, y13, y14, y15, y16, y17, y18, y19, y20, y21, y22, y23, y24, y25, y26, y27, y28, y29, y30, y31, y32, y33, y34, y35, (.slice va kn vc), y37, (.pointer (some ⟨Bh, 4, none⟩)), y39, (.int .i64 i), (.slice (some ⟨W.heap.size, 0, none⟩) 1 1), y42, y43, y44, y45, y46, y47], defers := [] } ((W.alloc (.cells #[.int .i64 i] 3)).drew) := by
    refine wpAnyIn_ready (rs := [1, 3]) (by kernel_rfl) (by simp) ?_
    refine AllReadyIn.cons pop1 (fun K hK => ?_) ?_
    · go_simp
      exact hK _ _ s0_1_2_4_5
    refine AllReadyIn.cons pop3 (fun K hK => ?_) ?_
    · go_simp
      exact hK _ _ s0_2_3_4_5
    exact AllReadyIn.nil
  have s2_3_4_5 : wpAnyIn (Fence.wide.inRound l) d Tryd.prog .any posOps Q 8 #[false, false, true, true, true, true, false, false, false, false, false, false] { tmps := #[y0, y1, y2, y3, .pointer (some ⟨Bo, 0, none⟩), y5, .pointer (some ⟨Bh, 0, none⟩), .int .i64 i, .pointer (some ⟨Bx, 0, none⟩), y9, y10, y11, y12, y13, y14, y15, y16, y17, y18, y19, y20, y21, y22, y23, y24, y25, y26, y27, y28, y29, y30, y31, y32, y33, y34, y35, y36, y37, (.pointer (some ⟨Bh, 4, none⟩)), (.slice aa an ac), (.int .i64 i), (.slice (some ⟨W.heap.size, 0, none⟩) 1 1), y42, y43, y44, y45, y46, y47], defers := [] } ((W.alloc (.cells #[.int .i64 i] 3)).drew) := by
    refine wpAnyIn_ready (rs := [0, 1, 6]) (by kernel_rfl) (by simp) ?_
    refine AllReadyIn.cons pop0 (fun K hK => ?_) ?_
    · go_simp
      exact hK _ _ s0_2_3_4_5
    refine AllReadyIn.cons pop1 (fun K hK => ?_) ?_
    · go_simp
      exact hK _ _ s1_2_3_4_5
    refine AllReadyIn.cons pop6 (fun K hK => ?_) ?_
    · go_simp
      exact hK _ _ s2_3_4_5_6
    exact AllReadyIn.nil
  have s1_2_3_4 : wpAnyIn (Fence.wide.inRound l) d Tryd.prog .any posOps Q 8 #[false, true, true, true, true, false, false, false, false, false, false, false] { tmps := #[y0, y1, y2, y3, .pointer (some ⟨Bo, 0, none⟩), y5, .pointer (some ⟨Bh, 0, none⟩), .int .i64 i, .pointer (some ⟨Bx, 0, none⟩), y9, y10, y11, y12, y13, y14, y15, y16, y17, y18, y19, y20, y21, y22, y23, y24, y25, y26, y27, y28, y29, y30, y31, y32, y33, y34, y35, y36, (tv k n s (.slice a m c)), (.pointer (some ⟨Bh, 4, none⟩)), (.slice aa an ac), (.int .i64 i), y41, y42, y43, y44, y45, y46, y47], defers := [] } W.drew := by
    refine wpAnyIn_ready (rs := [0, 5]) (by kernel_rfl) (by simp) ?_
    refine AllReadyIn.cons pop0 (fun K hK => ?_) ?_
    · go_simp
      exact hK _ _ s0_1_2_3_4
    refine AllReadyIn.cons pop5 (fun K hK => ?_) ?_
    · go_simp
      exact hK _ _ s1_2_3_4_5
    exact AllReadyIn.nil
  have s0_1_2_3 : wpAnyIn (Fence.wide.inRound l) d Tryd.prog .any posOps Q 8 #[true, true, true, true, false, false, false, false, false, false, false, false] { tmps := #[y0, y1, y2, y3, .pointer (some ⟨Bo, 0, none⟩), y5, .pointer (some ⟨Bh, 0, none⟩), .int .i64 i, .pointer (some ⟨Bx, 0, none⟩), y9, y10, y11, y12, y13, y14, y15, y16, y17, y18, y19, y20, y21, y22, y23, y24, y25, y26, y27, y28, y29, y30, y31, y32, y33, y34, y35, (.slice va kn vc), (tv k n s (.slice a m c)), (.pointer (some ⟨Bh, 4, none⟩)), (.slice aa an ac), y40, y41, y42, y43, y44, y45, y46, y47], defers := [] } W.drew := by
    refine wpAnyIn_ready (rs := [4]) (by kernel_rfl) (by simp) ?_
    refine AllReadyIn.cons pop4 (fun K hK => ?_) ?_
    · go_simp
      exact hK _ _ s0_1_2_3_4
    exact AllReadyIn.nil
  have s0_1_2_4 : wpAnyIn (Fence.wide.inRound l) d Tryd.prog .any posOps Q 8 #[true, true, true, false, true, false, false, false, false, false, false, false] { tmps := #[y0, y1, y2, y3, .pointer (some ⟨Bo, 0, none⟩), y5, .pointer (some ⟨Bh, 0, none⟩), .int .i64 i, .pointer (some ⟨Bx, 0, none⟩), y9, y10, y11, y12, y13, y14, y15, y16, y17, y18, y19, y20, y21, y22, y23, y24, y25, y26, y27, y28, y29, y30, y31, y32, y33, y34, y35, (.slice va kn vc), (tv k n s (.slice a m c)), (.pointer (some ⟨Bh, 4, none⟩)), y39, (.int .i64 i), y41, y42, y43, y44, y45, y46, y47], defers := [] } W.drew := by
    refine wpAnyIn_ready (rs := [3, 5]) (by kernel_rfl) (by simp) ?_
    refine AllReadyIn.cons pop3 (fun K hK => ?_) ?_
    · go_simp
      exact hK _ _ s0_1_2_3_4
    refine AllReadyIn.cons pop5 (fun K hK => ?_) ?_
    · go_simp
      exact hK _ _ s0_1_2_4_5
    exact AllReadyIn.nil
  have s2_3_4 : wpAnyIn (Fence.wide.inRound l) d Tryd.prog .any posOps Q 9 #[false, false, true, true, true, false, false, false, false, false, false, false] { tmps := #[y0, y1, y2, y3, .pointer (some ⟨Bo, 0, none⟩), y5, .pointer (some ⟨Bh, 0, none⟩), .int .i64 i, .pointer (some ⟨Bx, 0, none⟩), y9, y10, y11, y12, y13, y14, y15, y16, y17, y18, y19, y20, y21, y22, y23, y24, y25, y26, y27, y28, y29, y30, y31, y32, y33, y34, y35, y36, y37, (.pointer (some ⟨Bh, 4, none⟩)), (.slice aa an ac), (.int .i64 i), y41, y42, y43, y44, y45, y46, y47], defers := [] } W.drew := by
    refine wpAnyIn_ready (rs := [0, 1, 5]) (by kernel_rfl) (by simp) ?_
    refine AllReadyIn.cons pop0 (fun K hK => ?_) ?_
    · go_simp
      exact hK _ _ s0_2_3_4
    refine AllReadyIn.cons pop1 (fun K hK => ?_) ?_
    · go_simp
      exact hK _ _ s1_2_3_4
    refine AllReadyIn.cons pop5 (fun K hK => ?_) ?_
    · go_simp
      exact hK _ _ s2_3_4_5
    exact AllReadyIn.nil
  have s0_2_4 : wpAnyIn (Fence.wide.inRound l) d Tryd.prog .any posOps Q 9 #[true, false, true, false, true, false, false, false, false, false, false, false] { tmps := #[y0, y1, y2, y3, .pointer (some ⟨Bo, 0, none⟩), y5, .pointer (some ⟨Bh, 0, none⟩), .int .i64 i, .pointer (some ⟨Bx, 0, none⟩), y9, y10, y11, y12, y13, y14, y15, y16, y17, y18, y19, y20, y21, y22, y23, y24, y25, y26, y27, y28, y29, y30, y31, y32, y33, y34, y35, (.slice va kn vc), y37, (.pointer (some ⟨Bh, 4, none⟩)), y39, (.int .i64 i), y41, y42, y43, y44, y45, y46, y47], defers := [] } W.drew := by
    refine wpAnyIn_ready (rs := [1, 3, 5]) (by kernel_rfl) (by simp) ?_
    refine AllReadyIn.cons pop1 (fun K hK => ?_) ?_
    · go_simp
      exact hK _ _ s0_1_2_4
    refine AllReadyIn.cons pop3 (fun K hK => ?_) ?_
    · go_simp
      exact hK _ _ s0_2_3_4
    refine AllReadyIn.cons pop5 (fun K hK => ?_) ?_
    · go_simp
      exact hK _ _ s0_2_4_5
    exact AllReadyIn.nil
  have s0_2_3 : wpAnyIn (Fence.wide.inRound l) d Tryd.prog .any posOps Q 9 #[true, false, true, true, false, false, false, false, false, false, false, false] { tmps := #[y0, y1, y2, y3, .pointer (some ⟨Bo, 0, none⟩), y5, .pointer (some ⟨Bh, 0, none⟩), .int .i64 i, .pointer (some ⟨Bx, 0, none⟩), y9, y10, y11, y12, y13, y14, y15, y16, y17, y18, y19, y20, y21, y22, y23, y24, y25, y26, y27, y28, y29, y30, y31, y32, y33, y34, y35, (.slice va kn vc), y37, (.pointer (some ⟨Bh, 4, none⟩)), (.slice aa an ac), y40, y41, y42, y43, y44, y45, y46, y47], defers := [] } W.drew := by
    refine wpAnyIn_ready (rs := [1, 4]) (by kernel_rfl) (by simp) ?_
    refine AllReadyIn.cons pop1 (fun K hK => ?_) ?_
    · go_simp
      exact hK _ _ s0_1_2_3
    refine AllReadyIn.cons pop4 (fun K hK => ?_) ?_
    · go_simp
      exact hK _ _ s0_2_3_4
    exact AllReadyIn.nil
  have s0_4_5 : wpAnyIn (Fence.wide.inRound l) d Tryd.prog .any posOps Q 9 #[true, false, false, false, true, true, false, false, false, false, false, false] { tmps := #[y0, y1, y2, y3, .pointer (some ⟨Bo, 0, none⟩), y5, .pointer (some ⟨Bh, 0, none⟩), .int .i64 i, .pointer (some ⟨Bx, 0, none⟩), y9, y10, y11, y12, y13, y14, y15, y16, y17, y18, y19, y20, y21, y22, y23, y24, y25, y26, y27, y28, y29, y30, y31, y32, y33, y34, y35, (.slice va kn vc), y37, y38, y39, (.int .i64 i), (.slice (some ⟨W.heap.size, 0, none⟩) 1 1), y42, y43, y44, y45, y46, y47], defers := [] } ((W.alloc (.cells #[.int .i64 i] 3)).drew) := by
    refine wpAnyIn_ready (rs := [1, 2]) (by kernel_rfl) (by simp) ?_
    refine AllReadyIn.cons pop1 (fun K hK => ?_) ?_
    · go_simp
      exact hK _ _ s0_1_4_5
    refine AllReadyIn.cons pop2 (fun K hK => ?_) ?_
    · go_simp
      exact hK _ _ s0_2_4_5
    exact AllReadyIn.nil
  have s1_2_3 : wpAnyIn (Fence.wide.inRound l) d Tryd.prog .any posOps Q 9 #[false, true, true, true, false, false, false, false, false, false, false, false] { tmps := #[y0, y1, y2, y3, .pointer (some ⟨Bo, 0, none⟩), y5, .pointer (some ⟨Bh, 0, none⟩), .int .i64 i, .pointer (some ⟨Bx, 0, none⟩), y9, y10, y11, y12, y13, y14, y15, y16, y17, y18, y19, y20, y21, y22, y23, y24, y25, y26, y27, y28, y29, y30, y31, y32, y33, y34, y35, y36, (tv k n s (.slice a m c)), (.pointer (some ⟨Bh, 4, none⟩)), (.slice aa an ac), y40, y41, y42, y43, y44, y45, y46, y47], defers := [] } W.drew := by
    refine wpAnyIn_ready (rs := [0, 4]) (by kernel_rfl) (by simp) ?_
    refine AllReadyIn.cons pop0 (fun K hK => ?_) ?_
    · go_simp
      exact hK _ _ s0_1_2_3
    refine AllReadyIn.cons pop4 (fun K hK => ?_) ?_
    · go_simp
      exact hK _ _ s1_2_3_4
    exact AllReadyIn.nil
  have s0_1_2 : wpAnyIn (Fence.wide.inRound l) d Tryd.prog .any posOps Q 9 #[true, true, true, false, false, false, false, false, false, false, false, false] { tmps := #[y0, y1, y2, y3, .pointer (some ⟨Bo, 0, none⟩), y5, .pointer (some ⟨Bh, 0, none⟩), .int .i64 i, .pointer (some ⟨Bx, 0, none⟩), y9, y10, y11, y12, y13, y14, y15, y16, y17, y18, y19, y20, y21, y22, y23, y24, y25, y26, y27, y28, y29, y30, y31, y32, y33, y34, y35, (.slice va kn vc), (tv k n s (.slice a m c)), (.pointer (some ⟨Bh, 4, none⟩)), y39, y40, y41, y42, y43, y44, y45, y46, y47], defers := [] } W.drew := by
    refine wpAnyIn_ready (rs := [3, 4]) (by kernel_rfl) (by simp) ?_
    refine AllReadyIn.cons pop3 (fun K hK => ?_) ?_
    · go_simp
      exact hK _ _ s0_1_2_3
    refine AllReadyIn.cons pop4 (fun K hK => ?_) ?_
    · go_simp
      exact hK _ _ s0_1_2_4
    exact AllReadyIn.nil
  have s1_4_5 : wpAnyIn (Fence.wide.inRound l) d Tryd.prog .any posOps Q 9 #[false, true, false, false, true, true, false, false, false, false, false, false] { tmps := #[y0, y1, y2, y3, .pointer (some ⟨Bo, 0, none⟩), y5, .pointer (some ⟨Bh, 0, none⟩), .int .i64 i, .pointer (some ⟨Bx, 0, none⟩), y9, y10, y11, y12, y13, y14, y15, y16, y17, y18, y19, y20, y21, y22, y23, y24, y25, y26, y27, y28, y29, y30, y31, y32, y33, y34, y35, y36, (tv k n s (.slice a m c)), y38, y39, (.int .i64 i), (.slice (some ⟨W.heap.size, 0, none⟩) 1 1), y42, y43, y44, y45, y46, y47], defers := [] } ((W.alloc (.cells #[.int .i64 i] 3)).drew) := by
    refine wpAnyIn_ready (rs := [0, 2]) (by kernel_rfl) (by simp) ?_
    refine AllReadyIn.cons pop0 (fun K hK => ?_) ?_
    · go_simp
      exact hK _ _ s0_1_4_5
    refine AllReadyIn.cons pop2 (fun K hK => ?_) ?_
    · go_simp
      exact hK _ _ s1_2_4_5
    exact AllReadyIn.nil
  have s0_1_4 : wpAnyIn (Fence.wide.inRound l) d Tryd.prog .any posOps Q 9 #[true, true, false, false, true, false, false, false, false, false, false, false] { tmps := #[y0, y1, y2, y3, .pointer (some ⟨Bo, 0, none⟩), y5, .pointer (some ⟨Bh, 0, none⟩), .int .i64 i, .pointer (some ⟨Bx, 0, none⟩), y9, y10, y11, y12, y13, y14, y15, y16, y17, y18, y19, y20, y21, y22, y23, y24, y25, y26, y27, y28, y29, y30, y31, y32, y33, y34, y35, (.slice va kn vc), (tv k n s (.slice a m c)), y38, y39, (.int .i64 i), y41, y42, y43, y44, y45, y46, y47], defers := [] } W.drew := by
    refine wpAnyIn_ready (rs := [2, 5]) (by kernel_rfl) (by simp) ?_
    refine AllReadyIn.cons pop2 (fun K hK => ?_) ?_
    · go_simp
      exact hK _ _ s0_1_2_4
    refine AllReadyIn.cons pop5 (fun K hK => ?_) ?_
    · go_simp
      exact hK _ _ s0_1_4_5
    exact AllReadyIn.nil
  have s1_2_4 : wpAnyIn (Fence.wide.inRound l) d Tryd.prog .any posOps Q 9 #[false, true, true, false, true, false, false, false, false, false, false, false] { tmps := #[y0, y1, y2, y3, .pointer (some ⟨Bo, 0, none⟩), y5, .pointer (some ⟨Bh, 0, none⟩), .int .i64 i, .pointer (some ⟨Bx, 0, none⟩), y9, y10, y11, y12, y13, y14, y15, y16, y17, y18, y19, y20, y21, y22, y23, y24, y25, y26, y27, y28, y29, y30, y31, y32, y33, y34, y35, y36, (tv k n s (.slice a m c)), (.pointer (some ⟨Bh, 4, none⟩)), y39, (.int .i64 i), y41, y42, y43, y44, y45, y46, y47], defers := [] } W.drew := by
    refine wpAnyIn_ready (rs := [0, 3, 5]) (by kernel_rfl) (by simp) ?_
    refine AllReadyIn.cons pop0 (fun K hK => ?_) ?_
    · go_simp
      exact hK _ _ s0_1_2_4
    refine AllReadyIn.cons pop3 (fun K hK => ?_) ?_
    · go_simp
      exact hK _ _ s1_2_3_4
    refine AllReadyIn.cons pop5 (fun K hK => ?_) ?_
    · go_simp
      exact hK _ _ s1_2_4_5
    exact AllReadyIn.nil
  have s2_4_5 : wpAnyIn (Fence.wide.inRound l) d Tryd.prog .any posOps Q 9 #[false, false, true, false, true, true, false, false, false, false, false, false] { tmps := #[y0, y1, y2, y3, .pointer (some ⟨Bo, 0, none⟩), y5, .pointer (some ⟨Bh, 0, none⟩), .int .i64 i, .pointer (some ⟨Bx, 0, none⟩), y9, y10, y11, y12, y13, y14, y15, y16, y17, y18, y19, y20, y21, y22, y23, y24, y25, y26, y27, y28, y29, y30, y31, y32, y33, y34, y35, y36, y37, (.pointer (some ⟨Bh, 4, none⟩)), y39, (.int .i64 i), (.slice (some ⟨W.heap.size, 0, none⟩) 1 1), y42, y43, y44, y45, y46, y47], defers := [] } ((W.alloc (.cells #[.int .i64 i] 3)).drew) := by
    refine wpAnyIn_ready (rs := [0, 1, 3]) (by kernel_rfl) (by simp) ?_
    refine AllReadyIn.cons pop0 (fun K hK => ?_) ?_
    · go_simp
      exact hK _ _ s0_2_4_5
    refine AllReadyIn.cons pop1 (fun K hK => ?_) ?_
    · go_simp
      exact hK _ _ s1_2_4_5
    refine AllReadyIn.cons pop3 (fun K hK => ?_) ?_
    · go_simp
      exact hK _ _ s2_3_4_5
    exact AllReadyIn.nil
  have s1_4 : wpAnyIn (Fence.wide.inRound l) d Tryd.prog .any posOps Q 10 #[false, true, false, false, true, false, false, false, false, false, false, false] { tmps := #[y0, y1, y2, y3, .pointer (some ⟨Bo, 0, none⟩), y5, .pointer (some ⟨Bh, 0, none⟩), .int .i64 i, .pointer (some ⟨Bx, 0, none⟩), y9, y10, y11, y12, y13, y14, y15, y16, y17, y18, y19, y20, y21, y22, y23, y24, y25, y26, y27, y28, y29, y30, y31, y32, y33, y34, y35, y36, (tv k n s (.slice a m c)), y38, y39, (.int .i64 i), y41, y42, y43, y44, y45, y46, y47], defers := [] } W.drew := by
    refine wpAnyIn_ready (rs := [0, 2, 5]) (by kernel_rfl) (by simp) ?_
    refine AllReadyIn.cons pop0 (fun K hK => ?_) ?_
    · go_simp
      exact hK _ _ s0_1_4
    refine AllReadyIn.cons pop2 (fun K hK => ?_) ?_
    · go_simp
      exact hK _ _ s1_2_4
    refine AllReadyIn.cons pop5 (fun K hK => ?_) ?_
    · go_simp
      exact hK _ _ s1_4_5
    exact AllReadyIn.nil
  have s2_3 : wpAnyIn (Fence.wide.inRound l) d Tryd.prog .any posOps Q 10 #[false, false, true, true, false, false, false, false, false, false, false, false] { tmps := #[y0, y1, y2, y3, .pointer (some ⟨Bo, 0, none⟩), y5, .pointer (some ⟨Bh, 0, none⟩), .int .i64 i, .pointer (some ⟨Bx, 0, none⟩), y9, y10, y11, y12, y13, y14, y15, y16, y17, y18, y19, y20, y21, y22, y23, y24, y25, y26, y27, y28, y29, y30, y31, y32, y33, y34, y35, y36, y37, (.pointer (some ⟨Bh, 4, none⟩)), (.slice aa an ac), y40, y41, y42, y43, y44, y45, y46, y47], defers := [] } W.drew := by
    refine wpAnyIn_ready (rs := [0, 1, 4]) (by kernel_rfl) (by simp) ?_
    refine AllReadyIn.cons pop0 (fun K hK => ?_) ?_
    · go_simp
      exact hK _ _ s0_2_3
    refine AllReadyIn.cons pop1 (fun K hK => ?_) ?_
    · go_simp
      exact hK _ _ s1_2_3
    refine AllReadyIn.cons pop4 (fun K hK => ?_) ?_
    · go_simp
      exact hK _ _ s2_3_4
    exact AllReadyIn.nil
  have s4_5 : wpAnyIn (Fence.wide.inRound l) d Tryd.prog .any posOps Q 10 #[false, false, false, false, true, true, false, false, false, false, false, false] { tmps := #[y0, y1, y2, y3, .pointer (some ⟨Bo, 0, none⟩), y5, .pointer (some ⟨Bh, 0, none⟩), .int .i64 i, .pointer (some ⟨Bx, 0, none⟩), y9, y10, y11, y12, y13, y14, y15, y16, y17, y18, y19, y20, y21, y22, y23, y24, y25, y26, y27, y28, y29, y30, y31, y32, y33, y34, y35, y36, y37, y38, y39, (.int .i64 i), (.slice (some ⟨W.heap.size, 0, none⟩) 1 1), y42, y43, y44, y45, y46, y47], defers := [] } ((W.alloc (.cells #[.int .i64 i] 3)).drew) := by
    refine wpAnyIn_ready (rs := [0, 1, 2]) (by kernel_rfl) (by simp) ?_
    refine AllReadyIn.cons pop0 (fun K hK => ?_) ?_
    · go_simp
      exact hK _ _ s0_4_5
    refine AllReadyIn.cons pop1 (fun K hK => ?_) ?_
    · go_simp
      exact hK _ _ s1_4_5
    refine AllReadyIn.cons pop2 (fun K hK => ?_) ?_
    · go_simp
      exact hK _ _ s2_4_5
    exact AllReadyIn.nil
  have s0_2 : wpAnyIn (Fence.wide.inRound l) d Tryd.prog .any posOps Q 10 #[true, false, true, false, false, false, false, false, false, false, false, false] { tmps := #[y0, y1, y2, y3, .pointer (some ⟨Bo, 0, none⟩), y5, .pointer (some ⟨Bh, 0, none⟩), .int .i64 i, .pointer (some ⟨Bx, 0, none⟩), y9, y10, y11, y12, y13, y14, y15, y16, y17, y18, y19, y20, y21, y22, y23, y24, y25, y26, y27, y28, y29, y30, y31, y32, y33, y34, y35, (.slice va kn vc), y37, (.pointer (some ⟨Bh, 4, none⟩)), y39, y40, y41, y42, y43, y44, y45, y46, y47], defers := [] } W.drew := by
    refine wpAnyIn_ready (rs := [1, 3, 4]) (by kernel_rfl) (by simp) ?_
    refine AllReadyIn.cons pop1 (fun K hK => ?_) ?_
    · go_simp
      exact hK _ _ s0_1_2
    refine AllReadyIn.cons pop3 (fun K hK => ?_) ?_
    · go_simp
      exact hK _ _ s0_2_3
    refine AllReadyIn.cons pop4 (fun K hK => ?_) ?_
    · go_simp
      exact hK _ _ s0_2_4
    exact AllReadyIn.nil
  have s0_4 : wpAnyIn (Fence.wide.inRound l) d Tryd.prog .any posOps Q 10 #[true, false, false, false, true, false, false, false, false, false, false, false] { tmps := #[y0, y1, y2, y3, .pointer (some ⟨Bo, 0, none⟩), y5, .pointer (some ⟨Bh, 0, none⟩), .int .i64 i, .pointer (some ⟨Bx, 0, none⟩), y9, y10, y11, y12, y13, y14, y15, y16, y17, y18, y19, y20, y21, y22, y23, y24, y25, y26, y27, y28, y29, y30, y31, y32, y33, y34, y35, (.slice va kn vc), y37, y38, y39, (.int .i64 i), y41, y42, y43, y44, y45, y46, y47], defers := [] } W.drew := by
    refine wpAnyIn_ready (rs := [1, 2, 5]) (by kernel_rfl) (by simp) ?_
    refine AllReadyIn.cons pop1 (fun K hK => ?_) ?_
    · go_simp
      exact hK _ _ s0_1_4
    refine AllReadyIn.cons pop2 (fun K hK => ?_) ?_
    · go_simp
      exact hK _ _ s0_2_4
    refine AllReadyIn.cons pop5 (fun K hK => ?_) ?_
    · go_simp
      exact hK _ _ s0_4_5
    exact AllReadyIn.nil
  have s2_4 : wpAnyIn (Fence.wide.inRound l) d Tryd.prog .any posOps Q 10 #[false, false, true, false, true, false, false, false, false, false, false, false] { tmps := #[y0, y1, y2, y3, .pointer (some ⟨Bo, 0, none⟩), y5, .pointer (some ⟨Bh, 0, none⟩), .int .i64 i, .pointer (some ⟨Bx, 0, none⟩), y9, y10, y11, y12, y13, y14, y15, y16, y17, y18, y19, y20, y21, y22, y23, y24, y25, y26, y27, y28, y29, y30, y31, y32, y33, y34, y35, y36, y37, (.pointer (some ⟨Bh, 4, none⟩)), y39, (.int .i64 i), y41, y42, y43, y44, y45, y46, y47], defers := [] } W.drew := by
    refine wpAnyIn_ready (rs := [0, 1, 3, 5]) (by kernel_rfl) (by simp) ?_
    refine AllReadyIn.cons pop0 (fun K hK => ?_) ?_
    · go_simp
      exact hK _ _ s0_2_4
    refine AllReadyIn.cons pop1 (fun K hK => ?_) ?_
    · go_simp
      exact hK _ _ s1_2_4
    refine AllReadyIn.cons pop3 (fun K hK => ?_) ?_
    · go_simp
      exact hK _ _ s2_3_4
    refine AllReadyIn.cons pop5 (fun K hK => ?_) ?_
    · go_simp
      exact hK _ _ s2_4_5
    exact AllReadyIn.nil
  have s0_1 : wpAnyIn (Fence.wide.inRound l) d Tryd.prog .any posOps Q 10 #[true, true, false, false, false, false, false, false, false, false, false, false] { tmps := #[y0, y1, y2, y3, .pointer (some ⟨Bo, 0, none⟩), y5, .pointer (some ⟨Bh, 0, none⟩), .int .i64 i, .pointer (some ⟨Bx, 0, none⟩), y9, y10, y11, y12, y13, y14, y15, y16, y17, y18, y19, y20, y21, y22, y23, y24, y25, y26, y27, y28, y29, y30, y31, y32, y33, y34, y35, (.slice va kn vc), (tv k n s (.slice a m c)), y38, y39, y40, y41, y42, y43, y44, y45, y46, y47], defers := [] } W.drew := by
    refine wpAnyIn_ready (rs := [2, 4]) (by kernel_rfl) (by simp) ?_
    refine AllReadyIn.cons pop2 (fun K hK => ?_) ?_
    · go_simp
      exact hK _ _ s0_1_2
    refine AllReadyIn.cons pop4 (fun K hK => ?_) ?_
    · go_simp
      exact hK _ _ s0_1_4
    exact AllReadyIn.nil
  have s1_2 : wpAnyIn (Fence.wide.inRound l) d Tryd.prog .any posOps Q 10 #[false, true, true, false, false, false, false, false, false, false, false, false] { tmps := #[y0, y1, y2, y3, .pointer (some ⟨Bo, 0, none⟩), y5, .pointer (some ⟨Bh, 0, none⟩), .int .i64 i, .pointer (some ⟨Bx, 0, none⟩), y9, y10, y11, y12, y13, y14, y15, y16, y17, y18, y19, y20, y21, y22, y23, y24, y25, y26, y27, y28, y29, y30, y31, y32, y33, y34, y35, y36, (tv k n s (.slice a m c)), (.pointer (some ⟨Bh, 4, none⟩)), y39, y40, y41, y42, y43, y44, y45, y46, y47], defers := [] } W.drew := by
    refine wpAnyIn_ready (rs := [0, 3, 4]) (by kernel_rfl) (by simp) ?_
    refine AllReadyIn.cons pop0 (fun K hK => ?_) ?_
    · go_simp
      exact hK _ _ s0_1_2
    refine AllReadyIn.cons pop3 (fun K hK => ?_) ?_
    · go_simp
      exact hK _ _ s1_2_3
    refine AllReadyIn.cons pop4 (fun K hK => ?_) ?_
    · go_simp
      exact hK _ _ s1_2_4
    exact AllReadyIn.nil
  have s1 : wpAnyIn (Fence.wide.inRound l) d Tryd.prog .any posOps Q 11 #[false, true, false, false, false, false, false, false, false, false, false, false] { tmps := #[y0, y1, y2, y3, .pointer (some ⟨Bo, 0, none⟩), y5, .pointer (some ⟨Bh, 0, none⟩), .int .i64 i, .pointer (some ⟨Bx, 0, none⟩), y9, y10, y11, y12, y13, y14, y15, y16, y17, y18, y19, y20, y21, y22, y23, y24, y25, y26, y27, y28, y29, y30, y31, y32, y33, y34, y35, y36, (tv k n s (.slice a m c)), y38, y39, y40, y41, y42, y43, y44, y45, y46, y47], defers := [] } W.drew := by
    refine wpAnyIn_ready (rs := [0, 2, 4]) (by kernel_rfl) (by simp) ?_
    refine AllReadyIn.cons pop0 (fun K hK => ?_) ?_
    · go_simp
      exact hK _ _ s0_1
    refine AllReadyIn.cons pop2 (fun K hK => ?_) ?_
    · go_simp
      exact hK _ _ s1_2
    refine AllReadyIn.cons pop4 (fun K hK => ?_) ?_
    · go_simp
      exact hK _ _ s1_4
    exact AllReadyIn.nil
  have s4 : wpAnyIn (Fence.wide.inRound l) d Tryd.prog .any posOps Q 11 #[false, false, false, false, true, false, false, false, false, false, false, false] { tmps := #[y0, y1, y2, y3, .pointer (some ⟨Bo, 0, none⟩), y5, .pointer (some ⟨Bh, 0, none⟩), .int .i64 i, .pointer (some ⟨Bx, 0, none⟩), y9, y10, y11, y12, y13, y14, y15, y16, y17, y18, y19, y20, y21, y22, y23, y24, y25, y26, y27, y28, y29, y30, y31, y32, y33, y34, y35, y36, y37, y38, y39, (.int .i64 i), y41, y42, y43, y44, y45, y46, y47], defers := [] } W.drew := by
    refine wpAnyIn_ready (rs := [0, 1, 2, 5]) (by kernel_rfl) (by simp) ?_
    refine AllReadyIn.cons pop0 (fun K hK => ?_) ?_
    · go_simp
      exact hK _ _ s0_4
    refine AllReadyIn.cons pop1 (fun K hK => ?_) ?_
    · go_simp
      exact hK _ _ s1_4
    refine AllReadyIn.cons pop2 (fun K hK => ?_) ?_
    · go_simp
      exact hK _ _ s2_4
    refine AllReadyIn.cons pop5 (fun K hK => ?_) ?_
    · go_simp
      exact hK _ _ s4_5
    exact AllReadyIn.nil
  have s2 : wpAnyIn (Fence.wide.inRound l) d Tryd.prog .any posOps Q 11 #[false, false, true, false, false, false, false, false, false, false, false, false] { tmps := #[y0, y1, y2, y3, .pointer (some ⟨Bo, 0, none⟩), y5, .pointer (some ⟨Bh, 0, none⟩), .int .i64 i, .pointer (some ⟨Bx, 0, none⟩), y9, y10, y11, y12, y13, y14, y15, y16, y17, y18, y19, y20, y21, y22, y23, y24, y25, y26, y27, y28, y29, y30, y31, y32, y33, y34, y35, y36, y37, (.pointer (some ⟨Bh, 4, none⟩)), y39, y40, y41, y42, y43, y44, y45, y46, y47], defers := [] } W.drew := by
    refine wpAnyIn_ready (rs := [0, 1, 3, 4]) (by kernel_rfl) (by simp) ?_
    refine AllReadyIn.cons pop0 (fun K hK => ?_) ?_
    · go_simp
      exact hK _ _ s0_2
    refine AllReadyIn.cons pop1 (fun K hK => ?_) ?_
    · go_simp
      exact hK _ _ s1_2
    refine AllReadyIn.cons pop3 (fun K hK => ?_) ?_
    · go_simp
      exact hK _ _ s2_3
    refine AllReadyIn.cons pop4 (fun K hK => ?_) ?_
    · go_simp
      exact hK _ _ s2_4
    exact AllReadyIn.nil
  have s0 : wpAnyIn (Fence.wide.inRound l) d Tryd.prog .any posOps Q 11 #[true, false, false, false, false, false, false, false, false, false, false, false] { tmps := #[y0, y1, y2, y3, .pointer (some ⟨Bo, 0, none⟩), y5, .pointer (some ⟨Bh, 0, none⟩), .int .i64 i, .pointer (some ⟨Bx, 0, none⟩), y9, y10, y11, y12, y13, y14, y15, y16, y17, y18, y19, y20, y21, y22, y23, y24, y25, y26, y27, y28, y29, y30, y31, y32, y33, y34, y35, (.slice va kn vc), y37, y38, y39, y40, y41, y42, y43, y44, y45, y46, y47], defers := [] } W.drew := by
    refine wpAnyIn_ready (rs := [1, 2, 4]) (by kernel_rfl) (by simp) ?_
    refine AllReadyIn.cons pop1 (fun K hK => ?_) ?_
    · go_simp
      exact hK _ _ s0_1
    refine AllReadyIn.cons pop2 (fun K hK => ?_) ?_
    · go_simp
      exact hK _ _ s0_2
    refine AllReadyIn.cons pop4 (fun K hK => ?_) ?_
    · go_simp
      exact hK _ _ s0_4
    exact AllReadyIn.nil
  refine wpIn_region_any (by kernel_rfl) ?_
  change wpAnyIn (Fence.wide.inRound l) d Tryd.prog .any posOps Q 12 #[false, false, false, false, false, false, false, false, false, false, false, false] { tmps := #[y0, y1, y2, y3, .pointer (some ⟨Bo, 0, none⟩), y5, .pointer (some ⟨Bh, 0, none⟩), .int .i64 i, .pointer (some ⟨Bx, 0, none⟩), y9, y10, y11, y12, y13, y14, y15, y16, y17, y18, y19, y20, y21, y22, y23, y24, y25, y26, y27, y28, y29, y30, y31, y32, y33, y34, y35, y36, y37, y38, y39, y40, y41, y42, y43, y44, y45, y46, y47], defers := [] } W.drew
  refine wpAnyIn_ready (rs := [0, 1, 2, 4]) (by kernel_rfl) (by simp) ?_
  refine AllReadyIn.cons pop0 (fun K hK => ?_) ?_
  · go_simp
    exact hK _ _ s0
  refine AllReadyIn.cons pop1 (fun K hK => ?_) ?_
  · go_simp
    exact hK _ _ s1
  refine AllReadyIn.cons pop2 (fun K hK => ?_) ?_
  · go_simp
    exact hK _ _ s2
  refine AllReadyIn.cons pop4 (fun K hK => ?_) ?_
  · go_simp
    exact hK _ _ s4
  exact AllReadyIn.nil
end Go.Proofs.YtcmhiindjponcaaDoor
