/-
  The statement that puts the equation of two arguments on the list, inside a round: in whatever order its operations come.
-/
import Derived.Test.YteelakhaaipebaaQ27
import Derived.OrdersIn
namespace Go.Proofs.Yteelakhaaipebaa
open Go.RowKit Go.Shelf

attribute [local go_sem] Oper.semAt_some

/-- The operations of the statement. -/
noncomputable def eqnOps : Array Oper := match Try.f106.body with
  | some (.seq _ (.seq (.seq _ (.block _ (.rangeFunc _ _ _ (.block _ (.region _ ops _))))) _)) => ops
  | _ => #[]

theorem eop0 : eqnOps[0]? = some { dst := some 12, op := Op.load 149 (Operand.tmp 3), type := 149, pos := "l08_match.go:17", after := #[], guard := none } := by kernel_rfl
theorem eop1 : eqnOps[1]? = some { dst := some 13, op := Op.load 27 (Operand.tmp 4), type := 27, pos := "l08_match.go:17", after := #[], guard := none } := by kernel_rfl
theorem eop2 : eqnOps[2]? = some { dst := some 14, op := Op.move (Operand.tmp 7), type := 3, pos := "l08_match.go:17", after := #[], guard := none } := by kernel_rfl
theorem eop3 : eqnOps[3]? = some { dst := some 15, op := Op.indexAddr 27 (Operand.tmp 13) (Operand.tmp 14), type := 0, pos := "l08_match.go:17", after := #[{ on := 1, ground := Ground.data }, { on := 2, ground := Ground.data }], guard := none } := by kernel_rfl
theorem eop4 : eqnOps[4]? = some { dst := some 16, op := Op.load 29 (Operand.tmp 15), type := 29, pos := "l08_match.go:17", after := #[{ on := 3, ground := Ground.data }], guard := none } := by kernel_rfl
theorem eop5 : eqnOps[5]? = some { dst := some 17, op := Op.load 27 (Operand.tmp 5), type := 27, pos := "l08_match.go:17", after := #[], guard := none } := by kernel_rfl
theorem eop6 : eqnOps[6]? = some { dst := some 18, op := Op.move (Operand.tmp 7), type := 3, pos := "l08_match.go:17", after := #[], guard := none } := by kernel_rfl
theorem eop7 : eqnOps[7]? = some { dst := some 19, op := Op.indexAddr 27 (Operand.tmp 17) (Operand.tmp 18), type := 0, pos := "l08_match.go:17", after := #[{ on := 5, ground := Ground.data }, { on := 6, ground := Ground.data }], guard := none } := by kernel_rfl
theorem eop8 : eqnOps[8]? = some { dst := some 20, op := Op.load 29 (Operand.tmp 19), type := 29, pos := "l08_match.go:17", after := #[{ on := 7, ground := Ground.data }], guard := none } := by kernel_rfl
theorem eop9 : eqnOps[9]? = some { dst := some 21, op := Op.build 148 #[(0, Operand.tmp 16), (1, Operand.tmp 20)], type := 148, pos := "l08_match.go:17", after := #[{ on := 4, ground := Ground.data }, { on := 8, ground := Ground.data }], guard := none } := by kernel_rfl
theorem eop10 : eqnOps[10]? = some { dst := some 22, op := Op.buildSlice 149 1 #[(0, Operand.tmp 21)], type := 149, pos := "l08_match.go:17", after := #[{ on := 9, ground := Ground.data }], guard := none } := by kernel_rfl
theorem eop11 : eqnOps[11]? = some { dst := some 23, op := Op.call { callee := Callee.builtin Builtin.append, args := #[Operand.tmp 12, Operand.tmp 22], argTypes := #[149, 149] }, type := 149, pos := "l08_match.go:17", after := #[{ on := 0, ground := Ground.data }, { on := 10, ground := Ground.data }], guard := none } := by kernel_rfl
theorem eop12 : eqnOps[12]? = some { dst := none, op := Op.store 149 (Operand.tmp 3) (Operand.tmp 23), type := 0, pos := "l08_match.go:17", after := #[{ on := 11, ground := Ground.data }, { on := 11, ground := Ground.chain }, { on := 0, ground := Ground.phase }, { on := 1, ground := Ground.phase }, { on := 2, ground := Ground.phase }, { on := 3, ground := Ground.phase }, { on := 4, ground := Ground.phase }, { on := 5, ground := Ground.phase }, { on := 6, ground := Ground.phase }, { on := 7, ground := Ground.phase }, { on := 8, ground := Ground.phase }, { on := 9, ground := Ground.phase }, { on := 10, ground := Ground.phase }, { on := 11, ground := Ground.phase }], guard := none } := by kernel_rfl

theorem infoEqn : (Try.prog.info? 148).map (fun i => (i.zero, i.size, i.bytes)) = some (some (.agg #[.int .i64 0, .int .i64 0, .string ByteArray.empty, .slice none 0 0, .int .i64 0, .int .i64 0, .string ByteArray.empty, .slice none 0 0]), 8, 112) := by kernel_rfl

/-- The builtin's step, once its run is known. -/
theorem stepIn_appE {F : Fence} {n : Nat} {P : Program} {ops : Array Oper} {o : Oper} {a : Act} {w : World} {K : Act → World → Prop} {Q : Exit → Act → World → Prop} {E : Prop} (hg : o.guard = none) (s x : Operand) (t : TypeId)
    (hop : o.op = Op.call { callee := Callee.builtin Builtin.append, args := #[s, x], argTypes := #[t, t] }) (v : Value) (w1 : World)
    (hrun : (Builtin.append_ #[t, t] o.type #[a.eval s, a.eval x]).run P w = .ok v w1) (hK : K (a.put o.dst v) w1) : if Region.wanted o (yielded ops a.tmps) = true then Oper.wpIn F n P o a w K Q else E := by
  have hw : Region.wanted o (yielded ops a.tmps) = true := by simp [Region.wanted, hg]
  rw [if_pos hw]
  unfold Oper.wpIn
  refine ⟨?_, ?_⟩
  · simp [Oper.about, hop, resolve, Target.leads, Sem.run_pure]
  · rw [Oper.semAt_plain F _ _ (by rw [hop]; intro c hc'; cases hc')]
    simp [execOp, hop, resolve, invoke, builtin, hrun, Result.andThen]
    exact hK

/-- What the statement leaves. -/
def AppE (B Bo kn : Nat) (va : Option Addr) (vc : Nat) (xs ys : List Value) (W W' : World) : Prop :=
  ∃ g cap, (Boxed W' Bo 149 (.slice (some ⟨g, 0, none⟩) (kn + 1) cap) ∧ W'.ownsRow B 148 8 (.slice (some ⟨g, 0, none⟩) (kn + 1) cap) (kn + 1) (xs ++ ys)) ∧ KeepsOthers W W' ∧ Below B W W' ∧
    (∀ j, j < W.heap.size → j ≠ Bo → some j ≠ (Value.slice va kn vc).ownBlock → W'.heap[j]? = W.heap[j]?) ∧ ((Value.slice va kn vc).ownBlock = some g ∨ W.heap.size ≤ g)

/-- A new block's cells, as they are appended. -/
theorem news8 (w : World) (x0 x1 x2 x3 x4 x5 x6 x7 : Value) (t : TypeId) {n : Nat} (h : n = w.heap.size) : ∀ (j : Nat) (u : Value), [x0, x1, x2, x3, x4, x5, x6, x7][j]? = some u → (w.alloc (.cells #[x0, x1, x2, x3, x4, x5, x6, x7] t)).cell? (Addr.add ⟨n, 0, none⟩ j) = some u := by
  subst h
  intro j u hj
  have e := fun j => World.cell?_alloc_mark w #[x0, x1, x2, x3, x4, x5, x6, x7] t (0, 0) j
  match j, hj with
  | 0, hj => simp at hj; subst hj; exact e 0
  | 1, hj => simp at hj; subst hj; exact e 1
  | 2, hj => simp at hj; subst hj; exact e 2
  | 3, hj => simp at hj; subst hj; exact e 3
  | 4, hj => simp at hj; subst hj; exact e 4
  | 5, hj => simp at hj; subst hj; exact e 5
  | 6, hj => simp at hj; subst hj; exact e 6
  | 7, hj => simp at hj; subst hj; exact e 7
  | j + 8, hj => simp at hj

set_option maxRecDepth 100000 in
set_option maxHeartbeats 32000000 in
theorem eqn_region (F : Fence) (l d : Nat) (Q : Exit → Act → World → Prop) (y0 y1 y2 y6 y8 y9 y10 y11 y12 y13 y14 y15 y16 y17 y18 y19 y20 y21 y22 y23 y24 : Value) (Bo Ba Bb B p ml lc rc bl ol br orr : Nat) (va : Option Addr) (kn vc : Nat) (xs : List Value) (k n : Int) (s : ByteArray) (a : Option Addr) (m c : Nat) (k2 n2 : Int) (s2 : ByteArray) (a2 : Option Addr) (m2 c2 : Nat) (W : World)
    (hbl : Boxed W Bo 149 (.slice va kn vc)) (hba : Boxed W Ba 27 (.slice (some ⟨bl, ol, none⟩) ml lc)) (hbb : Boxed W Bb 27 (.slice (some ⟨br, orr, none⟩) ml rc))
    (hl : W.cell? ⟨bl, ol + p * 4, none⟩ = some (.int .i64 k) ∧ W.cell? ⟨bl, ol + p * 4 + 1, none⟩ = some (.int .i64 n) ∧ W.cell? ⟨bl, ol + p * 4 + 2, none⟩ = some (.string s) ∧ W.cell? ⟨bl, ol + p * 4 + 3, none⟩ = some (.slice a m c))
    (hr : W.cell? ⟨br, orr + p * 4, none⟩ = some (.int .i64 k2) ∧ W.cell? ⟨br, orr + p * 4 + 1, none⟩ = some (.int .i64 n2) ∧ W.cell? ⟨br, orr + p * 4 + 2, none⟩ = some (.string s2) ∧ W.cell? ⟨br, orr + p * 4 + 3, none⟩ = some (.slice a2 m2 c2))
    (hown : W.ownsRow B 148 8 (.slice va kn vc) kn xs)
    (hB : B ≤ Bo) (hkn : kn ≤ 4194304) (hpm : p < ml) (hQ : ∀ a' W', AppE B Bo kn va vc xs [.int .i64 k, .int .i64 n, .string s, .slice a m c, .int .i64 k2, .int .i64 n2, .string s2, .slice a2 m2 c2] W W' → Q .normal a' W') :
    (Code.region 3 eqnOps true).wpIn (F.inRound l) d Try.prog Q { tmps := #[y0, y1, y2, .pointer (some ⟨Bo, 0, none⟩), .pointer (some ⟨Ba, 0, none⟩), .pointer (some ⟨Bb, 0, none⟩), y6, .int .i64 (p : Int), y8, y9, y10, y11, y12, y13, y14, y15, y16, y17, y18, y19, y20, y21, y22, y23, y24], defers := [] } W := by
  obtain ⟨i0, hi, hz0, hz1, hz2⟩ := info_parts infoEqn
  have hltB := hbl.lt
  have hblA : Boxed ((W.alloc (.cells #[.int .i64 k, .int .i64 n, .string s, .slice a m c, .int .i64 k2, .int .i64 n2, .string s2, .slice a2 m2 c2] 148)).drew) Bo 149 (.slice va kn vc) := Boxed.alloc hbl _
  have hrA : World.ownsRow ((W.alloc (.cells #[.int .i64 k, .int .i64 n, .string s, .slice a m c, .int .i64 k2, .int .i64 n2, .string s2, .slice a2 m2 c2] 148)).drew) B 148 8 (.slice va kn vc) kn xs := hown.alloc _
  obtain ⟨v', w10, hrun, hown', hgrow, _, hblk⟩ := run_append_own_at (P := Try.prog) ((W.alloc (.cells #[.int .i64 k, .int .i64 n, .string s, .slice a m c, .int .i64 k2, .int .i64 n2, .string s2, .slice a2 m2 c2] 148)).drew) B 149 149 148 i0 (.agg #[.int .i64 0, .int .i64 0, .string ByteArray.empty, .slice none 0 0, .int .i64 0, .int .i64 0, .string ByteArray.empty, .slice none 0 0]) 8 112 Try.underlying149 hi hz0 hz1 hz2 rfl (by decide) _ _ _ hrA ⟨W.heap.size, 0, none⟩ 1 1 [.int .i64 k, .int .i64 n, .string s, .slice a m c, .int .i64 k2, .int .i64 n2, .string s2, .slice a2 m2 c2] rfl (news8 W _ _ _ _ _ _ _ _ _ rfl) (by simp [Value.oneCell']) (by unfold maxLen; omega) (by omega) (Nat.le_trans (by omega : B ≤ W.heap.size) (by simp))
  obtain ⟨g, cap, rfl⟩ : ∃ g cap, v' = .slice (some ⟨g, 0, none⟩) (kn + 1) cap := by
    rcases hown'.2 with ⟨_, h0⟩ | ⟨g, cap, cur, rfl, _⟩
    · omega
    · exact ⟨g, cap, rfl⟩
  have hblN := hblA.not_row (by decide) hrA
  have hb1 : Boxed w10 Bo 149 (.slice va kn vc) := hblA.kept hgrow hblN
  have hne : Bo ≠ g := by
    have := hb1.not_row (by decide) hown'
    intro e; exact this (by rw [e]; rfl)
  have hszA : (World.heap ((W.alloc (.cells #[.int .i64 k, .int .i64 n, .string s, .slice a m c, .int .i64 k2, .int .i64 n2, .string s2, .slice a2 m2 c2] 148)).drew)).size = W.heap.size + 1 := by simp
  have hsz1 := hgrow.size
  have hold : ∀ j, j < W.heap.size → some j ≠ (Value.slice va kn vc).ownBlock → w10.heap[j]? = W.heap[j]? := fun j hj hv => (hgrow.block j (by omega) hv).trans (Below.heap_alloc W _ j hj)
  have hst : ∀ j, j < W.heap.size → j ≠ Bo → some j ≠ (Value.slice va kn vc).ownBlock → (w10.setCell ⟨Bo, 0, none⟩ (.slice (some ⟨g, 0, none⟩) (kn + 1) cap)).heap[j]? = W.heap[j]? := fun j hj hb hv => (Below.heap_setCell w10 _ _ j (by exact hb)).trans (hold j hj hv)
  have hsz3 : (w10.setCell ⟨Bo, 0, none⟩ (.slice (some ⟨g, 0, none⟩) (kn + 1) cap)).heap.size = w10.heap.size := by simp
  have hfin : AppE B Bo kn va vc xs [.int .i64 k, .int .i64 n, .string s, .slice a m c, .int .i64 k2, .int .i64 n2, .string s2, .slice a2 m2 c2] W (w10.setCell ⟨Bo, 0, none⟩ (.slice (some ⟨g, 0, none⟩) (kn + 1) cap)) := by
    refine ⟨g, cap, ⟨hb1.set _, hown'.kept (grownBy_setCell' w10 Bo _) (Or.inr (fun e => hne (by cases e; rfl)))⟩, ⟨by omega, fun j o hj ho => ?_⟩, ⟨hgrow.os, hgrow.tape, hgrow.output, by omega, fun j hj => ?_⟩, hst, ?_⟩
    · have q : some j ≠ (Value.slice va kn vc).ownBlock ∧ j ≠ Bo := by
        constructor
        · intro e
          rcases hown.2 with h | ⟨g', cap', cur', h, _, hc, _⟩
          · rw [h.1] at e; cases e
          · rw [h] at e; cases e
            rw [hc] at hj; cases hj; cases ho
        · intro e; subst e
          have := hbl
          unfold Boxed at this
          rw [this] at hj; cases hj; cases ho
      exact (hst j (Array.getElem?_eq_some_iff.1 hj).1 q.2 q.1).trans hj
    · refine hst j (by omega) (by omega) (fun e => ?_)
      have := (hown.lt j e.symm).1
      omega
    · rcases hblk with h | h
      · exact Or.inl h.symm
      · have : g = (World.heap ((W.alloc (.cells #[.int .i64 k, .int .i64 n, .string s, .slice a m c, .int .i64 k2, .int .i64 n2, .string s2, .slice a2 m2 c2] 148)).drew)).size := by simpa [Value.ownBlock] using h
        exact Or.inr (by omega)
  have cB := hbl.cell
  have cBA : World.cell? (W.alloc (.cells #[.int .i64 k, .int .i64 n, .string s, .slice a m c, .int .i64 k2, .int .i64 n2, .string s2, .slice a2 m2 c2] 148)) ⟨Bo, 0, none⟩ = some (.slice va kn vc) := hblA.cell
  have cL := hba.cell
  have cR := hbb.cell
  obtain ⟨l0, l1, l2, l3⟩ := hl
  obtain ⟨r0, r1, r2, r3⟩ := hr
  have cB1 := hb1.cell
  have fB1 := hb1.frozen
  have hpi : (p : Int) < (ml : Int) := by omega
  clear hsz3 hst hold hsz1 hszA hne hb1 hblN hblk hgrow hown' hrA hblA hltB hown hbl hba hbb
  have s0_1_2_3_4_5_6_7_8_9_10_11_12 : wpAnyIn (F.inRound l) d Try.prog .any eqnOps Q 0 #[true, true, true, true, true, true, true, true, true, true, true, true, true] { tmps := #[y0, y1, y2, .pointer (some ⟨Bo, 0, none⟩), .pointer (some ⟨Ba, 0, none⟩), .pointer (some ⟨Bb, 0, none⟩), y6, .int .i64 (p : Int), y8, y9, y10, y11, (.slice va kn vc), (.slice (some ⟨bl, ol, none⟩) ml lc), (.int .i64 (p : Int)), (.pointer (some ⟨bl, ol + p * 4, none⟩)), (tv k n s (.slice a m c)), (.slice (some ⟨br, orr, none⟩) ml rc), (.int .i64 (p : Int)), (.pointer (some ⟨br, orr + p * 4, none⟩)), (tv k2 n2 s2 (.slice a2 m2 c2)), (.agg #[.int .i64 k, .int .i64 n, .string s, .slice a m c, .int .i64 k2, .int .i64 n2, .string s2, .slice a2 m2 c2]), (.slice (some ⟨W.heap.size, 0, none⟩) 1 1), (.slice (some ⟨g, 0, none⟩) (kn + 1) cap), y24], defers := [] } (w10.setCell ⟨Bo, 0, none⟩ (.slice (some ⟨g, 0, none⟩) (kn + 1) cap)) := wpAnyIn_done (by kernel_rfl) (hQ _ _ hfin) _
  have s0_1_2_3_4_5_6_7_8_9_10_11 : wpAnyIn (F.inRound l) d Try.prog .any eqnOps Q 1 #[true, true, true, true, true, true, true, true, true, true, true, true, false] { tmps := #[y0, y1, y2, .pointer (some ⟨Bo, 0, none⟩), .pointer (some ⟨Ba, 0, none⟩), .pointer (some ⟨Bb, 0, none⟩), y6, .int .i64 (p : Int), y8, y9, y10, y11, (.slice va kn vc), (.slice (some ⟨bl, ol, none⟩) ml lc), (.int .i64 (p : Int)), (.pointer (some ⟨bl, ol + p * 4, none⟩)), (tv k n s (.slice a m c)), (.slice (some ⟨br, orr, none⟩) ml rc), (.int .i64 (p : Int)), (.pointer (some ⟨br, orr + p * 4, none⟩)), (tv k2 n2 s2 (.slice a2 m2 c2)), (.agg #[.int .i64 k, .int .i64 n, .string s, .slice a m c, .int .i64 k2, .int .i64 n2, .string s2, .slice a2 m2 c2]), (.slice (some ⟨W.heap.size, 0, none⟩) 1 1), (.slice (some ⟨g, 0, none⟩) (kn + 1) cap), y24], defers := [] } w10 := by
    refine wpAnyIn_ready (rs := [12]) (by kernel_rfl) (by simp) ?_
    refine AllReadyIn.cons eop12 (fun K hK => ?_) ?_
    · go_simp
      exact hK _ _ s0_1_2_3_4_5_6_7_8_9_10_11_12
    exact AllReadyIn.nil
  have s0_1_2_3_4_5_6_7_8_9_10 : wpAnyIn (F.inRound l) d Try.prog .any eqnOps Q 2 #[true, true, true, true, true, true, true, true, true, true, true, false, false] { tmps := #[y0, y1, y2, .pointer (some ⟨Bo, 0, none⟩), .pointer (some ⟨Ba, 0, none⟩), .pointer (some ⟨Bb, 0, none⟩), y6, .int .i64 (p : Int), y8, y9, y10, y11, (.slice va kn vc), (.slice (some ⟨bl, ol, none⟩) ml lc), (.int .i64 (p : Int)), (.pointer (some ⟨bl, ol + p * 4, none⟩)), (tv k n s (.slice a m c)), (.slice (some ⟨br, orr, none⟩) ml rc), (.int .i64 (p : Int)), (.pointer (some ⟨br, orr + p * 4, none⟩)), (tv k2 n2 s2 (.slice a2 m2 c2)), (.agg #[.int .i64 k, .int .i64 n, .string s, .slice a m c, .int .i64 k2, .int .i64 n2, .string s2, .slice a2 m2 c2]), (.slice (some ⟨W.heap.size, 0, none⟩) 1 1), y23, y24], defers := [] } ((W.alloc (.cells #[.int .i64 k, .int .i64 n, .string s, .slice a m c, .int .i64 k2, .int .i64 n2, .string s2, .slice a2 m2 c2] 148)).drew) := by
    refine wpAnyIn_ready (rs := [11]) (by kernel_rfl) (by simp) ?_
    refine AllReadyIn.cons eop11 (fun K hK => ?_) ?_
    · refine stepIn_appE rfl (.tmp 12) (.tmp 22) 149 rfl (.slice (some ⟨g, 0, none⟩) (kn + 1) cap) w10 ?_ ?_
      · exact hrun
      · exact hK _ _ s0_1_2_3_4_5_6_7_8_9_10_11
    exact AllReadyIn.nil
  have s0_1_2_3_4_5_6_7_8_9 : wpAnyIn (F.inRound l) d Try.prog .any eqnOps Q 3 #[true, true, true, true, true, true, true, true, true, true, false, false, false] { tmps := #[y0, y1, y2, .pointer (some ⟨Bo, 0, none⟩), .pointer (some ⟨Ba, 0, none⟩), .pointer (some ⟨Bb, 0, none⟩), y6, .int .i64 (p : Int), y8, y9, y10, y11, (.slice va kn vc), (.slice (some ⟨bl, ol, none⟩) ml lc), (.int .i64 (p : Int)), (.pointer (some ⟨bl, ol + p * 4, none⟩)), (tv k n s (.slice a m c)), (.slice (some ⟨br, orr, none⟩) ml rc), (.int .i64 (p : Int)), (.pointer (some ⟨br, orr + p * 4, none⟩)), (tv k2 n2 s2 (.slice a2 m2 c2)), (.agg #[.int .i64 k, .int .i64 n, .string s, .slice a m c, .int .i64 k2, .int .i64 n2, .string s2, .slice a2 m2 c2]), y22, y23, y24], defers := [] } W.drew := by
    refine wpAnyIn_ready (rs := [10]) (by kernel_rfl) (by simp) ?_
    refine AllReadyIn.cons eop10 (fun K hK => ?_) ?_
    · go_simp
      exact hK _ _ s0_1_2_3_4_5_6_7_8_9_10
    exact AllReadyIn.nil
  have s1_2_3_4_5_6_7_8_9_10 : wpAnyIn (F.inRound l) d Try.prog .any eqnOps Q 3 #[false, true, true, true, true, true, true, true, true, true, true, false, false] { tmps := #[y0, y1, y2, .pointer (some ⟨Bo, 0, none⟩), .pointer (some ⟨Ba, 0, none⟩), .pointer (some ⟨Bb, 0, none⟩), y6, .int .i64 (p : Int), y8, y9, y10, y11, y12, (.slice (some ⟨bl, ol, none⟩) ml lc), (.int .i64 (p : Int)), (.pointer (some ⟨bl, ol + p * 4, none⟩)), (tv k n s (.slice a m c)), (.slice (some ⟨br, orr, none⟩) ml rc), (.int .i64 (p : Int)), (.pointer (some ⟨br, orr + p * 4, none⟩)), (tv k2 n2 s2 (.slice a2 m2 c2)), (.agg #[.int .i64 k, .int .i64 n, .string s, .slice a m c, .int .i64 k2, .int .i64 n2, .string s2, .slice a2 m2 c2]), (.slice (some ⟨W.heap.size, 0, none⟩) 1 1), y23, y24], defers := [] } ((W.alloc (.cells #[.int .i64 k, .int .i64 n, .string s, .slice a m c, .int .i64 k2, .int .i64 n2, .string s2, .slice a2 m2 c2] 148)).drew) := by
    refine wpAnyIn_ready (rs := [0]) (by kernel_rfl) (by simp) ?_
    refine AllReadyIn.cons eop0 (fun K hK => ?_) ?_
    · go_simp
      exact hK _ _ s0_1_2_3_4_5_6_7_8_9_10
    exact AllReadyIn.nil
  have s0_1_2_3_4_5_6_7_8 : wpAnyIn (F.inRound l) d Try.prog .any eqnOps Q 4 #[true, true, true, true, true, true, true, true, true, false, false, false, false] { tmps := #[y0, y1, y2, .pointer (some ⟨Bo, 0, none⟩), .pointer (some ⟨Ba, 0, none⟩), .pointer (some ⟨Bb, 0, none⟩), y6, .int .i64 (p : Int), y8, y9, y10, y11, (.slice va kn vc), (.slice (some ⟨bl, ol, none⟩) ml lc), (.int .i64 (p : Int)), (.pointer (some ⟨bl, ol + p * 4, none⟩)), (tv k n s (.slice a m c)), (.slice (some ⟨br, orr, none⟩) ml rc), (.int .i64 (p : Int)), (.pointer (some ⟨br, orr + p * 4, none⟩)), (tv k2 n2 s2 (.slice a2 m2 c2)), y21, y22, y23, y24], defers := [] } W.drew := by
    refine wpAnyIn_ready (rs := [9]) (by kernel_rfl) (by simp) ?_
    refine AllReadyIn.cons eop9 (fun K hK => ?_) ?_
    · go_simp
      exact hK _ _ s0_1_2_3_4_5_6_7_8_9
    exact AllReadyIn.nil
  have s1_2_3_4_5_6_7_8_9 : wpAnyIn (F.inRound l) d Try.prog .any eqnOps Q 4 #[false, true, true, true, true, true, true, true, true, true, false, false, false] { tmps := #[y0, y1, y2, .pointer (some ⟨Bo, 0, none⟩), .pointer (some ⟨Ba, 0, none⟩), .pointer (some ⟨Bb, 0, none⟩), y6, .int .i64 (p : Int), y8, y9, y10, y11, y12, (.slice (some ⟨bl, ol, none⟩) ml lc), (.int .i64 (p : Int)), (.pointer (some ⟨bl, ol + p * 4, none⟩)), (tv k n s (.slice a m c)), (.slice (some ⟨br, orr, none⟩) ml rc), (.int .i64 (p : Int)), (.pointer (some ⟨br, orr + p * 4, none⟩)), (tv k2 n2 s2 (.slice a2 m2 c2)), (.agg #[.int .i64 k, .int .i64 n, .string s, .slice a m c, .int .i64 k2, .int .i64 n2, .string s2, .slice a2 m2 c2]), y22, y23, y24], defers := [] } W.drew := by
    refine wpAnyIn_ready (rs := [0, 10]) (by kernel_rfl) (by simp) ?_
    refine AllReadyIn.cons eop0 (fun K hK => ?_) ?_
    · go_simp
      exact hK _ _ s0_1_2_3_4_5_6_7_8_9
    refine AllReadyIn.cons eop10 (fun K hK => ?_) ?_
    · go_simp
      exact hK _ _ s1_2_3_4_5_6_7_8_9_10
    exact AllReadyIn.nil
  have s0_1_2_3_4_5_6_7 : wpAnyIn (F.inRound l) d Try.prog .any eqnOps Q 5 #[true, true, true, true, true, true, true, true, false, false, false, false, false] { tmps := #[y0, y1, y2, .pointer (some ⟨Bo, 0, none⟩), .pointer (some ⟨Ba, 0, none⟩), .pointer (some ⟨Bb, 0, none⟩), y6, .int .i64 (p : Int), y8, y9, y10, y11, (.slice va kn vc), (.slice (some ⟨bl, ol, none⟩) ml lc), (.int .i64 (p : Int)), (.pointer (some ⟨bl, ol + p * 4, none⟩)), (tv k n s (.slice a m c)), (.slice (some ⟨br, orr, none⟩) ml rc), (.int .i64 (p : Int)), (.pointer (some ⟨br, orr + p * 4, none⟩)), y20, y21, y22, y23, y24], defers := [] } W.drew := by
    refine wpAnyIn_ready (rs := [8]) (by kernel_rfl) (by simp) ?_
    refine AllReadyIn.cons eop8 (fun K hK => ?_) ?_
    · go_simp
      exact hK _ _ s0_1_2_3_4_5_6_7_8
    exact AllReadyIn.nil
  have s0_1_2_3_5_6_7_8 : wpAnyIn (F.inRound l) d Try.prog .any eqnOps Q 5 #[true, true, true, true, false, true, true, true, true, false, false, false, false] { tmps := #[y0, y1, y2, .pointer (some ⟨Bo, 0, none⟩), .pointer (some ⟨Ba, 0, none⟩), .pointer (some ⟨Bb, 0, none⟩), y6, .int .i64 (p : Int), y8, y9, y10, y11, (.slice va kn vc), (.slice (some ⟨bl, ol, none⟩) ml lc), (.int .i64 (p : Int)), (.pointer (some ⟨bl, ol + p * 4, none⟩)), y16, (.slice (some ⟨br, orr, none⟩) ml rc), (.int .i64 (p : Int)), (.pointer (some ⟨br, orr + p * 4, none⟩)), (tv k2 n2 s2 (.slice a2 m2 c2)), y21, y22, y23, y24], defers := [] } W.drew := by
    refine wpAnyIn_ready (rs := [4]) (by kernel_rfl) (by simp) ?_
    refine AllReadyIn.cons eop4 (fun K hK => ?_) ?_
    · go_simp
      exact hK _ _ s0_1_2_3_4_5_6_7_8
    exact AllReadyIn.nil
  have s1_2_3_4_5_6_7_8 : wpAnyIn (F.inRound l) d Try.prog .any eqnOps Q 5 #[false, true, true, true, true, true, true, true, true, false, false, false, false] { tmps := #[y0, y1, y2, .pointer (some ⟨Bo, 0, none⟩), .pointer (some ⟨Ba, 0, none⟩), .pointer (some ⟨Bb, 0, none⟩), y6, .int .i64 (p : Int), y8, y9, y10, y11, y12, (.slice (some ⟨bl, ol, none⟩) ml lc), (.int .i64 (p : Int)), (.pointer (some ⟨bl, ol + p * 4, none⟩)), (tv k n s (.slice a m c)), (.slice (some ⟨br, orr, none⟩) ml rc), (.int .i64 (p : Int)), (.pointer (some ⟨br, orr + p * 4, none⟩)), (tv k2 n2 s2 (.slice a2 m2 c2)), y21, y22, y23, y24], defers := [] } W.drew := by
    refine wpAnyIn_ready (rs := [0, 9]) (by kernel_rfl) (by simp) ?_
    refine AllReadyIn.cons eop0 (fun K hK => ?_) ?_
    · go_simp
      exact hK _ _ s0_1_2_3_4_5_6_7_8
    refine AllReadyIn.cons eop9 (fun K hK => ?_) ?_
    · go_simp
      exact hK _ _ s1_2_3_4_5_6_7_8_9
    exact AllReadyIn.nil
  have s0_1_2_3_4_5_6 : wpAnyIn (F.inRound l) d Try.prog .any eqnOps Q 6 #[true, true, true, true, true, true, true, false, false, false, false, false, false] { tmps := #[y0, y1, y2, .pointer (some ⟨Bo, 0, none⟩), .pointer (some ⟨Ba, 0, none⟩), .pointer (some ⟨Bb, 0, none⟩), y6, .int .i64 (p : Int), y8, y9, y10, y11, (.slice va kn vc), (.slice (some ⟨bl, ol, none⟩) ml lc), (.int .i64 (p : Int)), (.pointer (some ⟨bl, ol + p * 4, none⟩)), (tv k n s (.slice a m c)), (.slice (some ⟨br, orr, none⟩) ml rc), (.int .i64 (p : Int)), y19, y20, y21, y22, y23, y24], defers := [] } W.drew := by
    refine wpAnyIn_ready (rs := [7]) (by kernel_rfl) (by simp) ?_
    refine AllReadyIn.cons eop7 (fun K hK => ?_) ?_
    · go_simp
      exact hK _ _ s0_1_2_3_4_5_6_7
    exact AllReadyIn.nil
  have s0_1_2_3_5_6_7 : wpAnyIn (F.inRound l) d Try.prog .any eqnOps Q 6 #[true, true, true, true, false, true, true, true, false, false, false, false, false] { tmps := #[y0, y1, y2, .pointer (some ⟨Bo, 0, none⟩), .pointer (some ⟨Ba, 0, none⟩), .pointer (some ⟨Bb, 0, none⟩), y6, .int .i64 (p : Int), y8, y9, y10, y11, (.slice va kn vc), (.slice (some ⟨bl, ol, none⟩) ml lc), (.int .i64 (p : Int)), (.pointer (some ⟨bl, ol + p * 4, none⟩)), y16, (.slice (some ⟨br, orr, none⟩) ml rc), (.int .i64 (p : Int)), (.pointer (some ⟨br, orr + p * 4, none⟩)), y20, y21, y22, y23, y24], defers := [] } W.drew := by
    refine wpAnyIn_ready (rs := [4, 8]) (by kernel_rfl) (by simp) ?_
    refine AllReadyIn.cons eop4 (fun K hK => ?_) ?_
    · go_simp
      exact hK _ _ s0_1_2_3_4_5_6_7
    refine AllReadyIn.cons eop8 (fun K hK => ?_) ?_
    · go_simp
      exact hK _ _ s0_1_2_3_5_6_7_8
    exact AllReadyIn.nil
  have s0_1_2_5_6_7_8 : wpAnyIn (F.inRound l) d Try.prog .any eqnOps Q 6 #[true, true, true, false, false, true, true, true, true, false, false, false, false] { tmps := #[y0, y1, y2, .pointer (some ⟨Bo, 0, none⟩), .pointer (some ⟨Ba, 0, none⟩), .pointer (some ⟨Bb, 0, none⟩), y6, .int .i64 (p : Int), y8, y9, y10, y11, (.slice va kn vc), (.slice (some ⟨bl, ol, none⟩) ml lc), (.int .i64 (p : Int)), y15, y16, (.slice (some ⟨br, orr, none⟩) ml rc), (.int .i64 (p : Int)), (.pointer (some ⟨br, orr + p * 4, none⟩)), (tv k2 n2 s2 (.slice a2 m2 c2)), y21, y22, y23, y24], defers := [] } W.drew := by
    refine wpAnyIn_ready (rs := [3]) (by kernel_rfl) (by simp) ?_
    refine AllReadyIn.cons eop3 (fun K hK => ?_) ?_
    · go_simp
      exact hK _ _ s0_1_2_3_5_6_7_8
    exact AllReadyIn.nil
  have s1_2_3_4_5_6_7 : wpAnyIn (F.inRound l) d Try.prog .any eqnOps Q 6 #[false, true, true, true, true, true, true, true, false, false, false, false, false] { tmps := #[y0, y1, y2, .pointer (some ⟨Bo, 0, none⟩), .pointer (some ⟨Ba, 0, none⟩), .pointer (some ⟨Bb, 0, none⟩), y6, .int .i64 (p : Int), y8, y9, y10, y11, y12, (.slice (some ⟨bl, ol, none⟩) ml lc), (.int .i64 (p : Int)), (.pointer (some ⟨bl, ol + p * 4, none⟩)), (tv k n s (.slice a m c)), (.slice (some ⟨br, orr, none⟩) ml rc), (.int .i64 (p : Int)), (.pointer (some ⟨br, orr + p * 4, none⟩)), y20, y21, y22, y23, y24], defers := [] } W.drew := by
    refine wpAnyIn_ready (rs := [0, 8]) (by kernel_rfl) (by simp) ?_
    refine AllReadyIn.cons eop0 (fun K hK => ?_) ?_
    · go_simp
      exact hK _ _ s0_1_2_3_4_5_6_7
    refine AllReadyIn.cons eop8 (fun K hK => ?_) ?_
    · go_simp
      exact hK _ _ s1_2_3_4_5_6_7_8
    exact AllReadyIn.nil
  have s1_2_3_5_6_7_8 : wpAnyIn (F.inRound l) d Try.prog .any eqnOps Q 6 #[false, true, true, true, false, true, true, true, true, false, false, false, false] { tmps := #[y0, y1, y2, .pointer (some ⟨Bo, 0, none⟩), .pointer (some ⟨Ba, 0, none⟩), .pointer (some ⟨Bb, 0, none⟩), y6, .int .i64 (p : Int), y8, y9, y10, y11, y12, (.slice (some ⟨bl, ol, none⟩) ml lc), (.int .i64 (p : Int)), (.pointer (some ⟨bl, ol + p * 4, none⟩)), y16, (.slice (some ⟨br, orr, none⟩) ml rc), (.int .i64 (p : Int)), (.pointer (some ⟨br, orr + p * 4, none⟩)), (tv k2 n2 s2 (.slice a2 m2 c2)), y21, y22, y23, y24], defers := [] } W.drew := by
    refine wpAnyIn_ready (rs := [0, 4]) (by kernel_rfl) (by simp) ?_
    refine AllReadyIn.cons eop0 (fun K hK => ?_) ?_
    · go_simp
      exact hK _ _ s0_1_2_3_5_6_7_8
    refine AllReadyIn.cons eop4 (fun K hK => ?_) ?_
    · go_simp
      exact hK _ _ s1_2_3_4_5_6_7_8
    exact AllReadyIn.nil
  have s0_1_2_3_4_5 : wpAnyIn (F.inRound l) d Try.prog .any eqnOps Q 7 #[true, true, true, true, true, true, false, false, false, false, false, false, false] { tmps := #[y0, y1, y2, .pointer (some ⟨Bo, 0, none⟩), .pointer (some ⟨Ba, 0, none⟩), .pointer (some ⟨Bb, 0, none⟩), y6, .int .i64 (p : Int), y8, y9, y10, y11, (.slice va kn vc), (.slice (some ⟨bl, ol, none⟩) ml lc), (.int .i64 (p : Int)), (.pointer (some ⟨bl, ol + p * 4, none⟩)), (tv k n s (.slice a m c)), (.slice (some ⟨br, orr, none⟩) ml rc), y18, y19, y20, y21, y22, y23, y24], defers := [] } W.drew := by
    refine wpAnyIn_ready (rs := [6]) (by kernel_rfl) (by simp) ?_
    refine AllReadyIn.cons eop6 (fun K hK => ?_) ?_
    · go_simp
      exact hK _ _ s0_1_2_3_4_5_6
    exact AllReadyIn.nil
  have s0_1_2_3_4_6 : wpAnyIn (F.inRound l) d Try.prog .any eqnOps Q 7 #[true, true, true, true, true, false, true, false, false, false, false, false, false] { tmps := #[y0, y1, y2, .pointer (some ⟨Bo, 0, none⟩), .pointer (some ⟨Ba, 0, none⟩), .pointer (some ⟨Bb, 0, none⟩), y6, .int .i64 (p : Int), y8, y9, y10, y11, (.slice va kn vc), (.slice (some ⟨bl, ol, none⟩) ml lc), (.int .i64 (p : Int)), (.pointer (some ⟨bl, ol + p * 4, none⟩)), (tv k n s (.slice a m c)), y17, (.int .i64 (p : Int)), y19, y20, y21, y22, y23, y24], defers := [] } W.drew := by
    refine wpAnyIn_ready (rs := [5]) (by kernel_rfl) (by simp) ?_
    refine AllReadyIn.cons eop5 (fun K hK => ?_) ?_
    · go_simp
      exact hK _ _ s0_1_2_3_4_5_6
    exact AllReadyIn.nil
  have s0_1_2_3_5_6 : wpAnyIn (F.inRound l) d Try.prog .any eqnOps Q 7 #[true, true, true, true, false, true, true, false, false, false, false, false, false] { tmps := #[y0, y1, y2, .pointer (some ⟨Bo, 0, none⟩), .pointer (some ⟨Ba, 0, none⟩), .pointer (some ⟨Bb, 0, none⟩), y6, .int .i64 (p : Int), y8, y9, y10, y11, (.slice va kn vc), (.slice (some ⟨bl, ol, none⟩) ml lc), (.int .i64 (p : Int)), (.pointer (some ⟨bl, ol + p * 4, none⟩)), y16, (.slice (some ⟨br, orr, none⟩) ml rc), (.int .i64 (p : Int)), y19, y20, y21, y22, y23, y24], defers := [] } W.drew := by
    refine wpAnyIn_ready (rs := [4, 7]) (by kernel_rfl) (by simp) ?_
    refine AllReadyIn.cons eop4 (fun K hK => ?_) ?_
    · go_simp
      exact hK _ _ s0_1_2_3_4_5_6
    refine AllReadyIn.cons eop7 (fun K hK => ?_) ?_
    · go_simp
      exact hK _ _ s0_1_2_3_5_6_7
    exact AllReadyIn.nil
  have s0_1_2_5_6_7 : wpAnyIn (F.inRound l) d Try.prog .any eqnOps Q 7 #[true, true, true, false, false, true, true, true, false, false, false, false, false] { tmps := #[y0, y1, y2, .pointer (some ⟨Bo, 0, none⟩), .pointer (some ⟨Ba, 0, none⟩), .pointer (some ⟨Bb, 0, none⟩), y6, .int .i64 (p : Int), y8, y9, y10, y11, (.slice va kn vc), (.slice (some ⟨bl, ol, none⟩) ml lc), (.int .i64 (p : Int)), y15, y16, (.slice (some ⟨br, orr, none⟩) ml rc), (.int .i64 (p : Int)), (.pointer (some ⟨br, orr + p * 4, none⟩)), y20, y21, y22, y23, y24], defers := [] } W.drew := by
    refine wpAnyIn_ready (rs := [3, 8]) (by kernel_rfl) (by simp) ?_
    refine AllReadyIn.cons eop3 (fun K hK => ?_) ?_
    · go_simp
      exact hK _ _ s0_1_2_3_5_6_7
    refine AllReadyIn.cons eop8 (fun K hK => ?_) ?_
    · go_simp
      exact hK _ _ s0_1_2_5_6_7_8
    exact AllReadyIn.nil
  have s0_1_5_6_7_8 : wpAnyIn (F.inRound l) d Try.prog .any eqnOps Q 7 #[true, true, false, false, false, true, true, true, true, false, false, false, false] { tmps := #[y0, y1, y2, .pointer (some ⟨Bo, 0, none⟩), .pointer (some ⟨Ba, 0, none⟩), .pointer (some ⟨Bb, 0, none⟩), y6, .int .i64 (p : Int), y8, y9, y10, y11, (.slice va kn vc), (.slice (some ⟨bl, ol, none⟩) ml lc), y14, y15, y16, (.slice (some ⟨br, orr, none⟩) ml rc), (.int .i64 (p : Int)), (.pointer (some ⟨br, orr + p * 4, none⟩)), (tv k2 n2 s2 (.slice a2 m2 c2)), y21, y22, y23, y24], defers := [] } W.drew := by
    refine wpAnyIn_ready (rs := [2]) (by kernel_rfl) (by simp) ?_
    refine AllReadyIn.cons eop2 (fun K hK => ?_) ?_
    · go_simp
      exact hK _ _ s0_1_2_5_6_7_8
    exact AllReadyIn.nil
  have s0_2_5_6_7_8 : wpAnyIn (F.inRound l) d Try.prog .any eqnOps Q 7 #[true, false, true, false, false, true, true, true, true, false, false, false, false] { tmps := #[y0, y1, y2, .pointer (some ⟨Bo, 0, none⟩), .pointer (some ⟨Ba, 0, none⟩), .pointer (some ⟨Bb, 0, none⟩), y6, .int .i64 (p : Int), y8, y9, y10, y11, (.slice va kn vc), y13, (.int .i64 (p : Int)), y15, y16, (.slice (some ⟨br, orr, none⟩) ml rc), (.int .i64 (p : Int)), (.pointer (some ⟨br, orr + p * 4, none⟩)), (tv k2 n2 s2 (.slice a2 m2 c2)), y21, y22, y23, y24], defers := [] } W.drew := by
    refine wpAnyIn_ready (rs := [1]) (by kernel_rfl) (by simp) ?_
    refine AllReadyIn.cons eop1 (fun K hK => ?_) ?_
    · go_simp
      exact hK _ _ s0_1_2_5_6_7_8
    exact AllReadyIn.nil
  have s1_2_3_4_5_6 : wpAnyIn (F.inRound l) d Try.prog .any eqnOps Q 7 #[false, true, true, true, true, true, true, false, false, false, false, false, false] { tmps := #[y0, y1, y2, .pointer (some ⟨Bo, 0, none⟩), .pointer (some ⟨Ba, 0, none⟩), .pointer (some ⟨Bb, 0, none⟩), y6, .int .i64 (p : Int), y8, y9, y10, y11, y12, (.slice (some ⟨bl, ol, none⟩) ml lc), (.int .i64 (p : Int)), (.pointer (some ⟨bl, ol + p * 4, none⟩)), (tv k n s (.slice a m c)), (.slice (some ⟨br, orr, none⟩) ml rc), (.int .i64 (p : Int)), y19, y20, y21, y22, y23, y24], defers := [] } W.drew := by
    refine wpAnyIn_ready (rs := [0, 7]) (by kernel_rfl) (by simp) ?_
    refine AllReadyIn.cons eop0 (fun K hK => ?_) ?_
    · go_simp
      exact hK _ _ s0_1_2_3_4_5_6
    refine AllReadyIn.cons eop7 (fun K hK => ?_) ?_
    · go_simp
      exact hK _ _ s1_2_3_4_5_6_7
    exact AllReadyIn.nil
  have s1_2_3_5_6_7 : wpAnyIn (F.inRound l) d Try.prog .any eqnOps Q 7 #[false, true, true, true, false, true, true, true, false, false, false, false, false] { tmps := #[y0, y1, y2, .pointer (some ⟨Bo, 0, none⟩), .pointer (some ⟨Ba, 0, none⟩), .pointer (some ⟨Bb, 0, none⟩), y6, .int .i64 (p : Int), y8, y9, y10, y11, y12, (.slice (some ⟨bl, ol, none⟩) ml lc), (.int .i64 (p : Int)), (.pointer (some ⟨bl, ol + p * 4, none⟩)), y16, (.slice (some ⟨br, orr, none⟩) ml rc), (.int .i64 (p : Int)), (.pointer (some ⟨br, orr + p * 4, none⟩)), y20, y21, y22, y23, y24], defers := [] } W.drew := by
    refine wpAnyIn_ready (rs := [0, 4, 8]) (by kernel_rfl) (by simp) ?_
    refine AllReadyIn.cons eop0 (fun K hK => ?_) ?_
    · go_simp
      exact hK _ _ s0_1_2_3_5_6_7
    refine AllReadyIn.cons eop4 (fun K hK => ?_) ?_
    · go_simp
      exact hK _ _ s1_2_3_4_5_6_7
    refine AllReadyIn.cons eop8 (fun K hK => ?_) ?_
    · go_simp
      exact hK _ _ s1_2_3_5_6_7_8
    exact AllReadyIn.nil
  have s1_2_5_6_7_8 : wpAnyIn (F.inRound l) d Try.prog .any eqnOps Q 7 #[false, true, true, false, false, true, true, true, true, false, false, false, false] { tmps := #[y0, y1, y2, .pointer (some ⟨Bo, 0, none⟩), .pointer (some ⟨Ba, 0, none⟩), .pointer (some ⟨Bb, 0, none⟩), y6, .int .i64 (p : Int), y8, y9, y10, y11, y12, (.slice (some ⟨bl, ol, none⟩) ml lc), (.int .i64 (p : Int)), y15, y16, (.slice (some ⟨br, orr, none⟩) ml rc), (.int .i64 (p : Int)), (.pointer (some ⟨br, orr + p * 4, none⟩)), (tv k2 n2 s2 (.slice a2 m2 c2)), y21, y22, y23, y24], defers := [] } W.drew := by
    refine wpAnyIn_ready (rs := [0, 3]) (by kernel_rfl) (by simp) ?_
    refine AllReadyIn.cons eop0 (fun K hK => ?_) ?_
    · go_simp
      exact hK _ _ s0_1_2_5_6_7_8
    refine AllReadyIn.cons eop3 (fun K hK => ?_) ?_
    · go_simp
      exact hK _ _ s1_2_3_5_6_7_8
    exact AllReadyIn.nil
  have s0_1_2_3_4 : wpAnyIn (F.inRound l) d Try.prog .any eqnOps Q 8 #[true, true, true, true, true, false, false, false, false, false, false, false, false] { tmps := #[y0, y1, y2, .pointer (some ⟨Bo, 0, none⟩), .pointer (some ⟨Ba, 0, none⟩), .pointer (some ⟨Bb, 0, none⟩), y6, .int .i64 (p : Int), y8, y9, y10, y11, (.slice va kn vc), (.slice (some ⟨bl, ol, none⟩) ml lc), (.int .i64 (p : Int)), (.pointer (some ⟨bl, ol + p * 4, none⟩)), (tv k n s (.slice a m c)), y17, y18, y19, y20, y21, y22, y23, y24], defers := [] } W.drew := by
    refine wpAnyIn_ready (rs := [5, 6]) (by kernel_rfl) (by simp) ?_
    refine AllReadyIn.cons eop5 (fun K hK => ?_) ?_
    · go_simp
      exact hK _ _ s0_1_2_3_4_5
    refine AllReadyIn.cons eop6 (fun K hK => ?_) ?_
    · go_simp
      exact hK _ _ s0_1_2_3_4_6
    exact AllReadyIn.nil
  have s0_1_2_3_5 : wpAnyIn (F.inRound l) d Try.prog .any eqnOps Q 8 #[true, true, true, true, false, true, false, false, false, false, false, false, false] { tmps := #[y0, y1, y2, .pointer (some ⟨Bo, 0, none⟩), .pointer (some ⟨Ba, 0, none⟩), .pointer (some ⟨Bb, 0, none⟩), y6, .int .i64 (p : Int), y8, y9, y10, y11, (.slice va kn vc), (.slice (some ⟨bl, ol, none⟩) ml lc), (.int .i64 (p : Int)), (.pointer (some ⟨bl, ol + p * 4, none⟩)), y16, (.slice (some ⟨br, orr, none⟩) ml rc), y18, y19, y20, y21, y22, y23, y24], defers := [] } W.drew := by
    refine wpAnyIn_ready (rs := [4, 6]) (by kernel_rfl) (by simp) ?_
    refine AllReadyIn.cons eop4 (fun K hK => ?_) ?_
    · go_simp
      exact hK _ _ s0_1_2_3_4_5
    refine AllReadyIn.cons eop6 (fun K hK => ?_) ?_
    · go_simp
      exact hK _ _ s0_1_2_3_5_6
    exact AllReadyIn.nil
  have s0_1_2_3_6 : wpAnyIn (F.inRound l) d Try.prog .any eqnOps Q 8 #[true, true, true, true, false, false, true, false, false, false, false, false, false] { tmps := #[y0, y1, y2, .pointer (some ⟨Bo, 0, none⟩), .pointer (some ⟨Ba, 0, none⟩), .pointer (some ⟨Bb, 0, none⟩), y6, .int .i64 (p : Int), y8, y9, y10, y11, (.slice va kn vc), (.slice (some ⟨bl, ol, none⟩) ml lc), (.int .i64 (p : Int)), (.pointer (some ⟨bl, ol + p * 4, none⟩)), y16, y17, (.int .i64 (p : Int)), y19, y20, y21, y22, y23, y24], defers := [] } W.drew := by
    refine wpAnyIn_ready (rs := [4, 5]) (by kernel_rfl) (by simp) ?_
    refine AllReadyIn.cons eop4 (fun K hK => ?_) ?_
    · go_simp
      exact hK _ _ s0_1_2_3_4_6
    refine AllReadyIn.cons eop5 (fun K hK => ?_) ?_
    · go_simp
      exact hK _ _ s0_1_2_3_5_6
    exact AllReadyIn.nil
  have s0_1_2_5_6 : wpAnyIn (F.inRound l) d Try.prog .any eqnOps Q 8 #[true, true, true, false, false, true, true, false, false, false, false, false, false] { tmps := #[y0, y1, y2, .pointer (some ⟨Bo, 0, none⟩), .pointer (some ⟨Ba, 0, none⟩), .pointer (some ⟨Bb, 0, none⟩), y6, .int .i64 (p : Int), y8, y9, y10, y11, (.slice va kn vc), (.slice (some ⟨bl, ol, none⟩) ml lc), (.int .i64 (p : Int)), y15, y16, (.slice (some ⟨br, orr, none⟩) ml rc), (.int .i64 (p : Int)), y19, y20, y21, y22, y23, y24], defers := [] } W.drew := by
    refine wpAnyIn_ready (rs := [3, 7]) (by kernel_rfl) (by simp) ?_
    refine AllReadyIn.cons eop3 (fun K hK => ?_) ?_
    · go_simp
      exact hK _ _ s0_1_2_3_5_6
    refine AllReadyIn.cons eop7 (fun K hK => ?_) ?_
    · go_simp
      exact hK _ _ s0_1_2_5_6_7
    exact AllReadyIn.nil
  have s0_1_5_6_7 : wpAnyIn (F.inRound l) d Try.prog .any eqnOps Q 8 #[true, true, false, false, false, true, true, true, false, false, false, false, false] { tmps := #[y0, y1, y2, .pointer (some ⟨Bo, 0, none⟩), .pointer (some ⟨Ba, 0, none⟩), .pointer (some ⟨Bb, 0, none⟩), y6, .int .i64 (p : Int), y8, y9, y10, y11, (.slice va kn vc), (.slice (some ⟨bl, ol, none⟩) ml lc), y14, y15, y16, (.slice (some ⟨br, orr, none⟩) ml rc), (.int .i64 (p : Int)), (.pointer (some ⟨br, orr + p * 4, none⟩)), y20, y21, y22, y23, y24], defers := [] } W.drew := by
    refine wpAnyIn_ready (rs := [2, 8]) (by kernel_rfl) (by simp) ?_
    refine AllReadyIn.cons eop2 (fun K hK => ?_) ?_
    · go_simp
      exact hK _ _ s0_1_2_5_6_7
    refine AllReadyIn.cons eop8 (fun K hK => ?_) ?_
    · go_simp
      exact hK _ _ s0_1_5_6_7_8
    exact AllReadyIn.nil
  have s0_2_5_6_7 : wpAnyIn (F.inRound l) d Try.prog .any eqnOps Q 8 #[true, false, true, false, false, true, true, true, false, false, false, false, false] { tmps := #[y0, y1, y2, .pointer (some ⟨Bo, 0, none⟩), .pointer (some ⟨Ba, 0, none⟩), .pointer (some ⟨Bb, 0, none⟩), y6, .int .i64 (p : Int), y8, y9, y10, y11, (.slice va kn vc), y13, (.int .i64 (p : Int)), y15, y16, (.slice (some ⟨br, orr, none⟩) ml rc), (.int .i64 (p : Int)), (.pointer (some ⟨br, orr + p * 4, none⟩)), y20, y21, y22, y23, y24], defers := [] } W.drew := by
    refine wpAnyIn_ready (rs := [1, 8]) (by kernel_rfl) (by simp) ?_
    refine AllReadyIn.cons eop1 (fun K hK => ?_) ?_
    · go_simp
      exact hK _ _ s0_1_2_5_6_7
    refine AllReadyIn.cons eop8 (fun K hK => ?_) ?_
    · go_simp
      exact hK _ _ s0_2_5_6_7_8
    exact AllReadyIn.nil
  have s0_5_6_7_8 : wpAnyIn (F.inRound l) d Try.prog .any eqnOps Q 8 #[true, false, false, false, false, true, true, true, true, false, false, false, false] { tmps := #[y0, y1, y2, .pointer (some ⟨Bo, 0, none⟩), .pointer (some ⟨Ba, 0, none⟩), .pointer (some ⟨Bb, 0, none⟩), y6, .int .i64 (p : Int), y8, y9, y10, y11, (.slice va kn vc), y13, y14, y15, y16, (.slice (some ⟨br, orr, none⟩) ml rc), (.int .i64 (p : Int)), (.pointer (some ⟨br, orr + p * 4, none⟩)), (tv k2 n2 s2 (.slice a2 m2 c2)), y21, y22, y23, y24], defers := [] } W.drew := by
    refine wpAnyIn_ready (rs := [1, 2]) (by kernel_rfl) (by simp) ?_
    refine AllReadyIn.cons eop1 (fun K hK => ?_) ?_
    · go_simp
      exact hK _ _ s0_1_5_6_7_8
    refine AllReadyIn.cons eop2 (fun K hK => ?_) ?_
    · go_simp
      exact hK _ _ s0_2_5_6_7_8
    exact AllReadyIn.nil
  have s1_2_3_4_5 : wpAnyIn (F.inRound l) d Try.prog .any eqnOps Q 8 #[false, true, true, true, true, true, false, false, false, false, false, false, false] { tmps := #[y0, y1, y2, .pointer (some ⟨Bo, 0, none⟩), .pointer (some ⟨Ba, 0, none⟩), .pointer (some ⟨Bb, 0, none⟩), y6, .int .i64 (p : Int), y8, y9, y10, y11, y12, (.slice (some ⟨bl, ol, none⟩) ml lc), (.int .i64 (p : Int)), (.pointer (some ⟨bl, ol + p * 4, none⟩)), (tv k n s (.slice a m c)), (.slice (some ⟨br, orr, none⟩) ml rc), y18, y19, y20, y21, y22, y23, y24], defers := [] } W.drew := by
    refine wpAnyIn_ready (rs := [0, 6]) (by kernel_rfl) (by simp) ?_
    refine AllReadyIn.cons eop0 (fun K hK => ?_) ?_
    · go_simp
      exact hK _ _ s0_1_2_3_4_5
    refine AllReadyIn.cons eop6 (fun K hK => ?_) ?_
    · go_simp
      exact hK _ _ s1_2_3_4_5_6
    exact AllReadyIn.nil
  have s1_2_3_4_6 : wpAnyIn (F.inRound l) d Try.prog .any eqnOps Q 8 #[false, true, true, true, true, false, true, false, false, false, false, false, false] { tmps := #[y0, y1, y2, .pointer (some ⟨Bo, 0, none⟩), .pointer (some ⟨Ba, 0, none⟩), .pointer (some ⟨Bb, 0, none⟩), y6, .int .i64 (p : Int), y8, y9, y10, y11, y12, (.slice (some ⟨bl, ol, none⟩) ml lc), (.int .i64 (p : Int)), (.pointer (some ⟨bl, ol + p * 4, none⟩)), (tv k n s (.slice a m c)), y17, (.int .i64 (p : Int)), y19, y20, y21, y22, y23, y24], defers := [] } W.drew := by
    refine wpAnyIn_ready (rs := [0, 5]) (by kernel_rfl) (by simp) ?_
    refine AllReadyIn.cons eop0 (fun K hK => ?_) ?_
    · go_simp
      exact hK _ _ s0_1_2_3_4_6
    refine AllReadyIn.cons eop5 (fun K hK => ?_) ?_
    · go_simp
      exact hK _ _ s1_2_3_4_5_6
    exact AllReadyIn.nil
  have s1_2_3_5_6 : wpAnyIn (F.inRound l) d Try.prog .any eqnOps Q 8 #[false, true, true, true, false, true, true, false, false, false, false, false, false] { tmps := #[y0, y1, y2, .pointer (some ⟨Bo, 0, none⟩), .pointer (some ⟨Ba, 0, none⟩), .pointer (some ⟨Bb, 0, none⟩), y6, .int .i64 (p : Int), y8, y9, y10, y11, y12, (.slice (some ⟨bl, ol, none⟩) ml lc), (.int .i64 (p : Int)), (.pointer (some ⟨bl, ol + p * 4, none⟩)), y16, (.slice (some ⟨br, orr, none⟩) ml rc), (.int .i64 (p : Int)), y19, y20, y21, y22, y23, y24], defers := [] } W.drew := by
    refine wpAnyIn_ready (rs := [0, 4, 7]) (by kernel_rfl) (by simp) ?_
    refine AllReadyIn.cons eop0 (fun K hK => ?_) ?_
    · go_simp
      exact hK _ _ s0_1_2_3_5_6
    refine AllReadyIn.cons eop4 (fun K hK => ?_) ?_
    · go_simp
      exact hK _ _ s1_2_3_4_5_6
    refine AllReadyIn.cons eop7 (fun K hK => ?_) ?_
    · go_simp
      exact hK _ _ s1_2_3_5_6_7
    exact AllReadyIn.nil
  have s1_2_5_6_7 : wpAnyIn (F.inRound l) d Try.prog .any eqnOps Q 8 #[false, true, true, false, false, true, true, true, false, false, false, false, false] { tmps := #[y0, y1, y2, .pointer (some ⟨Bo, 0, none⟩), .pointer (some ⟨Ba, 0, none⟩), .pointer (some ⟨Bb, 0, none⟩), y6, .int .i64 (p : Int), y8, y9, y10, y11, y12, (.slice (some ⟨bl, ol, none⟩) ml lc), (.int .i64 (p : Int)), y15, y16, (.slice (some ⟨br, orr, none⟩) ml rc), (.int .i64 (p : Int)), (.pointer (some ⟨br, orr + p * 4, none⟩)), y20, y21, y22, y23, y24], defers := [] } W.drew := by
    refine wpAnyIn_ready (rs := [0, 3, 8]) (by kernel_rfl) (by simp) ?_
    refine AllReadyIn.cons eop0 (fun K hK => ?_) ?_
    · go_simp
      exact hK _ _ s0_1_2_5_6_7
    refine AllReadyIn.cons eop3 (fun K hK => ?_) ?_
    · go_simp
      exact hK _ _ s1_2_3_5_6_7
    refine AllReadyIn.cons eop8 (fun K hK => ?_) ?_
    · go_simp
      exact hK _ _ s1_2_5_6_7_8
    exact AllReadyIn.nil
  have s1_5_6_7_8 : wpAnyIn (F.inRound l) d Try.prog .any eqnOps Q 8 #[false, true, false, false, false, true, true, true, true, false, false, false, false] { tmps := #[y0, y1, y2, .pointer (some ⟨Bo, 0, none⟩), .pointer (some ⟨Ba, 0, none⟩), .pointer (some ⟨Bb, 0, none⟩), y6, .int .i64 (p : Int), y8, y9, y10, y11, y12, (.slice (some ⟨bl, ol, none⟩) ml lc), y14, y15, y16, (.slice (some ⟨br, orr, none⟩) ml rc), (.int .i64 (p : Int)), (.pointer (some ⟨br, orr + p * 4, none⟩)), (tv k2 n2 s2 (.slice a2 m2 c2)), y21, y22, y23, y24], defers := [] } W.drew := by
    refine wpAnyIn_ready (rs := [0, 2]) (by kernel_rfl) (by simp) ?_
    refine AllReadyIn.cons eop0 (fun K hK => ?_) ?_
    · go_simp
      exact hK _ _ s0_1_5_6_7_8
    refine AllReadyIn.cons eop2 (fun K hK => ?_) ?_
    · go_simp
      exact hK _ _ s1_2_5_6_7_8
    exact AllReadyIn.nil
  have s2_5_6_7_8 : wpAnyIn (F.inRound l) d Try.prog .any eqnOps Q 8 #[false, false, true, false, false, true, true, true, true, false, false, false, false] { tmps := #[y0, y1, y2, .pointer (some ⟨Bo, 0, none⟩), .pointer (some ⟨Ba, 0, none⟩), .pointer (some ⟨Bb, 0, none⟩), y6, .int .i64 (p : Int), y8, y9, y10, y11, y12, y13, (.int .i64 (p : Int)), y15, y16, (.slice (some ⟨br, orr, none⟩) ml rc), (.int .i64 (p : Int)), (.pointer (some ⟨br, orr + p * 4, none⟩)), (tv k2 n2 s2 (.slice a2 m2 c2)), y21, y22, y23, y24], defers := [] } W.drew := by
    refine wpAnyIn_ready (rs := [0, 1]) (by kernel_rfl) (by simp) ?_
    refine AllReadyIn.cons eop0 (fun K hK => ?_) ?_
    · go_simp
      exact hK _ _ s0_2_5_6_7_8
    refine AllReadyIn.cons eop1 (fun K hK => ?_) ?_
    · go_simp
      exact hK _ _ s1_2_5_6_7_8
    exact AllReadyIn.nil
  have s0_1_2_3 : wpAnyIn (F.inRound l) d Try.prog .any eqnOps Q 9 #[true, true, true, true, false, false, false, false, false, false, false, false, false] { tmps := #[y0, y1, y2, .pointer (some ⟨Bo, 0, none⟩), .pointer (some ⟨Ba, 0, none⟩), .pointer (some ⟨Bb, 0, none⟩), y6, .int .i64 (p : Int), y8, y9, y10, y11, (.slice va kn vc), (.slice (some ⟨bl, ol, none⟩) ml lc), (.int .i64 (p : Int)), (.pointer (some ⟨bl, ol + p * 4, none⟩)), y16, y17, y18, y19, y20, y21, y22, y23, y24], defers := [] } W.drew := by
    refine wpAnyIn_ready (rs := [4, 5, 6]) (by kernel_rfl) (by simp) ?_
    refine AllReadyIn.cons eop4 (fun K hK => ?_) ?_
    · go_simp
      exact hK _ _ s0_1_2_3_4
    refine AllReadyIn.cons eop5 (fun K hK => ?_) ?_
    · go_simp
      exact hK _ _ s0_1_2_3_5
    refine AllReadyIn.cons eop6 (fun K hK => ?_) ?_
    · go_simp
      exact hK _ _ s0_1_2_3_6
    exact AllReadyIn.nil
  have s0_1_2_5 : wpAnyIn (F.inRound l) d Try.prog .any eqnOps Q 9 #[true, true, true, false, false, true, false, false, false, false, false, false, false] { tmps := #[y0, y1, y2, .pointer (some ⟨Bo, 0, none⟩), .pointer (some ⟨Ba, 0, none⟩), .pointer (some ⟨Bb, 0, none⟩), y6, .int .i64 (p : Int), y8, y9, y10, y11, (.slice va kn vc), (.slice (some ⟨bl, ol, none⟩) ml lc), (.int .i64 (p : Int)), y15, y16, (.slice (some ⟨br, orr, none⟩) ml rc), y18, y19, y20, y21, y22, y23, y24], defers := [] } W.drew := by
    refine wpAnyIn_ready (rs := [3, 6]) (by kernel_rfl) (by simp) ?_
    refine AllReadyIn.cons eop3 (fun K hK => ?_) ?_
    · go_simp
      exact hK _ _ s0_1_2_3_5
    refine AllReadyIn.cons eop6 (fun K hK => ?_) ?_
    · go_simp
      exact hK _ _ s0_1_2_5_6
    exact AllReadyIn.nil
  have s0_1_2_6 : wpAnyIn (F.inRound l) d Try.prog .any eqnOps Q 9 #[true, true, true, false, false, false, true, false, false, false, false, false, false] { tmps := #[y0, y1, y2, .pointer (some ⟨Bo, 0, none⟩), .pointer (some ⟨Ba, 0, none⟩), .pointer (some ⟨Bb, 0, none⟩), y6, .int .i64 (p : Int), y8, y9, y10, y11, (.slice va kn vc), (.slice (some ⟨bl, ol, none⟩) ml lc), (.int .i64 (p : Int)), y15, y16, y17, (.int .i64 (p : Int)), y19, y20, y21, y22, y23, y24], defers := [] } W.drew := by
    refine wpAnyIn_ready (rs := [3, 5]) (by kernel_rfl) (by simp) ?_
    refine AllReadyIn.cons eop3 (fun K hK => ?_) ?_
    · go_simp
      exact hK _ _ s0_1_2_3_6
    refine AllReadyIn.cons eop5 (fun K hK => ?_) ?_
    · go_simp
      exact hK _ _ s0_1_2_5_6
    exact AllReadyIn.nil
  have s0_1_5_6 : wpAnyIn (F.inRound l) d Try.prog .any eqnOps Q 9 #[true, true, false, false, false, true, true, false, false, false, false, false, false] { tmps := #[y0, y1, y2, .pointer (some ⟨Bo, 0, none⟩), .pointer (some ⟨Ba, 0, none⟩), .pointer (some ⟨Bb, 0, none⟩), y6, .int .i64 (p : Int), y8, y9, y10, y11, (.slice va kn vc), (.slice (some ⟨bl, ol, none⟩) ml lc), y14, y15, y16, (.slice (some ⟨br, orr, none⟩) ml rc), (.int .i64 (p : Int)), y19, y20, y21, y22, y23, y24], defers := [] } W.drew := by
    refine wpAnyIn_ready (rs := [2, 7]) (by kernel_rfl) (by simp) ?_
    refine AllReadyIn.cons eop2 (fun K hK => ?_) ?_
    · go_simp
      exact hK _ _ s0_1_2_5_6
    refine AllReadyIn.cons eop7 (fun K hK => ?_) ?_
    · go_simp
      exact hK _ _ s0_1_5_6_7
    exact AllReadyIn.nil
  have s0_2_5_6 : wpAnyIn (F.inRound l) d Try.prog .any eqnOps Q 9 #[true, false, true, false, false, true, true, false, false, false, false, false, false] { tmps := #[y0, y1, y2, .pointer (some ⟨Bo, 0, none⟩), .pointer (some ⟨Ba, 0, none⟩), .pointer (some ⟨Bb, 0, none⟩), y6, .int .i64 (p : Int), y8, y9, y10, y11, (.slice va kn vc), y13, (.int .i64 (p : Int)), y15, y16, (.slice (some ⟨br, orr, none⟩) ml rc), (.int .i64 (p : Int)), y19, y20, y21, y22, y23, y24], defers := [] } W.drew := by
    refine wpAnyIn_ready (rs := [1, 7]) (by kernel_rfl) (by simp) ?_
    refine AllReadyIn.cons eop1 (fun K hK => ?_) ?_
    · go_simp
      exact hK _ _ s0_1_2_5_6
    refine AllReadyIn.cons eop7 (fun K hK => ?_) ?_
    · go_simp
      exact hK _ _ s0_2_5_6_7
    exact AllReadyIn.nil
  have s0_5_6_7 : wpAnyIn (F.inRound l) d Try.prog .any eqnOps Q 9 #[true, false, false, false, false, true, true, true, false, false, false, false, false] { tmps := #[y0, y1, y2, .pointer (some ⟨Bo, 0, none⟩), .pointer (some ⟨Ba, 0, none⟩), .pointer (some ⟨Bb, 0, none⟩), y6, .int .i64 (p : Int), y8, y9, y10, y11, (.slice va kn vc), y13, y14, y15, y16, (.slice (some ⟨br, orr, none⟩) ml rc), (.int .i64 (p : Int)), (.pointer (some ⟨br, orr + p * 4, none⟩)), y20, y21, y22, y23, y24], defers := [] } W.drew := by
    refine wpAnyIn_ready (rs := [1, 2, 8]) (by kernel_rfl) (by simp) ?_
    refine AllReadyIn.cons eop1 (fun K hK => ?_) ?_
    · go_simp
      exact hK _ _ s0_1_5_6_7
    refine AllReadyIn.cons eop2 (fun K hK => ?_) ?_
    · go_simp
      exact hK _ _ s0_2_5_6_7
    refine AllReadyIn.cons eop8 (fun K hK => ?_) ?_
    · go_simp
      exact hK _ _ s0_5_6_7_8
    exact AllReadyIn.nil
  have s1_2_3_4 : wpAnyIn (F.inRound l) d Try.prog .any eqnOps Q 9 #[false, true, true, true, true, false, false, false, false, false, false, false, false] { tmps := #[y0, y1, y2, .pointer (some ⟨Bo, 0, none⟩), .pointer (some ⟨Ba, 0, none⟩), .pointer (some ⟨Bb, 0, none⟩), y6, .int .i64 (p : Int), y8, y9, y10, y11, y12, (.slice (some ⟨bl, ol, none⟩) ml lc), (.int .i64 (p : Int)), (.pointer (some ⟨bl, ol + p * 4, none⟩)), (tv k n s (.slice a m c)), y17, y18, y19, y20, y21, y22, y23, y24], defers := [] } W.drew := by
    refine wpAnyIn_ready (rs := [0, 5, 6]) (by kernel_rfl) (by simp) ?_
    refine AllReadyIn.cons eop0 (fun K hK => ?_) ?_
    · go_simp
      exact hK _ _ s0_1_2_3_4
    refine AllReadyIn.cons eop5 (fun K hK => ?_) ?_
    · go_simp
      exact hK _ _ s1_2_3_4_5
    refine AllReadyIn.cons eop6 (fun K hK => ?_) ?_
    · go_simp
      exact hK _ _ s1_2_3_4_6
    exact AllReadyIn.nil
  have s1_2_3_5 : wpAnyIn (F.inRound l) d Try.prog .any eqnOps Q 9 #[false, true, true, true, false, true, false, false, false, false, false, false, false] { tmps := #[y0, y1, y2, .pointer (some ⟨Bo, 0, none⟩), .pointer (some ⟨Ba, 0, none⟩), .pointer (some ⟨Bb, 0, none⟩), y6, .int .i64 (p : Int), y8, y9, y10, y11, y12, (.slice (some ⟨bl, ol, none⟩) ml lc), (.int .i64 (p : Int)), (.pointer (some ⟨bl, ol + p * 4, none⟩)), y16, (.slice (some ⟨br, orr, none⟩) ml rc), y18, y19, y20, y21, y22, y23, y24], defers := [] } W.drew := by
    refine wpAnyIn_ready (rs := [0, 4, 6]) (by kernel_rfl) (by simp) ?_
    refine AllReadyIn.cons eop0 (fun K hK => ?_) ?_
    · go_simp
      exact hK _ _ s0_1_2_3_5
    refine AllReadyIn.cons eop4 (fun K hK => ?_) ?_
    · go_simp
      exact hK _ _ s1_2_3_4_5
    refine AllReadyIn.cons eop6 (fun K hK => ?_) ?_
    · go_simp
      exact hK _ _ s1_2_3_5_6
    exact AllReadyIn.nil
  have s1_2_3_6 : wpAnyIn (F.inRound l) d Try.prog .any eqnOps Q 9 #[false, true, true, true, false, false, true, false, false, false, false, false, false] { tmps := #[y0, y1, y2, .pointer (some ⟨Bo, 0, none⟩), .pointer (some ⟨Ba, 0, none⟩), .pointer (some ⟨Bb, 0, none⟩), y6, .int .i64 (p : Int), y8, y9, y10, y11, y12, (.slice (some ⟨bl, ol, none⟩) ml lc), (.int .i64 (p : Int)), (.pointer (some ⟨bl, ol + p * 4, none⟩)), y16, y17, (.int .i64 (p : Int)), y19, y20, y21, y22, y23, y24], defers := [] } W.drew := by
    refine wpAnyIn_ready (rs := [0, 4, 5]) (by kernel_rfl) (by simp) ?_
    refine AllReadyIn.cons eop0 (fun K hK => ?_) ?_
    · go_simp
      exact hK _ _ s0_1_2_3_6
    refine AllReadyIn.cons eop4 (fun K hK => ?_) ?_
    · go_simp
      exact hK _ _ s1_2_3_4_6
    refine AllReadyIn.cons eop5 (fun K hK => ?_) ?_
    · go_simp
      exact hK _ _ s1_2_3_5_6
    exact AllReadyIn.nil
  have s1_2_5_6 : wpAnyIn (F.inRound l) d Try.prog .any eqnOps Q 9 #[false, true, true, false, false, true, true, false, false, false, false, false, false] { tmps := #[y0, y1, y2, .pointer (some ⟨Bo, 0, none⟩), .pointer (some ⟨Ba, 0, none⟩), .pointer (some ⟨Bb, 0, none⟩), y6, .int .i64 (p : Int), y8, y9, y10, y11, y12, (.slice (some ⟨bl, ol, none⟩) ml lc), (.int .i64 (p : Int)), y15, y16, (.slice (some ⟨br, orr, none⟩) ml rc), (.int .i64 (p : Int)), y19, y20, y21, y22, y23, y24], defers := [] } W.drew := by
    refine wpAnyIn_ready (rs := [0, 3, 7]) (by kernel_rfl) (by simp) ?_
    refine AllReadyIn.cons eop0 (fun K hK => ?_) ?_
    · go_simp
      exact hK _ _ s0_1_2_5_6
    refine AllReadyIn.cons eop3 (fun K hK => ?_) ?_
    · go_simp
      exact hK _ _ s1_2_3_5_6
    refine AllReadyIn.cons eop7 (fun K hK => ?_) ?_
    · go_simp
      exact hK _ _ s1_2_5_6_7
    exact AllReadyIn.nil
  have s1_5_6_7 : wpAnyIn (F.inRound l) d Try.prog .any eqnOps Q 9 #[false, true, false, false, false, true, true, true, false, false, false, false, false] { tmps := #[y0, y1, y2, .pointer (some ⟨Bo, 0, none⟩), .pointer (some ⟨Ba, 0, none⟩), .pointer (some ⟨Bb, 0, none⟩), y6, .int .i64 (p : Int), y8, y9, y10, y11, y12, (.slice (some ⟨bl, ol, none⟩) ml lc), y14, y15, y16, (.slice (some ⟨br, orr, none⟩) ml rc), (.int .i64 (p : Int)), (.pointer (some ⟨br, orr + p * 4, none⟩)), y20, y21, y22, y23, y24], defers := [] } W.drew := by
    refine wpAnyIn_ready (rs := [0, 2, 8]) (by kernel_rfl) (by simp) ?_
    refine AllReadyIn.cons eop0 (fun K hK => ?_) ?_
    · go_simp
      exact hK _ _ s0_1_5_6_7
    refine AllReadyIn.cons eop2 (fun K hK => ?_) ?_
    · go_simp
      exact hK _ _ s1_2_5_6_7
    refine AllReadyIn.cons eop8 (fun K hK => ?_) ?_
    · go_simp
      exact hK _ _ s1_5_6_7_8
    exact AllReadyIn.nil
  have s2_5_6_7 : wpAnyIn (F.inRound l) d Try.prog .any eqnOps Q 9 #[false, false, true, false, false, true, true, true, false, false, false, false, false] { tmps := #[y0, y1, y2, .pointer (some ⟨Bo, 0, none⟩), .pointer (some ⟨Ba, 0, none⟩), .pointer (some ⟨Bb, 0, none⟩), y6, .int .i64 (p : Int), y8, y9, y10, y11, y12, y13, (.int .i64 (p : Int)), y15, y16, (.slice (some ⟨br, orr, none⟩) ml rc), (.int .i64 (p : Int)), (.pointer (some ⟨br, orr + p * 4, none⟩)), y20, y21, y22, y23, y24], defers := [] } W.drew := by
    refine wpAnyIn_ready (rs := [0, 1, 8]) (by kernel_rfl) (by simp) ?_
    refine AllReadyIn.cons eop0 (fun K hK => ?_) ?_
    · go_simp
      exact hK _ _ s0_2_5_6_7
    refine AllReadyIn.cons eop1 (fun K hK => ?_) ?_
    · go_simp
      exact hK _ _ s1_2_5_6_7
    refine AllReadyIn.cons eop8 (fun K hK => ?_) ?_
    · go_simp
      exact hK _ _ s2_5_6_7_8
    exact AllReadyIn.nil
  have s5_6_7_8 : wpAnyIn (F.inRound l) d Try.prog .any eqnOps Q 9 #[false, false, false, false, false, true, true, true, true, false, false, false, false] { tmps := #[y0, y1, y2, .pointer (some ⟨Bo, 0, none⟩), .pointer (some ⟨Ba, 0, none⟩), .pointer (some ⟨Bb, 0, none⟩), y6, .int .i64 (p : Int), y8, y9, y10, y11, y12, y13, y14, y15, y16, (.slice (some ⟨br, orr, none⟩) ml rc), (.int .i64 (p : Int)), (.pointer (some ⟨br, orr + p * 4, none⟩)), (tv k2 n2 s2 (.slice a2 m2 c2)), y21, y22, y23, y24], defers := [] } W.drew := by
    refine wpAnyIn_ready (rs := [0, 1, 2]) (by kernel_rfl) (by simp) ?_
    refine AllReadyIn.cons eop0 (fun K hK => ?_) ?_
    · go_simp
      exact hK _ _ s0_5_6_7_8
    refine AllReadyIn.cons eop1 (fun K hK => ?_) ?_
    · go_simp
      exact hK _ _ s1_5_6_7_8
    refine AllReadyIn.cons eop2 (fun K hK => ?_) ?_
    · go_simp
      exact hK _ _ s2_5_6_7_8
    exact AllReadyIn.nil
  have s0_1_2 : wpAnyIn (F.inRound l) d Try.prog .any eqnOps Q 10 #[true, true, true, false, false, false, false, false, false, false, false, false, false] { tmps := #[y0, y1, y2, .pointer (some ⟨Bo, 0, none⟩), .pointer (some ⟨Ba, 0, none⟩), .pointer (some ⟨Bb, 0, none⟩), y6, .int .i64 (p : Int), y8, y9, y10, y11, (.slice va kn vc), (.slice (some ⟨bl, ol, none⟩) ml lc), (.int .i64 (p : Int)), y15, y16, y17, y18, y19, y20, y21, y22, y23, y24], defers := [] } W.drew := by
    refine wpAnyIn_ready (rs := [3, 5, 6]) (by kernel_rfl) (by simp) ?_
    refine AllReadyIn.cons eop3 (fun K hK => ?_) ?_
    · go_simp
      exact hK _ _ s0_1_2_3
    refine AllReadyIn.cons eop5 (fun K hK => ?_) ?_
    · go_simp
      exact hK _ _ s0_1_2_5
    refine AllReadyIn.cons eop6 (fun K hK => ?_) ?_
    · go_simp
      exact hK _ _ s0_1_2_6
    exact AllReadyIn.nil
  have s0_1_5 : wpAnyIn (F.inRound l) d Try.prog .any eqnOps Q 10 #[true, true, false, false, false, true, false, false, false, false, false, false, false] { tmps := #[y0, y1, y2, .pointer (some ⟨Bo, 0, none⟩), .pointer (some ⟨Ba, 0, none⟩), .pointer (some ⟨Bb, 0, none⟩), y6, .int .i64 (p : Int), y8, y9, y10, y11, (.slice va kn vc), (.slice (some ⟨bl, ol, none⟩) ml lc), y14, y15, y16, (.slice (some ⟨br, orr, none⟩) ml rc), y18, y19, y20, y21, y22, y23, y24], defers := [] } W.drew := by
    refine wpAnyIn_ready (rs := [2, 6]) (by kernel_rfl) (by simp) ?_
    refine AllReadyIn.cons eop2 (fun K hK => ?_) ?_
    · go_simp
      exact hK _ _ s0_1_2_5
    refine AllReadyIn.cons eop6 (fun K hK => ?_) ?_
    · go_simp
      exact hK _ _ s0_1_5_6
    exact AllReadyIn.nil
  have s0_1_6 : wpAnyIn (F.inRound l) d Try.prog .any eqnOps Q 10 #[true, true, false, false, false, false, true, false, false, false, false, false, false] { tmps := #[y0, y1, y2, .pointer (some ⟨Bo, 0, none⟩), .pointer (some ⟨Ba, 0, none⟩), .pointer (some ⟨Bb, 0, none⟩), y6, .int .i64 (p : Int), y8, y9, y10, y11, (.slice va kn vc), (.slice (some ⟨bl, ol, none⟩) ml lc), y14, y15, y16, y17, (.int .i64 (p : Int)), y19, y20, y21, y22, y23, y24], defers := [] } W.drew := by
    refine wpAnyIn_ready (rs := [2, 5]) (by kernel_rfl) (by simp) ?_
    refine AllReadyIn.cons eop2 (fun K hK => ?_) ?_
    · go_simp
      exact hK _ _ s0_1_2_6
    refine AllReadyIn.cons eop5 (fun K hK => ?_) ?_
    · go_simp
      exact hK _ _ s0_1_5_6
    exact AllReadyIn.nil
  have s0_2_5 : wpAnyIn (F.inRound l) d Try.prog .any eqnOps Q 10 #[true, false, true, false, false, true, false, false, false, false, false, false, false] { tmps := #[y0, y1, y2, .pointer (some ⟨Bo, 0, none⟩), .pointer (some ⟨Ba, 0, none⟩), .pointer (some ⟨Bb, 0, none⟩), y6, .int .i64 (p : Int), y8, y9, y10, y11, (.slice va kn vc), y13, (.int .i64 (p : Int)), y15, y16, (.slice (some ⟨br, orr, none⟩) ml rc), y18, y19, y20, y21, y22, y23, y24], defers := [] } W.drew := by
    refine wpAnyIn_ready (rs := [1, 6]) (by kernel_rfl) (by simp) ?_
    refine AllReadyIn.cons eop1 (fun K hK => ?_) ?_
    · go_simp
      exact hK _ _ s0_1_2_5
    refine AllReadyIn.cons eop6 (fun K hK => ?_) ?_
    · go_simp
      exact hK _ _ s0_2_5_6
    exact AllReadyIn.nil
  have s0_2_6 : wpAnyIn (F.inRound l) d Try.prog .any eqnOps Q 10 #[true, false, true, false, false, false, true, false, false, false, false, false, false] { tmps := #[y0, y1, y2, .pointer (some ⟨Bo, 0, none⟩), .pointer (some ⟨Ba, 0, none⟩), .pointer (some ⟨Bb, 0, none⟩), y6, .int .i64 (p : Int), y8, y9, y10, y11, (.slice va kn vc), y13, (.int .i64 (p : Int)), y15, y16, y17, (.int .i64 (p : Int)), y19, y20, y21, y22, y23, y24], defers := [] } W.drew := by
    refine wpAnyIn_ready (rs := [1, 5]) (by kernel_rfl) (by simp) ?_
    refine AllReadyIn.cons eop1 (fun K hK => ?_) ?_
    · go_simp
      exact hK _ _ s0_1_2_6
    refine AllReadyIn.cons eop5 (fun K hK => ?_) ?_
    · go_simp
      exact hK _ _ s0_2_5_6
    exact AllReadyIn.nil
  have s0_5_6 : wpAnyIn (F.inRound l) d Try.prog .any eqnOps Q 10 #[true, false, false, false, false, true, true, false, false, false, false, false, false] { tmps := #[y0, y1, y2, .pointer (some ⟨Bo, 0, none⟩), .pointer (some ⟨Ba, 0, none⟩), .pointer (some ⟨Bb, 0, none⟩), y6, .int .i64 (p : Int), y8, y9, y10, y11, (.slice va kn vc), y13, y14, y15, y16, (.slice (some ⟨br, orr, none⟩) ml rc), (.int .i64 (p : Int)), y19, y20, y21, y22, y23, y24], defers := [] } W.drew := by
    refine wpAnyIn_ready (rs := [1, 2, 7]) (by kernel_rfl) (by simp) ?_
    refine AllReadyIn.cons eop1 (fun K hK => ?_) ?_
    · go_simp
      exact hK _ _ s0_1_5_6
    refine AllReadyIn.cons eop2 (fun K hK => ?_) ?_
    · go_simp
      exact hK _ _ s0_2_5_6
    refine AllReadyIn.cons eop7 (fun K hK => ?_) ?_
    · go_simp
      exact hK _ _ s0_5_6_7
    exact AllReadyIn.nil
  have s1_2_3 : wpAnyIn (F.inRound l) d Try.prog .any eqnOps Q 10 #[false, true, true, true, false, false, false, false, false, false, false, false, false] { tmps := #[y0, y1, y2, .pointer (some ⟨Bo, 0, none⟩), .pointer (some ⟨Ba, 0, none⟩), .pointer (some ⟨Bb, 0, none⟩), y6, .int .i64 (p : Int), y8, y9, y10, y11, y12, (.slice (some ⟨bl, ol, none⟩) ml lc), (.int .i64 (p : Int)), (.pointer (some ⟨bl, ol + p * 4, none⟩)), y16, y17, y18, y19, y20, y21, y22, y23, y24], defers := [] } W.drew := by
    refine wpAnyIn_ready (rs := [0, 4, 5, 6]) (by kernel_rfl) (by simp) ?_
    refine AllReadyIn.cons eop0 (fun K hK => ?_) ?_
    · go_simp
      exact hK _ _ s0_1_2_3
    refine AllReadyIn.cons eop4 (fun K hK => ?_) ?_
    · go_simp
      exact hK _ _ s1_2_3_4
    refine AllReadyIn.cons eop5 (fun K hK => ?_) ?_
    · go_simp
      exact hK _ _ s1_2_3_5
    refine AllReadyIn.cons eop6 (fun K hK => ?_) ?_
    · go_simp
      exact hK _ _ s1_2_3_6
    exact AllReadyIn.nil
  have s1_2_5 : wpAnyIn (F.inRound l) d Try.prog .any eqnOps Q 10 #[false, true, true, false, false, true, false, false, false, false, false, false, false] { tmps := #[y0, y1, y2, .pointer (some ⟨Bo, 0, none⟩), .pointer (some ⟨Ba, 0, none⟩), .pointer (some ⟨Bb, 0, none⟩), y6, .int .i64 (p : Int), y8, y9, y10, y11, y12, (.slice (some ⟨bl, ol, none⟩) ml lc), (.int .i64 (p : Int)), y15, y16, (.slice (some ⟨br, orr, none⟩) ml rc), y18, y19, y20, y21, y22, y23, y24], defers := [] } W.drew := by
    refine wpAnyIn_ready (rs := [0, 3, 6]) (by kernel_rfl) (by simp) ?_
    refine AllReadyIn.cons eop0 (fun K hK => ?_) ?_
    · go_simp
      exact hK _ _ s0_1_2_5
    refine AllReadyIn.cons eop3 (fun K hK => ?_) ?_
    · go_simp
      exact hK _ _ s1_2_3_5
    refine AllReadyIn.cons eop6 (fun K hK => ?_) ?_
    · go_simp
      exact hK _ _ s1_2_5_6
    exact AllReadyIn.nil
  have s1_2_6 : wpAnyIn (F.inRound l) d Try.prog .any eqnOps Q 10 #[false, true, true, false, false, false, true, false, false, false, false, false, false] { tmps := #[y0, y1, y2, .pointer (some ⟨Bo, 0, none⟩), .pointer (some ⟨Ba, 0, none⟩), .pointer (some ⟨Bb, 0, none⟩), y6, .int .i64 (p : Int), y8, y9, y10, y11, y12, (.slice (some ⟨bl, ol, none⟩) ml lc), (.int .i64 (p : Int)), y15, y16, y17, (.int .i64 (p : Int)), y19, y20, y21, y22, y23, y24], defers := [] } W.drew := by
    refine wpAnyIn_ready (rs := [0, 3, 5]) (by kernel_rfl) (by simp) ?_
    refine AllReadyIn.cons eop0 (fun K hK => ?_) ?_
    · go_simp
      exact hK _ _ s0_1_2_6
    refine AllReadyIn.cons eop3 (fun K hK => ?_) ?_
    · go_simp
      exact hK _ _ s1_2_3_6
    refine AllReadyIn.cons eop5 (fun K hK => ?_) ?_
    · go_simp
      exact hK _ _ s1_2_5_6
    exact AllReadyIn.nil
  have s1_5_6 : wpAnyIn (F.inRound l) d Try.prog .any eqnOps Q 10 #[false, true, false, false, false, true, true, false, false, false, false, false, false] { tmps := #[y0, y1, y2, .pointer (some ⟨Bo, 0, none⟩), .pointer (some ⟨Ba, 0, none⟩), .pointer (some ⟨Bb, 0, none⟩), y6, .int .i64 (p : Int), y8, y9, y10, y11, y12, (.slice (some ⟨bl, ol, none⟩) ml lc), y14, y15, y16, (.slice (some ⟨br, orr, none⟩) ml rc), (.int .i64 (p : Int)), y19, y20, y21, y22, y23, y24], defers := [] } W.drew := by
    refine wpAnyIn_ready (rs := [0, 2, 7]) (by kernel_rfl) (by simp) ?_
    refine AllReadyIn.cons eop0 (fun K hK => ?_) ?_
    · go_simp
      exact hK _ _ s0_1_5_6
    refine AllReadyIn.cons eop2 (fun K hK => ?_) ?_
    · go_simp
      exact hK _ _ s1_2_5_6
    refine AllReadyIn.cons eop7 (fun K hK => ?_) ?_
    · go_simp
      exact hK _ _ s1_5_6_7
    exact AllReadyIn.nil
  have s2_5_6 : wpAnyIn (F.inRound l) d Try.prog .any eqnOps Q 10 #[false, false, true, false, false, true, true, false, false, false, false, false, false] { tmps := #[y0, y1, y2, .pointer (some ⟨Bo, 0, none⟩), .pointer (some ⟨Ba, 0, none⟩), .pointer (some ⟨Bb, 0, none⟩), y6, .int .i64 (p : Int), y8, y9, y10, y11, y12, y13, (.int .i64 (p : Int)), y15, y16, (.slice (some ⟨br, orr, none⟩) ml rc), (.int .i64 (p : Int)), y19, y20, y21, y22, y23, y24], defers := [] } W.drew := by
    refine wpAnyIn_ready (rs := [0, 1, 7]) (by kernel_rfl) (by simp) ?_
    refine AllReadyIn.cons eop0 (fun K hK => ?_) ?_
    · go_simp
      exact hK _ _ s0_2_5_6
    refine AllReadyIn.cons eop1 (fun K hK => ?_) ?_
    · go_simp
      exact hK _ _ s1_2_5_6
    refine AllReadyIn.cons eop7 (fun K hK => ?_) ?_
    · go_simp
      exact hK _ _ s2_5_6_7
    exact AllReadyIn.nil
  have s5_6_7 : wpAnyIn (F.inRound l) d Try.prog .any eqnOps Q 10 #[false, false, false, false, false, true, true, true, false, false, false, false, false] { tmps := #[y0, y1, y2, .pointer (some ⟨Bo, 0, none⟩), .pointer (some ⟨Ba, 0, none⟩), .pointer (some ⟨Bb, 0, none⟩), y6, .int .i64 (p : Int), y8, y9, y10, y11, y12, y13, y14, y15, y16, (.slice (some ⟨br, orr, none⟩) ml rc), (.int .i64 (p : Int)), (.pointer (some ⟨br, orr + p * 4, none⟩)), y20, y21, y22, y23, y24], defers := [] } W.drew := by
    refine wpAnyIn_ready (rs := [0, 1, 2, 8]) (by kernel_rfl) (by simp) ?_
    refine AllReadyIn.cons eop0 (fun K hK => ?_) ?_
    · go_simp
      exact hK _ _ s0_5_6_7
    refine AllReadyIn.cons eop1 (fun K hK => ?_) ?_
    · go_simp
      exact hK _ _ s1_5_6_7
    refine AllReadyIn.cons eop2 (fun K hK => ?_) ?_
    · go_simp
      exact hK _ _ s2_5_6_7
    refine AllReadyIn.cons eop8 (fun K hK => ?_) ?_
    · go_simp
      exact hK _ _ s5_6_7_8
    exact AllReadyIn.nil
  have s0_1 : wpAnyIn (F.inRound l) d Try.prog .any eqnOps Q 11 #[true, true, false, false, false, false, false, false, false, false, false, false, false] { tmps := #[y0, y1, y2, .pointer (some ⟨Bo, 0, none⟩), .pointer (some ⟨Ba, 0, none⟩), .pointer (some ⟨Bb, 0, none⟩), y6, .int .i64 (p : Int), y8, y9, y10, y11, (.slice va kn vc), (.slice (some ⟨bl, ol, none⟩) ml lc), y14, y15, y16, y17, y18, y19, y20, y21, y22, y23, y24], defers := [] } W.drew := by
    refine wpAnyIn_ready (rs := [2, 5, 6]) (by kernel_rfl) (by simp) ?_
    refine AllReadyIn.cons eop2 (fun K hK => ?_) ?_
    · go_simp
      exact hK _ _ s0_1_2
    refine AllReadyIn.cons eop5 (fun K hK => ?_) ?_
    · go_simp
      exact hK _ _ s0_1_5
    refine AllReadyIn.cons eop6 (fun K hK => ?_) ?_
    · go_simp
      exact hK _ _ s0_1_6
    exact AllReadyIn.nil
  have s0_2 : wpAnyIn (F.inRound l) d Try.prog .any eqnOps Q 11 #[true, false, true, false, false, false, false, false, false, false, false, false, false] { tmps := #[y0, y1, y2, .pointer (some ⟨Bo, 0, none⟩), .pointer (some ⟨Ba, 0, none⟩), .pointer (some ⟨Bb, 0, none⟩), y6, .int .i64 (p : Int), y8, y9, y10, y11, (.slice va kn vc), y13, (.int .i64 (p : Int)), y15, y16, y17, y18, y19, y20, y21, y22, y23, y24], defers := [] } W.drew := by
    refine wpAnyIn_ready (rs := [1, 5, 6]) (by kernel_rfl) (by simp) ?_
    refine AllReadyIn.cons eop1 (fun K hK => ?_) ?_
    · go_simp
      exact hK _ _ s0_1_2
    refine AllReadyIn.cons eop5 (fun K hK => ?_) ?_
    · go_simp
      exact hK _ _ s0_2_5
    refine AllReadyIn.cons eop6 (fun K hK => ?_) ?_
    · go_simp
      exact hK _ _ s0_2_6
    exact AllReadyIn.nil
  have s0_5 : wpAnyIn (F.inRound l) d Try.prog .any eqnOps Q 11 #[true, false, false, false, false, true, false, false, false, false, false, false, false] { tmps := #[y0, y1, y2, .pointer (some ⟨Bo, 0, none⟩), .pointer (some ⟨Ba, 0, none⟩), .pointer (some ⟨Bb, 0, none⟩), y6, .int .i64 (p : Int), y8, y9, y10, y11, (.slice va kn vc), y13, y14, y15, y16, (.slice (some ⟨br, orr, none⟩) ml rc), y18, y19, y20, y21, y22, y23, y24], defers := [] } W.drew := by
    refine wpAnyIn_ready (rs := [1, 2, 6]) (by kernel_rfl) (by simp) ?_
    refine AllReadyIn.cons eop1 (fun K hK => ?_) ?_
    · go_simp
      exact hK _ _ s0_1_5
    refine AllReadyIn.cons eop2 (fun K hK => ?_) ?_
    · go_simp
      exact hK _ _ s0_2_5
    refine AllReadyIn.cons eop6 (fun K hK => ?_) ?_
    · go_simp
      exact hK _ _ s0_5_6
    exact AllReadyIn.nil
  have s0_6 : wpAnyIn (F.inRound l) d Try.prog .any eqnOps Q 11 #[true, false, false, false, false, false, true, false, false, false, false, false, false] { tmps := #[y0, y1, y2, .pointer (some ⟨Bo, 0, none⟩), .pointer (some ⟨Ba, 0, none⟩), .pointer (some ⟨Bb, 0, none⟩), y6, .int .i64 (p : Int), y8, y9, y10, y11, (.slice va kn vc), y13, y14, y15, y16, y17, (.int .i64 (p : Int)), y19, y20, y21, y22, y23, y24], defers := [] } W.drew := by
    refine wpAnyIn_ready (rs := [1, 2, 5]) (by kernel_rfl) (by simp) ?_
    refine AllReadyIn.cons eop1 (fun K hK => ?_) ?_
    · go_simp
      exact hK _ _ s0_1_6
    refine AllReadyIn.cons eop2 (fun K hK => ?_) ?_
    · go_simp
      exact hK _ _ s0_2_6
    refine AllReadyIn.cons eop5 (fun K hK => ?_) ?_
    · go_simp
      exact hK _ _ s0_5_6
    exact AllReadyIn.nil
  have s1_2 : wpAnyIn (F.inRound l) d Try.prog .any eqnOps Q 11 #[false, true, true, false, false, false, false, false, false, false, false, false, false] { tmps := #[y0, y1, y2, .pointer (some ⟨Bo, 0, none⟩), .pointer (some ⟨Ba, 0, none⟩), .pointer (some ⟨Bb, 0, none⟩), y6, .int .i64 (p : Int), y8, y9, y10, y11, y12, (.slice (some ⟨bl, ol, none⟩) ml lc), (.int .i64 (p : Int)), y15, y16, y17, y18, y19, y20, y21, y22, y23, y24], defers := [] } W.drew := by
    refine wpAnyIn_ready (rs := [0, 3, 5, 6]) (by kernel_rfl) (by simp) ?_
    refine AllReadyIn.cons eop0 (fun K hK => ?_) ?_
    · go_simp
      exact hK _ _ s0_1_2
    refine AllReadyIn.cons eop3 (fun K hK => ?_) ?_
    · go_simp
      exact hK _ _ s1_2_3
    refine AllReadyIn.cons eop5 (fun K hK => ?_) ?_
    · go_simp
      exact hK _ _ s1_2_5
    refine AllReadyIn.cons eop6 (fun K hK => ?_) ?_
    · go_simp
      exact hK _ _ s1_2_6
    exact AllReadyIn.nil
  have s1_5 : wpAnyIn (F.inRound l) d Try.prog .any eqnOps Q 11 #[false, true, false, false, false, true, false, false, false, false, false, false, false] { tmps := #[y0, y1, y2, .pointer (some ⟨Bo, 0, none⟩), .pointer (some ⟨Ba, 0, none⟩), .pointer (some ⟨Bb, 0, none⟩), y6, .int .i64 (p : Int), y8, y9, y10, y11, y12, (.slice (some ⟨bl, ol, none⟩) ml lc), y14, y15, y16, (.slice (some ⟨br, orr, none⟩) ml rc), y18, y19, y20, y21, y22, y23, y24], defers := [] } W.drew := by
    refine wpAnyIn_ready (rs := [0, 2, 6]) (by kernel_rfl) (by simp) ?_
    refine AllReadyIn.cons eop0 (fun K hK => ?_) ?_
    · go_simp
      exact hK _ _ s0_1_5
    refine AllReadyIn.cons eop2 (fun K hK => ?_) ?_
    · go_simp
      exact hK _ _ s1_2_5
    refine AllReadyIn.cons eop6 (fun K hK => ?_) ?_
    · go_simp
      exact hK _ _ s1_5_6
    exact AllReadyIn.nil
  have s1_6 : wpAnyIn (F.inRound l) d Try.prog .any eqnOps Q 11 #[false, true, false, false, false, false, true, false, false, false, false, false, false] { tmps := #[y0, y1, y2, .pointer (some ⟨Bo, 0, none⟩), .pointer (some ⟨Ba, 0, none⟩), .pointer (some ⟨Bb, 0, none⟩), y6, .int .i64 (p : Int), y8, y9, y10, y11, y12, (.slice (some ⟨bl, ol, none⟩) ml lc), y14, y15, y16, y17, (.int .i64 (p : Int)), y19, y20, y21, y22, y23, y24], defers := [] } W.drew := by
    refine wpAnyIn_ready (rs := [0, 2, 5]) (by kernel_rfl) (by simp) ?_
    refine AllReadyIn.cons eop0 (fun K hK => ?_) ?_
    · go_simp
      exact hK _ _ s0_1_6
    refine AllReadyIn.cons eop2 (fun K hK => ?_) ?_
    · go_simp
      exact hK _ _ s1_2_6
    refine AllReadyIn.cons eop5 (fun K hK => ?_) ?_
    · go_simp
      exact hK _ _ s1_5_6
    exact AllReadyIn.nil
  have s2_5 : wpAnyIn (F.inRound l) d Try.prog .any eqnOps Q 11 #[false, false, true, false, false, true, false, false, false, false, false, false, false] { tmps := #[y0, y1, y2, .pointer (some ⟨Bo, 0, none⟩), .pointer (some ⟨Ba, 0, none⟩), .pointer (some ⟨Bb, 0, none⟩), y6, .int .i64 (p : Int), y8, y9, y10, y11, y12, y13, (.int .i64 (p : Int)), y15, y16, (.slice (some ⟨br, orr, none⟩) ml rc), y18, y19, y20, y21, y22, y23, y24], defers := [] } W.drew := by
    refine wpAnyIn_ready (rs := [0, 1, 6]) (by kernel_rfl) (by simp) ?_
    refine AllReadyIn.cons eop0 (fun K hK => ?_) ?_
    · go_simp
      exact hK _ _ s0_2_5
    refine AllReadyIn.cons eop1 (fun K hK => ?_) ?_
    · go_simp
      exact hK _ _ s1_2_5
    refine AllReadyIn.cons eop6 (fun K hK => ?_) ?_
    · go_simp
      exact hK _ _ s2_5_6
    exact AllReadyIn.nil
  have s2_6 : wpAnyIn (F.inRound l) d Try.prog .any eqnOps Q 11 #[false, false, true, false, false, false, true, false, false, false, false, false, false] { tmps := #[y0, y1, y2, .pointer (some ⟨Bo, 0, none⟩), .pointer (some ⟨Ba, 0, none⟩), .pointer (some ⟨Bb, 0, none⟩), y6, .int .i64 (p : Int), y8, y9, y10, y11, y12, y13, (.int .i64 (p : Int)), y15, y16, y17, (.int .i64 (p : Int)), y19, y20, y21, y22, y23, y24], defers := [] } W.drew := by
    refine wpAnyIn_ready (rs := [0, 1, 5]) (by kernel_rfl) (by simp) ?_
    refine AllReadyIn.cons eop0 (fun K hK => ?_) ?_
    · go_simp
      exact hK _ _ s0_2_6
    refine AllReadyIn.cons eop1 (fun K hK => ?_) ?_
    · go_simp
      exact hK _ _ s1_2_6
    refine AllReadyIn.cons eop5 (fun K hK => ?_) ?_
    · go_simp
      exact hK _ _ s2_5_6
    exact AllReadyIn.nil
  have s5_6 : wpAnyIn (F.inRound l) d Try.prog .any eqnOps Q 11 #[false, false, false, false, false, true, true, false, false, false, false, false, false] { tmps := #[y0, y1, y2, .pointer (some ⟨Bo, 0, none⟩), .pointer (some ⟨Ba, 0, none⟩), .pointer (some ⟨Bb, 0, none⟩), y6, .int .i64 (p : Int), y8, y9, y10, y11, y12, y13, y14, y15, y16, (.slice (some ⟨br, orr, none⟩) ml rc), (.int .i64 (p : Int)), y19, y20, y21, y22, y23, y24], defers := [] } W.drew := by
    refine wpAnyIn_ready (rs := [0, 1, 2, 7]) (by kernel_rfl) (by simp) ?_
    refine AllReadyIn.cons eop0 (fun K hK => ?_) ?_
    · go_simp
      exact hK _ _ s0_5_6
    refine AllReadyIn.cons eop1 (fun K hK => ?_) ?_
    · go_simp
      exact hK _ _ s1_5_6
    refine AllReadyIn.cons eop2 (fun K hK => ?_) ?_
    · go_simp
      exact hK _ _ s2_5_6
    refine AllReadyIn.cons eop7 (fun K hK => ?_) ?_
    · go_simp
      exact hK _ _ s5_6_7
    exact AllReadyIn.nil
  have s0 : wpAnyIn (F.inRound l) d Try.prog .any eqnOps Q 12 #[true, false, false, false, false, false, false, false, false, false, false, false, false] { tmps := #[y0, y1, y2, .pointer (some ⟨Bo, 0, none⟩), .pointer (some ⟨Ba, 0, none⟩), .pointer (some ⟨Bb, 0, none⟩), y6, .int .i64 (p : Int), y8, y9, y10, y11, (.slice va kn vc), y13, y14, y15, y16, y17, y18, y19, y20, y21, y22, y23, y24], defers := [] } W.drew := by
    refine wpAnyIn_ready (rs := [1, 2, 5, 6]) (by kernel_rfl) (by simp) ?_
    refine AllReadyIn.cons eop1 (fun K hK => ?_) ?_
    · go_simp
      exact hK _ _ s0_1
    refine AllReadyIn.cons eop2 (fun K hK => ?_) ?_
    · go_simp
      exact hK _ _ s0_2
    refine AllReadyIn.cons eop5 (fun K hK => ?_) ?_
    · go_simp
      exact hK _ _ s0_5
    refine AllReadyIn.cons eop6 (fun K hK => ?_) ?_
    · go_simp
      exact hK _ _ s0_6
    exact AllReadyIn.nil
  have s1 : wpAnyIn (F.inRound l) d Try.prog .any eqnOps Q 12 #[false, true, false, false, false, false, false, false, false, false, false, false, false] { tmps := #[y0, y1, y2, .pointer (some ⟨Bo, 0, none⟩), .pointer (some ⟨Ba, 0, none⟩), .pointer (some ⟨Bb, 0, none⟩), y6, .int .i64 (p : Int), y8, y9, y10, y11, y12, (.slice (some ⟨bl, ol, none⟩) ml lc), y14, y15, y16, y17, y18, y19, y20, y21, y22, y23, y24], defers := [] } W.drew := by
    refine wpAnyIn_ready (rs := [0, 2, 5, 6]) (by kernel_rfl) (by simp) ?_
    refine AllReadyIn.cons eop0 (fun K hK => ?_) ?_
    · go_simp
      exact hK _ _ s0_1
    refine AllReadyIn.cons eop2 (fun K hK => ?_) ?_
    · go_simp
      exact hK _ _ s1_2
    refine AllReadyIn.cons eop5 (fun K hK => ?_) ?_
    · go_simp
      exact hK _ _ s1_5
    refine AllReadyIn.cons eop6 (fun K hK => ?_) ?_
    · go_simp
      exact hK _ _ s1_6
    exact AllReadyIn.nil
  have s2 : wpAnyIn (F.inRound l) d Try.prog .any eqnOps Q 12 #[false, false, true, false, false, false, false, false, false, false, false, false, false] { tmps := #[y0, y1, y2, .pointer (some ⟨Bo, 0, none⟩), .pointer (some ⟨Ba, 0, none⟩), .pointer (some ⟨Bb, 0, none⟩), y6, .int .i64 (p : Int), y8, y9, y10, y11, y12, y13, (.int .i64 (p : Int)), y15, y16, y17, y18, y19, y20, y21, y22, y23, y24], defers := [] } W.drew := by
    refine wpAnyIn_ready (rs := [0, 1, 5, 6]) (by kernel_rfl) (by simp) ?_
    refine AllReadyIn.cons eop0 (fun K hK => ?_) ?_
    · go_simp
      exact hK _ _ s0_2
    refine AllReadyIn.cons eop1 (fun K hK => ?_) ?_
    · go_simp
      exact hK _ _ s1_2
    refine AllReadyIn.cons eop5 (fun K hK => ?_) ?_
    · go_simp
      exact hK _ _ s2_5
    refine AllReadyIn.cons eop6 (fun K hK => ?_) ?_
    · go_simp
      exact hK _ _ s2_6
    exact AllReadyIn.nil
  have s5 : wpAnyIn (F.inRound l) d Try.prog .any eqnOps Q 12 #[false, false, false, false, false, true, false, false, false, false, false, false, false] { tmps := #[y0, y1, y2, .pointer (some ⟨Bo, 0, none⟩), .pointer (some ⟨Ba, 0, none⟩), .pointer (some ⟨Bb, 0, none⟩), y6, .int .i64 (p : Int), y8, y9, y10, y11, y12, y13, y14, y15, y16, (.slice (some ⟨br, orr, none⟩) ml rc), y18, y19, y20, y21, y22, y23, y24], defers := [] } W.drew := by
    refine wpAnyIn_ready (rs := [0, 1, 2, 6]) (by kernel_rfl) (by simp) ?_
    refine AllReadyIn.cons eop0 (fun K hK => ?_) ?_
    · go_simp
      exact hK _ _ s0_5
    refine AllReadyIn.cons eop1 (fun K hK => ?_) ?_
    · go_simp
      exact hK _ _ s1_5
    refine AllReadyIn.cons eop2 (fun K hK => ?_) ?_
    · go_simp
      exact hK _ _ s2_5
    refine AllReadyIn.cons eop6 (fun K hK => ?_) ?_
    · go_simp
      exact hK _ _ s5_6
    exact AllReadyIn.nil
  have s6 : wpAnyIn (F.inRound l) d Try.prog .any eqnOps Q 12 #[false, false, false, false, false, false, true, false, false, false, false, false, false] { tmps := #[y0, y1, y2, .pointer (some ⟨Bo, 0, none⟩), .pointer (some ⟨Ba, 0, none⟩), .pointer (some ⟨Bb, 0, none⟩), y6, .int .i64 (p : Int), y8, y9, y10, y11, y12, y13, y14, y15, y16, y17, (.int .i64 (p : Int)), y19, y20, y21, y22, y23, y24], defers := [] } W.drew := by
    refine wpAnyIn_ready (rs := [0, 1, 2, 5]) (by kernel_rfl) (by simp) ?_
    refine AllReadyIn.cons eop0 (fun K hK => ?_) ?_
    · go_simp
      exact hK _ _ s0_6
    refine AllReadyIn.cons eop1 (fun K hK => ?_) ?_
    · go_simp
      exact hK _ _ s1_6
    refine AllReadyIn.cons eop2 (fun K hK => ?_) ?_
    · go_simp
      exact hK _ _ s2_6
    refine AllReadyIn.cons eop5 (fun K hK => ?_) ?_
    · go_simp
      exact hK _ _ s5_6
    exact AllReadyIn.nil
  refine wpIn_region_any (by kernel_rfl) ?_
  change wpAnyIn (F.inRound l) d Try.prog .any eqnOps Q 13 #[false, false, false, false, false, false, false, false, false, false, false, false, false] { tmps := #[y0, y1, y2, .pointer (some ⟨Bo, 0, none⟩), .pointer (some ⟨Ba, 0, none⟩), .pointer (some ⟨Bb, 0, none⟩), y6, .int .i64 (p : Int), y8, y9, y10, y11, y12, y13, y14, y15, y16, y17, y18, y19, y20, y21, y22, y23, y24], defers := [] } W.drew
  refine wpAnyIn_ready (rs := [0, 1, 2, 5, 6]) (by kernel_rfl) (by simp) ?_
  refine AllReadyIn.cons eop0 (fun K hK => ?_) ?_
  · go_simp
    exact hK _ _ s0
  refine AllReadyIn.cons eop1 (fun K hK => ?_) ?_
  · go_simp
    exact hK _ _ s1
  refine AllReadyIn.cons eop2 (fun K hK => ?_) ?_
  · go_simp
    exact hK _ _ s2
  refine AllReadyIn.cons eop5 (fun K hK => ?_) ?_
  · go_simp
    exact hK _ _ s5
  refine AllReadyIn.cons eop6 (fun K hK => ?_) ?_
  · go_simp
    exact hK _ _ s6
  exact AllReadyIn.nil
end Go.Proofs.Yteelakhaaipebaa
