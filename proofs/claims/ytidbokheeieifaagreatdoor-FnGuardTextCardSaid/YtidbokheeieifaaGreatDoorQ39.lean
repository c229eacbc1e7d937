/-
  The statement 'list = append(list, t)' inside a round: in whatever order its operations come, the list owns the struct behind what it held.
-/
import Derived.Test.YtidbokheeieifaaGreatDoorQ38
import Derived.OrdersIn
namespace Go.Proofs.YtidbokheeieifaaGreatDoor
open Go.RowKit Go.Shelf

attribute [local go_sem] Oper.semAt_some

/-- The operations of the statement. -/
noncomputable def bodyOps : Array Oper := match Tryz.f82.body with
  | some (.seq _ (.seq (.seq _ (.block _ (.rangeFunc _ _ _ (.block _ (.region _ ops _))))) _)) => ops
  | _ => #[]

theorem bop0 : bodyOps[0]? = some { dst := some 11, op := Op.load 24 (Operand.tmp 2), type := 24, pos := "l03_term.go:145", after := #[], guard := none } := by kernel_rfl
theorem bop1 : bodyOps[1]? = some { dst := some 12, op := Op.load 26 (Operand.tmp 6), type := 26, pos := "l03_term.go:145", after := #[], guard := none } := by kernel_rfl
theorem bop2 : bodyOps[2]? = some { dst := some 13, op := Op.call { callee := Callee.builtin Builtin.len, args := #[Operand.tmp 11], argTypes := #[24] }, type := 3, pos := "l03_term.go:145", after := #[{ on := 0, ground := Ground.data }], guard := none } := by kernel_rfl
theorem bop3 : bodyOps[3]? = some { dst := some 14, op := Op.buildSlice 24 1 #[(0, Operand.const (Value.agg #[Value.int IntKind.i64 0, Value.int IntKind.i64 0, Value.string { data := #[] }, Value.slice none 0 0]))], type := 24, pos := "l03_term.go:145", after := #[], guard := none } := by kernel_rfl
theorem bop4 : bodyOps[4]? = some { dst := some 15, op := Op.call { callee := Callee.builtin Builtin.append, args := #[Operand.tmp 11, Operand.tmp 14], argTypes := #[24, 24] }, type := 24, pos := "l03_term.go:145", after := #[{ on := 0, ground := Ground.data }, { on := 3, ground := Ground.data }, { on := 0, ground := Ground.phase }, { on := 1, ground := Ground.phase }, { on := 2, ground := Ground.phase }, { on := 3, ground := Ground.phase }], guard := none } := by kernel_rfl
theorem bop5 : bodyOps[5]? = some { dst := some 16, op := Op.indexAddr 24 (Operand.tmp 15) (Operand.tmp 13), type := 0, pos := "l03_term.go:145", after := #[{ on := 4, ground := Ground.data }, { on := 2, ground := Ground.data }, { on := 0, ground := Ground.phase }, { on := 1, ground := Ground.phase }, { on := 2, ground := Ground.phase }, { on := 3, ground := Ground.phase }, { on := 4, ground := Ground.phase }, { on := 7, ground := Ground.gcOnly Departure.appendInPlace }], guard := none } := by kernel_rfl
theorem bop6 : bodyOps[6]? = some { dst := none, op := Op.store 26 (Operand.tmp 16) (Operand.tmp 12), type := 0, pos := "l03_term.go:145", after := #[{ on := 5, ground := Ground.data }, { on := 1, ground := Ground.data }, { on := 4, ground := Ground.chain }, { on := 0, ground := Ground.phase }, { on := 1, ground := Ground.phase }, { on := 2, ground := Ground.phase }, { on := 3, ground := Ground.phase }, { on := 4, ground := Ground.phase }, { on := 7, ground := Ground.gcOnly Departure.appendInPlace }], guard := none } := by kernel_rfl
theorem bop7 : bodyOps[7]? = some { dst := none, op := Op.store 24 (Operand.tmp 2) (Operand.tmp 15), type := 0, pos := "l03_term.go:145", after := #[{ on := 4, ground := Ground.data }, { on := 4, ground := Ground.chain }, { on := 6, ground := Ground.textOnly Departure.appendInPlace }, { on := 0, ground := Ground.phase }, { on := 1, ground := Ground.phase }, { on := 2, ground := Ground.phase }, { on := 3, ground := Ground.phase }, { on := 4, ground := Ground.phase }, { on := 5, ground := Ground.textOnly Departure.appendInPlace }, { on := 6, ground := Ground.textOnly Departure.appendInPlace }], guard := none } := by kernel_rfl

theorem infoTermB : (Tryz.prog.info? 26).map (fun i => (i.zero, i.size, i.bytes)) = some (some (.agg #[.int .i64 0, .int .i64 0, .string ByteArray.empty, .slice none 0 0]), 4, 56) := by kernel_rfl

/-- The builtin's step, once its run is known. -/
theorem stepIn_app {F : Fence} {n : Nat} {P : Program} {ops : Array Oper} {o : Oper} {a : Act} {w : World} {K : Act → World → Prop} {Q : Exit → Act → World → Prop} {E : Prop} (hg : o.guard = none) (s x : Operand) (t : TypeId)
    (hop : o.op = Op.call { callee := Callee.builtin Builtin.append, args := #[s, x], argTypes := #[t, t] }) (v : Value) (w1 : World)
    (hrun : (Builtin.append_ #[t, t] o.type #[a.eval s, a.eval x]).run P w = .ok v w1) (hK : K (a.put o.dst v) w1) : if Region.wanted o (yielded ops a.tmps) = true then Oper.wpIn F n P o a w K Q else E := by
  have hw : Region.wanted o (yielded ops a.tmps) = true := by simp [Region.wanted, hg]
  rw [if_pos hw]
  unfold Oper.wpIn
  refine ⟨?_, ?_⟩
  · simp [Oper.about, hop, resolve, Target.leads, Sem.run_pure]
  · rw [Oper.semAt_plain F _ _ (by rw [hop]; intro c hc'; cases hc')]
    simp [execOp, hop, resolve, invoke, builtin, hrun, Result.andThen]
    exact hK

/-- What the statement leaves. -/
def AppFin (B Bl kn : Nat) (va : Option Addr) (vc : Nat) (xs : List Value) (k n : Int) (s : ByteArray) (a : Option Addr) (m c : Nat) (W W' : World) : Prop :=
  ∃ v', (Boxed W' Bl 24 v' ∧ W'.ownsRow B 26 4 v' (kn + 1) (xs ++ [.int .i64 k, .int .i64 n, .string s, .slice a m c])) ∧ KeepsOthers W W' ∧ Below B W W' ∧
    (∀ j, j < W.heap.size → j ≠ Bl → some j ≠ (Value.slice va kn vc).ownBlock → W'.heap[j]? = W.heap[j]?) ∧ (v'.ownBlock = (Value.slice va kn vc).ownBlock ∨ ∃ j, v'.ownBlock = some j ∧ W.heap.size ≤ j)

/-- A new block's cells, as they are appended. -/
theorem news4 (w : World) (x0 x1 x2 x3 : Value) (t : TypeId) {n : Nat} (h : n = w.heap.size) : ∀ (j : Nat) (u : Value), [x0, x1, x2, x3][j]? = some u → (w.alloc (.cells #[x0, x1, x2, x3] t)).cell? (Addr.add ⟨n, 0, none⟩ j) = some u := by
  subst h
  intro j u hj
  have e := fun j => World.cell?_alloc_mark w #[x0, x1, x2, x3] t (0, 0) j
  match j, hj with
  | 0, hj => simp at hj; subst hj; exact e 0
  | 1, hj => simp at hj; subst hj; exact e 1
  | 2, hj => simp at hj; subst hj; exact e 2
  | 3, hj => simp at hj; subst hj; exact e 3
  | j + 4, hj => simp at hj

theorem setCell_size (w : World) (ad : Addr) (v : Value) : (w.setCell ad v).heap.size = w.heap.size := by simp [World.setCell]
/-- The struct stored into the row's last place. -/
abbrev rowed (w : World) (g kn : Nat) (k n : Int) (s : ByteArray) (a : Option Addr) (m c : Nat) : World := (((w.setCell ⟨g, kn * 4, none⟩ (.int .i64 k)).setCell ⟨g, kn * 4 + 1, none⟩ (.int .i64 n)).setCell ⟨g, kn * 4 + 2, none⟩ (.string s)).setCell ⟨g, kn * 4 + 3, none⟩ (.slice a m c)
theorem rowed_size (w : World) (g kn : Nat) (k n : Int) (s : ByteArray) (a : Option Addr) (m c : Nat) : (rowed w g kn k n s a m c).heap.size = w.heap.size := by simp [World.setCell]
theorem rowed_heap (w : World) (g kn : Nat) (k n : Int) (s : ByteArray) (a : Option Addr) (m c : Nat) {j : Nat} (h : j ≠ g) : (rowed w g kn k n s a m c).heap[j]? = w.heap[j]? := by
  unfold rowed
  rw [Below.heap_setCell _ _ _ _ (by exact h), Below.heap_setCell _ _ _ _ (by exact h), Below.heap_setCell _ _ _ _ (by exact h), Below.heap_setCell _ _ _ _ (by exact h)]
theorem rowed_owns {w : World} {B g kn cap : Nat} {xs : List Value} {z0 z1 z2 z3 : Value} (k n : Int) (s : ByteArray) (a : Option Addr) (m c : Nat) (hx : xs.length = kn * 4)
    (ho : w.ownsRow B 26 4 (.slice (some ⟨g, 0, none⟩) (kn + 1) cap) (kn + 1) (xs ++ [z0, z1, z2, z3])) :
    (rowed w g kn k n s a m c).ownsRow B 26 4 (.slice (some ⟨g, 0, none⟩) (kn + 1) cap) (kn + 1) (xs ++ [.int .i64 k, .int .i64 n, .string s, .slice a m c]) := by
  have o1 := (ho.stored (kn * 4) (.int .i64 k)).1
  have o2 := (o1.stored (kn * 4 + 1) (.int .i64 n)).1
  have o3 := (o2.stored (kn * 4 + 2) (.string s)).1
  have o4 := (o3.stored (kn * 4 + 3) (.slice a m c)).1
  have e : ((((xs ++ [z0, z1, z2, z3]).set (kn * 4) (.int .i64 k)).set (kn * 4 + 1) (.int .i64 n)).set (kn * 4 + 2) (.string s)).set (kn * 4 + 3) (.slice a m c) = xs ++ [.int .i64 k, .int .i64 n, .string s, .slice a m c] := by
    rw [← hx]
    simp [List.set_append]
  rw [e] at o4
  exact o4
theorem boxed_rowed {w : World} {Bl g kn : Nat} {t : TypeId} {v : Value} (k n : Int) (s : ByteArray) (a : Option Addr) (m c : Nat) (hne : Bl ≠ g) (h : Boxed w Bl t v) : Boxed (rowed w g kn k n s a m c) Bl t v := (rowed_heap w g kn k n s a m c hne).trans h

set_option maxRecDepth 100000 in
set_option maxHeartbeats 8000000 in
theorem app_region (F : Fence) (l d : Nat) (Q : Exit → Act → World → Prop) (y0 y1 y3 y4 y5 y7 y8 y9 y10 : Value) (Bl Bx B : Nat) (va : Option Addr) (kn vc : Nat) (xs : List Value) (k n : Int) (s : ByteArray) (a : Option Addr) (m c : Nat) (W : World)
    (hbl : Boxed W Bl 24 (.slice va kn vc)) (hbx : W.heap[Bx]? = some (.cells #[.int .i64 k, .int .i64 n, .string s, .slice a m c] 26 (0, 0))) (hown : W.ownsRow B 26 4 (.slice va kn vc) kn xs)
    (hB : B ≤ Bl) (hkn : kn ≤ 4294967296) (hQ : ∀ a' W', AppFin B Bl kn va vc xs k n s a m c W W' → Q .normal a' W') :
    (Code.region 3 bodyOps true).wpIn (F.inRound l) d Tryz.prog Q { tmps := #[y0, y1, .pointer (some ⟨Bl, 0, none⟩), y3, y4, y5, .pointer (some ⟨Bx, 0, none⟩), y7, y8, y9, y10, undef, undef, undef, undef, undef, undef, undef], defers := [] } W := by
  obtain ⟨i0, hi, hz0, hz1, hz2⟩ := info_parts infoTermB
  have hltB := hbl.lt
  have hltX : Bx < W.heap.size := (Array.getElem?_eq_some_iff.1 hbx).1
  -- the append, ahead of the region
  have hblA : Boxed ((W.alloc (.cells #[.int .i64 0, .int .i64 0, .string ⟨#[]⟩, .slice none 0 0] 26)).drew) Bl 24 (.slice va kn vc) := Boxed.alloc hbl _
  have hrA : World.ownsRow ((W.alloc (.cells #[.int .i64 0, .int .i64 0, .string ⟨#[]⟩, .slice none 0 0] 26)).drew) B 26 4 (.slice va kn vc) kn xs := hown.alloc _
  obtain ⟨v', w1, hrun, hown', hgrow, _, hblk⟩ := run_append_own_at (P := Tryz.prog) ((W.alloc (.cells #[.int .i64 0, .int .i64 0, .string ⟨#[]⟩, .slice none 0 0] 26)).drew) B 24 24 26 i0 (.agg #[.int .i64 0, .int .i64 0, .string ByteArray.empty, .slice none 0 0]) 4 56 Tryz.underlying24 hi hz0 hz1 hz2 rfl (by decide) _ _ _ hrA ⟨W.heap.size, 0, none⟩ 1 1 [.int .i64 0, .int .i64 0, .string ⟨#[]⟩, .slice none 0 0] rfl (news4 W _ _ _ _ _ rfl) (by simp [Value.oneCell']) (by unfold maxLen; omega) (by omega) (Nat.le_trans (by omega : B ≤ W.heap.size) (by simp))
  obtain ⟨g, cap, rfl⟩ : ∃ g cap, v' = .slice (some ⟨g, 0, none⟩) (kn + 1) cap := by
    rcases hown'.2 with ⟨_, h0⟩ | ⟨g, cap, cur, rfl, _⟩
    · omega
    · exact ⟨g, cap, rfl⟩
  have hxl : xs.length = kn * 4 := hown.1
  have hblN := hblA.not_row (by decide) hrA
  have hb1 : Boxed w1 Bl 24 (.slice va kn vc) := hblA.kept hgrow hblN
  have hne : Bl ≠ g := by
    have := hb1.not_row (by decide) hown'
    intro e; exact this (by rw [e]; rfl)
  have hgt : g < w1.heap.size := (hown'.lt g rfl).2
  have hsz1 := hgrow.size
  have hszA : (World.heap ((W.alloc (.cells #[.int .i64 0, .int .i64 0, .string ⟨#[]⟩, .slice none 0 0] 26)).drew)).size = W.heap.size + 1 := by simp
  have hnew : ∀ j, j < W.heap.size → some j ≠ (Value.slice va kn vc).ownBlock → j ≠ g := by
    intro j hj hv e
    subst e
    rcases hblk with h | h
    · exact hv h
    · have : j = (World.heap ((W.alloc (.cells #[.int .i64 0, .int .i64 0, .string ⟨#[]⟩, .slice none 0 0] 26)).drew)).size := by simpa [Value.ownBlock] using h
      omega
  have hold : ∀ j, j < W.heap.size → some j ≠ (Value.slice va kn vc).ownBlock → w1.heap[j]? = W.heap[j]? := fun j hj hv =>
    (hgrow.block j (by omega) hv).trans (Below.heap_alloc W _ j hj)
  have hcells : ∀ (j : Nat) (o : Obj), W.heap[j]? = some o → o.isCells = false → some j ≠ (Value.slice va kn vc).ownBlock ∧ j ≠ Bl := by
    intro j o hj ho
    constructor
    · intro e
      rcases hown.2 with h | ⟨g', cap', cur', h, _, hc, _⟩
      · rw [h.1] at e; cases e
      · rw [h] at e; cases e
        rw [hc] at hj; cases hj; cases ho
    · intro e; subst e
      have := hbl
      unfold Boxed at this
      rw [this] at hj; cases hj; cases ho
  have common : ∀ W' : World, Boxed W' Bl 24 (.slice (some ⟨g, 0, none⟩) (kn + 1) cap) → W'.ownsRow B 26 4 (.slice (some ⟨g, 0, none⟩) (kn + 1) cap) (kn + 1) (xs ++ [.int .i64 k, .int .i64 n, .string s, .slice a m c]) →
      W'.heap.size = w1.heap.size → (∀ j, j ≠ Bl → j ≠ g → W'.heap[j]? = w1.heap[j]?) → W'.os = w1.os → W'.tape = w1.tape → W'.output = w1.output → AppFin B Bl kn va vc xs k n s a m c W W' := by
    intro W' h1 h2 h3 h4 h5 h6 h7
    have hg2 : B ≤ g := (h2.lt g rfl).1
    have hst : ∀ j, j < W.heap.size → j ≠ Bl → some j ≠ (Value.slice va kn vc).ownBlock → W'.heap[j]? = W.heap[j]? := fun j hj hb hv => (h4 j hb (hnew j hj hv)).trans (hold j hj hv)
    have e1 : W.heap.size ≤ W'.heap.size := by omega
    have e2 : W'.os = W.os := h5.trans hgrow.os
    have e3 : W'.tape = W.tape := h6.trans hgrow.tape
    have e4 : W'.output = W.output := h7.trans hgrow.output
    refine ⟨_, ⟨h1, h2⟩, ⟨e1, fun j o hj ho => ?_⟩, ⟨e2, e3, e4, e1, fun j hj => ?_⟩, hst, ?_⟩
    · obtain ⟨q1, q2⟩ := hcells j o hj ho
      exact (hst j (Array.getElem?_eq_some_iff.1 hj).1 q2 q1).trans hj
    · have q1 : j < W.heap.size := by omega
      have q2 : j ≠ Bl := by omega
      refine hst j q1 q2 (fun e => ?_)
      have := (hown.lt j e.symm).1
      omega
    · rcases hblk with h | h
      · exact Or.inl h
      · exact Or.inr ⟨_, h, by omega⟩
  have hr1 := rowed_owns k n s a m c hxl hown'
  have finA : AppFin B Bl kn va vc xs k n s a m c W ((rowed w1 g kn k n s a m c).setCell ⟨Bl, 0, none⟩ (.slice (some ⟨g, 0, none⟩) (kn + 1) cap)) := by
    have A1 := boxed_rowed (g := g) (kn := kn) k n s a m c hne hb1
    have A3 := rowed_size w1 g kn k n s a m c
    have A4 : ∀ j, j ≠ g → (rowed w1 g kn k n s a m c).heap[j]? = w1.heap[j]? := fun j hj => rowed_heap w1 g kn k n s a m c hj
    have A5 : (rowed w1 g kn k n s a m c).os = w1.os ∧ (rowed w1 g kn k n s a m c).tape = w1.tape ∧ (rowed w1 g kn k n s a m c).output = w1.output := ⟨rfl, rfl, rfl⟩
    generalize rowed w1 g kn k n s a m c = R at hr1 A1 A3 A4 A5 ⊢
    have B2 := hr1.kept (grownBy_setCell' R Bl (.slice (some ⟨g, 0, none⟩) (kn + 1) cap)) (Or.inr (fun e => hne (by cases e; rfl)))
    exact common _ (A1.set _) B2 ((setCell_size _ _ _).trans A3) (fun j q1 q2 => (Below.heap_setCell R _ _ j (by exact q1)).trans (A4 j q2)) A5.1 A5.2.1 A5.2.2
  have finB : AppFin B Bl kn va vc xs k n s a m c W (rowed (w1.setCell ⟨Bl, 0, none⟩ (.slice (some ⟨g, 0, none⟩) (kn + 1) cap)) g kn k n s a m c) := by
    have C1 := hb1.set (.slice (some ⟨g, 0, none⟩) (kn + 1) cap)
    have C2 := hown'.kept (grownBy_setCell' w1 Bl (.slice (some ⟨g, 0, none⟩) (kn + 1) cap)) (Or.inr (fun e => hne (by cases e; rfl)))
    have C3 := setCell_size w1 ⟨Bl, 0, none⟩ (.slice (some ⟨g, 0, none⟩) (kn + 1) cap)
    have C4 : ∀ j, j ≠ Bl → (w1.setCell ⟨Bl, 0, none⟩ (.slice (some ⟨g, 0, none⟩) (kn + 1) cap)).heap[j]? = w1.heap[j]? := fun j hj => Below.heap_setCell _ _ _ _ (by exact hj)
    have C5 : (w1.setCell ⟨Bl, 0, none⟩ (.slice (some ⟨g, 0, none⟩) (kn + 1) cap)).os = w1.os ∧ (w1.setCell ⟨Bl, 0, none⟩ (.slice (some ⟨g, 0, none⟩) (kn + 1) cap)).tape = w1.tape ∧ (w1.setCell ⟨Bl, 0, none⟩ (.slice (some ⟨g, 0, none⟩) (kn + 1) cap)).output = w1.output := ⟨rfl, rfl, rfl⟩
    generalize w1.setCell ⟨Bl, 0, none⟩ (.slice (some ⟨g, 0, none⟩) (kn + 1) cap) = R at C1 C2 C3 C4 C5 ⊢
    have D1 := boxed_rowed (g := g) (kn := kn) k n s a m c hne C1
    have D2 := rowed_owns k n s a m c hxl C2
    have D3 := rowed_size R g kn k n s a m c
    have D4 : ∀ j, j ≠ g → (rowed R g kn k n s a m c).heap[j]? = R.heap[j]? := fun j hj => rowed_heap R g kn k n s a m c hj
    have D5 : (rowed R g kn k n s a m c).os = R.os ∧ (rowed R g kn k n s a m c).tape = R.tape ∧ (rowed R g kn k n s a m c).output = R.output := ⟨rfl, rfl, rfl⟩
    generalize rowed R g kn k n s a m c = R2 at D1 D2 D3 D4 D5 ⊢
    exact common _ D1 D2 (D3.trans C3) (fun j q1 q2 => (D4 j q2).trans (C4 j q1)) (D5.1.trans C5.1) (D5.2.1.trans C5.2.1) (D5.2.2.trans C5.2.2)
  -- what the operations read and write
  have cB := hbl.cell
  have cBA : World.cell? (W.alloc (.cells #[.int .i64 0, .int .i64 0, .string ⟨#[]⟩, .slice none 0 0] 26)) ⟨Bl, 0, none⟩ = some (.slice va kn vc) := hblA.cell
  have hlk : (kn : Int) < (kn : Int) + 1 := by omega
  have x0 := cell_of_row W Bx 0 _ _ _ hbx
  have x1 := cell_of_row W Bx 1 _ _ _ hbx
  have x2 := cell_of_row W Bx 2 _ _ _ hbx
  have x3 := cell_of_row W Bx 3 _ _ _ hbx
  simp at x0 x1 x2 x3
  have hbxA : (World.heap (W.alloc (.cells #[.int .i64 0, .int .i64 0, .string ⟨#[]⟩, .slice none 0 0] 26)))[Bx]? = some (.cells #[.int .i64 k, .int .i64 n, .string s, .slice a m c] 26 (0, 0)) := (Below.heap_alloc W _ Bx hltX).trans hbx
  have z0 := cell_of_row _ Bx 0 _ _ _ hbxA
  have z1 := cell_of_row _ Bx 1 _ _ _ hbxA
  have z2 := cell_of_row _ Bx 2 _ _ _ hbxA
  have z3 := cell_of_row _ Bx 3 _ _ _ hbxA
  simp at z0 z1 z2 z3
  have hat : ∀ (j : Nat) (u : Value), [Value.int .i64 0, .int .i64 0, .string ⟨#[]⟩, .slice none 0 0][j]? = some u → w1.cell? ⟨g, kn * 4 + j, none⟩ = some u := by
    intro j u hj
    have hjl := (List.getElem?_eq_some_iff.1 hj).1
    simp at hjl
    rw [hown'.cellAt (kn * 4 + j) (by omega), List.getElem?_append_right (by omega), hxl, Nat.add_sub_cancel_left]
    exact hj
  have u0 : w1.cell? ⟨g, kn * 4, none⟩ = some (.int .i64 0) := hat 0 _ rfl
  have u1 := hat 1 _ rfl
  have u2 := hat 2 _ rfl
  have u3 := hat 3 _ rfl
  have f0 := hown'.frozenAt (kn * 4)
  have f1 := hown'.frozenAt (kn * 4 + 1)
  have f2 := hown'.frozenAt (kn * 4 + 2)
  have f3 := hown'.frozenAt (kn * 4 + 3)
  have cB1 := hb1.cell
  have fB1 := hb1.frozen
  have cBR := (boxed_rowed (g := g) (kn := kn) k n s a m c hne hb1).cell
  have fBR := (boxed_rowed (g := g) (kn := kn) k n s a m c hne hb1).frozen
  have hownB := hown'.kept (grownBy_setCell' w1 Bl (.slice (some ⟨g, 0, none⟩) (kn + 1) cap)) (Or.inr (fun e => hne (by cases e; rfl)))
  have hatB : ∀ (j : Nat) (u : Value), [Value.int .i64 0, .int .i64 0, .string ⟨#[]⟩, .slice none 0 0][j]? = some u → (w1.setCell ⟨Bl, 0, none⟩ (.slice (some ⟨g, 0, none⟩) (kn + 1) cap)).cell? ⟨g, kn * 4 + j, none⟩ = some u := by
    intro j u hj
    have hjl := (List.getElem?_eq_some_iff.1 hj).1
    simp at hjl
    rw [hownB.cellAt (kn * 4 + j) (by omega), List.getElem?_append_right (by omega), hxl, Nat.add_sub_cancel_left]
    exact hj
  have v0 : (w1.setCell ⟨Bl, 0, none⟩ (.slice (some ⟨g, 0, none⟩) (kn + 1) cap)).cell? ⟨g, kn * 4, none⟩ = some (.int .i64 0) := hatB 0 _ rfl
  have v1 := hatB 1 _ rfl
  have v2 := hatB 2 _ rfl
  have v3 := hatB 3 _ rfl
  have e0 := hownB.frozenAt (kn * 4)
  have e1 := hownB.frozenAt (kn * 4 + 1)
  have e2 := hownB.frozenAt (kn * 4 + 2)
  have e3 := hownB.frozenAt (kn * 4 + 3)
  clear hat hatB hownB hown' hr1 common hcells hold hnew hszA hsz1 hgt hb1 hblN hxl hgrow hblk hrA hblA hown hbl hbx hbxA hltB hltX hne
  have sAB : wpAnyIn (F.inRound l) d Tryz.prog .any bodyOps Q 0 #[true, true, true, true, true, true, true, true] { tmps := #[y0, y1, .pointer (some ⟨Bl, 0, none⟩), y3, y4, y5, .pointer (some ⟨Bx, 0, none⟩), y7, y8, y9, y10, .slice va kn vc, tv k n s (.slice a m c), .int .i64 (kn : Int), .slice (some ⟨W.heap.size, 0, none⟩) 1 1, .slice (some ⟨g, 0, none⟩) (kn + 1) cap, .pointer (some ⟨g, kn * 4, none⟩), undef], defers := [] } (((((w1.setCell ⟨g, kn * 4, none⟩ (.int .i64 k)).setCell ⟨g, kn * 4 + 1, none⟩ (.int .i64 n)).setCell ⟨g, kn * 4 + 2, none⟩ (.string s)).setCell ⟨g, kn * 4 + 3, none⟩ (.slice a m c)).setCell ⟨Bl, 0, none⟩ (.slice (some ⟨g, 0, none⟩) (kn + 1) cap)) := wpAnyIn_done (by kernel_rfl) (hQ _ _ finA) _
  have sBA : wpAnyIn (F.inRound l) d Tryz.prog .any bodyOps Q 0 #[true, true, true, true, true, true, true, true] { tmps := #[y0, y1, .pointer (some ⟨Bl, 0, none⟩), y3, y4, y5, .pointer (some ⟨Bx, 0, none⟩), y7, y8, y9, y10, .slice va kn vc, tv k n s (.slice a m c), .int .i64 (kn : Int), .slice (some ⟨W.heap.size, 0, none⟩) 1 1, .slice (some ⟨g, 0, none⟩) (kn + 1) cap, .pointer (some ⟨g, kn * 4, none⟩), undef], defers := [] } (((((w1.setCell ⟨Bl, 0, none⟩ (.slice (some ⟨g, 0, none⟩) (kn + 1) cap)).setCell ⟨g, kn * 4, none⟩ (.int .i64 k)).setCell ⟨g, kn * 4 + 1, none⟩ (.int .i64 n)).setCell ⟨g, kn * 4 + 2, none⟩ (.string s)).setCell ⟨g, kn * 4 + 3, none⟩ (.slice a m c)) := wpAnyIn_done (by kernel_rfl) (hQ _ _ finB) _
  have s0123456 : wpAnyIn (F.inRound l) d Tryz.prog .any bodyOps Q 1 #[true, true, true, true, true, true, true, false] { tmps := #[y0, y1, .pointer (some ⟨Bl, 0, none⟩), y3, y4, y5, .pointer (some ⟨Bx, 0, none⟩), y7, y8, y9, y10, .slice va kn vc, tv k n s (.slice a m c), .int .i64 (kn : Int), .slice (some ⟨W.heap.size, 0, none⟩) 1 1, .slice (some ⟨g, 0, none⟩) (kn + 1) cap, .pointer (some ⟨g, kn * 4, none⟩), undef], defers := [] } ((((w1.setCell ⟨g, kn * 4, none⟩ (.int .i64 k)).setCell ⟨g, kn * 4 + 1, none⟩ (.int .i64 n)).setCell ⟨g, kn * 4 + 2, none⟩ (.string s)).setCell ⟨g, kn * 4 + 3, none⟩ (.slice a m c)) := by
    refine wpAnyIn_ready (rs := [7]) (by kernel_rfl) (by simp) ?_
    refine AllReadyIn.cons bop7 (fun K hK => ?_) ?_
    · go_simp
      exact hK _ _ sAB
    exact AllReadyIn.nil
  have s0123457 : wpAnyIn (F.inRound l) d Tryz.prog .any bodyOps Q 1 #[true, true, true, true, true, true, false, true] { tmps := #[y0, y1, .pointer (some ⟨Bl, 0, none⟩), y3, y4, y5, .pointer (some ⟨Bx, 0, none⟩), y7, y8, y9, y10, .slice va kn vc, tv k n s (.slice a m c), .int .i64 (kn : Int), .slice (some ⟨W.heap.size, 0, none⟩) 1 1, .slice (some ⟨g, 0, none⟩) (kn + 1) cap, .pointer (some ⟨g, kn * 4, none⟩), undef], defers := [] } (w1.setCell ⟨Bl, 0, none⟩ (.slice (some ⟨g, 0, none⟩) (kn + 1) cap)) := by
    refine wpAnyIn_ready (rs := [6]) (by kernel_rfl) (by simp) ?_
    refine AllReadyIn.cons bop6 (fun K hK => ?_) ?_
    · go_simp
      exact hK _ _ sBA
    exact AllReadyIn.nil
  have s012345 : wpAnyIn (F.inRound l) d Tryz.prog .any bodyOps Q 2 #[true, true, true, true, true, true, false, false] { tmps := #[y0, y1, .pointer (some ⟨Bl, 0, none⟩), y3, y4, y5, .pointer (some ⟨Bx, 0, none⟩), y7, y8, y9, y10, .slice va kn vc, tv k n s (.slice a m c), .int .i64 (kn : Int), .slice (some ⟨W.heap.size, 0, none⟩) 1 1, .slice (some ⟨g, 0, none⟩) (kn + 1) cap, .pointer (some ⟨g, kn * 4, none⟩), undef], defers := [] } w1 := by
    refine wpAnyIn_ready (rs := [6, 7]) (by kernel_rfl) (by simp) ?_
    refine AllReadyIn.cons bop6 (fun K hK => ?_) ?_
    · go_simp
      exact hK _ _ s0123456
    refine AllReadyIn.cons bop7 (fun K hK => ?_) ?_
    · go_simp
      exact hK _ _ s0123457
    exact AllReadyIn.nil
  have s012347 : wpAnyIn (F.inRound l) d Tryz.prog .any bodyOps Q 2 #[true, true, true, true, true, false, false, true] { tmps := #[y0, y1, .pointer (some ⟨Bl, 0, none⟩), y3, y4, y5, .pointer (some ⟨Bx, 0, none⟩), y7, y8, y9, y10, .slice va kn vc, tv k n s (.slice a m c), .int .i64 (kn : Int), .slice (some ⟨W.heap.size, 0, none⟩) 1 1, .slice (some ⟨g, 0, none⟩) (kn + 1) cap, undef, undef], defers := [] } (w1.setCell ⟨Bl, 0, none⟩ (.slice (some ⟨g, 0, none⟩) (kn + 1) cap)) := by
    refine wpAnyIn_ready (rs := [5]) (by kernel_rfl) (by simp) ?_
    refine AllReadyIn.cons bop5 (fun K hK => ?_) ?_
    · go_simp
      exact hK _ _ s0123457
    exact AllReadyIn.nil
  have s01234 : wpAnyIn (F.inRound l) d Tryz.prog .any bodyOps Q 3 #[true, true, true, true, true, false, false, false] { tmps := #[y0, y1, .pointer (some ⟨Bl, 0, none⟩), y3, y4, y5, .pointer (some ⟨Bx, 0, none⟩), y7, y8, y9, y10, .slice va kn vc, tv k n s (.slice a m c), .int .i64 (kn : Int), .slice (some ⟨W.heap.size, 0, none⟩) 1 1, .slice (some ⟨g, 0, none⟩) (kn + 1) cap, undef, undef], defers := [] } w1 := by
    refine wpAnyIn_ready (rs := [5, 7]) (by kernel_rfl) (by simp) ?_
    refine AllReadyIn.cons bop5 (fun K hK => ?_) ?_
    · go_simp
      exact hK _ _ s012345
    refine AllReadyIn.cons bop7 (fun K hK => ?_) ?_
    · go_simp
      exact hK _ _ s012347
    exact AllReadyIn.nil
  have s0123 : wpAnyIn (F.inRound l) d Tryz.prog .any bodyOps Q 4 #[true, true, true, true, false, false, false, false] { tmps := #[y0, y1, .pointer (some ⟨Bl, 0, none⟩), y3, y4, y5, .pointer (some ⟨Bx, 0, none⟩), y7, y8, y9, y10, .slice va kn vc, tv k n s (.slice a m c), .int .i64 (kn : Int), .slice (some ⟨W.heap.size, 0, none⟩) 1 1, undef, undef, undef], defers := [] } ((W.alloc (.cells #[.int .i64 0, .int .i64 0, .string ⟨#[]⟩, .slice none 0 0] 26)).drew) := by
    refine wpAnyIn_ready (rs := [4]) (by kernel_rfl) (by simp) ?_
    refine AllReadyIn.cons bop4 (fun K hK => ?_) AllReadyIn.nil
    refine stepIn_app rfl (.tmp 11) (.tmp 14) 24 rfl (.slice (some ⟨g, 0, none⟩) (kn + 1) cap) w1 ?_ ?_
    · exact hrun
    · exact hK _ _ s01234
  have s012 : wpAnyIn (F.inRound l) d Tryz.prog .any bodyOps Q 5 #[true, true, true, false, false, false, false, false] { tmps := #[y0, y1, .pointer (some ⟨Bl, 0, none⟩), y3, y4, y5, .pointer (some ⟨Bx, 0, none⟩), y7, y8, y9, y10, .slice va kn vc, tv k n s (.slice a m c), .int .i64 (kn : Int), undef, undef, undef, undef], defers := [] } W.drew := by
    refine wpAnyIn_ready (rs := [3]) (by kernel_rfl) (by simp) ?_
    refine AllReadyIn.cons bop3 (fun K hK => ?_) ?_
    · go_simp
      exact hK _ _ s0123
    exact AllReadyIn.nil
  have s013 : wpAnyIn (F.inRound l) d Tryz.prog .any bodyOps Q 5 #[true, true, false, true, false, false, false, false] { tmps := #[y0, y1, .pointer (some ⟨Bl, 0, none⟩), y3, y4, y5, .pointer (some ⟨Bx, 0, none⟩), y7, y8, y9, y10, .slice va kn vc, tv k n s (.slice a m c), undef, .slice (some ⟨W.heap.size, 0, none⟩) 1 1, undef, undef, undef], defers := [] } ((W.alloc (.cells #[.int .i64 0, .int .i64 0, .string ⟨#[]⟩, .slice none 0 0] 26)).drew) := by
    refine wpAnyIn_ready (rs := [2]) (by kernel_rfl) (by simp) ?_
    refine AllReadyIn.cons bop2 (fun K hK => ?_) ?_
    · go_simp
      exact hK _ _ s0123
    exact AllReadyIn.nil
  have s023 : wpAnyIn (F.inRound l) d Tryz.prog .any bodyOps Q 5 #[true, false, true, true, false, false, false, false] { tmps := #[y0, y1, .pointer (some ⟨Bl, 0, none⟩), y3, y4, y5, .pointer (some ⟨Bx, 0, none⟩), y7, y8, y9, y10, .slice va kn vc, undef, .int .i64 (kn : Int), .slice (some ⟨W.heap.size, 0, none⟩) 1 1, undef, undef, undef], defers := [] } ((W.alloc (.cells #[.int .i64 0, .int .i64 0, .string ⟨#[]⟩, .slice none 0 0] 26)).drew) := by
    refine wpAnyIn_ready (rs := [1]) (by kernel_rfl) (by simp) ?_
    refine AllReadyIn.cons bop1 (fun K hK => ?_) ?_
    · go_simp
      exact hK _ _ s0123
    exact AllReadyIn.nil
  have s01 : wpAnyIn (F.inRound l) d Tryz.prog .any bodyOps Q 6 #[true, true, false, false, false, false, false, false] { tmps := #[y0, y1, .pointer (some ⟨Bl, 0, none⟩), y3, y4, y5, .pointer (some ⟨Bx, 0, none⟩), y7, y8, y9, y10, .slice va kn vc, tv k n s (.slice a m c), undef, undef, undef, undef, undef], defers := [] } W.drew := by
    refine wpAnyIn_ready (rs := [2, 3]) (by kernel_rfl) (by simp) ?_
    refine AllReadyIn.cons bop2 (fun K hK => ?_) ?_
    · go_simp
      exact hK _ _ s012
    refine AllReadyIn.cons bop3 (fun K hK => ?_) ?_
    · go_simp
      exact hK _ _ s013
    exact AllReadyIn.nil
  have s02 : wpAnyIn (F.inRound l) d Tryz.prog .any bodyOps Q 6 #[true, false, true, false, false, false, false, false] { tmps := #[y0, y1, .pointer (some ⟨Bl, 0, none⟩), y3, y4, y5, .pointer (some ⟨Bx, 0, none⟩), y7, y8, y9, y10, .slice va kn vc, undef, .int .i64 (kn : Int), undef, undef, undef, undef], defers := [] } W.drew := by
    refine wpAnyIn_ready (rs := [1, 3]) (by kernel_rfl) (by simp) ?_
    refine AllReadyIn.cons bop1 (fun K hK => ?_) ?_
    · go_simp
      exact hK _ _ s012
    refine AllReadyIn.cons bop3 (fun K hK => ?_) ?_
    · go_simp
      exact hK _ _ s023
    exact AllReadyIn.nil
  have s03 : wpAnyIn (F.inRound l) d Tryz.prog .any bodyOps Q 6 #[true, false, false, true, false, false, false, false] { tmps := #[y0, y1, .pointer (some ⟨Bl, 0, none⟩), y3, y4, y5, .pointer (some ⟨Bx, 0, none⟩), y7, y8, y9, y10, .slice va kn vc, undef, undef, .slice (some ⟨W.heap.size, 0, none⟩) 1 1, undef, undef, undef], defers := [] } ((W.alloc (.cells #[.int .i64 0, .int .i64 0, .string ⟨#[]⟩, .slice none 0 0] 26)).drew) := by
    refine wpAnyIn_ready (rs := [1, 2]) (by kernel_rfl) (by simp) ?_
    refine AllReadyIn.cons bop1 (fun K hK => ?_) ?_
    · go_simp
      exact hK _ _ s013
    refine AllReadyIn.cons bop2 (fun K hK => ?_) ?_
    · go_simp
      exact hK _ _ s023
    exact AllReadyIn.nil
  have s13 : wpAnyIn (F.inRound l) d Tryz.prog .any bodyOps Q 6 #[false, true, false, true, false, false, false, false] { tmps := #[y0, y1, .pointer (some ⟨Bl, 0, none⟩), y3, y4, y5, .pointer (some ⟨Bx, 0, none⟩), y7, y8, y9, y10, undef, tv k n s (.slice a m c), undef, .slice (some ⟨W.heap.size, 0, none⟩) 1 1, undef, undef, undef], defers := [] } ((W.alloc (.cells #[.int .i64 0, .int .i64 0, .string ⟨#[]⟩, .slice none 0 0] 26)).drew) := by
    refine wpAnyIn_ready (rs := [0]) (by kernel_rfl) (by simp) ?_
    refine AllReadyIn.cons bop0 (fun K hK => ?_) ?_
    · go_simp
      exact hK _ _ s013
    exact AllReadyIn.nil
  have s0 : wpAnyIn (F.inRound l) d Tryz.prog .any bodyOps Q 7 #[true, false, false, false, false, false, false, false] { tmps := #[y0, y1, .pointer (some ⟨Bl, 0, none⟩), y3, y4, y5, .pointer (some ⟨Bx, 0, none⟩), y7, y8, y9, y10, .slice va kn vc, undef, undef, undef, undef, undef, undef], defers := [] } W.drew := by
    refine wpAnyIn_ready (rs := [1, 2, 3]) (by kernel_rfl) (by simp) ?_
    refine AllReadyIn.cons bop1 (fun K hK => ?_) ?_
    · go_simp
      exact hK _ _ s01
    refine AllReadyIn.cons bop2 (fun K hK => ?_) ?_
    · go_simp
      exact hK _ _ s02
    refine AllReadyIn.cons bop3 (fun K hK => ?_) ?_
    · go_simp
      exact hK _ _ s03
    exact AllReadyIn.nil
  have s1 : wpAnyIn (F.inRound l) d Tryz.prog .any bodyOps Q 7 #[false, true, false, false, false, false, false, false] { tmps := #[y0, y1, .pointer (some ⟨Bl, 0, none⟩), y3, y4, y5, .pointer (some ⟨Bx, 0, none⟩), y7, y8, y9, y10, undef, tv k n s (.slice a m c), undef, undef, undef, undef, undef], defers := [] } W.drew := by
    refine wpAnyIn_ready (rs := [0, 3]) (by kernel_rfl) (by simp) ?_
    refine AllReadyIn.cons bop0 (fun K hK => ?_) ?_
    · go_simp
      exact hK _ _ s01
    refine AllReadyIn.cons bop3 (fun K hK => ?_) ?_
    · go_simp
      exact hK _ _ s13
    exact AllReadyIn.nil
  have s3 : wpAnyIn (F.inRound l) d Tryz.prog .any bodyOps Q 7 #[false, false, false, true, false, false, false, false] { tmps := #[y0, y1, .pointer (some ⟨Bl, 0, none⟩), y3, y4, y5, .pointer (some ⟨Bx, 0, none⟩), y7, y8, y9, y10, undef, undef, undef, .slice (some ⟨W.heap.size, 0, none⟩) 1 1, undef, undef, undef], defers := [] } ((W.alloc (.cells #[.int .i64 0, .int .i64 0, .string ⟨#[]⟩, .slice none 0 0] 26)).drew) := by
    refine wpAnyIn_ready (rs := [0, 1]) (by kernel_rfl) (by simp) ?_
    refine AllReadyIn.cons bop0 (fun K hK => ?_) ?_
    · go_simp
      exact hK _ _ s03
    refine AllReadyIn.cons bop1 (fun K hK => ?_) ?_
    · go_simp
      exact hK _ _ s13
    exact AllReadyIn.nil
  refine wpIn_region_any (by kernel_rfl) ?_
  change wpAnyIn (F.inRound l) d Tryz.prog .any bodyOps Q 8 #[false, false, false, false, false, false, false, false] { tmps := #[y0, y1, .pointer (some ⟨Bl, 0, none⟩), y3, y4, y5, .pointer (some ⟨Bx, 0, none⟩), y7, y8, y9, y10, undef, undef, undef, undef, undef, undef, undef], defers := [] } W.drew
  refine wpAnyIn_ready (rs := [0, 1, 3]) (by kernel_rfl) (by simp) ?_
  refine AllReadyIn.cons bop0 (fun K hK => ?_) ?_
  · go_simp
    exact hK _ _ s0
  refine AllReadyIn.cons bop1 (fun K hK => ?_) ?_
  · go_simp
    exact hK _ _ s1
  refine AllReadyIn.cons bop3 (fun K hK => ?_) ?_
  · go_simp
    exact hK _ _ s3
  exact AllReadyIn.nil
end Go.Proofs.YtidbokheeieifaaGreatDoor
