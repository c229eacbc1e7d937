/-
  A signature that is being drawn: a sort more, an operator's arguments replaced. No walk.
  The statement of spec.l6Bent that appends a drawn sort: in whatever order its operations come.
  spec.l6Bent draws a signature.
  spec.DrawFindOp and spec.DrawIsBuiltin: a signature and a name, and a name.
  laws.sameTexts returns true for two slices of the same strings; it changes nothing.
  laws.big tells whether a draw has more than 1048576 bytes.
  laws.FnOps answers true at every draw: the operator that a name finds is its model's, and the built-in ones are always found.
-/
import Derived.Test.YtcmhiindjponcaaQ7
import Derived.Test.YtcmhiindjponcaaQ8
import Derived.Test.YtcmhiindjponcaaQ3
import Derived.Test.YtcmhiindjponcaaQ2
import Derived.Test.YtcmhiindjponcaaQ6
import Derived.Deep.RegionHeld3
import Derived.Deep.RegionLaw
import Derived.Deep.DeepCutAuto
import Derived.WalkLawsBesides
import Derived.Lib.Hide
namespace Go.Proofs.Ytcmhiindjponcaa
open Go.RowKit

theorem CellsOps.store0 {w : World} {O lo X j : Nat} {u : Value} (hx : ∃ a n c, w.cell? ⟨X, j, none⟩ = some (.slice a n c)) {ds : List OpD} {vs : List Value} (h : CellsOps w O lo ds vs) : CellsOps (w.setCell ⟨X, j, none⟩ u) O lo ds vs :=
  CellsOps.keep (fun ad p _ _ hv => by
    by_cases e : ad = ⟨X, j, none⟩
    · subst e
      obtain ⟨a, n, c, hx⟩ := hx
      rw [hx] at hv; simp at hv
    · rw [World.cell?_setCell_other _ _ _ _ (fun e2 => e e2.symm)]; exact hv) h

/-- A sort more. -/
theorem MidG.sort {B len X S O cs co g cap : Nat} {cv : Value} {w wr w6 : World} {vs : List Value} {sA : ByteArray} (h : Mid B cv len w X S O cs co vs wr) (hB : B < w.heap.size) (hX : w.heap.size + 1 ≤ X) (hS : w.heap.size + 1 ≤ S) (hXO : X ≠ O) (hXS : X ≠ S) (hSO : S ≠ O)
    (ho : w6.ownsRow (w.heap.size + 1) 9 1 (.slice (some ⟨g, 0, none⟩) (2 + 1) cap) (2 + 1) (baseSorts.map Value.string ++ [.string sA])) (hg : wr.grownBy w6 (some S)) (hgg : some S = some g ∨ g = wr.heap.size) :
    MidG B cv len w X (w6.setCell ⟨X, 0, none⟩ (.slice (some ⟨g, 0, none⟩) (2 + 1) cap)) := by
  obtain ⟨⟨m1, m2⟩, ⟨m3, m4, m5⟩, m6, m7, m8⟩ := h
  have hXl := (Array.getElem?_eq_some_iff.1 m1).1
  have hRl := (Array.getElem?_eq_some_iff.1 m2).1
  have hBl := m6.lt
  have x1 : w6.heap[X]? = some (.cells #[.slice (some ⟨S, 0, none⟩) 2 cs, .slice (some ⟨O, 0, none⟩) 7 co] 27 (0, 0)) := (hg.block X hXl (fun e => by simp at e; omega)).trans m1
  have hgX : g ≠ X := by
    rcases hgg with e | e
    · injection e with e; omega
    · omega
  refine ⟨.slice (some ⟨g, 0, none⟩) (2 + 1) cap, .slice (some ⟨O, 0, none⟩) 7 co, baseSorts ++ [sA], baseOps, vs, S, ⟨?_, ?_⟩, ⟨?_, ?_, ?_⟩, ⟨by simp [baseSorts], by decide, by decide⟩, ?_, ?_⟩
  · exact heap_setCell_same w6 X 0 _ _ _ x1
  · rw [Below.heap_setCell _ _ _ _ (by show w.heap.size ≠ X; omega)]
    exact (hg.block _ hRl (fun e => by simp at e; omega)).trans m2
  · have ho' : w6.ownsRow (w.heap.size + 1) 9 1 (.slice (some ⟨g, 0, none⟩) (2 + 1) cap) (baseSorts ++ [sA]).length ((baseSorts ++ [sA]).map Value.string) := by
      rw [List.map_append]; exact ho
    exact row_keep' ho' (fun b hb => by
      simp [Value.ownBlock] at hb
      rw [Below.heap_setCell _ _ _ _ (by show b ≠ X; omega)])
  · exact row_keep' (m4.kept hg (Or.inr (fun e => by simp [Value.ownBlock] at e; omega))) (fun b hb => by
      simp [Value.ownBlock] at hb
      rw [Below.heap_setCell _ _ _ _ (by show b ≠ X; omega)])
  · refine CellsOps.store0 ⟨some ⟨S, 0, none⟩, 2, cs, by rw [cell_of_row _ _ 0 _ _ _ x1]; rfl⟩ (CellsOps.keep (fun ad p hO' _ hv => hg.cell hv (fun e => hO' (by simpa using e))) m5.2)
  · obtain ⟨i, x, hi, hBB⟩ := m6
    refine CurAt.far ⟨i, x, hi, (hg.block B (Array.getElem?_eq_some_iff.1 hBB).1 (fun e => by simp at e; omega)).trans hBB⟩ (by omega)
  · refine grown_far ⟨hg.os.trans m7.os, hg.tape.trans m7.tape, hg.output.trans m7.output, Nat.le_trans m7.size hg.size, fun k hk hr => (hg.block k (by have := m7.size; omega) (fun e => by simp at e; omega)).trans (m7.block k hk hr)⟩ (by omega)

/-- The first operator's arguments replaced. -/
theorem MidG.arg {B len X S O cs co : Nat} {cv : Value} {w wr : World} {vs : List Value} {z : ByteArray} (h : Mid B cv len w X S O cs co vs wr) (hB : B < w.heap.size) (hO : w.heap.size + 1 ≤ O) (hXO : X ≠ O) (hSO : S ≠ O) :
    MidG B cv len w X ((wr.alloc (.cells #[.string z] 9)).setCell ⟨O, 1, none⟩ (.slice (some ⟨wr.heap.size, 0, none⟩) 1 1)) := by
  obtain ⟨⟨m1, m2⟩, ⟨m3, m4, m5⟩, m6, m7, m8⟩ := h
  have hXl := (Array.getElem?_eq_some_iff.1 m1).1
  have hRl := (Array.getElem?_eq_some_iff.1 m2).1
  have hBl := m6.lt
  have hOl := (m4.lt O rfl).2
  have hb := Below.refl wr.heap.size wr |>.alloc (Nat.le_refl _) (.cells #[.string z] 9)
  have hn : (wr.alloc (.cells #[.string z] 9)).heap[wr.heap.size]? = some (.cells #[.string z] 9 (0, 0)) := heap_new wr _ rfl
  obtain ⟨u0, rest, hvs, hs0, hr⟩ := m5.1
  refine ⟨.slice (some ⟨S, 0, none⟩) 2 cs, .slice (some ⟨O, 0, none⟩) 7 co, baseSorts, ⟨⟨#[97]⟩, [z], tE⟩ :: baseOps.drop 1, vs.set 1 (.slice (some ⟨wr.heap.size, 0, none⟩) 1 1), O, ⟨?_, ?_⟩, ⟨?_, ?_, ?_⟩, ⟨by decide, by show 7 ≤ 8; decide, ?_⟩, ?_, ?_⟩
  · rw [Below.heap_setCell _ _ _ _ (by show X ≠ O; omega)]
    exact (hb.block _ hXl).trans m1
  · rw [Below.heap_setCell _ _ _ _ (by show w.heap.size ≠ O; omega)]
    exact (hb.block _ hRl).trans m2
  · exact row_keep' (m3.alloc _) (fun b hb' => by
      simp [Value.ownBlock] at hb'
      rw [Below.heap_setCell _ _ _ _ (by show b ≠ O; omega)])
  · exact ((m4.alloc _).stored 1 _).1
  · subst hvs
    refine ⟨_, rest, rfl, ⟨_, 1, rfl, Or.inr ⟨wr.heap.size, 0, rfl, ⟨by omega, by have := m7.size; omega⟩, fun i p hp => ?_⟩⟩, hr.keep fun ad p hO' _ hv => ?_⟩
    · rw [World.cell?_setCell_far _ _ _ _ (by show O ≠ wr.heap.size; omega), Nat.zero_add, cell_of_row _ _ i _ _ _ hn]
      match i, hp with
      | 0, h => simp at h; subst h; rfl
      | i + 1, h => simp at h
    · rw [World.cell?_setCell_far _ _ _ _ (by show O ≠ ad.block; exact fun e => hO' e.symm), hb.cell (World.block_lt_of_cell? wr _ hv)]
      exact hv
  · intro d hd
    rcases List.mem_cons.1 hd with rfl | h
    · show 1 ≤ 4; decide
    · exact (by decide : ∀ d ∈ baseOps.drop 1, d.args.length ≤ 4) d h
  · obtain ⟨i, x, hi, hBB⟩ := m6
    exact CurAt.far ⟨i, x, hi, (hb.block B hBl).trans hBB⟩ (by omega)
  · exact grown_far (grown_trans m7 (World.grownBy_alloc wr _ (some B))) (by omega)
end Go.Proofs.Ytcmhiindjponcaa
namespace Go.Proofs.Ytcmhiindjponcaa
open Go.RowKit

/-- The operations of the statement. -/
def sortOps : Array Oper := #[
  { dst := some 9, op := Op.fieldAddr 27 (Operand.tmp 3) 0, type := 0, pos := "l06_signature.go:151", after := #[], guard := none },
  { dst := some 10, op := Op.load 24 (Operand.tmp 9), type := 24, pos := "l06_signature.go:151", after := #[{ on := 0, ground := Ground.data }], guard := none },
  { dst := some 11, op := Op.move (Operand.tmp 0), type := 78, pos := "l06_signature.go:151", after := #[], guard := none },
  { dst := some 12, op := Op.buildSlice 24 4 #[(0, Operand.const (Value.string ⟨#[101]⟩)), (1, Operand.const (Value.string ⟨#[119, 111, 114, 100]⟩)), (2, Operand.const (Value.string ⟨#[88]⟩)), (3, Operand.const (Value.string ⟨#[112]⟩))], type := 24, pos := "l06_signature.go:151", after := #[], guard := none },
  { dst := some 13, op := Op.call { callee := Callee.value (Operand.func 47), args := #[Operand.tmp 11, Operand.tmp 12], argTypes := #[78, 24] }, type := 9, pos := "l06_signature.go:151", after := #[{ on := 2, ground := Ground.data }, { on := 3, ground := Ground.data }], guard := none },
  { dst := some 14, op := Op.buildSlice 24 1 #[(0, Operand.tmp 13)], type := 24, pos := "l06_signature.go:151", after := #[{ on := 4, ground := Ground.data }], guard := none },
  { dst := some 15, op := Op.call { callee := Callee.builtin Builtin.append, args := #[Operand.tmp 10, Operand.tmp 14], argTypes := #[24, 24] }, type := 24, pos := "l06_signature.go:151", after := #[{ on := 1, ground := Ground.data }, { on := 5, ground := Ground.data }, { on := 4, ground := Ground.chain }], guard := none },
  { dst := some 16, op := Op.fieldAddr 27 (Operand.tmp 3) 0, type := 0, pos := "l06_signature.go:151", after := #[{ on := 0, ground := Ground.phase }, { on := 1, ground := Ground.phase }, { on := 2, ground := Ground.phase }, { on := 3, ground := Ground.phase }, { on := 4, ground := Ground.phase }, { on := 5, ground := Ground.phase }, { on := 6, ground := Ground.phase }], guard := none },
  { dst := none, op := Op.store 24 (Operand.tmp 16) (Operand.tmp 15), type := 0, pos := "l06_signature.go:151", after := #[{ on := 7, ground := Ground.data }, { on := 6, ground := Ground.data }, { on := 6, ground := Ground.chain }, { on := 0, ground := Ground.phase }, { on := 1, ground := Ground.phase }, { on := 2, ground := Ground.phase }, { on := 3, ground := Ground.phase }, { on := 4, ground := Ground.phase }, { on := 5, ground := Ground.phase }, { on := 6, ground := Ground.phase }], guard := none }]
theorem sop0 : sortOps[0]? = some { dst := some 9, op := Op.fieldAddr 27 (Operand.tmp 3) 0, type := 0, pos := "l06_signature.go:151", after := #[], guard := none } := by kernel_rfl
theorem sop1 : sortOps[1]? = some { dst := some 10, op := Op.load 24 (Operand.tmp 9), type := 24, pos := "l06_signature.go:151", after := #[{ on := 0, ground := Ground.data }], guard := none } := by kernel_rfl
theorem sop2 : sortOps[2]? = some { dst := some 11, op := Op.move (Operand.tmp 0), type := 78, pos := "l06_signature.go:151", after := #[], guard := none } := by kernel_rfl
theorem sop3 : sortOps[3]? = some { dst := some 12, op := Op.buildSlice 24 4 #[(0, Operand.const (Value.string ⟨#[101]⟩)), (1, Operand.const (Value.string ⟨#[119, 111, 114, 100]⟩)), (2, Operand.const (Value.string ⟨#[88]⟩)), (3, Operand.const (Value.string ⟨#[112]⟩))], type := 24, pos := "l06_signature.go:151", after := #[], guard := none } := by kernel_rfl
theorem sop4 : sortOps[4]? = some { dst := some 13, op := Op.call { callee := Callee.value (Operand.func 47), args := #[Operand.tmp 11, Operand.tmp 12], argTypes := #[78, 24] }, type := 9, pos := "l06_signature.go:151", after := #[{ on := 2, ground := Ground.data }, { on := 3, ground := Ground.data }], guard := none } := by kernel_rfl
theorem sop5 : sortOps[5]? = some { dst := some 14, op := Op.buildSlice 24 1 #[(0, Operand.tmp 13)], type := 24, pos := "l06_signature.go:151", after := #[{ on := 4, ground := Ground.data }], guard := none } := by kernel_rfl
theorem sop6 : sortOps[6]? = some { dst := some 15, op := Op.call { callee := Callee.builtin Builtin.append, args := #[Operand.tmp 10, Operand.tmp 14], argTypes := #[24, 24] }, type := 24, pos := "l06_signature.go:151", after := #[{ on := 1, ground := Ground.data }, { on := 5, ground := Ground.data }, { on := 4, ground := Ground.chain }], guard := none } := by kernel_rfl
theorem sop7 : sortOps[7]? = some { dst := some 16, op := Op.fieldAddr 27 (Operand.tmp 3) 0, type := 0, pos := "l06_signature.go:151", after := #[{ on := 0, ground := Ground.phase }, { on := 1, ground := Ground.phase }, { on := 2, ground := Ground.phase }, { on := 3, ground := Ground.phase }, { on := 4, ground := Ground.phase }, { on := 5, ground := Ground.phase }, { on := 6, ground := Ground.phase }], guard := none } := by kernel_rfl
theorem sop8 : sortOps[8]? = some { dst := none, op := Op.store 24 (Operand.tmp 16) (Operand.tmp 15), type := 0, pos := "l06_signature.go:151", after := #[{ on := 7, ground := Ground.data }, { on := 6, ground := Ground.data }, { on := 6, ground := Ground.chain }, { on := 0, ground := Ground.phase }, { on := 1, ground := Ground.phase }, { on := 2, ground := Ground.phase }, { on := 3, ground := Ground.phase }, { on := 4, ground := Ground.phase }, { on := 5, ground := Ground.phase }, { on := 6, ground := Ground.phase }], guard := none } := by kernel_rfl

theorem infoStrB : (Try.prog.info? 9).map (fun i => (i.zero, i.size, i.bytes)) = some (some (.string ByteArray.empty), 1, 16) := by kernel_rfl

set_option maxRecDepth 100000 in
set_option maxHeartbeats 12800000 in
theorem bent4 {id : Nat} {Q : Exit → Act → World → Prop} (B : Nat) (cv : Value) (len : Nat) (w : World) (X S O cs co : Nat) (vs : List Value) (W : World) (y1 y2 y4 y5 y6 y7 y8 y17 y18 y19 y20 y21 y22 y23 y24 y25 y26 y27 y28 y29 y30 y31 y32 y33 y34 y35 y36 y37 y38 y39 y40 y41 y42 : Value)
    (hBlt : B < w.heap.size) (hX : w.heap.size + 1 ≤ X) (hS : w.heap.size + 1 ≤ S) (hO : w.heap.size + 1 ≤ O) (hXO : X ≠ O) (hXS : X ≠ S) (hSO : S ≠ O) (hm : Mid B cv len w X S O cs co vs W)
    (hQ : ∀ (x10 x11 x12 x13 x14 x15 : Value) (wf : World), MidG B cv len w X wf → Q .normal ({ tmps := #[.pointer (some ⟨B, 0, none⟩), y1, y2, .pointer (some ⟨X, 0, none⟩), y4, y5, y6, y7, y8, .pointer (some ⟨X, 0, none⟩), x10, x11, x12, x13, x14, x15, .pointer (some ⟨X, 0, none⟩), y17, y18, y19, y20, y21, y22, y23, y24, y25, y26, y27, y28, y29, y30, y31, y32, y33, y34, y35, y36, y37, y38, y39, y40, y41, y42], defers := [] } : Act) wf) (hQp : ∀ (c : _) (a : Act) (d : Option Tmp) (v : Value) (w : World), Q (.panic c) (a.put d v) w → Q (.panic c) a w) :
    (Code.region id sortOps true).wp Try.prog Q ({ tmps := #[.pointer (some ⟨B, 0, none⟩), y1, y2, .pointer (some ⟨X, 0, none⟩), y4, y5, y6, y7, y8, undef, undef, undef, undef, undef, undef, undef, undef, y17, y18, y19, y20, y21, y22, y23, y24, y25, y26, y27, y28, y29, y30, y31, y32, y33, y34, y35, y36, y37, y38, y39, y40, y41, y42], defers := [] } : Act) W := by
  obtain ⟨i0, hi, hz0, hz1, hz2⟩ := info_parts infoStrB
  have HI := Lib.hid hi; clear hi
  have HZ0 := Lib.hid hz0; clear hz0
  have HZ1 := Lib.hid hz1; clear hz1
  have HZ2 := Lib.hid hz2; clear hz2
  have HMK : Hid (∀ wr, K B cv len W wr → Mid B cv len w X S O cs co vs wr) := Lib.hid (fun wr hk => hm.kept hBlt hX hS hO hk.1 hk.2)
  have s31 : ∀ (wr : World) (bA bE : Nat) (sA : ByteArray) (z12 : Value), K B cv len W wr → wr.heap[bE]? = some (.cells #[.string sA] 9 (0, 0)) → wpAny Try.prog .any sortOps Q 3 #[true, true, true, true, true, true, false, false, false] ({ tmps := #[.pointer (some ⟨B, 0, none⟩), y1, y2, .pointer (some ⟨X, 0, none⟩), y4, y5, y6, y7, y8, .pointer (some ⟨X, 0, none⟩), (.slice (some ⟨S, 0, none⟩) 2 cs), .pointer (some ⟨B, 0, none⟩), z12, .string sA, .slice (some ⟨bE, 0, none⟩) 1 1, undef, undef, y17, y18, y19, y20, y21, y22, y23, y24, y25, y26, y27, y28, y29, y30, y31, y32, y33, y34, y35, y36, y37, y38, y39, y40, y41, y42], defers := [] } : Act) wr := by
    intro wr bA bE sA z12 hK0 hE
    have mm := HMK.out wr hK0
    obtain ⟨⟨c0, c1⟩, f0, f1⟩ := cells_of2 mm.1.1
    have hlo := mm.2.2.2.1.size
    have hXl := (Array.getElem?_eq_some_iff.1 mm.1.1).1
    have hlo1 : w.heap.size + 1 ≤ wr.heap.size := by omega
    have hcE : ∀ (j : Nat) (u : Value), ([.string sA] : List Value)[j]? = some u → wr.cell? ((⟨bE, 0, none⟩ : Addr).add j) = some u := fun j u hj => by
      rw [show (⟨bE, 0, none⟩ : Addr).add j = ⟨bE, j, none⟩ from (by simp [Addr.add]; try omega), cell_of_row wr bE j _ _ _ hE]
      simpa using hj
    refine wpAny_ready (rs := [6]) (by kernel_rfl) (by simp) ?_
    refine AllReady.cons sop6 (fun KK hKK => ?_) AllReady.nil
    refine step_append_lies _ rfl (.tmp 10) (.tmp 14) 24 rfl (w.heap.size + 1) 9 i0 (.string ByteArray.empty) 1 16 Try.underlying24 HI.out HZ0.out HZ1.out HZ2.out rfl (by decide) (.slice (some ⟨S, 0, none⟩) 2 cs) 2 (baseSorts.map Value.string) rfl mm.2.1.1 ⟨bE, 0, none⟩ 1 1 [.string sA] rfl rfl hcE (by simp [Value.oneCell']) (by decide) (by decide) (by decide) hlo1 wr.heap.size rfl (fun g cap w6 ho hg6 hgg hgl => hKK _ _ ?_)
    have hgX : g ≠ X := by
      rcases hgg with e | e
      · simp [Value.ownBlock] at e; omega
      · omega
    have x1 : w6.heap[X]? = some (.cells #[.slice (some ⟨S, 0, none⟩) 2 cs, .slice (some ⟨O, 0, none⟩) 7 co] 27 (0, 0)) := (hg6.block X hXl (fun e => by simp [Value.ownBlock] at e; omega)).trans mm.1.1
    obtain ⟨⟨d0, d1⟩, e0, e1⟩ := cells_of2 x1
    have hfin := MidG.sort mm hBlt hX hS hXO hXS hSO ho hg6 hgg
    refine wpAny_ready (rs := [7]) (by kernel_rfl) (by simp) ?_
    refine AllReady.cons sop7 (fun KK1 hKK1 => ?_) AllReady.nil
    go_simp
    refine hKK1 _ _ ?_
    refine wpAny_ready (rs := [8]) (by kernel_rfl) (by simp) ?_
    refine AllReady.cons sop8 (fun KK2 hKK2 => ?_) AllReady.nil
    go_simp
    exact hKK2 _ _ (wpAny_done (by kernel_rfl) (hQ _ _ _ _ _ _ _ hfin) _)
  have s30 : ∀ (wr : World) (bA bE : Nat) (sA : ByteArray) (z12 : Value), K B cv len W wr → wr.heap[bE]? = some (.cells #[.string sA] 9 (0, 0)) → wpAny Try.prog .any sortOps Q 4 #[true, false, true, true, true, true, false, false, false] ({ tmps := #[.pointer (some ⟨B, 0, none⟩), y1, y2, .pointer (some ⟨X, 0, none⟩), y4, y5, y6, y7, y8, .pointer (some ⟨X, 0, none⟩), undef, .pointer (some ⟨B, 0, none⟩), z12, .string sA, .slice (some ⟨bE, 0, none⟩) 1 1, undef, undef, y17, y18, y19, y20, y21, y22, y23, y24, y25, y26, y27, y28, y29, y30, y31, y32, y33, y34, y35, y36, y37, y38, y39, y40, y41, y42], defers := [] } : Act) wr := by
    intro wr bA bE sA z12 hK0 hE
    have hc1 := (cells_of2 (HMK.out wr hK0).1.1).1.1
    have hnB : wr.heap.size ≠ B := by have := hK0.2.lt; omega
    have HH0 := Lib.hid hnB
    refine wpAny_ready (rs := [1]) (by kernel_rfl) (by simp) ?_
    refine AllReady.cons sop1 (fun KK hKK => ?_) ?_
    · go_simp
      exact hKK _ _ (s31 wr bA bE sA z12 (hK0) (hE))
    exact AllReady.nil
  have s21 : ∀ (wr : World) (bA bE : Nat) (sA : ByteArray) (z12 : Value), K B cv len W wr → wpAny Try.prog .any sortOps Q 4 #[true, true, true, true, true, false, false, false, false] ({ tmps := #[.pointer (some ⟨B, 0, none⟩), y1, y2, .pointer (some ⟨X, 0, none⟩), y4, y5, y6, y7, y8, .pointer (some ⟨X, 0, none⟩), (.slice (some ⟨S, 0, none⟩) 2 cs), .pointer (some ⟨B, 0, none⟩), z12, .string sA, undef, undef, undef, y17, y18, y19, y20, y21, y22, y23, y24, y25, y26, y27, y28, y29, y30, y31, y32, y33, y34, y35, y36, y37, y38, y39, y40, y41, y42], defers := [] } : Act) wr := by
    intro wr bA bE sA z12 hK0
    have hc1 := (cells_of2 (HMK.out wr hK0).1.1).1.1
    have hnB : wr.heap.size ≠ B := by have := hK0.2.lt; omega
    have HH0 := Lib.hid hnB
    refine wpAny_ready (rs := [5]) (by kernel_rfl) (by simp) ?_
    refine AllReady.cons sop5 (fun KK hKK => ?_) ?_
    · go_simp
      exact hKK _ _ (s31 (wr.alloc (.cells #[.string sA] 9)) bA wr.heap.size sA z12 (hK0.alloc _) (heap_new wr _ rfl))
    exact AllReady.nil
  have s20 : ∀ (wr : World) (bA bE : Nat) (sA : ByteArray) (z12 : Value), K B cv len W wr → wpAny Try.prog .any sortOps Q 5 #[true, false, true, true, true, false, false, false, false] ({ tmps := #[.pointer (some ⟨B, 0, none⟩), y1, y2, .pointer (some ⟨X, 0, none⟩), y4, y5, y6, y7, y8, .pointer (some ⟨X, 0, none⟩), undef, .pointer (some ⟨B, 0, none⟩), z12, .string sA, undef, undef, undef, y17, y18, y19, y20, y21, y22, y23, y24, y25, y26, y27, y28, y29, y30, y31, y32, y33, y34, y35, y36, y37, y38, y39, y40, y41, y42], defers := [] } : Act) wr := by
    intro wr bA bE sA z12 hK0
    have hc1 := (cells_of2 (HMK.out wr hK0).1.1).1.1
    have hnB : wr.heap.size ≠ B := by have := hK0.2.lt; omega
    have HH0 := Lib.hid hnB
    refine wpAny_ready (rs := [1, 5]) (by kernel_rfl) (by simp) ?_
    refine AllReady.cons sop1 (fun KK hKK => ?_) ?_
    · go_simp
      exact hKK _ _ (s21 wr bA bE sA z12 (hK0))
    refine AllReady.cons sop5 (fun KK hKK => ?_) ?_
    · go_simp
      exact hKK _ _ (s30 (wr.alloc (.cells #[.string sA] 9)) bA wr.heap.size sA z12 (hK0.alloc _) (heap_new wr _ rfl))
    exact AllReady.nil
  have s11 : ∀ (wr : World) (bA bE : Nat) (sA : ByteArray) (z12 : Value), K B cv len W wr → (bA ≠ B ∧ wr.heap[bA]? = some (.cells #[.string ⟨#[101]⟩, .string ⟨#[119, 111, 114, 100]⟩, .string ⟨#[88]⟩, .string ⟨#[112]⟩] 9 (0, 0))) → wpAny Try.prog .any sortOps Q 5 #[true, true, true, true, false, false, false, false, false] ({ tmps := #[.pointer (some ⟨B, 0, none⟩), y1, y2, .pointer (some ⟨X, 0, none⟩), y4, y5, y6, y7, y8, .pointer (some ⟨X, 0, none⟩), (.slice (some ⟨S, 0, none⟩) 2 cs), .pointer (some ⟨B, 0, none⟩), .slice (some ⟨bA, 0, none⟩) 4 4, undef, undef, undef, undef, y17, y18, y19, y20, y21, y22, y23, y24, y25, y26, y27, y28, y29, y30, y31, y32, y33, y34, y35, y36, y37, y38, y39, y40, y41, y42], defers := [] } : Act) wr := by
    intro wr bA bE sA z12 hK0 hA
    have hc1 := (cells_of2 (HMK.out wr hK0).1.1).1.1
    have hnB : wr.heap.size ≠ B := by have := hK0.2.lt; omega
    have HH0 := Lib.hid hnB
    refine wpAny_ready (rs := [4]) (by kernel_rfl) (by simp) ?_
    refine AllReady.cons sop4 (fun KK hKK => ?_) ?_
    · go_simp
      refine (pick_any B bA 4 cv len [⟨#[101]⟩, ⟨#[119, 111, 114, 100]⟩, ⟨#[88]⟩, ⟨#[112]⟩] wr (by decide) (by decide) hA.1 (row_cells (ps := [⟨#[101]⟩, ⟨#[119, 111, 114, 100]⟩, ⟨#[88]⟩, ⟨#[112]⟩]) hA.2) (HMK.out wr hK0).2.2.2.2 hK0.2).mono ?_
      rintro e w4 ⟨_, hm, rfl, hu4, hg4⟩
      obtain ⟨pp, _, rfl⟩ := List.mem_map.1 hm
      exact hKK _ _ (s21 w4 bA bE pp (.slice (some ⟨bA, 0, none⟩) 4 4) (⟨grown_trans hK0.1 hg4, hu4⟩))
    exact AllReady.nil
  have s10 : ∀ (wr : World) (bA bE : Nat) (sA : ByteArray) (z12 : Value), K B cv len W wr → (bA ≠ B ∧ wr.heap[bA]? = some (.cells #[.string ⟨#[101]⟩, .string ⟨#[119, 111, 114, 100]⟩, .string ⟨#[88]⟩, .string ⟨#[112]⟩] 9 (0, 0))) → wpAny Try.prog .any sortOps Q 6 #[true, false, true, true, false, false, false, false, false] ({ tmps := #[.pointer (some ⟨B, 0, none⟩), y1, y2, .pointer (some ⟨X, 0, none⟩), y4, y5, y6, y7, y8, .pointer (some ⟨X, 0, none⟩), undef, .pointer (some ⟨B, 0, none⟩), .slice (some ⟨bA, 0, none⟩) 4 4, undef, undef, undef, undef, y17, y18, y19, y20, y21, y22, y23, y24, y25, y26, y27, y28, y29, y30, y31, y32, y33, y34, y35, y36, y37, y38, y39, y40, y41, y42], defers := [] } : Act) wr := by
    intro wr bA bE sA z12 hK0 hA
    have hc1 := (cells_of2 (HMK.out wr hK0).1.1).1.1
    have hnB : wr.heap.size ≠ B := by have := hK0.2.lt; omega
    have HH0 := Lib.hid hnB
    refine wpAny_ready (rs := [1, 4]) (by kernel_rfl) (by simp) ?_
    refine AllReady.cons sop1 (fun KK hKK => ?_) ?_
    · go_simp
      exact hKK _ _ (s11 wr bA bE sA z12 (hK0) (hA))
    refine AllReady.cons sop4 (fun KK hKK => ?_) ?_
    · go_simp
      refine (pick_any B bA 4 cv len [⟨#[101]⟩, ⟨#[119, 111, 114, 100]⟩, ⟨#[88]⟩, ⟨#[112]⟩] wr (by decide) (by decide) hA.1 (row_cells (ps := [⟨#[101]⟩, ⟨#[119, 111, 114, 100]⟩, ⟨#[88]⟩, ⟨#[112]⟩]) hA.2) (HMK.out wr hK0).2.2.2.2 hK0.2).mono ?_
      rintro e w4 ⟨_, hm, rfl, hu4, hg4⟩
      obtain ⟨pp, _, rfl⟩ := List.mem_map.1 hm
      exact hKK _ _ (s20 w4 bA bE pp (.slice (some ⟨bA, 0, none⟩) 4 4) (⟨grown_trans hK0.1 hg4, hu4⟩))
    exact AllReady.nil
  have s01 : ∀ (wr : World) (bA bE : Nat) (sA : ByteArray) (z12 : Value), K B cv len W wr → wpAny Try.prog .any sortOps Q 6 #[true, true, true, false, false, false, false, false, false] ({ tmps := #[.pointer (some ⟨B, 0, none⟩), y1, y2, .pointer (some ⟨X, 0, none⟩), y4, y5, y6, y7, y8, .pointer (some ⟨X, 0, none⟩), (.slice (some ⟨S, 0, none⟩) 2 cs), .pointer (some ⟨B, 0, none⟩), undef, undef, undef, undef, undef, y17, y18, y19, y20, y21, y22, y23, y24, y25, y26, y27, y28, y29, y30, y31, y32, y33, y34, y35, y36, y37, y38, y39, y40, y41, y42], defers := [] } : Act) wr := by
    intro wr bA bE sA z12 hK0
    have hc1 := (cells_of2 (HMK.out wr hK0).1.1).1.1
    have hnB : wr.heap.size ≠ B := by have := hK0.2.lt; omega
    have HH0 := Lib.hid hnB
    refine wpAny_ready (rs := [3]) (by kernel_rfl) (by simp) ?_
    refine AllReady.cons sop3 (fun KK hKK => ?_) ?_
    · go_simp
      exact hKK _ _ (s11 (wr.alloc (.cells #[.string ⟨#[101]⟩, .string ⟨#[119, 111, 114, 100]⟩, .string ⟨#[88]⟩, .string ⟨#[112]⟩] 9)) wr.heap.size bE sA z12 (hK0.alloc _) (⟨hnB, heap_new wr _ rfl⟩))
    exact AllReady.nil
  have s00 : ∀ (wr : World) (bA bE : Nat) (sA : ByteArray) (z12 : Value), K B cv len W wr → wpAny Try.prog .any sortOps Q 7 #[true, false, true, false, false, false, false, false, false] ({ tmps := #[.pointer (some ⟨B, 0, none⟩), y1, y2, .pointer (some ⟨X, 0, none⟩), y4, y5, y6, y7, y8, .pointer (some ⟨X, 0, none⟩), undef, .pointer (some ⟨B, 0, none⟩), undef, undef, undef, undef, undef, y17, y18, y19, y20, y21, y22, y23, y24, y25, y26, y27, y28, y29, y30, y31, y32, y33, y34, y35, y36, y37, y38, y39, y40, y41, y42], defers := [] } : Act) wr := by
    intro wr bA bE sA z12 hK0
    have hc1 := (cells_of2 (HMK.out wr hK0).1.1).1.1
    have hnB : wr.heap.size ≠ B := by have := hK0.2.lt; omega
    have HH0 := Lib.hid hnB
    refine wpAny_ready (rs := [1, 3]) (by kernel_rfl) (by simp) ?_
    refine AllReady.cons sop1 (fun KK hKK => ?_) ?_
    · go_simp
      exact hKK _ _ (s01 wr bA bE sA z12 (hK0))
    refine AllReady.cons sop3 (fun KK hKK => ?_) ?_
    · go_simp
      exact hKK _ _ (s10 (wr.alloc (.cells #[.string ⟨#[101]⟩, .string ⟨#[119, 111, 114, 100]⟩, .string ⟨#[88]⟩, .string ⟨#[112]⟩] 9)) wr.heap.size bE sA z12 (hK0.alloc _) (⟨hnB, heap_new wr _ rfl⟩))
    exact AllReady.nil
  have hcur0 : CurAt W B cv len := hm.2.2.1
  refine wp_region_any (by kernel_rfl) ?_
  change wpAny Try.prog .any sortOps Q 9 #[false, false, false, false, false, false, false, false, false] ({ tmps := #[.pointer (some ⟨B, 0, none⟩), y1, y2, .pointer (some ⟨X, 0, none⟩), y4, y5, y6, y7, y8, undef, undef, undef, undef, undef, undef, undef, undef, y17, y18, y19, y20, y21, y22, y23, y24, y25, y26, y27, y28, y29, y30, y31, y32, y33, y34, y35, y36, y37, y38, y39, y40, y41, y42], defers := [] } : Act) W.drew
  refine wpAny_take (i := 0) (v := ?_) sop0 (by kernel_rfl) (by kernel_rfl) (by kernel_rfl) (fun _ _ _ h => hQp _ _ _ _ _ h) (Or.inl ⟨by rfl, ?hy0⟩) ?_
  case hy0 => (intro ww; go_simp; try with_reducible rfl)
  refine wpAny_take (i := 2) (v := ?_) sop2 (by kernel_rfl) (by kernel_rfl) (by kernel_rfl) (fun _ _ _ h => hQp _ _ _ _ _ h) (Or.inl ⟨by rfl, ?hy2⟩) ?_
  case hy2 => (intro ww; go_simp; try with_reducible rfl)
  exact s00 W.drew 0 0 .empty undef ⟨⟨rfl, rfl, rfl, Nat.le_refl _, fun _ _ _ => rfl⟩, hcur0⟩
end Go.Proofs.Ytcmhiindjponcaa
namespace Go.Proofs.Ytcmhiindjponcaa
open Go.RowKit

def Base2 (w : World) (e : Ending) (w' : World) : Prop := ∃ S O cs co vs, e = .returned (sv (.slice (some ⟨S, 0, none⟩) 2 cs) (.slice (some ⟨O, 0, none⟩) 7 co)) ∧ S ≠ O ∧ w'.ownsRow w.heap.size 9 1 (.slice (some ⟨S, 0, none⟩) 2 cs) 2 (baseSorts.map Value.string) ∧
  w'.ownsRow w.heap.size 47 3 (.slice (some ⟨O, 0, none⟩) 7 co) 7 vs ∧ CellsOps w' O w.heap.size baseOps vs ∧ CellsOps w' S w.heap.size baseOps vs ∧ Below w.heap.size w w'
theorem base2_any (w : World) : Calls Try.prog 87 #[] w (Base2 w) :=
  (base_any w).mono fun _ _ ⟨_, _, he, ⟨S, O, cs, co, vs, hu, hv, hne, hs, ho, hc, hc2⟩, hb⟩ => ⟨S, O, cs, co, vs, by rw [he, hu, hv]; rfl, hne, by rw [hu] at hs; exact hs, by rw [hv] at ho; exact ho, hc, hc2, hb⟩

set_option maxRecDepth 100000 in
set_option maxHeartbeats 3200000 in
theorem bent_any (B : Nat) (cv : Value) (len : Nat) (w : World) (hcode : CodeAt w B cv len) (hcur : CurAt w B cv len) :
    Calls Try.prog 45 #[.pointer (some ⟨B, 0, none⟩)] w (BentEnd B cv len w) := by
  obtain ⟨W, hW⟩ : ∃ W, W = w.alloc (.cells #[.slice none 0 0, .slice none 0 0] 27) := ⟨_, rfl⟩
  have hbW : Below w.heap.size w W := by rw [hW]; exact (Below.refl _ _).alloc (Nat.le_refl _) _
  have r0 : W.heap[w.heap.size]? = some (.cells #[.slice none 0 0, .slice none 0 0] 27 (0, 0)) := by rw [hW]; exact heap_new w _ rfl
  have hz : W.heap.size = w.heap.size + 1 := by rw [hW]; simp
  have hBlt := hcur.lt
  have HC := Lib.hid (And.intro hcode hcur); clear hcode hcur
  go_enter Try.func45, Try.ntmps45
  go_wp2_with fail
  rw [← hW]
  clear hW
  refine (base2_any W).mono ?_
  rintro e w1 ⟨S, O, cs, co, vs, rfl, hSO, hs, ho, hce, hce2, hb1⟩
  rw [hz] at hs ho hce hce2
  obtain ⟨W2, hW2⟩ : ∃ W2, W2 = w1.alloc (.cells #[.slice (some ⟨S, 0, none⟩) 2 cs, .slice (some ⟨O, 0, none⟩) 7 co] 27) := ⟨_, rfl⟩
  have hb2 : Below w1.heap.size w1 W2 := by rw [hW2]; exact (Below.refl _ _).alloc (Nat.le_refl _) _
  have hz1 := hb1.size
  have hbw2 : Below w.heap.size w W2 := hbW.trans ((hb1.trans (hb2.mono hb1.size)).mono hbW.size)
  have hlS := hs.lt S rfl
  have hlO := ho.lt O rfl
  have HM2 : Hid (Mid B cv len w w1.heap.size S O cs co vs W2) := Lib.hid (by
    refine ⟨⟨by rw [hW2]; exact heap_new w1 _ rfl, ?_⟩, ⟨keep_own hs hb2, keep_own ho hb2, CellsOps.keep (fun ad v _ _ hv => by rw [hb2.cell (World.block_lt_of_cell? w1 _ hv)]; exact hv) hce, CellsOps.keep (fun ad v _ _ hv => by rw [hb2.cell (World.block_lt_of_cell? w1 _ hv)]; exact hv) hce2⟩, ?_, Below.toGrown hbw2 _, HC.out.1.grown hBlt (Below.toGrown hbw2 _)⟩
    · exact (hb2.block _ (by omega)).trans ((hb1.block _ (by omega)).trans r0)
    · obtain ⟨i, x, hi, hB⟩ := HC.out.2
      exact ⟨i, x, hi, (hbw2.block _ hBlt).trans hB⟩)
  have hX : w.heap.size + 1 ≤ w1.heap.size := by omega
  clear hs ho hce hce2 hb1 hb2 hbw2 r0 hbW
  go_wp2_with fail
  rw [← hW2]
  clear hW2
  refine (below_any B cv len 10 W2 (by omega) (by omega) HM2.out.2.2.2.2 HM2.out.2.2.1).mono ?_
  rintro e w3 ⟨x, rfl, x0, x1, hu3, hg3⟩
  have HM3 : Hid (Mid B cv len w w1.heap.size S O cs co vs w3) := Lib.hid (HM2.out.kept hBlt hX (by omega) (by omega) hg3 hu3)
  clear HM2 hu3 hg3
  have hSX := hlS
  by_cases hx0 : x = 0
  · subst hx0
    clear x0 x1
    go_wp2_with fail
    rename_i KK hKK
    refine bent4 B cv len w w1.heap.size S O cs co vs w3 _ _ _ _ _ _ _ _ _ _ _ _ _ _ _ _ _ _ _ _ _ _ _ _ _ _ _ _ _ _ _ _ _ hBlt hX hSX.1 hlO.1 (by omega) (by omega) hSO HM3.out ?_ (fun _ _ d _ _ h => by cases d <;> exact h)
    intro x10 x11 x12 x13 x14 x15 wf hG
    obtain ⟨u, v, ⟨⟨c0, c1⟩, ⟨d0, d1⟩, g0, g1⟩, ⟨ua, un, uc, rfl⟩, ⟨va, vn, vc, rfl⟩, hend⟩ := hG.fin hBlt
    have HEND := Lib.hid hend; clear hend hG
    (try simp only [Exit.inBlock, Exit.then])
    refine hKK _ _ ?_
    clear hKK
    go_wp2
    (try simp only [Exit.inBlock, Exit.then])
    refine bodyPost_ret (v := sv (.slice ua un uc) (.slice va vn vc)) ?hr rfl ?_
    case hr =>
      rw [results_cell (a := 2) (t := 27) (ad := ⟨w.heap.size, 0, none⟩) rfl rfl]
      go_simp
    exact HEND.out _ _
  · by_cases hx1 : x = 1
    · subst hx1
      clear x0 x1
      go_wp2_with fail
      rename_i KK hKK
      refine bent6 B cv len w w1.heap.size S O cs co vs w3 _ _ _ _ _ _ _ _ _ _ _ _ _ _ _ _ _ _ _ _ _ _ _ _ _ hBlt hX hSX.1 hlO.1 (by omega) (by omega) hSO HM3.out ?_ (fun _ _ d _ _ h => by cases d <;> exact h)
      intro x20 x21 x22 x23 x24 x25 x26 x27 x28 x29 x30 x31 x32 x33 wf hG
      obtain ⟨u, v, ⟨⟨c0, c1⟩, ⟨d0, d1⟩, g0, g1⟩, ⟨ua, un, uc, rfl⟩, ⟨va, vn, vc, rfl⟩, hend⟩ := hG.fin hBlt
      have HEND := Lib.hid hend; clear hend hG
      (try simp only [Exit.inBlock, Exit.then])
      refine hKK _ _ ?_
      clear hKK
      go_wp2
      (try simp only [Exit.inBlock, Exit.then])
      refine bodyPost_ret (v := sv (.slice ua un uc) (.slice va vn vc)) ?hr rfl ?_
      case hr =>
        rw [results_cell (a := 2) (t := 27) (ad := ⟨w.heap.size, 0, none⟩) rfl rfl]
        go_simp
      exact HEND.out _ _
    · by_cases hx2 : x = 2
      · subst hx2
        clear x0 x1
        have hsz3 := HM3.out.2.2.2.1.size
        have hG := MidG.arg (z := ⟨#[122, 122]⟩) HM3.out hBlt hlO.1 (by omega) hSO
        obtain ⟨u, v, ⟨⟨c0, c1⟩, ⟨d0, d1⟩, g0, g1⟩, ⟨ua, un, uc, rfl⟩, ⟨va, vn, vc, rfl⟩, hend⟩ := hG.fin hBlt
        have HEND := Lib.hid hend; clear hend hG
        obtain ⟨⟨b0, b1⟩, f0, f1⟩ := cells_of2 HM3.out.1.1
        have k1 := (HM3.out.2.1.2.1.alloc (.cells #[.string ⟨#[122, 122]⟩] 9)).frozenAt 1
        obtain ⟨u0, hu0⟩ : ∃ u0, (w3.alloc (.cells #[.string ⟨#[122, 122]⟩] 9)).cell? ⟨O, 1, none⟩ = some u0 := by
          obtain ⟨u0, rest, hvs, _⟩ := HM3.out.2.1.2.2.1
          exact ⟨u0, by rw [(HM3.out.2.1.2.1.alloc _).cellAt 1 (by decide), hvs]; rfl⟩
        go_wp2
        (try simp only [Exit.inBlock, Exit.then])
        refine bodyPost_ret (v := sv (.slice ua un uc) (.slice va vn vc)) ?hr rfl ?_
        case hr =>
          rw [results_cell (a := 2) (t := 27) (ad := ⟨w.heap.size, 0, none⟩) rfl rfl]
          go_simp
        exact HEND.out _ _
      · have b0 : (x == 0) = false := by simpa using hx0
        have b1 : (x == 1) = false := by simpa using hx1
        have b2 : (x == 2) = false := by simpa using hx2
        obtain ⟨⟨⟨c0, c1⟩, f0, f1⟩, ⟨⟨d0, d1⟩, g0, g1⟩⟩ := And.intro (cells_of2 HM3.out.1.1) (cells_of2 HM3.out.1.2)
        go_wp2
        (try simp only [Exit.inBlock, Exit.then])
        refine bodyPost_ret (v := sv (.slice (some ⟨S, 0, none⟩) 2 cs) (.slice (some ⟨O, 0, none⟩) 7 co)) ?hr rfl ?_
        case hr =>
          rw [results_cell (a := 2) (t := 27) (ad := ⟨w.heap.size, 0, none⟩) rfl rfl]
          go_simp
        exact bent_fin (ps := baseSorts) (ds := baseOps) HM3.out.2.1.1 HM3.out.2.1.2.1 HM3.out.2.1.2.2.1 (by decide) (by decide) (by decide) (by omega) hBlt (Nat.le_refl _) HM3.out.2.2.1 HM3.out.2.2.2.1 _ _
end Go.Proofs.Ytcmhiindjponcaa
namespace Go.Proofs.Ytcmhiindjponcaa
open Go.RowKit

/-- A signature stays when a block turns that holds no string. -/
theorem SigAt.kept {w w' : World} {B : Nat} {x : Value} {ps : List ByteArray} {ds : List OpD} (h : SigAt w x ps ds) (hs : ∀ j p, w.cell? ⟨B, j, none⟩ ≠ some (.string p)) (hg : w.grownBy w' (some B)) : SigAt w' x ps ds := by
  have key : ∀ (b j : Nat) (p : ByteArray), w.cell? ⟨b, j, none⟩ = some (.string p) → b ≠ B := fun b j p h e => hs j p (e ▸ h)
  have strs : ∀ (u : Value) (qs : List ByteArray), StrsAt w u qs → StrsAt w' u qs := fun u qs hq => by
    obtain ⟨a, cap, rfl, hq⟩ := hq
    rcases hq with hq | ⟨b, o, rfl, hq⟩
    · exact ⟨a, cap, rfl, Or.inl hq⟩
    · exact ⟨_, cap, rfl, Or.inr ⟨b, o, rfl, fun i p hp => hg.cell (hq i p hp) (fun e => key _ _ _ (hq i p hp) (by simpa using e))⟩⟩
  obtain ⟨u, v, rfl, h1, h2⟩ := h
  refine ⟨u, v, rfl, strs _ _ h1, ?_⟩
  obtain ⟨a, cap, rfl, h2⟩ := h2
  rcases h2 with h2 | ⟨b, o, rfl, h2⟩
  · exact ⟨a, cap, rfl, Or.inl h2⟩
  · refine ⟨_, cap, rfl, Or.inr ⟨b, o, rfl, fun i d hd => ?_⟩⟩
    obtain ⟨u', x0, x1, x2, x3⟩ := h2 i d hd
    have hb := key _ _ _ x0
    exact ⟨u', hg.cell x0 (fun e => hb (by simpa using e)), hg.cell x1 (fun e => hb (by simpa using e)), hg.cell x2 (fun e => hb (by simpa using e)), strs _ _ x3⟩
theorem no_string {w : World} {B : Nat} {cs : Array Value} {t : TypeId} (h : w.heap[B]? = some (.cells cs t (0, 0))) (hc : ∀ v ∈ cs, ∀ p, v ≠ .string p) : ∀ j p, w.cell? ⟨B, j, none⟩ ≠ some (.string p) := fun j p e => by
  rw [cell_of_row w B j _ _ _ h] at e
  exact hc _ (Array.mem_of_getElem? e) p rfl
theorem cur_no_string {w : World} {B len : Nat} {cv : Value} (h : CurAt w B cv len) (hc : CodeAt w B cv len) : ∀ j p, w.cell? ⟨B, j, none⟩ ≠ some (.string p) := by
  obtain ⟨i, x, _, hB⟩ := h
  obtain ⟨_, a, cap, rfl, _⟩ := hc
  refine no_string hB (fun v hv p => ?_)
  simp at hv
  rcases hv with rfl | rfl | rfl <;> simp

def findTexts : List ByteArray := [⟨#[97]⟩, ⟨#[102]⟩, ⟨#[112, 108, 117, 115]⟩, ⟨#[122, 122]⟩]
def builtTexts : List ByteArray := [⟨#[112, 108, 117, 115]⟩, ⟨#[109, 105, 110, 117, 115]⟩, ⟨#[116, 105, 109, 101, 115]⟩, ⟨#[102]⟩, ⟨#[]⟩]

/-- What a draw of a name hands back. -/
def DrawnName (w : World) (e : Ending) (w' : World) : Prop := ∃ p : ByteArray, e = .returned (.string p) ∧ p.size ≤ 1000 ∧ Below w.heap.size w w'

set_option maxRecDepth 100000 in
set_option maxHeartbeats 800000 in
theorem drawBuilt_any (cv : Value) (len : Nat) (w : World) (hcode : CodeAt w w.heap.size cv len) :
    Calls Try.prog 25 #[cv] w (DrawnName w) := by
  have HC := Lib.hid hcode; clear hcode
  go_enter Try.func25, Try.ntmps25
  go_wp2_with fail
  refine (new_any cv len _ HC.out).mono ?_
  rintro e w1 ⟨rfl, hu1, hb1, _⟩
  have HC1 := Lib.hid (HC.out.at_new hb1)
  have HU1 := Lib.hid hu1; clear hu1
  have HB1 := Lib.hid hb1; clear hb1
  have c : Calls Try.prog 47 #[.pointer (some ⟨w.heap.size, 0, none⟩), .slice (some ⟨w1.heap.size, 0, none⟩) 5 5] (w1.alloc (.cells (builtTexts.map Value.string).toArray 9)) (PickEnd (builtTexts.map Value.string) w.heap.size cv len (w1.alloc (.cells (builtTexts.map Value.string).toArray 9))) :=
    pick_any w.heap.size w1.heap.size 5 cv len builtTexts _ (by decide) (by decide) (by have := HU1.out.lt; omega) (new_strs w1 builtTexts _) (HC1.out.alloc HU1.out.lt _) (HU1.out.alloc _)
  have HK := Lib.hid c; clear c
  go_wp2_with fail
  refine HK.out.mono ?_
  rintro e w2 ⟨v, hv, rfl, hu2, hg2⟩
  obtain ⟨p, hp, rfl⟩ := List.mem_map.1 hv
  have HP : Hid (p.size ≤ 1000) := Lib.hid ((by decide : ∀ q ∈ builtTexts, q.size ≤ 1000) p hp); clear hp hv
  have HB2 := Lib.hid (below_own HB1.out (grown_trans (World.grownBy_alloc w1 _ (some w.heap.size)) hg2)); clear hg2 hu2
  go_wp2
  go_ret
  exact ⟨p, rfl, HP.out, HB2.out⟩

/-- What a draw of a signature and a name hands back. -/
def DrawnSig (w : World) (e : Ending) (w' : World) : Prop :=
  ∃ (u v : Value) (ps : List ByteArray) (ds : List OpD) (nm : ByteArray), e = .returned (.tuple #[sv u v, .string nm]) ∧ SigAt w' (sv u v) ps ds ∧ ps.length ≤ 3 ∧ ds.length ≤ 8 ∧ (∀ d ∈ ds, d.args.length ≤ 4) ∧ nm.size ≤ 1000 ∧ Below w.heap.size w w'

set_option maxRecDepth 100000 in
set_option maxHeartbeats 1600000 in
theorem drawFind_any (cv : Value) (len : Nat) (w : World) (hcode : CodeAt w w.heap.size cv len) :
    Calls Try.prog 21 #[cv] w (DrawnSig w) := by
  have HC := Lib.hid hcode; clear hcode
  go_enter Try.func21, Try.ntmps21
  obtain ⟨Z, hZ⟩ : ∃ Z, Z = w.alloc (.cells #[.slice none 0 0, .slice none 0 0] 27) := ⟨_, rfl⟩
  have hbz : Below w.heap.size w Z := by rw [hZ]; exact (Below.refl _ _).alloc (Nat.le_refl _) _
  have hzr : Z.heap[w.heap.size]? = some (.cells #[.slice none 0 0, .slice none 0 0] 27 (0, 0)) := by rw [hZ]; exact heap_new w _ rfl
  have hz : Z.heap.size = w.heap.size + 1 := by rw [hZ]; simp
  have HBZ := Lib.hid hbz
  have HZ := Lib.hid hz
  have HZR := Lib.hid hzr
  have HCZ := Lib.hid (HC.out.below hbz)
  have HN := Lib.hid (new_any cv len Z HCZ.out)
  clear hbz hz hzr
  go_wp2_with fail
  rw [← hZ]
  clear hZ
  refine HN.out.mono ?_
  rintro e w1 ⟨rfl, hu1, hb1, _⟩
  have HC1 := Lib.hid (HCZ.out.at_new hb1)
  have HU1 := Lib.hid hu1; clear hu1
  have HB1 := Lib.hid hb1; clear hb1
  go_wp2_with fail
  refine (bent_any Z.heap.size cv len _ HC1.out HU1.out).mono ?_
  rintro e w2 ⟨u, v, ps, ds, rfl, hs, l1, l2, l3, hu2, hg2⟩
  have HL := Lib.hid (And.intro l1 (And.intro l2 l3)); clear l1 l2 l3
  have hlt1 := HU1.out.lt
  have HC2 := Lib.hid (HC1.out.grown hlt1 hg2)
  have HU2 := Lib.hid hu2; clear hu2
  have HS2 := Lib.hid hs
  have HG2 := Lib.hid hg2; clear hg2
  have c : Calls Try.prog 47 #[.pointer (some ⟨Z.heap.size, 0, none⟩), .slice (some ⟨w2.heap.size, 0, none⟩) 4 4] (w2.alloc (.cells (findTexts.map Value.string).toArray 9)) (PickEnd (findTexts.map Value.string) Z.heap.size cv len (w2.alloc (.cells (findTexts.map Value.string).toArray 9))) :=
    pick_any Z.heap.size w2.heap.size 4 cv len findTexts _ (by decide) (by decide) (by have := HU2.out.lt; omega) (new_strs w2 findTexts _) (HC2.out.alloc HU2.out.lt _) (HU2.out.alloc _)
  have HK := Lib.hid c; clear c
  obtain ⟨ua, uc, eu⟩ : ∃ a c, u = .slice a ps.length c := by
    obtain ⟨a, b, e, h, _⟩ := hs
    obtain ⟨rfl, rfl⟩ : u = a ∧ v = b := by simpa [sv] using e
    exact h.slice
  obtain ⟨va, vc, ev⟩ : ∃ a c, v = .slice a ds.length c := by
    obtain ⟨a, b, e, _, h⟩ := hs
    obtain ⟨rfl, rfl⟩ : u = a ∧ v = b := by simpa [sv] using e
    exact h.slice
  clear hs
  subst eu ev
  obtain ⟨m, hm⟩ : ∃ m, m = ps.length := ⟨_, rfl⟩
  obtain ⟨n, hn⟩ : ∃ n, n = ds.length := ⟨_, rfl⟩
  rw [← hm, ← hn] at HS2 ⊢
  clear hm hn
  go_wp2_with fail
  refine HK.out.mono ?_
  rintro e w3 ⟨v3, hv, rfl, hu3, hg3⟩
  obtain ⟨nm, hp, rfl⟩ := List.mem_map.1 hv
  have HP : Hid (nm.size ≤ 1000) := Lib.hid ((by decide : ∀ q ∈ findTexts, q.size ≤ 1000) nm hp); clear hp hv
  have hg23 := grown_trans (World.grownBy_alloc w2 (.cells (findTexts.map Value.string).toArray 9) (some Z.heap.size)) hg3
  have hg13 := grown_trans HG2.out hg23
  have hs3 : SigAt w3 (sv (.slice ua m uc) (.slice va n vc)) ps ds := HS2.out.kept (cur_no_string HU2.out HC2.out) hg23
  have HB3 := Lib.hid (HBZ.out.trans ((below_own HB1.out hg13).mono HBZ.out.size))
  have hr3 : w3.heap[w.heap.size]? = some (.cells #[.slice none 0 0, .slice none 0 0] 27 (0, 0)) := ((below_own HB1.out hg13).block w.heap.size (by have := HZ.out; omega)).trans HZR.out
  have HF : Hid (∀ (a b : Option Addr) (i j k l : Nat), DrawnSig w (.returned (.tuple #[sv (.slice ua m uc) (.slice va n vc), .string nm])) ((w3.setCell ⟨w.heap.size, 0, none⟩ (.slice a i j)).setCell ⟨w.heap.size, 1, none⟩ (.slice b k l))) := Lib.hid (fun a b i j k l => by
    have s1 := hs3.kept (no_string hr3 (by simp)) (set_grown w3 w.heap.size 0 (.slice a i j))
    have r1 := heap_setCell_same w3 w.heap.size 0 _ _ (.slice a i j) hr3
    have s2 := s1.kept (no_string r1 (by simp)) (set_grown _ w.heap.size 1 (.slice b k l))
    exact ⟨_, _, ps, ds, nm, rfl, s2, HL.out.1, HL.out.2.1, HL.out.2.2, HP.out, (HB3.out.setCell (Nat.le_refl _) _).setCell (Nat.le_refl _) _⟩)
  obtain ⟨⟨d0, d1⟩, g0, g1⟩ := cells_of2 hr3
  clear hs3 hr3 hg23 hg13 hg3 hu3
  go_wp2
  (try simp only [Exit.inBlock, Exit.then])
  refine bodyPost_ret (v := .tuple #[sv (.slice ua m uc) (.slice va n vc), .string nm]) ?hr rfl ?_
  case hr =>
    rw [results_op (a := 2) (b := 3) (t := 27) (ad := ⟨w.heap.size, 0, none⟩) (x := sv (.slice ua m uc) (.slice va n vc)) rfl rfl]
    all_goals go_simp
  exact HF.out _ _ _ _ _ _
end Go.Proofs.Ytcmhiindjponcaa
namespace Go.Proofs.Ytcmhiindjponcaa
open Go.RowKit

set_option maxRecDepth 100000 in
set_option maxHeartbeats 400000 in
theorem sameT_empty (a b : Option Addr) (c d : Nat) (w : World) :
    Calls Try.prog 24 #[.slice a 0 c, .slice b 0 d] w fun e w' => e = .returned (.bool true) ∧ ∃ n, w' = w.drewN n := by
  go_enter Try.func24, Try.ntmps24
  go_wp2
  refine wp_loop_rounds 1 ?_
  rw [rounds_succ]
  go_wp2
  go_ret
  exact ⟨rfl, 0, rfl⟩

set_option maxRecDepth 100000 in
set_option maxHeartbeats 1600000 in
theorem sameT_some (b o c b' o' c' : Nat) (ps : List ByteArray) (w : World) (hl : ps.length ≤ 9223372036854775807)
    (h1 : ∀ i p, ps[i]? = some p → w.cell? ⟨b, o + i, none⟩ = some (.string p)) (h2 : ∀ i p, ps[i]? = some p → w.cell? ⟨b', o' + i, none⟩ = some (.string p)) :
    Calls Try.prog 24 #[.slice (some ⟨b, o, none⟩) ps.length c, .slice (some ⟨b', o', none⟩) ps.length c'] w fun e w' => e = .returned (.bool true) ∧ ∃ n, w' = w.drewN n := by
  have H1 := Lib.hid h1; clear h1
  have H2 := Lib.hid h2; clear h2
  obtain ⟨n, hn⟩ : ∃ n, n = ps.length := ⟨_, rfl⟩
  rw [← hn] at hl ⊢
  have HN := Lib.hid hn; clear hn
  have b0 : ((n : Int) != (n : Int)) = false := by simp
  go_enter Try.func24, Try.ntmps24
  go_wp2
  go_loopw [5] (fun i wr => ∃ k q : Nat, k ≤ n ∧ i = .int .i64 k ∧ wr = w.drewN q) (fun i _ => n - (intOf i).toNat)
  case atStart => exact ⟨0, 0, Nat.zero_le _, rfl, rfl⟩
  case round =>
    obtain ⟨k, q, hk, rfl, rfl⟩ := hrel
    by_cases hlt : k < n
    · obtain ⟨x, hx⟩ : ∃ x, ps[k]? = some x := ⟨_, List.getElem?_eq_getElem (by have := HN.out; omega)⟩
      have hc1 := H1.out k x hx
      have hc2 := H2.out k x hx
      have hxy : (x.toList != x.toList) = false := by simp
      have hxz : (x.toList == x.toList) = true := by simp
      clear hx
      go_wp2
      go_quiet (fail)
      go_wp2
      go_roundw
      case rel => exact ⟨k + 1, _, by omega, by go_num, rfl⟩
      case measure => simp [intOf]; omega
    · go_wp2
      go_ret
      exact ⟨rfl, q, rfl⟩

/-- Two slices of the same strings are found the same. -/
theorem sameT_any (v u : Value) (ps : List ByteArray) (w : World) (hl : ps.length ≤ 9223372036854775807) (h1 : StrsAt w v ps) (h2 : StrsAt w u ps) :
    Calls Try.prog 24 #[v, u] w fun e w' => e = .returned (.bool true) ∧ ∃ n, w' = w.drewN n := by
  obtain ⟨a, c, rfl, h1⟩ := h1
  obtain ⟨a', c', rfl, h2⟩ := h2
  rcases h1 with rfl | ⟨b, o, rfl, h1⟩
  · exact sameT_empty _ _ _ _ w
  · rcases h2 with rfl | ⟨b', o', rfl, h2⟩
    · exact sameT_empty _ _ _ _ w
    · exact sameT_some b o c b' o' c' ps w hl h1 h2
end Go.Proofs.Ytcmhiindjponcaa
namespace Go.Proofs.Ytcmhiindjponcaa
open Go.RowKit

def TrueAt (w : World) (e : Ending) (w' : World) : Prop := e = .returned (.bool true) ∧ Below w.heap.size w w'

set_option maxRecDepth 100000 in
set_option maxHeartbeats 400000 in
theorem big_any (a : Option Addr) (len cap : Nat) (w : World) :
    Calls Try.prog 10 #[.slice a len cap] w fun e w' => e = .returned (.bool (decide (1048576 < len))) ∧ w = w' := by
  go_enter Try.func10, Try.ntmps10
  go_wp2
  go_ret
  refine ⟨?_, rfl⟩
  rw [show decide (1048576 < len) = decide ((1048576 : Int) < (len : Int)) from decide_eq_decide.2 (by omega)]
  rfl
end Go.Proofs.Ytcmhiindjponcaa
namespace Go.Proofs.Ytcmhiindjponcaa
open Go.RowKit

theorem findD_nil (s : ByteArray) : (findD [] s).isSome = builtinB s := by
  unfold findD
  cases builtinB s <;> simp

theorem sig_zero (w : World) : SigAt w (sv (.slice none 0 0) (.slice none 0 0)) [] [] := ⟨_, _, rfl, ⟨none, 0, rfl, Or.inl rfl⟩, OpsAt.nil _ _ _⟩

set_option maxRecDepth 100000 in
set_option maxHeartbeats 6400000 in
theorem ops_any (a : Option Addr) (len cap : Nat) (w : World) (hcode : len ≤ 1048576 → CodeAt w w.heap.size (.slice a len cap) len) :
    Calls Try.prog 4 #[.slice a len cap] w (TrueEnd w) := by
  have HC := Lib.hid hcode; clear hcode
  by_cases hbig : 1048576 < len
  · have hd : decide (1048576 < len) = true := by simpa using hbig
    have HK := Lib.hid (big_any a len cap w)
    rw [hd] at HK
    go_enter Try.func4, Try.ntmps4
    go_wp2_with fail
    refine HK.out.mono ?_
    rintro e w1 ⟨rfl, rfl⟩
    go_wp2
    go_ret
    exact ⟨rfl, Below.refl _ _⟩
  have hd : decide (1048576 < len) = false := by simpa using hbig
  have HK := Lib.hid (big_any a len cap w)
  rw [hd] at HK
  have HC1 := Lib.hid (HC.out (by omega))
  go_enter Try.func4, Try.ntmps4
  go_wp2_with fail
  refine HK.out.mono ?_
  rintro e w0 ⟨rfl, rfl⟩
  clear HK hd hbig HC
  go_wp2_with fail
  refine (drawFind_any _ len _ HC1.out).mono ?_
  rintro e w1 ⟨u, v, ps, ds, nm, rfl, hs1, l1, l2, l3, l4, hb1⟩
  have HL := Lib.hid (And.intro l1 (And.intro l2 (And.intro l3 l4))); clear l1 l2 l3 l4
  have HB1 := Lib.hid hb1; clear hb1
  have HS1 := Lib.hid hs1
  obtain ⟨ua, uc, eu⟩ : ∃ a c, u = .slice a ps.length c := by
    obtain ⟨a, b, e, h, _⟩ := hs1
    obtain ⟨rfl, rfl⟩ : u = a ∧ v = b := by simpa [sv] using e
    exact h.slice
  obtain ⟨va, vc, ev⟩ : ∃ a c, v = .slice a ds.length c := by
    obtain ⟨a, b, e, _, h⟩ := hs1
    obtain ⟨rfl, rfl⟩ : u = a ∧ v = b := by simpa [sv] using e
    exact h.slice
  clear hs1
  subst eu ev
  obtain ⟨m, hm⟩ : ∃ m, m = ps.length := ⟨_, rfl⟩
  obtain ⟨n, hn⟩ : ∃ n, n = ds.length := ⟨_, rfl⟩
  rw [← hm, ← hn] at HS1 ⊢
  clear hm hn
  obtain ⟨W2, hW2⟩ : ∃ W2, W2 = w1.alloc (.cells #[.slice ua m uc, .slice va n vc] 27) := ⟨_, rfl⟩
  have hb2 : Below w1.heap.size w1 W2 := by rw [hW2]; exact (Below.refl _ _).alloc (Nat.le_refl _) _
  have h22 : W2.heap[w1.heap.size]? = some (.cells #[.slice ua m uc, .slice va n vc] 27 (0, 0)) := by rw [hW2]; exact heap_new w1 _ rfl
  have hz2 : W2.heap.size = w1.heap.size + 1 := by rw [hW2]; simp
  have HB2 := Lib.hid (HB1.out.trans (hb2.mono HB1.out.size))
  have HVW : Hid (∀ w', Below w1.heap.size w1 w' → SigAt w' (sv (.slice ua m uc) (.slice va n vc)) ps ds) := Lib.hid (fun w' hb => by
    obtain ⟨a, b, e, h1, h2⟩ := HS1.out
    exact ⟨a, b, e, h1.below hb, h2.below hb⟩)
  have HSF : Hid (∀ w' x, SigAt w' x ps ds → Calls Try.prog 23 #[x, .string nm] w' (FindE (findD ds nm) w')) := Lib.hid (fun w' x h => sFind_any x nm ps ds w' (by have := HL.out.2.2.2; omega) (by have := HL.out.2.1; omega) (fun d hd => by have := HL.out.2.2.1 d hd; omega) h)
  have HIF : Hid (∀ w' x, SigAt w' x ps ds → Calls Try.prog 22 #[x, .string nm] w' (FindE (findD ds nm) w')) := Lib.hid (fun w' x h => iFind_any x nm ps ds w' (by have := HL.out.2.1; omega) (fun d hd => by have := HL.out.2.2.1 d hd; omega) h)
  have HDL : Hid (((findD ds nm).getD zOp).args.length ≤ 1048576) := Lib.hid (by
    unfold findD
    split
    · simp
    · cases hf : ds.find? (fun d => d.name.toList == nm.toList) with
      | none => simp [zOp]
      | some d => have := HL.out.2.2.1 d (List.mem_of_find?_eq_some hf); simp; omega)
  unfold FindE at HSF HIF
  obtain ⟨D, hD⟩ : ∃ D, D = (findD ds nm).getD zOp := ⟨_, rfl⟩
  obtain ⟨bs, hbs⟩ : ∃ b, b = (findD ds nm).isSome := ⟨_, rfl⟩
  rw [← hD, ← hbs] at HSF HIF
  rw [← hD] at HDL
  clear hD hbs
  obtain ⟨dn, das, dr⟩ := D
  have HDL2 : Hid (das.length ≤ 1048576) := Lib.hid HDL.out
  clear HDL
  have hbb : (bs != bs) = false := by simp
  have H2B : Hid (∀ w', Below W2.heap.size W2 w' → Below w1.heap.size w1 w' ∧ w'.heap[w1.heap.size]? = some (.cells #[.slice ua m uc, .slice va n vc] 27 (0, 0))) := Lib.hid (fun w' hb => ⟨hb2.trans (hb.mono hb2.size), (hb.block _ (by omega)).trans h22⟩)
  obtain ⟨⟨c0, c1⟩, _⟩ := cells_of2 h22
  clear h22 hb2 HS1
  go_wp2_with fail
  rw [← hW2]
  clear hW2
  refine (HIF.out W2 _ (HVW.out _ (H2B.out _ (Below.refl _ _)).1)).mono ?_
  rintro e w3 ⟨u3, rfl, ho3, hb3⟩
  obtain ⟨a3, c3, rfl⟩ := own_formF ho3
  clear c0 c1
  obtain ⟨W4, hW4⟩ : ∃ W4, W4 = w3.alloc (.cells #[.string dn, .slice a3 das.length c3, .string dr] 47) := ⟨_, rfl⟩
  have hb4 : Below w3.heap.size w3 W4 := by rw [hW4]; exact (Below.refl _ _).alloc (Nat.le_refl _) _
  have h44 : W4.heap[w3.heap.size]? = some (.cells #[.string dn, .slice a3 das.length c3, .string dr] 47 (0, 0)) := by rw [hW4]; exact heap_new w3 _ rfl
  have hz4 : W4.heap.size = w3.heap.size + 1 := by rw [hW4]; simp
  have HB24 := Lib.hid (hb3.trans (hb4.mono hb3.size))
  have HB4 := Lib.hid (HB2.out.trans (HB24.out.mono HB2.out.size))
  have H3 := Lib.hid (keep_own ho3 hb4)
  have H4B : Hid (∀ w', Below W4.heap.size W4 w' → w'.heap[w3.heap.size]? = some (.cells #[.string dn, .slice a3 das.length c3, .string dr] 47 (0, 0)) ∧ w'.ownsRow W2.heap.size 9 1 (.slice a3 das.length c3) das.length (das.map Value.string)) := Lib.hid (fun w' hb => ⟨(hb.block _ (by omega)).trans h44, keep_own H3.out hb⟩)
  obtain ⟨hs4, hx4⟩ := H2B.out W4 HB24.out
  obtain ⟨⟨c0, c1⟩, _⟩ := cells_of2 hx4
  have HS4 := Lib.hid (HVW.out _ hs4)
  rw [hW4] at c0 c1
  clear ho3 hb3 hb4 h44 hs4 hx4
  go_wp2_with fail
  rw [← hW4]
  clear hW4 c0 c1
  refine (HSF.out W4 _ HS4.out).mono ?_
  rintro e w5 ⟨u5, rfl, ho5, hb5⟩
  obtain ⟨a5, c5, rfl⟩ := own_formF ho5
  obtain ⟨W6, hW6⟩ : ∃ W6, W6 = w5.alloc (.cells #[.string dn, .slice a5 das.length c5, .string dr] 47) := ⟨_, rfl⟩
  have hb6 : Below w5.heap.size w5 W6 := by rw [hW6]; exact (Below.refl _ _).alloc (Nat.le_refl _) _
  have h66 : W6.heap[w5.heap.size]? = some (.cells #[.string dn, .slice a5 das.length c5, .string dr] 47 (0, 0)) := by rw [hW6]; exact heap_new w5 _ rfl
  have HB46 := Lib.hid (hb5.trans (hb6.mono hb5.size))
  have HB6 := Lib.hid (HB4.out.trans (HB46.out.mono HB4.out.size))
  have H5 := Lib.hid (StrsAt.of_owns (keep_own ho5 hb6))
  obtain ⟨x4, ho4⟩ := H4B.out W6 HB46.out
  have H36 := Lib.hid (StrsAt.of_owns ho4)
  obtain ⟨⟨c0, c1, c2⟩, _⟩ := cells_of3 x4
  obtain ⟨⟨d0, d1, d2⟩, _⟩ := cells_of3 h66
  rw [hW6] at c0 c1 c2 d0 d1 d2
  clear ho5 hb5 hb6 h66 x4 ho4
  go_wp2_with fail
  rw [← hW6]
  clear hW6 c0 c1 c2 d0 d1 d2
  refine (sameT_any _ _ das W6 (by have := HDL2.out; omega) H36.out H5.out).mono ?_
  rintro e w7 ⟨rfl, q, rfl⟩
  have HB7 := Lib.hid (HB6.out.trans ((below_q W6 q).mono HB6.out.size))
  go_wp2_with fail
  refine (drawBuilt_any _ len _ (HC1.out.below HB7.out)).mono ?_
  rintro e w8 ⟨t, rfl, ht, hb8⟩
  have HB8 := Lib.hid (HB7.out.trans (hb8.mono HB7.out.size))
  have HT : Hid (t.size ≤ 1000) := Lib.hid ht
  clear hb8 ht
  have HI := Lib.hid (iFind_any _ t [] [] w8 (by decide) (by simp) (sig_zero w8))
  unfold FindE at HI
  rw [findD_nil] at HI
  obtain ⟨D, hD⟩ : ∃ D, D = (findD [] t).getD zOp := ⟨_, rfl⟩
  rw [← hD] at HI
  clear hD
  obtain ⟨en, eas, er⟩ := D
  obtain ⟨bt, hbt⟩ : ∃ b, b = builtinB t := ⟨_, rfl⟩
  rw [← hbt] at HI
  have HBI : Hid (∀ w', Calls Try.prog 26 #[.string t] w' (fun e w'' => e = .returned (.bool bt) ∧ w'' = w')) := Lib.hid (fun w' => by rw [hbt]; exact iBuiltin_any t w')
  have HBS : Hid (∀ w', Calls Try.prog 27 #[.string t] w' (fun e w'' => e = .returned (.bool bt) ∧ w'' = w')) := Lib.hid (fun w' => by rw [hbt]; exact sBuiltin_any t w')
  clear hbt
  have hbe : (bt == bt) = true := by simp
  go_wp2_with fail
  refine HI.out.mono ?_
  rintro e w9 ⟨u9, rfl, ho9, hb9⟩
  obtain ⟨a9, c9, rfl⟩ := own_formF ho9
  obtain ⟨W10, hW10⟩ : ∃ W10, W10 = w9.alloc (.cells #[.string en, .slice a9 eas.length c9, .string er] 47) := ⟨_, rfl⟩
  have hb10 : Below w9.heap.size w9 W10 := by rw [hW10]; exact (Below.refl _ _).alloc (Nat.le_refl _) _
  have HB10 := Lib.hid (HB8.out.trans ((hb9.trans (hb10.mono hb9.size)).mono HB8.out.size))
  clear ho9 hb9 hb10
  go_wp2_with fail
  rw [← hW10]
  clear hW10
  refine (HBI.out W10).mono ?_
  rintro e w11 ⟨rfl, rfl⟩
  go_wp2_with fail
  refine (HBI.out _).mono ?_
  rintro e w12 ⟨rfl, rfl⟩
  go_wp2_with fail
  refine (HBS.out _).mono ?_
  rintro e w13 ⟨rfl, rfl⟩
  go_wp2
  go_ret
  exact ⟨rfl, HB10.out⟩
end Go.Proofs.Ytcmhiindjponcaa
