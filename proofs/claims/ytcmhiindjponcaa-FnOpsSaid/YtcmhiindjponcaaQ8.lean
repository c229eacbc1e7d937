/-
  The statement of spec.l6Bent that appends a drawn operator: in whatever order its operations come.
-/
import Derived.Test.YtcmhiindjponcaaQ7
import Derived.Test.YtcmhiindjponcaaQ3
namespace Go.Proofs.Ytcmhiindjponcaa
open Go.RowKit

/-- The operations of the statement. -/
def bentOps : Array Oper := #[
  { dst := some 19, op := Op.fieldAddr 27 (Operand.tmp 3) 1, type := 0, pos := "l06_signature.go:153", after := #[], guard := none },
  { dst := some 20, op := Op.load 25 (Operand.tmp 19), type := 25, pos := "l06_signature.go:153", after := #[{ on := 0, ground := Ground.data }], guard := none },
  { dst := some 21, op := Op.move (Operand.tmp 0), type := 78, pos := "l06_signature.go:153", after := #[], guard := none },
  { dst := some 22, op := Op.buildSlice 24 3 #[(0, Operand.const (Value.string ⟨#[97]⟩)), (1, Operand.const (Value.string ⟨#[112, 108, 117, 115]⟩)), (2, Operand.const (Value.string ⟨#[110, 101, 119]⟩))], type := 24, pos := "l06_signature.go:153", after := #[], guard := none },
  { dst := some 23, op := Op.call { callee := Callee.value (Operand.func 47), args := #[Operand.tmp 21, Operand.tmp 22], argTypes := #[78, 24] }, type := 9, pos := "l06_signature.go:153", after := #[{ on := 2, ground := Ground.data }, { on := 3, ground := Ground.data }], guard := none },
  { dst := some 24, op := Op.buildSlice 24 4 #[(0, Operand.const (Value.string ⟨#[101]⟩)), (1, Operand.const (Value.string ⟨#[101]⟩)), (2, Operand.const (Value.string ⟨#[101]⟩)), (3, Operand.const (Value.string ⟨#[101]⟩))], type := 24, pos := "l06_signature.go:153", after := #[], guard := none },
  { dst := some 25, op := Op.move (Operand.tmp 0), type := 78, pos := "l06_signature.go:153", after := #[], guard := none },
  { dst := some 26, op := Op.call { callee := Callee.value (Operand.func 88), args := #[Operand.tmp 25, Operand.const (Value.int IntKind.i64 5)], argTypes := #[78, 3] }, type := 3, pos := "l06_signature.go:153", after := #[{ on := 6, ground := Ground.data }, { on := 4, ground := Ground.chain }], guard := none },
  { dst := some 27, op := Op.slice 24 (Operand.tmp 24) none (some (Operand.tmp 26)) none, type := 24, pos := "l06_signature.go:153", after := #[{ on := 5, ground := Ground.data }, { on := 7, ground := Ground.data }], guard := none },
  { dst := some 28, op := Op.move (Operand.tmp 0), type := 78, pos := "l06_signature.go:153", after := #[], guard := none },
  { dst := some 29, op := Op.buildSlice 24 2 #[(0, Operand.const (Value.string ⟨#[101]⟩)), (1, Operand.const (Value.string ⟨#[122, 122]⟩))], type := 24, pos := "l06_signature.go:153", after := #[], guard := none },
  { dst := some 30, op := Op.call { callee := Callee.value (Operand.func 47), args := #[Operand.tmp 28, Operand.tmp 29], argTypes := #[78, 24] }, type := 9, pos := "l06_signature.go:153", after := #[{ on := 9, ground := Ground.data }, { on := 10, ground := Ground.data }, { on := 7, ground := Ground.chain }], guard := none },
  { dst := some 31, op := Op.build 47 #[(0, Operand.tmp 23), (1, Operand.tmp 27), (2, Operand.tmp 30)], type := 47, pos := "l06_signature.go:153", after := #[{ on := 4, ground := Ground.data }, { on := 8, ground := Ground.data }, { on := 11, ground := Ground.data }], guard := none },
  { dst := some 32, op := Op.buildSlice 25 1 #[(0, Operand.tmp 31)], type := 25, pos := "l06_signature.go:153", after := #[{ on := 12, ground := Ground.data }], guard := none },
  { dst := some 33, op := Op.call { callee := Callee.builtin Builtin.append, args := #[Operand.tmp 20, Operand.tmp 32], argTypes := #[25, 25] }, type := 25, pos := "l06_signature.go:153", after := #[{ on := 1, ground := Ground.data }, { on := 13, ground := Ground.data }, { on := 11, ground := Ground.chain }], guard := none },
  { dst := some 34, op := Op.fieldAddr 27 (Operand.tmp 3) 1, type := 0, pos := "l06_signature.go:153", after := #[{ on := 0, ground := Ground.phase }, { on := 1, ground := Ground.phase }, { on := 2, ground := Ground.phase }, { on := 3, ground := Ground.phase }, { on := 4, ground := Ground.phase }, { on := 5, ground := Ground.phase }, { on := 6, ground := Ground.phase }, { on := 7, ground := Ground.phase }, { on := 8, ground := Ground.phase }, { on := 9, ground := Ground.phase }, { on := 10, ground := Ground.phase }, { on := 11, ground := Ground.phase }, { on := 12, ground := Ground.phase }, { on := 13, ground := Ground.phase }, { on := 14, ground := Ground.phase }], guard := none },
  { dst := none, op := Op.store 25 (Operand.tmp 34) (Operand.tmp 33), type := 0, pos := "l06_signature.go:153", after := #[{ on := 15, ground := Ground.data }, { on := 14, ground := Ground.data }, { on := 14, ground := Ground.chain }, { on := 0, ground := Ground.phase }, { on := 1, ground := Ground.phase }, { on := 2, ground := Ground.phase }, { on := 3, ground := Ground.phase }, { on := 4, ground := Ground.phase }, { on := 5, ground := Ground.phase }, { on := 6, ground := Ground.phase }, { on := 7, ground := Ground.phase }, { on := 8, ground := Ground.phase }, { on := 9, ground := Ground.phase }, { on := 10, ground := Ground.phase }, { on := 11, ground := Ground.phase }, { on := 12, ground := Ground.phase }, { on := 13, ground := Ground.phase }, { on := 14, ground := Ground.phase }], guard := none }]
theorem bop0 : bentOps[0]? = some { dst := some 19, op := Op.fieldAddr 27 (Operand.tmp 3) 1, type := 0, pos := "l06_signature.go:153", after := #[], guard := none } := by kernel_rfl
theorem bop1 : bentOps[1]? = some { dst := some 20, op := Op.load 25 (Operand.tmp 19), type := 25, pos := "l06_signature.go:153", after := #[{ on := 0, ground := Ground.data }], guard := none } := by kernel_rfl
theorem bop2 : bentOps[2]? = some { dst := some 21, op := Op.move (Operand.tmp 0), type := 78, pos := "l06_signature.go:153", after := #[], guard := none } := by kernel_rfl
theorem bop3 : bentOps[3]? = some { dst := some 22, op := Op.buildSlice 24 3 #[(0, Operand.const (Value.string ⟨#[97]⟩)), (1, Operand.const (Value.string ⟨#[112, 108, 117, 115]⟩)), (2, Operand.const (Value.string ⟨#[110, 101, 119]⟩))], type := 24, pos := "l06_signature.go:153", after := #[], guard := none } := by kernel_rfl
theorem bop4 : bentOps[4]? = some { dst := some 23, op := Op.call { callee := Callee.value (Operand.func 47), args := #[Operand.tmp 21, Operand.tmp 22], argTypes := #[78, 24] }, type := 9, pos := "l06_signature.go:153", after := #[{ on := 2, ground := Ground.data }, { on := 3, ground := Ground.data }], guard := none } := by kernel_rfl
theorem bop5 : bentOps[5]? = some { dst := some 24, op := Op.buildSlice 24 4 #[(0, Operand.const (Value.string ⟨#[101]⟩)), (1, Operand.const (Value.string ⟨#[101]⟩)), (2, Operand.const (Value.string ⟨#[101]⟩)), (3, Operand.const (Value.string ⟨#[101]⟩))], type := 24, pos := "l06_signature.go:153", after := #[], guard := none } := by kernel_rfl
theorem bop6 : bentOps[6]? = some { dst := some 25, op := Op.move (Operand.tmp 0), type := 78, pos := "l06_signature.go:153", after := #[], guard := none } := by kernel_rfl
theorem bop7 : bentOps[7]? = some { dst := some 26, op := Op.call { callee := Callee.value (Operand.func 88), args := #[Operand.tmp 25, Operand.const (Value.int IntKind.i64 5)], argTypes := #[78, 3] }, type := 3, pos := "l06_signature.go:153", after := #[{ on := 6, ground := Ground.data }, { on := 4, ground := Ground.chain }], guard := none } := by kernel_rfl
theorem bop8 : bentOps[8]? = some { dst := some 27, op := Op.slice 24 (Operand.tmp 24) none (some (Operand.tmp 26)) none, type := 24, pos := "l06_signature.go:153", after := #[{ on := 5, ground := Ground.data }, { on := 7, ground := Ground.data }], guard := none } := by kernel_rfl
theorem bop9 : bentOps[9]? = some { dst := some 28, op := Op.move (Operand.tmp 0), type := 78, pos := "l06_signature.go:153", after := #[], guard := none } := by kernel_rfl
theorem bop10 : bentOps[10]? = some { dst := some 29, op := Op.buildSlice 24 2 #[(0, Operand.const (Value.string ⟨#[101]⟩)), (1, Operand.const (Value.string ⟨#[122, 122]⟩))], type := 24, pos := "l06_signature.go:153", after := #[], guard := none } := by kernel_rfl
theorem bop11 : bentOps[11]? = some { dst := some 30, op := Op.call { callee := Callee.value (Operand.func 47), args := #[Operand.tmp 28, Operand.tmp 29], argTypes := #[78, 24] }, type := 9, pos := "l06_signature.go:153", after := #[{ on := 9, ground := Ground.data }, { on := 10, ground := Ground.data }, { on := 7, ground := Ground.chain }], guard := none } := by kernel_rfl
theorem bop12 : bentOps[12]? = some { dst := some 31, op := Op.build 47 #[(0, Operand.tmp 23), (1, Operand.tmp 27), (2, Operand.tmp 30)], type := 47, pos := "l06_signature.go:153", after := #[{ on := 4, ground := Ground.data }, { on := 8, ground := Ground.data }, { on := 11, ground := Ground.data }], guard := none } := by kernel_rfl
theorem bop13 : bentOps[13]? = some { dst := some 32, op := Op.buildSlice 25 1 #[(0, Operand.tmp 31)], type := 25, pos := "l06_signature.go:153", after := #[{ on := 12, ground := Ground.data }], guard := none } := by kernel_rfl
theorem bop14 : bentOps[14]? = some { dst := some 33, op := Op.call { callee := Callee.builtin Builtin.append, args := #[Operand.tmp 20, Operand.tmp 32], argTypes := #[25, 25] }, type := 25, pos := "l06_signature.go:153", after := #[{ on := 1, ground := Ground.data }, { on := 13, ground := Ground.data }, { on := 11, ground := Ground.chain }], guard := none } := by kernel_rfl
theorem bop15 : bentOps[15]? = some { dst := some 34, op := Op.fieldAddr 27 (Operand.tmp 3) 1, type := 0, pos := "l06_signature.go:153", after := #[{ on := 0, ground := Ground.phase }, { on := 1, ground := Ground.phase }, { on := 2, ground := Ground.phase }, { on := 3, ground := Ground.phase }, { on := 4, ground := Ground.phase }, { on := 5, ground := Ground.phase }, { on := 6, ground := Ground.phase }, { on := 7, ground := Ground.phase }, { on := 8, ground := Ground.phase }, { on := 9, ground := Ground.phase }, { on := 10, ground := Ground.phase }, { on := 11, ground := Ground.phase }, { on := 12, ground := Ground.phase }, { on := 13, ground := Ground.phase }, { on := 14, ground := Ground.phase }], guard := none } := by kernel_rfl
theorem bop16 : bentOps[16]? = some { dst := none, op := Op.store 25 (Operand.tmp 34) (Operand.tmp 33), type := 0, pos := "l06_signature.go:153", after := #[{ on := 15, ground := Ground.data }, { on := 14, ground := Ground.data }, { on := 14, ground := Ground.chain }, { on := 0, ground := Ground.phase }, { on := 1, ground := Ground.phase }, { on := 2, ground := Ground.phase }, { on := 3, ground := Ground.phase }, { on := 4, ground := Ground.phase }, { on := 5, ground := Ground.phase }, { on := 6, ground := Ground.phase }, { on := 7, ground := Ground.phase }, { on := 8, ground := Ground.phase }, { on := 9, ground := Ground.phase }, { on := 10, ground := Ground.phase }, { on := 11, ground := Ground.phase }, { on := 12, ground := Ground.phase }, { on := 13, ground := Ground.phase }, { on := 14, ground := Ground.phase }], guard := none } := by kernel_rfl

/-- What holds of every world while the statement runs, behind the world W. -/
def K (B : Nat) (cv : Value) (len : Nat) (W wr : World) : Prop := W.grownBy wr (some B) ∧ CurAt wr B cv len
theorem K.alloc {B : Nat} {cv : Value} {len : Nat} {W wr : World} (h : K B cv len W wr) (o : Obj) : K B cv len W (wr.alloc o) := ⟨grown_trans h.1 (World.grownBy_alloc wr o (some B)), h.2.alloc o⟩
theorem row_cells {w : World} {b : Nat} {ps : List ByteArray} {t : TypeId} (h : w.heap[b]? = some (.cells (ps.map Value.string).toArray t (0, 0))) : ∀ i p, ps[i]? = some p → w.cell? ⟨b, i, none⟩ = some (.string p) := fun i p hp => by
  rw [cell_of_row w b i _ _ _ h]
  simp [hp]

set_option maxRecDepth 100000 in
set_option maxHeartbeats 12800000 in
theorem bent6 {id : Nat} {Q : Exit → Act → World → Prop} (B : Nat) (cv : Value) (len : Nat) (w : World) (X S O cs co : Nat) (vs : List Value) (W : World) (y1 y2 y4 y5 y6 y7 y8 y9 y10 y11 y12 y13 y14 y15 y16 y17 y18 y35 y36 y37 y38 y39 y40 y41 y42 : Value)
    (hBlt : B < w.heap.size) (hX : w.heap.size + 1 ≤ X) (hS : w.heap.size + 1 ≤ S) (hO : w.heap.size + 1 ≤ O) (hXO : X ≠ O) (hXS : X ≠ S) (hSO : S ≠ O) (hm : Mid B cv len w X S O cs co vs W)
    (hQ : ∀ (x20 x21 x22 x23 x24 x25 x26 x27 x28 x29 x30 x31 x32 x33 : Value) (wf : World), MidG B cv len w X wf → Q .normal ({ tmps := #[.pointer (some ⟨B, 0, none⟩), y1, y2, .pointer (some ⟨X, 0, none⟩), y4, y5, y6, y7, y8, y9, y10, y11, y12, y13, y14, y15, y16, y17, y18, .pointer (some ⟨X, 1, none⟩), x20, x21, x22, x23, x24, x25, x26, x27, x28, x29, x30, x31, x32, x33, .pointer (some ⟨X, 1, none⟩), y35, y36, y37, y38, y39, y40, y41, y42], defers := [] } : Act) wf) (hQp : ∀ (c : _) (a : Act) (d : Option Tmp) (v : Value) (w : World), Q (.panic c) (a.put d v) w → Q (.panic c) a w) :
    (Code.region id bentOps true).wp Try.prog Q ({ tmps := #[.pointer (some ⟨B, 0, none⟩), y1, y2, .pointer (some ⟨X, 0, none⟩), y4, y5, y6, y7, y8, y9, y10, y11, y12, y13, y14, y15, y16, y17, y18, undef, undef, undef, undef, undef, undef, undef, undef, undef, undef, undef, undef, undef, undef, undef, undef, y35, y36, y37, y38, y39, y40, y41, y42], defers := [] } : Act) W := by
  obtain ⟨i0, hi, hz0, hz1, hz2⟩ := info_parts infoOp
  have HI := Lib.hid hi; clear hi
  have HZ0 := Lib.hid hz0; clear hz0
  have HZ1 := Lib.hid hz1; clear hz1
  have HZ2 := Lib.hid hz2; clear hz2
  have HMK : Hid (∀ wr, K B cv len W wr → Mid B cv len w X S O cs co vs wr) := Lib.hid (fun wr hk => hm.kept hBlt hX hS hO hk.1 hk.2)
  have s41111 : ∀ (wr : World) (bA bB bC bE q : Nat) (sA sC : ByteArray) (z22 z29 : Value), K B cv len W wr → (w.heap.size + 1 ≤ bB ∧ bB ≠ O ∧ wr.heap[bB]? = some (.cells #[.string ⟨#[101]⟩, .string ⟨#[101]⟩, .string ⟨#[101]⟩, .string ⟨#[101]⟩] 9 (0, 0))) → q ≤ 4 → wr.heap[bE]? = some (.cells #[.string sA, .slice (some ⟨bB, 0, none⟩) q 4, .string sC] 47 (0, 0)) → wpAny Try.prog .any bentOps Q 3 #[true, true, true, true, true, true, true, true, true, true, true, true, true, true, false, false, false] ({ tmps := #[.pointer (some ⟨B, 0, none⟩), y1, y2, .pointer (some ⟨X, 0, none⟩), y4, y5, y6, y7, y8, y9, y10, y11, y12, y13, y14, y15, y16, y17, y18, .pointer (some ⟨X, 1, none⟩), (.slice (some ⟨O, 0, none⟩) 7 co), .pointer (some ⟨B, 0, none⟩), z22, .string sA, .slice (some ⟨bB, 0, none⟩) 4 4, .pointer (some ⟨B, 0, none⟩), .int .i64 (q : Int), .slice (some ⟨bB, 0, none⟩) q 4, .pointer (some ⟨B, 0, none⟩), z29, .string sC, .agg #[.string sA, .slice (some ⟨bB, 0, none⟩) q 4, .string sC], .slice (some ⟨bE, 0, none⟩) 1 1, undef, undef, y35, y36, y37, y38, y39, y40, y41, y42], defers := [] } : Act) wr := by
    intro wr bA bB bC bE q sA sC z22 z29 hK0 hB hq hE
    have mm := HMK.out wr hK0
    obtain ⟨⟨c0, c1⟩, f0, f1⟩ := cells_of2 mm.1.1
    have hlo := mm.2.2.2.1.size
    have hXl := (Array.getElem?_eq_some_iff.1 mm.1.1).1
    have hlo1 : w.heap.size + 1 ≤ wr.heap.size := by omega
    have hcE : ∀ (j : Nat) (u : Value), ([.string sA, .slice (some ⟨bB, 0, none⟩) q 4, .string sC] : List Value)[j]? = some u → wr.cell? ((⟨bE, 0, none⟩ : Addr).add j) = some u := fun j u hj => by
      rw [show (⟨bE, 0, none⟩ : Addr).add j = ⟨bE, j, none⟩ from (by simp [Addr.add]; try omega), cell_of_row wr bE j _ _ _ hE]
      simpa using hj
    refine wpAny_ready (rs := [14]) (by kernel_rfl) (by simp) ?_
    refine AllReady.cons bop14 (fun KK hKK => ?_) AllReady.nil
    refine step_append_lies _ rfl (.tmp 20) (.tmp 32) 25 rfl (w.heap.size + 1) 47 i0 (.agg #[.string ByteArray.empty, .slice none 0 0, .string ByteArray.empty]) 3 56 Try.underlying25 HI.out HZ0.out HZ1.out HZ2.out rfl (by decide) (.slice (some ⟨O, 0, none⟩) 7 co) 7 vs rfl mm.2.1.2.1 ⟨bE, 0, none⟩ 1 1 [.string sA, .slice (some ⟨bB, 0, none⟩) q 4, .string sC] rfl rfl hcE (by simp [Value.oneCell']) (by decide) (by decide) (by decide) hlo1 wr.heap.size rfl (fun g cap w6 ho hg6 hgg hgl => hKK _ _ ?_)
    have hgX : g ≠ X := by
      rcases hgg with e | e
      · simp [Value.ownBlock] at e; omega
      · omega
    have x1 : w6.heap[X]? = some (.cells #[.slice (some ⟨S, 0, none⟩) 2 cs, .slice (some ⟨O, 0, none⟩) 7 co] 27 (0, 0)) := (hg6.block X hXl (fun e => by simp [Value.ownBlock] at e; omega)).trans mm.1.1
    obtain ⟨⟨d0, d1⟩, e0, e1⟩ := cells_of2 x1
    have hfin := MidG.more mm hBlt hX hO hXO hXS hSO hB.1 hB.2.1 hB.2.2 hq ho hg6 hgg
    refine wpAny_ready (rs := [15]) (by kernel_rfl) (by simp) ?_
    refine AllReady.cons bop15 (fun KK1 hKK1 => ?_) AllReady.nil
    go_simp
    refine hKK1 _ _ ?_
    refine wpAny_ready (rs := [16]) (by kernel_rfl) (by simp) ?_
    refine AllReady.cons bop16 (fun KK2 hKK2 => ?_) AllReady.nil
    go_simp
    exact hKK2 _ _ (wpAny_done (by kernel_rfl) (hQ _ _ _ _ _ _ _ _ _ _ _ _ _ _ _ hfin) _)
  have s41101 : ∀ (wr : World) (bA bB bC bE q : Nat) (sA sC : ByteArray) (z22 z29 : Value), K B cv len W wr → (w.heap.size + 1 ≤ bB ∧ bB ≠ O ∧ wr.heap[bB]? = some (.cells #[.string ⟨#[101]⟩, .string ⟨#[101]⟩, .string ⟨#[101]⟩, .string ⟨#[101]⟩] 9 (0, 0))) → q ≤ 4 → wr.heap[bE]? = some (.cells #[.string sA, .slice (some ⟨bB, 0, none⟩) q 4, .string sC] 47 (0, 0)) → wpAny Try.prog .any bentOps Q 4 #[true, false, true, true, true, true, true, true, true, true, true, true, true, true, false, false, false] ({ tmps := #[.pointer (some ⟨B, 0, none⟩), y1, y2, .pointer (some ⟨X, 0, none⟩), y4, y5, y6, y7, y8, y9, y10, y11, y12, y13, y14, y15, y16, y17, y18, .pointer (some ⟨X, 1, none⟩), undef, .pointer (some ⟨B, 0, none⟩), z22, .string sA, .slice (some ⟨bB, 0, none⟩) 4 4, .pointer (some ⟨B, 0, none⟩), .int .i64 (q : Int), .slice (some ⟨bB, 0, none⟩) q 4, .pointer (some ⟨B, 0, none⟩), z29, .string sC, .agg #[.string sA, .slice (some ⟨bB, 0, none⟩) q 4, .string sC], .slice (some ⟨bE, 0, none⟩) 1 1, undef, undef, y35, y36, y37, y38, y39, y40, y41, y42], defers := [] } : Act) wr := by
    intro wr bA bB bC bE q sA sC z22 z29 hK0 hB hq hE
    have hc1 := (cells_of2 (HMK.out wr hK0).1.1).1.2
    have hsz := (HMK.out wr hK0).2.2.2.1.size
    have hnB : wr.heap.size ≠ B := by have := hK0.2.lt; omega
    have hlB : w.heap.size + 1 ≤ wr.heap.size := by have := (Array.getElem?_eq_some_iff.1 (HMK.out wr hK0).1.1).1; omega
    have hnO : wr.heap.size ≠ O := by have := ((HMK.out wr hK0).2.1.2.1.lt O rfl).2; omega
    have HH0 := Lib.hid (And.intro hsz (And.intro hnB (And.intro hlB hnO)))
    refine wpAny_ready (rs := [1]) (by kernel_rfl) (by simp) ?_
    refine AllReady.cons bop1 (fun KK hKK => ?_) ?_
    · go_simp
      exact hKK _ _ (s41111 wr bA bB bC bE q sA sC z22 z29 (hK0) (hB) (hq) (hE))
    exact AllReady.nil
  have s41110 : ∀ (wr : World) (bA bB bC bE q : Nat) (sA sC : ByteArray) (z22 z29 : Value), K B cv len W wr → (w.heap.size + 1 ≤ bB ∧ bB ≠ O ∧ wr.heap[bB]? = some (.cells #[.string ⟨#[101]⟩, .string ⟨#[101]⟩, .string ⟨#[101]⟩, .string ⟨#[101]⟩] 9 (0, 0))) → q ≤ 4 → wpAny Try.prog .any bentOps Q 4 #[true, true, true, true, true, true, true, true, true, true, true, true, true, false, false, false, false] ({ tmps := #[.pointer (some ⟨B, 0, none⟩), y1, y2, .pointer (some ⟨X, 0, none⟩), y4, y5, y6, y7, y8, y9, y10, y11, y12, y13, y14, y15, y16, y17, y18, .pointer (some ⟨X, 1, none⟩), (.slice (some ⟨O, 0, none⟩) 7 co), .pointer (some ⟨B, 0, none⟩), z22, .string sA, .slice (some ⟨bB, 0, none⟩) 4 4, .pointer (some ⟨B, 0, none⟩), .int .i64 (q : Int), .slice (some ⟨bB, 0, none⟩) q 4, .pointer (some ⟨B, 0, none⟩), z29, .string sC, .agg #[.string sA, .slice (some ⟨bB, 0, none⟩) q 4, .string sC], undef, undef, undef, y35, y36, y37, y38, y39, y40, y41, y42], defers := [] } : Act) wr := by
    intro wr bA bB bC bE q sA sC z22 z29 hK0 hB hq
    have hc1 := (cells_of2 (HMK.out wr hK0).1.1).1.2
    have hsz := (HMK.out wr hK0).2.2.2.1.size
    have hnB : wr.heap.size ≠ B := by have := hK0.2.lt; omega
    have hlB : w.heap.size + 1 ≤ wr.heap.size := by have := (Array.getElem?_eq_some_iff.1 (HMK.out wr hK0).1.1).1; omega
    have hnO : wr.heap.size ≠ O := by have := ((HMK.out wr hK0).2.1.2.1.lt O rfl).2; omega
    have HH0 := Lib.hid (And.intro hsz (And.intro hnB (And.intro hlB hnO)))
    refine wpAny_ready (rs := [13]) (by kernel_rfl) (by simp) ?_
    refine AllReady.cons bop13 (fun KK hKK => ?_) ?_
    · go_simp
      exact hKK _ _ (s41111 (wr.alloc (.cells #[.string sA, .slice (some ⟨bB, 0, none⟩) q 4, .string sC] 47)) bA bB bC wr.heap.size q sA sC z22 z29 (hK0.alloc _) (⟨hB.1, hB.2.1, (Below.heap_alloc _ _ _ (Array.getElem?_eq_some_iff.1 hB.2.2).1).trans hB.2.2⟩) (hq) (heap_new wr _ rfl))
    exact AllReady.nil
  have s41100 : ∀ (wr : World) (bA bB bC bE q : Nat) (sA sC : ByteArray) (z22 z29 : Value), K B cv len W wr → (w.heap.size + 1 ≤ bB ∧ bB ≠ O ∧ wr.heap[bB]? = some (.cells #[.string ⟨#[101]⟩, .string ⟨#[101]⟩, .string ⟨#[101]⟩, .string ⟨#[101]⟩] 9 (0, 0))) → q ≤ 4 → wpAny Try.prog .any bentOps Q 5 #[true, false, true, true, true, true, true, true, true, true, true, true, true, false, false, false, false] ({ tmps := #[.pointer (some ⟨B, 0, none⟩), y1, y2, .pointer (some ⟨X, 0, none⟩), y4, y5, y6, y7, y8, y9, y10, y11, y12, y13, y14, y15, y16, y17, y18, .pointer (some ⟨X, 1, none⟩), undef, .pointer (some ⟨B, 0, none⟩), z22, .string sA, .slice (some ⟨bB, 0, none⟩) 4 4, .pointer (some ⟨B, 0, none⟩), .int .i64 (q : Int), .slice (some ⟨bB, 0, none⟩) q 4, .pointer (some ⟨B, 0, none⟩), z29, .string sC, .agg #[.string sA, .slice (some ⟨bB, 0, none⟩) q 4, .string sC], undef, undef, undef, y35, y36, y37, y38, y39, y40, y41, y42], defers := [] } : Act) wr := by
    intro wr bA bB bC bE q sA sC z22 z29 hK0 hB hq
    have hc1 := (cells_of2 (HMK.out wr hK0).1.1).1.2
    have hsz := (HMK.out wr hK0).2.2.2.1.size
    have hnB : wr.heap.size ≠ B := by have := hK0.2.lt; omega
    have hlB : w.heap.size + 1 ≤ wr.heap.size := by have := (Array.getElem?_eq_some_iff.1 (HMK.out wr hK0).1.1).1; omega
    have hnO : wr.heap.size ≠ O := by have := ((HMK.out wr hK0).2.1.2.1.lt O rfl).2; omega
    have HH0 := Lib.hid (And.intro hsz (And.intro hnB (And.intro hlB hnO)))
    refine wpAny_ready (rs := [1, 13]) (by kernel_rfl) (by simp) ?_
    refine AllReady.cons bop1 (fun KK hKK => ?_) ?_
    · go_simp
      exact hKK _ _ (s41110 wr bA bB bC bE q sA sC z22 z29 (hK0) (hB) (hq))
    refine AllReady.cons bop13 (fun KK hKK => ?_) ?_
    · go_simp
      exact hKK _ _ (s41101 (wr.alloc (.cells #[.string sA, .slice (some ⟨bB, 0, none⟩) q 4, .string sC] 47)) bA bB bC wr.heap.size q sA sC z22 z29 (hK0.alloc _) (⟨hB.1, hB.2.1, (Below.heap_alloc _ _ _ (Array.getElem?_eq_some_iff.1 hB.2.2).1).trans hB.2.2⟩) (hq) (heap_new wr _ rfl))
    exact AllReady.nil
  have s31110 : ∀ (wr : World) (bA bB bC bE q : Nat) (sA sC : ByteArray) (z22 z29 : Value), K B cv len W wr → (w.heap.size + 1 ≤ bB ∧ bB ≠ O ∧ wr.heap[bB]? = some (.cells #[.string ⟨#[101]⟩, .string ⟨#[101]⟩, .string ⟨#[101]⟩, .string ⟨#[101]⟩] 9 (0, 0))) → (bC ≠ B ∧ wr.heap[bC]? = some (.cells #[.string ⟨#[101]⟩, .string ⟨#[122, 122]⟩] 9 (0, 0))) → q ≤ 4 → wpAny Try.prog .any bentOps Q 6 #[true, true, true, true, true, true, true, true, true, true, true, false, false, false, false, false, false] ({ tmps := #[.pointer (some ⟨B, 0, none⟩), y1, y2, .pointer (some ⟨X, 0, none⟩), y4, y5, y6, y7, y8, y9, y10, y11, y12, y13, y14, y15, y16, y17, y18, .pointer (some ⟨X, 1, none⟩), (.slice (some ⟨O, 0, none⟩) 7 co), .pointer (some ⟨B, 0, none⟩), z22, .string sA, .slice (some ⟨bB, 0, none⟩) 4 4, .pointer (some ⟨B, 0, none⟩), .int .i64 (q : Int), .slice (some ⟨bB, 0, none⟩) q 4, .pointer (some ⟨B, 0, none⟩), .slice (some ⟨bC, 0, none⟩) 2 2, undef, undef, undef, undef, undef, y35, y36, y37, y38, y39, y40, y41, y42], defers := [] } : Act) wr := by
    intro wr bA bB bC bE q sA sC z22 z29 hK0 hB hC hq
    have hc1 := (cells_of2 (HMK.out wr hK0).1.1).1.2
    have hsz := (HMK.out wr hK0).2.2.2.1.size
    have hnB : wr.heap.size ≠ B := by have := hK0.2.lt; omega
    have hlB : w.heap.size + 1 ≤ wr.heap.size := by have := (Array.getElem?_eq_some_iff.1 (HMK.out wr hK0).1.1).1; omega
    have hnO : wr.heap.size ≠ O := by have := ((HMK.out wr hK0).2.1.2.1.lt O rfl).2; omega
    have HH0 := Lib.hid (And.intro hsz (And.intro hnB (And.intro hlB hnO)))
    refine wpAny_ready (rs := [11]) (by kernel_rfl) (by simp) ?_
    refine AllReady.cons bop11 (fun KK hKK => ?_) ?_
    · go_simp
      refine (pick_any B bC 2 cv len [⟨#[101]⟩, ⟨#[122, 122]⟩] wr (by decide) (by decide) hC.1 (row_cells (ps := [⟨#[101]⟩, ⟨#[122, 122]⟩]) hC.2) (HMK.out wr hK0).2.2.2.2 hK0.2).mono ?_
      rintro e w4 ⟨_, hm, rfl, hu4, hg4⟩
      obtain ⟨pp, _, rfl⟩ := List.mem_map.1 hm
      refine hKK _ _ ?_
      refine wpAny_take (i := 12) (v := .agg #[.string sA, .slice (some ⟨bB, 0, none⟩) q 4, .string pp]) bop12 (by kernel_rfl) (by kernel_rfl) (by kernel_rfl) (fun _ _ _ h => hQp _ _ _ _ _ h) (Or.inl ⟨by rfl, ?hy12⟩) ?_
      case hy12 => (intro ww; go_simp; try with_reducible rfl)
      exact (s41110 w4 bA bB bC bE q sA pp z22 (.slice (some ⟨bC, 0, none⟩) 2 2) (⟨grown_trans hK0.1 hg4, hu4⟩) (⟨hB.1, hB.2.1, (hg4.block _ (Array.getElem?_eq_some_iff.1 hB.2.2).1 (fun e => by simp at e; omega)).trans hB.2.2⟩) (hq))
    exact AllReady.nil
  have s31010 : ∀ (wr : World) (bA bB bC bE q : Nat) (sA sC : ByteArray) (z22 z29 : Value), K B cv len W wr → (w.heap.size + 1 ≤ bB ∧ bB ≠ O ∧ wr.heap[bB]? = some (.cells #[.string ⟨#[101]⟩, .string ⟨#[101]⟩, .string ⟨#[101]⟩, .string ⟨#[101]⟩] 9 (0, 0))) → q ≤ 4 → wpAny Try.prog .any bentOps Q 7 #[true, true, true, true, true, true, true, true, true, true, false, false, false, false, false, false, false] ({ tmps := #[.pointer (some ⟨B, 0, none⟩), y1, y2, .pointer (some ⟨X, 0, none⟩), y4, y5, y6, y7, y8, y9, y10, y11, y12, y13, y14, y15, y16, y17, y18, .pointer (some ⟨X, 1, none⟩), (.slice (some ⟨O, 0, none⟩) 7 co), .pointer (some ⟨B, 0, none⟩), z22, .string sA, .slice (some ⟨bB, 0, none⟩) 4 4, .pointer (some ⟨B, 0, none⟩), .int .i64 (q : Int), .slice (some ⟨bB, 0, none⟩) q 4, .pointer (some ⟨B, 0, none⟩), undef, undef, undef, undef, undef, undef, y35, y36, y37, y38, y39, y40, y41, y42], defers := [] } : Act) wr := by
    intro wr bA bB bC bE q sA sC z22 z29 hK0 hB hq
    have hc1 := (cells_of2 (HMK.out wr hK0).1.1).1.2
    have hsz := (HMK.out wr hK0).2.2.2.1.size
    have hnB : wr.heap.size ≠ B := by have := hK0.2.lt; omega
    have hlB : w.heap.size + 1 ≤ wr.heap.size := by have := (Array.getElem?_eq_some_iff.1 (HMK.out wr hK0).1.1).1; omega
    have hnO : wr.heap.size ≠ O := by have := ((HMK.out wr hK0).2.1.2.1.lt O rfl).2; omega
    have HH0 := Lib.hid (And.intro hsz (And.intro hnB (And.intro hlB hnO)))
    refine wpAny_ready (rs := [10]) (by kernel_rfl) (by simp) ?_
    refine AllReady.cons bop10 (fun KK hKK => ?_) ?_
    · go_simp
      exact hKK _ _ (s31110 (wr.alloc (.cells #[.string ⟨#[101]⟩, .string ⟨#[122, 122]⟩] 9)) bA bB wr.heap.size bE q sA sC z22 z29 (hK0.alloc _) (⟨hB.1, hB.2.1, (Below.heap_alloc _ _ _ (Array.getElem?_eq_some_iff.1 hB.2.2).1).trans hB.2.2⟩) (⟨hnB, heap_new wr _ rfl⟩) (hq))
    exact AllReady.nil
  have s31100 : ∀ (wr : World) (bA bB bC bE q : Nat) (sA sC : ByteArray) (z22 z29 : Value), K B cv len W wr → (w.heap.size + 1 ≤ bB ∧ bB ≠ O ∧ wr.heap[bB]? = some (.cells #[.string ⟨#[101]⟩, .string ⟨#[101]⟩, .string ⟨#[101]⟩, .string ⟨#[101]⟩] 9 (0, 0))) → (bC ≠ B ∧ wr.heap[bC]? = some (.cells #[.string ⟨#[101]⟩, .string ⟨#[122, 122]⟩] 9 (0, 0))) → q ≤ 4 → wpAny Try.prog .any bentOps Q 7 #[true, false, true, true, true, true, true, true, true, true, true, false, false, false, false, false, false] ({ tmps := #[.pointer (some ⟨B, 0, none⟩), y1, y2, .pointer (some ⟨X, 0, none⟩), y4, y5, y6, y7, y8, y9, y10, y11, y12, y13, y14, y15, y16, y17, y18, .pointer (some ⟨X, 1, none⟩), undef, .pointer (some ⟨B, 0, none⟩), z22, .string sA, .slice (some ⟨bB, 0, none⟩) 4 4, .pointer (some ⟨B, 0, none⟩), .int .i64 (q : Int), .slice (some ⟨bB, 0, none⟩) q 4, .pointer (some ⟨B, 0, none⟩), .slice (some ⟨bC, 0, none⟩) 2 2, undef, undef, undef, undef, undef, y35, y36, y37, y38, y39, y40, y41, y42], defers := [] } : Act) wr := by
    intro wr bA bB bC bE q sA sC z22 z29 hK0 hB hC hq
    have hc1 := (cells_of2 (HMK.out wr hK0).1.1).1.2
    have hsz := (HMK.out wr hK0).2.2.2.1.size
    have hnB : wr.heap.size ≠ B := by have := hK0.2.lt; omega
    have hlB : w.heap.size + 1 ≤ wr.heap.size := by have := (Array.getElem?_eq_some_iff.1 (HMK.out wr hK0).1.1).1; omega
    have hnO : wr.heap.size ≠ O := by have := ((HMK.out wr hK0).2.1.2.1.lt O rfl).2; omega
    have HH0 := Lib.hid (And.intro hsz (And.intro hnB (And.intro hlB hnO)))
    refine wpAny_ready (rs := [1, 11]) (by kernel_rfl) (by simp) ?_
    refine AllReady.cons bop1 (fun KK hKK => ?_) ?_
    · go_simp
      exact hKK _ _ (s31110 wr bA bB bC bE q sA sC z22 z29 (hK0) (hB) (hC) (hq))
    refine AllReady.cons bop11 (fun KK hKK => ?_) ?_
    · go_simp
      refine (pick_any B bC 2 cv len [⟨#[101]⟩, ⟨#[122, 122]⟩] wr (by decide) (by decide) hC.1 (row_cells (ps := [⟨#[101]⟩, ⟨#[122, 122]⟩]) hC.2) (HMK.out wr hK0).2.2.2.2 hK0.2).mono ?_
      rintro e w4 ⟨_, hm, rfl, hu4, hg4⟩
      obtain ⟨pp, _, rfl⟩ := List.mem_map.1 hm
      refine hKK _ _ ?_
      refine wpAny_take (i := 12) (v := .agg #[.string sA, .slice (some ⟨bB, 0, none⟩) q 4, .string pp]) bop12 (by kernel_rfl) (by kernel_rfl) (by kernel_rfl) (fun _ _ _ h => hQp _ _ _ _ _ h) (Or.inl ⟨by rfl, ?hy12⟩) ?_
      case hy12 => (intro ww; go_simp; try with_reducible rfl)
      exact (s41100 w4 bA bB bC bE q sA pp z22 (.slice (some ⟨bC, 0, none⟩) 2 2) (⟨grown_trans hK0.1 hg4, hu4⟩) (⟨hB.1, hB.2.1, (hg4.block _ (Array.getElem?_eq_some_iff.1 hB.2.2).1 (fun e => by simp at e; omega)).trans hB.2.2⟩) (hq))
    exact AllReady.nil
  have s40110 : ∀ (wr : World) (bA bB bC bE q : Nat) (sA sC : ByteArray) (z22 z29 : Value), K B cv len W wr → q ≤ 4 → wpAny Try.prog .any bentOps Q 7 #[true, true, true, true, true, false, true, true, false, true, true, true, false, false, false, false, false] ({ tmps := #[.pointer (some ⟨B, 0, none⟩), y1, y2, .pointer (some ⟨X, 0, none⟩), y4, y5, y6, y7, y8, y9, y10, y11, y12, y13, y14, y15, y16, y17, y18, .pointer (some ⟨X, 1, none⟩), (.slice (some ⟨O, 0, none⟩) 7 co), .pointer (some ⟨B, 0, none⟩), z22, .string sA, undef, .pointer (some ⟨B, 0, none⟩), .int .i64 (q : Int), undef, .pointer (some ⟨B, 0, none⟩), z29, .string sC, undef, undef, undef, undef, y35, y36, y37, y38, y39, y40, y41, y42], defers := [] } : Act) wr := by
    intro wr bA bB bC bE q sA sC z22 z29 hK0 hq
    have hc1 := (cells_of2 (HMK.out wr hK0).1.1).1.2
    have hsz := (HMK.out wr hK0).2.2.2.1.size
    have hnB : wr.heap.size ≠ B := by have := hK0.2.lt; omega
    have hlB : w.heap.size + 1 ≤ wr.heap.size := by have := (Array.getElem?_eq_some_iff.1 (HMK.out wr hK0).1.1).1; omega
    have hnO : wr.heap.size ≠ O := by have := ((HMK.out wr hK0).2.1.2.1.lt O rfl).2; omega
    have HH0 := Lib.hid (And.intro hsz (And.intro hnB (And.intro hlB hnO)))
    refine wpAny_ready (rs := [5]) (by kernel_rfl) (by simp) ?_
    refine AllReady.cons bop5 (fun KK hKK => ?_) ?_
    · go_simp
      refine hKK _ _ ?_
      have hq4 : (q : Int) ≤ 4 := by omega
      refine wpAny_take (i := 8) (v := .slice (some ⟨wr.heap.size, 0, none⟩) q 4) bop8 (by kernel_rfl) (by kernel_rfl) (by kernel_rfl) (fun _ _ _ h => hQp _ _ _ _ _ h) (Or.inl ⟨by rfl, ?hy8⟩) ?_
      case hy8 => (intro ww; go_simp; try with_reducible rfl)
      refine wpAny_take (i := 12) (v := .agg #[.string sA, .slice (some ⟨wr.heap.size, 0, none⟩) q 4, .string sC]) bop12 (by kernel_rfl) (by kernel_rfl) (by kernel_rfl) (fun _ _ _ h => hQp _ _ _ _ _ h) (Or.inl ⟨by rfl, ?hy12⟩) ?_
      case hy12 => (intro ww; go_simp; try with_reducible rfl)
      exact (s41110 (wr.alloc (.cells #[.string ⟨#[101]⟩, .string ⟨#[101]⟩, .string ⟨#[101]⟩, .string ⟨#[101]⟩] 9)) bA wr.heap.size bC bE q sA sC z22 z29 (hK0.alloc _) (⟨hlB, hnO, heap_new wr _ rfl⟩) (hq))
    exact AllReady.nil
  have s21110 : ∀ (wr : World) (bA bB bC bE q : Nat) (sA sC : ByteArray) (z22 z29 : Value), K B cv len W wr → (w.heap.size + 1 ≤ bB ∧ bB ≠ O ∧ wr.heap[bB]? = some (.cells #[.string ⟨#[101]⟩, .string ⟨#[101]⟩, .string ⟨#[101]⟩, .string ⟨#[101]⟩] 9 (0, 0))) → (bC ≠ B ∧ wr.heap[bC]? = some (.cells #[.string ⟨#[101]⟩, .string ⟨#[122, 122]⟩] 9 (0, 0))) → wpAny Try.prog .any bentOps Q 8 #[true, true, true, true, true, true, true, false, false, true, true, false, false, false, false, false, false] ({ tmps := #[.pointer (some ⟨B, 0, none⟩), y1, y2, .pointer (some ⟨X, 0, none⟩), y4, y5, y6, y7, y8, y9, y10, y11, y12, y13, y14, y15, y16, y17, y18, .pointer (some ⟨X, 1, none⟩), (.slice (some ⟨O, 0, none⟩) 7 co), .pointer (some ⟨B, 0, none⟩), z22, .string sA, .slice (some ⟨bB, 0, none⟩) 4 4, .pointer (some ⟨B, 0, none⟩), undef, undef, .pointer (some ⟨B, 0, none⟩), .slice (some ⟨bC, 0, none⟩) 2 2, undef, undef, undef, undef, undef, y35, y36, y37, y38, y39, y40, y41, y42], defers := [] } : Act) wr := by
    intro wr bA bB bC bE q sA sC z22 z29 hK0 hB hC
    have hc1 := (cells_of2 (HMK.out wr hK0).1.1).1.2
    have hsz := (HMK.out wr hK0).2.2.2.1.size
    have hnB : wr.heap.size ≠ B := by have := hK0.2.lt; omega
    have hlB : w.heap.size + 1 ≤ wr.heap.size := by have := (Array.getElem?_eq_some_iff.1 (HMK.out wr hK0).1.1).1; omega
    have hnO : wr.heap.size ≠ O := by have := ((HMK.out wr hK0).2.1.2.1.lt O rfl).2; omega
    have HH0 := Lib.hid (And.intro hsz (And.intro hnB (And.intro hlB hnO)))
    refine wpAny_ready (rs := [7]) (by kernel_rfl) (by simp) ?_
    refine AllReady.cons bop7 (fun KK hKK => ?_) ?_
    · go_simp
      refine (below_any B cv len 5 wr (by omega) (by omega) (HMK.out wr hK0).2.2.2.2 hK0.2).mono ?_
      rintro e w4 ⟨x, rfl, hx0, hx1, hu4, hg4⟩
      obtain ⟨qq, rfl⟩ : ∃ qq : Nat, x = (qq : Int) := ⟨x.toNat, by omega⟩
      refine hKK _ _ ?_
      have hq4 : (qq : Int) ≤ 4 := by omega
      refine wpAny_take (i := 8) (v := .slice (some ⟨bB, 0, none⟩) qq 4) bop8 (by kernel_rfl) (by kernel_rfl) (by kernel_rfl) (fun _ _ _ h => hQp _ _ _ _ _ h) (Or.inl ⟨by rfl, ?hy8⟩) ?_
      case hy8 => (intro ww; go_simp; try with_reducible rfl)
      exact (s31110 w4 bA bB bC bE qq sA sC z22 z29 (⟨grown_trans hK0.1 hg4, hu4⟩) (⟨hB.1, hB.2.1, (hg4.block _ (Array.getElem?_eq_some_iff.1 hB.2.2).1 (fun e => by simp at e; omega)).trans hB.2.2⟩) (⟨hC.1, (hg4.block _ (Array.getElem?_eq_some_iff.1 hC.2).1 (fun e => hC.1 (by simpa using e))).trans hC.2⟩) (by omega))
    exact AllReady.nil
  have s30110 : ∀ (wr : World) (bA bB bC bE q : Nat) (sA sC : ByteArray) (z22 z29 : Value), K B cv len W wr → (bC ≠ B ∧ wr.heap[bC]? = some (.cells #[.string ⟨#[101]⟩, .string ⟨#[122, 122]⟩] 9 (0, 0))) → q ≤ 4 → wpAny Try.prog .any bentOps Q 8 #[true, true, true, true, true, false, true, true, false, true, true, false, false, false, false, false, false] ({ tmps := #[.pointer (some ⟨B, 0, none⟩), y1, y2, .pointer (some ⟨X, 0, none⟩), y4, y5, y6, y7, y8, y9, y10, y11, y12, y13, y14, y15, y16, y17, y18, .pointer (some ⟨X, 1, none⟩), (.slice (some ⟨O, 0, none⟩) 7 co), .pointer (some ⟨B, 0, none⟩), z22, .string sA, undef, .pointer (some ⟨B, 0, none⟩), .int .i64 (q : Int), undef, .pointer (some ⟨B, 0, none⟩), .slice (some ⟨bC, 0, none⟩) 2 2, undef, undef, undef, undef, undef, y35, y36, y37, y38, y39, y40, y41, y42], defers := [] } : Act) wr := by
    intro wr bA bB bC bE q sA sC z22 z29 hK0 hC hq
    have hc1 := (cells_of2 (HMK.out wr hK0).1.1).1.2
    have hsz := (HMK.out wr hK0).2.2.2.1.size
    have hnB : wr.heap.size ≠ B := by have := hK0.2.lt; omega
    have hlB : w.heap.size + 1 ≤ wr.heap.size := by have := (Array.getElem?_eq_some_iff.1 (HMK.out wr hK0).1.1).1; omega
    have hnO : wr.heap.size ≠ O := by have := ((HMK.out wr hK0).2.1.2.1.lt O rfl).2; omega
    have HH0 := Lib.hid (And.intro hsz (And.intro hnB (And.intro hlB hnO)))
    refine wpAny_ready (rs := [5, 11]) (by kernel_rfl) (by simp) ?_
    refine AllReady.cons bop5 (fun KK hKK => ?_) ?_
    · go_simp
      refine hKK _ _ ?_
      have hq4 : (q : Int) ≤ 4 := by omega
      refine wpAny_take (i := 8) (v := .slice (some ⟨wr.heap.size, 0, none⟩) q 4) bop8 (by kernel_rfl) (by kernel_rfl) (by kernel_rfl) (fun _ _ _ h => hQp _ _ _ _ _ h) (Or.inl ⟨by rfl, ?hy8⟩) ?_
      case hy8 => (intro ww; go_simp; try with_reducible rfl)
      exact (s31110 (wr.alloc (.cells #[.string ⟨#[101]⟩, .string ⟨#[101]⟩, .string ⟨#[101]⟩, .string ⟨#[101]⟩] 9)) bA wr.heap.size bC bE q sA sC z22 z29 (hK0.alloc _) (⟨hlB, hnO, heap_new wr _ rfl⟩) (⟨hC.1, (Below.heap_alloc _ _ _ (Array.getElem?_eq_some_iff.1 hC.2).1).trans hC.2⟩) (hq))
    refine AllReady.cons bop11 (fun KK hKK => ?_) ?_
    · go_simp
      refine (pick_any B bC 2 cv len [⟨#[101]⟩, ⟨#[122, 122]⟩] wr (by decide) (by decide) hC.1 (row_cells (ps := [⟨#[101]⟩, ⟨#[122, 122]⟩]) hC.2) (HMK.out wr hK0).2.2.2.2 hK0.2).mono ?_
      rintro e w4 ⟨_, hm, rfl, hu4, hg4⟩
      obtain ⟨pp, _, rfl⟩ := List.mem_map.1 hm
      exact hKK _ _ (s40110 w4 bA bB bC bE q sA pp z22 (.slice (some ⟨bC, 0, none⟩) 2 2) (⟨grown_trans hK0.1 hg4, hu4⟩) (hq))
    exact AllReady.nil
  have s31000 : ∀ (wr : World) (bA bB bC bE q : Nat) (sA sC : ByteArray) (z22 z29 : Value), K B cv len W wr → (w.heap.size + 1 ≤ bB ∧ bB ≠ O ∧ wr.heap[bB]? = some (.cells #[.string ⟨#[101]⟩, .string ⟨#[101]⟩, .string ⟨#[101]⟩, .string ⟨#[101]⟩] 9 (0, 0))) → q ≤ 4 → wpAny Try.prog .any bentOps Q 8 #[true, false, true, true, true, true, true, true, true, true, false, false, false, false, false, false, false] ({ tmps := #[.pointer (some ⟨B, 0, none⟩), y1, y2, .pointer (some ⟨X, 0, none⟩), y4, y5, y6, y7, y8, y9, y10, y11, y12, y13, y14, y15, y16, y17, y18, .pointer (some ⟨X, 1, none⟩), undef, .pointer (some ⟨B, 0, none⟩), z22, .string sA, .slice (some ⟨bB, 0, none⟩) 4 4, .pointer (some ⟨B, 0, none⟩), .int .i64 (q : Int), .slice (some ⟨bB, 0, none⟩) q 4, .pointer (some ⟨B, 0, none⟩), undef, undef, undef, undef, undef, undef, y35, y36, y37, y38, y39, y40, y41, y42], defers := [] } : Act) wr := by
    intro wr bA bB bC bE q sA sC z22 z29 hK0 hB hq
    have hc1 := (cells_of2 (HMK.out wr hK0).1.1).1.2
    have hsz := (HMK.out wr hK0).2.2.2.1.size
    have hnB : wr.heap.size ≠ B := by have := hK0.2.lt; omega
    have hlB : w.heap.size + 1 ≤ wr.heap.size := by have := (Array.getElem?_eq_some_iff.1 (HMK.out wr hK0).1.1).1; omega
    have hnO : wr.heap.size ≠ O := by have := ((HMK.out wr hK0).2.1.2.1.lt O rfl).2; omega
    have HH0 := Lib.hid (And.intro hsz (And.intro hnB (And.intro hlB hnO)))
    refine wpAny_ready (rs := [1, 10]) (by kernel_rfl) (by simp) ?_
    refine AllReady.cons bop1 (fun KK hKK => ?_) ?_
    · go_simp
      exact hKK _ _ (s31010 wr bA bB bC bE q sA sC z22 z29 (hK0) (hB) (hq))
    refine AllReady.cons bop10 (fun KK hKK => ?_) ?_
    · go_simp
      exact hKK _ _ (s31100 (wr.alloc (.cells #[.string ⟨#[101]⟩, .string ⟨#[122, 122]⟩] 9)) bA bB wr.heap.size bE q sA sC z22 z29 (hK0.alloc _) (⟨hB.1, hB.2.1, (Below.heap_alloc _ _ _ (Array.getElem?_eq_some_iff.1 hB.2.2).1).trans hB.2.2⟩) (⟨hnB, heap_new wr _ rfl⟩) (hq))
    exact AllReady.nil
  have s40100 : ∀ (wr : World) (bA bB bC bE q : Nat) (sA sC : ByteArray) (z22 z29 : Value), K B cv len W wr → q ≤ 4 → wpAny Try.prog .any bentOps Q 8 #[true, false, true, true, true, false, true, true, false, true, true, true, false, false, false, false, false] ({ tmps := #[.pointer (some ⟨B, 0, none⟩), y1, y2, .pointer (some ⟨X, 0, none⟩), y4, y5, y6, y7, y8, y9, y10, y11, y12, y13, y14, y15, y16, y17, y18, .pointer (some ⟨X, 1, none⟩), undef, .pointer (some ⟨B, 0, none⟩), z22, .string sA, undef, .pointer (some ⟨B, 0, none⟩), .int .i64 (q : Int), undef, .pointer (some ⟨B, 0, none⟩), z29, .string sC, undef, undef, undef, undef, y35, y36, y37, y38, y39, y40, y41, y42], defers := [] } : Act) wr := by
    intro wr bA bB bC bE q sA sC z22 z29 hK0 hq
    have hc1 := (cells_of2 (HMK.out wr hK0).1.1).1.2
    have hsz := (HMK.out wr hK0).2.2.2.1.size
    have hnB : wr.heap.size ≠ B := by have := hK0.2.lt; omega
    have hlB : w.heap.size + 1 ≤ wr.heap.size := by have := (Array.getElem?_eq_some_iff.1 (HMK.out wr hK0).1.1).1; omega
    have hnO : wr.heap.size ≠ O := by have := ((HMK.out wr hK0).2.1.2.1.lt O rfl).2; omega
    have HH0 := Lib.hid (And.intro hsz (And.intro hnB (And.intro hlB hnO)))
    refine wpAny_ready (rs := [1, 5]) (by kernel_rfl) (by simp) ?_
    refine AllReady.cons bop1 (fun KK hKK => ?_) ?_
    · go_simp
      exact hKK _ _ (s40110 wr bA bB bC bE q sA sC z22 z29 (hK0) (hq))
    refine AllReady.cons bop5 (fun KK hKK => ?_) ?_
    · go_simp
      refine hKK _ _ ?_
      have hq4 : (q : Int) ≤ 4 := by omega
      refine wpAny_take (i := 8) (v := .slice (some ⟨wr.heap.size, 0, none⟩) q 4) bop8 (by kernel_rfl) (by kernel_rfl) (by kernel_rfl) (fun _ _ _ h => hQp _ _ _ _ _ h) (Or.inl ⟨by rfl, ?hy8⟩) ?_
      case hy8 => (intro ww; go_simp; try with_reducible rfl)
      refine wpAny_take (i := 12) (v := .agg #[.string sA, .slice (some ⟨wr.heap.size, 0, none⟩) q 4, .string sC]) bop12 (by kernel_rfl) (by kernel_rfl) (by kernel_rfl) (fun _ _ _ h => hQp _ _ _ _ _ h) (Or.inl ⟨by rfl, ?hy12⟩) ?_
      case hy12 => (intro ww; go_simp; try with_reducible rfl)
      exact (s41100 (wr.alloc (.cells #[.string ⟨#[101]⟩, .string ⟨#[101]⟩, .string ⟨#[101]⟩, .string ⟨#[101]⟩] 9)) bA wr.heap.size bC bE q sA sC z22 z29 (hK0.alloc _) (⟨hlB, hnO, heap_new wr _ rfl⟩) (hq))
    exact AllReady.nil
  have s11110 : ∀ (wr : World) (bA bB bC bE q : Nat) (sA sC : ByteArray) (z22 z29 : Value), K B cv len W wr → (bA ≠ B ∧ wr.heap[bA]? = some (.cells #[.string ⟨#[97]⟩, .string ⟨#[112, 108, 117, 115]⟩, .string ⟨#[110, 101, 119]⟩] 9 (0, 0))) → (w.heap.size + 1 ≤ bB ∧ bB ≠ O ∧ wr.heap[bB]? = some (.cells #[.string ⟨#[101]⟩, .string ⟨#[101]⟩, .string ⟨#[101]⟩, .string ⟨#[101]⟩] 9 (0, 0))) → (bC ≠ B ∧ wr.heap[bC]? = some (.cells #[.string ⟨#[101]⟩, .string ⟨#[122, 122]⟩] 9 (0, 0))) → wpAny Try.prog .any bentOps Q 9 #[true, true, true, true, false, true, true, false, false, true, true, false, false, false, false, false, false] ({ tmps := #[.pointer (some ⟨B, 0, none⟩), y1, y2, .pointer (some ⟨X, 0, none⟩), y4, y5, y6, y7, y8, y9, y10, y11, y12, y13, y14, y15, y16, y17, y18, .pointer (some ⟨X, 1, none⟩), (.slice (some ⟨O, 0, none⟩) 7 co), .pointer (some ⟨B, 0, none⟩), .slice (some ⟨bA, 0, none⟩) 3 3, undef, .slice (some ⟨bB, 0, none⟩) 4 4, .pointer (some ⟨B, 0, none⟩), undef, undef, .pointer (some ⟨B, 0, none⟩), .slice (some ⟨bC, 0, none⟩) 2 2, undef, undef, undef, undef, undef, y35, y36, y37, y38, y39, y40, y41, y42], defers := [] } : Act) wr := by
    intro wr bA bB bC bE q sA sC z22 z29 hK0 hA hB hC
    have hc1 := (cells_of2 (HMK.out wr hK0).1.1).1.2
    have hsz := (HMK.out wr hK0).2.2.2.1.size
    have hnB : wr.heap.size ≠ B := by have := hK0.2.lt; omega
    have hlB : w.heap.size + 1 ≤ wr.heap.size := by have := (Array.getElem?_eq_some_iff.1 (HMK.out wr hK0).1.1).1; omega
    have hnO : wr.heap.size ≠ O := by have := ((HMK.out wr hK0).2.1.2.1.lt O rfl).2; omega
    have HH0 := Lib.hid (And.intro hsz (And.intro hnB (And.intro hlB hnO)))
    refine wpAny_ready (rs := [4]) (by kernel_rfl) (by simp) ?_
    refine AllReady.cons bop4 (fun KK hKK => ?_) ?_
    · go_simp
      refine (pick_any B bA 3 cv len [⟨#[97]⟩, ⟨#[112, 108, 117, 115]⟩, ⟨#[110, 101, 119]⟩] wr (by decide) (by decide) hA.1 (row_cells (ps := [⟨#[97]⟩, ⟨#[112, 108, 117, 115]⟩, ⟨#[110, 101, 119]⟩]) hA.2) (HMK.out wr hK0).2.2.2.2 hK0.2).mono ?_
      rintro e w4 ⟨_, hm, rfl, hu4, hg4⟩
      obtain ⟨pp, _, rfl⟩ := List.mem_map.1 hm
      exact hKK _ _ (s21110 w4 bA bB bC bE q pp sC (.slice (some ⟨bA, 0, none⟩) 3 3) z29 (⟨grown_trans hK0.1 hg4, hu4⟩) (⟨hB.1, hB.2.1, (hg4.block _ (Array.getElem?_eq_some_iff.1 hB.2.2).1 (fun e => by simp at e; omega)).trans hB.2.2⟩) (⟨hC.1, (hg4.block _ (Array.getElem?_eq_some_iff.1 hC.2).1 (fun e => hC.1 (by simpa using e))).trans hC.2⟩))
    exact AllReady.nil
  have s20110 : ∀ (wr : World) (bA bB bC bE q : Nat) (sA sC : ByteArray) (z22 z29 : Value), K B cv len W wr → (bC ≠ B ∧ wr.heap[bC]? = some (.cells #[.string ⟨#[101]⟩, .string ⟨#[122, 122]⟩] 9 (0, 0))) → wpAny Try.prog .any bentOps Q 9 #[true, true, true, true, true, false, true, false, false, true, true, false, false, false, false, false, false] ({ tmps := #[.pointer (some ⟨B, 0, none⟩), y1, y2, .pointer (some ⟨X, 0, none⟩), y4, y5, y6, y7, y8, y9, y10, y11, y12, y13, y14, y15, y16, y17, y18, .pointer (some ⟨X, 1, none⟩), (.slice (some ⟨O, 0, none⟩) 7 co), .pointer (some ⟨B, 0, none⟩), z22, .string sA, undef, .pointer (some ⟨B, 0, none⟩), undef, undef, .pointer (some ⟨B, 0, none⟩), .slice (some ⟨bC, 0, none⟩) 2 2, undef, undef, undef, undef, undef, y35, y36, y37, y38, y39, y40, y41, y42], defers := [] } : Act) wr := by
    intro wr bA bB bC bE q sA sC z22 z29 hK0 hC
    have hc1 := (cells_of2 (HMK.out wr hK0).1.1).1.2
    have hsz := (HMK.out wr hK0).2.2.2.1.size
    have hnB : wr.heap.size ≠ B := by have := hK0.2.lt; omega
    have hlB : w.heap.size + 1 ≤ wr.heap.size := by have := (Array.getElem?_eq_some_iff.1 (HMK.out wr hK0).1.1).1; omega
    have hnO : wr.heap.size ≠ O := by have := ((HMK.out wr hK0).2.1.2.1.lt O rfl).2; omega
    have HH0 := Lib.hid (And.intro hsz (And.intro hnB (And.intro hlB hnO)))
    refine wpAny_ready (rs := [5, 7]) (by kernel_rfl) (by simp) ?_
    refine AllReady.cons bop5 (fun KK hKK => ?_) ?_
    · go_simp
      exact hKK _ _ (s21110 (wr.alloc (.cells #[.string ⟨#[101]⟩, .string ⟨#[101]⟩, .string ⟨#[101]⟩, .string ⟨#[101]⟩] 9)) bA wr.heap.size bC bE q sA sC z22 z29 (hK0.alloc _) (⟨hlB, hnO, heap_new wr _ rfl⟩) (⟨hC.1, (Below.heap_alloc _ _ _ (Array.getElem?_eq_some_iff.1 hC.2).1).trans hC.2⟩))
    refine AllReady.cons bop7 (fun KK hKK => ?_) ?_
    · go_simp
      refine (below_any B cv len 5 wr (by omega) (by omega) (HMK.out wr hK0).2.2.2.2 hK0.2).mono ?_
      rintro e w4 ⟨x, rfl, hx0, hx1, hu4, hg4⟩
      obtain ⟨qq, rfl⟩ : ∃ qq : Nat, x = (qq : Int) := ⟨x.toNat, by omega⟩
      exact hKK _ _ (s30110 w4 bA bB bC bE qq sA sC z22 z29 (⟨grown_trans hK0.1 hg4, hu4⟩) (⟨hC.1, (hg4.block _ (Array.getElem?_eq_some_iff.1 hC.2).1 (fun e => hC.1 (by simpa using e))).trans hC.2⟩) (by omega))
    exact AllReady.nil
  have s21010 : ∀ (wr : World) (bA bB bC bE q : Nat) (sA sC : ByteArray) (z22 z29 : Value), K B cv len W wr → (w.heap.size + 1 ≤ bB ∧ bB ≠ O ∧ wr.heap[bB]? = some (.cells #[.string ⟨#[101]⟩, .string ⟨#[101]⟩, .string ⟨#[101]⟩, .string ⟨#[101]⟩] 9 (0, 0))) → wpAny Try.prog .any bentOps Q 9 #[true, true, true, true, true, true, true, false, false, true, false, false, false, false, false, false, false] ({ tmps := #[.pointer (some ⟨B, 0, none⟩), y1, y2, .pointer (some ⟨X, 0, none⟩), y4, y5, y6, y7, y8, y9, y10, y11, y12, y13, y14, y15, y16, y17, y18, .pointer (some ⟨X, 1, none⟩), (.slice (some ⟨O, 0, none⟩) 7 co), .pointer (some ⟨B, 0, none⟩), z22, .string sA, .slice (some ⟨bB, 0, none⟩) 4 4, .pointer (some ⟨B, 0, none⟩), undef, undef, .pointer (some ⟨B, 0, none⟩), undef, undef, undef, undef, undef, undef, y35, y36, y37, y38, y39, y40, y41, y42], defers := [] } : Act) wr := by
    intro wr bA bB bC bE q sA sC z22 z29 hK0 hB
    have hc1 := (cells_of2 (HMK.out wr hK0).1.1).1.2
    have hsz := (HMK.out wr hK0).2.2.2.1.size
    have hnB : wr.heap.size ≠ B := by have := hK0.2.lt; omega
    have hlB : w.heap.size + 1 ≤ wr.heap.size := by have := (Array.getElem?_eq_some_iff.1 (HMK.out wr hK0).1.1).1; omega
    have hnO : wr.heap.size ≠ O := by have := ((HMK.out wr hK0).2.1.2.1.lt O rfl).2; omega
    have HH0 := Lib.hid (And.intro hsz (And.intro hnB (And.intro hlB hnO)))
    refine wpAny_ready (rs := [7, 10]) (by kernel_rfl) (by simp) ?_
    refine AllReady.cons bop7 (fun KK hKK => ?_) ?_
    · go_simp
      refine (below_any B cv len 5 wr (by omega) (by omega) (HMK.out wr hK0).2.2.2.2 hK0.2).mono ?_
      rintro e w4 ⟨x, rfl, hx0, hx1, hu4, hg4⟩
      obtain ⟨qq, rfl⟩ : ∃ qq : Nat, x = (qq : Int) := ⟨x.toNat, by omega⟩
      refine hKK _ _ ?_
      have hq4 : (qq : Int) ≤ 4 := by omega
      refine wpAny_take (i := 8) (v := .slice (some ⟨bB, 0, none⟩) qq 4) bop8 (by kernel_rfl) (by kernel_rfl) (by kernel_rfl) (fun _ _ _ h => hQp _ _ _ _ _ h) (Or.inl ⟨by rfl, ?hy8⟩) ?_
      case hy8 => (intro ww; go_simp; try with_reducible rfl)
      exact (s31010 w4 bA bB bC bE qq sA sC z22 z29 (⟨grown_trans hK0.1 hg4, hu4⟩) (⟨hB.1, hB.2.1, (hg4.block _ (Array.getElem?_eq_some_iff.1 hB.2.2).1 (fun e => by simp at e; omega)).trans hB.2.2⟩) (by omega))
    refine AllReady.cons bop10 (fun KK hKK => ?_) ?_
    · go_simp
      exact hKK _ _ (s21110 (wr.alloc (.cells #[.string ⟨#[101]⟩, .string ⟨#[122, 122]⟩] 9)) bA bB wr.heap.size bE q sA sC z22 z29 (hK0.alloc _) (⟨hB.1, hB.2.1, (Below.heap_alloc _ _ _ (Array.getElem?_eq_some_iff.1 hB.2.2).1).trans hB.2.2⟩) (⟨hnB, heap_new wr _ rfl⟩))
    exact AllReady.nil
  have s21100 : ∀ (wr : World) (bA bB bC bE q : Nat) (sA sC : ByteArray) (z22 z29 : Value), K B cv len W wr → (w.heap.size + 1 ≤ bB ∧ bB ≠ O ∧ wr.heap[bB]? = some (.cells #[.string ⟨#[101]⟩, .string ⟨#[101]⟩, .string ⟨#[101]⟩, .string ⟨#[101]⟩] 9 (0, 0))) → (bC ≠ B ∧ wr.heap[bC]? = some (.cells #[.string ⟨#[101]⟩, .string ⟨#[122, 122]⟩] 9 (0, 0))) → wpAny Try.prog .any bentOps Q 9 #[true, false, true, true, true, true, true, false, false, true, true, false, false, false, false, false, false] ({ tmps := #[.pointer (some ⟨B, 0, none⟩), y1, y2, .pointer (some ⟨X, 0, none⟩), y4, y5, y6, y7, y8, y9, y10, y11, y12, y13, y14, y15, y16, y17, y18, .pointer (some ⟨X, 1, none⟩), undef, .pointer (some ⟨B, 0, none⟩), z22, .string sA, .slice (some ⟨bB, 0, none⟩) 4 4, .pointer (some ⟨B, 0, none⟩), undef, undef, .pointer (some ⟨B, 0, none⟩), .slice (some ⟨bC, 0, none⟩) 2 2, undef, undef, undef, undef, undef, y35, y36, y37, y38, y39, y40, y41, y42], defers := [] } : Act) wr := by
    intro wr bA bB bC bE q sA sC z22 z29 hK0 hB hC
    have hc1 := (cells_of2 (HMK.out wr hK0).1.1).1.2
    have hsz := (HMK.out wr hK0).2.2.2.1.size
    have hnB : wr.heap.size ≠ B := by have := hK0.2.lt; omega
    have hlB : w.heap.size + 1 ≤ wr.heap.size := by have := (Array.getElem?_eq_some_iff.1 (HMK.out wr hK0).1.1).1; omega
    have hnO : wr.heap.size ≠ O := by have := ((HMK.out wr hK0).2.1.2.1.lt O rfl).2; omega
    have HH0 := Lib.hid (And.intro hsz (And.intro hnB (And.intro hlB hnO)))
    refine wpAny_ready (rs := [1, 7]) (by kernel_rfl) (by simp) ?_
    refine AllReady.cons bop1 (fun KK hKK => ?_) ?_
    · go_simp
      exact hKK _ _ (s21110 wr bA bB bC bE q sA sC z22 z29 (hK0) (hB) (hC))
    refine AllReady.cons bop7 (fun KK hKK => ?_) ?_
    · go_simp
      refine (below_any B cv len 5 wr (by omega) (by omega) (HMK.out wr hK0).2.2.2.2 hK0.2).mono ?_
      rintro e w4 ⟨x, rfl, hx0, hx1, hu4, hg4⟩
      obtain ⟨qq, rfl⟩ : ∃ qq : Nat, x = (qq : Int) := ⟨x.toNat, by omega⟩
      refine hKK _ _ ?_
      have hq4 : (qq : Int) ≤ 4 := by omega
      refine wpAny_take (i := 8) (v := .slice (some ⟨bB, 0, none⟩) qq 4) bop8 (by kernel_rfl) (by kernel_rfl) (by kernel_rfl) (fun _ _ _ h => hQp _ _ _ _ _ h) (Or.inl ⟨by rfl, ?hy8⟩) ?_
      case hy8 => (intro ww; go_simp; try with_reducible rfl)
      exact (s31100 w4 bA bB bC bE qq sA sC z22 z29 (⟨grown_trans hK0.1 hg4, hu4⟩) (⟨hB.1, hB.2.1, (hg4.block _ (Array.getElem?_eq_some_iff.1 hB.2.2).1 (fun e => by simp at e; omega)).trans hB.2.2⟩) (⟨hC.1, (hg4.block _ (Array.getElem?_eq_some_iff.1 hC.2).1 (fun e => hC.1 (by simpa using e))).trans hC.2⟩) (by omega))
    exact AllReady.nil
  have s30010 : ∀ (wr : World) (bA bB bC bE q : Nat) (sA sC : ByteArray) (z22 z29 : Value), K B cv len W wr → q ≤ 4 → wpAny Try.prog .any bentOps Q 9 #[true, true, true, true, true, false, true, true, false, true, false, false, false, false, false, false, false] ({ tmps := #[.pointer (some ⟨B, 0, none⟩), y1, y2, .pointer (some ⟨X, 0, none⟩), y4, y5, y6, y7, y8, y9, y10, y11, y12, y13, y14, y15, y16, y17, y18, .pointer (some ⟨X, 1, none⟩), (.slice (some ⟨O, 0, none⟩) 7 co), .pointer (some ⟨B, 0, none⟩), z22, .string sA, undef, .pointer (some ⟨B, 0, none⟩), .int .i64 (q : Int), undef, .pointer (some ⟨B, 0, none⟩), undef, undef, undef, undef, undef, undef, y35, y36, y37, y38, y39, y40, y41, y42], defers := [] } : Act) wr := by
    intro wr bA bB bC bE q sA sC z22 z29 hK0 hq
    have hc1 := (cells_of2 (HMK.out wr hK0).1.1).1.2
    have hsz := (HMK.out wr hK0).2.2.2.1.size
    have hnB : wr.heap.size ≠ B := by have := hK0.2.lt; omega
    have hlB : w.heap.size + 1 ≤ wr.heap.size := by have := (Array.getElem?_eq_some_iff.1 (HMK.out wr hK0).1.1).1; omega
    have hnO : wr.heap.size ≠ O := by have := ((HMK.out wr hK0).2.1.2.1.lt O rfl).2; omega
    have HH0 := Lib.hid (And.intro hsz (And.intro hnB (And.intro hlB hnO)))
    refine wpAny_ready (rs := [5, 10]) (by kernel_rfl) (by simp) ?_
    refine AllReady.cons bop5 (fun KK hKK => ?_) ?_
    · go_simp
      refine hKK _ _ ?_
      have hq4 : (q : Int) ≤ 4 := by omega
      refine wpAny_take (i := 8) (v := .slice (some ⟨wr.heap.size, 0, none⟩) q 4) bop8 (by kernel_rfl) (by kernel_rfl) (by kernel_rfl) (fun _ _ _ h => hQp _ _ _ _ _ h) (Or.inl ⟨by rfl, ?hy8⟩) ?_
      case hy8 => (intro ww; go_simp; try with_reducible rfl)
      exact (s31010 (wr.alloc (.cells #[.string ⟨#[101]⟩, .string ⟨#[101]⟩, .string ⟨#[101]⟩, .string ⟨#[101]⟩] 9)) bA wr.heap.size bC bE q sA sC z22 z29 (hK0.alloc _) (⟨hlB, hnO, heap_new wr _ rfl⟩) (hq))
    refine AllReady.cons bop10 (fun KK hKK => ?_) ?_
    · go_simp
      exact hKK _ _ (s30110 (wr.alloc (.cells #[.string ⟨#[101]⟩, .string ⟨#[122, 122]⟩] 9)) bA bB wr.heap.size bE q sA sC z22 z29 (hK0.alloc _) (⟨hnB, heap_new wr _ rfl⟩) (hq))
    exact AllReady.nil
  have s30100 : ∀ (wr : World) (bA bB bC bE q : Nat) (sA sC : ByteArray) (z22 z29 : Value), K B cv len W wr → (bC ≠ B ∧ wr.heap[bC]? = some (.cells #[.string ⟨#[101]⟩, .string ⟨#[122, 122]⟩] 9 (0, 0))) → q ≤ 4 → wpAny Try.prog .any bentOps Q 9 #[true, false, true, true, true, false, true, true, false, true, true, false, false, false, false, false, false] ({ tmps := #[.pointer (some ⟨B, 0, none⟩), y1, y2, .pointer (some ⟨X, 0, none⟩), y4, y5, y6, y7, y8, y9, y10, y11, y12, y13, y14, y15, y16, y17, y18, .pointer (some ⟨X, 1, none⟩), undef, .pointer (some ⟨B, 0, none⟩), z22, .string sA, undef, .pointer (some ⟨B, 0, none⟩), .int .i64 (q : Int), undef, .pointer (some ⟨B, 0, none⟩), .slice (some ⟨bC, 0, none⟩) 2 2, undef, undef, undef, undef, undef, y35, y36, y37, y38, y39, y40, y41, y42], defers := [] } : Act) wr := by
    intro wr bA bB bC bE q sA sC z22 z29 hK0 hC hq
    have hc1 := (cells_of2 (HMK.out wr hK0).1.1).1.2
    have hsz := (HMK.out wr hK0).2.2.2.1.size
    have hnB : wr.heap.size ≠ B := by have := hK0.2.lt; omega
    have hlB : w.heap.size + 1 ≤ wr.heap.size := by have := (Array.getElem?_eq_some_iff.1 (HMK.out wr hK0).1.1).1; omega
    have hnO : wr.heap.size ≠ O := by have := ((HMK.out wr hK0).2.1.2.1.lt O rfl).2; omega
    have HH0 := Lib.hid (And.intro hsz (And.intro hnB (And.intro hlB hnO)))
    refine wpAny_ready (rs := [1, 5, 11]) (by kernel_rfl) (by simp) ?_
    refine AllReady.cons bop1 (fun KK hKK => ?_) ?_
    · go_simp
      exact hKK _ _ (s30110 wr bA bB bC bE q sA sC z22 z29 (hK0) (hC) (hq))
    refine AllReady.cons bop5 (fun KK hKK => ?_) ?_
    · go_simp
      refine hKK _ _ ?_
      have hq4 : (q : Int) ≤ 4 := by omega
      refine wpAny_take (i := 8) (v := .slice (some ⟨wr.heap.size, 0, none⟩) q 4) bop8 (by kernel_rfl) (by kernel_rfl) (by kernel_rfl) (fun _ _ _ h => hQp _ _ _ _ _ h) (Or.inl ⟨by rfl, ?hy8⟩) ?_
      case hy8 => (intro ww; go_simp; try with_reducible rfl)
      exact (s31100 (wr.alloc (.cells #[.string ⟨#[101]⟩, .string ⟨#[101]⟩, .string ⟨#[101]⟩, .string ⟨#[101]⟩] 9)) bA wr.heap.size bC bE q sA sC z22 z29 (hK0.alloc _) (⟨hlB, hnO, heap_new wr _ rfl⟩) (⟨hC.1, (Below.heap_alloc _ _ _ (Array.getElem?_eq_some_iff.1 hC.2).1).trans hC.2⟩) (hq))
    refine AllReady.cons bop11 (fun KK hKK => ?_) ?_
    · go_simp
      refine (pick_any B bC 2 cv len [⟨#[101]⟩, ⟨#[122, 122]⟩] wr (by decide) (by decide) hC.1 (row_cells (ps := [⟨#[101]⟩, ⟨#[122, 122]⟩]) hC.2) (HMK.out wr hK0).2.2.2.2 hK0.2).mono ?_
      rintro e w4 ⟨_, hm, rfl, hu4, hg4⟩
      obtain ⟨pp, _, rfl⟩ := List.mem_map.1 hm
      exact hKK _ _ (s40100 w4 bA bB bC bE q sA pp z22 (.slice (some ⟨bC, 0, none⟩) 2 2) (⟨grown_trans hK0.1 hg4, hu4⟩) (hq))
    exact AllReady.nil
  have s01110 : ∀ (wr : World) (bA bB bC bE q : Nat) (sA sC : ByteArray) (z22 z29 : Value), K B cv len W wr → (w.heap.size + 1 ≤ bB ∧ bB ≠ O ∧ wr.heap[bB]? = some (.cells #[.string ⟨#[101]⟩, .string ⟨#[101]⟩, .string ⟨#[101]⟩, .string ⟨#[101]⟩] 9 (0, 0))) → (bC ≠ B ∧ wr.heap[bC]? = some (.cells #[.string ⟨#[101]⟩, .string ⟨#[122, 122]⟩] 9 (0, 0))) → wpAny Try.prog .any bentOps Q 10 #[true, true, true, false, false, true, true, false, false, true, true, false, false, false, false, false, false] ({ tmps := #[.pointer (some ⟨B, 0, none⟩), y1, y2, .pointer (some ⟨X, 0, none⟩), y4, y5, y6, y7, y8, y9, y10, y11, y12, y13, y14, y15, y16, y17, y18, .pointer (some ⟨X, 1, none⟩), (.slice (some ⟨O, 0, none⟩) 7 co), .pointer (some ⟨B, 0, none⟩), undef, undef, .slice (some ⟨bB, 0, none⟩) 4 4, .pointer (some ⟨B, 0, none⟩), undef, undef, .pointer (some ⟨B, 0, none⟩), .slice (some ⟨bC, 0, none⟩) 2 2, undef, undef, undef, undef, undef, y35, y36, y37, y38, y39, y40, y41, y42], defers := [] } : Act) wr := by
    intro wr bA bB bC bE q sA sC z22 z29 hK0 hB hC
    have hc1 := (cells_of2 (HMK.out wr hK0).1.1).1.2
    have hsz := (HMK.out wr hK0).2.2.2.1.size
    have hnB : wr.heap.size ≠ B := by have := hK0.2.lt; omega
    have hlB : w.heap.size + 1 ≤ wr.heap.size := by have := (Array.getElem?_eq_some_iff.1 (HMK.out wr hK0).1.1).1; omega
    have hnO : wr.heap.size ≠ O := by have := ((HMK.out wr hK0).2.1.2.1.lt O rfl).2; omega
    have HH0 := Lib.hid (And.intro hsz (And.intro hnB (And.intro hlB hnO)))
    refine wpAny_ready (rs := [3]) (by kernel_rfl) (by simp) ?_
    refine AllReady.cons bop3 (fun KK hKK => ?_) ?_
    · go_simp
      exact hKK _ _ (s11110 (wr.alloc (.cells #[.string ⟨#[97]⟩, .string ⟨#[112, 108, 117, 115]⟩, .string ⟨#[110, 101, 119]⟩] 9)) wr.heap.size bB bC bE q sA sC z22 z29 (hK0.alloc _) (⟨hnB, heap_new wr _ rfl⟩) (⟨hB.1, hB.2.1, (Below.heap_alloc _ _ _ (Array.getElem?_eq_some_iff.1 hB.2.2).1).trans hB.2.2⟩) (⟨hC.1, (Below.heap_alloc _ _ _ (Array.getElem?_eq_some_iff.1 hC.2).1).trans hC.2⟩))
    exact AllReady.nil
  have s10110 : ∀ (wr : World) (bA bB bC bE q : Nat) (sA sC : ByteArray) (z22 z29 : Value), K B cv len W wr → (bA ≠ B ∧ wr.heap[bA]? = some (.cells #[.string ⟨#[97]⟩, .string ⟨#[112, 108, 117, 115]⟩, .string ⟨#[110, 101, 119]⟩] 9 (0, 0))) → (bC ≠ B ∧ wr.heap[bC]? = some (.cells #[.string ⟨#[101]⟩, .string ⟨#[122, 122]⟩] 9 (0, 0))) → wpAny Try.prog .any bentOps Q 10 #[true, true, true, true, false, false, true, false, false, true, true, false, false, false, false, false, false] ({ tmps := #[.pointer (some ⟨B, 0, none⟩), y1, y2, .pointer (some ⟨X, 0, none⟩), y4, y5, y6, y7, y8, y9, y10, y11, y12, y13, y14, y15, y16, y17, y18, .pointer (some ⟨X, 1, none⟩), (.slice (some ⟨O, 0, none⟩) 7 co), .pointer (some ⟨B, 0, none⟩), .slice (some ⟨bA, 0, none⟩) 3 3, undef, undef, .pointer (some ⟨B, 0, none⟩), undef, undef, .pointer (some ⟨B, 0, none⟩), .slice (some ⟨bC, 0, none⟩) 2 2, undef, undef, undef, undef, undef, y35, y36, y37, y38, y39, y40, y41, y42], defers := [] } : Act) wr := by
    intro wr bA bB bC bE q sA sC z22 z29 hK0 hA hC
    have hc1 := (cells_of2 (HMK.out wr hK0).1.1).1.2
    have hsz := (HMK.out wr hK0).2.2.2.1.size
    have hnB : wr.heap.size ≠ B := by have := hK0.2.lt; omega
    have hlB : w.heap.size + 1 ≤ wr.heap.size := by have := (Array.getElem?_eq_some_iff.1 (HMK.out wr hK0).1.1).1; omega
    have hnO : wr.heap.size ≠ O := by have := ((HMK.out wr hK0).2.1.2.1.lt O rfl).2; omega
    have HH0 := Lib.hid (And.intro hsz (And.intro hnB (And.intro hlB hnO)))
    refine wpAny_ready (rs := [4, 5]) (by kernel_rfl) (by simp) ?_
    refine AllReady.cons bop4 (fun KK hKK => ?_) ?_
    · go_simp
      refine (pick_any B bA 3 cv len [⟨#[97]⟩, ⟨#[112, 108, 117, 115]⟩, ⟨#[110, 101, 119]⟩] wr (by decide) (by decide) hA.1 (row_cells (ps := [⟨#[97]⟩, ⟨#[112, 108, 117, 115]⟩, ⟨#[110, 101, 119]⟩]) hA.2) (HMK.out wr hK0).2.2.2.2 hK0.2).mono ?_
      rintro e w4 ⟨_, hm, rfl, hu4, hg4⟩
      obtain ⟨pp, _, rfl⟩ := List.mem_map.1 hm
      exact hKK _ _ (s20110 w4 bA bB bC bE q pp sC (.slice (some ⟨bA, 0, none⟩) 3 3) z29 (⟨grown_trans hK0.1 hg4, hu4⟩) (⟨hC.1, (hg4.block _ (Array.getElem?_eq_some_iff.1 hC.2).1 (fun e => hC.1 (by simpa using e))).trans hC.2⟩))
    refine AllReady.cons bop5 (fun KK hKK => ?_) ?_
    · go_simp
      exact hKK _ _ (s11110 (wr.alloc (.cells #[.string ⟨#[101]⟩, .string ⟨#[101]⟩, .string ⟨#[101]⟩, .string ⟨#[101]⟩] 9)) bA wr.heap.size bC bE q sA sC z22 z29 (hK0.alloc _) (⟨hA.1, (Below.heap_alloc _ _ _ (Array.getElem?_eq_some_iff.1 hA.2).1).trans hA.2⟩) (⟨hlB, hnO, heap_new wr _ rfl⟩) (⟨hC.1, (Below.heap_alloc _ _ _ (Array.getElem?_eq_some_iff.1 hC.2).1).trans hC.2⟩))
    exact AllReady.nil
  have s11010 : ∀ (wr : World) (bA bB bC bE q : Nat) (sA sC : ByteArray) (z22 z29 : Value), K B cv len W wr → (bA ≠ B ∧ wr.heap[bA]? = some (.cells #[.string ⟨#[97]⟩, .string ⟨#[112, 108, 117, 115]⟩, .string ⟨#[110, 101, 119]⟩] 9 (0, 0))) → (w.heap.size + 1 ≤ bB ∧ bB ≠ O ∧ wr.heap[bB]? = some (.cells #[.string ⟨#[101]⟩, .string ⟨#[101]⟩, .string ⟨#[101]⟩, .string ⟨#[101]⟩] 9 (0, 0))) → wpAny Try.prog .any bentOps Q 10 #[true, true, true, true, false, true, true, false, false, true, false, false, false, false, false, false, false] ({ tmps := #[.pointer (some ⟨B, 0, none⟩), y1, y2, .pointer (some ⟨X, 0, none⟩), y4, y5, y6, y7, y8, y9, y10, y11, y12, y13, y14, y15, y16, y17, y18, .pointer (some ⟨X, 1, none⟩), (.slice (some ⟨O, 0, none⟩) 7 co), .pointer (some ⟨B, 0, none⟩), .slice (some ⟨bA, 0, none⟩) 3 3, undef, .slice (some ⟨bB, 0, none⟩) 4 4, .pointer (some ⟨B, 0, none⟩), undef, undef, .pointer (some ⟨B, 0, none⟩), undef, undef, undef, undef, undef, undef, y35, y36, y37, y38, y39, y40, y41, y42], defers := [] } : Act) wr := by
    intro wr bA bB bC bE q sA sC z22 z29 hK0 hA hB
    have hc1 := (cells_of2 (HMK.out wr hK0).1.1).1.2
    have hsz := (HMK.out wr hK0).2.2.2.1.size
    have hnB : wr.heap.size ≠ B := by have := hK0.2.lt; omega
    have hlB : w.heap.size + 1 ≤ wr.heap.size := by have := (Array.getElem?_eq_some_iff.1 (HMK.out wr hK0).1.1).1; omega
    have hnO : wr.heap.size ≠ O := by have := ((HMK.out wr hK0).2.1.2.1.lt O rfl).2; omega
    have HH0 := Lib.hid (And.intro hsz (And.intro hnB (And.intro hlB hnO)))
    refine wpAny_ready (rs := [4, 10]) (by kernel_rfl) (by simp) ?_
    refine AllReady.cons bop4 (fun KK hKK => ?_) ?_
    · go_simp
      refine (pick_any B bA 3 cv len [⟨#[97]⟩, ⟨#[112, 108, 117, 115]⟩, ⟨#[110, 101, 119]⟩] wr (by decide) (by decide) hA.1 (row_cells (ps := [⟨#[97]⟩, ⟨#[112, 108, 117, 115]⟩, ⟨#[110, 101, 119]⟩]) hA.2) (HMK.out wr hK0).2.2.2.2 hK0.2).mono ?_
      rintro e w4 ⟨_, hm, rfl, hu4, hg4⟩
      obtain ⟨pp, _, rfl⟩ := List.mem_map.1 hm
      exact hKK _ _ (s21010 w4 bA bB bC bE q pp sC (.slice (some ⟨bA, 0, none⟩) 3 3) z29 (⟨grown_trans hK0.1 hg4, hu4⟩) (⟨hB.1, hB.2.1, (hg4.block _ (Array.getElem?_eq_some_iff.1 hB.2.2).1 (fun e => by simp at e; omega)).trans hB.2.2⟩))
    refine AllReady.cons bop10 (fun KK hKK => ?_) ?_
    · go_simp
      exact hKK _ _ (s11110 (wr.alloc (.cells #[.string ⟨#[101]⟩, .string ⟨#[122, 122]⟩] 9)) bA bB wr.heap.size bE q sA sC z22 z29 (hK0.alloc _) (⟨hA.1, (Below.heap_alloc _ _ _ (Array.getElem?_eq_some_iff.1 hA.2).1).trans hA.2⟩) (⟨hB.1, hB.2.1, (Below.heap_alloc _ _ _ (Array.getElem?_eq_some_iff.1 hB.2.2).1).trans hB.2.2⟩) (⟨hnB, heap_new wr _ rfl⟩))
    exact AllReady.nil
  have s11100 : ∀ (wr : World) (bA bB bC bE q : Nat) (sA sC : ByteArray) (z22 z29 : Value), K B cv len W wr → (bA ≠ B ∧ wr.heap[bA]? = some (.cells #[.string ⟨#[97]⟩, .string ⟨#[112, 108, 117, 115]⟩, .string ⟨#[110, 101, 119]⟩] 9 (0, 0))) → (w.heap.size + 1 ≤ bB ∧ bB ≠ O ∧ wr.heap[bB]? = some (.cells #[.string ⟨#[101]⟩, .string ⟨#[101]⟩, .string ⟨#[101]⟩, .string ⟨#[101]⟩] 9 (0, 0))) → (bC ≠ B ∧ wr.heap[bC]? = some (.cells #[.string ⟨#[101]⟩, .string ⟨#[122, 122]⟩] 9 (0, 0))) → wpAny Try.prog .any bentOps Q 10 #[true, false, true, true, false, true, true, false, false, true, true, false, false, false, false, false, false] ({ tmps := #[.pointer (some ⟨B, 0, none⟩), y1, y2, .pointer (some ⟨X, 0, none⟩), y4, y5, y6, y7, y8, y9, y10, y11, y12, y13, y14, y15, y16, y17, y18, .pointer (some ⟨X, 1, none⟩), undef, .pointer (some ⟨B, 0, none⟩), .slice (some ⟨bA, 0, none⟩) 3 3, undef, .slice (some ⟨bB, 0, none⟩) 4 4, .pointer (some ⟨B, 0, none⟩), undef, undef, .pointer (some ⟨B, 0, none⟩), .slice (some ⟨bC, 0, none⟩) 2 2, undef, undef, undef, undef, undef, y35, y36, y37, y38, y39, y40, y41, y42], defers := [] } : Act) wr := by
    intro wr bA bB bC bE q sA sC z22 z29 hK0 hA hB hC
    have hc1 := (cells_of2 (HMK.out wr hK0).1.1).1.2
    have hsz := (HMK.out wr hK0).2.2.2.1.size
    have hnB : wr.heap.size ≠ B := by have := hK0.2.lt; omega
    have hlB : w.heap.size + 1 ≤ wr.heap.size := by have := (Array.getElem?_eq_some_iff.1 (HMK.out wr hK0).1.1).1; omega
    have hnO : wr.heap.size ≠ O := by have := ((HMK.out wr hK0).2.1.2.1.lt O rfl).2; omega
    have HH0 := Lib.hid (And.intro hsz (And.intro hnB (And.intro hlB hnO)))
    refine wpAny_ready (rs := [1, 4]) (by kernel_rfl) (by simp) ?_
    refine AllReady.cons bop1 (fun KK hKK => ?_) ?_
    · go_simp
      exact hKK _ _ (s11110 wr bA bB bC bE q sA sC z22 z29 (hK0) (hA) (hB) (hC))
    refine AllReady.cons bop4 (fun KK hKK => ?_) ?_
    · go_simp
      refine (pick_any B bA 3 cv len [⟨#[97]⟩, ⟨#[112, 108, 117, 115]⟩, ⟨#[110, 101, 119]⟩] wr (by decide) (by decide) hA.1 (row_cells (ps := [⟨#[97]⟩, ⟨#[112, 108, 117, 115]⟩, ⟨#[110, 101, 119]⟩]) hA.2) (HMK.out wr hK0).2.2.2.2 hK0.2).mono ?_
      rintro e w4 ⟨_, hm, rfl, hu4, hg4⟩
      obtain ⟨pp, _, rfl⟩ := List.mem_map.1 hm
      exact hKK _ _ (s21100 w4 bA bB bC bE q pp sC (.slice (some ⟨bA, 0, none⟩) 3 3) z29 (⟨grown_trans hK0.1 hg4, hu4⟩) (⟨hB.1, hB.2.1, (hg4.block _ (Array.getElem?_eq_some_iff.1 hB.2.2).1 (fun e => by simp at e; omega)).trans hB.2.2⟩) (⟨hC.1, (hg4.block _ (Array.getElem?_eq_some_iff.1 hC.2).1 (fun e => hC.1 (by simpa using e))).trans hC.2⟩))
    exact AllReady.nil
  have s20010 : ∀ (wr : World) (bA bB bC bE q : Nat) (sA sC : ByteArray) (z22 z29 : Value), K B cv len W wr → wpAny Try.prog .any bentOps Q 10 #[true, true, true, true, true, false, true, false, false, true, false, false, false, false, false, false, false] ({ tmps := #[.pointer (some ⟨B, 0, none⟩), y1, y2, .pointer (some ⟨X, 0, none⟩), y4, y5, y6, y7, y8, y9, y10, y11, y12, y13, y14, y15, y16, y17, y18, .pointer (some ⟨X, 1, none⟩), (.slice (some ⟨O, 0, none⟩) 7 co), .pointer (some ⟨B, 0, none⟩), z22, .string sA, undef, .pointer (some ⟨B, 0, none⟩), undef, undef, .pointer (some ⟨B, 0, none⟩), undef, undef, undef, undef, undef, undef, y35, y36, y37, y38, y39, y40, y41, y42], defers := [] } : Act) wr := by
    intro wr bA bB bC bE q sA sC z22 z29 hK0
    have hc1 := (cells_of2 (HMK.out wr hK0).1.1).1.2
    have hsz := (HMK.out wr hK0).2.2.2.1.size
    have hnB : wr.heap.size ≠ B := by have := hK0.2.lt; omega
    have hlB : w.heap.size + 1 ≤ wr.heap.size := by have := (Array.getElem?_eq_some_iff.1 (HMK.out wr hK0).1.1).1; omega
    have hnO : wr.heap.size ≠ O := by have := ((HMK.out wr hK0).2.1.2.1.lt O rfl).2; omega
    have HH0 := Lib.hid (And.intro hsz (And.intro hnB (And.intro hlB hnO)))
    refine wpAny_ready (rs := [5, 7, 10]) (by kernel_rfl) (by simp) ?_
    refine AllReady.cons bop5 (fun KK hKK => ?_) ?_
    · go_simp
      exact hKK _ _ (s21010 (wr.alloc (.cells #[.string ⟨#[101]⟩, .string ⟨#[101]⟩, .string ⟨#[101]⟩, .string ⟨#[101]⟩] 9)) bA wr.heap.size bC bE q sA sC z22 z29 (hK0.alloc _) (⟨hlB, hnO, heap_new wr _ rfl⟩))
    refine AllReady.cons bop7 (fun KK hKK => ?_) ?_
    · go_simp
      refine (below_any B cv len 5 wr (by omega) (by omega) (HMK.out wr hK0).2.2.2.2 hK0.2).mono ?_
      rintro e w4 ⟨x, rfl, hx0, hx1, hu4, hg4⟩
      obtain ⟨qq, rfl⟩ : ∃ qq : Nat, x = (qq : Int) := ⟨x.toNat, by omega⟩
      exact hKK _ _ (s30010 w4 bA bB bC bE qq sA sC z22 z29 (⟨grown_trans hK0.1 hg4, hu4⟩) (by omega))
    refine AllReady.cons bop10 (fun KK hKK => ?_) ?_
    · go_simp
      exact hKK _ _ (s20110 (wr.alloc (.cells #[.string ⟨#[101]⟩, .string ⟨#[122, 122]⟩] 9)) bA bB wr.heap.size bE q sA sC z22 z29 (hK0.alloc _) (⟨hnB, heap_new wr _ rfl⟩))
    exact AllReady.nil
  have s20100 : ∀ (wr : World) (bA bB bC bE q : Nat) (sA sC : ByteArray) (z22 z29 : Value), K B cv len W wr → (bC ≠ B ∧ wr.heap[bC]? = some (.cells #[.string ⟨#[101]⟩, .string ⟨#[122, 122]⟩] 9 (0, 0))) → wpAny Try.prog .any bentOps Q 10 #[true, false, true, true, true, false, true, false, false, true, true, false, false, false, false, false, false] ({ tmps := #[.pointer (some ⟨B, 0, none⟩), y1, y2, .pointer (some ⟨X, 0, none⟩), y4, y5, y6, y7, y8, y9, y10, y11, y12, y13, y14, y15, y16, y17, y18, .pointer (some ⟨X, 1, none⟩), undef, .pointer (some ⟨B, 0, none⟩), z22, .string sA, undef, .pointer (some ⟨B, 0, none⟩), undef, undef, .pointer (some ⟨B, 0, none⟩), .slice (some ⟨bC, 0, none⟩) 2 2, undef, undef, undef, undef, undef, y35, y36, y37, y38, y39, y40, y41, y42], defers := [] } : Act) wr := by
    intro wr bA bB bC bE q sA sC z22 z29 hK0 hC
    have hc1 := (cells_of2 (HMK.out wr hK0).1.1).1.2
    have hsz := (HMK.out wr hK0).2.2.2.1.size
    have hnB : wr.heap.size ≠ B := by have := hK0.2.lt; omega
    have hlB : w.heap.size + 1 ≤ wr.heap.size := by have := (Array.getElem?_eq_some_iff.1 (HMK.out wr hK0).1.1).1; omega
    have hnO : wr.heap.size ≠ O := by have := ((HMK.out wr hK0).2.1.2.1.lt O rfl).2; omega
    have HH0 := Lib.hid (And.intro hsz (And.intro hnB (And.intro hlB hnO)))
    refine wpAny_ready (rs := [1, 5, 7]) (by kernel_rfl) (by simp) ?_
    refine AllReady.cons bop1 (fun KK hKK => ?_) ?_
    · go_simp
      exact hKK _ _ (s20110 wr bA bB bC bE q sA sC z22 z29 (hK0) (hC))
    refine AllReady.cons bop5 (fun KK hKK => ?_) ?_
    · go_simp
      exact hKK _ _ (s21100 (wr.alloc (.cells #[.string ⟨#[101]⟩, .string ⟨#[101]⟩, .string ⟨#[101]⟩, .string ⟨#[101]⟩] 9)) bA wr.heap.size bC bE q sA sC z22 z29 (hK0.alloc _) (⟨hlB, hnO, heap_new wr _ rfl⟩) (⟨hC.1, (Below.heap_alloc _ _ _ (Array.getElem?_eq_some_iff.1 hC.2).1).trans hC.2⟩))
    refine AllReady.cons bop7 (fun KK hKK => ?_) ?_
    · go_simp
      refine (below_any B cv len 5 wr (by omega) (by omega) (HMK.out wr hK0).2.2.2.2 hK0.2).mono ?_
      rintro e w4 ⟨x, rfl, hx0, hx1, hu4, hg4⟩
      obtain ⟨qq, rfl⟩ : ∃ qq : Nat, x = (qq : Int) := ⟨x.toNat, by omega⟩
      exact hKK _ _ (s30100 w4 bA bB bC bE qq sA sC z22 z29 (⟨grown_trans hK0.1 hg4, hu4⟩) (⟨hC.1, (hg4.block _ (Array.getElem?_eq_some_iff.1 hC.2).1 (fun e => hC.1 (by simpa using e))).trans hC.2⟩) (by omega))
    exact AllReady.nil
  have s21000 : ∀ (wr : World) (bA bB bC bE q : Nat) (sA sC : ByteArray) (z22 z29 : Value), K B cv len W wr → (w.heap.size + 1 ≤ bB ∧ bB ≠ O ∧ wr.heap[bB]? = some (.cells #[.string ⟨#[101]⟩, .string ⟨#[101]⟩, .string ⟨#[101]⟩, .string ⟨#[101]⟩] 9 (0, 0))) → wpAny Try.prog .any bentOps Q 10 #[true, false, true, true, true, true, true, false, false, true, false, false, false, false, false, false, false] ({ tmps := #[.pointer (some ⟨B, 0, none⟩), y1, y2, .pointer (some ⟨X, 0, none⟩), y4, y5, y6, y7, y8, y9, y10, y11, y12, y13, y14, y15, y16, y17, y18, .pointer (some ⟨X, 1, none⟩), undef, .pointer (some ⟨B, 0, none⟩), z22, .string sA, .slice (some ⟨bB, 0, none⟩) 4 4, .pointer (some ⟨B, 0, none⟩), undef, undef, .pointer (some ⟨B, 0, none⟩), undef, undef, undef, undef, undef, undef, y35, y36, y37, y38, y39, y40, y41, y42], defers := [] } : Act) wr := by
    intro wr bA bB bC bE q sA sC z22 z29 hK0 hB
    have hc1 := (cells_of2 (HMK.out wr hK0).1.1).1.2
    have hsz := (HMK.out wr hK0).2.2.2.1.size
    have hnB : wr.heap.size ≠ B := by have := hK0.2.lt; omega
    have hlB : w.heap.size + 1 ≤ wr.heap.size := by have := (Array.getElem?_eq_some_iff.1 (HMK.out wr hK0).1.1).1; omega
    have hnO : wr.heap.size ≠ O := by have := ((HMK.out wr hK0).2.1.2.1.lt O rfl).2; omega
    have HH0 := Lib.hid (And.intro hsz (And.intro hnB (And.intro hlB hnO)))
    refine wpAny_ready (rs := [1, 7, 10]) (by kernel_rfl) (by simp) ?_
    refine AllReady.cons bop1 (fun KK hKK => ?_) ?_
    · go_simp
      exact hKK _ _ (s21010 wr bA bB bC bE q sA sC z22 z29 (hK0) (hB))
    refine AllReady.cons bop7 (fun KK hKK => ?_) ?_
    · go_simp
      refine (below_any B cv len 5 wr (by omega) (by omega) (HMK.out wr hK0).2.2.2.2 hK0.2).mono ?_
      rintro e w4 ⟨x, rfl, hx0, hx1, hu4, hg4⟩
      obtain ⟨qq, rfl⟩ : ∃ qq : Nat, x = (qq : Int) := ⟨x.toNat, by omega⟩
      refine hKK _ _ ?_
      have hq4 : (qq : Int) ≤ 4 := by omega
      refine wpAny_take (i := 8) (v := .slice (some ⟨bB, 0, none⟩) qq 4) bop8 (by kernel_rfl) (by kernel_rfl) (by kernel_rfl) (fun _ _ _ h => hQp _ _ _ _ _ h) (Or.inl ⟨by rfl, ?hy8⟩) ?_
      case hy8 => (intro ww; go_simp; try with_reducible rfl)
      exact (s31000 w4 bA bB bC bE qq sA sC z22 z29 (⟨grown_trans hK0.1 hg4, hu4⟩) (⟨hB.1, hB.2.1, (hg4.block _ (Array.getElem?_eq_some_iff.1 hB.2.2).1 (fun e => by simp at e; omega)).trans hB.2.2⟩) (by omega))
    refine AllReady.cons bop10 (fun KK hKK => ?_) ?_
    · go_simp
      exact hKK _ _ (s21100 (wr.alloc (.cells #[.string ⟨#[101]⟩, .string ⟨#[122, 122]⟩] 9)) bA bB wr.heap.size bE q sA sC z22 z29 (hK0.alloc _) (⟨hB.1, hB.2.1, (Below.heap_alloc _ _ _ (Array.getElem?_eq_some_iff.1 hB.2.2).1).trans hB.2.2⟩) (⟨hnB, heap_new wr _ rfl⟩))
    exact AllReady.nil
  have s30000 : ∀ (wr : World) (bA bB bC bE q : Nat) (sA sC : ByteArray) (z22 z29 : Value), K B cv len W wr → q ≤ 4 → wpAny Try.prog .any bentOps Q 10 #[true, false, true, true, true, false, true, true, false, true, false, false, false, false, false, false, false] ({ tmps := #[.pointer (some ⟨B, 0, none⟩), y1, y2, .pointer (some ⟨X, 0, none⟩), y4, y5, y6, y7, y8, y9, y10, y11, y12, y13, y14, y15, y16, y17, y18, .pointer (some ⟨X, 1, none⟩), undef, .pointer (some ⟨B, 0, none⟩), z22, .string sA, undef, .pointer (some ⟨B, 0, none⟩), .int .i64 (q : Int), undef, .pointer (some ⟨B, 0, none⟩), undef, undef, undef, undef, undef, undef, y35, y36, y37, y38, y39, y40, y41, y42], defers := [] } : Act) wr := by
    intro wr bA bB bC bE q sA sC z22 z29 hK0 hq
    have hc1 := (cells_of2 (HMK.out wr hK0).1.1).1.2
    have hsz := (HMK.out wr hK0).2.2.2.1.size
    have hnB : wr.heap.size ≠ B := by have := hK0.2.lt; omega
    have hlB : w.heap.size + 1 ≤ wr.heap.size := by have := (Array.getElem?_eq_some_iff.1 (HMK.out wr hK0).1.1).1; omega
    have hnO : wr.heap.size ≠ O := by have := ((HMK.out wr hK0).2.1.2.1.lt O rfl).2; omega
    have HH0 := Lib.hid (And.intro hsz (And.intro hnB (And.intro hlB hnO)))
    refine wpAny_ready (rs := [1, 5, 10]) (by kernel_rfl) (by simp) ?_
    refine AllReady.cons bop1 (fun KK hKK => ?_) ?_
    · go_simp
      exact hKK _ _ (s30010 wr bA bB bC bE q sA sC z22 z29 (hK0) (hq))
    refine AllReady.cons bop5 (fun KK hKK => ?_) ?_
    · go_simp
      refine hKK _ _ ?_
      have hq4 : (q : Int) ≤ 4 := by omega
      refine wpAny_take (i := 8) (v := .slice (some ⟨wr.heap.size, 0, none⟩) q 4) bop8 (by kernel_rfl) (by kernel_rfl) (by kernel_rfl) (fun _ _ _ h => hQp _ _ _ _ _ h) (Or.inl ⟨by rfl, ?hy8⟩) ?_
      case hy8 => (intro ww; go_simp; try with_reducible rfl)
      exact (s31000 (wr.alloc (.cells #[.string ⟨#[101]⟩, .string ⟨#[101]⟩, .string ⟨#[101]⟩, .string ⟨#[101]⟩] 9)) bA wr.heap.size bC bE q sA sC z22 z29 (hK0.alloc _) (⟨hlB, hnO, heap_new wr _ rfl⟩) (hq))
    refine AllReady.cons bop10 (fun KK hKK => ?_) ?_
    · go_simp
      exact hKK _ _ (s30100 (wr.alloc (.cells #[.string ⟨#[101]⟩, .string ⟨#[122, 122]⟩] 9)) bA bB wr.heap.size bE q sA sC z22 z29 (hK0.alloc _) (⟨hnB, heap_new wr _ rfl⟩) (hq))
    exact AllReady.nil
  have s00110 : ∀ (wr : World) (bA bB bC bE q : Nat) (sA sC : ByteArray) (z22 z29 : Value), K B cv len W wr → (bC ≠ B ∧ wr.heap[bC]? = some (.cells #[.string ⟨#[101]⟩, .string ⟨#[122, 122]⟩] 9 (0, 0))) → wpAny Try.prog .any bentOps Q 11 #[true, true, true, false, false, false, true, false, false, true, true, false, false, false, false, false, false] ({ tmps := #[.pointer (some ⟨B, 0, none⟩), y1, y2, .pointer (some ⟨X, 0, none⟩), y4, y5, y6, y7, y8, y9, y10, y11, y12, y13, y14, y15, y16, y17, y18, .pointer (some ⟨X, 1, none⟩), (.slice (some ⟨O, 0, none⟩) 7 co), .pointer (some ⟨B, 0, none⟩), undef, undef, undef, .pointer (some ⟨B, 0, none⟩), undef, undef, .pointer (some ⟨B, 0, none⟩), .slice (some ⟨bC, 0, none⟩) 2 2, undef, undef, undef, undef, undef, y35, y36, y37, y38, y39, y40, y41, y42], defers := [] } : Act) wr := by
    intro wr bA bB bC bE q sA sC z22 z29 hK0 hC
    have hc1 := (cells_of2 (HMK.out wr hK0).1.1).1.2
    have hsz := (HMK.out wr hK0).2.2.2.1.size
    have hnB : wr.heap.size ≠ B := by have := hK0.2.lt; omega
    have hlB : w.heap.size + 1 ≤ wr.heap.size := by have := (Array.getElem?_eq_some_iff.1 (HMK.out wr hK0).1.1).1; omega
    have hnO : wr.heap.size ≠ O := by have := ((HMK.out wr hK0).2.1.2.1.lt O rfl).2; omega
    have HH0 := Lib.hid (And.intro hsz (And.intro hnB (And.intro hlB hnO)))
    refine wpAny_ready (rs := [3, 5]) (by kernel_rfl) (by simp) ?_
    refine AllReady.cons bop3 (fun KK hKK => ?_) ?_
    · go_simp
      exact hKK _ _ (s10110 (wr.alloc (.cells #[.string ⟨#[97]⟩, .string ⟨#[112, 108, 117, 115]⟩, .string ⟨#[110, 101, 119]⟩] 9)) wr.heap.size bB bC bE q sA sC z22 z29 (hK0.alloc _) (⟨hnB, heap_new wr _ rfl⟩) (⟨hC.1, (Below.heap_alloc _ _ _ (Array.getElem?_eq_some_iff.1 hC.2).1).trans hC.2⟩))
    refine AllReady.cons bop5 (fun KK hKK => ?_) ?_
    · go_simp
      exact hKK _ _ (s01110 (wr.alloc (.cells #[.string ⟨#[101]⟩, .string ⟨#[101]⟩, .string ⟨#[101]⟩, .string ⟨#[101]⟩] 9)) bA wr.heap.size bC bE q sA sC z22 z29 (hK0.alloc _) (⟨hlB, hnO, heap_new wr _ rfl⟩) (⟨hC.1, (Below.heap_alloc _ _ _ (Array.getElem?_eq_some_iff.1 hC.2).1).trans hC.2⟩))
    exact AllReady.nil
  have s01010 : ∀ (wr : World) (bA bB bC bE q : Nat) (sA sC : ByteArray) (z22 z29 : Value), K B cv len W wr → (w.heap.size + 1 ≤ bB ∧ bB ≠ O ∧ wr.heap[bB]? = some (.cells #[.string ⟨#[101]⟩, .string ⟨#[101]⟩, .string ⟨#[101]⟩, .string ⟨#[101]⟩] 9 (0, 0))) → wpAny Try.prog .any bentOps Q 11 #[true, true, true, false, false, true, true, false, false, true, false, false, false, false, false, false, false] ({ tmps := #[.pointer (some ⟨B, 0, none⟩), y1, y2, .pointer (some ⟨X, 0, none⟩), y4, y5, y6, y7, y8, y9, y10, y11, y12, y13, y14, y15, y16, y17, y18, .pointer (some ⟨X, 1, none⟩), (.slice (some ⟨O, 0, none⟩) 7 co), .pointer (some ⟨B, 0, none⟩), undef, undef, .slice (some ⟨bB, 0, none⟩) 4 4, .pointer (some ⟨B, 0, none⟩), undef, undef, .pointer (some ⟨B, 0, none⟩), undef, undef, undef, undef, undef, undef, y35, y36, y37, y38, y39, y40, y41, y42], defers := [] } : Act) wr := by
    intro wr bA bB bC bE q sA sC z22 z29 hK0 hB
    have hc1 := (cells_of2 (HMK.out wr hK0).1.1).1.2
    have hsz := (HMK.out wr hK0).2.2.2.1.size
    have hnB : wr.heap.size ≠ B := by have := hK0.2.lt; omega
    have hlB : w.heap.size + 1 ≤ wr.heap.size := by have := (Array.getElem?_eq_some_iff.1 (HMK.out wr hK0).1.1).1; omega
    have hnO : wr.heap.size ≠ O := by have := ((HMK.out wr hK0).2.1.2.1.lt O rfl).2; omega
    have HH0 := Lib.hid (And.intro hsz (And.intro hnB (And.intro hlB hnO)))
    refine wpAny_ready (rs := [3, 10]) (by kernel_rfl) (by simp) ?_
    refine AllReady.cons bop3 (fun KK hKK => ?_) ?_
    · go_simp
      exact hKK _ _ (s11010 (wr.alloc (.cells #[.string ⟨#[97]⟩, .string ⟨#[112, 108, 117, 115]⟩, .string ⟨#[110, 101, 119]⟩] 9)) wr.heap.size bB bC bE q sA sC z22 z29 (hK0.alloc _) (⟨hnB, heap_new wr _ rfl⟩) (⟨hB.1, hB.2.1, (Below.heap_alloc _ _ _ (Array.getElem?_eq_some_iff.1 hB.2.2).1).trans hB.2.2⟩))
    refine AllReady.cons bop10 (fun KK hKK => ?_) ?_
    · go_simp
      exact hKK _ _ (s01110 (wr.alloc (.cells #[.string ⟨#[101]⟩, .string ⟨#[122, 122]⟩] 9)) bA bB wr.heap.size bE q sA sC z22 z29 (hK0.alloc _) (⟨hB.1, hB.2.1, (Below.heap_alloc _ _ _ (Array.getElem?_eq_some_iff.1 hB.2.2).1).trans hB.2.2⟩) (⟨hnB, heap_new wr _ rfl⟩))
    exact AllReady.nil
  have s01100 : ∀ (wr : World) (bA bB bC bE q : Nat) (sA sC : ByteArray) (z22 z29 : Value), K B cv len W wr → (w.heap.size + 1 ≤ bB ∧ bB ≠ O ∧ wr.heap[bB]? = some (.cells #[.string ⟨#[101]⟩, .string ⟨#[101]⟩, .string ⟨#[101]⟩, .string ⟨#[101]⟩] 9 (0, 0))) → (bC ≠ B ∧ wr.heap[bC]? = some (.cells #[.string ⟨#[101]⟩, .string ⟨#[122, 122]⟩] 9 (0, 0))) → wpAny Try.prog .any bentOps Q 11 #[true, false, true, false, false, true, true, false, false, true, true, false, false, false, false, false, false] ({ tmps := #[.pointer (some ⟨B, 0, none⟩), y1, y2, .pointer (some ⟨X, 0, none⟩), y4, y5, y6, y7, y8, y9, y10, y11, y12, y13, y14, y15, y16, y17, y18, .pointer (some ⟨X, 1, none⟩), undef, .pointer (some ⟨B, 0, none⟩), undef, undef, .slice (some ⟨bB, 0, none⟩) 4 4, .pointer (some ⟨B, 0, none⟩), undef, undef, .pointer (some ⟨B, 0, none⟩), .slice (some ⟨bC, 0, none⟩) 2 2, undef, undef, undef, undef, undef, y35, y36, y37, y38, y39, y40, y41, y42], defers := [] } : Act) wr := by
    intro wr bA bB bC bE q sA sC z22 z29 hK0 hB hC
    have hc1 := (cells_of2 (HMK.out wr hK0).1.1).1.2
    have hsz := (HMK.out wr hK0).2.2.2.1.size
    have hnB : wr.heap.size ≠ B := by have := hK0.2.lt; omega
    have hlB : w.heap.size + 1 ≤ wr.heap.size := by have := (Array.getElem?_eq_some_iff.1 (HMK.out wr hK0).1.1).1; omega
    have hnO : wr.heap.size ≠ O := by have := ((HMK.out wr hK0).2.1.2.1.lt O rfl).2; omega
    have HH0 := Lib.hid (And.intro hsz (And.intro hnB (And.intro hlB hnO)))
    refine wpAny_ready (rs := [1, 3]) (by kernel_rfl) (by simp) ?_
    refine AllReady.cons bop1 (fun KK hKK => ?_) ?_
    · go_simp
      exact hKK _ _ (s01110 wr bA bB bC bE q sA sC z22 z29 (hK0) (hB) (hC))
    refine AllReady.cons bop3 (fun KK hKK => ?_) ?_
    · go_simp
      exact hKK _ _ (s11100 (wr.alloc (.cells #[.string ⟨#[97]⟩, .string ⟨#[112, 108, 117, 115]⟩, .string ⟨#[110, 101, 119]⟩] 9)) wr.heap.size bB bC bE q sA sC z22 z29 (hK0.alloc _) (⟨hnB, heap_new wr _ rfl⟩) (⟨hB.1, hB.2.1, (Below.heap_alloc _ _ _ (Array.getElem?_eq_some_iff.1 hB.2.2).1).trans hB.2.2⟩) (⟨hC.1, (Below.heap_alloc _ _ _ (Array.getElem?_eq_some_iff.1 hC.2).1).trans hC.2⟩))
    exact AllReady.nil
  have s10010 : ∀ (wr : World) (bA bB bC bE q : Nat) (sA sC : ByteArray) (z22 z29 : Value), K B cv len W wr → (bA ≠ B ∧ wr.heap[bA]? = some (.cells #[.string ⟨#[97]⟩, .string ⟨#[112, 108, 117, 115]⟩, .string ⟨#[110, 101, 119]⟩] 9 (0, 0))) → wpAny Try.prog .any bentOps Q 11 #[true, true, true, true, false, false, true, false, false, true, false, false, false, false, false, false, false] ({ tmps := #[.pointer (some ⟨B, 0, none⟩), y1, y2, .pointer (some ⟨X, 0, none⟩), y4, y5, y6, y7, y8, y9, y10, y11, y12, y13, y14, y15, y16, y17, y18, .pointer (some ⟨X, 1, none⟩), (.slice (some ⟨O, 0, none⟩) 7 co), .pointer (some ⟨B, 0, none⟩), .slice (some ⟨bA, 0, none⟩) 3 3, undef, undef, .pointer (some ⟨B, 0, none⟩), undef, undef, .pointer (some ⟨B, 0, none⟩), undef, undef, undef, undef, undef, undef, y35, y36, y37, y38, y39, y40, y41, y42], defers := [] } : Act) wr := by
    intro wr bA bB bC bE q sA sC z22 z29 hK0 hA
    have hc1 := (cells_of2 (HMK.out wr hK0).1.1).1.2
    have hsz := (HMK.out wr hK0).2.2.2.1.size
    have hnB : wr.heap.size ≠ B := by have := hK0.2.lt; omega
    have hlB : w.heap.size + 1 ≤ wr.heap.size := by have := (Array.getElem?_eq_some_iff.1 (HMK.out wr hK0).1.1).1; omega
    have hnO : wr.heap.size ≠ O := by have := ((HMK.out wr hK0).2.1.2.1.lt O rfl).2; omega
    have HH0 := Lib.hid (And.intro hsz (And.intro hnB (And.intro hlB hnO)))
    refine wpAny_ready (rs := [4, 5, 10]) (by kernel_rfl) (by simp) ?_
    refine AllReady.cons bop4 (fun KK hKK => ?_) ?_
    · go_simp
      refine (pick_any B bA 3 cv len [⟨#[97]⟩, ⟨#[112, 108, 117, 115]⟩, ⟨#[110, 101, 119]⟩] wr (by decide) (by decide) hA.1 (row_cells (ps := [⟨#[97]⟩, ⟨#[112, 108, 117, 115]⟩, ⟨#[110, 101, 119]⟩]) hA.2) (HMK.out wr hK0).2.2.2.2 hK0.2).mono ?_
      rintro e w4 ⟨_, hm, rfl, hu4, hg4⟩
      obtain ⟨pp, _, rfl⟩ := List.mem_map.1 hm
      exact hKK _ _ (s20010 w4 bA bB bC bE q pp sC (.slice (some ⟨bA, 0, none⟩) 3 3) z29 (⟨grown_trans hK0.1 hg4, hu4⟩))
    refine AllReady.cons bop5 (fun KK hKK => ?_) ?_
    · go_simp
      exact hKK _ _ (s11010 (wr.alloc (.cells #[.string ⟨#[101]⟩, .string ⟨#[101]⟩, .string ⟨#[101]⟩, .string ⟨#[101]⟩] 9)) bA wr.heap.size bC bE q sA sC z22 z29 (hK0.alloc _) (⟨hA.1, (Below.heap_alloc _ _ _ (Array.getElem?_eq_some_iff.1 hA.2).1).trans hA.2⟩) (⟨hlB, hnO, heap_new wr _ rfl⟩))
    refine AllReady.cons bop10 (fun KK hKK => ?_) ?_
    · go_simp
      exact hKK _ _ (s10110 (wr.alloc (.cells #[.string ⟨#[101]⟩, .string ⟨#[122, 122]⟩] 9)) bA bB wr.heap.size bE q sA sC z22 z29 (hK0.alloc _) (⟨hA.1, (Below.heap_alloc _ _ _ (Array.getElem?_eq_some_iff.1 hA.2).1).trans hA.2⟩) (⟨hnB, heap_new wr _ rfl⟩))
    exact AllReady.nil
  have s10100 : ∀ (wr : World) (bA bB bC bE q : Nat) (sA sC : ByteArray) (z22 z29 : Value), K B cv len W wr → (bA ≠ B ∧ wr.heap[bA]? = some (.cells #[.string ⟨#[97]⟩, .string ⟨#[112, 108, 117, 115]⟩, .string ⟨#[110, 101, 119]⟩] 9 (0, 0))) → (bC ≠ B ∧ wr.heap[bC]? = some (.cells #[.string ⟨#[101]⟩, .string ⟨#[122, 122]⟩] 9 (0, 0))) → wpAny Try.prog .any bentOps Q 11 #[true, false, true, true, false, false, true, false, false, true, true, false, false, false, false, false, false] ({ tmps := #[.pointer (some ⟨B, 0, none⟩), y1, y2, .pointer (some ⟨X, 0, none⟩), y4, y5, y6, y7, y8, y9, y10, y11, y12, y13, y14, y15, y16, y17, y18, .pointer (some ⟨X, 1, none⟩), undef, .pointer (some ⟨B, 0, none⟩), .slice (some ⟨bA, 0, none⟩) 3 3, undef, undef, .pointer (some ⟨B, 0, none⟩), undef, undef, .pointer (some ⟨B, 0, none⟩), .slice (some ⟨bC, 0, none⟩) 2 2, undef, undef, undef, undef, undef, y35, y36, y37, y38, y39, y40, y41, y42], defers := [] } : Act) wr := by
    intro wr bA bB bC bE q sA sC z22 z29 hK0 hA hC
    have hc1 := (cells_of2 (HMK.out wr hK0).1.1).1.2
    have hsz := (HMK.out wr hK0).2.2.2.1.size
    have hnB : wr.heap.size ≠ B := by have := hK0.2.lt; omega
    have hlB : w.heap.size + 1 ≤ wr.heap.size := by have := (Array.getElem?_eq_some_iff.1 (HMK.out wr hK0).1.1).1; omega
    have hnO : wr.heap.size ≠ O := by have := ((HMK.out wr hK0).2.1.2.1.lt O rfl).2; omega
    have HH0 := Lib.hid (And.intro hsz (And.intro hnB (And.intro hlB hnO)))
    refine wpAny_ready (rs := [1, 4, 5]) (by kernel_rfl) (by simp) ?_
    refine AllReady.cons bop1 (fun KK hKK => ?_) ?_
    · go_simp
      exact hKK _ _ (s10110 wr bA bB bC bE q sA sC z22 z29 (hK0) (hA) (hC))
    refine AllReady.cons bop4 (fun KK hKK => ?_) ?_
    · go_simp
      refine (pick_any B bA 3 cv len [⟨#[97]⟩, ⟨#[112, 108, 117, 115]⟩, ⟨#[110, 101, 119]⟩] wr (by decide) (by decide) hA.1 (row_cells (ps := [⟨#[97]⟩, ⟨#[112, 108, 117, 115]⟩, ⟨#[110, 101, 119]⟩]) hA.2) (HMK.out wr hK0).2.2.2.2 hK0.2).mono ?_
      rintro e w4 ⟨_, hm, rfl, hu4, hg4⟩
      obtain ⟨pp, _, rfl⟩ := List.mem_map.1 hm
      exact hKK _ _ (s20100 w4 bA bB bC bE q pp sC (.slice (some ⟨bA, 0, none⟩) 3 3) z29 (⟨grown_trans hK0.1 hg4, hu4⟩) (⟨hC.1, (hg4.block _ (Array.getElem?_eq_some_iff.1 hC.2).1 (fun e => hC.1 (by simpa using e))).trans hC.2⟩))
    refine AllReady.cons bop5 (fun KK hKK => ?_) ?_
    · go_simp
      exact hKK _ _ (s11100 (wr.alloc (.cells #[.string ⟨#[101]⟩, .string ⟨#[101]⟩, .string ⟨#[101]⟩, .string ⟨#[101]⟩] 9)) bA wr.heap.size bC bE q sA sC z22 z29 (hK0.alloc _) (⟨hA.1, (Below.heap_alloc _ _ _ (Array.getElem?_eq_some_iff.1 hA.2).1).trans hA.2⟩) (⟨hlB, hnO, heap_new wr _ rfl⟩) (⟨hC.1, (Below.heap_alloc _ _ _ (Array.getElem?_eq_some_iff.1 hC.2).1).trans hC.2⟩))
    exact AllReady.nil
  have s11000 : ∀ (wr : World) (bA bB bC bE q : Nat) (sA sC : ByteArray) (z22 z29 : Value), K B cv len W wr → (bA ≠ B ∧ wr.heap[bA]? = some (.cells #[.string ⟨#[97]⟩, .string ⟨#[112, 108, 117, 115]⟩, .string ⟨#[110, 101, 119]⟩] 9 (0, 0))) → (w.heap.size + 1 ≤ bB ∧ bB ≠ O ∧ wr.heap[bB]? = some (.cells #[.string ⟨#[101]⟩, .string ⟨#[101]⟩, .string ⟨#[101]⟩, .string ⟨#[101]⟩] 9 (0, 0))) → wpAny Try.prog .any bentOps Q 11 #[true, false, true, true, false, true, true, false, false, true, false, false, false, false, false, false, false] ({ tmps := #[.pointer (some ⟨B, 0, none⟩), y1, y2, .pointer (some ⟨X, 0, none⟩), y4, y5, y6, y7, y8, y9, y10, y11, y12, y13, y14, y15, y16, y17, y18, .pointer (some ⟨X, 1, none⟩), undef, .pointer (some ⟨B, 0, none⟩), .slice (some ⟨bA, 0, none⟩) 3 3, undef, .slice (some ⟨bB, 0, none⟩) 4 4, .pointer (some ⟨B, 0, none⟩), undef, undef, .pointer (some ⟨B, 0, none⟩), undef, undef, undef, undef, undef, undef, y35, y36, y37, y38, y39, y40, y41, y42], defers := [] } : Act) wr := by
    intro wr bA bB bC bE q sA sC z22 z29 hK0 hA hB
    have hc1 := (cells_of2 (HMK.out wr hK0).1.1).1.2
    have hsz := (HMK.out wr hK0).2.2.2.1.size
    have hnB : wr.heap.size ≠ B := by have := hK0.2.lt; omega
    have hlB : w.heap.size + 1 ≤ wr.heap.size := by have := (Array.getElem?_eq_some_iff.1 (HMK.out wr hK0).1.1).1; omega
    have hnO : wr.heap.size ≠ O := by have := ((HMK.out wr hK0).2.1.2.1.lt O rfl).2; omega
    have HH0 := Lib.hid (And.intro hsz (And.intro hnB (And.intro hlB hnO)))
    refine wpAny_ready (rs := [1, 4, 10]) (by kernel_rfl) (by simp) ?_
    refine AllReady.cons bop1 (fun KK hKK => ?_) ?_
    · go_simp
      exact hKK _ _ (s11010 wr bA bB bC bE q sA sC z22 z29 (hK0) (hA) (hB))
    refine AllReady.cons bop4 (fun KK hKK => ?_) ?_
    · go_simp
      refine (pick_any B bA 3 cv len [⟨#[97]⟩, ⟨#[112, 108, 117, 115]⟩, ⟨#[110, 101, 119]⟩] wr (by decide) (by decide) hA.1 (row_cells (ps := [⟨#[97]⟩, ⟨#[112, 108, 117, 115]⟩, ⟨#[110, 101, 119]⟩]) hA.2) (HMK.out wr hK0).2.2.2.2 hK0.2).mono ?_
      rintro e w4 ⟨_, hm, rfl, hu4, hg4⟩
      obtain ⟨pp, _, rfl⟩ := List.mem_map.1 hm
      exact hKK _ _ (s21000 w4 bA bB bC bE q pp sC (.slice (some ⟨bA, 0, none⟩) 3 3) z29 (⟨grown_trans hK0.1 hg4, hu4⟩) (⟨hB.1, hB.2.1, (hg4.block _ (Array.getElem?_eq_some_iff.1 hB.2.2).1 (fun e => by simp at e; omega)).trans hB.2.2⟩))
    refine AllReady.cons bop10 (fun KK hKK => ?_) ?_
    · go_simp
      exact hKK _ _ (s11100 (wr.alloc (.cells #[.string ⟨#[101]⟩, .string ⟨#[122, 122]⟩] 9)) bA bB wr.heap.size bE q sA sC z22 z29 (hK0.alloc _) (⟨hA.1, (Below.heap_alloc _ _ _ (Array.getElem?_eq_some_iff.1 hA.2).1).trans hA.2⟩) (⟨hB.1, hB.2.1, (Below.heap_alloc _ _ _ (Array.getElem?_eq_some_iff.1 hB.2.2).1).trans hB.2.2⟩) (⟨hnB, heap_new wr _ rfl⟩))
    exact AllReady.nil
  have s20000 : ∀ (wr : World) (bA bB bC bE q : Nat) (sA sC : ByteArray) (z22 z29 : Value), K B cv len W wr → wpAny Try.prog .any bentOps Q 11 #[true, false, true, true, true, false, true, false, false, true, false, false, false, false, false, false, false] ({ tmps := #[.pointer (some ⟨B, 0, none⟩), y1, y2, .pointer (some ⟨X, 0, none⟩), y4, y5, y6, y7, y8, y9, y10, y11, y12, y13, y14, y15, y16, y17, y18, .pointer (some ⟨X, 1, none⟩), undef, .pointer (some ⟨B, 0, none⟩), z22, .string sA, undef, .pointer (some ⟨B, 0, none⟩), undef, undef, .pointer (some ⟨B, 0, none⟩), undef, undef, undef, undef, undef, undef, y35, y36, y37, y38, y39, y40, y41, y42], defers := [] } : Act) wr := by
    intro wr bA bB bC bE q sA sC z22 z29 hK0
    have hc1 := (cells_of2 (HMK.out wr hK0).1.1).1.2
    have hsz := (HMK.out wr hK0).2.2.2.1.size
    have hnB : wr.heap.size ≠ B := by have := hK0.2.lt; omega
    have hlB : w.heap.size + 1 ≤ wr.heap.size := by have := (Array.getElem?_eq_some_iff.1 (HMK.out wr hK0).1.1).1; omega
    have hnO : wr.heap.size ≠ O := by have := ((HMK.out wr hK0).2.1.2.1.lt O rfl).2; omega
    have HH0 := Lib.hid (And.intro hsz (And.intro hnB (And.intro hlB hnO)))
    refine wpAny_ready (rs := [1, 5, 7, 10]) (by kernel_rfl) (by simp) ?_
    refine AllReady.cons bop1 (fun KK hKK => ?_) ?_
    · go_simp
      exact hKK _ _ (s20010 wr bA bB bC bE q sA sC z22 z29 (hK0))
    refine AllReady.cons bop5 (fun KK hKK => ?_) ?_
    · go_simp
      exact hKK _ _ (s21000 (wr.alloc (.cells #[.string ⟨#[101]⟩, .string ⟨#[101]⟩, .string ⟨#[101]⟩, .string ⟨#[101]⟩] 9)) bA wr.heap.size bC bE q sA sC z22 z29 (hK0.alloc _) (⟨hlB, hnO, heap_new wr _ rfl⟩))
    refine AllReady.cons bop7 (fun KK hKK => ?_) ?_
    · go_simp
      refine (below_any B cv len 5 wr (by omega) (by omega) (HMK.out wr hK0).2.2.2.2 hK0.2).mono ?_
      rintro e w4 ⟨x, rfl, hx0, hx1, hu4, hg4⟩
      obtain ⟨qq, rfl⟩ : ∃ qq : Nat, x = (qq : Int) := ⟨x.toNat, by omega⟩
      exact hKK _ _ (s30000 w4 bA bB bC bE qq sA sC z22 z29 (⟨grown_trans hK0.1 hg4, hu4⟩) (by omega))
    refine AllReady.cons bop10 (fun KK hKK => ?_) ?_
    · go_simp
      exact hKK _ _ (s20100 (wr.alloc (.cells #[.string ⟨#[101]⟩, .string ⟨#[122, 122]⟩] 9)) bA bB wr.heap.size bE q sA sC z22 z29 (hK0.alloc _) (⟨hnB, heap_new wr _ rfl⟩))
    exact AllReady.nil
  have s00010 : ∀ (wr : World) (bA bB bC bE q : Nat) (sA sC : ByteArray) (z22 z29 : Value), K B cv len W wr → wpAny Try.prog .any bentOps Q 12 #[true, true, true, false, false, false, true, false, false, true, false, false, false, false, false, false, false] ({ tmps := #[.pointer (some ⟨B, 0, none⟩), y1, y2, .pointer (some ⟨X, 0, none⟩), y4, y5, y6, y7, y8, y9, y10, y11, y12, y13, y14, y15, y16, y17, y18, .pointer (some ⟨X, 1, none⟩), (.slice (some ⟨O, 0, none⟩) 7 co), .pointer (some ⟨B, 0, none⟩), undef, undef, undef, .pointer (some ⟨B, 0, none⟩), undef, undef, .pointer (some ⟨B, 0, none⟩), undef, undef, undef, undef, undef, undef, y35, y36, y37, y38, y39, y40, y41, y42], defers := [] } : Act) wr := by
    intro wr bA bB bC bE q sA sC z22 z29 hK0
    have hc1 := (cells_of2 (HMK.out wr hK0).1.1).1.2
    have hsz := (HMK.out wr hK0).2.2.2.1.size
    have hnB : wr.heap.size ≠ B := by have := hK0.2.lt; omega
    have hlB : w.heap.size + 1 ≤ wr.heap.size := by have := (Array.getElem?_eq_some_iff.1 (HMK.out wr hK0).1.1).1; omega
    have hnO : wr.heap.size ≠ O := by have := ((HMK.out wr hK0).2.1.2.1.lt O rfl).2; omega
    have HH0 := Lib.hid (And.intro hsz (And.intro hnB (And.intro hlB hnO)))
    refine wpAny_ready (rs := [3, 5, 10]) (by kernel_rfl) (by simp) ?_
    refine AllReady.cons bop3 (fun KK hKK => ?_) ?_
    · go_simp
      exact hKK _ _ (s10010 (wr.alloc (.cells #[.string ⟨#[97]⟩, .string ⟨#[112, 108, 117, 115]⟩, .string ⟨#[110, 101, 119]⟩] 9)) wr.heap.size bB bC bE q sA sC z22 z29 (hK0.alloc _) (⟨hnB, heap_new wr _ rfl⟩))
    refine AllReady.cons bop5 (fun KK hKK => ?_) ?_
    · go_simp
      exact hKK _ _ (s01010 (wr.alloc (.cells #[.string ⟨#[101]⟩, .string ⟨#[101]⟩, .string ⟨#[101]⟩, .string ⟨#[101]⟩] 9)) bA wr.heap.size bC bE q sA sC z22 z29 (hK0.alloc _) (⟨hlB, hnO, heap_new wr _ rfl⟩))
    refine AllReady.cons bop10 (fun KK hKK => ?_) ?_
    · go_simp
      exact hKK _ _ (s00110 (wr.alloc (.cells #[.string ⟨#[101]⟩, .string ⟨#[122, 122]⟩] 9)) bA bB wr.heap.size bE q sA sC z22 z29 (hK0.alloc _) (⟨hnB, heap_new wr _ rfl⟩))
    exact AllReady.nil
  have s00100 : ∀ (wr : World) (bA bB bC bE q : Nat) (sA sC : ByteArray) (z22 z29 : Value), K B cv len W wr → (bC ≠ B ∧ wr.heap[bC]? = some (.cells #[.string ⟨#[101]⟩, .string ⟨#[122, 122]⟩] 9 (0, 0))) → wpAny Try.prog .any bentOps Q 12 #[true, false, true, false, false, false, true, false, false, true, true, false, false, false, false, false, false] ({ tmps := #[.pointer (some ⟨B, 0, none⟩), y1, y2, .pointer (some ⟨X, 0, none⟩), y4, y5, y6, y7, y8, y9, y10, y11, y12, y13, y14, y15, y16, y17, y18, .pointer (some ⟨X, 1, none⟩), undef, .pointer (some ⟨B, 0, none⟩), undef, undef, undef, .pointer (some ⟨B, 0, none⟩), undef, undef, .pointer (some ⟨B, 0, none⟩), .slice (some ⟨bC, 0, none⟩) 2 2, undef, undef, undef, undef, undef, y35, y36, y37, y38, y39, y40, y41, y42], defers := [] } : Act) wr := by
    intro wr bA bB bC bE q sA sC z22 z29 hK0 hC
    have hc1 := (cells_of2 (HMK.out wr hK0).1.1).1.2
    have hsz := (HMK.out wr hK0).2.2.2.1.size
    have hnB : wr.heap.size ≠ B := by have := hK0.2.lt; omega
    have hlB : w.heap.size + 1 ≤ wr.heap.size := by have := (Array.getElem?_eq_some_iff.1 (HMK.out wr hK0).1.1).1; omega
    have hnO : wr.heap.size ≠ O := by have := ((HMK.out wr hK0).2.1.2.1.lt O rfl).2; omega
    have HH0 := Lib.hid (And.intro hsz (And.intro hnB (And.intro hlB hnO)))
    refine wpAny_ready (rs := [1, 3, 5]) (by kernel_rfl) (by simp) ?_
    refine AllReady.cons bop1 (fun KK hKK => ?_) ?_
    · go_simp
      exact hKK _ _ (s00110 wr bA bB bC bE q sA sC z22 z29 (hK0) (hC))
    refine AllReady.cons bop3 (fun KK hKK => ?_) ?_
    · go_simp
      exact hKK _ _ (s10100 (wr.alloc (.cells #[.string ⟨#[97]⟩, .string ⟨#[112, 108, 117, 115]⟩, .string ⟨#[110, 101, 119]⟩] 9)) wr.heap.size bB bC bE q sA sC z22 z29 (hK0.alloc _) (⟨hnB, heap_new wr _ rfl⟩) (⟨hC.1, (Below.heap_alloc _ _ _ (Array.getElem?_eq_some_iff.1 hC.2).1).trans hC.2⟩))
    refine AllReady.cons bop5 (fun KK hKK => ?_) ?_
    · go_simp
      exact hKK _ _ (s01100 (wr.alloc (.cells #[.string ⟨#[101]⟩, .string ⟨#[101]⟩, .string ⟨#[101]⟩, .string ⟨#[101]⟩] 9)) bA wr.heap.size bC bE q sA sC z22 z29 (hK0.alloc _) (⟨hlB, hnO, heap_new wr _ rfl⟩) (⟨hC.1, (Below.heap_alloc _ _ _ (Array.getElem?_eq_some_iff.1 hC.2).1).trans hC.2⟩))
    exact AllReady.nil
  have s01000 : ∀ (wr : World) (bA bB bC bE q : Nat) (sA sC : ByteArray) (z22 z29 : Value), K B cv len W wr → (w.heap.size + 1 ≤ bB ∧ bB ≠ O ∧ wr.heap[bB]? = some (.cells #[.string ⟨#[101]⟩, .string ⟨#[101]⟩, .string ⟨#[101]⟩, .string ⟨#[101]⟩] 9 (0, 0))) → wpAny Try.prog .any bentOps Q 12 #[true, false, true, false, false, true, true, false, false, true, false, false, false, false, false, false, false] ({ tmps := #[.pointer (some ⟨B, 0, none⟩), y1, y2, .pointer (some ⟨X, 0, none⟩), y4, y5, y6, y7, y8, y9, y10, y11, y12, y13, y14, y15, y16, y17, y18, .pointer (some ⟨X, 1, none⟩), undef, .pointer (some ⟨B, 0, none⟩), undef, undef, .slice (some ⟨bB, 0, none⟩) 4 4, .pointer (some ⟨B, 0, none⟩), undef, undef, .pointer (some ⟨B, 0, none⟩), undef, undef, undef, undef, undef, undef, y35, y36, y37, y38, y39, y40, y41, y42], defers := [] } : Act) wr := by
    intro wr bA bB bC bE q sA sC z22 z29 hK0 hB
    have hc1 := (cells_of2 (HMK.out wr hK0).1.1).1.2
    have hsz := (HMK.out wr hK0).2.2.2.1.size
    have hnB : wr.heap.size ≠ B := by have := hK0.2.lt; omega
    have hlB : w.heap.size + 1 ≤ wr.heap.size := by have := (Array.getElem?_eq_some_iff.1 (HMK.out wr hK0).1.1).1; omega
    have hnO : wr.heap.size ≠ O := by have := ((HMK.out wr hK0).2.1.2.1.lt O rfl).2; omega
    have HH0 := Lib.hid (And.intro hsz (And.intro hnB (And.intro hlB hnO)))
    refine wpAny_ready (rs := [1, 3, 10]) (by kernel_rfl) (by simp) ?_
    refine AllReady.cons bop1 (fun KK hKK => ?_) ?_
    · go_simp
      exact hKK _ _ (s01010 wr bA bB bC bE q sA sC z22 z29 (hK0) (hB))
    refine AllReady.cons bop3 (fun KK hKK => ?_) ?_
    · go_simp
      exact hKK _ _ (s11000 (wr.alloc (.cells #[.string ⟨#[97]⟩, .string ⟨#[112, 108, 117, 115]⟩, .string ⟨#[110, 101, 119]⟩] 9)) wr.heap.size bB bC bE q sA sC z22 z29 (hK0.alloc _) (⟨hnB, heap_new wr _ rfl⟩) (⟨hB.1, hB.2.1, (Below.heap_alloc _ _ _ (Array.getElem?_eq_some_iff.1 hB.2.2).1).trans hB.2.2⟩))
    refine AllReady.cons bop10 (fun KK hKK => ?_) ?_
    · go_simp
      exact hKK _ _ (s01100 (wr.alloc (.cells #[.string ⟨#[101]⟩, .string ⟨#[122, 122]⟩] 9)) bA bB wr.heap.size bE q sA sC z22 z29 (hK0.alloc _) (⟨hB.1, hB.2.1, (Below.heap_alloc _ _ _ (Array.getElem?_eq_some_iff.1 hB.2.2).1).trans hB.2.2⟩) (⟨hnB, heap_new wr _ rfl⟩))
    exact AllReady.nil
  have s10000 : ∀ (wr : World) (bA bB bC bE q : Nat) (sA sC : ByteArray) (z22 z29 : Value), K B cv len W wr → (bA ≠ B ∧ wr.heap[bA]? = some (.cells #[.string ⟨#[97]⟩, .string ⟨#[112, 108, 117, 115]⟩, .string ⟨#[110, 101, 119]⟩] 9 (0, 0))) → wpAny Try.prog .any bentOps Q 12 #[true, false, true, true, false, false, true, false, false, true, false, false, false, false, false, false, false] ({ tmps := #[.pointer (some ⟨B, 0, none⟩), y1, y2, .pointer (some ⟨X, 0, none⟩), y4, y5, y6, y7, y8, y9, y10, y11, y12, y13, y14, y15, y16, y17, y18, .pointer (some ⟨X, 1, none⟩), undef, .pointer (some ⟨B, 0, none⟩), .slice (some ⟨bA, 0, none⟩) 3 3, undef, undef, .pointer (some ⟨B, 0, none⟩), undef, undef, .pointer (some ⟨B, 0, none⟩), undef, undef, undef, undef, undef, undef, y35, y36, y37, y38, y39, y40, y41, y42], defers := [] } : Act) wr := by
    intro wr bA bB bC bE q sA sC z22 z29 hK0 hA
    have hc1 := (cells_of2 (HMK.out wr hK0).1.1).1.2
    have hsz := (HMK.out wr hK0).2.2.2.1.size
    have hnB : wr.heap.size ≠ B := by have := hK0.2.lt; omega
    have hlB : w.heap.size + 1 ≤ wr.heap.size := by have := (Array.getElem?_eq_some_iff.1 (HMK.out wr hK0).1.1).1; omega
    have hnO : wr.heap.size ≠ O := by have := ((HMK.out wr hK0).2.1.2.1.lt O rfl).2; omega
    have HH0 := Lib.hid (And.intro hsz (And.intro hnB (And.intro hlB hnO)))
    refine wpAny_ready (rs := [1, 4, 5, 10]) (by kernel_rfl) (by simp) ?_
    refine AllReady.cons bop1 (fun KK hKK => ?_) ?_
    · go_simp
      exact hKK _ _ (s10010 wr bA bB bC bE q sA sC z22 z29 (hK0) (hA))
    refine AllReady.cons bop4 (fun KK hKK => ?_) ?_
    · go_simp
      refine (pick_any B bA 3 cv len [⟨#[97]⟩, ⟨#[112, 108, 117, 115]⟩, ⟨#[110, 101, 119]⟩] wr (by decide) (by decide) hA.1 (row_cells (ps := [⟨#[97]⟩, ⟨#[112, 108, 117, 115]⟩, ⟨#[110, 101, 119]⟩]) hA.2) (HMK.out wr hK0).2.2.2.2 hK0.2).mono ?_
      rintro e w4 ⟨_, hm, rfl, hu4, hg4⟩
      obtain ⟨pp, _, rfl⟩ := List.mem_map.1 hm
      exact hKK _ _ (s20000 w4 bA bB bC bE q pp sC (.slice (some ⟨bA, 0, none⟩) 3 3) z29 (⟨grown_trans hK0.1 hg4, hu4⟩))
    refine AllReady.cons bop5 (fun KK hKK => ?_) ?_
    · go_simp
      exact hKK _ _ (s11000 (wr.alloc (.cells #[.string ⟨#[101]⟩, .string ⟨#[101]⟩, .string ⟨#[101]⟩, .string ⟨#[101]⟩] 9)) bA wr.heap.size bC bE q sA sC z22 z29 (hK0.alloc _) (⟨hA.1, (Below.heap_alloc _ _ _ (Array.getElem?_eq_some_iff.1 hA.2).1).trans hA.2⟩) (⟨hlB, hnO, heap_new wr _ rfl⟩))
    refine AllReady.cons bop10 (fun KK hKK => ?_) ?_
    · go_simp
      exact hKK _ _ (s10100 (wr.alloc (.cells #[.string ⟨#[101]⟩, .string ⟨#[122, 122]⟩] 9)) bA bB wr.heap.size bE q sA sC z22 z29 (hK0.alloc _) (⟨hA.1, (Below.heap_alloc _ _ _ (Array.getElem?_eq_some_iff.1 hA.2).1).trans hA.2⟩) (⟨hnB, heap_new wr _ rfl⟩))
    exact AllReady.nil
  have s00000 : ∀ (wr : World) (bA bB bC bE q : Nat) (sA sC : ByteArray) (z22 z29 : Value), K B cv len W wr → wpAny Try.prog .any bentOps Q 13 #[true, false, true, false, false, false, true, false, false, true, false, false, false, false, false, false, false] ({ tmps := #[.pointer (some ⟨B, 0, none⟩), y1, y2, .pointer (some ⟨X, 0, none⟩), y4, y5, y6, y7, y8, y9, y10, y11, y12, y13, y14, y15, y16, y17, y18, .pointer (some ⟨X, 1, none⟩), undef, .pointer (some ⟨B, 0, none⟩), undef, undef, undef, .pointer (some ⟨B, 0, none⟩), undef, undef, .pointer (some ⟨B, 0, none⟩), undef, undef, undef, undef, undef, undef, y35, y36, y37, y38, y39, y40, y41, y42], defers := [] } : Act) wr := by
    intro wr bA bB bC bE q sA sC z22 z29 hK0
    have hc1 := (cells_of2 (HMK.out wr hK0).1.1).1.2
    have hsz := (HMK.out wr hK0).2.2.2.1.size
    have hnB : wr.heap.size ≠ B := by have := hK0.2.lt; omega
    have hlB : w.heap.size + 1 ≤ wr.heap.size := by have := (Array.getElem?_eq_some_iff.1 (HMK.out wr hK0).1.1).1; omega
    have hnO : wr.heap.size ≠ O := by have := ((HMK.out wr hK0).2.1.2.1.lt O rfl).2; omega
    have HH0 := Lib.hid (And.intro hsz (And.intro hnB (And.intro hlB hnO)))
    refine wpAny_ready (rs := [1, 3, 5, 10]) (by kernel_rfl) (by simp) ?_
    refine AllReady.cons bop1 (fun KK hKK => ?_) ?_
    · go_simp
      exact hKK _ _ (s00010 wr bA bB bC bE q sA sC z22 z29 (hK0))
    refine AllReady.cons bop3 (fun KK hKK => ?_) ?_
    · go_simp
      exact hKK _ _ (s10000 (wr.alloc (.cells #[.string ⟨#[97]⟩, .string ⟨#[112, 108, 117, 115]⟩, .string ⟨#[110, 101, 119]⟩] 9)) wr.heap.size bB bC bE q sA sC z22 z29 (hK0.alloc _) (⟨hnB, heap_new wr _ rfl⟩))
    refine AllReady.cons bop5 (fun KK hKK => ?_) ?_
    · go_simp
      exact hKK _ _ (s01000 (wr.alloc (.cells #[.string ⟨#[101]⟩, .string ⟨#[101]⟩, .string ⟨#[101]⟩, .string ⟨#[101]⟩] 9)) bA wr.heap.size bC bE q sA sC z22 z29 (hK0.alloc _) (⟨hlB, hnO, heap_new wr _ rfl⟩))
    refine AllReady.cons bop10 (fun KK hKK => ?_) ?_
    · go_simp
      exact hKK _ _ (s00100 (wr.alloc (.cells #[.string ⟨#[101]⟩, .string ⟨#[122, 122]⟩] 9)) bA bB wr.heap.size bE q sA sC z22 z29 (hK0.alloc _) (⟨hnB, heap_new wr _ rfl⟩))
    exact AllReady.nil
  have hcur0 : CurAt W B cv len := hm.2.2.1
  refine wp_region_any (by kernel_rfl) ?_
  change wpAny Try.prog .any bentOps Q 17 #[false, false, false, false, false, false, false, false, false, false, false, false, false, false, false, false, false] ({ tmps := #[.pointer (some ⟨B, 0, none⟩), y1, y2, .pointer (some ⟨X, 0, none⟩), y4, y5, y6, y7, y8, y9, y10, y11, y12, y13, y14, y15, y16, y17, y18, undef, undef, undef, undef, undef, undef, undef, undef, undef, undef, undef, undef, undef, undef, undef, undef, y35, y36, y37, y38, y39, y40, y41, y42], defers := [] } : Act) W.drew
  refine wpAny_take (i := 0) (v := ?_) bop0 (by kernel_rfl) (by kernel_rfl) (by kernel_rfl) (fun _ _ _ h => hQp _ _ _ _ _ h) (Or.inl ⟨by rfl, ?hy0⟩) ?_
  case hy0 => (intro ww; go_simp; try with_reducible rfl)
  refine wpAny_take (i := 2) (v := ?_) bop2 (by kernel_rfl) (by kernel_rfl) (by kernel_rfl) (fun _ _ _ h => hQp _ _ _ _ _ h) (Or.inl ⟨by rfl, ?hy2⟩) ?_
  case hy2 => (intro ww; go_simp; try with_reducible rfl)
  refine wpAny_take (i := 6) (v := ?_) bop6 (by kernel_rfl) (by kernel_rfl) (by kernel_rfl) (fun _ _ _ h => hQp _ _ _ _ _ h) (Or.inl ⟨by rfl, ?hy6⟩) ?_
  case hy6 => (intro ww; go_simp; try with_reducible rfl)
  refine wpAny_take (i := 9) (v := ?_) bop9 (by kernel_rfl) (by kernel_rfl) (by kernel_rfl) (fun _ _ _ h => hQp _ _ _ _ _ h) (Or.inl ⟨by rfl, ?hy9⟩) ?_
  case hy9 => (intro ww; go_simp; try with_reducible rfl)
  exact s00000 W.drew 0 0 0 0 0 .empty .empty undef undef ⟨⟨rfl, rfl, rfl, Nat.le_refl _, fun _ _ _ => rfl⟩, hcur0⟩
end Go.Proofs.Ytcmhiindjponcaa
