/-
  The draws of terms: spec.l3Var, l3Word, l3App, l3One, l3Pair.
-/
import Derived.Test.YtidbokheeieifaaGreatDoorQ10
import Derived.Test.YtidbokheeieifaaGreatDoorQ5
namespace Go.Proofs.YtidbokheeieifaaGreatDoor
open Go.RowKit

/-- A call that makes new blocks alone and hands back this value. -/
def GivesV (v : Value) (w : World) (e : Ending) (w' : World) : Prop := e = .returned v ∧ Below w.heap.size w w'

set_option maxRecDepth 100000 in
set_option maxHeartbeats 400000 in
theorem l3Var_any (s : ByteArray) (w : World) : Calls Tryz.prog 83 #[.string s] w (GivesV (tv 1 0 s (.slice none 0 0)) w) := by
  go_enter Tryz.func83, Tryz.ntmps83
  go_wp2
  have hc := boxed_cells (Below.refl (boxed w 1 0 s (.slice none 0 0)).heap.size (boxed w 1 0 s (.slice none 0 0)))
  obtain ⟨c0, c1, c2, c3⟩ := hc
  refine bodyPost_ret (v := tv 1 0 s (.slice none 0 0)) ?hr rfl ?_
  case hr =>
    rw [results_cell (a := 2) (t := 26) (ad := ⟨w.heap.size, 0, none⟩) rfl rfl]
    go_simp
  exact ⟨rfl, ((Below.refl _ _).alloc (Nat.le_refl _) _)⟩
set_option maxRecDepth 100000 in
set_option maxHeartbeats 400000 in
theorem l3Word_any (n : Int) (w : World) : Calls Tryz.prog 64 #[.int .i64 n] w (GivesV (tv 3 n ByteArray.empty (.slice none 0 0)) w) := by
  go_enter Tryz.func64, Tryz.ntmps64
  go_wp2
  have hc := boxed_cells (Below.refl (boxed w 3 n ByteArray.empty (.slice none 0 0)).heap.size (boxed w 3 n ByteArray.empty (.slice none 0 0)))
  obtain ⟨c0, c1, c2, c3⟩ := hc
  refine bodyPost_ret (v := tv 3 n ByteArray.empty (.slice none 0 0)) ?hr rfl ?_
  case hr =>
    rw [results_cell (a := 2) (t := 26) (ad := ⟨w.heap.size, 0, none⟩) rfl rfl]
    go_simp
    rfl
  exact ⟨rfl, ((Below.refl _ _).alloc (Nat.le_refl _) _)⟩
set_option maxRecDepth 100000 in
set_option maxHeartbeats 400000 in
theorem l3App_any (s : ByteArray) (a : Option Addr) (n cap : Nat) (w : World) : Calls Tryz.prog 85 #[.string s, .slice a n cap] w (GivesV (tv 2 0 s (.slice a n cap)) w) := by
  go_enter Tryz.func85, Tryz.ntmps85
  go_wp2
  have hc := boxed_cells (Below.refl (boxed w 2 0 s (.slice a n cap)).heap.size (boxed w 2 0 s (.slice a n cap)))
  obtain ⟨c0, c1, c2, c3⟩ := hc
  refine bodyPost_ret (v := tv 2 0 s (.slice a n cap)) ?hr rfl ?_
  case hr =>
    rw [results_cell (a := 4) (t := 26) (ad := ⟨w.heap.size, 0, none⟩) rfl rfl]
    go_simp
  exact ⟨rfl, ((Below.refl _ _).alloc (Nat.le_refl _) _)⟩

/-- What a call hands back that makes a term over a new row. -/
def RowMade (s : ByteArray) (m : Nat) (cs : Array Value) (w : World) (e : Ending) (w' : World) : Prop :=
  ∃ g, e = .returned (tv 2 0 s (.slice (some ⟨g, 0, none⟩) m m)) ∧ w.heap.size ≤ g ∧ w'.heap[g]? = some (.cells cs 26 (0, 0)) ∧ Below w.heap.size w w'

set_option maxRecDepth 100000 in
set_option maxHeartbeats 400000 in
theorem l3One_any (s : ByteArray) (k n : Int) (s' : ByteArray) (u : Value) (w : World) : Calls Tryz.prog 65 #[.string s, tv k n s' u] w (RowMade s 1 #[.int .i64 k, .int .i64 n, .string s', u] w) := by
  go_enter Tryz.func65, Tryz.ntmps65
  go_wp2_with fail
  obtain ⟨W, hW⟩ : ∃ W, W = (((w.alloc (.cells #[.int .i64 k, .int .i64 n, .string s', u] 26)).alloc (.cells #[.int .i64 0, .int .i64 0, .string ⟨#[]⟩, .slice none 0 0] 26)).alloc (.cells #[.int .i64 k, .int .i64 n, .string s', u] 26)) := ⟨_, rfl⟩
  have hWs : W.heap.size = w.heap.size + 1 + 1 + 1 := by rw [hW]; simp
  have r1 : W.heap[w.heap.size + 1]? = some (.cells #[.int .i64 0, .int .i64 0, .string ⟨#[]⟩, .slice none 0 0] 26 (0, 0)) := by rw [hW]; exact heap_mid _ _ _ (by simp)
  have r2 : W.heap[w.heap.size + 1 + 1]? = some (.cells #[.int .i64 k, .int .i64 n, .string s', u] 26 (0, 0)) := by rw [hW]; exact heap_new _ _ (by simp)
  have hbW : Below w.heap.size w W := by rw [hW]; exact ((((Below.refl _ _).alloc (by simp <;> omega) _).alloc (by simp <;> omega) _).alloc (by simp <;> omega) _)
  have HBW := Lib.hid hbW; clear hbW
  rw [← hW]
  clear hW
  refine (l3App_any s _ _ _ _).mono ?_
  rintro e w1 ⟨rfl, hb1⟩
  have q1 := hb1.block (w.heap.size + 1) (by omega)
  have q2 := hb1.block (w.heap.size + 1 + 1) (by omega)
  rw [r1] at q1
  rw [r2] at q2
  clear r1 r2
  have a0 := cell_of_row w1 (w.heap.size + 1) 0 _ _ _ q1
  have a1 := cell_of_row w1 (w.heap.size + 1) 1 _ _ _ q1
  have a2 := cell_of_row w1 (w.heap.size + 1) 2 _ _ _ q1
  have a3 := cell_of_row w1 (w.heap.size + 1) 3 _ _ _ q1
  have f0 := frozen_of_row w1 (w.heap.size + 1) 0 _ _ q1
  have f1 := frozen_of_row w1 (w.heap.size + 1) 1 _ _ q1
  have f2 := frozen_of_row w1 (w.heap.size + 1) 2 _ _ q1
  have f3 := frozen_of_row w1 (w.heap.size + 1) 3 _ _ q1
  simp at a0 a1 a2 a3
  clear q1
  have HB1 := Lib.hid (HBW.out.trans (hb1.mono HBW.out.size)); clear hb1
  have HR := Lib.hid q2; clear q2
  go_wp2
  (try simp only [Exit.inBlock, Exit.then])
  refine bodyPost_ret (v := tv 2 0 s (.slice (some ⟨w.heap.size + 1 + 1, 0, none⟩) 1 1)) ?hr rfl ?_
  case hr =>
    rw [results_cell (a := 4) (t := 26) (ad := ⟨w.heap.size + 1, 0, none⟩) rfl rfl]
    go_simp
  refine ⟨w.heap.size + 1 + 1, rfl, by omega, ?_, (((HB1.out.setCell (by simp <;> omega) _).setCell (by simp <;> omega) _).setCell (by simp <;> omega) _).setCell (by simp <;> omega) _⟩
  rw [Below.heap_setCell _ _ _ _ (by simp <;> omega), Below.heap_setCell _ _ _ _ (by simp <;> omega), Below.heap_setCell _ _ _ _ (by simp <;> omega), Below.heap_setCell _ _ _ _ (by simp <;> omega)]
  exact HR.out
set_option maxRecDepth 100000 in
set_option maxHeartbeats 400000 in
theorem l3Pair_any (s : ByteArray) (k n : Int) (s' : ByteArray) (u : Value) (k2 n2 : Int) (s2 : ByteArray) (u2 : Value) (w : World) : Calls Tryz.prog 84 #[.string s, tv k n s' u, tv k2 n2 s2 u2] w (RowMade s 2 #[.int .i64 k, .int .i64 n, .string s', u, .int .i64 k2, .int .i64 n2, .string s2, u2] w) := by
  go_enter Tryz.func84, Tryz.ntmps84
  go_wp2_with fail
  obtain ⟨W, hW⟩ : ∃ W, W = ((((w.alloc (.cells #[.int .i64 k, .int .i64 n, .string s', u] 26)).alloc (.cells #[.int .i64 k2, .int .i64 n2, .string s2, u2] 26)).alloc (.cells #[.int .i64 0, .int .i64 0, .string ⟨#[]⟩, .slice none 0 0] 26)).alloc (.cells #[.int .i64 k, .int .i64 n, .string s', u, .int .i64 k2, .int .i64 n2, .string s2, u2] 26)) := ⟨_, rfl⟩
  have hWs : W.heap.size = w.heap.size + 1 + 1 + 1 + 1 := by rw [hW]; simp
  have r1 : W.heap[w.heap.size + 1 + 1]? = some (.cells #[.int .i64 0, .int .i64 0, .string ⟨#[]⟩, .slice none 0 0] 26 (0, 0)) := by rw [hW]; exact heap_mid _ _ _ (by simp)
  have r2 : W.heap[w.heap.size + 1 + 1 + 1]? = some (.cells #[.int .i64 k, .int .i64 n, .string s', u, .int .i64 k2, .int .i64 n2, .string s2, u2] 26 (0, 0)) := by rw [hW]; exact heap_new _ _ (by simp)
  have hbW : Below w.heap.size w W := by rw [hW]; exact (((((Below.refl _ _).alloc (by simp <;> omega) _).alloc (by simp <;> omega) _).alloc (by simp <;> omega) _).alloc (by simp <;> omega) _)
  have HBW := Lib.hid hbW; clear hbW
  rw [← hW]
  clear hW
  refine (l3App_any s _ _ _ _).mono ?_
  rintro e w1 ⟨rfl, hb1⟩
  have q1 := hb1.block (w.heap.size + 1 + 1) (by omega)
  have q2 := hb1.block (w.heap.size + 1 + 1 + 1) (by omega)
  rw [r1] at q1
  rw [r2] at q2
  clear r1 r2
  have a0 := cell_of_row w1 (w.heap.size + 1 + 1) 0 _ _ _ q1
  have a1 := cell_of_row w1 (w.heap.size + 1 + 1) 1 _ _ _ q1
  have a2 := cell_of_row w1 (w.heap.size + 1 + 1) 2 _ _ _ q1
  have a3 := cell_of_row w1 (w.heap.size + 1 + 1) 3 _ _ _ q1
  have f0 := frozen_of_row w1 (w.heap.size + 1 + 1) 0 _ _ q1
  have f1 := frozen_of_row w1 (w.heap.size + 1 + 1) 1 _ _ q1
  have f2 := frozen_of_row w1 (w.heap.size + 1 + 1) 2 _ _ q1
  have f3 := frozen_of_row w1 (w.heap.size + 1 + 1) 3 _ _ q1
  simp at a0 a1 a2 a3
  clear q1
  have HB1 := Lib.hid (HBW.out.trans (hb1.mono HBW.out.size)); clear hb1
  have HR := Lib.hid q2; clear q2
  go_wp2
  (try simp only [Exit.inBlock, Exit.then])
  refine bodyPost_ret (v := tv 2 0 s (.slice (some ⟨w.heap.size + 1 + 1 + 1, 0, none⟩) 2 2)) ?hr rfl ?_
  case hr =>
    rw [results_cell (a := 6) (t := 26) (ad := ⟨w.heap.size + 1 + 1, 0, none⟩) rfl rfl]
    go_simp
  refine ⟨w.heap.size + 1 + 1 + 1, rfl, by omega, ?_, (((HB1.out.setCell (by simp <;> omega) _).setCell (by simp <;> omega) _).setCell (by simp <;> omega) _).setCell (by simp <;> omega) _⟩
  rw [Below.heap_setCell _ _ _ _ (by simp <;> omega), Below.heap_setCell _ _ _ _ (by simp <;> omega), Below.heap_setCell _ _ _ _ (by simp <;> omega), Below.heap_setCell _ _ _ _ (by simp <;> omega)]
  exact HR.out
end Go.Proofs.YtidbokheeieifaaGreatDoor
