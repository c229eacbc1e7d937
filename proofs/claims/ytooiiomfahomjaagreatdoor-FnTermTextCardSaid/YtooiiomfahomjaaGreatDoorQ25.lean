/-
  A new cursor; a choice out of a list of strings or of numbers; a drawn integer.
  A choice out of a list of numbers; a draw of one in so many.
  The draws of terms: spec.l3Var, l3Word, l3App, l3One, l3Pair.
-/
import Derived.Test.YtooiiomfahomjaaGreatDoorQ24
import Derived.Test.YtooiiomfahomjaaGreatDoorQ7
import Derived.Test.YtooiiomfahomjaaGreatDoorQ5
import Derived.BigQuiet
import Derived.Deep.QuietTactic
namespace Go.Proofs.YtooiiomfahomjaaGreatDoor
open Go.RowKit

def NewEnd (cv : Value) (len : Nat) (w : World) (e : Ending) (w' : World) : Prop :=
  e = .returned (.pointer (some ⟨w.heap.size, 0, none⟩)) ∧ CurAt w' w.heap.size cv len ∧ Below w.heap.size w w' ∧ w.heap.size < w'.heap.size

theorem and_30 (a : Int) : 0 ≤ bits .and .i64 a 1073741823 ∧ bits .and .i64 a 1073741823 ≤ 1073741823 := by simpa using and_small a 1073741823 (by decide)

theorem newEnd_of {w : World} {cv : Value} {len : Nat} (x : Int) : NewEnd cv len w (.returned (.pointer (some ⟨w.heap.size, 0, none⟩))) (w.alloc (.cells #[cv, .int .i64 0, .int .i64 x] 54)) := by
  refine ⟨rfl, ⟨0, x, Nat.zero_le _, ?_⟩, (Below.refl _ _).alloc (Nat.le_refl _) _, by simp⟩
  show (w.heap.push _)[w.heap.size]? = _
  simp

set_option maxRecDepth 100000 in
set_option maxHeartbeats 800000 in
theorem new_any (cv : Value) (len : Nat) (w : World) (hcode : CodeAt w w.heap.size cv len) :
    Calls Tryz.prog 14 #[cv] w (NewEnd cv len w) := by
  obtain ⟨hlen, a, cap, rfl, hc⟩ := hcode
  have HC := Lib.hid hc; clear hc
  go_enter Tryz.func14, Tryz.ntmps14
  go_wp2
  go_loop [3, 4] (fun q i => ∃ (k : Nat) (x : Int), k ≤ len ∧ i = .int .i64 k ∧ q = .int .i64 x ∧ 0 ≤ x ∧ x ≤ 1073741823) (fun _ i => len - (intOf i).toNat)
  case atStart => exact ⟨0, 26583 + len, Nat.zero_le _, rfl, rfl, by omega, by omega⟩
  case round =>
    obtain ⟨k, x, hk, rfl, rfl, hx0, hx1⟩ := hrel
    by_cases hgo : k < len ∧ k < 4000
    · obtain ⟨hlt, hlt2⟩ := hgo
      rcases HC.out with h0 | ⟨b, o, rfl, hb, hc⟩
      · omega
      · obtain ⟨z, z0, z1, hz⟩ := hc k hlt
        clear hc hb
        have hm := and_30 (x * 131 + z + 7)
        obtain ⟨hm0, hm1⟩ := hm
        go_wp2
        go_round
        case rel => exact ⟨k + 1, bits .and .i64 (x * 131 + z + 7) 1073741823, by omega, by go_num, rfl, hm0, hm1⟩
        case measure => simp [intOf]; omega
    · by_cases hlt : k < len
      · have hlt2 : ¬ k < 4000 := by omega
        clear hgo
        go_wp2
        go_ret
        exact newEnd_of _
      · clear hgo
        go_wp2
        go_ret
        exact newEnd_of _

def PickEnd (vs : List Value) (B : Nat) (cv : Value) (len : Nat) (w : World) (e : Ending) (w' : World) : Prop :=
  ∃ v, v ∈ vs ∧ e = .returned v ∧ CurAt w' B cv len ∧ w.grownBy w' (some B)

set_option maxRecDepth 100000 in
set_option maxHeartbeats 800000 in
theorem pick_any (B b cap : Nat) (cv : Value) (len : Nat) (ps : List ByteArray) (w : World) (h1 : 1 ≤ ps.length) (h2 : ps.length ≤ 1000) (hb : b ≠ B)
    (hc : ∀ i p, ps[i]? = some p → w.cell? ⟨b, i, none⟩ = some (.string p)) (hcode : CodeAt w B cv len) (hcur : CurAt w B cv len) :
    Calls Tryz.prog 28 #[.pointer (some ⟨B, 0, none⟩), .slice (some ⟨b, 0, none⟩) ps.length cap] w (PickEnd (ps.map Value.string) B cv len w) := by
  have HP := Lib.hid hc; clear hc
  have HC := Lib.hid hcode; clear hcode
  have HU := Lib.hid hcur; clear hcur
  go_enter Tryz.func28, Tryz.ntmps28
  go_wp2_with fail
  refine (below_any B cv len ps.length _ h1 (by omega) HC.out HU.out).mono ?_
  rintro e w1 ⟨x, rfl, x0, x1, hu1, hg1⟩
  obtain ⟨k, rfl⟩ : ∃ k : Nat, x = (k : Int) := ⟨x.toNat, by omega⟩
  have hk : k < ps.length := by omega
  obtain ⟨p, hp⟩ : ∃ p, ps[k]? = some p := ⟨_, List.getElem?_eq_getElem hk⟩
  have hcell : w1.cell? ⟨b, k, none⟩ = some (.string p) := hg1.cell (HP.out k p hp) (by simpa using hb)
  have HM := Lib.hid (List.mem_map_of_mem (f := Value.string) (List.mem_of_getElem? hp)); clear hp
  have HU1 := Lib.hid hu1; clear hu1
  have HG1 := Lib.hid hg1; clear hg1
  go_wp2
  go_ret
  exact ⟨_, HM.out, rfl, HU1.out, HG1.out⟩

theorem new_ints (w : World) (zs : List Int) (t : TypeId) : ∀ i z, zs[i]? = some z → (w.alloc (.cells (zs.map (Value.int .i64)).toArray t)).cell? ⟨w.heap.size, i, none⟩ = some (.int .i64 z) := fun i z h => by
  rw [World.cell?_alloc_mark w (zs.map (Value.int .i64)).toArray t (0, 0) i]
  simp [h]
theorem new_strs (w : World) (ps : List ByteArray) (t : TypeId) : ∀ i p, ps[i]? = some p → (w.alloc (.cells (ps.map Value.string).toArray t)).cell? ⟨w.heap.size, i, none⟩ = some (.string p) := fun i p h => by
  rw [World.cell?_alloc_mark w (ps.map Value.string).toArray t (0, 0) i]
  simp [h]
theorem CurAt.alloc {w : World} {B : Nat} {cv : Value} {len : Nat} (h : CurAt w B cv len) (o : Obj) : CurAt (w.alloc o) B cv len := by
  have hl := h.lt
  obtain ⟨i, x, hi, hB⟩ := h
  exact ⟨i, x, hi, by rw [Below.heap_alloc _ _ _ hl]; exact hB⟩
theorem CodeAt.alloc {w : World} {B : Nat} {cv : Value} {len : Nat} (h : CodeAt w B cv len) (hB : B < w.heap.size) (o : Obj) : CodeAt (w.alloc o) B cv len :=
  h.grown hB (World.grownBy_alloc w o (some B))

/-- A slice of bytes that came in serves in every later world. -/
theorem CodeAt.below {w w' : World} {cv : Value} {len : Nat} (h : CodeAt w w.heap.size cv len) (hb : Below w.heap.size w w') : CodeAt w' w'.heap.size cv len := by
  obtain ⟨h1, a, cap, rfl, h2⟩ := h
  refine ⟨h1, a, cap, rfl, ?_⟩
  rcases h2 with h2 | ⟨b, o, rfl, hlt, hc⟩
  · exact Or.inl h2
  · refine Or.inr ⟨b, o, rfl, Nat.lt_of_lt_of_le hlt hb.size, fun j hj => ?_⟩
    obtain ⟨z, z0, z1, hz⟩ := hc j hj
    exact ⟨z, z0, z1, by rw [hb.cell (by exact hlt)]; exact hz⟩
theorem CodeAt.at_new {w w' : World} {cv : Value} {len : Nat} (h : CodeAt w w.heap.size cv len) (hb : Below w.heap.size w w') : CodeAt w' w.heap.size cv len := by
  obtain ⟨h1, a, cap, rfl, h2⟩ := h
  refine ⟨h1, a, cap, rfl, ?_⟩
  rcases h2 with h2 | ⟨b, o, rfl, hlt, hc⟩
  · exact Or.inl h2
  · refine Or.inr ⟨b, o, rfl, hlt, fun j hj => ?_⟩
    obtain ⟨z, z0, z1, hz⟩ := hc j hj
    exact ⟨z, z0, z1, by rw [hb.cell (by exact hlt)]; exact hz⟩
theorem below_own {w w1 w2 : World} (hb : Below w.heap.size w w1) (hg : w1.grownBy w2 (some w.heap.size)) : Below w.heap.size w w2 :=
  hb.grown hg hb.size (fun k hk => by cases hk; exact Nat.le_refl _)
end Go.Proofs.YtooiiomfahomjaaGreatDoor
namespace Go.Proofs.YtooiiomfahomjaaGreatDoor
open Go.RowKit

set_option maxRecDepth 100000 in
set_option maxHeartbeats 800000 in
theorem pickInt_any (B b cap : Nat) (cv : Value) (len : Nat) (zs : List Int) (w : World) (h1 : 1 ≤ zs.length) (h2 : zs.length ≤ 1000) (hb : b ≠ B)
    (hc : ∀ i z, zs[i]? = some z → w.cell? ⟨b, i, none⟩ = some (.int .i64 z)) (hcode : CodeAt w B cv len) (hcur : CurAt w B cv len) :
    Calls Tryz.prog 27 #[.pointer (some ⟨B, 0, none⟩), .slice (some ⟨b, 0, none⟩) zs.length cap] w (PickEnd (zs.map (Value.int .i64)) B cv len w) := by
  have HP := Lib.hid hc; clear hc
  have HC := Lib.hid hcode; clear hcode
  have HU := Lib.hid hcur; clear hcur
  go_enter Tryz.func27, Tryz.ntmps27
  go_wp2_with fail
  refine (below_any B cv len zs.length _ h1 (by omega) HC.out HU.out).mono ?_
  rintro e w1 ⟨x, rfl, x0, x1, hu1, hg1⟩
  obtain ⟨k, rfl⟩ : ∃ k : Nat, x = (k : Int) := ⟨x.toNat, by omega⟩
  have hk : k < zs.length := by omega
  obtain ⟨z, hp⟩ : ∃ z, zs[k]? = some z := ⟨_, List.getElem?_eq_getElem hk⟩
  have hcell : w1.cell? ⟨b, k, none⟩ = some (.int .i64 z) := hg1.cell (HP.out k z hp) (by simpa using hb)
  have HM := Lib.hid (List.mem_map_of_mem (f := Value.int .i64) (List.mem_of_getElem? hp)); clear hp
  have HU1 := Lib.hid hu1; clear hu1
  have HG1 := Lib.hid hg1; clear hg1
  go_wp2
  go_ret
  exact ⟨_, HM.out, rfl, HU1.out, HG1.out⟩

def OnceEnd (B : Nat) (cv : Value) (len : Nat) (w : World) (e : Ending) (w' : World) : Prop :=
  ∃ q : Bool, e = .returned (.bool q) ∧ CurAt w' B cv len ∧ w.grownBy w' (some B)

set_option maxRecDepth 100000 in
set_option maxHeartbeats 400000 in
theorem once_any (B : Nat) (cv : Value) (len n : Nat) (w : World) (hn1 : 1 ≤ n) (hn2 : n ≤ 1000000) (hcode : CodeAt w B cv len) (hcur : CurAt w B cv len) :
    Calls Tryz.prog 26 #[.pointer (some ⟨B, 0, none⟩), .int .i64 n] w (OnceEnd B cv len w) := by
  have HC := Lib.hid hcode; clear hcode
  have HU := Lib.hid hcur; clear hcur
  go_enter Tryz.func26, Tryz.ntmps26
  go_wp2_with fail
  refine (below_any B cv len n _ hn1 hn2 HC.out HU.out).mono ?_
  rintro e w1 ⟨x, rfl, x0, x1, hu1, hg1⟩
  have HU1 := Lib.hid hu1; clear hu1
  have HG1 := Lib.hid hg1; clear hg1
  go_wp2
  go_ret
  exact ⟨_, rfl, HU1.out, HG1.out⟩
end Go.Proofs.YtooiiomfahomjaaGreatDoor
namespace Go.Proofs.YtooiiomfahomjaaGreatDoor
open Go.RowKit

/-- A call that makes new blocks alone and hands back this value. -/
def GivesV (v : Value) (w : World) (e : Ending) (w' : World) : Prop := e = .returned v ∧ Below w.heap.size w w'

set_option maxRecDepth 100000 in
set_option maxHeartbeats 400000 in
theorem l3Var_any (s : ByteArray) (w : World) : Calls Tryz.prog 41 #[.string s] w (GivesV (tv 1 0 s (.slice none 0 0)) w) := by
  go_enter Tryz.func41, Tryz.ntmps41
  go_wp2
  have hc := boxed_cells (Below.refl (boxed w 1 0 s (.slice none 0 0)).heap.size (boxed w 1 0 s (.slice none 0 0)))
  obtain ⟨c0, c1, c2, c3⟩ := hc
  refine bodyPost_ret (v := tv 1 0 s (.slice none 0 0)) ?hr rfl ?_
  case hr =>
    rw [results_cell (a := 2) (t := 26) (ad := ⟨w.heap.size, 0, none⟩) rfl rfl]
    go_simp
  exact ⟨rfl, ((Below.refl _ _).alloc (Nat.le_refl _) _)⟩
set_option maxRecDepth 100000 in
set_option maxHeartbeats 400000 in
theorem l3Word_any (n : Int) (w : World) : Calls Tryz.prog 29 #[.int .i64 n] w (GivesV (tv 3 n ByteArray.empty (.slice none 0 0)) w) := by
  go_enter Tryz.func29, Tryz.ntmps29
  go_wp2
  have hc := boxed_cells (Below.refl (boxed w 3 n ByteArray.empty (.slice none 0 0)).heap.size (boxed w 3 n ByteArray.empty (.slice none 0 0)))
  obtain ⟨c0, c1, c2, c3⟩ := hc
  refine bodyPost_ret (v := tv 3 n ByteArray.empty (.slice none 0 0)) ?hr rfl ?_
  case hr =>
    rw [results_cell (a := 2) (t := 26) (ad := ⟨w.heap.size, 0, none⟩) rfl rfl]
    go_simp
    rfl
  exact ⟨rfl, ((Below.refl _ _).alloc (Nat.le_refl _) _)⟩
set_option maxRecDepth 100000 in
set_option maxHeartbeats 400000 in
theorem l3App_any (s : ByteArray) (a : Option Addr) (n cap : Nat) (w : World) : Calls Tryz.prog 42 #[.string s, .slice a n cap] w (GivesV (tv 2 0 s (.slice a n cap)) w) := by
  go_enter Tryz.func42, Tryz.ntmps42
  go_wp2
  have hc := boxed_cells (Below.refl (boxed w 2 0 s (.slice a n cap)).heap.size (boxed w 2 0 s (.slice a n cap)))
  obtain ⟨c0, c1, c2, c3⟩ := hc
  refine bodyPost_ret (v := tv 2 0 s (.slice a n cap)) ?hr rfl ?_
  case hr =>
    rw [results_cell (a := 4) (t := 26) (ad := ⟨w.heap.size, 0, none⟩) rfl rfl]
    go_simp
  exact ⟨rfl, ((Below.refl _ _).alloc (Nat.le_refl _) _)⟩

/-- What a call hands back that makes a term over a new row. -/
def RowMade (s : ByteArray) (m : Nat) (cs : Array Value) (w : World) (e : Ending) (w' : World) : Prop :=
  ∃ g, e = .returned (tv 2 0 s (.slice (some ⟨g, 0, none⟩) m m)) ∧ w.heap.size ≤ g ∧ w'.heap[g]? = some (.cells cs 26 (0, 0)) ∧ Below w.heap.size w w'

set_option maxRecDepth 100000 in
set_option maxHeartbeats 400000 in
theorem l3One_any (s : ByteArray) (k n : Int) (s' : ByteArray) (u : Value) (w : World) : Calls Tryz.prog 30 #[.string s, tv k n s' u] w (RowMade s 1 #[.int .i64 k, .int .i64 n, .string s', u] w) := by
  go_enter Tryz.func30, Tryz.ntmps30
  go_wp2_with fail
  obtain ⟨W, hW⟩ : ∃ W, W = (((w.alloc (.cells #[.int .i64 k, .int .i64 n, .string s', u] 26)).alloc (.cells #[.int .i64 0, .int .i64 0, .string ⟨#[]⟩, .slice none 0 0] 26)).alloc (.cells #[.int .i64 k, .int .i64 n, .string s', u] 26)) := ⟨_, rfl⟩
  have hWs : W.heap.size = w.heap.size + 1 + 1 + 1 := by rw [hW]; simp
  have r1 : W.heap[w.heap.size + 1]? = some (.cells #[.int .i64 0, .int .i64 0, .string ⟨#[]⟩, .slice none 0 0] 26 (0, 0)) := by rw [hW]; exact heap_mid _ _ _ (by simp)
  have r2 : W.heap[w.heap.size + 1 + 1]? = some (.cells #[.int .i64 k, .int .i64 n, .string s', u] 26 (0, 0)) := by rw [hW]; exact heap_new _ _ (by simp)
  have hbW : Below w.heap.size w W := by rw [hW]; exact ((((Below.refl _ _).alloc (by simp <;> omega) _).alloc (by simp <;> omega) _).alloc (by simp <;> omega) _)
  have HBW := Lib.hid hbW; clear hbW
  rw [← hW]
  clear hW
  refine (l3App_any s _ _ _ _).mono ?_
  rintro e w1 ⟨rfl, hb1⟩
  have q1 := hb1.block (w.heap.size + 1) (by omega)
  have q2 := hb1.block (w.heap.size + 1 + 1) (by omega)
  rw [r1] at q1
  rw [r2] at q2
  clear r1 r2
  have a0 := cell_of_row w1 (w.heap.size + 1) 0 _ _ _ q1
  have a1 := cell_of_row w1 (w.heap.size + 1) 1 _ _ _ q1
  have a2 := cell_of_row w1 (w.heap.size + 1) 2 _ _ _ q1
  have a3 := cell_of_row w1 (w.heap.size + 1) 3 _ _ _ q1
  have f0 := frozen_of_row w1 (w.heap.size + 1) 0 _ _ q1
  have f1 := frozen_of_row w1 (w.heap.size + 1) 1 _ _ q1
  have f2 := frozen_of_row w1 (w.heap.size + 1) 2 _ _ q1
  have f3 := frozen_of_row w1 (w.heap.size + 1) 3 _ _ q1
  simp at a0 a1 a2 a3
  clear q1
  have HB1 := Lib.hid (HBW.out.trans (hb1.mono HBW.out.size)); clear hb1
  have HR := Lib.hid q2; clear q2
  go_wp2
  (try simp only [Exit.inBlock, Exit.then])
  refine bodyPost_ret (v := tv 2 0 s (.slice (some ⟨w.heap.size + 1 + 1, 0, none⟩) 1 1)) ?hr rfl ?_
  case hr =>
    rw [results_cell (a := 4) (t := 26) (ad := ⟨w.heap.size + 1, 0, none⟩) rfl rfl]
    go_simp
  refine ⟨w.heap.size + 1 + 1, rfl, by omega, ?_, (((HB1.out.setCell (by simp <;> omega) _).setCell (by simp <;> omega) _).setCell (by simp <;> omega) _).setCell (by simp <;> omega) _⟩
  rw [Below.heap_setCell _ _ _ _ (by simp <;> omega), Below.heap_setCell _ _ _ _ (by simp <;> omega), Below.heap_setCell _ _ _ _ (by simp <;> omega), Below.heap_setCell _ _ _ _ (by simp <;> omega)]
  exact HR.out
set_option maxRecDepth 100000 in
set_option maxHeartbeats 400000 in
theorem l3Pair_any (s : ByteArray) (k n : Int) (s' : ByteArray) (u : Value) (k2 n2 : Int) (s2 : ByteArray) (u2 : Value) (w : World) : Calls Tryz.prog 43 #[.string s, tv k n s' u, tv k2 n2 s2 u2] w (RowMade s 2 #[.int .i64 k, .int .i64 n, .string s', u, .int .i64 k2, .int .i64 n2, .string s2, u2] w) := by
  go_enter Tryz.func43, Tryz.ntmps43
  go_wp2_with fail
  obtain ⟨W, hW⟩ : ∃ W, W = ((((w.alloc (.cells #[.int .i64 k, .int .i64 n, .string s', u] 26)).alloc (.cells #[.int .i64 k2, .int .i64 n2, .string s2, u2] 26)).alloc (.cells #[.int .i64 0, .int .i64 0, .string ⟨#[]⟩, .slice none 0 0] 26)).alloc (.cells #[.int .i64 k, .int .i64 n, .string s', u, .int .i64 k2, .int .i64 n2, .string s2, u2] 26)) := ⟨_, rfl⟩
  have hWs : W.heap.size = w.heap.size + 1 + 1 + 1 + 1 := by rw [hW]; simp
  have r1 : W.heap[w.heap.size + 1 + 1]? = some (.cells #[.int .i64 0, .int .i64 0, .string ⟨#[]⟩, .slice none 0 0] 26 (0, 0)) := by rw [hW]; exact heap_mid _ _ _ (by simp)
  have r2 : W.heap[w.heap.size + 1 + 1 + 1]? = some (.cells #[.int .i64 k, .int .i64 n, .string s', u, .int .i64 k2, .int .i64 n2, .string s2, u2] 26 (0, 0)) := by rw [hW]; exact heap_new _ _ (by simp)
  have hbW : Below w.heap.size w W := by rw [hW]; exact (((((Below.refl _ _).alloc (by simp <;> omega) _).alloc (by simp <;> omega) _).alloc (by simp <;> omega) _).alloc (by simp <;> omega) _)
  have HBW := Lib.hid hbW; clear hbW
  rw [← hW]
  clear hW
  refine (l3App_any s _ _ _ _).mono ?_
  rintro e w1 ⟨rfl, hb1⟩
  have q1 := hb1.block (w.heap.size + 1 + 1) (by omega)
  have q2 := hb1.block (w.heap.size + 1 + 1 + 1) (by omega)
  rw [r1] at q1
  rw [r2] at q2
  clear r1 r2
  have a0 := cell_of_row w1 (w.heap.size + 1 + 1) 0 _ _ _ q1
  have a1 := cell_of_row w1 (w.heap.size + 1 + 1) 1 _ _ _ q1
  have a2 := cell_of_row w1 (w.heap.size + 1 + 1) 2 _ _ _ q1
  have a3 := cell_of_row w1 (w.heap.size + 1 + 1) 3 _ _ _ q1
  have f0 := frozen_of_row w1 (w.heap.size + 1 + 1) 0 _ _ q1
  have f1 := frozen_of_row w1 (w.heap.size + 1 + 1) 1 _ _ q1
  have f2 := frozen_of_row w1 (w.heap.size + 1 + 1) 2 _ _ q1
  have f3 := frozen_of_row w1 (w.heap.size + 1 + 1) 3 _ _ q1
  simp at a0 a1 a2 a3
  clear q1
  have HB1 := Lib.hid (HBW.out.trans (hb1.mono HBW.out.size)); clear hb1
  have HR := Lib.hid q2; clear q2
  go_wp2
  (try simp only [Exit.inBlock, Exit.then])
  refine bodyPost_ret (v := tv 2 0 s (.slice (some ⟨w.heap.size + 1 + 1 + 1, 0, none⟩) 2 2)) ?hr rfl ?_
  case hr =>
    rw [results_cell (a := 6) (t := 26) (ad := ⟨w.heap.size + 1 + 1, 0, none⟩) rfl rfl]
    go_simp
  refine ⟨w.heap.size + 1 + 1 + 1, rfl, by omega, ?_, (((HB1.out.setCell (by simp <;> omega) _).setCell (by simp <;> omega) _).setCell (by simp <;> omega) _).setCell (by simp <;> omega) _⟩
  rw [Below.heap_setCell _ _ _ _ (by simp <;> omega), Below.heap_setCell _ _ _ _ (by simp <;> omega), Below.heap_setCell _ _ _ _ (by simp <;> omega), Below.heap_setCell _ _ _ _ (by simp <;> omega)]
  exact HR.out
end Go.Proofs.YtooiiomfahomjaaGreatDoor
