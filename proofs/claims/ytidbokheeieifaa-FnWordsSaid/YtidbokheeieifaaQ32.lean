/-
  impl.reduceNode: a node whose arguments are words becomes its word.
-/
import Derived.Test.YtidbokheeieifaaQ23
import Derived.Test.YtidbokheeieifaaQ31
import Derived.Test.YtidbokheeieifaaQ7
namespace Go.Proofs.Ytidbokheeieifaa
open Go.RowKit Go.Maps Go.WideMaps

/-- A node with m arguments becomes a word. -/
def goB (k n : Int) (s : ByteArray) (m : Nat) (wa wb : Bool) : Bool := (k == 2) && ((n == 0) && (builtinB s && (decide (m = 2) && (wa && wb))))
/-- What reduceNode leaves. -/
def RedNE (b o : Nat) (go : Bool) (z : Int) (w : World) (e : Ending) (w' : World) : Prop :=
  e = .returned (.tuple #[]) ∧ ∃ w1, Below w.heap.size w w1 ∧ w' = if go = true then (((w1.setCell ⟨b, o, none⟩ (.int .i64 3)).setCell ⟨b, o + 1, none⟩ (.int .i64 z)).setCell ⟨b, o + 2, none⟩ (.string ByteArray.empty)).setCell ⟨b, o + 3, none⟩ (.slice none 0 0) else w1
theorem ops_fn {s : ByteArray} (h : builtinB s = true) : ∃ f, firstV opsL s = some (fnV f) ∧ ∀ (args : Array Value) (W : World), (callFunc f args).run Try.prog W = .ok (.enter f args) W := by
  rcases ops_ways s with ⟨_, hf, _⟩ | ⟨_, hf, _⟩ | ⟨_, hf, _⟩ | ⟨_, hb⟩
  · exact ⟨_, hf, fun _ _ => by kernel_rfl⟩
  · exact ⟨_, hf, fun _ _ => by kernel_rfl⟩
  · exact ⟨_, hf, fun _ _ => by kernel_rfl⟩
  · rw [h] at hb; cases hb
theorem ops_no {s : ByteArray} (h : builtinB s = false) : firstV opsL s = none := by
  rcases ops_ways s with ⟨_, _, hb⟩ | ⟨_, _, hb⟩ | ⟨_, _, hb⟩ | ⟨hf, _⟩
  · rw [h] at hb; cases hb
  · rw [h] at hb; cases hb
  · rw [h] at hb; cases hb
  · exact hf

set_option maxRecDepth 100000 in
set_option maxHeartbeats 6400000 in
theorem redNode_any (b o : Nat) (k n : Int) (s : ByteArray) (a : Option Addr) (m c mb : Nat) (w : World) (g : Nat) (ka na : Int) (sa : ByteArray) (aa : Option Addr) (ma ca : Nat) (kb nb : Int) (sb : ByteArray) (ab : Option Addr) (mb2 cb : Nat)
    (hc0 : w.cell? ⟨b, o, none⟩ = some (.int .i64 k)) (hc1 : w.cell? ⟨b, o + 1, none⟩ = some (.int .i64 n)) (hc2 : w.cell? ⟨b, o + 2, none⟩ = some (.string s)) (hc3 : w.cell? ⟨b, o + 3, none⟩ = some (.slice a m c))
    (hf0 : w.frozen? ⟨b, o, none⟩ = false) (hf1 : w.frozen? ⟨b, o + 1, none⟩ = false) (hf2 : w.frozen? ⟨b, o + 2, none⟩ = false) (hf3 : w.frozen? ⟨b, o + 3, none⟩ = false) (hs : s.size ≤ maxLen) (htab : TabAt mb opsL w)
    (hk2 : m = 2 → a = some ⟨g, 0, none⟩ ∧ (w.cell? ⟨g, 0, none⟩ = some (.int .i64 ka) ∧ w.cell? ⟨g, 1, none⟩ = some (.int .i64 na) ∧ w.cell? ⟨g, 2, none⟩ = some (.string sa) ∧ w.cell? ⟨g, 3, none⟩ = some (.slice aa ma ca)) ∧
      (w.cell? ⟨g, 4, none⟩ = some (.int .i64 kb) ∧ w.cell? ⟨g, 5, none⟩ = some (.int .i64 nb) ∧ w.cell? ⟨g, 6, none⟩ = some (.string sb) ∧ w.cell? ⟨g, 7, none⟩ = some (.slice ab mb2 cb)) ∧ sa.size ≤ maxLen ∧ sb.size ≤ maxLen) :
    Calls Try.prog 59 #[.pointer (some ⟨b, o, none⟩), .map (some mb)] w (RedNE b o (goB k n s m (wordV ka na sa ma) (wordV kb nb sb mb2)) (opW s na nb) w) := by
  have hlook := htab.lookF hs
  cases hbi : builtinB s with
  | false =>
    have HNO : Hid (goB k n s m (wordV ka na sa ma) (wordV kb nb sb mb2) = false) := Lib.hid (by unfold goB; rw [hbi]; simp)
    rw [ops_no hbi] at hlook
    simp only [Option.getD_none, Option.isSome_none] at hlook
    clear hk2 htab hs hbi
    go_enter Try.func59, Try.ntmps59
    go_wp2
    go_end0
    exact ⟨rfl, w, Below.refl _ _, by rw [HNO.out]; rfl⟩
  | true =>
  obtain ⟨f, hf, hcf⟩ := ops_fn hbi
  rw [hf] at hlook
  simp only [Option.getD_some, Option.isSome_some] at hlook
  by_cases hk : k = 2
  rotate_left
  · have hkb : (k != 2) = true := by simpa using hk
    have HNO : Hid (goB k n s m (wordV ka na sa ma) (wordV kb nb sb mb2) = false) := Lib.hid (by unfold goB; simp [hk])
    clear hk2 htab hs hbi hk hcf hf
    go_enter Try.func59, Try.ntmps59
    go_wp2
    go_end0
    exact ⟨rfl, w, Below.refl _ _, by rw [HNO.out]; rfl⟩
  subst hk
  by_cases hn : n = 0
  rotate_left
  · have hnb : (n != 0) = true := by simpa using hn
    have HNO : Hid (goB 2 n s m (wordV ka na sa ma) (wordV kb nb sb mb2) = false) := Lib.hid (by unfold goB; simp [hn])
    clear hk2 htab hs hbi hn hcf hf
    go_enter Try.func59, Try.ntmps59
    go_wp2
    go_end0
    exact ⟨rfl, w, Below.refl _ _, by rw [HNO.out]; rfl⟩
  subst hn
  by_cases hm : m = 2
  rotate_left
  · have hmb : ((m : Int) != 2) = true := by simp; omega
    have HNO : Hid (goB 2 0 s m (wordV ka na sa ma) (wordV kb nb sb mb2) = false) := Lib.hid (by unfold goB; simp [hm])
    clear hk2 htab hs hbi hm hcf hf
    go_enter Try.func59, Try.ntmps59
    go_wp2
    go_end0
    exact ⟨rfl, w, Below.refl _ _, by rw [HNO.out]; rfl⟩
  subst hm
  obtain ⟨rfl, ⟨a0, a1, a2, a3⟩, ⟨b0, b1, b2, b3⟩, hsa, hsb⟩ := hk2 rfl
  have HGO : Hid (goB 2 0 s 2 (wordV ka na sa ma) (wordV kb nb sb mb2) = (wordV ka na sa ma && wordV kb nb sb mb2)) := Lib.hid (by unfold goB; rw [hbi]; rfl)
  have HWA := Lib.hid (fun w' => iWord_any ka na sa aa ma ca w' hsa)
  have HWB := Lib.hid (fun w' => iWord_any kb nb sb ab mb2 cb w' hsb)
  have HN : Hid (∀ w', Below w.heap.size w w' → (w'.cell? ⟨b, o, none⟩ = some (.int .i64 2) ∧ w'.cell? ⟨b, o + 1, none⟩ = some (.int .i64 0) ∧ w'.cell? ⟨b, o + 2, none⟩ = some (.string s) ∧ w'.cell? ⟨b, o + 3, none⟩ = some (.slice (some ⟨g, 0, none⟩) 2 c)) ∧
      (w'.frozen? ⟨b, o, none⟩ = false ∧ w'.frozen? ⟨b, o + 1, none⟩ = false ∧ w'.frozen? ⟨b, o + 2, none⟩ = false ∧ w'.frozen? ⟨b, o + 3, none⟩ = false)) := Lib.hid (fun w' hb => by
    have hbl : b < w.heap.size := World.block_lt_of_cell? w ⟨b, o, none⟩ hc0
    have fz : ∀ j, w'.frozen? ⟨b, j, none⟩ = w.frozen? ⟨b, j, none⟩ := fun j => by unfold World.frozen?; rw [hb.block b hbl]
    exact ⟨⟨cell_on hb hc0, cell_on hb hc1, cell_on hb hc2, cell_on hb hc3⟩, by rw [fz]; exact hf0, by rw [fz]; exact hf1, by rw [fz]; exact hf2, by rw [fz]; exact hf3⟩)
  have HCF := Lib.hid (And.intro hf hcf)
  have HS2 := Lib.hid hs
  clear hsa hsb hk2 htab hs hbi hf hf0 hf1 hf2 hf3
  go_enter Try.func59, Try.ntmps59
  go_upto_region 2 with fail
  clear hlook hcf hc0 hc1 hc2
  have cx3 : ∀ o', (w.alloc o').cell? ⟨b, o + 3, none⟩ = some (.slice (some ⟨g, 0, none⟩) 2 c) := fun o' => cell_on ((Below.refl _ _).alloc (Nat.le_refl _) o') hc3
  have cy3 : ∀ o' o2, ((w.alloc o').alloc o2).cell? ⟨b, o + 3, none⟩ = some (.slice (some ⟨g, 0, none⟩) 2 c) := fun o' o2 => cell_on ((Below.refl _ _).alloc (Nat.le_refl _) o2) (cx3 o')
  have ax0 : ∀ o', (w.alloc o').cell? ⟨g, 0, none⟩ = some (.int .i64 ka) := fun o' => cell_on ((Below.refl _ _).alloc (Nat.le_refl _) o') a0
  have ay0 : ∀ o' o2, ((w.alloc o').alloc o2).cell? ⟨g, 0, none⟩ = some (.int .i64 ka) := fun o' o2 => cell_on ((Below.refl _ _).alloc (Nat.le_refl _) o2) (ax0 o')
  have ax1 : ∀ o', (w.alloc o').cell? ⟨g, 1, none⟩ = some (.int .i64 na) := fun o' => cell_on ((Below.refl _ _).alloc (Nat.le_refl _) o') a1
  have ay1 : ∀ o' o2, ((w.alloc o').alloc o2).cell? ⟨g, 1, none⟩ = some (.int .i64 na) := fun o' o2 => cell_on ((Below.refl _ _).alloc (Nat.le_refl _) o2) (ax1 o')
  have ax2 : ∀ o', (w.alloc o').cell? ⟨g, 2, none⟩ = some (.string sa) := fun o' => cell_on ((Below.refl _ _).alloc (Nat.le_refl _) o') a2
  have ay2 : ∀ o' o2, ((w.alloc o').alloc o2).cell? ⟨g, 2, none⟩ = some (.string sa) := fun o' o2 => cell_on ((Below.refl _ _).alloc (Nat.le_refl _) o2) (ax2 o')
  have ax3 : ∀ o', (w.alloc o').cell? ⟨g, 3, none⟩ = some (.slice aa ma ca) := fun o' => cell_on ((Below.refl _ _).alloc (Nat.le_refl _) o') a3
  have ay3 : ∀ o' o2, ((w.alloc o').alloc o2).cell? ⟨g, 3, none⟩ = some (.slice aa ma ca) := fun o' o2 => cell_on ((Below.refl _ _).alloc (Nat.le_refl _) o2) (ax3 o')
  have bx0 : ∀ o', (w.alloc o').cell? ⟨g, 4, none⟩ = some (.int .i64 kb) := fun o' => cell_on ((Below.refl _ _).alloc (Nat.le_refl _) o') b0
  have by0 : ∀ o' o2, ((w.alloc o').alloc o2).cell? ⟨g, 4, none⟩ = some (.int .i64 kb) := fun o' o2 => cell_on ((Below.refl _ _).alloc (Nat.le_refl _) o2) (bx0 o')
  have bx1 : ∀ o', (w.alloc o').cell? ⟨g, 5, none⟩ = some (.int .i64 nb) := fun o' => cell_on ((Below.refl _ _).alloc (Nat.le_refl _) o') b1
  have by1 : ∀ o' o2, ((w.alloc o').alloc o2).cell? ⟨g, 5, none⟩ = some (.int .i64 nb) := fun o' o2 => cell_on ((Below.refl _ _).alloc (Nat.le_refl _) o2) (bx1 o')
  have bx2 : ∀ o', (w.alloc o').cell? ⟨g, 6, none⟩ = some (.string sb) := fun o' => cell_on ((Below.refl _ _).alloc (Nat.le_refl _) o') b2
  have by2 : ∀ o' o2, ((w.alloc o').alloc o2).cell? ⟨g, 6, none⟩ = some (.string sb) := fun o' o2 => cell_on ((Below.refl _ _).alloc (Nat.le_refl _) o2) (bx2 o')
  have bx3 : ∀ o', (w.alloc o').cell? ⟨g, 7, none⟩ = some (.slice ab mb2 cb) := fun o' => cell_on ((Below.refl _ _).alloc (Nat.le_refl _) o') b3
  have by3 : ∀ o' o2, ((w.alloc o').alloc o2).cell? ⟨g, 7, none⟩ = some (.slice ab mb2 cb) := fun o' o2 => cell_on ((Below.refl _ _).alloc (Nat.le_refl _) o2) (bx3 o')
  go_cut [6, 7] (fun pA pB wc => Hid (NodesAt w wc pA pB #[.int .i64 ka, .int .i64 na, .string sa, .slice aa ma ca] #[.int .i64 kb, .int .i64 nb, .string sb, .slice ab mb2 cb]))
  case first =>
    go_region
    all_goals go_wp2_with fail
    all_goals go_meet
    all_goals first
      | exact Lib.hid (nodes_ab w _ _ (by simp) (by simp))
      | exact Lib.hid (nodes_ab w _ _ (by simp) (by simp)).swap
  obtain ⟨BA, BB, e8, e9, hBA, hBB, hcA, hcB, hbc⟩ := hcut.out
  subst e8
  subst e9
  obtain ⟨⟨p0, p1, p2, p3⟩, _⟩ := cells_of4 hcA
  have HCB := Lib.hid hcB
  have HCA := Lib.hid hcA
  have HBC := Lib.hid hbc
  clear hcut hBA hBB hcA hcB hbc hc3 cx3 cy3 a0 ax0 ay0 a1 ax1 ay1 a2 ax2 ay2 a3 ax3 ay3 b0 bx0 by0 b1 bx1 by1 b2 bx2 by2 b3 bx3 by3
  go_wp2_with fail
  refine (HWA.out _).mono ?_
  rintro e w3 ⟨rfl, hb3⟩
  have HB3 := Lib.hid (bel_two HBC.out hb3)
  obtain ⟨⟨q0, q1, q2, q3⟩, _⟩ := cells_of4 ((hb3.block _ (Array.getElem?_eq_some_iff.1 HCB.out).1).trans HCB.out)
  have HCA3 := Lib.hid ((hb3.block _ (Array.getElem?_eq_some_iff.1 HCA.out).1).trans HCA.out)
  have HCB3 := Lib.hid ((hb3.block _ (Array.getElem?_eq_some_iff.1 HCB.out).1).trans HCB.out)
  clear hb3 p0 p1 p2 p3
  cases hwa : wordV ka na sa ma with
  | false =>
    have HNO : Hid (goB 2 0 s 2 (wordV ka na sa ma) (wordV kb nb sb mb2) = false) := Lib.hid (by rw [HGO.out, hwa]; rfl)
    clear hwa
    go_wp2
    go_end0
    exact ⟨rfl, w3, HB3.out, by rw [HNO.out]; rfl⟩
  | true =>
  go_wp2_with fail
  refine (HWB.out _).mono ?_
  rintro e w4 ⟨rfl, hb4⟩
  have HB4 := Lib.hid (bel_two HB3.out hb4)
  obtain ⟨⟨p0, p1, p2, p3⟩, _⟩ := cells_of4 ((hb4.block _ (Array.getElem?_eq_some_iff.1 HCA3.out).1).trans HCA3.out)
  obtain ⟨⟨q0', q1', q2', q3'⟩, _⟩ := cells_of4 ((hb4.block _ (Array.getElem?_eq_some_iff.1 HCB3.out).1).trans HCB3.out)
  clear hb4 q0 q1 q2 q3
  cases hwb : wordV kb nb sb mb2 with
  | false =>
    have HNO : Hid (goB 2 0 s 2 (wordV ka na sa ma) (wordV kb nb sb mb2) = false) := Lib.hid (by rw [HGO.out, hwa, hwb]; rfl)
    clear hwa hwb
    go_wp2
    go_end0
    exact ⟨rfl, w4, HB4.out, by rw [HNO.out]; rfl⟩
  | true =>
  have HYES : Hid (goB 2 0 s 2 (wordV ka na sa ma) (wordV kb nb sb mb2) = true) := Lib.hid (by rw [HGO.out, hwa, hwb]; rfl)
  have ha := (wordV_iff _ _ _ _).1 hwa
  have hb := (wordV_iff _ _ _ _).1 hwb
  obtain ⟨z, hz, hzo, hz0, hz1⟩ := compute_any s f HCF.out.1 na nb w4 ha.2.1 ha.2.2.1 hb.2.1 hb.2.2.1
  have HZ := Lib.hid hz
  have HZO := Lib.hid hzo
  have HCG := Lib.hid (fun w' => congr_any z w' hz0 hz1)
  have hcf := HCF.out.2
  clear hwa hwb ha hb hz hzo hz0 hz1
  go_wp2_with fail
  refine HZ.out.mono ?_
  rintro e w5 ⟨rfl, hw5⟩
  rw [hw5]
  clear hw5 hcf
  go_wp2_with fail
  refine (HCG.out _).mono ?_
  rintro e w6 ⟨rfl, hb6⟩
  have HB6 := Lib.hid (bel_two HB4.out hb6)
  obtain ⟨⟨n0, n1, n2, n3⟩, f0, f1, f2, f3⟩ := HN.out _ HB6.out
  clear hb6 p0 p1 p2 p3 q0' q1' q2' q3'
  go_wp2
  go_end0
  refine ⟨rfl, w6, HB6.out, ?_⟩
  rw [HYES.out, if_pos rfl, HZO.out]
end Go.Proofs.Ytidbokheeieifaa
