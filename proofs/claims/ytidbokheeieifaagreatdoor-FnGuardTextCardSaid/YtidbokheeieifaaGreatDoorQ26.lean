/-
  The draws of the law on the texts of guards: spec.DrawFormatGuard, spec.DrawParseGuard, spec.DrawApplyToGuard.
-/
import Derived.Test.YtidbokheeieifaaGreatDoorQ14
import Derived.Test.YtidbokheeieifaaGreatDoorQ21
import Derived.Test.YtidbokheeieifaaGreatDoorQ23
import Derived.Test.YtidbokheeieifaaGreatDoorQ25
namespace Go.Proofs.YtidbokheeieifaaGreatDoor
open Go.RowKit

theorem guard_fin {w w2 : World} {lo : Nat} {kd k n : Int} {s : ByteArray} {a : Option Addr} {m c : Nat} {k' n' : Int} {s' : ByteArray} {a' : Option Addr} {m' c' : Nat} {t t' : T} {h h' : Nat} (hlo : w.heap.size + 1 ≤ lo) (hkd : 0 ≤ kd ∧ kd ≤ 5)
    (ht : TermAt w2 lo h (tv k n s (.slice a m c)) t) (ht' : TermAt w2 lo h' (tv k' n' s' (.slice a' m' c')) t') (hw : wT t ≤ 1000) (hw' : wT t' ≤ 1000) (hb : Below w.heap.size w w2) (v0 v1 v2 v3 v4 v5 v6 v7 v8 : Value) :
    DrawnGuard w (.returned (gv kd k n s (.slice a m c) k' n' s' (.slice a' m' c'))) (((((((((w2.setCell ⟨w.heap.size, 0, none⟩ v0).setCell ⟨w.heap.size, 1, none⟩ v1).setCell ⟨w.heap.size, 2, none⟩ v2).setCell ⟨w.heap.size, 3, none⟩ v3).setCell ⟨w.heap.size, 4, none⟩ v4).setCell ⟨w.heap.size, 5, none⟩ v5).setCell ⟨w.heap.size, 6, none⟩ v6).setCell ⟨w.heap.size, 7, none⟩ v7).setCell ⟨w.heap.size, 8, none⟩ v8) := by
  have hk : ∀ j, j ≠ w.heap.size → (((((((((w2.setCell ⟨w.heap.size, 0, none⟩ v0).setCell ⟨w.heap.size, 1, none⟩ v1).setCell ⟨w.heap.size, 2, none⟩ v2).setCell ⟨w.heap.size, 3, none⟩ v3).setCell ⟨w.heap.size, 4, none⟩ v4).setCell ⟨w.heap.size, 5, none⟩ v5).setCell ⟨w.heap.size, 6, none⟩ v6).setCell ⟨w.heap.size, 7, none⟩ v7).setCell ⟨w.heap.size, 8, none⟩ v8).heap[j]? = w2.heap[j]? := fun j hj => set9_heap hj _ _ _ _ _ _ _ _ _
  refine ⟨kd, k, n, s, a, m, c, k', n', s', a', m', c', t, t', h, h', rfl, hkd, (ht.same (fun j h1 _ => hk j (by omega))).low (by omega), (ht'.same (fun j h1 _ => hk j (by omega))).low (by omega), hw, hw', ?_⟩
  exact ((((((((hb.setCell (Nat.le_refl _) _).setCell (Nat.le_refl _) _).setCell (Nat.le_refl _) _).setCell (Nat.le_refl _) _).setCell (Nat.le_refl _) _).setCell (Nat.le_refl _) _).setCell (Nat.le_refl _) _).setCell (Nat.le_refl _) _).setCell (Nat.le_refl _) _

set_option maxRecDepth 100000 in
set_option maxHeartbeats 1600000 in
theorem drawFmtG_any (cv : Value) (len : Nat) (w : World) (hcode : CodeAt w w.heap.size cv len) :
    Calls Tryz.prog 6 #[cv] w (DrawnGuard w) := by
  obtain ⟨W0, hW0⟩ : ∃ W0, W0 = w.alloc zGd := ⟨_, rfl⟩
  have hb0 : Below w.heap.size w W0 := by rw [hW0]; exact (Below.refl _ _).alloc (Nat.le_refl _) _
  have hz0 : W0.heap.size = w.heap.size + 1 := by rw [hW0]; simp
  have r0 : W0.heap[w.heap.size]? = some (grow 28 0 0 0 ⟨#[]⟩ (.slice none 0 0) 0 0 ⟨#[]⟩ (.slice none 0 0)) := by rw [hW0]; exact heap_new w _ rfl
  have HC : Hid (CodeAt W0 W0.heap.size cv len) := Lib.hid (hcode.below hb0)
  have HB0 := Lib.hid hb0
  have HR0 := Lib.hid (And.intro hz0 r0)
  clear hcode hb0 hz0 r0
  go_enter Tryz.func6, Tryz.ntmps6
  go_wp2_with fail
  rw [← hW0]
  clear hW0
  refine (new_any cv len _ HC.out).mono ?_
  rintro e w1 ⟨rfl, hu1, hb1, _⟩
  have HU1 := Lib.hid hu1
  have HC1 := Lib.hid (HC.out.at_new hb1)
  have HB1 := Lib.hid hb1
  clear hu1 hb1
  go_wp2_with fail
  refine (l9Bent_any W0.heap.size cv len w1 HC1.out HU1.out).mono ?_
  rintro e w2 ⟨kd, k, n, s, a, m, c, k', n', s', a', m', c', t, t', h, h', rfl, hkd, ht, ht', hw, hw', hu2, hg2⟩
  have HBW := Lib.hid (HB0.out.trans ((below_own HB1.out hg2).mono HB0.out.size))
  have hres : w2.heap[w.heap.size]? = some (grow 28 0 0 0 ⟨#[]⟩ (.slice none 0 0) 0 0 ⟨#[]⟩ (.slice none 0 0)) := ((below_own HB1.out hg2).block _ (by have := HR0.out.1; omega)).trans HR0.out.2
  have hz1 : w.heap.size + 1 ≤ w1.heap.size := by have := HB1.out.size; have := HR0.out.1; omega
  have HF := Lib.hid (fun v0 v1 v2 v3 v4 v5 v6 v7 v8 => guard_fin hz1 hkd ht ht' hw hw' HBW.out v0 v1 v2 v3 v4 v5 v6 v7 v8)
  clear ht ht' hw hw' hkd hu2 hg2 hz1
  obtain ⟨z0, z1, z2, z3, z4, z5, z6, z7, z8⟩ := cells_of9 hres
  have f0 := frozen_of_row _ w.heap.size 0 _ _ hres
  have f1 := frozen_of_row _ w.heap.size 1 _ _ hres
  have f2 := frozen_of_row _ w.heap.size 2 _ _ hres
  have f3 := frozen_of_row _ w.heap.size 3 _ _ hres
  have f4 := frozen_of_row _ w.heap.size 4 _ _ hres
  have f5 := frozen_of_row _ w.heap.size 5 _ _ hres
  have f6 := frozen_of_row _ w.heap.size 6 _ _ hres
  have f7 := frozen_of_row _ w.heap.size 7 _ _ hres
  have f8 := frozen_of_row _ w.heap.size 8 _ _ hres
  clear hres
  go_wp2
  (try simp only [Exit.inBlock, Exit.then])
  refine bodyPost_ret (v := gv kd k n s (.slice a m c) k' n' s' (.slice a' m' c')) ?hr rfl ?_
  case hr =>
    rw [results_cell (a := 2) (t := 28) (ad := ⟨w.heap.size, 0, none⟩) rfl rfl]
    go_simp
  exact HF.out _ _ _ _ _ _ _ _ _

def gTurns : List ByteArray := [⟨#[32]⟩, ⟨#[61]⟩, ⟨#[32, 60, 32]⟩, ⟨#[32, 61, 61, 32]⟩, ⟨#[88]⟩, ⟨#[49]⟩]
theorem gTurns_short : ∀ p ∈ gTurns, p.size ≤ 100 := by
  intro p hp
  simp only [gTurns, List.mem_cons, List.mem_nil_iff, or_false] at hp
  rcases hp with rfl | rfl | rfl | rfl | rfl | rfl <;> decide
theorem fmtG_size (g : Gd) : (fmtG g).size ≤ 1500 := by
  obtain ⟨kd, l, r⟩ := g
  rw [fmtG_of]
  split
  · decide
  · have h1 := fmtT_sizeG l
    have h2 := fmtT_sizeG r
    have h3 := sign_size kd
    rw [ByteArray.size_append, ByteArray.size_append]
    omega

set_option maxRecDepth 100000 in
set_option maxHeartbeats 1600000 in
theorem drawParG_any (cv : Value) (len : Nat) (w : World) (hcode : CodeAt w w.heap.size cv len) :
    Calls Tryz.prog 12 #[cv] w (DrawnTx w) := by
  have HC := Lib.hid hcode; clear hcode
  go_enter Tryz.func12, Tryz.ntmps12
  go_wp2_with fail
  refine (new_any cv len _ HC.out).mono ?_
  rintro e w1 ⟨rfl, hu1, hb1, _⟩
  have HC1 := Lib.hid (HC.out.at_new hb1)
  have HU1 := Lib.hid hu1; clear hu1
  have HB1 := Lib.hid hb1; clear hb1
  go_wp2_with fail
  refine (l9Draw_any w.heap.size cv len w1 HC1.out HU1.out).mono ?_
  rintro e w3 ⟨kd, k, n, s, a, m, c, k', n', s', a', m', c', t, t', h, h', rfl, hkd, ht, ht', hw, hw', hu3, hg3⟩
  have HC3 := Lib.hid (HC1.out.grown HU1.out.lt hg3)
  have HU3 := Lib.hid hu3; clear hu3
  have HB3 := Lib.hid (below_own HB1.out hg3)
  have HGA : Hid (GAt w3 w1.heap.size (max h h') (gv kd k n s (.slice a m c) k' n' s' (.slice a' m' c')) ⟨kd, t, t'⟩) := Lib.hid ⟨k, n, s, _, k', n', s', _, rfl, by
    obtain ⟨q1, q2, q3, q4, q5, e1, e2, e3, e4⟩ := ht
    exact ⟨q1, q2, q3, q4, q5, e1, e2, e3, e4.le (Nat.le_max_left _ _)⟩, by
    obtain ⟨q1, q2, q3, q4, q5, e1, e2, e3, e4⟩ := ht'
    exact ⟨q1, q2, q3, q4, q5, e1, e2, e3, e4.le (Nat.le_max_right _ _)⟩⟩
  have HWG : Hid (wG ⟨kd, t, t'⟩ ≤ 1048576) := Lib.hid (by unfold wG; simp only; omega)
  clear hkd ht ht' hw hw' hg3
  go_wp2_with fail
  refine (sFmtG_any _ ⟨kd, t, t'⟩ _ _ w3 HGA.out HWG.out).mono ?_
  rintro e w4 ⟨rfl, hb4⟩
  have hfs := fmtG_size ⟨kd, t, t'⟩
  obtain ⟨ft, hft⟩ : ∃ ft, ft = fmtG ⟨kd, t, t'⟩ := ⟨_, rfl⟩
  rw [← hft] at hfs ⊢
  clear hft
  have HC4 := Lib.hid (HC3.out.grown HU3.out.lt (Below.toGrown hb4 _))
  have HU4 := Lib.hid (HU3.out.bel hb4)
  have HB4 := Lib.hid (HB3.out.trans (hb4.mono HB3.out.size)); clear hb4
  have hne : w4.heap.size ≠ w.heap.size := by have := HU4.out.lt; omega
  have c : Calls Tryz.prog 30 #[.pointer (some ⟨w.heap.size, 0, none⟩), .string ft, .slice (some ⟨w4.heap.size, 0, none⟩) 6 6] (w4.alloc (.cells #[.string ⟨#[32]⟩, .string ⟨#[61]⟩, .string ⟨#[32, 60, 32]⟩, .string ⟨#[32, 61, 61, 32]⟩, .string ⟨#[88]⟩, .string ⟨#[49]⟩] 9)) (TurnedEnd w.heap.size (w4.alloc (.cells #[.string ⟨#[32]⟩, .string ⟨#[61]⟩, .string ⟨#[32, 60, 32]⟩, .string ⟨#[32, 61, 61, 32]⟩, .string ⟨#[88]⟩, .string ⟨#[49]⟩] 9))) :=
    turned_any w.heap.size w4.heap.size 6 cv len ft gTurns (w4.alloc (.cells (gTurns.map Value.string).toArray 9)) (HC4.out.alloc HU4.out.lt _) (HU4.out.alloc _) (by omega) hne (by decide) (by decide) gTurns_short (new_strs w4 gTurns _)
  have HK := Lib.hid c; clear c
  go_wp2_with fail
  refine HK.out.mono ?_
  rintro e w5 ⟨u5, rfl, hu5, hg5⟩
  have HF := Lib.hid (And.intro hu5 (below_own (HB4.out.alloc HB4.out.size _) hg5))
  clear hu5 hg5 HK
  go_wp2
  go_ret
  exact ⟨u5, rfl, HF.out.1, HF.out.2⟩

/-- A drawn list of Binds and a drawn guard. -/
def DrawnBG (w : World) (e : Ending) (w' : World) : Prop :=
  ∃ (u : Value) (bs : List (ByteArray × T)) (kd k n : Int) (s : ByteArray) (a : Option Addr) (m c : Nat) (k' n' : Int) (s' : ByteArray) (a' : Option Addr) (m' c' : Nat) (t t' : T) (h h' : Nat), e = .returned (.tuple #[u, gv kd k n s (.slice a m c) k' n' s' (.slice a' m' c')]) ∧ BsAt w' w.heap.size 2 u bs ∧ Small7 bs ∧
    TermAt w' w.heap.size h (tv k n s (.slice a m c)) t ∧ TermAt w' w.heap.size h' (tv k' n' s' (.slice a' m' c')) t' ∧ wT t ≤ 1000 ∧ wT t' ≤ 1000 ∧ Below w.heap.size w w'

set_option maxRecDepth 100000 in
set_option maxHeartbeats 1600000 in
theorem drawApG_any (cv : Value) (len : Nat) (w : World) (hcode : CodeAt w w.heap.size cv len) :
    Calls Tryz.prog 13 #[cv] w (DrawnBG w) := by
  obtain ⟨W0, hW0⟩ : ∃ W0, W0 = w.alloc zGd := ⟨_, rfl⟩
  have hb0 : Below w.heap.size w W0 := by rw [hW0]; exact (Below.refl _ _).alloc (Nat.le_refl _) _
  have hz0 : W0.heap.size = w.heap.size + 1 := by rw [hW0]; simp
  have r0 : W0.heap[w.heap.size]? = some (grow 28 0 0 0 ⟨#[]⟩ (.slice none 0 0) 0 0 ⟨#[]⟩ (.slice none 0 0)) := by rw [hW0]; exact heap_new w _ rfl
  have HC : Hid (CodeAt W0 W0.heap.size cv len) := Lib.hid (hcode.below hb0)
  have HB0 := Lib.hid hb0
  have HR0 := Lib.hid (And.intro hz0 r0)
  clear hcode hb0 hz0 r0
  go_enter Tryz.func13, Tryz.ntmps13
  go_wp2_with fail
  rw [← hW0]
  clear hW0
  refine (new_any cv len _ HC.out).mono ?_
  rintro e w1 ⟨rfl, hu1, hb1, hlt⟩
  have HU1 := Lib.hid hu1
  have HC1 := Lib.hid (HC.out.at_new hb1)
  have HB1 := Lib.hid (And.intro hb1 hlt)
  clear hu1 hb1 hlt
  go_wp2_with fail
  refine (draw7_any W0.heap.size cv len w1 HC1.out HU1.out).mono ?_
  rintro e w3 ⟨u, bs, rfl, hua, hsa, hu3, hg3⟩
  have HUA := Lib.hid (And.intro hua hsa)
  have HU3 := Lib.hid hu3
  have HG3 := Lib.hid hg3
  clear hua hsa hu3 hg3
  go_wp2_with fail
  refine (l9Bent_any W0.heap.size cv len w3 (HC1.out.grown HB1.out.2 HG3.out) HU3.out).mono ?_
  rintro e w2 ⟨kd, k, n, s, a, m, c, k', n', s', a', m', c', t, t', h, h', rfl, hkd, ht, ht', hw, hw', hu2, hg2⟩
  have hbw1 : Below W0.heap.size W0 w2 := HB1.out.1.grown (grown_trans HG3.out hg2) HB1.out.1.size (fun j e => by cases e; omega)
  have HBW := Lib.hid (HB0.out.trans (hbw1.mono HB0.out.size))
  have hres : w2.heap[w.heap.size]? = some (grow 28 0 0 0 ⟨#[]⟩ (.slice none 0 0) 0 0 ⟨#[]⟩ (.slice none 0 0)) := (hbw1.block _ (by have := HR0.out.1; omega)).trans HR0.out.2
  have hz1 : w.heap.size + 1 ≤ w3.heap.size := by have := HB1.out.1.size; have := HG3.out.size; have := HR0.out.1; omega
  have hz2 : w.heap.size + 1 ≤ w1.heap.size := by have := HB1.out.1.size; have := HR0.out.1; omega
  have hua2 : BsAt w2 w1.heap.size 2 u bs := HUA.out.1.grown7 hg2 (fun j e => by cases e; exact HB1.out.2)
  have HF : Hid (∀ v0 v1 v2 v3 v4 v5 v6 v7 v8, DrawnBG w (.returned (.tuple #[u, gv kd k n s (.slice a m c) k' n' s' (.slice a' m' c')])) (((((((((w2.setCell ⟨w.heap.size, 0, none⟩ v0).setCell ⟨w.heap.size, 1, none⟩ v1).setCell ⟨w.heap.size, 2, none⟩ v2).setCell ⟨w.heap.size, 3, none⟩ v3).setCell ⟨w.heap.size, 4, none⟩ v4).setCell ⟨w.heap.size, 5, none⟩ v5).setCell ⟨w.heap.size, 6, none⟩ v6).setCell ⟨w.heap.size, 7, none⟩ v7).setCell ⟨w.heap.size, 8, none⟩ v8)) := Lib.hid (fun v0 v1 v2 v3 v4 v5 v6 v7 v8 => by
    have hk : w2.grownBy (((((((((w2.setCell ⟨w.heap.size, 0, none⟩ v0).setCell ⟨w.heap.size, 1, none⟩ v1).setCell ⟨w.heap.size, 2, none⟩ v2).setCell ⟨w.heap.size, 3, none⟩ v3).setCell ⟨w.heap.size, 4, none⟩ v4).setCell ⟨w.heap.size, 5, none⟩ v5).setCell ⟨w.heap.size, 6, none⟩ v6).setCell ⟨w.heap.size, 7, none⟩ v7).setCell ⟨w.heap.size, 8, none⟩ v8) (some w.heap.size) :=
      grown_trans (grown_trans (grown_trans (grown_trans (grown_trans (grown_trans (grown_trans (grown_trans (set_grown _ _ _ _) (set_grown _ _ _ _)) (set_grown _ _ _ _)) (set_grown _ _ _ _)) (set_grown _ _ _ _)) (set_grown _ _ _ _)) (set_grown _ _ _ _)) (set_grown _ _ _ _)) (set_grown _ _ _ _)
    obtain ⟨_, _, _, _, _, _, _, _, _, _, _, _, _, _, _, _, _, e, _, x1, x2, x3, x4, x5⟩ := guard_fin hz1 hkd ht ht' hw hw' HBW.out v0 v1 v2 v3 v4 v5 v6 v7 v8
    simp only [gv, Ending.returned.injEq, Value.agg.injEq, Array.mk.injEq, List.cons.injEq, Value.int.injEq, Value.string.injEq, Value.slice.injEq, and_true, true_and] at e
    obtain ⟨rfl, rfl, rfl, rfl, ⟨rfl, rfl, rfl⟩, rfl, rfl, rfl, rfl, rfl, rfl⟩ := e
    exact ⟨u, bs, _, _, _, _, _, _, _, _, _, _, _, _, _, _, _, _, _, rfl, (hua2.grown7 hk (fun j e => by cases e; omega)).low (by omega), HUA.out.2, x1, x2, x3, x4, x5⟩)
  clear ht ht' hw hw' hkd hu2 hg2 hz1 hz2 hua2 hbw1
  obtain ⟨z0, z1, z2, z3, z4, z5, z6, z7, z8⟩ := cells_of9 hres
  have f0 := frozen_of_row _ w.heap.size 0 _ _ hres
  have f1 := frozen_of_row _ w.heap.size 1 _ _ hres
  have f2 := frozen_of_row _ w.heap.size 2 _ _ hres
  have f3 := frozen_of_row _ w.heap.size 3 _ _ hres
  have f4 := frozen_of_row _ w.heap.size 4 _ _ hres
  have f5 := frozen_of_row _ w.heap.size 5 _ _ hres
  have f6 := frozen_of_row _ w.heap.size 6 _ _ hres
  have f7 := frozen_of_row _ w.heap.size 7 _ _ hres
  have f8 := frozen_of_row _ w.heap.size 8 _ _ hres
  clear hres
  go_wp2
  (try simp only [Exit.inBlock, Exit.then])
  refine bodyPost_ret (v := .tuple #[u, gv kd k n s (.slice a m c) k' n' s' (.slice a' m' c')]) ?_ rfl ?_
  · refine results_tc7 (a := 3) (b := 2) (t := 28) (ad := ⟨w.heap.size, 0, none⟩) rfl rfl _ _ ?_
    go_simp
  · exact HF.out _ _ _ _ _ _ _ _ _
end Go.Proofs.YtidbokheeieifaaGreatDoor
