/-
  The draws spec.DrawMatchTerm and spec.DrawIsVariant.
-/
import Derived.Test.YteelakhaaipebaaQ50
import Derived.Test.YteelakhaaipebaaQ15
import Derived.Test.YteelakhaaipebaaQ5
namespace Go.Proofs.Yteelakhaaipebaa
open Go.RowKit

/-- Two drawn terms. -/
def DrawnTw2 (w : World) (e : Ending) (w' : World) : Prop :=
  ∃ k n s a m c k2 n2 s2 a2 m2 c2 t t2 h h2, e = .returned (.tuple #[tv k n s (.slice a m c), tv k2 n2 s2 (.slice a2 m2 c2)]) ∧ TermAt w' w.heap.size h (tv k n s (.slice a m c)) t ∧ TermAt w' w.heap.size h2 (tv k2 n2 s2 (.slice a2 m2 c2)) t2 ∧ wT t ≤ 1000 ∧ wT t2 ≤ 3000 ∧ Below w.heap.size w w'
theorem two_fin2 {w X : World} {k n : Int} {s : ByteArray} {a : Option Addr} {m c : Nat} {k2 n2 : Int} {s2 : ByteArray} {a2 : Option Addr} {m2 c2 : Nat} {t t2 : T} {h h2 : Nat} (ht : TermAt X (w.heap.size + 2) h (tv k n s (.slice a m c)) t) (ht2 : TermAt X (w.heap.size + 2) h2 (tv k2 n2 s2 (.slice a2 m2 c2)) t2)
    (hw : wT t ≤ 1000) (hw2 : wT t2 ≤ 3000) (hb : Below w.heap.size w X) (v0 v1 v2 v3 u0 u1 u2 u3 : Value) :
    DrawnTw2 w (.returned (.tuple #[tv k n s (.slice a m c), tv k2 n2 s2 (.slice a2 m2 c2)])) (stored2 X w.heap.size v0 v1 v2 v3 u0 u1 u2 u3) := by
  have up : ∀ {h : Nat} {v : Value} {t : T}, TermAt X (w.heap.size + 2) h v t → TermAt (stored2 X w.heap.size v0 v1 v2 v3 u0 u1 u2 u3) (w.heap.size + 2) h v t := by
    intro h v t q
    have q1 := q.grown (set_grown X w.heap.size 0 v0) (fun j e => by cases e; omega)
    have q2 := q1.grown (set_grown _ w.heap.size 1 v1) (fun j e => by cases e; omega)
    have q3 := q2.grown (set_grown _ w.heap.size 2 v2) (fun j e => by cases e; omega)
    have q4 := q3.grown (set_grown _ w.heap.size 3 v3) (fun j e => by cases e; omega)
    have q5 := q4.grown (set_grown _ (w.heap.size + 1) 0 u0) (fun j e => by cases e; omega)
    have q6 := q5.grown (set_grown _ (w.heap.size + 1) 1 u1) (fun j e => by cases e; omega)
    have q7 := q6.grown (set_grown _ (w.heap.size + 1) 2 u2) (fun j e => by cases e; omega)
    exact q7.grown (set_grown _ (w.heap.size + 1) 3 u3) (fun j e => by cases e; omega)
  refine ⟨k, n, s, a, m, c, k2, n2, s2, a2, m2, c2, t, t2, h, h2, rfl, (up ht).low (by omega), (up ht2).low (by omega), hw, hw2, ?_⟩
  exact (((((((hb.setCell (Nat.le_refl _) _).setCell (Nat.le_refl _) _).setCell (Nat.le_refl _) _).setCell (Nat.le_refl _) _).setCell (Nat.le_succ _) _).setCell (Nat.le_succ _) _).setCell (Nat.le_succ _) _).setCell (Nat.le_succ _) _


theorem TermAt.drewD {w : World} {lo h : Nat} {v : Value} {t : T} (k : TermAt w lo h v t) : TermAt w.drew lo h v t := k.below (Below.drew (Below.refl _ _))
theorem drawn_drew {w Z : World} {e : Ending} (q : DrawnTw2 w e Z) : DrawnTw2 w e Z.drew := by
  obtain ⟨k, n, s, a, m, c, k2, n2, s2, a2, m2, c2, t, t2, h, h2, e1, h3, h4, h5, h6, h7⟩ := q
  exact ⟨k, n, s, a, m, c, k2, n2, s2, a2, m2, c2, t, t2, h, h2, e1, h3.drewD, h4.drewD, h5, h6, h7.drew⟩
theorem wS_ren (x : ByteArray) (f : T → T) (xs : List T) (h : ∀ t ∈ xs, wT (f t) ≤ wT t + cT t * x.size) : wS (xs.map f) ≤ wS xs + cS xs * x.size := by
  induction xs with
  | nil => simp [wS]
  | cons y r ih =>
    have h1 := h y (by simp)
    have h2 := ih (fun z hz => h z (by simp [hz]))
    simp only [wS, cS, List.map_cons, List.sum_cons, Nat.add_mul] at *
    omega
/-- What a term weighs with renamed variables. -/
theorem wT_ren (x : ByteArray) : ∀ t, wT (mapT (fun _ => none) (fun s => s ++ x) t) ≤ wT t + cT t * x.size
  | .node k n s xs => by
    have hm : wS (xs.map (mapT (fun _ => none) (fun s => s ++ x))) ≤ wS xs + cS xs * x.size := wS_ren x _ xs fun y _ => wT_ren x y
    have hs : (s ++ x).size = s.size + x.size := by simp
    rw [mapT_node]
    split
    · simp only
      rw [wT_node, wT_node, cT_node, List.length_map, hs, Nat.add_mul]
      omega
    · rw [wT_node, wT_node, cT_node, List.length_map, Nat.add_mul]
      omega

set_option maxRecDepth 100000 in
set_option maxHeartbeats 1600000 in
theorem drawMatch_any (cv : Value) (len : Nat) (w : World) (hcode : CodeAt w w.heap.size cv len) :
    Calls Try.prog 33 #[cv] w (DrawnTwo w) := by
  have hz : (boxZ2 w).heap.size = w.heap.size + 2 := by simp
  have HB0 : Hid (Below w.heap.size w (boxZ2 w)) := Lib.hid (((Below.refl _ _).alloc (Nat.le_refl _) _).alloc (by simp) _)
  have HC : Hid (CodeAt (boxZ2 w) (boxZ2 w).heap.size cv len) := Lib.hid (hcode.below HB0.out)
  have HZ := Lib.hid hz
  clear hcode hz
  go_enter Try.func33, Try.ntmps33
  go_wp2_with fail
  refine (two8_any cv len _ HC.out).mono ?_
  rintro e w1 ⟨k, n, s, a, m, c, k2, n2, s2, a2, m2, c2, t, t2, h, h2, rfl, ht, ht2, hw, hw2, hb⟩
  have hz := HZ.out
  rw [hz] at ht ht2
  have hb' := HB0.out.trans (hb.mono (by rw [hz]; omega))
  have HF := Lib.hid (two_fin ht ht2 hw hw2 hb')
  obtain ⟨q2, q3⟩ := boxZ2_cells (Below.toGrown hb none) (by simp) (by simp)
  obtain ⟨⟨z0, z1, z2, z3⟩, y0, y1, y2, y3⟩ := cells_of4 q2
  obtain ⟨⟨x0, x1, x2, x3⟩, f0, f1, f2, f3⟩ := cells_of4 q3
  clear q2 q3 ht ht2 hw hw2 hb hb' hz
  go_wp2
  (try simp only [Exit.inBlock, Exit.then])
  refine bodyPost_ret (v := .tuple #[tv k n s (.slice a m c), tv k2 n2 s2 (.slice a2 m2 c2)]) ?_ rfl ?_
  · refine results_cell2 (a := 2) (b := 3) (t := 29) (ad := ⟨w.heap.size, 0, none⟩) (bd := ⟨w.heap.size + 1, 0, none⟩) rfl rfl rfl _ _ ?_ ?_ <;> go_simp
  · exact HF.out _ _ _ _ _ _ _ _


set_option maxRecDepth 100000 in
set_option maxHeartbeats 3200000 in
theorem drawVar_any (cv : Value) (len : Nat) (w : World) (hcode : CodeAt w w.heap.size cv len) :
    Calls Try.prog 37 #[cv] w (DrawnTw2 w) := by
  have hz : (boxZ2 w).heap.size = w.heap.size + 2 := by simp
  have HB0 : Hid (Below w.heap.size w (boxZ2 w)) := Lib.hid (((Below.refl _ _).alloc (Nat.le_refl _) _).alloc (by simp) _)
  have HC : Hid (CodeAt (boxZ2 w) (boxZ2 w).heap.size cv len) := Lib.hid (hcode.below HB0.out)
  have HZ := Lib.hid hz
  clear hcode hz
  go_enter Try.func37, Try.ntmps37
  go_wp2_with fail
  refine (two8_any cv len _ HC.out).mono ?_
  rintro e w1 ⟨k, n, s, a, m, c, k2, n2, s2, a2, m2, c2, t, t2, h, h2, rfl, ht, ht2, hw, hw2, hb⟩
  obtain ⟨W3, hW3⟩ : ∃ W3, W3 = (w1.alloc (.cells #[.int .i64 k, .int .i64 n, .string s, .slice a m c] 29)).alloc (.cells #[.int .i64 k2, .int .i64 n2, .string s2, .slice a2 m2 c2] 29) := ⟨_, rfl⟩
  have hb3 : Below w1.heap.size w1 W3 := by rw [hW3]; exact ((Below.refl _ _).alloc (Nat.le_refl _) _).alloc (by simp) _
  have hz3 : W3.heap.size = w1.heap.size + 2 := by rw [hW3]; simp
  have rA : W3.heap[w1.heap.size]? = some (.cells #[.int .i64 k, .int .i64 n, .string s, .slice a m c] 29 (0, 0)) := by rw [hW3, Below.heap_alloc _ _ _ (by simp)]; exact heap_new _ _ rfl
  have rB : W3.heap[w1.heap.size + 1]? = some (.cells #[.int .i64 k2, .int .i64 n2, .string s2, .slice a2 m2 c2] 29 (0, 0)) := by rw [hW3]; exact heap_new _ _ (by simp)
  have hbz := bel_two hb hb3
  have hz := HZ.out
  rw [hz] at ht ht2
  have HT := Lib.hid (ht.below hb3); have HT2 := Lib.hid (ht2.below hb3)
  have HW := Lib.hid (And.intro hw hw2)
  have HBZ := Lib.hid hbz
  have HRR := Lib.hid (And.intro rA rB)
  have HZ3 : Hid (w.heap.size + 2 ≤ w1.heap.size ∧ W3.heap.size = w1.heap.size + 2) := Lib.hid ⟨by have := hb.size; omega, hz3⟩
  have HC3 := Lib.hid (HC.out.below hbz)
  clear ht ht2 hw hw2 hb hb3 hz3 rA rB hbz hz
  go_upto_region 2 with fail
  rw [← hW3]
  clear hW3
  go_wp2_with fail
  refine (new_any cv len _ HC3.out).mono ?_
  rintro e w4 ⟨rfl, hu4, hb4, hlt4⟩
  have HC4 := Lib.hid (HC3.out.at_new hb4)
  have HU4 := Lib.hid hu4
  have HB4 := Lib.hid (And.intro hb4 hlt4)
  clear hu4 hb4 hlt4
  go_wp2_with fail
  refine (once_any W3.heap.size cv len 2 w4 (by decide) (by decide) HC4.out HU4.out).mono ?_
  rintro e w5 ⟨b5, rfl, hu5, hg5⟩
  have HK : Hid (∀ Y, w5.grownBy Y (some W3.heap.size) → (Y.heap[w1.heap.size]? = some (.cells #[.int .i64 k, .int .i64 n, .string s, .slice a m c] 29 (0, 0)) ∧ Y.heap[w1.heap.size + 1]? = some (.cells #[.int .i64 k2, .int .i64 n2, .string s2, .slice a2 m2 c2] 29 (0, 0)) ∧
      Y.heap[w.heap.size]? = some (.cells #[.int .i64 0, .int .i64 0, .string ⟨#[]⟩, .slice none 0 0] 29 (0, 0)) ∧ Y.heap[w.heap.size + 1]? = some (.cells #[.int .i64 0, .int .i64 0, .string ⟨#[]⟩, .slice none 0 0] 29 (0, 0)) ∧ TermAt Y (w.heap.size + 2) h (tv k n s (.slice a m c)) t ∧ TermAt Y (w.heap.size + 2) h2 (tv k2 n2 s2 (.slice a2 m2 c2)) t2 ∧ Below w.heap.size w Y)) := Lib.hid (fun Y hY => by
    have h3Y : Below W3.heap.size W3 Y := ⟨hY.os.trans (hg5.os.trans HB4.out.1.os), hY.tape.trans (hg5.tape.trans HB4.out.1.tape), hY.output.trans (hg5.output.trans HB4.out.1.output), Nat.le_trans HB4.out.1.size (Nat.le_trans hg5.size hY.size), fun i hi => by
      rw [hY.block i (by have := HB4.out.1.size; have := hg5.size; omega) (fun e => by have := Option.some.inj e; omega), hg5.block i (by have := HB4.out.1.size; omega) (fun e => by have := Option.some.inj e; omega)]
      exact HB4.out.1.block i hi⟩
    have hZY := bel_two HBZ.out h3Y
    obtain ⟨z1, z2⟩ := boxZ2_cells (Below.toGrown hZY none) (by simp) (by simp)
    exact ⟨(h3Y.block _ (by have := HZ3.out; omega)).trans HRR.out.1, (h3Y.block _ (by have := HZ3.out; omega)).trans HRR.out.2, z1, z2, HT.out.below h3Y, HT2.out.below h3Y, HB0.out.trans (hZY.mono (by have := HZ.out; omega))⟩)
  have HS5 : Hid (w.heap.size + 2 ≤ w5.heap.size) := Lib.hid (by have := HZ3.out; have := HB4.out.1.size; have := hg5.size; omega)
  obtain ⟨k1', k2', _, _, _, _, _⟩ := HK.out _ (grown_refl _ _)
  obtain ⟨⟨p0, p1, p2, p3⟩, _⟩ := cells_of4 k1'
  obtain ⟨⟨o0, o1, o2, o3⟩, _⟩ := cells_of4 k2'
  clear k1' k2' hu5 hg5
  cases b5 with
  | true =>
    have hcall := fun (Y : World) (hY : Y = w5.drew) => sRen_any ⟨#[49]⟩ (by decide) h (tv k n s (.slice a m c)) t (w.heap.size + 2) Y (by rw [hY]; exact (HK.out _ (gr_drew (grown_refl w5 (some W3.heap.size)))).2.2.2.2.1) (by have := HW.out; omega)
    have HCALL := Lib.hid hcall; clear hcall
    go_wp2_with fail
    go_region_with (go_at_call 27; refine (HCALL.out _ rfl).mono ?_; rintro e w6 ⟨k5, n5, s5, u5, xs5, rfl, e5, hs5, ho5, hb5⟩; obtain ⟨a5, c5, rfl⟩ := ho5.slice; have HT5 : Hid (TermAt w6 w5.drew.heap.size h (tv k5 n5 s5 (.slice a5 xs5.length c5)) (.node k5 n5 s5 xs5)) := Lib.hid ⟨_, _, _, _, xs5, rfl, rfl, hs5, ho5.args (Nat.le_refl _)⟩; have HW5 : Hid (wT (.node k5 n5 s5 xs5) ≤ 3000) := Lib.hid (by rw [← e5]; have h1 := wT_ren ⟨#[49]⟩ t; have h2 := cT_le t; have h3 := HW.out; have h4 : (⟨#[49]⟩ : ByteArray).size = 1 := rfl; rw [h4] at h1; omega); have HG6 : Hid (w5.grownBy w6 (some W3.heap.size)) := Lib.hid (grown_trans (gr_drew (grown_refl w5 (some W3.heap.size))) (Below.toGrown hb5 _)); obtain ⟨q0, q1, q2, q3, _, _, _⟩ := HK.out _ HG6.out; obtain ⟨⟨r0, r1, r2, r3⟩, _⟩ := cells_of4 q0; obtain ⟨⟨z0, z1, z2, z3⟩, y0, y1, y2, y3⟩ := cells_of4 q2; obtain ⟨⟨x0, x1, x2, x3⟩, f0, f1, f2, f3⟩ := cells_of4 q3; obtain ⟨m5, hm5⟩ : ∃ m, m = xs5.length := ⟨_, rfl⟩; rw [← hm5] at HT5 ⊢; clear q0 q1 q2 q3 e5 hs5 ho5 hb5 hm5)
    all_goals (
      obtain ⟨_, _, _, _, ta, tb, hbw⟩ := HK.out _ HG6.out
      have HF := Lib.hid (two_fin2 ta (HT5.out.low (by show w.heap.size + 2 ≤ w5.heap.size; exact HS5.out)) HW.out.1 HW5.out hbw)
      clear ta tb hbw
      go_wp2
      (try simp only [Exit.inBlock, Exit.then])
      refine bodyPost_ret (v := .tuple #[tv k n s (.slice a m c), tv k5 n5 s5 (.slice a5 m5 c5)]) ?_ rfl ?_
      · refine results_cell2 (a := 2) (b := 3) (t := 29) (ad := ⟨w.heap.size, 0, none⟩) (bd := ⟨w.heap.size + 1, 0, none⟩) rfl rfl rfl _ _ ?_ ?_ <;> go_simp
      · exact HF.out _ _ _ _ _ _ _ _)
  | false =>
    obtain ⟨_, _, q2, q3, ta, tb, hbw⟩ := HK.out _ (grown_refl w5 (some W3.heap.size))
    have HF := Lib.hid (two_fin2 ta tb HW.out.1 (by have := HW.out.2; omega) hbw)
    obtain ⟨⟨z0, z1, z2, z3⟩, y0, y1, y2, y3⟩ := cells_of4 q2
    obtain ⟨⟨x0, x1, x2, x3⟩, f0, f1, f2, f3⟩ := cells_of4 q3
    clear q2 q3 ta tb hbw
    have hn1 : w1.heap.size ≠ w.heap.size := by have := HZ3.out; omega
    have hn2 : w1.heap.size + 1 ≠ w.heap.size := by have := HZ3.out; omega
    have hn3 : w1.heap.size ≠ w.heap.size + 1 := by have := HZ3.out; omega
    have hn4 : w1.heap.size + 1 ≠ w.heap.size + 1 := by have := HZ3.out; omega
    have hn5 : w.heap.size ≠ w1.heap.size := by have := HZ3.out; omega
    have hn6 : w.heap.size ≠ w1.heap.size + 1 := by have := HZ3.out; omega
    have hn7 : w.heap.size + 1 ≠ w1.heap.size := by have := HZ3.out; omega
    have hn8 : w.heap.size + 1 ≠ w1.heap.size + 1 := by have := HZ3.out; omega
    go_wp2
    go_region
    all_goals (
      go_wp2
      (try simp only [Exit.inBlock, Exit.then])
      refine bodyPost_ret (v := .tuple #[tv k n s (.slice a m c), tv k2 n2 s2 (.slice a2 m2 c2)]) ?_ rfl ?_
      · refine results_cell2 (a := 2) (b := 3) (t := 29) (ad := ⟨w.heap.size, 0, none⟩) (bd := ⟨w.heap.size + 1, 0, none⟩) rfl rfl rfl _ _ ?_ ?_ <;> go_simp
      · exact drawn_drew (HF.out _ _ _ _ _ _ _ _))
end Go.Proofs.Yteelakhaaipebaa
