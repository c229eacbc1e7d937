/-
  The laws on EqualTerm and CompareTerms answer true at every two terms, once these functions answer as their models do.
-/
import Derived.Test.YtbechogdijkgjaaTermLaws
namespace Go.Proofs.Ytbechogdijkgjaa
open Go.RowKit

abbrev boxedL2 (w : World) (k n : Int) (s : ByteArray) (u : Value) (k' n' : Int) (s' : ByteArray) (u' : Value) : World := boxedL (boxedL w k n s u) k' n' s' u'
theorem boxedL2_below (w : World) (k n : Int) (s : ByteArray) (u : Value) (k' n' : Int) (s' : ByteArray) (u' : Value) : Below w.heap.size w (boxedL2 w k n s u k' n' s' u') :=
  (boxedL_below w k n s u).trans ((boxedL_below (boxedL w k n s u) k' n' s' u').mono (by simp))
theorem boxedL2_cells {w wr : World} {k n : Int} {s : ByteArray} {u : Value} {k' n' : Int} {s' : ByteArray} {u' : Value} (hb : Below (boxedL2 w k n s u k' n' s' u').heap.size (boxedL2 w k n s u k' n' s' u') wr) :
    wr.cell? ⟨w.heap.size, 0, none⟩ = some (.int .i64 k) ∧ wr.cell? ⟨w.heap.size, 1, none⟩ = some (.int .i64 n) ∧ wr.cell? ⟨w.heap.size, 2, none⟩ = some (.string s) ∧ wr.cell? ⟨w.heap.size, 3, none⟩ = some u ∧
    wr.cell? ⟨w.heap.size + 1, 0, none⟩ = some (.int .i64 k') ∧ wr.cell? ⟨w.heap.size + 1, 1, none⟩ = some (.int .i64 n') ∧ wr.cell? ⟨w.heap.size + 1, 2, none⟩ = some (.string s') ∧ wr.cell? ⟨w.heap.size + 1, 3, none⟩ = some u' ∧
    Below (boxedL2 w k n s u k' n' s' u').heap.size (boxedL2 w k n s u k' n' s' u') wr := by
  have h1 := boxedL_cells hb
  have h0 := boxedL_cells ((boxedL_below (boxedL w k n s u) k' n' s' u').trans (hb.mono (by simp)))
  have e : (boxedL w k n s u).heap.size = w.heap.size + 1 := by simp
  rw [e] at h1
  exact ⟨h0.1, h0.2.1, h0.2.2.1, h0.2.2.2, h1.1, h1.2.1, h1.2.2.1, h1.2.2.2, hb⟩

def ImplEqualTerm : Prop := ∀ (v v' : Value) (t t' : T) (lo lo' h h' : Nat) (w : World), TermAt w lo h v t → TermAt w lo' h' v' t' → wT t ≤ 1048576 → wT t' ≤ 1048576 → Calls Try.prog 27 #[v, v'] w (fun e w' => ∃ b, AnsB b w e w' ∧ (b = true ↔ t = t'))

set_option maxRecDepth 100000 in
set_option maxHeartbeats 3200000 in
theorem exEqualTerm_of (hI : ImplEqualTerm) (v v' : Value) (t t' : T) (h h' : Nat) (w : World) (ht : TermAt w 0 h v t) (ht' : TermAt w 0 h' v' t') :
    Calls Try.prog 8 #[v, v'] w (TrueEnd w) := by
  obtain ⟨k0, n0, s0, u0, rfl⟩ := ht.form
  obtain ⟨k1, n1, s1, u1, rfl⟩ := ht'.form
  have HB0 := Lib.hid (boxedL2_below w k0 n0 s0 u0 k1 n1 s1 u1)
  have HT := Lib.hid (ht.below HB0.out); clear ht
  have HU := Lib.hid (ht'.below HB0.out); clear ht'
  have HI := Lib.hid hI; clear hI
  obtain ⟨X, hX⟩ : ∃ X, X = boxedL2 w k0 n0 s0 u0 k1 n1 s1 u1 := ⟨_, rfl⟩
  have HC : Hid (∀ w', Below X.heap.size X w' → (w'.cell? ⟨w.heap.size, 0, none⟩ = some (.int .i64 k0) ∧ w'.cell? ⟨w.heap.size, 1, none⟩ = some (.int .i64 n0) ∧ w'.cell? ⟨w.heap.size, 2, none⟩ = some (.string s0) ∧ w'.cell? ⟨w.heap.size, 3, none⟩ = some (u0) ∧ w'.cell? ⟨w.heap.size + 1, 0, none⟩ = some (.int .i64 k1) ∧ w'.cell? ⟨w.heap.size + 1, 1, none⟩ = some (.int .i64 n1) ∧ w'.cell? ⟨w.heap.size + 1, 2, none⟩ = some (.string s1) ∧ w'.cell? ⟨w.heap.size + 1, 3, none⟩ = some (u1) ∧ Below X.heap.size X w')) := Lib.hid (by
    intro w' hb; rw [hX] at hb ⊢; exact boxedL2_cells hb)
  rw [← hX] at HB0 HT HU
  go_enter Try.func8, Try.ntmps8
  go_wp2_with fail
  have hX2 : X = (w.alloc (.cells #[.int .i64 k0, .int .i64 n0, .string s0, u0] 40)).alloc (.cells #[.int .i64 k1, .int .i64 n1, .string s1, u1] 40) := hX
  rw [← hX2]
  clear hX hX2
  refine (szT_any _ t 0 h 1048576 _ HT.out (by omega) (by omega)).mono ?_
  rintro e w1 ⟨r, rfl, hb1, hr1, hr2⟩
  have HR := Lib.hid hr2; clear hr2
  obtain ⟨c0, c1, c2, c3, d0, d1, d2, d3, hb1⟩ := HC.out w1 hb1
  have HB1 := Lib.hid hb1; clear hb1
  by_cases hr : r < 0
  · go_wp2
    go_ret
    exact ⟨rfl, bel_two HB0.out HB1.out⟩
  have HW : Hid (wT t ≤ 1048576) := Lib.hid (by have := HR.out (by omega); omega)
  have hrl : r ≤ 1048576 := by have := HR.out (by omega); omega
  go_wp2_with fail
  refine (szT_any _ t' 0 h' r _ (HU.out.below HB1.out) (by omega) hrl).mono ?_
  rintro e w2 ⟨r2, rfl, hb2, hr21, hr22⟩
  have HR2 := Lib.hid hr22; clear hr22 c0 c1 c2 c3 d0 d1 d2 d3
  have HB2 := Lib.hid (bel_two HB1.out hb2); clear hb2
  by_cases hrr : r2 < 0
  · go_wp2
    go_ret
    exact ⟨rfl, bel_two HB0.out HB2.out⟩
  have HW2 : Hid (wT t' ≤ 1048576) := Lib.hid (by have := HR2.out (by omega); omega)
  have HK : Hid (∀ w', Below w2.heap.size w2 w' → (w'.cell? ⟨w.heap.size, 0, none⟩ = some (.int .i64 k0) ∧ w'.cell? ⟨w.heap.size, 1, none⟩ = some (.int .i64 n0) ∧ w'.cell? ⟨w.heap.size, 2, none⟩ = some (.string s0) ∧ w'.cell? ⟨w.heap.size, 3, none⟩ = some (u0) ∧ w'.cell? ⟨w.heap.size + 1, 0, none⟩ = some (.int .i64 k1) ∧ w'.cell? ⟨w.heap.size + 1, 1, none⟩ = some (.int .i64 n1) ∧ w'.cell? ⟨w.heap.size + 1, 2, none⟩ = some (.string s1) ∧ w'.cell? ⟨w.heap.size + 1, 3, none⟩ = some (u1) ∧ Below w2.heap.size w2 w')) := Lib.hid (fun w' hb => by
    obtain ⟨c0, c1, c2, c3, d0, d1, d2, d3, _⟩ := HC.out w' (bel_two HB2.out hb)
    exact ⟨c0, c1, c2, c3, d0, d1, d2, d3, hb⟩)
  have HTA : Hid (∀ w', Below w2.heap.size w2 w' → TermAt w' 0 h (tv k0 n0 s0 u0) t) := Lib.hid (fun w' hb => HT.out.below (bel_two HB2.out hb))
  have HUA : Hid (∀ w', Below w2.heap.size w2 w' → TermAt w' 0 h' (tv k1 n1 s1 u1) t') := Lib.hid (fun w' hb => HU.out.below (bel_two HB2.out hb))
  obtain ⟨c0, c1, c2, c3, d0, d1, d2, d3, hb0⟩ := HK.out _ (Below.refl _ _)
  go_wp2
  go_region_held3 (fun w' => w'.cell? ⟨w.heap.size, 0, none⟩ = some (.int .i64 k0) ∧ w'.cell? ⟨w.heap.size, 1, none⟩ = some (.int .i64 n0) ∧ w'.cell? ⟨w.heap.size, 2, none⟩ = some (.string s0) ∧ w'.cell? ⟨w.heap.size, 3, none⟩ = some (u0) ∧ w'.cell? ⟨w.heap.size + 1, 0, none⟩ = some (.int .i64 k1) ∧ w'.cell? ⟨w.heap.size + 1, 1, none⟩ = some (.int .i64 n1) ∧ w'.cell? ⟨w.heap.size + 1, 2, none⟩ = some (.string s1) ∧ w'.cell? ⟨w.heap.size + 1, 3, none⟩ = some (u1) ∧ Below w2.heap.size w2 w')
    (first | exact HK.out _ (by assumption) | exact HK.out _ (bel_drew (by assumption)) | exact HK.out _ (Below.drew (by assumption)) | exact HK.out _ (bel_two (bel_drew (by assumption)) (by assumption)) | exact HK.out _ (bel_two (bel_two (bel_drew (by assumption)) (by assumption)) (by assumption)) | go_keep)
    (first
      | (go_at_call_of 30 (Value.agg #[Value.int IntKind.i64 k0, Value.int IntKind.i64 n0, Value.string s0, u0]); refine (toT_any _ t 0 h _ (HTA.out _ (by first | assumption | exact bel_drew (by assumption) | exact Below.drew (by assumption) | exact bel_two (bel_drew (by assumption)) (by assumption) | exact bel_two (bel_drew (by assumption)) (bel_drew (by assumption)))) HW.out).mono ?_; rintro e w3 ⟨x, rfl, hx, hb3⟩)
      | (go_at_call_of 30 (Value.agg #[Value.int IntKind.i64 k1, Value.int IntKind.i64 n1, Value.string s1, u1]); refine (toT_any _ t' 0 h' _ (HUA.out _ (by first | assumption | exact bel_drew (by assumption) | exact Below.drew (by assumption) | exact bel_two (bel_drew (by assumption)) (by assumption) | exact bel_two (bel_drew (by assumption)) (bel_drew (by assumption)))) HW2.out).mono ?_; rintro e w4 ⟨y, rfl, hy, hb4⟩)
      | (go_at_call 33; refine (sSame_any _ _ h _ _ t t' _ h' (by first | exact hx | exact hx.below (by assumption) | exact hx.below (bel_drew (by assumption))) (by first | exact hy | exact hy.below (by assumption) | exact hy.below (bel_drew (by assumption))) HW.out).mono ?_; rintro e w5 ⟨q1, ⟨rfl, hb5⟩, hq1⟩; have HQ1 := Lib.hid hq1; clear hq1))
  have hb25 : Below w2.heap.size w2 w5 := bel_two (bel_two (bel_drew hb3) hb4) hb5
  have HB5 := Lib.hid (bel_two HB2.out hb25)
  have HTB := Lib.hid (fun (w' : World) (hb : Below w5.heap.size w5 w') => HTA.out w' (bel_two hb25 hb))
  have HUB := Lib.hid (fun (w' : World) (hb : Below w5.heap.size w5 w') => HUA.out w' (bel_two hb25 hb))
  have HKB := Lib.hid (fun (w' : World) (hb : Below w5.heap.size w5 w') => HK.out w' (bel_two hb25 hb))
  clear c0 c1 c2 c3 d0 d1 d2 d3 hb0 hb3 hb4 hb5 hb25 hx hy
  obtain ⟨c0, c1, c2, c3, d0, d1, d2, d3, _⟩ := HKB.out _ (Below.refl _ _)
  -- the first argument, copied
  go_wp2_with fail
  refine (toT_any _ t 0 h _ (HTB.out _ (Below.refl _ _)) HW.out).mono ?_
  rintro e w6 ⟨x0, rfl, hx0, hb6⟩
  obtain ⟨k2, n2, s2, a2, m2, cap2, rfl⟩ := hx0.shape
  have h56 : Below w5.heap.size w5 (boxed w6 k2 n2 s2 (.slice a2 m2 cap2)) := bel_two hb6 (boxed_below w6 k2 n2 s2 (.slice a2 m2 cap2))
  have HX := Lib.hid (hx0.below (boxed_below w6 k2 n2 s2 (.slice a2 m2 cap2)))
  have H56 := Lib.hid h56
  clear c0 c1 c2 c3 d0 d1 d2 d3 hx0 hb6 h56
  obtain ⟨c0, c1, c2, c3, d0, d1, d2, d3, _⟩ := HKB.out _ H56.out
  go_wp2_with fail
  refine (toT_any _ t' 0 h' _ (HUB.out _ H56.out) HW2.out).mono ?_
  rintro e w7 ⟨x1, rfl, hx1, hb7⟩
  obtain ⟨k3, n3, s3, a3, m3, cap3, rfl⟩ := hx1.shape
  have h67 : Below (boxed w6 k2 n2 s2 (.slice a2 m2 cap2)).heap.size (boxed w6 k2 n2 s2 (.slice a2 m2 cap2)) (boxed w7 k3 n3 s3 (.slice a3 m3 cap3)) := bel_two hb7 (boxed_below w7 k3 n3 s3 (.slice a3 m3 cap3))
  have HX7 := Lib.hid (HX.out.below h67)
  have HY7 := Lib.hid (hx1.below (boxed_below w7 k3 n3 s3 (.slice a3 m3 cap3)))
  have H67 := Lib.hid h67
  have H57 := Lib.hid (bel_two H56.out h67)
  clear c0 c1 c2 c3 d0 d1 d2 d3 hx1 hb7 h67
  obtain ⟨e0, e1, e2, e3⟩ := boxed_cells H67.out
  obtain ⟨f0, f1, f2, f3⟩ := boxed_cells (Below.refl (boxed w7 k3 n3 s3 (.slice a3 m3 cap3)).heap.size (boxed w7 k3 n3 s3 (.slice a3 m3 cap3)))
  go_wp2_with fail
  refine (HI.out _ _ t t' _ _ h h' _ HX7.out HY7.out HW.out HW2.out).mono ?_
  rintro e w8 ⟨q2, ⟨rfl, hb8⟩, hq2⟩
  obtain ⟨t1, t2⟩ := both_eq hq2 HQ1.out
  clear hq2
  have H78 := Lib.hid hb8
  clear e0 e1 e2 e3 f0 f1 f2 f3 hb8
  have H68 := Lib.hid (bel_two H67.out H78.out)
  have H58 := Lib.hid (bel_two H57.out H78.out)
  have HX8 := Lib.hid (HX7.out.below H78.out)
  have HY8 := Lib.hid (HY7.out.below H78.out)
  -- the first argument is as it was
  have HKC : Hid (∀ w', Below w8.heap.size w8 w' → (w'.cell? ⟨w6.heap.size, 0, none⟩ = some (.int .i64 k2) ∧ w'.cell? ⟨w6.heap.size, 1, none⟩ = some (.int .i64 n2) ∧ w'.cell? ⟨w6.heap.size, 2, none⟩ = some (.string s2) ∧ w'.cell? ⟨w6.heap.size, 3, none⟩ = some (.slice a2 m2 cap2) ∧ w'.cell? ⟨w.heap.size, 0, none⟩ = some (.int .i64 k0) ∧ w'.cell? ⟨w.heap.size, 1, none⟩ = some (.int .i64 n0) ∧ w'.cell? ⟨w.heap.size, 2, none⟩ = some (.string s0) ∧ w'.cell? ⟨w.heap.size, 3, none⟩ = some (u0) ∧ Below w8.heap.size w8 w')) := Lib.hid (fun w' hb => by
    obtain ⟨p0, p1, p2, p3⟩ := boxed_cells (bel_two H68.out hb)
    obtain ⟨c0, c1, c2, c3, _, _, _, _, _⟩ := HKB.out w' (bel_two H58.out hb)
    exact ⟨p0, p1, p2, p3, c0, c1, c2, c3, hb⟩)
  have HTC : Hid (∀ w', Below w8.heap.size w8 w' → TermAt w' 0 h (tv k0 n0 s0 u0) t) := Lib.hid (fun w' hb => HTB.out w' (bel_two H58.out hb))
  have HXC : Hid (∀ w', Below w8.heap.size w8 w' → TermAt w' w5.heap.size h (tv k2 n2 s2 (.slice a2 m2 cap2)) t) := Lib.hid (fun w' hb => HX8.out.below hb)
  obtain ⟨c0, c1, c2, c3, d0, d1, d2, d3, hb0⟩ := HKC.out _ (Below.refl _ _)
  go_wp2
  go_region_held3 (fun w' => w'.cell? ⟨w6.heap.size, 0, none⟩ = some (.int .i64 k2) ∧ w'.cell? ⟨w6.heap.size, 1, none⟩ = some (.int .i64 n2) ∧ w'.cell? ⟨w6.heap.size, 2, none⟩ = some (.string s2) ∧ w'.cell? ⟨w6.heap.size, 3, none⟩ = some (.slice a2 m2 cap2) ∧ w'.cell? ⟨w.heap.size, 0, none⟩ = some (.int .i64 k0) ∧ w'.cell? ⟨w.heap.size, 1, none⟩ = some (.int .i64 n0) ∧ w'.cell? ⟨w.heap.size, 2, none⟩ = some (.string s0) ∧ w'.cell? ⟨w.heap.size, 3, none⟩ = some (u0) ∧ Below w8.heap.size w8 w')
    (first | exact HKC.out _ (by assumption) | exact HKC.out _ (bel_drew (by assumption)) | exact HKC.out _ (Below.drew (by assumption)) | exact HKC.out _ (bel_two (bel_drew (by assumption)) (by assumption)) | exact HKC.out _ (bel_two (bel_two (bel_drew (by assumption)) (by assumption)) (by assumption)) | go_keep)
    (first
      | (go_at_call 30; refine (toT_any _ t 0 h _ (HTC.out _ (by first | assumption | exact bel_drew (by assumption) | exact Below.drew (by assumption) | exact bel_two (bel_drew (by assumption)) (by assumption) | exact bel_two (bel_drew (by assumption)) (bel_drew (by assumption)))) HW.out).mono ?_; rintro e w9 ⟨y0, rfl, hy0, hb9⟩)
      | (go_at_call 31; refine (eqT_any _ y0 t _ _ h _ (HXC.out _ (by first | assumption | exact bel_drew (by assumption) | exact Below.drew (by assumption) | exact bel_two (bel_drew (by assumption)) (by assumption) | exact bel_two (bel_drew (by assumption)) (bel_drew (by assumption)))) (by first | exact hy0 | exact hy0.below (Below.drew (Below.refl _ _)))).mono ?_; rintro e w10 ⟨rfl, hb10⟩))
  have H810 := Lib.hid (bel_two (bel_drew hb9) hb10)
  clear c0 c1 c2 c3 d0 d1 d2 d3 hb0 hb9 hb10 hy0
  -- the second too
  have H710 := Lib.hid (bel_two H78.out H810.out)
  have H510 := Lib.hid (bel_two H58.out H810.out)
  have HY10 := Lib.hid (HY8.out.below H810.out)
  have HKD : Hid (∀ w', Below w10.heap.size w10 w' → (w'.cell? ⟨w7.heap.size, 0, none⟩ = some (.int .i64 k3) ∧ w'.cell? ⟨w7.heap.size, 1, none⟩ = some (.int .i64 n3) ∧ w'.cell? ⟨w7.heap.size, 2, none⟩ = some (.string s3) ∧ w'.cell? ⟨w7.heap.size, 3, none⟩ = some (.slice a3 m3 cap3) ∧ w'.cell? ⟨w.heap.size + 1, 0, none⟩ = some (.int .i64 k1) ∧ w'.cell? ⟨w.heap.size + 1, 1, none⟩ = some (.int .i64 n1) ∧ w'.cell? ⟨w.heap.size + 1, 2, none⟩ = some (.string s1) ∧ w'.cell? ⟨w.heap.size + 1, 3, none⟩ = some (u1) ∧ Below w10.heap.size w10 w')) := Lib.hid (fun w' hb => by
    obtain ⟨p0, p1, p2, p3⟩ := boxed_cells (bel_two H710.out hb)
    obtain ⟨_, _, _, _, c0, c1, c2, c3, _⟩ := HKB.out w' (bel_two H510.out hb)
    exact ⟨p0, p1, p2, p3, c0, c1, c2, c3, hb⟩)
  have HTD : Hid (∀ w', Below w10.heap.size w10 w' → TermAt w' 0 h' (tv k1 n1 s1 u1) t') := Lib.hid (fun w' hb => HUB.out w' (bel_two H510.out hb))
  have HXD : Hid (∀ w', Below w10.heap.size w10 w' → TermAt w' (boxed w6 k2 n2 s2 (.slice a2 m2 cap2)).heap.size h' (tv k3 n3 s3 (.slice a3 m3 cap3)) t') := Lib.hid (fun w' hb => HY10.out.below hb)
  obtain ⟨c0, c1, c2, c3, d0, d1, d2, d3, hb0⟩ := HKD.out _ (Below.refl _ _)
  go_wp2
  go_region_held3 (fun w' => w'.cell? ⟨w7.heap.size, 0, none⟩ = some (.int .i64 k3) ∧ w'.cell? ⟨w7.heap.size, 1, none⟩ = some (.int .i64 n3) ∧ w'.cell? ⟨w7.heap.size, 2, none⟩ = some (.string s3) ∧ w'.cell? ⟨w7.heap.size, 3, none⟩ = some (.slice a3 m3 cap3) ∧ w'.cell? ⟨w.heap.size + 1, 0, none⟩ = some (.int .i64 k1) ∧ w'.cell? ⟨w.heap.size + 1, 1, none⟩ = some (.int .i64 n1) ∧ w'.cell? ⟨w.heap.size + 1, 2, none⟩ = some (.string s1) ∧ w'.cell? ⟨w.heap.size + 1, 3, none⟩ = some (u1) ∧ Below w10.heap.size w10 w')
    (first | exact HKD.out _ (by assumption) | exact HKD.out _ (bel_drew (by assumption)) | exact HKD.out _ (Below.drew (by assumption)) | exact HKD.out _ (bel_two (bel_drew (by assumption)) (by assumption)) | exact HKD.out _ (bel_two (bel_two (bel_drew (by assumption)) (by assumption)) (by assumption)) | go_keep)
    (first
      | (go_at_call 30; refine (toT_any _ t' 0 h' _ (HTD.out _ (by first | assumption | exact bel_drew (by assumption) | exact Below.drew (by assumption) | exact bel_two (bel_drew (by assumption)) (by assumption) | exact bel_two (bel_drew (by assumption)) (bel_drew (by assumption)))) HW2.out).mono ?_; rintro e w11 ⟨y1, rfl, hy1, hb11⟩)
      | (go_at_call 31; refine (eqT_any _ y1 t' _ _ h' _ (HXD.out _ (by first | assumption | exact bel_drew (by assumption) | exact Below.drew (by assumption) | exact bel_two (bel_drew (by assumption)) (by assumption) | exact bel_two (bel_drew (by assumption)) (bel_drew (by assumption)))) (by first | exact hy1 | exact hy1.below (Below.drew (Below.refl _ _)))).mono ?_; rintro e w12 ⟨rfl, hb12⟩))
  have hfin := bel_two HB0.out (bel_two HB5.out (bel_two H510.out (bel_two (bel_drew hb11) hb12)))
  have HF := Lib.hid hfin
  clear c0 c1 c2 c3 d0 d1 d2 d3 hb0 hb11 hb12 hy1 hfin
  go_wp2
  go_ret
  exact ⟨rfl, HF.out⟩

def ImplCompareTerms : Prop := ∀ (v v' : Value) (t t' : T) (lo lo' h h' : Nat) (w : World), TermAt w lo h v t → TermAt w lo' h' v' t' → wT t ≤ 1048576 → wT t' ≤ 1048576 → Calls Try.prog 25 #[v, v'] w (NumB (cmpT t t') w)

set_option maxRecDepth 100000 in
set_option maxHeartbeats 3200000 in
theorem exCompareTerms_of (hI : ImplCompareTerms) (v v' : Value) (t t' : T) (h h' : Nat) (w : World) (ht : TermAt w 0 h v t) (ht' : TermAt w 0 h' v' t') :
    Calls Try.prog 11 #[v, v'] w (TrueEnd w) := by
  obtain ⟨k0, n0, s0, u0, rfl⟩ := ht.form
  obtain ⟨k1, n1, s1, u1, rfl⟩ := ht'.form
  have HB0 := Lib.hid (boxedL2_below w k0 n0 s0 u0 k1 n1 s1 u1)
  have HT := Lib.hid (ht.below HB0.out); clear ht
  have HU := Lib.hid (ht'.below HB0.out); clear ht'
  have HI := Lib.hid hI; clear hI
  obtain ⟨X, hX⟩ : ∃ X, X = boxedL2 w k0 n0 s0 u0 k1 n1 s1 u1 := ⟨_, rfl⟩
  have HC : Hid (∀ w', Below X.heap.size X w' → (w'.cell? ⟨w.heap.size, 0, none⟩ = some (.int .i64 k0) ∧ w'.cell? ⟨w.heap.size, 1, none⟩ = some (.int .i64 n0) ∧ w'.cell? ⟨w.heap.size, 2, none⟩ = some (.string s0) ∧ w'.cell? ⟨w.heap.size, 3, none⟩ = some (u0) ∧ w'.cell? ⟨w.heap.size + 1, 0, none⟩ = some (.int .i64 k1) ∧ w'.cell? ⟨w.heap.size + 1, 1, none⟩ = some (.int .i64 n1) ∧ w'.cell? ⟨w.heap.size + 1, 2, none⟩ = some (.string s1) ∧ w'.cell? ⟨w.heap.size + 1, 3, none⟩ = some (u1) ∧ Below X.heap.size X w')) := Lib.hid (by
    intro w' hb; rw [hX] at hb ⊢; exact boxedL2_cells hb)
  rw [← hX] at HB0 HT HU
  go_enter Try.func11, Try.ntmps11
  go_wp2_with fail
  have hX2 : X = (w.alloc (.cells #[.int .i64 k0, .int .i64 n0, .string s0, u0] 40)).alloc (.cells #[.int .i64 k1, .int .i64 n1, .string s1, u1] 40) := hX
  rw [← hX2]
  clear hX hX2
  refine (szT_any _ t 0 h 1048576 _ HT.out (by omega) (by omega)).mono ?_
  rintro e w1 ⟨r, rfl, hb1, hr1, hr2⟩
  have HR := Lib.hid hr2; clear hr2
  obtain ⟨c0, c1, c2, c3, d0, d1, d2, d3, hb1⟩ := HC.out w1 hb1
  have HB1 := Lib.hid hb1; clear hb1
  by_cases hr : r < 0
  · go_wp2
    go_ret
    exact ⟨rfl, bel_two HB0.out HB1.out⟩
  have HW : Hid (wT t ≤ 1048576) := Lib.hid (by have := HR.out (by omega); omega)
  have hrl : r ≤ 1048576 := by have := HR.out (by omega); omega
  go_wp2_with fail
  refine (szT_any _ t' 0 h' r _ (HU.out.below HB1.out) (by omega) hrl).mono ?_
  rintro e w2 ⟨r2, rfl, hb2, hr21, hr22⟩
  have HR2 := Lib.hid hr22; clear hr22 c0 c1 c2 c3 d0 d1 d2 d3
  have HB2 := Lib.hid (bel_two HB1.out hb2); clear hb2
  by_cases hrr : r2 < 0
  · go_wp2
    go_ret
    exact ⟨rfl, bel_two HB0.out HB2.out⟩
  have HW2 : Hid (wT t' ≤ 1048576) := Lib.hid (by have := HR2.out (by omega); omega)
  have HK : Hid (∀ w', Below w2.heap.size w2 w' → (w'.cell? ⟨w.heap.size, 0, none⟩ = some (.int .i64 k0) ∧ w'.cell? ⟨w.heap.size, 1, none⟩ = some (.int .i64 n0) ∧ w'.cell? ⟨w.heap.size, 2, none⟩ = some (.string s0) ∧ w'.cell? ⟨w.heap.size, 3, none⟩ = some (u0) ∧ w'.cell? ⟨w.heap.size + 1, 0, none⟩ = some (.int .i64 k1) ∧ w'.cell? ⟨w.heap.size + 1, 1, none⟩ = some (.int .i64 n1) ∧ w'.cell? ⟨w.heap.size + 1, 2, none⟩ = some (.string s1) ∧ w'.cell? ⟨w.heap.size + 1, 3, none⟩ = some (u1) ∧ Below w2.heap.size w2 w')) := Lib.hid (fun w' hb => by
    obtain ⟨c0, c1, c2, c3, d0, d1, d2, d3, _⟩ := HC.out w' (bel_two HB2.out hb)
    exact ⟨c0, c1, c2, c3, d0, d1, d2, d3, hb⟩)
  have HTA : Hid (∀ w', Below w2.heap.size w2 w' → TermAt w' 0 h (tv k0 n0 s0 u0) t) := Lib.hid (fun w' hb => HT.out.below (bel_two HB2.out hb))
  have HUA : Hid (∀ w', Below w2.heap.size w2 w' → TermAt w' 0 h' (tv k1 n1 s1 u1) t') := Lib.hid (fun w' hb => HU.out.below (bel_two HB2.out hb))
  obtain ⟨c0, c1, c2, c3, d0, d1, d2, d3, hb0⟩ := HK.out _ (Below.refl _ _)
  go_wp2
  go_region_held3 (fun w' => w'.cell? ⟨w.heap.size, 0, none⟩ = some (.int .i64 k0) ∧ w'.cell? ⟨w.heap.size, 1, none⟩ = some (.int .i64 n0) ∧ w'.cell? ⟨w.heap.size, 2, none⟩ = some (.string s0) ∧ w'.cell? ⟨w.heap.size, 3, none⟩ = some (u0) ∧ w'.cell? ⟨w.heap.size + 1, 0, none⟩ = some (.int .i64 k1) ∧ w'.cell? ⟨w.heap.size + 1, 1, none⟩ = some (.int .i64 n1) ∧ w'.cell? ⟨w.heap.size + 1, 2, none⟩ = some (.string s1) ∧ w'.cell? ⟨w.heap.size + 1, 3, none⟩ = some (u1) ∧ Below w2.heap.size w2 w')
    (first | exact HK.out _ (by assumption) | exact HK.out _ (bel_drew (by assumption)) | exact HK.out _ (Below.drew (by assumption)) | exact HK.out _ (bel_two (bel_drew (by assumption)) (by assumption)) | exact HK.out _ (bel_two (bel_two (bel_drew (by assumption)) (by assumption)) (by assumption)) | go_keep)
    (first
      | (go_at_call_of 30 (Value.agg #[Value.int IntKind.i64 k0, Value.int IntKind.i64 n0, Value.string s0, u0]); refine (toT_any _ t 0 h _ (HTA.out _ (by first | assumption | exact bel_drew (by assumption) | exact Below.drew (by assumption) | exact bel_two (bel_drew (by assumption)) (by assumption) | exact bel_two (bel_drew (by assumption)) (bel_drew (by assumption)))) HW.out).mono ?_; rintro e w3 ⟨x, rfl, hx, hb3⟩)
      | (go_at_call_of 30 (Value.agg #[Value.int IntKind.i64 k1, Value.int IntKind.i64 n1, Value.string s1, u1]); refine (toT_any _ t' 0 h' _ (HUA.out _ (by first | assumption | exact bel_drew (by assumption) | exact Below.drew (by assumption) | exact bel_two (bel_drew (by assumption)) (by assumption) | exact bel_two (bel_drew (by assumption)) (bel_drew (by assumption)))) HW2.out).mono ?_; rintro e w4 ⟨y, rfl, hy, hb4⟩)
      | (go_at_call 26; refine (sCmp_any _ _ h _ _ t t' _ h' (by first | exact hx | exact hx.below (by assumption) | exact hx.below (bel_drew (by assumption))) (by first | exact hy | exact hy.below (by assumption) | exact hy.below (bel_drew (by assumption))) HW.out HW2.out).mono ?_; rintro e w5 ⟨rfl, hb5⟩))
  have hb25 : Below w2.heap.size w2 w5 := bel_two (bel_two (bel_drew hb3) hb4) hb5
  have HB5 := Lib.hid (bel_two HB2.out hb25)
  have HTB := Lib.hid (fun (w' : World) (hb : Below w5.heap.size w5 w') => HTA.out w' (bel_two hb25 hb))
  have HUB := Lib.hid (fun (w' : World) (hb : Below w5.heap.size w5 w') => HUA.out w' (bel_two hb25 hb))
  have HKB := Lib.hid (fun (w' : World) (hb : Below w5.heap.size w5 w') => HK.out w' (bel_two hb25 hb))
  clear c0 c1 c2 c3 d0 d1 d2 d3 hb0 hb3 hb4 hb5 hb25 hx hy
  obtain ⟨c0, c1, c2, c3, d0, d1, d2, d3, _⟩ := HKB.out _ (Below.refl _ _)
  -- the first argument, copied
  go_wp2_with fail
  refine (toT_any _ t 0 h _ (HTB.out _ (Below.refl _ _)) HW.out).mono ?_
  rintro e w6 ⟨x0, rfl, hx0, hb6⟩
  obtain ⟨k2, n2, s2, a2, m2, cap2, rfl⟩ := hx0.shape
  have h56 : Below w5.heap.size w5 (boxed w6 k2 n2 s2 (.slice a2 m2 cap2)) := bel_two hb6 (boxed_below w6 k2 n2 s2 (.slice a2 m2 cap2))
  have HX := Lib.hid (hx0.below (boxed_below w6 k2 n2 s2 (.slice a2 m2 cap2)))
  have H56 := Lib.hid h56
  clear c0 c1 c2 c3 d0 d1 d2 d3 hx0 hb6 h56
  obtain ⟨c0, c1, c2, c3, d0, d1, d2, d3, _⟩ := HKB.out _ H56.out
  go_wp2_with fail
  refine (toT_any _ t' 0 h' _ (HUB.out _ H56.out) HW2.out).mono ?_
  rintro e w7 ⟨x1, rfl, hx1, hb7⟩
  obtain ⟨k3, n3, s3, a3, m3, cap3, rfl⟩ := hx1.shape
  have h67 : Below (boxed w6 k2 n2 s2 (.slice a2 m2 cap2)).heap.size (boxed w6 k2 n2 s2 (.slice a2 m2 cap2)) (boxed w7 k3 n3 s3 (.slice a3 m3 cap3)) := bel_two hb7 (boxed_below w7 k3 n3 s3 (.slice a3 m3 cap3))
  have HX7 := Lib.hid (HX.out.below h67)
  have HY7 := Lib.hid (hx1.below (boxed_below w7 k3 n3 s3 (.slice a3 m3 cap3)))
  have H67 := Lib.hid h67
  have H57 := Lib.hid (bel_two H56.out h67)
  clear c0 c1 c2 c3 d0 d1 d2 d3 hx1 hb7 h67
  obtain ⟨e0, e1, e2, e3⟩ := boxed_cells H67.out
  obtain ⟨f0, f1, f2, f3⟩ := boxed_cells (Below.refl (boxed w7 k3 n3 s3 (.slice a3 m3 cap3)).heap.size (boxed w7 k3 n3 s3 (.slice a3 m3 cap3)))
  go_wp2_with fail
  refine (HI.out _ _ t t' _ _ h h' _ HX7.out HY7.out HW.out HW2.out).mono ?_
  rintro e w8 ⟨rfl, hb8⟩
  have hq : (cmpT t t' != cmpT t t') = false := by simp
  have H78 := Lib.hid hb8
  clear e0 e1 e2 e3 f0 f1 f2 f3 hb8
  have H68 := Lib.hid (bel_two H67.out H78.out)
  have H58 := Lib.hid (bel_two H57.out H78.out)
  have HX8 := Lib.hid (HX7.out.below H78.out)
  have HY8 := Lib.hid (HY7.out.below H78.out)
  -- the first argument is as it was
  have HKC : Hid (∀ w', Below w8.heap.size w8 w' → (w'.cell? ⟨w6.heap.size, 0, none⟩ = some (.int .i64 k2) ∧ w'.cell? ⟨w6.heap.size, 1, none⟩ = some (.int .i64 n2) ∧ w'.cell? ⟨w6.heap.size, 2, none⟩ = some (.string s2) ∧ w'.cell? ⟨w6.heap.size, 3, none⟩ = some (.slice a2 m2 cap2) ∧ w'.cell? ⟨w.heap.size, 0, none⟩ = some (.int .i64 k0) ∧ w'.cell? ⟨w.heap.size, 1, none⟩ = some (.int .i64 n0) ∧ w'.cell? ⟨w.heap.size, 2, none⟩ = some (.string s0) ∧ w'.cell? ⟨w.heap.size, 3, none⟩ = some (u0) ∧ Below w8.heap.size w8 w')) := Lib.hid (fun w' hb => by
    obtain ⟨p0, p1, p2, p3⟩ := boxed_cells (bel_two H68.out hb)
    obtain ⟨c0, c1, c2, c3, _, _, _, _, _⟩ := HKB.out w' (bel_two H58.out hb)
    exact ⟨p0, p1, p2, p3, c0, c1, c2, c3, hb⟩)
  have HTC : Hid (∀ w', Below w8.heap.size w8 w' → TermAt w' 0 h (tv k0 n0 s0 u0) t) := Lib.hid (fun w' hb => HTB.out w' (bel_two H58.out hb))
  have HXC : Hid (∀ w', Below w8.heap.size w8 w' → TermAt w' w5.heap.size h (tv k2 n2 s2 (.slice a2 m2 cap2)) t) := Lib.hid (fun w' hb => HX8.out.below hb)
  obtain ⟨c0, c1, c2, c3, d0, d1, d2, d3, hb0⟩ := HKC.out _ (Below.refl _ _)
  go_wp2
  go_region_held3 (fun w' => w'.cell? ⟨w6.heap.size, 0, none⟩ = some (.int .i64 k2) ∧ w'.cell? ⟨w6.heap.size, 1, none⟩ = some (.int .i64 n2) ∧ w'.cell? ⟨w6.heap.size, 2, none⟩ = some (.string s2) ∧ w'.cell? ⟨w6.heap.size, 3, none⟩ = some (.slice a2 m2 cap2) ∧ w'.cell? ⟨w.heap.size, 0, none⟩ = some (.int .i64 k0) ∧ w'.cell? ⟨w.heap.size, 1, none⟩ = some (.int .i64 n0) ∧ w'.cell? ⟨w.heap.size, 2, none⟩ = some (.string s0) ∧ w'.cell? ⟨w.heap.size, 3, none⟩ = some (u0) ∧ Below w8.heap.size w8 w')
    (first | exact HKC.out _ (by assumption) | exact HKC.out _ (bel_drew (by assumption)) | exact HKC.out _ (Below.drew (by assumption)) | exact HKC.out _ (bel_two (bel_drew (by assumption)) (by assumption)) | exact HKC.out _ (bel_two (bel_two (bel_drew (by assumption)) (by assumption)) (by assumption)) | go_keep)
    (first
      | (go_at_call 30; refine (toT_any _ t 0 h _ (HTC.out _ (by first | assumption | exact bel_drew (by assumption) | exact Below.drew (by assumption) | exact bel_two (bel_drew (by assumption)) (by assumption) | exact bel_two (bel_drew (by assumption)) (bel_drew (by assumption)))) HW.out).mono ?_; rintro e w9 ⟨y0, rfl, hy0, hb9⟩)
      | (go_at_call 31; refine (eqT_any _ y0 t _ _ h _ (HXC.out _ (by first | assumption | exact bel_drew (by assumption) | exact Below.drew (by assumption) | exact bel_two (bel_drew (by assumption)) (by assumption) | exact bel_two (bel_drew (by assumption)) (bel_drew (by assumption)))) (by first | exact hy0 | exact hy0.below (Below.drew (Below.refl _ _)))).mono ?_; rintro e w10 ⟨rfl, hb10⟩))
  have H810 := Lib.hid (bel_two (bel_drew hb9) hb10)
  clear c0 c1 c2 c3 d0 d1 d2 d3 hb0 hb9 hb10 hy0
  -- the second too
  have H710 := Lib.hid (bel_two H78.out H810.out)
  have H510 := Lib.hid (bel_two H58.out H810.out)
  have HY10 := Lib.hid (HY8.out.below H810.out)
  have HKD : Hid (∀ w', Below w10.heap.size w10 w' → (w'.cell? ⟨w7.heap.size, 0, none⟩ = some (.int .i64 k3) ∧ w'.cell? ⟨w7.heap.size, 1, none⟩ = some (.int .i64 n3) ∧ w'.cell? ⟨w7.heap.size, 2, none⟩ = some (.string s3) ∧ w'.cell? ⟨w7.heap.size, 3, none⟩ = some (.slice a3 m3 cap3) ∧ w'.cell? ⟨w.heap.size + 1, 0, none⟩ = some (.int .i64 k1) ∧ w'.cell? ⟨w.heap.size + 1, 1, none⟩ = some (.int .i64 n1) ∧ w'.cell? ⟨w.heap.size + 1, 2, none⟩ = some (.string s1) ∧ w'.cell? ⟨w.heap.size + 1, 3, none⟩ = some (u1) ∧ Below w10.heap.size w10 w')) := Lib.hid (fun w' hb => by
    obtain ⟨p0, p1, p2, p3⟩ := boxed_cells (bel_two H710.out hb)
    obtain ⟨_, _, _, _, c0, c1, c2, c3, _⟩ := HKB.out w' (bel_two H510.out hb)
    exact ⟨p0, p1, p2, p3, c0, c1, c2, c3, hb⟩)
  have HTD : Hid (∀ w', Below w10.heap.size w10 w' → TermAt w' 0 h' (tv k1 n1 s1 u1) t') := Lib.hid (fun w' hb => HUB.out w' (bel_two H510.out hb))
  have HXD : Hid (∀ w', Below w10.heap.size w10 w' → TermAt w' (boxed w6 k2 n2 s2 (.slice a2 m2 cap2)).heap.size h' (tv k3 n3 s3 (.slice a3 m3 cap3)) t') := Lib.hid (fun w' hb => HY10.out.below hb)
  obtain ⟨c0, c1, c2, c3, d0, d1, d2, d3, hb0⟩ := HKD.out _ (Below.refl _ _)
  go_wp2
  go_region_held3 (fun w' => w'.cell? ⟨w7.heap.size, 0, none⟩ = some (.int .i64 k3) ∧ w'.cell? ⟨w7.heap.size, 1, none⟩ = some (.int .i64 n3) ∧ w'.cell? ⟨w7.heap.size, 2, none⟩ = some (.string s3) ∧ w'.cell? ⟨w7.heap.size, 3, none⟩ = some (.slice a3 m3 cap3) ∧ w'.cell? ⟨w.heap.size + 1, 0, none⟩ = some (.int .i64 k1) ∧ w'.cell? ⟨w.heap.size + 1, 1, none⟩ = some (.int .i64 n1) ∧ w'.cell? ⟨w.heap.size + 1, 2, none⟩ = some (.string s1) ∧ w'.cell? ⟨w.heap.size + 1, 3, none⟩ = some (u1) ∧ Below w10.heap.size w10 w')
    (first | exact HKD.out _ (by assumption) | exact HKD.out _ (bel_drew (by assumption)) | exact HKD.out _ (Below.drew (by assumption)) | exact HKD.out _ (bel_two (bel_drew (by assumption)) (by assumption)) | exact HKD.out _ (bel_two (bel_two (bel_drew (by assumption)) (by assumption)) (by assumption)) | go_keep)
    (first
      | (go_at_call 30; refine (toT_any _ t' 0 h' _ (HTD.out _ (by first | assumption | exact bel_drew (by assumption) | exact Below.drew (by assumption) | exact bel_two (bel_drew (by assumption)) (by assumption) | exact bel_two (bel_drew (by assumption)) (bel_drew (by assumption)))) HW2.out).mono ?_; rintro e w11 ⟨y1, rfl, hy1, hb11⟩)
      | (go_at_call 31; refine (eqT_any _ y1 t' _ _ h' _ (HXD.out _ (by first | assumption | exact bel_drew (by assumption) | exact Below.drew (by assumption) | exact bel_two (bel_drew (by assumption)) (by assumption) | exact bel_two (bel_drew (by assumption)) (bel_drew (by assumption)))) (by first | exact hy1 | exact hy1.below (Below.drew (Below.refl _ _)))).mono ?_; rintro e w12 ⟨rfl, hb12⟩))
  have hfin := bel_two HB0.out (bel_two HB5.out (bel_two H510.out (bel_two (bel_drew hb11) hb12)))
  have HF := Lib.hid hfin
  clear c0 c1 c2 c3 d0 d1 d2 d3 hb0 hb11 hb12 hy1 hfin
  go_wp2
  go_ret
  exact ⟨rfl, HF.out⟩
end Go.Proofs.Ytbechogdijkgjaa
