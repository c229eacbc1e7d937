/-
  The law on FormatTerm answers true at every term.
-/
import Derived.Test.YtooiiomfahomjaaDoorTextI
import Derived.Test.YtooiiomfahomjaaDoorTermSz
import Derived.Test.YtooiiomfahomjaaDoorTermTo
import Derived.Test.YtooiiomfahomjaaDoorTermEq
import Derived.Test.YtooiiomfahomjaaDoorBoxL
import Derived.Deep.RegionHeld3
namespace Go.Proofs.YtooiiomfahomjaaDoor
open Go.RowKit

set_option maxRecDepth 100000 in
set_option maxHeartbeats 1600000 in
theorem exFmtT_any (v : Value) (t : T) (h : Nat) (w : World) (ht : TermAt w 0 h v t) (hp : PowTab w) (hs : 0 < w.heap.size) :
    Calls Tryd.prog 4 #[v] w (TrueEnd w) := by
  obtain ⟨k0, n0, s0, u0, rfl⟩ := ht.form
  have HB0 := Lib.hid (boxedL_below w k0 n0 s0 u0)
  have HT := Lib.hid (ht.below HB0.out); clear ht
  have HP := Lib.hid (And.intro hp hs); clear hp hs
  have HQ : Hid (∀ w', Below (boxedL w k0 n0 s0 u0).heap.size (boxedL w k0 n0 s0 u0) w' → TermAt w' 0 h (tv k0 n0 s0 u0) t) := Lib.hid (fun w' hb => HT.out.below hb)
  go_enter Tryd.func4, Tryd.ntmps4
  go_wp2_with fail
  refine (szT_any _ t 0 h 1048576 _ HT.out (by omega) (by omega)).mono ?_
  rintro e w1 ⟨r, rfl, hb1, hr1, hr2⟩
  have HB1 := Lib.hid hb1; clear hb1
  have HR := Lib.hid hr2; clear hr2
  by_cases hr : r < 0
  · go_wp2
    go_ret
    exact ⟨rfl, HB0.out.trans (HB1.out.mono HB0.out.size)⟩
  · have HW : Hid (wT t ≤ 1048576) := Lib.hid (by have := HR.out (by omega); omega)
    obtain ⟨c0, c1, c2, c3⟩ := boxedL_cells HB1.out
    go_wp2_with fail
    refine (toT_any _ t 0 h _ (HQ.out _ HB1.out) HW.out).mono ?_
    rintro e w2 ⟨v1, rfl, ht1, hb2⟩
    have HV1 := Lib.hid ht1; clear ht1
    have HB2 := Lib.hid (HB1.out.trans (hb2.mono HB1.out.size)); clear hb2 c0 c1 c2 c3
    go_wp2_with fail
    refine (sFmtT_any v1 t _ h _ HV1.out HW.out).mono ?_
    rintro e w3 ⟨rfl, hb3⟩
    have HB3 := Lib.hid (HB2.out.trans (hb3.mono HB2.out.size)); clear hb3
    obtain ⟨c0, c1, c2, c3⟩ := boxedL_cells HB3.out
    go_wp2_with fail
    refine (toT_any _ t 0 h _ (HQ.out _ HB3.out) HW.out).mono ?_
    rintro e w4 ⟨v2, rfl, ht2, hb4⟩
    obtain ⟨k2, n2, s2, a2, m2, cap2, rfl⟩ := ht2.shape
    have HB4 := Lib.hid (HB3.out.trans (hb4.mono HB3.out.size)); clear hb4 c0 c1 c2 c3
    have HX := Lib.hid (ht2.below (boxed_below w4 k2 n2 s2 (.slice a2 m2 cap2))); clear ht2
    have HB4b := Lib.hid (HB4.out.trans ((boxed_below w4 k2 n2 s2 (.slice a2 m2 cap2)).mono HB4.out.size))
    go_wp2_with fail
    refine (iFmtT_any _ t _ h _ HX.out HW.out (HP.out.1.below (HB0.out.trans (HB4b.out.mono HB0.out.size)) HP.out.2) (Nat.lt_of_lt_of_le HP.out.2 (HB0.out.trans (HB4b.out.mono HB0.out.size)).size)).mono ?_
    rintro e w5 ⟨rfl, hb5⟩
    have hq : ((fmtT t).toList == (fmtT t).toList) = true := by simp
    have HB5 := Lib.hid (HB4b.out.trans (hb5.mono HB4b.out.size))
    have HX5 := Lib.hid (HX.out.below hb5)
    have h8 : ∀ w', Below w5.heap.size w5 w' → (w'.cell? ⟨w4.heap.size, 0, none⟩ = some (.int .i64 k2) ∧ w'.cell? ⟨w4.heap.size, 1, none⟩ = some (.int .i64 n2) ∧ w'.cell? ⟨w4.heap.size, 2, none⟩ = some (.string s2) ∧ w'.cell? ⟨w4.heap.size, 3, none⟩ = some (.slice a2 m2 cap2) ∧
        w'.cell? ⟨w.heap.size, 0, none⟩ = some (.int .i64 k0) ∧ w'.cell? ⟨w.heap.size, 1, none⟩ = some (.int .i64 n0) ∧ w'.cell? ⟨w.heap.size, 2, none⟩ = some (.string s0) ∧ w'.cell? ⟨w.heap.size, 3, none⟩ = some u0 ∧ Below w5.heap.size w5 w') := by
      intro w' hb
      obtain ⟨p0, p1, p2, p3⟩ := boxed_cells hb5
      obtain ⟨b0, b1, b2, b3⟩ := boxedL_cells HB5.out
      exact ⟨cell_on hb p0, cell_on hb p1, cell_on hb p2, cell_on hb p3, cell_on hb b0, cell_on hb b1, cell_on hb b2, cell_on hb b3, hb⟩
    have HK := Lib.hid h8; clear h8 hb5
    obtain ⟨p0, p1, p2, p3, b0, b1, b2, b3, hb0⟩ := HK.out _ (Below.refl _ _)
    have HT5 : Hid (∀ w', Below w5.heap.size w5 w' → TermAt w' 0 h (tv k0 n0 s0 u0) t) := Lib.hid (fun w' hb => (HQ.out _ HB5.out).below hb)
    have HX6 : Hid (∀ w', Below w5.heap.size w5 w' → TermAt w' w3.heap.size h (tv k2 n2 s2 (.slice a2 m2 cap2)) t) := Lib.hid (fun w' hb => HX5.out.below hb)
    go_wp2
    go_region_held3 (fun w' => w'.cell? ⟨w4.heap.size, 0, none⟩ = some (.int .i64 k2) ∧ w'.cell? ⟨w4.heap.size, 1, none⟩ = some (.int .i64 n2) ∧ w'.cell? ⟨w4.heap.size, 2, none⟩ = some (.string s2) ∧ w'.cell? ⟨w4.heap.size, 3, none⟩ = some (.slice a2 m2 cap2) ∧
        w'.cell? ⟨w.heap.size, 0, none⟩ = some (.int .i64 k0) ∧ w'.cell? ⟨w.heap.size, 1, none⟩ = some (.int .i64 n0) ∧ w'.cell? ⟨w.heap.size, 2, none⟩ = some (.string s0) ∧ w'.cell? ⟨w.heap.size, 3, none⟩ = some u0 ∧ Below w5.heap.size w5 w')
      (first | exact HK.out _ (by assumption) | exact HK.out _ (bel_drew (by assumption)) | exact HK.out _ (Below.drew (by assumption)) | exact HK.out _ (bel_two (bel_drew (by assumption)) (by assumption)) | go_keep)
      (first
        | (go_at_call 18; refine (toT_any _ t 0 h _ (HT5.out _ (by first | assumption | exact Below.drew (by assumption))) HW.out).mono ?_; rintro e w6 ⟨v3, rfl, ht3, hb6⟩)
        | (go_at_call 20; refine (eqT_any _ v3 t _ _ h _ (HX6.out _ (by first | assumption | exact bel_drew (by assumption) | exact Below.drew (by assumption))) (by first | exact ht3 | exact ht3.below (Below.drew (Below.refl _ _)))).mono ?_; rintro e w7 ⟨rfl, hb7⟩))
    have hb7' := HB0.out.trans ((HB5.out.trans ((bel_two (bel_drew hb6) hb7).mono HB5.out.size)).mono HB0.out.size)
    have HB7 := Lib.hid hb7'; clear hb6 hb7 hb7'
    go_wp2
    go_ret
    exact ⟨rfl, HB7.out⟩
end Go.Proofs.YtooiiomfahomjaaDoor
