/-
  The law on SortNames answers true at every list of strings.
-/
import Derived.Test.YtmnagbknmdagaaaSortS
import Derived.Test.YtmnagbknmdagaaaMarks
namespace Go.Proofs.Ytmnagbknmdagaaa
open Go.RowKit

theorem keep_above {w w' : World} {A n size : Nat} {e : TypeId} {v u : Value} {xs : List Value} (h : w.ownsRow A e size v n xs) (hA : ∀ k, u.ownBlock = some k → k < A) (hg : w.grownBy w' u.ownBlock) : w'.ownsRow A e size v n xs :=
  h.kept hg (by
    cases hv : v.ownBlock with
    | none => exact Or.inl rfl
    | some k =>
      refine Or.inr fun e2 => ?_
      have h1 := hA k e2.symm
      have h2 := (h.lt k hv).1
      omega)

set_option maxRecDepth 100000 in
set_option maxHeartbeats 1600000 in
theorem exSort_any (v : Value) (ps : List ByteArray) (w : World) (hpl : ps.length ≤ 9223372036854775807) (hps : ∀ p ∈ ps, p.size ≤ 9223372036854775807) (hv : StrsAt w v ps) :
    Calls Try.prog 8 #[v] w (TrueEnd w) := by
  have HV := Lib.hid hv; clear hv
  go_enter Try.func8, Try.ntmps8
  go_wp2_with fail
  refine (sz_any 1048576 v ps _ (by omega) (by omega) hpl hps HV.out).mono ?_
  rintro e w1 ⟨r, rfl, rfl, hr1, hr2⟩
  have HR := Lib.hid hr2; clear hr2
  by_cases hr : r < 0
  · go_wp2
    go_ret
    exact ⟨rfl, Below.refl _ _⟩
  · have hl := HR.out (by omega)
    have hl2 : ps.length + total ps ≤ 1048576 := by omega
    have HL := Lib.hid hl2
    have hn : ps.length ≤ 1048576 := by omega
    clear hl hl2
    have HM : Hid (∀ p ∈ ps, p.size ≤ maxLen) := Lib.hid (fun p hp => by have := size_of_total HL.out p hp; unfold maxLen; omega)
    go_wp2_with fail
    refine (copy_any v ps _ hn HV.out).mono ?_
    rintro e w2 ⟨v1, rfl, hown1, hb2⟩
    have HO1 := Lib.hid hown1; clear hown1
    have HB2 := Lib.hid hb2; clear hb2
    go_wp2_with fail
    refine (sSort_any v1 ps _ hn (StrsAt.of_owns HO1.out)).mono ?_
    rintro e w3 ⟨s0, r0, rfl, hs0, hl0, hown3, hb3⟩
    have HS0 := Lib.hid hs0; clear hs0
    have HW3 := Lib.hid hown3; clear hown3
    have HB3 := Lib.hid (HB2.out.trans (hb3.mono HB2.out.size)); clear hb3
    have s0low : ∀ k, s0.ownBlock = some k → k < w3.heap.size := fun k hk => (HW3.out.lt k hk).2
    have HSL := Lib.hid s0low; clear s0low
    go_wp2_with fail
    refine (copy_any v ps _ hn (HV.out.below HB3.out)).mono ?_
    rintro e w4 ⟨x0, rfl, hown4, hb4⟩
    have HX4 := Lib.hid hown4; clear hown4
    have HW4 := Lib.hid (keep_own HW3.out hb4)
    have HB4 := Lib.hid (HB3.out.trans (hb4.mono HB3.out.size))
    have hs34 := hb4.size
    have HS34 := Lib.hid hs34; clear hb4 hs34
    have x0low : ∀ k, x0.ownBlock = some k → k < w4.heap.size := fun k hk => (HX4.out.lt k hk).2
    have HXL := Lib.hid x0low; clear x0low
    go_wp2_with fail
    refine (iSort_any x0 ps _ hn HM.out (StrsAt.of_owns HX4.out)).mono ?_
    rintro e w5 ⟨g0, r1, rfl, hs1, hl1, hown5, hb5⟩
    have HS1 := Lib.hid (hs1.unique HS0.out); clear hs1
    have HG5 := Lib.hid hown5; clear hown5
    have HX5 := Lib.hid (keep_own HX4.out hb5)
    have HW5 := Lib.hid (keep_own HW4.out hb5)
    have HB5 := Lib.hid (HB4.out.trans (hb5.mono HB4.out.size)); clear hb5
    have heq : r1.map (·.data.toList) = r0.map (·.data.toList) := by rw [HS1.out]
    have HE := Lib.hid heq; clear heq
    have hn1 : r1.length ≤ 1048576 := by omega
    go_wp2_with fail
    refine (eqStrs_any g0 s0 r1 r0 _ (by omega) (StrsAt.of_owns HG5.out) (StrsAt.of_owns HW5.out) HE.out).mono ?_
    rintro e w6 ⟨rfl, q6, rfl⟩
    have HG6 := Lib.hid (keep_own HG5.out (below_q w5 q6))
    have HX6 := Lib.hid (keep_own HX5.out (below_q w5 q6))
    have HW6 := Lib.hid (keep_own HW5.out (below_q w5 q6))
    have HB6 := Lib.hid (HB5.out.trans ((below_q w5 q6).mono HB5.out.size))
    go_wp2_with fail
    refine (copy_any v ps _ hn (HV.out.below HB6.out)).mono ?_
    rintro e w7 ⟨x1, rfl, hown7, hb7⟩
    have HY7 := Lib.hid hown7; clear hown7
    have HG7 := Lib.hid (keep_own HG6.out hb7)
    have HX7 := Lib.hid (keep_own HX6.out hb7)
    have HW7 := Lib.hid (keep_own HW6.out hb7)
    have HB7 := Lib.hid (HB6.out.trans (hb7.mono HB6.out.size)); clear hb7
    go_wp2_with fail
    refine (eqStrs_any x0 x1 ps ps _ (by omega) (StrsAt.of_owns HX7.out) (StrsAt.of_owns HY7.out) rfl).mono ?_
    rintro e w8 ⟨rfl, q8, rfl⟩
    have HG8 := Lib.hid (keep_own HG7.out (below_q w7 q8))
    have HX8 := Lib.hid (keep_own HX7.out (below_q w7 q8))
    have HW8 := Lib.hid (keep_own HW7.out (below_q w7 q8))
    have HB8 := Lib.hid (HB7.out.trans ((below_q w7 q8).mono HB7.out.size))
    go_wp2_with fail
    refine (marks_any w3.heap.size ps.length 1 x0 (ps.map Value.string) _ (by omega) (by omega) HX8.out).mono ?_
    rintro e w9 ⟨rfl, hown9, hg9⟩
    have HB9 := Lib.hid (HB8.out.grown hg9 HB8.out.size (fun k hk => Nat.le_trans HB3.out.size (HX8.out.lt k hk).1))
    have HG9 := Lib.hid (keep_above HG8.out HXL.out hg9)
    have HW9 := Lib.hid (keep_other HW8.out HSL.out HX8.out hg9); clear hg9 hown9
    have hpos : ¬ (1 : Int) + (ps.length : Int) < 0 := by omega
    go_wp2_with fail
    refine (eqStrs_any g0 s0 r1 r0 _ (by omega) (StrsAt.of_owns HG9.out) (StrsAt.of_owns HW9.out) HE.out).mono ?_
    rintro e w10 ⟨rfl, q10, rfl⟩
    have HG10 := Lib.hid (keep_own HG9.out (below_q w9 q10))
    have HW10 := Lib.hid (keep_own HW9.out (below_q w9 q10))
    have HB10 := Lib.hid (HB9.out.trans ((below_q w9 q10).mono HB9.out.size))
    go_wp2_with fail
    refine (marks_any w4.heap.size r1.length 1 g0 (r1.map Value.string) _ (by omega) (by omega) HG10.out).mono ?_
    rintro e w11 ⟨rfl, hown11, hg11⟩
    have HB11 := Lib.hid (HB10.out.grown hg11 HB10.out.size (fun k hk => Nat.le_trans HB4.out.size (HG10.out.lt k hk).1))
    have HG11 := Lib.hid hown11; clear hown11
    have HW11 := Lib.hid (keep_other HW10.out (fun k hk => Nat.lt_of_lt_of_le (HSL.out k hk) HS34.out) HG10.out hg11); clear hg11
    go_wp2_with fail
    refine (held_any w4.heap.size r1.length 1 g0 _ (by omega) (by omega) HG11.out).mono ?_
    rintro e w12 ⟨rfl, hb12⟩
    have HG12 := Lib.hid (keep_own HG11.out hb12)
    have HW12 := Lib.hid (keep_own HW11.out hb12)
    have HB12 := Lib.hid (HB11.out.trans (hb12.mono HB11.out.size)); clear hb12
    have hpos2 : ¬ (1 : Int) + (r1.length : Int) < 0 := by omega
    have heq2 : ((1 : Int) + (r1.length : Int) != 1 + (r1.length : Int)) = false := by simp
    go_wp2_with fail
    refine (copy_any v ps _ hn (HV.out.below HB12.out)).mono ?_
    rintro e w13 ⟨x2, rfl, hown13, hb13⟩
    have HY13 := Lib.hid hown13; clear hown13
    have HG13 := Lib.hid (keep_own HG12.out hb13)
    have HW13 := Lib.hid (keep_own HW12.out hb13)
    have HB13 := Lib.hid (HB12.out.trans (hb13.mono HB12.out.size)); clear hb13
    go_wp2_with fail
    refine (iSort_any x2 ps _ hn HM.out (StrsAt.of_owns HY13.out)).mono ?_
    rintro e w14 ⟨h0, r2, rfl, hs2, hl2, hown14, hb14⟩
    have HS2 := Lib.hid (hs2.unique HS0.out); clear hs2
    have HH14 := Lib.hid hown14; clear hown14
    have HG14 := Lib.hid (keep_own HG13.out hb14)
    have HW14 := Lib.hid (keep_own HW13.out hb14)
    have HB14 := Lib.hid (HB13.out.trans (hb14.mono HB13.out.size)); clear hb14
    have heqh : r2.map (·.data.toList) = r0.map (·.data.toList) := by rw [HS2.out]
    have HEH := Lib.hid heqh; clear heqh
    have hn2 : r2.length ≤ 1048576 := by omega
    go_wp2_with fail
    refine (eqStrs_any h0 s0 r2 r0 _ (by omega) (StrsAt.of_owns HH14.out) (StrsAt.of_owns HW14.out) HEH.out).mono ?_
    rintro e w15 ⟨rfl, q15, rfl⟩
    have HG15 := Lib.hid (keep_own HG14.out (below_q w14 q15))
    have HB15 := Lib.hid (HB14.out.trans ((below_q w14 q15).mono HB14.out.size))
    go_wp2_with fail
    refine (held_any w4.heap.size r1.length 1 g0 _ (by omega) (by omega) HG15.out).mono ?_
    rintro e w16 ⟨rfl, hb16⟩
    have HB16 := Lib.hid (HB15.out.trans (hb16.mono HB15.out.size)); clear hb16
    go_wp2
    go_ret
    exact ⟨rfl, HB16.out⟩
end Go.Proofs.Ytmnagbknmdagaaa
