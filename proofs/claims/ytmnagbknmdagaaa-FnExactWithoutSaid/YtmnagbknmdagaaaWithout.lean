/-
  The law on Without answers true at every two lists of strings.
-/
import Derived.Test.YtmnagbknmdagaaaWithoutP
import Derived.Test.YtmnagbknmdagaaaMarks
namespace Go.Proofs.Ytmnagbknmdagaaa
open Go.RowKit

theorem marks_int (B n k : Nat) (x : Int) (v : Value) (xs : List Value) (w : World) (hx : x = (k : Int)) (hk : 1 ≤ k) (hkn : (k : Int) + n ≤ 9223372036854775807) (hown : w.ownsRow B 9 1 v n xs) :
    Calls Try.prog 28 #[v, .int .i64 x] w fun e w' => e = .returned (.int .i64 (x + (n : Int))) ∧ w'.ownsRow B 9 1 v n ((marks k n).map Value.string) ∧ w.grownBy w' v.ownBlock := by
  subst hx; exact marks_any B n k v xs w hk hkn hown

set_option maxRecDepth 100000 in
set_option maxHeartbeats 3200000 in
theorem exWithout_any (v u : Value) (ps rs : List ByteArray) (w : World) (hpl : ps.length ≤ 9223372036854775807) (hps : ∀ p ∈ ps, p.size ≤ 9223372036854775807) (hv : StrsAt w v ps)
    (hrl : rs.length ≤ 9223372036854775807) (hrs : ∀ p ∈ rs, p.size ≤ 9223372036854775807) (hu : StrsAt w u rs) :
    Calls Try.prog 9 #[v, u] w (TrueEnd w) := by
  have HV := Lib.hid hv; clear hv
  have HU := Lib.hid hu; clear hu
  go_enter Try.func9, Try.ntmps9
  go_wp2_with fail
  refine (sz_any 1048576 v ps _ (by omega) (by omega) hpl hps HV.out).mono ?_
  rintro e w1 ⟨r, rfl, rfl, hr1, hr2⟩
  have HR := Lib.hid hr2; clear hr2
  by_cases hr : r < 0
  · go_wp2
    go_ret
    exact ⟨rfl, Below.refl _ _⟩
  have hl := HR.out (by omega)
  have hrb : 0 ≤ r ∧ r ≤ 1048576 := by omega
  obtain ⟨hr0, hrt⟩ := hrb
  have hl2 : ps.length + total ps ≤ 1048576 := by omega
  have HL := Lib.hid hl2
  have hn : ps.length ≤ 1048576 := by omega
  clear hl hl2
  go_wp2_with fail
  refine (sz_any r u rs _ hr0 hrt hrl hrs HU.out).mono ?_
  rintro e w1 ⟨r2, rfl, rfl, hr21, hr22⟩
  have HR2 := Lib.hid hr22; clear hr22
  by_cases hrr : r2 < 0
  · go_wp2
    go_ret
    exact ⟨rfl, Below.refl _ _⟩
  have hl := HR2.out (by omega)
  have hl2 : rs.length + total rs ≤ 1048576 := by omega
  have HL2 := Lib.hid hl2
  have hnr : rs.length ≤ 1048576 := by omega
  clear hl hl2
  have HM : Hid (∀ p ∈ ps, p.size ≤ maxLen) := Lib.hid (fun p hp => by have := size_of_total HL.out p hp; unfold maxLen; omega)
  have HM2 : Hid (∀ p ∈ rs, p.size ≤ maxLen) := Lib.hid (fun p hp => by have := size_of_total HL2.out p hp; unfold maxLen; omega)
  have hkl : (kept ps rs).length ≤ 1048576 := Nat.le_trans (kept_le ps rs) hn
  obtain ⟨ks, hks⟩ : ∃ ks, ks = kept ps rs := ⟨_, rfl⟩
  have hkl' : ks.length ≤ 1048576 := by rw [hks]; exact hkl
  have HK := Lib.hid hks; clear hks hkl
  -- the model's answer
  go_wp2_with fail
  refine (copy_any v ps _ hn HV.out).mono ?_
  rintro e w2 ⟨c1, rfl, hown1, hb2⟩
  have HC1 := Lib.hid hown1; clear hown1
  have HB2 := Lib.hid hb2; clear hb2
  go_wp2_with fail
  refine (copy_any u rs _ hnr (HU.out.below HB2.out)).mono ?_
  rintro e w3 ⟨c2, rfl, hown2, hb3⟩
  have HC2 := Lib.hid hown2; clear hown2
  have HC1b := Lib.hid (keep_own HC1.out hb3)
  have HB3 := Lib.hid (HB2.out.trans (hb3.mono HB2.out.size)); clear hb3
  go_wp2_with fail
  refine (sWithout_any c1 c2 ps rs _ hn hnr (StrsAt.of_owns HC1b.out) (StrsAt.of_owns HC2.out)).mono ?_
  rintro e w4 ⟨s0, rfl, hown4, hb4⟩
  rw [← HK.out] at hown4
  have HW4 := Lib.hid hown4; clear hown4
  have HB4 := Lib.hid (HB3.out.trans (hb4.mono HB3.out.size)); clear hb4
  have s0low : ∀ k, s0.ownBlock = some k → k < w4.heap.size := fun k hk => (HW4.out.lt k hk).2
  have HSL := Lib.hid s0low; clear s0low
  -- the arguments
  go_wp2_with fail
  refine (copy_any v ps _ hn (HV.out.below HB4.out)).mono ?_
  rintro e w5 ⟨x0, rfl, hown5, hb5⟩
  have HX5 := Lib.hid hown5; clear hown5
  have HW5 := Lib.hid (keep_own HW4.out hb5)
  have HB5 := Lib.hid (HB4.out.trans (hb5.mono HB4.out.size))
  have HS45 := Lib.hid hb5.size; clear hb5
  have x0low : ∀ k, x0.ownBlock = some k → k < w5.heap.size := fun k hk => (HX5.out.lt k hk).2
  have HXL := Lib.hid x0low; clear x0low
  go_wp2_with fail
  refine (copy_any u rs _ hnr (HU.out.below HB5.out)).mono ?_
  rintro e w6 ⟨x1, rfl, hown6, hb6⟩
  have HY6 := Lib.hid hown6; clear hown6
  have HX6 := Lib.hid (keep_own HX5.out hb6)
  have HW6 := Lib.hid (keep_own HW5.out hb6)
  have HB6 := Lib.hid (HB5.out.trans (hb6.mono HB5.out.size))
  have HS56 := Lib.hid hb6.size; clear hb6
  have x1low : ∀ k, x1.ownBlock = some k → k < w6.heap.size := fun k hk => (HY6.out.lt k hk).2
  have HYL := Lib.hid x1low; clear x1low
  go_wp2_with fail
  refine (iWithout_any x0 x1 ps rs _ hn hnr HM.out HM2.out (StrsAt.of_owns HX6.out) (StrsAt.of_owns HY6.out)).mono ?_
  rintro e w7 ⟨g0, rfl, hown7, hb7⟩
  rw [← HK.out] at hown7
  have HG7 := Lib.hid hown7; clear hown7
  have HY7 := Lib.hid (keep_own HY6.out hb7)
  have HX7 := Lib.hid (keep_own HX6.out hb7)
  have HW7 := Lib.hid (keep_own HW6.out hb7)
  have HB7 := Lib.hid (HB6.out.trans (hb7.mono HB6.out.size)); clear hb7
  go_wp2_with fail
  refine (eqStrs_any g0 s0 ks ks _ (by omega) (StrsAt.of_owns HG7.out) (StrsAt.of_owns HW7.out) rfl).mono ?_
  rintro e w8 ⟨rfl, q8, rfl⟩
  have HG8 := Lib.hid (keep_own HG7.out (below_q w7 q8))
  have HY8 := Lib.hid (keep_own HY7.out (below_q w7 q8))
  have HX8 := Lib.hid (keep_own HX7.out (below_q w7 q8))
  have HW8 := Lib.hid (keep_own HW7.out (below_q w7 q8))
  have HB8 := Lib.hid (HB7.out.trans ((below_q w7 q8).mono HB7.out.size))
  -- the arguments are as they were
  go_wp2_with fail
  refine (copy_any v ps _ hn (HV.out.below HB8.out)).mono ?_
  rintro e w9 ⟨y0, rfl, hown9, hb9⟩
  have HZ9 := Lib.hid hown9; clear hown9
  have HG9 := Lib.hid (keep_own HG8.out hb9)
  have HY9 := Lib.hid (keep_own HY8.out hb9)
  have HX9 := Lib.hid (keep_own HX8.out hb9)
  have HW9 := Lib.hid (keep_own HW8.out hb9)
  have HB9 := Lib.hid (HB8.out.trans (hb9.mono HB8.out.size)); clear hb9
  go_wp2_with fail
  refine (eqStrs_any x0 y0 ps ps _ (by omega) (StrsAt.of_owns HX9.out) (StrsAt.of_owns HZ9.out) rfl).mono ?_
  rintro e w10 ⟨rfl, q10, rfl⟩
  have HG10 := Lib.hid (keep_own HG9.out (below_q w9 q10))
  have HY10 := Lib.hid (keep_own HY9.out (below_q w9 q10))
  have HX10 := Lib.hid (keep_own HX9.out (below_q w9 q10))
  have HW10 := Lib.hid (keep_own HW9.out (below_q w9 q10))
  have HB10 := Lib.hid (HB9.out.trans ((below_q w9 q10).mono HB9.out.size))
  go_wp2_with fail
  refine (copy_any u rs _ hnr (HU.out.below HB10.out)).mono ?_
  rintro e w11 ⟨y1, rfl, hown11, hb11⟩
  have HZ11 := Lib.hid hown11; clear hown11
  have HG11 := Lib.hid (keep_own HG10.out hb11)
  have HY11 := Lib.hid (keep_own HY10.out hb11)
  have HX11 := Lib.hid (keep_own HX10.out hb11)
  have HW11 := Lib.hid (keep_own HW10.out hb11)
  have HB11 := Lib.hid (HB10.out.trans (hb11.mono HB10.out.size)); clear hb11
  go_wp2_with fail
  refine (eqStrs_any x1 y1 rs rs _ (by omega) (StrsAt.of_owns HY11.out) (StrsAt.of_owns HZ11.out) rfl).mono ?_
  rintro e w12 ⟨rfl, q12, rfl⟩
  have HG12 := Lib.hid (keep_own HG11.out (below_q w11 q12))
  have HY12 := Lib.hid (keep_own HY11.out (below_q w11 q12))
  have HX12 := Lib.hid (keep_own HX11.out (below_q w11 q12))
  have HW12 := Lib.hid (keep_own HW11.out (below_q w11 q12))
  have HB12 := Lib.hid (HB11.out.trans ((below_q w11 q12).mono HB11.out.size))
  -- the arguments are written over
  go_wp2_with fail
  refine (marks_int w4.heap.size ps.length 1 1 x0 (ps.map Value.string) _ rfl (by omega) (by omega) HX12.out).mono ?_
  rintro e w13 ⟨rfl, hown13, hg13⟩
  have HB13 := Lib.hid (HB12.out.grown hg13 HB12.out.size (fun k hk => Nat.le_trans HB4.out.size (HX12.out.lt k hk).1))
  have HG13 := Lib.hid (keep_above HG12.out (fun k hk => Nat.lt_of_lt_of_le (HXL.out k hk) HS56.out) hg13)
  have HY13 := Lib.hid (keep_above HY12.out HXL.out hg13)
  have HW13 := Lib.hid (keep_other HW12.out HSL.out HX12.out hg13); clear hg13 hown13
  go_wp2_with fail
  refine (marks_int w5.heap.size rs.length (1 + ps.length) (1 + (ps.length : Int)) x1 (rs.map Value.string) _ (by omega) (by omega) (by omega) HY13.out).mono ?_
  rintro e w14 ⟨rfl, hown14, hg14⟩
  have HB14 := Lib.hid (HB13.out.grown hg14 HB13.out.size (fun k hk => Nat.le_trans HB5.out.size (HY13.out.lt k hk).1))
  have HG14 := Lib.hid (keep_above HG13.out HYL.out hg14)
  have HW14 := Lib.hid (keep_other HW13.out (fun k hk => Nat.lt_of_lt_of_le (HSL.out k hk) HS45.out) HY13.out hg14); clear hg14 hown14
  have hpos : ¬ (1 : Int) + (ps.length : Int) + (rs.length : Int) < 0 := by omega
  go_wp2_with fail
  refine (eqStrs_any g0 s0 ks ks _ (by omega) (StrsAt.of_owns HG14.out) (StrsAt.of_owns HW14.out) rfl).mono ?_
  rintro e w15 ⟨rfl, q15, rfl⟩
  have HG15 := Lib.hid (keep_own HG14.out (below_q w14 q15))
  have HW15 := Lib.hid (keep_own HW14.out (below_q w14 q15))
  have HB15 := Lib.hid (HB14.out.trans ((below_q w14 q15).mono HB14.out.size))
  go_wp2_with fail
  refine (marks_any w6.heap.size ks.length 1 g0 (ks.map Value.string) _ (by omega) (by omega) HG15.out).mono ?_
  rintro e w16 ⟨rfl, hown16, hg16⟩
  have HB16 := Lib.hid (HB15.out.grown hg16 HB15.out.size (fun k hk => Nat.le_trans HB6.out.size (HG15.out.lt k hk).1))
  have HG16 := Lib.hid hown16; clear hown16
  have HW16 := Lib.hid (keep_other HW15.out (fun k hk => Nat.lt_of_lt_of_le (HSL.out k hk) (Nat.le_trans HS45.out HS56.out)) HG15.out hg16); clear hg16
  go_wp2_with fail
  refine (held_any w6.heap.size ks.length 1 g0 _ (by omega) (by omega) HG16.out).mono ?_
  rintro e w17 ⟨rfl, hb17⟩
  have HG17 := Lib.hid (keep_own HG16.out hb17)
  have HW17 := Lib.hid (keep_own HW16.out hb17)
  have HB17 := Lib.hid (HB16.out.trans (hb17.mono HB16.out.size)); clear hb17
  have hpos2 : ¬ (1 : Int) + (ks.length : Int) < 0 := by omega
  have heq2 : ((1 : Int) + (ks.length : Int) != 1 + (ks.length : Int)) = false := by simp
  -- once more
  go_wp2_with fail
  refine (copy_any v ps _ hn (HV.out.below HB17.out)).mono ?_
  rintro e w18 ⟨z0, rfl, hown18, hb18⟩
  have HP18 := Lib.hid hown18; clear hown18
  have HG18 := Lib.hid (keep_own HG17.out hb18)
  have HW18 := Lib.hid (keep_own HW17.out hb18)
  have HB18 := Lib.hid (HB17.out.trans (hb18.mono HB17.out.size)); clear hb18
  go_wp2_with fail
  refine (copy_any u rs _ hnr (HU.out.below HB18.out)).mono ?_
  rintro e w19 ⟨z1, rfl, hown19, hb19⟩
  have HQ19 := Lib.hid hown19; clear hown19
  have HP19 := Lib.hid (keep_own HP18.out hb19)
  have HG19 := Lib.hid (keep_own HG18.out hb19)
  have HW19 := Lib.hid (keep_own HW18.out hb19)
  have HB19 := Lib.hid (HB18.out.trans (hb19.mono HB18.out.size)); clear hb19
  go_wp2_with fail
  refine (iWithout_any z0 z1 ps rs _ hn hnr HM.out HM2.out (StrsAt.of_owns HP19.out) (StrsAt.of_owns HQ19.out)).mono ?_
  rintro e w20 ⟨h0, rfl, hown20, hb20⟩
  rw [← HK.out] at hown20
  have HH20 := Lib.hid hown20; clear hown20
  have HG20 := Lib.hid (keep_own HG19.out hb20)
  have HW20 := Lib.hid (keep_own HW19.out hb20)
  have HB20 := Lib.hid (HB19.out.trans (hb20.mono HB19.out.size)); clear hb20
  go_wp2_with fail
  refine (eqStrs_any h0 s0 ks ks _ (by omega) (StrsAt.of_owns HH20.out) (StrsAt.of_owns HW20.out) rfl).mono ?_
  rintro e w21 ⟨rfl, q21, rfl⟩
  have HG21 := Lib.hid (keep_own HG20.out (below_q w20 q21))
  have HB21 := Lib.hid (HB20.out.trans ((below_q w20 q21).mono HB20.out.size))
  go_wp2_with fail
  refine (held_any w6.heap.size ks.length 1 g0 _ (by omega) (by omega) HG21.out).mono ?_
  rintro e w22 ⟨rfl, hb22⟩
  have HB22 := Lib.hid (HB21.out.trans (hb22.mono HB21.out.size)); clear hb22
  go_wp2
  go_ret
  exact ⟨rfl, HB22.out⟩
end Go.Proofs.Ytmnagbknmdagaaa
