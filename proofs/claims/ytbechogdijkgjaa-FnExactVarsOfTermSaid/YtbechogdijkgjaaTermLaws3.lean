/-
  The law on VarsOfTerm answers true at every term, once this function answers as its model does.
-/
import Derived.Test.YtbechogdijkgjaaTermLaws
import Derived.Test.YtbechogdijkgjaaTermMark
namespace Go.Proofs.Ytbechogdijkgjaa
open Go.RowKit

theorem keep_at {w w' : World} {B n size : Nat} {e : TypeId} {v : Value} {xs : List Value} (h : w.ownsRow B e size v n xs) (hk : ∀ k, v.ownBlock = some k → w'.heap[k]? = w.heap[k]?) : w'.ownsRow B e size v n xs := by
  refine ⟨h.1, ?_⟩
  rcases h.2 with hn | ⟨g, cap, cur, rfl, hg, hc, rest⟩
  · exact Or.inl hn
  · exact Or.inr ⟨g, cap, cur, rfl, hg, by rw [hk g rfl]; exact hc, rest⟩
theorem Out.own {w w' : World} {lo hi B n size : Nat} {e : TypeId} {v : Value} {xs : List Value} (h : Out lo hi w w') (ho : w.ownsRow B e size v n xs) (hk : ∀ k, v.ownBlock = some k → k < lo ∨ hi ≤ k) : w'.ownsRow B e size v n xs :=
  keep_at ho fun k hv => h.2.2.2.2 k (ho.lt k hv).2 (hk k hv)
theorem Out.under {w w' : World} {lo hi B : Nat} (h : Out lo hi w w') (hB : B ≤ lo) (hB2 : B ≤ w.heap.size) : Below B w w' :=
  ⟨h.1, h.2.1, h.2.2.1, h.2.2.2.1, fun k hk => h.2.2.2.2 k (by omega) (Or.inl (by omega))⟩

def ImplVarsOfTerm : Prop := ∀ (v : Value) (t : T) (lo h : Nat) (w : World), TermAt w lo h v t → wT t ≤ 1048576 → Calls Try.prog 15 #[v] w (SortEnd (vT t) w)

set_option maxRecDepth 100000 in
set_option maxHeartbeats 1600000 in
theorem exVarsOfTerm_of (hI : ImplVarsOfTerm) (v : Value) (t : T) (h : Nat) (w : World) (ht : TermAt w 0 h v t) :
    Calls Try.prog 9 #[v] w (TrueEnd w) := by
  obtain ⟨k0, n0, s0, u0, rfl⟩ := ht.form
  have HB0 := Lib.hid (boxedL_below w k0 n0 s0 u0)
  have HT := Lib.hid (ht.below HB0.out); clear ht
  have HI := Lib.hid hI; clear hI
  have HQ : Hid (∀ w', Below (boxedL w k0 n0 s0 u0).heap.size (boxedL w k0 n0 s0 u0) w' → TermAt w' 0 h (tv k0 n0 s0 u0) t) := Lib.hid (fun w' hb => HT.out.below hb)
  go_enter Try.func9, Try.ntmps9
  go_wp2_with fail
  refine (szT_any _ t 0 h 1048576 _ HT.out (by omega) (by omega)).mono ?_
  rintro e w1 ⟨r, rfl, hb1, hr1, hr2⟩
  have HB1 := Lib.hid hb1; clear hb1
  have HR := Lib.hid hr2; clear hr2
  by_cases hr : r < 0
  · go_wp2
    go_ret
    exact ⟨rfl, HB0.out.trans (HB1.out.mono HB0.out.size)⟩
  · have HW : Hid (wT t ≤ 1048576) := Lib.hid (by have := HR.out (by omega); omega)
    have hvl := vT_short HW.out
    obtain ⟨c0, c1, c2, c3⟩ := boxedL_cells HB1.out
    go_wp2_with fail
    refine (toT_any _ t 0 h _ (HQ.out _ HB1.out) HW.out).mono ?_
    rintro e w2 ⟨v1, rfl, ht1, hb2⟩
    have HV1 := Lib.hid ht1; clear ht1
    have HB2 := Lib.hid (HB1.out.trans (hb2.mono HB1.out.size)); clear hb2 c0 c1 c2 c3
    go_wp2_with fail
    refine (sVarsOf_any v1 t _ h _ HV1.out HW.out).mono ?_
    rintro e w3 ⟨s3, r0, rfl, hs0, hl0, hown3, hb3⟩
    have HS0 := Lib.hid hs0; clear hs0
    have HW3 := Lib.hid hown3; clear hown3
    have HB3 := Lib.hid (HB2.out.trans (hb3.mono HB2.out.size)); clear hb3
    have HSL : Hid (∀ k, s3.ownBlock = some k → k < w3.heap.size) := Lib.hid (fun k hk => (HW3.out.lt k hk).2)
    obtain ⟨c0, c1, c2, c3⟩ := boxedL_cells HB3.out
    go_wp2_with fail
    refine (toT_own _ t 0 h _ (HQ.out _ HB3.out) HW.out).mono ?_
    rintro e w4 ⟨k2, n2, s2, u2, xs2, rfl, et, hs2, ⟨ha2, ho2⟩, hb4⟩
    obtain ⟨a2, cap2, rfl⟩ := ha2.slice
    obtain ⟨m2, hm2⟩ : ∃ m2, m2 = xs2.length := ⟨_, rfl⟩
    rw [← hm2] at ha2 ho2 ⊢
    have ht2 : TermAt w4 w3.heap.size h (tv k2 n2 s2 (.slice a2 m2 cap2)) t := ⟨_, _, _, _, xs2, rfl, et, hs2, ha2⟩
    have HCS : Hid (1 + 3 * cS xs2 ≤ 12582912) := Lib.hid (by have hw := HW.out; rw [et, wT_node] at hw; have := cS_le xs2; omega)
    have HO2 := Lib.hid ho2
    have hs34 := hb4.size
    clear ha2 hs2 et ho2 hm2
    have HB4 := Lib.hid (HB3.out.trans (hb4.mono HB3.out.size))
    have HW4 := Lib.hid (keep_own HW3.out (hb4.trans ((boxed_below w4 k2 n2 s2 (.slice a2 m2 cap2)).mono hs34))); clear hb4 c0 c1 c2 c3
    have HX := Lib.hid (ht2.below (boxed_below w4 k2 n2 s2 (.slice a2 m2 cap2))); clear ht2
    have HB4b := Lib.hid (HB4.out.trans ((boxed_below w4 k2 n2 s2 (.slice a2 m2 cap2)).mono HB4.out.size))
    go_wp2_with fail
    refine (HI.out _ t _ h _ HX.out HW.out).mono ?_
    rintro e w5 ⟨g0, r1, rfl, hs1, hl1, hown5, hb5⟩
    have HE : Hid (r1.map (·.data.toList) = r0.map (·.data.toList)) := Lib.hid (by rw [hs1.unique HS0.out]); clear hs1
    have HG5 := Lib.hid hown5; clear hown5
    have HW5 := Lib.hid (keep_own HW4.out hb5)
    have HB5 := Lib.hid (HB4b.out.trans (hb5.mono HB4b.out.size))
    have HX5 := Lib.hid (HX.out.below hb5)
    have hn1 : r1.length ≤ 1048577 := by omega
    have HO5 := Lib.hid (HO2.out.keep (w' := w5) fun b b1 b2 => by rw [hb5.block b (by simp; omega)]; exact (boxed_below w4 k2 n2 s2 (.slice a2 m2 cap2)).block b b2)
    have hp5 := boxed_cells hb5
    have HP5 := Lib.hid hp5; clear hp5
    have HGL : Hid (∀ k, g0.ownBlock = some k → (k < w3.heap.size ∨ w4.heap.size ≤ k) ∧ k < w5.heap.size) := Lib.hid (fun k hk => by have := HG5.out.lt k hk; simp at this; omega)
    have hs45 : w4.heap.size < w5.heap.size := by have := hb5.size; simp at this; omega
    clear hb5
    go_wp2_with fail
    refine (eqStrs_any g0 s3 r1 r0 _ (by omega) (StrsAt.of_owns HG5.out) (StrsAt.of_owns HW5.out) HE.out).mono ?_
    rintro e w6 ⟨rfl, q6, rfl⟩
    have HQ6 := Lib.hid (below_q w5 q6)
    generalize w5.drewN q6 = w6 at HQ6 ⊢
    have h8 : ∀ w', Below w6.heap.size w6 w' → (w'.cell? ⟨w4.heap.size, 0, none⟩ = some (.int .i64 k2) ∧ w'.cell? ⟨w4.heap.size, 1, none⟩ = some (.int .i64 n2) ∧ w'.cell? ⟨w4.heap.size, 2, none⟩ = some (.string s2) ∧ w'.cell? ⟨w4.heap.size, 3, none⟩ = some (.slice a2 m2 cap2) ∧
        w'.cell? ⟨w.heap.size, 0, none⟩ = some (.int .i64 k0) ∧ w'.cell? ⟨w.heap.size, 1, none⟩ = some (.int .i64 n0) ∧ w'.cell? ⟨w.heap.size, 2, none⟩ = some (.string s0) ∧ w'.cell? ⟨w.heap.size, 3, none⟩ = some u0 ∧ Below w6.heap.size w6 w') := by
      intro w' hb
      obtain ⟨p0, p1, p2, p3⟩ := HP5.out
      obtain ⟨b0, b1, b2, b3⟩ := boxedL_cells HB5.out
      have hbb := HQ6.out.trans (hb.mono HQ6.out.size)
      exact ⟨cell_on hbb p0, cell_on hbb p1, cell_on hbb p2, cell_on hbb p3, cell_on hbb b0, cell_on hbb b1, cell_on hbb b2, cell_on hbb b3, hb⟩
    have HK := Lib.hid h8; clear h8
    obtain ⟨p0, p1, p2, p3, b0, b1, b2, b3, hb0⟩ := HK.out _ (Below.refl _ _)
    have HT5 : Hid (∀ w', Below w6.heap.size w6 w' → TermAt w' 0 h (tv k0 n0 s0 u0) t) := Lib.hid (fun w' hb => (HQ.out _ HB5.out).below (HQ6.out.trans (hb.mono HQ6.out.size)))
    have HX6 : Hid (∀ w', Below w6.heap.size w6 w' → TermAt w' w3.heap.size h (tv k2 n2 s2 (.slice a2 m2 cap2)) t) := Lib.hid (fun w' hb => HX5.out.below (HQ6.out.trans (hb.mono HQ6.out.size)))
    go_wp2
    go_region_held3 (fun w' => w'.cell? ⟨w4.heap.size, 0, none⟩ = some (.int .i64 k2) ∧ w'.cell? ⟨w4.heap.size, 1, none⟩ = some (.int .i64 n2) ∧ w'.cell? ⟨w4.heap.size, 2, none⟩ = some (.string s2) ∧ w'.cell? ⟨w4.heap.size, 3, none⟩ = some (.slice a2 m2 cap2) ∧
        w'.cell? ⟨w.heap.size, 0, none⟩ = some (.int .i64 k0) ∧ w'.cell? ⟨w.heap.size, 1, none⟩ = some (.int .i64 n0) ∧ w'.cell? ⟨w.heap.size, 2, none⟩ = some (.string s0) ∧ w'.cell? ⟨w.heap.size, 3, none⟩ = some u0 ∧ Below w6.heap.size w6 w')
      (first | exact HK.out _ (by assumption) | exact HK.out _ (bel_drew (by assumption)) | exact HK.out _ (Below.drew (by assumption)) | exact HK.out _ (bel_two (bel_drew (by assumption)) (by assumption)) | go_keep)
      (first
        | (go_at_call 30; refine (toT_any _ t 0 h _ (HT5.out _ (by first | assumption | exact Below.drew (by assumption))) HW.out).mono ?_; rintro e w7 ⟨v3, rfl, ht3, hb7⟩)
        | (go_at_call 31; refine (eqT_any _ v3 t _ _ h _ (HX6.out _ (by first | assumption | exact bel_drew (by assumption) | exact Below.drew (by assumption))) (by first | exact ht3 | exact ht3.below (Below.drew (Below.refl _ _)))).mono ?_; rintro e w8 ⟨rfl, hb8⟩))
    have hb58 : Below w5.heap.size w5 w8 := HQ6.out.trans ((bel_two (bel_drew hb7) hb8).mono HQ6.out.size)
    clear HX6 HT5 HK p0 p1 p2 p3 b0 b1 b2 b3 hb0 hb7 hb8 ht3
    have HG8 := Lib.hid (keep_own HG5.out hb58)
    have HW8 := Lib.hid (keep_own HW5.out hb58)
    have HB8 := Lib.hid (HB5.out.trans (hb58.mono HB5.out.size))
    have HO8 := Lib.hid (HO5.out.keep (w' := w8) fun b b1 b2 => hb58.block b (by omega))
    have p0 := cell_on hb58 HP5.out.1
    have p1 := cell_on hb58 HP5.out.2.1
    have p2 := cell_on hb58 HP5.out.2.2.1
    have p3 := cell_on hb58 HP5.out.2.2.2
    have hs8 := hb58.size
    clear hb58 HO5 HO2 HX5 HX
    go_wp2_with fail
    refine (markT_any k2 n2 s2 _ xs2 h w3.heap.size w4.heap.size 1 _ HO8.out (by omega) (by omega) HCS.out).mono ?_
    rintro e w9 ⟨rfl, ho9⟩
    have HG9 := Lib.hid (ho9.own HG8.out (fun k hk => (HGL.out k hk).1))
    have HW9 := Lib.hid (ho9.own HW8.out (fun k hk => Or.inl (HSL.out k hk)))
    have HB9 := Lib.hid (HB8.out.trans (ho9.under HB3.out.size HB8.out.size)); clear ho9 p0 p1 p2 p3
    have hpos : ¬ ((1 + 3 * cS xs2 : Nat) : Int) < 0 := by omega
    go_wp2_with fail
    refine (eqStrs_any g0 s3 r1 r0 _ (by omega) (StrsAt.of_owns HG9.out) (StrsAt.of_owns HW9.out) HE.out).mono ?_
    rintro e w10 ⟨rfl, q10, rfl⟩
    have HG10 := Lib.hid (keep_own HG9.out (below_q w9 q10))
    have HW10 := Lib.hid (keep_own HW9.out (below_q w9 q10))
    have HB10 := Lib.hid (HB9.out.trans ((below_q w9 q10).mono HB9.out.size))
    generalize w9.drewN q10 = w10 at HG10 HW10 HB10 ⊢
    go_wp2_with fail
    refine (marks_any _ r1.length 1 g0 (r1.map Value.string) _ (by omega) (by omega) HG10.out).mono ?_
    rintro e w11 ⟨rfl, hown11, hg11⟩
    have HB11 := Lib.hid (HB10.out.grown hg11 HB10.out.size (fun k hk => Nat.le_trans HB4b.out.size (HG10.out.lt k hk).1))
    have HG11 := Lib.hid hown11; clear hown11
    have HW11 := Lib.hid (keep_other HW10.out (fun k hk => Nat.lt_of_lt_of_le (HSL.out k hk) (by simp; omega)) HG10.out hg11); clear hg11
    go_wp2_with fail
    refine (held_any _ r1.length 1 g0 _ (by omega) (by omega) HG11.out).mono ?_
    rintro e w12 ⟨rfl, hb12⟩
    have HG12 := Lib.hid (keep_own HG11.out hb12)
    have HW12 := Lib.hid (keep_own HW11.out hb12)
    have HB12 := Lib.hid (HB11.out.trans (hb12.mono HB11.out.size)); clear hb12
    have hpos2 : ¬ (1 : Int) + (r1.length : Int) < 0 := by omega
    have heq2 : ((1 : Int) + (r1.length : Int) != 1 + (r1.length : Int)) = false := by simp
    obtain ⟨c0, c1, c2, c3⟩ := boxedL_cells HB12.out
    go_wp2_with fail
    refine (toT_any _ t 0 h _ (HQ.out _ HB12.out) HW.out).mono ?_
    rintro e w13 ⟨v4, rfl, ht4, hb13⟩
    have HV4 := Lib.hid ht4; clear ht4
    have HG13 := Lib.hid (keep_own HG12.out hb13)
    have HW13 := Lib.hid (keep_own HW12.out hb13)
    have HB13 := Lib.hid (HB12.out.trans (hb13.mono HB12.out.size)); clear hb13 c0 c1 c2 c3
    go_wp2_with fail
    refine (HI.out v4 t _ h _ HV4.out HW.out).mono ?_
    rintro e w14 ⟨h0, r2, rfl, hs2', hl2, hown14, hb14⟩
    have HEH : Hid (r2.map (·.data.toList) = r0.map (·.data.toList)) := Lib.hid (by rw [hs2'.unique HS0.out]); clear hs2'
    have HH14 := Lib.hid hown14; clear hown14
    have HG14 := Lib.hid (keep_own HG13.out hb14)
    have HW14 := Lib.hid (keep_own HW13.out hb14)
    have HB14 := Lib.hid (HB13.out.trans (hb14.mono HB13.out.size)); clear hb14
    have hn2 : r2.length ≤ 1048577 := by omega
    go_wp2_with fail
    refine (eqStrs_any h0 s3 r2 r0 _ (by omega) (StrsAt.of_owns HH14.out) (StrsAt.of_owns HW14.out) HEH.out).mono ?_
    rintro e w15 ⟨rfl, q15, rfl⟩
    have HG15 := Lib.hid (keep_own HG14.out (below_q w14 q15))
    have HB15 := Lib.hid (HB14.out.trans ((below_q w14 q15).mono HB14.out.size))
    go_wp2_with fail
    refine (held_any _ r1.length 1 g0 _ (by omega) (by omega) HG15.out).mono ?_
    rintro e w16 ⟨rfl, hb16⟩
    have HB16 := Lib.hid (HB0.out.trans ((HB15.out.trans (hb16.mono HB15.out.size)).mono HB0.out.size)); clear hb16
    go_wp2
    go_ret
    exact ⟨rfl, HB16.out⟩
end Go.Proofs.Ytbechogdijkgjaa
