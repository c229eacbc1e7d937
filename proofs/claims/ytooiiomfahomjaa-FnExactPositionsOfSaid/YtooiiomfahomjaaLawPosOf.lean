/-
  The law on PositionsOf answers true at every term.
-/
import Derived.Test.YtooiiomfahomjaaPosI
import Derived.Test.YtooiiomfahomjaaPosSpec
import Derived.Test.YtooiiomfahomjaaIntSS
import Derived.Test.YtooiiomfahomjaaTermSz
import Derived.Test.YtooiiomfahomjaaTermEq
import Derived.Test.YtooiiomfahomjaaTermMark
import Derived.Test.YtooiiomfahomjaaBoxL
namespace Go.Proofs.Ytooiiomfahomjaa
open Go.RowKit

theorem Out.ownP {w w' : World} {lo hi B n size : Nat} {e : TypeId} {v : Value} {xs : List Value} (h : Out lo hi w w') (ho : w.ownsRow B e size v n xs) (hk : hi ≤ B) : w'.ownsRow B e size v n xs :=
  own_at ho fun k hv => h.2.2.2.2 k (ho.lt k hv).2 (Or.inr (Nat.le_trans hk (ho.lt k hv).1))
theorem Out.underP {w w' : World} {lo hi B : Nat} (h : Out lo hi w w') (hB : B ≤ lo) (hB2 : B ≤ w.heap.size) : Below B w w' :=
  ⟨h.1, h.2.1, h.2.2.1, h.2.2.2.1, fun k hk => h.2.2.2.2 k (by omega) (Or.inl (by omega))⟩
theorem nsum_le {M : Nat} : ∀ (pss : List (List Int)), (∀ q ∈ pss, q.length ≤ M) → nsum pss ≤ pss.length * M
  | [], _ => by simp [nsum]
  | q :: r, h => by
    have h1 := nsum_le r (fun p hp => h p (List.mem_cons_of_mem _ hp))
    have h2 := h q (List.mem_cons_self ..)
    rw [nsum_cons, List.length_cons, Nat.succ_mul]
    omega
/-- A list of positions of one's own, and what it holds. -/
def GotN (w : World) (B : Nat) (v : Value) (vs : List Value) (pss : List (List Int)) : Prop := w.ownsRow B 27 1 v pss.length vs ∧ RowN w B vs pss
theorem GotN.below {w w' : World} {B : Nat} {v : Value} {vs : List Value} {pss : List (List Int)} (h : GotN w B v vs pss) (hb : Below w.heap.size w w') : GotN w' B v vs pss :=
  ⟨keep_own h.1 hb, h.2.1, fun i q hq => by obtain ⟨u, hu, ho⟩ := h.2.2 i q hq; exact ⟨u, hu, keep_own ho hb⟩⟩
theorem GotN.out {w w' : World} {lo hi B : Nat} {v : Value} {vs : List Value} {pss : List (List Int)} (h : GotN w B v vs pss) (ho : Out lo hi w w') (hk : hi ≤ B) : GotN w' B v vs pss :=
  ⟨ho.ownP h.1 hk, h.2.1, fun i q hq => by obtain ⟨u, hu, hw⟩ := h.2.2 i q hq; exact ⟨u, hu, ho.ownP hw hk⟩⟩
theorem GotN.list {w : World} {B : Nat} {v : Value} {vs : List Value} {pss : List (List Int)} (h : GotN w B v vs pss) : ListN w B v vs pss := ListN.of_row h.1 h.2

set_option maxRecDepth 100000 in
set_option maxHeartbeats 3200000 in
theorem exPosOf_any (v : Value) (t : T) (h : Nat) (w : World) (ht : TermAt w 0 h v t) :
    Calls Try.prog 4 #[v] w (TrueEnd w) := by
  obtain ⟨k0, n0, s0, u0, rfl⟩ := ht.form
  have HB0 := Lib.hid (boxedL_below w k0 n0 s0 u0)
  have HT := Lib.hid (ht.below HB0.out); clear ht
  have HQ : Hid (∀ w', Below (boxedL w k0 n0 s0 u0).heap.size (boxedL w k0 n0 s0 u0) w' → TermAt w' 0 h (tv k0 n0 s0 u0) t) := Lib.hid (fun w' hb => HT.out.below hb)
  go_enter Try.func4, Try.ntmps4
  go_wp2_with fail
  refine (szT_any _ t 0 h 1048576 _ HT.out (by omega) (by omega)).mono ?_
  rintro e w1 ⟨r, rfl, hb1, hr1, hr2⟩
  have HB1 := Lib.hid hb1; clear hb1
  have HR := Lib.hid hr2; clear hr2
  by_cases hr : r < 0
  · go_wp2
    go_ret
    exact ⟨rfl, HB0.out.trans (HB1.out.mono HB0.out.size)⟩
  · have HW : Hid (wT t ≤ 1048576) := Lib.hid (by have := HR.out (by omega); omega)
    have hct : cT t ≤ 1048577 := by have := cT_le t; have := HW.out; omega
    have hpl : ∀ q ∈ posT t, q.length ≤ 1048577 := fun q hq => Nat.le_trans (pos_len hq) hct
    have hpn : (posT t).length ≤ 1048577 := by rw [posT_length]; exact hct
    have hns : nsum (posT t) ≤ 1099513724929 := Nat.le_trans (nsum_le _ hpl) (Nat.le_trans (Nat.mul_le_mul_right 1048577 hpn) (by omega))
    have HPL : Hid (∀ q ∈ posT t, q.length ≤ 9223372036854775807) := Lib.hid (fun q hq => by have := hpl q hq; omega)
    clear hpl hct
    obtain ⟨c0, c1, c2, c3⟩ := boxedL_cells HB1.out
    go_wp2_with fail
    refine (toT_any _ t 0 h _ (HQ.out _ HB1.out) HW.out).mono ?_
    rintro e w2 ⟨v1, rfl, ht1, hb2⟩
    have HV1 := Lib.hid ht1; clear ht1
    have HB2 := Lib.hid (HB1.out.trans (hb2.mono HB1.out.size)); clear hb2 c0 c1 c2 c3
    go_wp2_with fail
    refine (sPos_any v1 t _ h _ HV1.out HW.out).mono ?_
    rintro e w3 ⟨s3, rfl, ⟨vs3, ho3, hr3⟩, hb3⟩
    have hg3 : GotN w3 w2.heap.size s3 vs3 (posT t) := ⟨ho3, hr3.1, fun i q hq => by obtain ⟨u, hu, ho, _⟩ := hr3.2 i q hq; exact ⟨u, hu, ho⟩⟩
    have HW3 : Hid (∀ w', Below w3.heap.size w3 w' → ListN w' w2.heap.size s3 vs3 (posT t)) := Lib.hid (fun w' hb => (hg3.below hb).list)
    have HB3 := Lib.hid (HB2.out.trans (hb3.mono HB2.out.size))
    clear hb3 hg3 ho3 hr3
    have HBU : Hid (∀ w', Below w3.heap.size w3 w' → Below (boxedL w k0 n0 s0 u0).heap.size (boxedL w k0 n0 s0 u0) w') := Lib.hid (fun w' hb => HB3.out.trans (hb.mono HB3.out.size))
    obtain ⟨c0, c1, c2, c3⟩ := boxedL_cells HB3.out
    go_wp2_with fail
    refine (toT_own _ t 0 h _ (HQ.out _ HB3.out) HW.out).mono ?_
    rintro e w4 ⟨k2, n2, s2, u2, xs2, rfl, et, hs2, ⟨ha2, ho2⟩, hb4⟩
    obtain ⟨a2, cap2, rfl⟩ := ha2.slice
    obtain ⟨m2, hm2⟩ : ∃ m2, m2 = xs2.length := ⟨_, rfl⟩
    rw [← hm2] at ha2 ho2 ⊢
    have ht2 : TermAt w4 w3.heap.size h (tv k2 n2 s2 (.slice a2 m2 cap2)) t := ⟨_, _, _, _, xs2, rfl, et, hs2, ha2⟩
    have HCS : Hid (1 + 3 * cS xs2 ≤ 12582912) := Lib.hid (by have hw := HW.out; rw [et, wT_node] at hw; have := cS_le xs2; omega)
    have HO2 := Lib.hid ho2
    have hs34 := hb4.size
    clear ha2 hs2 et ho2 hm2
    have HX := Lib.hid (ht2.below (boxed_below w4 k2 n2 s2 (.slice a2 m2 cap2))); clear ht2
    have HW4 := Lib.hid (hb4.trans ((boxed_below w4 k2 n2 s2 (.slice a2 m2 cap2)).mono hs34)); clear hb4 c0 c1 c2 c3
    go_wp2_with fail
    refine (posI_any k2 n2 s2 a2 m2 cap2 t h _ (HX.out.low (Nat.zero_le _)) HW.out).mono ?_
    rintro e w5 ⟨g0, rv, rfl, hown5, hrow5, hap5, hb5⟩
    rw [hrow5.1] at hown5
    have HG5 : Hid (GotN w5 _ g0 rv (posT t)) := Lib.hid ⟨hown5, hrow5⟩; clear hown5 hrow5
    have HAP := Lib.hid hap5; clear hap5
    have HW5 := Lib.hid (HW4.out.trans (hb5.mono HW4.out.size))
    have HX5 := Lib.hid (HX.out.below hb5)
    have HO5 := Lib.hid (HO2.out.keep (w' := w5) fun b b1 b2 => by rw [hb5.block b (by simp; omega)]; exact (boxed_below w4 k2 n2 s2 (.slice a2 m2 cap2)).block b b2)
    have hp5 := boxed_cells hb5
    have HP5 := Lib.hid hp5; clear hp5
    have hs45 : w4.heap.size < w5.heap.size := by have := hb5.size; simp at this; omega
    clear hb5
    go_wp2_with fail
    refine (eqSS_any g0 s3 rv vs3 (posT t) _ _ _ (by omega) HPL.out HG5.out.list (HW3.out _ HW5.out)).mono ?_
    rintro e w6 ⟨rfl, hb6⟩
    have HQ6 := Lib.hid hb6; clear hb6
    have h8 : ∀ w', Below w6.heap.size w6 w' → (w'.cell? ⟨w4.heap.size, 0, none⟩ = some (.int .i64 k2) ∧ w'.cell? ⟨w4.heap.size, 1, none⟩ = some (.int .i64 n2) ∧ w'.cell? ⟨w4.heap.size, 2, none⟩ = some (.string s2) ∧ w'.cell? ⟨w4.heap.size, 3, none⟩ = some (.slice a2 m2 cap2) ∧
        w'.cell? ⟨w.heap.size, 0, none⟩ = some (.int .i64 k0) ∧ w'.cell? ⟨w.heap.size, 1, none⟩ = some (.int .i64 n0) ∧ w'.cell? ⟨w.heap.size, 2, none⟩ = some (.string s0) ∧ w'.cell? ⟨w.heap.size, 3, none⟩ = some u0 ∧ Below w6.heap.size w6 w') := by
      intro w' hb
      obtain ⟨p0, p1, p2, p3⟩ := HP5.out
      obtain ⟨b0, b1, b2, b3⟩ := boxedL_cells (HBU.out _ HW5.out)
      have hbb := HQ6.out.trans (hb.mono HQ6.out.size)
      exact ⟨cell_on hbb p0, cell_on hbb p1, cell_on hbb p2, cell_on hbb p3, cell_on hbb b0, cell_on hbb b1, cell_on hbb b2, cell_on hbb b3, hb⟩
    have HK := Lib.hid h8; clear h8
    obtain ⟨p0, p1, p2, p3, b0, b1, b2, b3, hb0⟩ := HK.out _ (Below.refl _ _)
    have HT5 : Hid (∀ w', Below w6.heap.size w6 w' → TermAt w' 0 h (tv k0 n0 s0 u0) t) := Lib.hid (fun w' hb => (HQ.out _ (HBU.out _ HW5.out)).below (HQ6.out.trans (hb.mono HQ6.out.size)))
    have HX6 : Hid (∀ w', Below w6.heap.size w6 w' → TermAt w' w3.heap.size h (tv k2 n2 s2 (.slice a2 m2 cap2)) t) := Lib.hid (fun w' hb => HX5.out.below (HQ6.out.trans (hb.mono HQ6.out.size)))
    go_wp2
    go_region_held3 (fun w' => w'.cell? ⟨w4.heap.size, 0, none⟩ = some (.int .i64 k2) ∧ w'.cell? ⟨w4.heap.size, 1, none⟩ = some (.int .i64 n2) ∧ w'.cell? ⟨w4.heap.size, 2, none⟩ = some (.string s2) ∧ w'.cell? ⟨w4.heap.size, 3, none⟩ = some (.slice a2 m2 cap2) ∧
        w'.cell? ⟨w.heap.size, 0, none⟩ = some (.int .i64 k0) ∧ w'.cell? ⟨w.heap.size, 1, none⟩ = some (.int .i64 n0) ∧ w'.cell? ⟨w.heap.size, 2, none⟩ = some (.string s0) ∧ w'.cell? ⟨w.heap.size, 3, none⟩ = some u0 ∧ Below w6.heap.size w6 w')
      (first | exact HK.out _ (by assumption) | exact HK.out _ (bel_drew (by assumption)) | exact HK.out _ (Below.drew (by assumption)) | exact HK.out _ (bel_two (bel_drew (by assumption)) (by assumption)) | go_keep)
      (first
        | (go_at_call 13; refine (toT_any _ t 0 h _ (HT5.out _ (by first | assumption | exact Below.drew (by assumption))) HW.out).mono ?_; rintro e w7 ⟨v3, rfl, ht3, hb7⟩)
        | (go_at_call 16; refine (eqT_any _ v3 t _ _ h _ (HX6.out _ (by first | assumption | exact bel_drew (by assumption) | exact Below.drew (by assumption))) (by first | exact ht3 | exact ht3.below (Below.drew (Below.refl _ _)))).mono ?_; rintro e w8 ⟨rfl, hb8⟩))
    have hb58 : Below w5.heap.size w5 w8 := HQ6.out.trans ((bel_two (bel_drew hb7) hb8).mono HQ6.out.size)
    clear HX6 HT5 HK p0 p1 p2 p3 b0 b1 b2 b3 hb0 hb7 hb8 ht3
    have HG8 := Lib.hid (HG5.out.below hb58)
    have HW8 := Lib.hid (HW5.out.trans (hb58.mono HW5.out.size))
    have HO8 := Lib.hid (HO5.out.keep (w' := w8) fun b b1 b2 => hb58.block b (by omega))
    have p0 := cell_on hb58 HP5.out.1
    have p1 := cell_on hb58 HP5.out.2.1
    have p2 := cell_on hb58 HP5.out.2.2.1
    have p3 := cell_on hb58 HP5.out.2.2.2
    have hs8 := hb58.size
    clear hb58 HO5 HO2 HX5 HX
    go_wp2_with fail
    refine (markT_any k2 n2 s2 _ xs2 h w3.heap.size w4.heap.size 1 _ HO8.out (by omega) (by omega) HCS.out).mono ?_
    rintro e w9 ⟨rfl, ho9⟩
    have HG9 := Lib.hid (HG8.out.out ho9 (by simp))
    have hs89 := ho9.2.2.2.1
    have HW9 := Lib.hid (HW8.out.trans (ho9.underP (Nat.le_refl _) HW8.out.size)); clear ho9 p0 p1 p2 p3
    have hpos : ¬ ((1 + 3 * cS xs2 : Nat) : Int) < 0 := by omega
    go_wp2_with fail
    refine (eqSS_any g0 s3 rv vs3 (posT t) _ _ _ (by omega) HPL.out HG9.out.list (HW3.out _ HW9.out)).mono ?_
    rintro e w10 ⟨rfl, hb10⟩
    have HG10 := Lib.hid (HG9.out.below hb10)
    have HW10 := Lib.hid (HW9.out.trans (hb10.mono HW9.out.size))
    have hs10 : w5.heap.size ≤ w10.heap.size := by have := hb10.size; omega
    clear hb10
    go_wp2_with fail
    refine (markSS_any _ 1 g0 rv (posT t) _ (by simp; omega) (by omega) (by omega) HG10.out.1 HG10.out.2 HAP.out).mono ?_
    rintro e w11 ⟨rfl, hown11, hrow11, hb11⟩
    have HG11 : Hid (∀ w', Below w11.heap.size w11 w' → ListN w' _ g0 rv (numsS 1 (posT t))) := Lib.hid (fun w' hb => ((show GotN w11 _ g0 rv (numsS 1 (posT t)) from ⟨by rw [numsS_length]; exact hown11, hrow11⟩).below hb).list)
    have HW11 := Lib.hid (HW10.out.trans (hb11.mono (by simp; omega))); clear hb11 hown11 hrow11
    go_wp2_with fail
    refine (heldSS_any _ 1 g0 rv (posT t) _ (by omega) (by omega) (HG11.out _ (Below.refl _ _))).mono ?_
    rintro e w12 ⟨rfl, hb12⟩
    have HG12 := Lib.hid hb12
    have HW12 := Lib.hid (HW11.out.trans (hb12.mono HW11.out.size)); clear hb12
    have hpos2 : ¬ (1 : Int) + (nsum (posT t) : Int) < 0 := by omega
    have heq2 : ((1 : Int) + (nsum (posT t) : Int) != 1 + (nsum (posT t) : Int)) = false := by simp
    obtain ⟨c0, c1, c2, c3⟩ := boxedL_cells (HBU.out _ HW12.out)
    go_wp2_with fail
    refine (toT_any _ t 0 h _ (HQ.out _ (HBU.out _ HW12.out)) HW.out).mono ?_
    rintro e w13 ⟨v4, rfl, ht4, hb13⟩
    obtain ⟨k4, n4, s4, a4, m4, cap4, rfl⟩ := ht4.shape
    have HV4 := Lib.hid ht4; clear ht4
    have HG13 := Lib.hid (bel_two HG12.out hb13)
    have HW13 := Lib.hid (HW12.out.trans (hb13.mono HW12.out.size)); clear hb13 c0 c1 c2 c3
    go_wp2_with fail
    refine (posI_any k4 n4 s4 a4 m4 cap4 t h _ (HV4.out.low (Nat.zero_le _)) HW.out).mono ?_
    rintro e w14 ⟨h0, rv2, rfl, hown14, hrow14, _, hb14⟩
    rw [hrow14.1] at hown14
    have HH14 : Hid (GotN w14 _ h0 rv2 (posT t)) := Lib.hid ⟨hown14, hrow14⟩; clear hown14 hrow14
    have HG14 := Lib.hid (bel_two HG13.out hb14)
    have HW14 := Lib.hid (HW13.out.trans (hb14.mono HW13.out.size)); clear hb14
    go_wp2_with fail
    refine (eqSS_any h0 s3 rv2 vs3 (posT t) _ _ _ (by omega) HPL.out HH14.out.list (HW3.out _ HW14.out)).mono ?_
    rintro e w15 ⟨rfl, hb15⟩
    have HG15 := Lib.hid (bel_two HG14.out hb15)
    have HW15 := Lib.hid (HW14.out.trans (hb15.mono HW14.out.size)); clear hb15
    go_wp2_with fail
    refine (heldSS_any _ 1 g0 rv (posT t) _ (by omega) (by omega) (HG11.out _ HG15.out)).mono ?_
    rintro e w16 ⟨rfl, hb16⟩
    have HB16 := Lib.hid (HB0.out.trans ((HBU.out _ (HW15.out.trans (hb16.mono HW15.out.size))).mono HB0.out.size)); clear hb16
    go_wp2
    go_ret
    exact ⟨rfl, HB16.out⟩
end Go.Proofs.Ytooiiomfahomjaa
