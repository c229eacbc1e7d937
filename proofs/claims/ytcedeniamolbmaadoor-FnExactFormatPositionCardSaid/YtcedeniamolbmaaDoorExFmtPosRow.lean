/-
  laws.FnExactFormatPosition returns true at every list of integers: FormatPosition answers as its model does and changes no argument. The tables of the library that it reads are as the program's text lays them (the card ties them).
-/
import Derived.Test.YtcedeniamolbmaaDoorFmtPos
import Derived.Test.YtcedeniamolbmaaDoorIntsCame
import Derived.Test.YtcedeniamolbmaaDoorLaidPow
import Derived.Test.YtcedeniamolbmaaDoorCards
import Derived.Test.YtcedeniamolbmaaDoorTie
import Derived.SevenTiedAt
namespace Go.Proofs.YtcedeniamolbmaaDoor
open Go.ChangeShapes Go.WideShapes Go.ChangeAt Go.RowKit

set_option maxRecDepth 100000 in
set_option maxHeartbeats 800000 in
theorem exFmtPos_any (v : Value) (ps : List Int) (w : World) (hpl : ps.length ≤ maxLen) (hf : Fits ps) (hv : IntsAt w v ps) (ht : PowTab w) (hs : 0 < w.heap.size) :
    Calls Tryd.prog 4 #[v] w (TrueI w) := by
  obtain ⟨a, cap, rfl⟩ := hv.slice
  have HTP := Lib.hid (And.intro ht hs); clear ht hs
  have HV := Lib.hid hv; clear hv
  have HF := Lib.hid hf; clear hf
  obtain ⟨n, hn⟩ : ∃ n, n = ps.length := ⟨_, rfl⟩
  rw [← hn] at HV ⊢
  have hn2 : n ≤ 9223372036854775807 := by rw [hn]; unfold maxLen at hpl; omega
  clear hpl
  have HN := Lib.hid hn; clear hn
  by_cases hs : 1048576 < n
  · go_enter Tryd.func4, Tryd.ntmps4
    go_wp2
    go_ret
    exact ⟨rfl, Below.refl _ _⟩
  · have HPS := Lib.hid (show ps.length ≤ 1048576 by have := HN.out; omega)
    go_enter Tryd.func4, Tryd.ntmps4
    go_wp2_with fail
    refine (toInts_any _ ps _ HPS.out HV.out).mono ?_
    rintro e w1 ⟨v1, rfl, o1, b1⟩
    have HO1 := Lib.hid (IntsAt.of_owns o1); clear o1
    have HB1 := Lib.hid b1; clear b1
    go_wp2_with fail
    refine (sFmtPos_any v1 ps _ HPS.out HF.out HO1.out).mono ?_
    rintro e w2 ⟨rfl, b2⟩
    have HB2 := Lib.hid (HB1.out.trans (b2.mono HB1.out.size)); clear b2
    go_wp2_with fail
    refine (toInts_any _ ps _ HPS.out (HV.out.below HB2.out)).mono ?_
    rintro e w4 ⟨v4, rfl, o4, b4⟩
    have HO4 := Lib.hid (IntsAt.of_owns o4); clear o4
    have HB4 := Lib.hid (HB2.out.trans (b4.mono HB2.out.size)); clear b4
    go_wp2_with fail
    refine (iFmtPos_any v4 ps _ HPS.out HF.out HO4.out (HTP.out.1.below HB4.out HTP.out.2) (Nat.lt_of_lt_of_le HTP.out.2 HB4.out.size)).mono ?_
    rintro e w6 ⟨rfl, b6⟩
    have hq : ((fmtP ps).toList == (fmtP ps).toList) = true := by simp
    have HO4c := Lib.hid (HO4.out.below b6)
    have HB6 := Lib.hid (HB4.out.trans (b6.mono HB4.out.size)); clear b6
    go_wp2_with fail
    refine (toInts_any _ ps _ HPS.out (HV.out.below HB6.out)).mono ?_
    rintro e w7 ⟨v7, rfl, o7, b7⟩
    have HO4d := Lib.hid (HO4c.out.below b7)
    have HO7 := Lib.hid (IntsAt.of_owns o7); clear o7
    have HB7 := Lib.hid (HB6.out.trans (b7.mono HB6.out.size)); clear b7
    go_wp2_with fail
    refine (eqInts_any v4 v7 ps _ (by have := HPS.out; omega) HO4d.out HO7.out).mono ?_
    rintro e w8 ⟨rfl, b8⟩
    have HB8 := Lib.hid (HB7.out.trans (b8.mono HB7.out.size)); clear b8
    go_wp2
    go_ret
    exact ⟨rfl, HB8.out⟩

theorem laidOut : laidOutB Tryd.prog = true := by kernel_rfl

theorem exFmtPos_met (os : Os) (args : Array Value) : laidMetH Tryd.prog Rows.fnExactFormatPositionRow.laid ((World.doorLaid Tryd.prog 400 os).forCall (fun _ _ => 0) ⟨#[], args, []⟩).memory :=
  laidMetH_of_parts3 (fuel := 8) (laidMet_of_run' 8 (by kernel_rfl) (by kernel_rfl)) (by kernel_rfl) (by kernel_rfl)

set_option maxRecDepth 100000 in
theorem exFmtPos_lifted (os : Os) (started : os.Started) (H : Type) (enc : TypeId × Value → H) :
    ReturnsInHanded {} Tryd.checked os 4 .any (fun w args => (Rows.fnExactFormatPositionSpec.pre enc Tryd.prog Tryd.f4 [] false w args ∧ laidMetH Tryd.prog Rows.fnExactFormatPositionRow.laid w) ∧ sizedMet enc Tryd.prog Tryd.f4 (OpenSpec.ofChange Rows.fnExactFormatPositionSpec) false w args)
      (Rows.fnExactFormatPositionSpec.post enc Tryd.prog Tryd.f4 false true false false) := by
  refine returnsInHanded_of_change_and (C := Tryd.checked) (X := fun w _ => laidMetH Tryd.prog Rows.fnExactFormatPositionRow.laid w) (fun _ _ _ hh h => h.of_heap hh) own started (by kernel_rfl) Tryd.func4
    (ChangeSpec.witness_shaped (enc := enc) (C := Tryd.checked) (os := os) (X := fun w _ => laidMetH Tryd.prog Rows.fnExactFormatPositionRow.laid w) false (World.doorLaid Tryd.prog 400 os) #[.slice none 0 0] 8 rfl (World.shaped_of_RefB (by kernel_rfl) (by kernel_rfl)) (by kernel_rfl) (by kernel_rfl) (by kernel_rfl) (exFmtPos_met os _)) ?_
  intro W base args ds gs before hval0 hW _ _ hL _
  have hval : ∀ (j : Nat) t v, Tryd.f4.params[j]? = some t → args[j]? = some v → Value.okWide Tryd.prog W .any base t v := hval0
  have hW' := hW
  obtain ⟨p, q, hA0, hV, rfl, hfz, hnd⟩ := hW
  have hA : DataW.TrodAll enc Tryd.prog W 0 (fun _ => true) true Tryd.f4.params.toList args.toList ds p := hA0
  rw [Tryd.params4] at hA hval
  obtain ⟨v0, d0, rfl, rfl, h0⟩ := trodAll_one hA
  obtain ⟨rfl, rfl⟩ := trodVars_none hV
  obtain ⟨ps, hpl, hp, hf⟩ := ints_came2 (hval 0 33 v0 rfl rfl) h0
  clear hA0 hval0
  simp only [List.append_nil] at hW'
  have hlt : ∀ x ∈ p, x.block < W.heap.size := fun x hx => by simpa using hW'.lt x hx
  rw [MakeChecks.laidMetH_plain _ _ _ (by kernel_rfl)] at hL
  have hpow : PowTab W := pow_of_laid hL.tail.tail
  refine (exFmtPos_any v0 ps W hpl hf hp hpow hpow.low).mono fun e W' ⟨he, hnx⟩ => ?_
  subst he
  refine ⟨_, rfl, _, _, _, [], p, [], hW', ?_, ?_, rfl, hnx.frame _, fun h => by cases h⟩
  · exact trodAll_mk1 (shut_bool Tryd.underlying4 true)
  · exact trodAll_mk1 (Below.trod laidOut (by kernel_rfl) (of_decide_eq_true (by kernel_rfl)) h0 hnx hlt)

theorem exFmtPos_row : Rows.FnExactFormatPositionSaid :=
  OpenClaim.holds_of_wide 4 Tryd.f4 rfl rfl rfl rfl rfl rfl rfl ⟨rfl, rfl, rfl, rfl, rfl⟩ rfl rfl rfl rfl rfl (by kernel_rfl) Tryd.func4 (by kernel_rfl)
    (of_decide_eq_true (by kernel_rfl)) (by unfold Func.isWrapper; rw [if_neg (of_decide_eq_false (by kernel_rfl))]; exact ⟨rfl, rfl⟩)
    (fun os started H enc _ => exFmtPos_lifted os started H enc)

/-- The card: FnExactFormatPosition answers true at every list of integers. -/
theorem exFmtPos_holds : Rows.FnExactFormatPositionCardSaid :=
  Claim7.holds_tied_plain_at .later [] [.data, .data, .data] true Rows.fnExactFormatPositionCard.stood.harness false
    exFmtPos_row (fun _ h => by cases h) (by kernel_rfl) (fun _ h => by cases h) fnExactFormatPosition_row_tie rfl ⟨rfl, rfl⟩ (by kernel_rfl) rfl
    (fun f fn hf hfn => by
      obtain rfl : f = 4 := Option.some.inj ((show Tryd.prog.funcNamed Rows.fnExactFormatPositionRow.func = some 4 by kernel_rfl).symm.trans hf) |>.symm
      obtain rfl : fn = Tryd.f4 := (Option.some.inj (Tryd.func4.symm.trans hfn)).symm
      exact ⟨by kernel_rfl, fun j t ht => by
        rw [Tryd.params4] at ht
        have hm : t ∈ [33] := by simpa using Array.mem_of_getElem? ht
        have hall : ([33].all fun u => !Tryd.prog.wantsStandIn u) = true := by kernel_rfl
        exact (show Tryd.prog.wantsStandIn t = false by simpa using List.all_eq_true.1 hall t hm)⟩)
    (by kernel_rfl)
end Go.Proofs.YtcedeniamolbmaaDoor
