/-
  laws.FnExactIsPrefix returns true at every two lists of integers: IsPrefix answers as its model does and changes no argument.
-/
import Derived.Test.YtcedeniamolbmaaPrefix
import Derived.Test.YtcedeniamolbmaaIntsCame
namespace Go.Proofs.Ytcedeniamolbmaa
open Go.ChangeShapes Go.WideShapes Go.ChangeAt Go.RowKit
open Go.ChangeMaps (open_string shut_string)

set_option maxRecDepth 100000 in
set_option maxHeartbeats 800000 in
theorem exPrefix_any (v u : Value) (ps qs : List Int) (w : World) (hpl : ps.length ≤ maxLen) (hql : qs.length ≤ maxLen) (hv : IntsAt w v ps) (hu : IntsAt w u qs) :
    Calls Try.prog 7 #[v, u] w (TrueI w) := by
  obtain ⟨a, cap, rfl⟩ := hv.slice
  obtain ⟨a', cap', rfl⟩ := hu.slice
  have HV := Lib.hid hv; clear hv
  have HU := Lib.hid hu; clear hu
  obtain ⟨n, hn⟩ : ∃ n, n = ps.length := ⟨_, rfl⟩
  obtain ⟨m, hm⟩ : ∃ m, m = qs.length := ⟨_, rfl⟩
  rw [← hn] at HV ⊢
  rw [← hm] at HU ⊢
  have HPL : Hid (n ≤ 9223372036854775807 ∧ m ≤ 9223372036854775807) := Lib.hid (by rw [hn, hm]; unfold maxLen at hpl hql; omega)
  clear hpl hql
  have hn2 := HPL.out.1
  have hm2 := HPL.out.2
  have HN := Lib.hid hn; clear hn
  have HM := Lib.hid hm; clear hm
  by_cases hs : 1048576 < n
  · go_enter Try.func7, Try.ntmps7
    go_wp2
    go_ret
    exact ⟨rfl, Below.refl _ _⟩
  · by_cases hs2 : 1048576 < m
    · go_enter Try.func7, Try.ntmps7
      go_wp2
      go_ret
      exact ⟨rfl, Below.refl _ _⟩
    · have hps : ps.length ≤ 1048576 := by have := HN.out; omega
      have hqs : qs.length ≤ 1048576 := by have := HM.out; omega
      have HPS := Lib.hid (And.intro hps hqs); clear hps hqs
      go_enter Try.func7, Try.ntmps7
      go_wp2_with fail
      refine (toInts_any _ ps _ HPS.out.1 HV.out).mono ?_
      rintro e w1 ⟨v1, rfl, o1, b1⟩
      have HO1 := Lib.hid (IntsAt.of_owns o1); clear o1
      have HB1 := Lib.hid b1; clear b1
      go_wp2_with fail
      refine (toInts_any _ qs _ HPS.out.2 (HU.out.below HB1.out)).mono ?_
      rintro e w2 ⟨v2, rfl, o2, b2⟩
      have HO1b := Lib.hid (HO1.out.below b2)
      have HO2 := Lib.hid (IntsAt.of_owns o2); clear o2
      have HB2 := Lib.hid (HB1.out.trans (b2.mono HB1.out.size)); clear b2
      go_wp2_with fail
      refine (sPrefix_any v1 v2 ps qs _ (by have := HPS.out.1; omega) (by have := HPS.out.2; omega) HO1b.out HO2.out).mono ?_
      rintro e w3 ⟨rfl, b3⟩
      have HB3 := Lib.hid (HB2.out.trans (b3.mono HB2.out.size)); clear b3
      go_wp2_with fail
      refine (toInts_any _ ps _ HPS.out.1 (HV.out.below HB3.out)).mono ?_
      rintro e w4 ⟨v4, rfl, o4, b4⟩
      have HO4 := Lib.hid (IntsAt.of_owns o4); clear o4
      have HB4 := Lib.hid (HB3.out.trans (b4.mono HB3.out.size)); clear b4
      go_wp2_with fail
      refine (toInts_any _ qs _ HPS.out.2 (HU.out.below HB4.out)).mono ?_
      rintro e w5 ⟨v5, rfl, o5, b5⟩
      have HO4b := Lib.hid (HO4.out.below b5)
      have HO5 := Lib.hid (IntsAt.of_owns o5); clear o5
      have HB5 := Lib.hid (HB4.out.trans (b5.mono HB4.out.size)); clear b5
      go_wp2_with fail
      refine (iPrefix_any v4 v5 ps qs _ (by have := HPS.out.1; omega) (by have := HPS.out.2; omega) HO4b.out HO5.out).mono ?_
      rintro e w6 ⟨rfl, b6⟩
      have hq : (prefB ps qs != prefB ps qs) = false := by simp
      have HO4c := Lib.hid (HO4b.out.below b6)
      have HO5c := Lib.hid (HO5.out.below b6)
      have HB6 := Lib.hid (HB5.out.trans (b6.mono HB5.out.size)); clear b6
      go_wp2_with fail
      refine (toInts_any _ ps _ HPS.out.1 (HV.out.below HB6.out)).mono ?_
      rintro e w7 ⟨v7, rfl, o7, b7⟩
      have HO4d := Lib.hid (HO4c.out.below b7)
      have HO5d := Lib.hid (HO5c.out.below b7)
      have HO7 := Lib.hid (IntsAt.of_owns o7); clear o7
      have HB7 := Lib.hid (HB6.out.trans (b7.mono HB6.out.size)); clear b7
      go_wp2_with fail
      refine (eqInts_any v4 v7 ps _ (by have := HPS.out.1; omega) HO4d.out HO7.out).mono ?_
      rintro e w8 ⟨rfl, b8⟩
      have HO5e := Lib.hid (HO5d.out.below b8)
      have HB8 := Lib.hid (HB7.out.trans (b8.mono HB7.out.size)); clear b8
      go_wp2_with fail
      refine (toInts_any _ qs _ HPS.out.2 (HU.out.below HB8.out)).mono ?_
      rintro e w9 ⟨v9, rfl, o9, b9⟩
      have HO5f := Lib.hid (HO5e.out.below b9)
      have HO9 := Lib.hid (IntsAt.of_owns o9); clear o9
      have HB9 := Lib.hid (HB8.out.trans (b9.mono HB8.out.size)); clear b9
      go_wp2_with fail
      refine (eqInts_any v5 v9 qs _ (by have := HPS.out.2; omega) HO5f.out HO9.out).mono ?_
      rintro e w10 ⟨rfl, b10⟩
      have HB10 := Lib.hid (HB9.out.trans (b10.mono HB9.out.size)); clear b10
      go_wp2
      go_ret
      exact ⟨rfl, HB10.out⟩

theorem ownKnobs : ownKnob Try.prog.godebug = none := by kernel_rfl
theorem laidOut : laidOutB Try.prog = true := by kernel_rfl

set_option maxRecDepth 100000 in
theorem exPrefix_lifted (os : Os) (started : os.Started) (H : Type) (enc : TypeId × Value → H) :
    ReturnsInHanded {} Try.checked os 7 .any (Rows.fnExactIsPrefixSpec.pre6 enc Try.prog Try.f7 Rows.fnExactIsPrefixRow.domain false) (Rows.fnExactIsPrefixSpec.post enc Try.prog Try.f7 false true false false) := by
  refine returnsInHanded_of_change_sized (C := Try.checked) ownKnobs started (by kernel_rfl) Try.func7
    (ChangeSpec.witness6 (enc := enc) (C := Try.checked) false ⟨#[], #[.slice none 0 0, .slice none 0 0], []⟩ 8 (by kernel_rfl) (by kernel_rfl) (by kernel_rfl) (by kernel_rfl)) ?_
  intro W base args ds gs before hval0 hW _ _ _
  have hval : ∀ (j : Nat) t v, Try.f7.params[j]? = some t → args[j]? = some v → Value.okWide Try.prog W .any base t v := hval0
  have hW' := hW
  obtain ⟨p, q, hA0, hV, rfl, _, _⟩ := hW
  have hA : DataW.TrodAll enc Try.prog W 0 (fun _ => true) true Try.f7.params.toList args.toList ds p := hA0
  rw [Try.params7] at hA hval
  obtain ⟨v0, v1, d0, d1, p0, p1, rfl, rfl, rfl, h0, h1⟩ := trodAll_two hA
  obtain ⟨rfl, rfl⟩ := trodVars_none hV
  obtain ⟨ps, hpl, hp⟩ := ints_came (hval 0 27 v0 rfl rfl) h0
  obtain ⟨qs, hql, hq⟩ := ints_came (hval 1 27 v1 rfl rfl) h1
  clear hA0 hval0
  simp only [List.append_nil] at hW'
  have hlt0 : ∀ x ∈ p0, x.block < W.heap.size := fun x hx => by have := hW'.lt x (List.mem_append_left _ hx); simpa using this
  have hlt1 : ∀ x ∈ p1, x.block < W.heap.size := fun x hx => by have := hW'.lt x (List.mem_append_right _ hx); simpa using this
  refine (exPrefix_any v0 v1 ps qs W hpl hql hp hq).mono fun e W' ⟨he, hnx⟩ => ?_
  subst he
  refine ⟨_, rfl, _, _, _, [], p0 ++ p1, [], hW', ?_, ?_, rfl, hnx.frame _, fun h => by cases h⟩
  · exact trodAll_mk1 (shut_bool Try.underlying4 true)
  · exact trodAll_mk2 (Below.trod laidOut (by kernel_rfl) (of_decide_eq_true (by kernel_rfl)) h0 hnx hlt0) (Below.trod laidOut (by kernel_rfl) (of_decide_eq_true (by kernel_rfl)) h1 hnx hlt1)

/-- The law on IsPrefix. -/
theorem exPrefix_holds : Rows.FnExactIsPrefixSaid :=
  OpenClaim.holds_of_wide 7 Try.f7 rfl rfl rfl rfl rfl rfl rfl ⟨rfl, rfl, rfl, rfl, rfl⟩ rfl rfl rfl rfl rfl (by kernel_rfl) Try.func7 (by kernel_rfl)
    (of_decide_eq_true (by kernel_rfl)) (by unfold Func.isWrapper; rw [if_neg (of_decide_eq_false (by kernel_rfl))]; exact ⟨rfl, rfl⟩)
    (fun os started H enc _ => exPrefix_lifted os started H enc)
end Go.Proofs.Ytcedeniamolbmaa
