/-
  impl.SameSubst: each of two substitutions puts equal terms in the place of what the other replaces.
-/
import Derived.Test.YteelakhaaipebaaQ14
import Derived.Test.YteelakhaaipebaaQ24
import Derived.Maps.RangeWalk
namespace Go.Proofs.Yteelakhaaipebaa
open Go.RowKit Go.Maps Go.WideMaps

/-- b puts an equal term in the place of each variable that a replaces. -/
def Agree (a b : List (ByteArray × T)) : Prop := ∀ nm t, findB a nm = some t → t = (findB b nm).getD (.node 1 0 nm [])
/-- A word that tells P. -/
def TellsP (P : Prop) (w : World) (e : Ending) (w' : World) : Prop := ∃ r, e = .returned (.bool r) ∧ (r = true ↔ P) ∧ Below w.heap.size w w'

theorem invStr : ∀ key kl, keyOf Try.prog 9 key = some kl → ∃ x, key = Value.string x := fun key kl hkey => by obtain ⟨x, rfl, _⟩ := WideMaps.string_of_keyOf Try.underlying9 hkey; exact ⟨x, rfl⟩
theorem invHeld : ∀ v y, heldV v = some y → ∃ c, v = id c := fun v _ _ => ⟨v, rfl⟩
theorem keyed_name {nm nm' : ByteArray} (h : (Lit.string (key nm)).sameKey (.string (key nm')) = true) : nm = nm' := by
  have e := WideAt.sameKey_eq h
  injection e with e
  exact key_inj e

set_option maxRecDepth 100000 in
set_option maxHeartbeats 3200000 in
theorem agr_any (ba bb : Nat) (a b : List (ByteArray × T)) (la lb : List (ByteArray × Value)) (lo lo2 ha hb : Nat) (w : World) (hta : TabAt ba la w) (htb : TabAt bb lb w) (hba : BsV w lo ha a la) (hbb : BsV w lo2 hb b lb) (hwa : wBs a ≤ 1048576) (hwb : wBs b ≤ 1048576) :
    Calls Try.prog 72 #[.agg #[.map (some ba)], .agg #[.map (some bb)]] w (TellsP (Agree a b) w) := by
  obtain ⟨W0, hW0⟩ : ∃ W0, W0 = (w.alloc (.cells #[.map (some ba)] 83)).alloc (.cells #[.map (some bb)] 83) := ⟨_, rfl⟩
  have hB0 : Below w.heap.size w W0 := by rw [hW0]; exact ((Below.refl _ _).alloc (Nat.le_refl _) _).alloc (by simp) _
  have hs0 : W0.heap.size = w.heap.size + 1 + 1 := by rw [hW0]; simp
  have r1 : W0.heap[w.heap.size + 1]? = some (.cells #[.map (some bb)] 83 (0, 0)) := by rw [hW0]; exact heap_new _ _ (by simp)
  obtain ⟨D, ho, hk⟩ := hta.below hB0
  obtain ⟨n, hn⟩ : ∃ n, n = la.length := ⟨_, rfl⟩
  rw [← hn] at ho
  have hbl := ho.lt
  have hblw := hta.lt
  have HTB := Lib.hid (htb.below hB0)
  have HBA := Lib.hid (hba.below hB0)
  have HBB := Lib.hid (hbb.below hB0)
  have HK := Lib.hid hk
  have HWW := Lib.hid (And.intro hwa hwb)
  have HB0 := Lib.hid hB0
  have HS0 := Lib.hid hs0
  have HR1 := Lib.hid r1
  rw [hW0] at ho
  have HO := Lib.hid ho
  clear hta htb hba hbb hB0 r1 hn hk hwa hwb ho
  go_enter Try.func72, Try.ntmps72
  go_wp2_with (first
    | (at_range; refine wpList_range_own _ rfl _ 81 rfl 9 29 lawStrT Try.underlying81 heldV ba n D rfl HO.out ?_; intro w0 hrg0 hg0 hz0)
    | fail)
  rw [← hW0] at hrg0 hg0 hz0
  have HG0 := Lib.hid hg0
  clear hg0 HO
  go_frame
  rw [← hW0]
  clear hW0
  have hB00 : Below W0.heap.size W0 w0 := ⟨HG0.out.os, HG0.out.tape, HG0.out.output, by omega, fun i hi => HG0.out.block i hi (by simp)⟩
  have HB00 := Lib.hid hB00; clear hB00
  go_loopw [5] (fun _ wr => ∃ (left : Lit → Bool) (cnt : Nat), wr.ranges Try.prog 9 heldV ba W0.heap.size n D left cnt ∧ Hid (∀ nm t, findB a nm = some t → left (.string (key nm)) = false → t = (findB b nm).getD (.node 1 0 nm [])) ∧ Hid (Below W0.heap.size W0 wr) ∧ Hid (∀ kl, left kl = true → has D kl = true))
    (fun _ wr => wr.rangeLeft ba W0.heap.size)
  case atStart => exact ⟨_, _, hrg0, Lib.hid (fun nm t h1 h2 => by
      obtain ⟨v, hv, _⟩ := (HBA.out.first nm).2 t h1
      rw [((HK.out.2 nm).2 v hv).1] at h2; cases h2), HB00, Lib.hid (fun _ h => h)⟩
  case round =>
    obtain ⟨left, cnt, hrg, HF, HB, HL⟩ := hrel
    have HRG := Lib.hid hrg
    go_wp2_with (first
      | (at_next; go_loud (refine wpList_next_ranges _ rfl _ rfl 9 lawStrT heldV Value.string id invStr invHeld ba W0.heap.size n D left cnt rfl HRG.out ?_ ?_))
      | fail)
    · intro _ hl0
      have HE : Hid (Agree a b) := Lib.hid (fun nm t h1 => HF.out nm t h1 (hl0 _))
      clear hrg
      go_wp2
      go_ret
      exact ⟨true, rfl, ⟨fun _ => HE.out, fun _ => rfl⟩, bel_two HB0.out HB.out⟩
    · intro nm c kl y1 y2 w1 cnt1 hkey hlk hRc hat hrg1 hlt1 hg1 hs1 hen
      obtain ⟨nm', e1, rfl, hnz⟩ := WideMaps.string_of_keyOf Try.underlying9 hkey
      cases e1
      -- the entry is the first of its name
      have hhas : has D (.string (key nm)) = true := HL.out _ hlk
      obtain ⟨v0, hv0⟩ : ∃ v0, firstV la nm = some v0 := by
        cases e : firstV la nm with
        | none => have := (HK.out.2 nm).1 e; rw [this] at hhas; cases hhas
        | some v0 => exact ⟨v0, rfl⟩
      have hc0 : c = v0 := by
        have h1 := hat (.held v0)
        rw [show (Lit.string nm.data.toList) = .string (key nm) from rfl, ((HK.out.2 nm).2 v0 hv0).2] at h1
        unfold heldV at hRc
        cases hRc
        injection h1 with h1
        exact h1.symm
      obtain ⟨t, hft⟩ : ∃ t, findB a nm = some t := by
        cases e : findB a nm with
        | none => have := (HBA.out.first nm).1 e; rw [this] at hv0; cases hv0
        | some t => exact ⟨t, rfl⟩
      obtain ⟨v1, hv1, hvt⟩ := (HBA.out.first nm).2 t hft
      rw [hv0] at hv1
      cases hv1
      obtain ⟨k9, n9, s9, a9, m9, c9, hshape⟩ := hvt.shape
      rw [hshape] at hvt hc0
      subst hc0
      have hb1 : Below W0.heap.size W0 w1 := HB.out.grown hg1 HB.out.size (fun j hj => by cases hj; omega)
      have hlook := (HTB.out.below ((hb1.alloc hb1.size (.cells #[.int .i64 k9, .int .i64 n9, .string s9, .slice a9 m9 c9] 29)))).look hnz
      have hnew : ∀ nm2 t2, findB a nm2 = some t2 → (left (.string (key nm2)) && !(Lit.string (key nm2)).sameKey (.string nm.data.toList)) = false → t = (findB b nm).getD (.node 1 0 nm []) → t2 = (findB b nm2).getD (.node 1 0 nm2 []) := fun nm2 t2 h1 h2 h3 => by
        cases hl2 : left (.string (key nm2)) with
        | false => exact HF.out nm2 t2 h1 hl2
        | true =>
          rw [hl2] at h2
          have h4 : (Lit.string (key nm2)).sameKey (.string (key nm)) = true := by
            cases h5 : (Lit.string (key nm2)).sameKey (.string (key nm)) with
            | true => rfl
            | false => rw [show (Lit.string nm.data.toList) = .string (key nm) from rfl, h5] at h2; cases h2
          have h5 := keyed_name h4
          subst h5
          rw [hft] at h1; cases h1
          exact h3
      have HNEW := Lib.hid hnew
      obtain ⟨k8, n8, s8, a8, m8, c8, hsh8, hvt8⟩ : ∃ k n s a m c, (firstV lb nm).getD zTv = tv k n s (.slice a m c) ∧ (∀ t', findB b nm = some t' → (firstV lb nm).isSome = true ∧ TermAt W0 lo2 hb (tv k n s (.slice a m c)) t') := by
        obtain ⟨f1, f2⟩ := HBB.out.first nm
        cases e : findB b nm with
        | none => rw [f1 e]; exact ⟨_, _, _, _, _, _, rfl, fun t' h => by cases h⟩
        | some t' =>
          obtain ⟨v, e2, hvt'⟩ := f2 t' e
          rw [e2]
          obtain ⟨k, n, s, a, m, c, rfl⟩ := hvt'.shape
          exact ⟨k, n, s, a, m, c, rfl, fun t'' h => by cases h; exact ⟨rfl, hvt'⟩⟩
      have hsome : (firstV lb nm).isSome = (findB b nm).isSome := by
        obtain ⟨f1, f2⟩ := HBB.out.first nm
        cases e : findB b nm with
        | none => rw [f1 e]; rfl
        | some t' => obtain ⟨v, e2, _⟩ := f2 t' e; rw [e2]; rfl
      rw [hsh8, hsome] at hlook
      have q3 := (hb1.block (w.heap.size + 1) (by omega)).trans HR1.out
      have c3 := cell_of_row w1 (w.heap.size + 1) 0 _ _ _ q3
      simp at c3
      have c3a : ∀ o, (w1.alloc o).cell? ⟨w.heap.size + 1, 0, none⟩ = some (.map (some bb)) := fun o => cell_on ((Below.refl _ _).alloc (Nat.le_refl _) o) c3
      have HRG1 := Lib.hid hrg1
      have HB1 := Lib.hid hb1
      have HVT := Lib.hid hvt
      have HVT8 := Lib.hid hvt8
      have HFT := Lib.hid hft
      have HLT := Lib.hid (And.intro hlt1 hs1)
      clear hrg hrg1 hb1 hvt hvt8 hft hlt1 hs1 hnew hshape hv0 hhas hat hRc hkey hlk hg1 q3 hsh8 hsome
      cases hfb : findB b nm with
      | some t' =>
        rw [hfb] at hlook
        simp only [Option.isSome_some] at hlook
        obtain ⟨-, hvt'⟩ := HVT8.out t' hfb
        obtain ⟨Wq, hWq⟩ : ∃ Wq, Wq = (w1.alloc (.cells #[.int .i64 k9, .int .i64 n9, .string s9, .slice a9 m9 c9] 29)).alloc (.cells #[.int .i64 k8, .int .i64 n8, .string s8, .slice a8 m8 c8] 29) := ⟨_, rfl⟩
        have hbq : Below w1.heap.size w1 Wq := by rw [hWq]; exact ((Below.refl _ _).alloc (Nat.le_refl _) _).alloc (by simp) _
        have HBQ := Lib.hid hbq
        have hb0q := bel_two HB1.out hbq
        have HCALL := Lib.hid (equalTI_any (tv k9 n9 s9 (.slice a9 m9 c9)) (tv k8 n8 s8 (.slice a8 m8 c8)) t t' lo lo2 ha hb Wq (HVT.out.below hb0q) (hvt'.below hb0q) (by have := findB_w HFT.out; have := HWW.out.1; omega) (by have := findB_w hfb; have := HWW.out.2; omega))
        have HFB := Lib.hid hfb
        clear hvt' hfb hbq hb0q
        go_wp2_with fail
        rw [← hWq]
        clear hWq hlook c3 c3a hen
        refine HCALL.out.mono ?_
        rintro e w5 ⟨r, ⟨rfl, hb5⟩, hr⟩
        have HB5 := Lib.hid (bel_two HBQ.out hb5)
        clear hb5
        cases r with
        | false =>
          have HNE : Hid (¬ Agree a b) := Lib.hid (fun hA => by
            have h1 := hA nm t HFT.out
            rw [HFB.out] at h1
            have := hr.2 h1; cases this)
          clear hr
          go_wp2
          go_ret
          exact ⟨false, rfl, ⟨fun e => (by cases e), fun h => absurd h HNE.out⟩, bel_two HB0.out (bel_two HB1.out HB5.out)⟩
        | true =>
          have HEQ : Hid (t = (findB b nm).getD (.node 1 0 nm [])) := Lib.hid (by rw [HFB.out]; exact hr.1 rfl)
          have HRG5 := Lib.hid (HRG1.out.kept (Below.toGrown HB5.out none) (by simp) (by simp))
          clear hr
          go_wp2
          go_roundw
          case rel =>
            have q9 := HRG5.out
            rw [← HS0.out] at q9
            (repeat apply Exists.intro)
            refine ⟨⟨_, _, q9, Lib.hid (fun nm2 t2 h1 h2 => HNEW.out nm2 t2 h1 h2 HEQ.out), Lib.hid (bel_two HB1.out HB5.out), Lib.hid (fun kl h => HL.out kl (by simp at h; exact h.1))⟩, ?_⟩
            first | rfl | (rw [HS0.out]; rfl) | (rw [← HS0.out]; rfl) | (simp only [HS0.out]; rfl)
          case measure => first | exact (by rw [HS0.out, HRG5.out.left_eq]; have h := HRG.out.left_eq; have h2 := HLT.out.1; first | (rw [h]; exact h2) | (rw [HS0.out] at h; rw [h]; exact h2)) | fail
      | none =>
        rw [hfb] at hlook
        simp only [Option.isSome_none] at hlook
        obtain ⟨Wq, hWq⟩ : ∃ Wq, Wq = (w1.alloc (.cells #[.int .i64 k9, .int .i64 n9, .string s9, .slice a9 m9 c9] 29)).alloc (.cells #[.int .i64 1, .int .i64 0, .string nm, .slice none 0 0] 29) := ⟨_, rfl⟩
        have hbq : Below w1.heap.size w1 Wq := by rw [hWq]; exact ((Below.refl _ _).alloc (Nat.le_refl _) _).alloc (by simp) _
        have HBQ := Lib.hid hbq
        have hb0q := bel_two HB1.out hbq
        have hnw : wT (.node 1 0 nm []) ≤ 1048576 := by
          have h1 := HFT.out
          unfold findB at h1
          obtain ⟨x, hx, _⟩ := Option.map_eq_some_iff.1 h1
          obtain ⟨i, hi⟩ := List.mem_iff_getElem?.1 (List.mem_of_find?_eq_some hx)
          have h2 := wBs_mem hi
          have h3 : x.1 = nm := (same_iff _ _).1 (by have := List.find?_some hx; exact this)
          rw [wT_node, ← h3]
          have := HWW.out.1
          simp [wS]; omega
        have HCALL := Lib.hid (equalTI_any (tv k9 n9 s9 (.slice a9 m9 c9)) (tv 1 0 nm (.slice none 0 0)) t (.node 1 0 nm []) lo 0 ha 0 Wq (HVT.out.below hb0q) ⟨_, _, _, _, [], rfl, rfl, hnz, ArgsAt.nil _ _ _ _ _⟩ (by have := findB_w HFT.out; have := HWW.out.1; omega) hnw)
        have HFB := Lib.hid hfb
        clear hfb hbq hb0q hnw
        go_wp2_with fail
        rw [← hWq]
        clear hWq hlook c3 c3a hen
        refine HCALL.out.mono ?_
        rintro e w5 ⟨r, ⟨rfl, hb5⟩, hr⟩
        have HB5 := Lib.hid (bel_two HBQ.out hb5)
        clear hb5
        cases r with
        | false =>
          have HNE : Hid (¬ Agree a b) := Lib.hid (fun hA => by
            have h1 := hA nm t HFT.out
            rw [HFB.out] at h1
            have := hr.2 h1; cases this)
          clear hr
          go_wp2
          go_ret
          exact ⟨false, rfl, ⟨fun e => (by cases e), fun h => absurd h HNE.out⟩, bel_two HB0.out (bel_two HB1.out HB5.out)⟩
        | true =>
          have HEQ : Hid (t = (findB b nm).getD (.node 1 0 nm [])) := Lib.hid (by rw [HFB.out]; exact hr.1 rfl)
          have HRG5 := Lib.hid (HRG1.out.kept (Below.toGrown HB5.out none) (by simp) (by simp))
          clear hr
          go_wp2
          go_roundw
          case rel =>
            have q9 := HRG5.out
            rw [← HS0.out] at q9
            (repeat apply Exists.intro)
            refine ⟨⟨_, _, q9, Lib.hid (fun nm2 t2 h1 h2 => HNEW.out nm2 t2 h1 h2 HEQ.out), Lib.hid (bel_two HB1.out HB5.out), Lib.hid (fun kl h => HL.out kl (by simp at h; exact h.1))⟩, ?_⟩
            first | rfl | (rw [HS0.out]; rfl) | (rw [← HS0.out]; rfl) | (simp only [HS0.out]; rfl)
          case measure => first | exact (by rw [HS0.out, HRG5.out.left_eq]; have h := HRG.out.left_eq; have h2 := HLT.out.1; first | (rw [h]; exact h2) | (rw [HS0.out] at h; rw [h]; exact h2)) | fail
end Go.Proofs.Yteelakhaaipebaa
