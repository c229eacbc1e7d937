/-
  impl.SameSubst.
-/
import Derived.Test.YtkgpkphacjjlgaaQ24
namespace Go.Proofs.Ytkgpkphacjjlgaa
open Go.RowKit Go.Maps Go.WideMaps

/-- Do both substitutions put equal terms in the place of what either replaces? -/
noncomputable def sameB (a b : List (ByteArray × T)) : Bool := @decide (Agree a b ∧ Agree b a) (Classical.propDecidable _)
theorem sameB_iff {a b : List (ByteArray × T)} : sameB a b = true ↔ (Agree a b ∧ Agree b a) := by
  unfold sameB
  exact @decide_eq_true_iff _ (Classical.propDecidable _)
def SaysB (r : Bool) (w : World) (e : Ending) (w' : World) : Prop := e = .returned (.bool r) ∧ Below w.heap.size w w'

set_option maxRecDepth 100000 in
set_option maxHeartbeats 3200000 in
theorem iSame_any (u v : Value) (a b : List (ByteArray × T)) (lo lo2 ha hb : Nat) (w : World) (hwa : wBs a ≤ 1048576) (hwb : wBs b ≤ 1048576) (hu : BsAt w lo ha u a) (hv : BsAt w lo2 hb v b) :
    Calls Try.prog 23 #[u, v] w (SaysB (sameB a b) w) := by
  have hla := wBs_len a
  have hlb := wBs_len b
  obtain ⟨la, hba, hc1⟩ := subOf_any u a lo ha w (by omega) hu
  have HSB : Hid (∀ w1, Below w.heap.size w w1 → ∃ l, BsV w1 lo2 hb b l ∧ Calls Try.prog 55 #[v] w1 (SubE l w1)) := Lib.hid (fun w1 h => subOf_any v b lo2 hb w1 (by omega) (hv.below h))
  have HBA := Lib.hid hba; have HC1 := Lib.hid hc1
  have HW := Lib.hid (And.intro hwa hwb)
  clear hba hc1 hla hlb hu hv hwa hwb
  go_enter Try.func23, Try.ntmps23
  go_wp2_with fail
  refine HC1.out.mono ?_
  rintro e w1 ⟨ba, rfl, hbal, hta, hb1⟩
  obtain ⟨lb, hbb, hc2⟩ := HSB.out w1 hb1
  have HC2 := Lib.hid hc2; have HBB := Lib.hid hbb
  have HTA := Lib.hid hta; have HB1 := Lib.hid hb1
  clear hc2 hbb hta hb1 HSB HC1
  go_wp2_with fail
  refine HC2.out.mono ?_
  rintro e w2 ⟨bb, rfl, hbbl, htb, hb2⟩
  obtain ⟨W0, hW0⟩ : ∃ W0, W0 = (w2.alloc (.cells #[.map (some ba)] 84)).alloc (.cells #[.map (some bb)] 84) := ⟨_, rfl⟩
  have h20 : Below w2.heap.size w2 W0 := by rw [hW0]; exact ((Below.refl _ _).alloc (Nat.le_refl _) _).alloc (by simp) _
  have hs0 : W0.heap.size = w2.heap.size + 2 := by rw [hW0]; simp
  have hb20 := bel_two HB1.out hb2
  have HB0 := Lib.hid (bel_two hb20 h20)
  have HTA0 := Lib.hid ((HTA.out.below hb2).below h20)
  have HTB0 := Lib.hid (htb.below h20)
  have HBA0 := Lib.hid (HBA.out.below HB0.out)
  have HBB0 := Lib.hid ((HBB.out.below hb2).below h20)
  have r0 : W0.heap[w2.heap.size]? = some (.cells #[.map (some ba)] 84 (0, 0)) := by rw [hW0, Below.heap_alloc _ _ _ (by simp)]; exact heap_new _ _ rfl
  have r1 : W0.heap[w2.heap.size + 1]? = some (.cells #[.map (some bb)] 84 (0, 0)) := by rw [hW0]; exact heap_new _ _ (by simp)
  have c0 := cell_of_row W0 w2.heap.size 0 _ _ _ r0
  have c1 := cell_of_row W0 (w2.heap.size + 1) 0 _ _ _ r1
  simp at c0 c1
  have HC3 := Lib.hid (agr_any ba bb a b la lb lo lo2 ha hb W0 HTA0.out HTB0.out HBA0.out HBB0.out HW.out.1 HW.out.2)
  have HCC : Hid (∀ w', Below W0.heap.size W0 w' → w'.cell? ⟨w2.heap.size, 0, none⟩ = some (.map (some ba)) ∧ w'.cell? ⟨w2.heap.size + 1, 0, none⟩ = some (.map (some bb))) := Lib.hid (fun w' h => ⟨cell_on h c0, cell_on h c1⟩)
  clear hbal hbbl htb hb2 hb20 h20 hs0 HTA HB1 HC2 HBA HBB r0 r1
  go_upto_region 2 with fail
  rw [← hW0]
  clear hW0
  go_wp2_with fail
  refine HC3.out.mono ?_
  rintro e w3 ⟨r, rfl, hr, hb3⟩
  obtain ⟨c2, c3⟩ := HCC.out w3 hb3
  have HC4 := Lib.hid (agr_any bb ba b a lb la lo2 lo hb ha w3 (HTB0.out.below hb3) (HTA0.out.below hb3) (HBB0.out.below hb3) (HBA0.out.below hb3) HW.out.2 HW.out.1)
  have HB3 := Lib.hid (bel_two HB0.out hb3)
  have HR := Lib.hid hr
  clear c0 c1 hb3 hr
  cases r with
  | false =>
    have hres : sameB a b = false := by
      cases h : sameB a b with
      | false => rfl
      | true => have := HR.out.2 (sameB_iff.1 h).1; cases this
    have HRES := Lib.hid hres
    clear hres
    go_wp2
    go_ret
    rw [HRES.out]
    exact ⟨rfl, HB3.out⟩
  | true =>
    have HT := Lib.hid (HR.out.1 rfl)
    go_wp2_with fail
    refine HC4.out.mono ?_
    rintro e w4 ⟨r4, rfl, hr4, hb4⟩
    have hres : sameB a b = r4 := by
      cases r4 with
      | true => exact sameB_iff.2 ⟨HT.out, hr4.1 rfl⟩
      | false =>
        cases h : sameB a b with
        | false => rfl
        | true => have := hr4.2 (sameB_iff.1 h).2; cases this
    have HRES := Lib.hid hres
    have HB4 := Lib.hid (bel_two HB3.out hb4)
    clear hres hr4 hb4
    go_wp2
    go_ret
    rw [HRES.out]
    exact ⟨rfl, HB4.out⟩
end Go.Proofs.Ytkgpkphacjjlgaa
