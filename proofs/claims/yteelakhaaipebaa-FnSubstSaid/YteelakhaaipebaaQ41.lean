/-
  spec.SameSubst.
-/
import Derived.Test.YteelakhaaipebaaQ26
import Derived.Test.YteelakhaaipebaaQ40
import Derived.Test.YteelakhaaipebaaQ34
import Derived.Test.YteelakhaaipebaaQ3
import Derived.Test.YteelakhaaipebaaQ21
namespace Go.Proofs.Yteelakhaaipebaa
open Go.RowKit Go.Maps Go.WideMaps

/-- What a substitution puts in a variable's place. -/
def appV (a : List (ByteArray × T)) (nm : ByteArray) : T := (findB a nm).getD (.node 1 0 nm [])
theorem appV_map (a : List (ByteArray × T)) (nm : ByteArray) : mapT (findB a) (fun s => s) (.node 1 0 nm []) = appV a nm := by
  rw [mapT_node, if_pos rfl]
  unfold appV
  cases findB a nm <;> rfl
theorem findB_mem {bs : List (ByteArray × T)} {nm : ByteArray} {t : T} (h : findB bs nm = some t) : ∃ x ∈ bs, x.1 = nm := by
  unfold findB at h
  obtain ⟨x, hx, rfl⟩ := Option.map_eq_some_iff.1 h
  exact ⟨x, List.mem_of_find?_eq_some hx, (same_iff _ _).1 (by have := List.find?_some hx; exact this)⟩
theorem findB_some {bs : List (ByteArray × T)} {x : ByteArray × T} (h : x ∈ bs) : ∃ t, findB bs x.1 = some t := by
  unfold findB
  cases e : bs.find? (fun y => y.1.toList == x.1.toList) with
  | none => exact absurd ((same_iff x.1 x.1).2 rfl) (by have := List.find?_eq_none.1 e x h; simp at this)
  | some y => exact ⟨y.2, rfl⟩
theorem agree_iff (a b : List (ByteArray × T)) : (Agree a b ∧ Agree b a) ↔ ∀ x ∈ a ++ b, appV a x.1 = appV b x.1 := by
  constructor
  · rintro ⟨h1, h2⟩ x hx
    cases e : findB a x.1 with
    | some t => rw [appV, e]; exact h1 _ _ e
    | none =>
      rcases List.mem_append.1 hx with h | h
      · obtain ⟨t, ht⟩ := findB_some h; rw [e] at ht; cases ht
      · obtain ⟨t, ht⟩ := findB_some h
        have := h2 _ _ ht
        rw [e] at this
        rw [appV, e, appV, ht]; exact this.symm
  · intro h
    refine ⟨fun nm t e => ?_, fun nm t e => ?_⟩
    · obtain ⟨x, hx, rfl⟩ := findB_mem e
      have := h x (List.mem_append_left _ hx)
      unfold appV at this
      rw [e] at this; exact this
    · obtain ⟨x, hx, rfl⟩ := findB_mem e
      have := h x (List.mem_append_right _ hx)
      unfold appV at this
      rw [e] at this; exact this.symm
theorem appV_w {bs : List (ByteArray × T)} {nm : ByteArray} (h : wBs bs ≤ 1048576) (hn : nm.size ≤ 1048576) : wT (appV bs nm) ≤ 1048576 := by
  unfold appV
  cases e : findB bs nm with
  | none => simp only [Option.getD_none]; rw [wT_node]; simp [wS]; try omega
  | some t => have := findB_w e; simp only [Option.getD_some]; omega

set_option maxRecDepth 100000 in
set_option maxHeartbeats 3200000 in
theorem sSameS_any (u v : Value) (a b : List (ByteArray × T)) (lo lo2 ha hb : Nat) (w : World) (hwa : wBs a ≤ 1048576) (hwb : wBs b ≤ 1048576) (hu : BsAt w lo ha u a) (hv : BsAt w lo2 hb v b) :
    Calls Try.prog 24 #[u, v] w (SaysB (sameB a b) w) := by
  have hla := wBs_len a
  have hlb := wBs_len b
  obtain ⟨W0, hW0⟩ : ∃ W0, W0 = w.alloc (.cells #[] 86) := ⟨_, rfl⟩
  have hb0 : Below w.heap.size w W0 := by rw [hW0]; exact (Below.refl _ _).alloc (Nat.le_refl _) _
  have ho0 : W0.ownsRow w.heap.size 86 5 (.slice (some ⟨w.heap.size, 0, none⟩) 0 0) 0 [] := by rw [hW0]; exact World.ownsRow_lit (base := w.heap.size) (size := 5) (e := 86) w #[] 0 (Nat.le_refl _) (by decide) rfl
  obtain ⟨v1, w1, n1, hr1, ho1, hg1, hn1, hx1⟩ := row_app ho0 (hu.below hb0) (by omega) hb0.size
  have hb1 : Below w.heap.size w w1 := hb0.grown hg1 hb0.size (fun j hj => by simp [Value.ownBlock] at hj; omega)
  obtain ⟨v2, w2, n2, hr2, ho2, hg2, hn2, hx2⟩ := row_app ho1 (hv.below hb1) (by omega) hb1.size
  have hb2 : Below w.heap.size w w2 := hb1.grown hg2 hb1.size (fun j hj => (ho1.lt j hj).1)
  rw [Nat.zero_add, List.nil_append] at ho2
  rw [Nat.zero_add, List.nil_append] at ho1
  obtain ⟨n, hn⟩ : ∃ n, n = a.length + b.length := ⟨_, rfl⟩
  rw [← hn] at ho2
  obtain ⟨g, o, c, rfl, hcells⟩ : ∃ g o c, v2 = .slice g n c ∧ (0 < n → ∃ gb, g = some ⟨gb, o, none⟩ ∧ ∀ (k : Nat) (x : ByteArray × T), (a ++ b)[k]? = some x → w2.cell? ⟨gb, o + k * 5, none⟩ = some (.string x.1)) := by
    obtain ⟨g, c, rfl⟩ := own_form ho2
    refine ⟨g, 0, c, rfl, fun h0 => ?_⟩
    rcases ho2.2 with ⟨e, h⟩ | ⟨gb, cap, cur, e, _⟩
    · omega
    · cases e
      refine ⟨gb, rfl, fun k x hx => ?_⟩
      have hcs := ho2.cells (g := gb) rfl (k * 5) (.string x.1) (by
        by_cases hk : k < a.length
        · rw [List.getElem?_append_left hk] at hx
          rw [List.getElem?_append_left (by omega)]
          exact hx1 k x hx
        · rw [List.getElem?_append_right (by omega)] at hx
          rw [List.getElem?_append_right (by omega)]
          have := hx2 _ x hx
          rw [hn1, show k * 5 - a.length * 5 = (k - a.length) * 5 by omega]; exact this)
      have e : (⟨gb, 0, none⟩ : Addr).add (k * 5) = ⟨gb, 0 + k * 5, none⟩ := by
        unfold Addr.add
        split
        · rename_i h0; rw [h0]
        · rfl
      rw [e] at hcs; exact hcs
  have HU := Lib.hid hu; have HV := Lib.hid hv
  have HW := Lib.hid (And.intro hwa hwb)
  have HB2 := Lib.hid hb2
  have HCL := Lib.hid hcells
  have HN : Hid (n = a.length + b.length ∧ n = (a ++ b).length) := Lib.hid ⟨hn, by rw [List.length_append]; exact hn⟩
  have hnl : n ≤ 2097152 := by omega
  have HR1 := Lib.hid hr1; have HR2 := Lib.hid hr2
  obtain ⟨ua, uc, rfl⟩ := hu.slice
  obtain ⟨va, vc, rfl⟩ := hv.slice
  obtain ⟨na, hna⟩ : ∃ n, n = a.length := ⟨_, rfl⟩
  obtain ⟨nb, hnb⟩ : ∃ n, n = b.length := ⟨_, rfl⟩
  rw [← hna] at HU HR1 ⊢
  rw [← hnb] at HV HR2 ⊢
  clear hu hv hwa hwb hla hlb hb0 ho0 hb1 hb2 ho1 ho2 hg1 hg2 hn1 hn2 hx1 hx2 hcells hn hna hnb hr1 hr2
  go_enter Try.func24, Try.ntmps24
  go_wp2_with (first | (at_builtin; first | (refine Lib.wpList_append_run _ rfl (.tmp 8) (.tmp 9) _ _ rfl _ _ rfl rfl _ _ (by rw [← hW0]; exact HR1.out) ?_) | (refine Lib.wpList_append_run _ rfl (.tmp 10) (.tmp 11) _ _ rfl _ _ rfl rfl _ _ HR2.out ?_)))
  clear hW0 HR1 HR2 W0
  go_loopw [6] (fun i wr => ∃ k : Nat, k ≤ n ∧ i = .int .i64 k ∧ Hid (∀ (j : Nat) (x : ByteArray × T), j < k → (a ++ b)[j]? = some x → appV a x.1 = appV b x.1) ∧ Hid (Below w2.heap.size w2 wr)) (fun i _ => n - (intOf i).toNat)
  case atStart => exact ⟨0, Nat.zero_le _, rfl, Lib.hid (fun j x h => absurd h (Nat.not_lt_zero _)), Lib.hid (Below.refl _ _)⟩
  case round =>
    obtain ⟨k, hk, rfl, HF, HB⟩ := hrel
    by_cases hlt : k < n
    · obtain ⟨x, hx⟩ : ∃ x, (a ++ b)[k]? = some x := ⟨_, List.getElem?_eq_getElem (by have := HN.out.2; omega)⟩
      obtain ⟨gb, rfl, hcs⟩ := HCL.out (by omega)
      obtain ⟨nm, t0⟩ := x
      have c0 := cell_on HB.out (hcs k _ hx)
      simp only at c0
      have hnm : nm.size ≤ 1048576 := by
        rcases List.mem_append.1 (List.mem_iff_getElem?.2 ⟨k, hx⟩) with h | h
        · obtain ⟨i, hi⟩ := List.mem_iff_getElem?.1 h
          have h2 := wBs_mem hi; have := HW.out.1; simp only at h2; omega
        · obtain ⟨i, hi⟩ := List.mem_iff_getElem?.1 h
          have h2 := wBs_mem hi; have := HW.out.2; simp only at h2; omega
      have HX := Lib.hid hx
      have HNM := Lib.hid hnm
      clear hcs hx hnm
      go_wp2_with fail
      refine (l3Var_any nm _).mono ?_
      rintro e wv ⟨rfl, hbv⟩
      obtain ⟨W7, hW7⟩ : ∃ W7, W7 = wv.alloc (.cells #[.int .i64 1, .int .i64 0, .string nm, .slice none 0 0] 29) := ⟨_, rfl⟩
      have hb7 : Below wr.heap.size wr W7 := by rw [hW7]; exact hbv.alloc hbv.size _
      have r7 : W7.heap[wv.heap.size]? = some (trow 1 0 nm (.slice none 0 0)) := by rw [hW7]; exact heap_new _ _ rfl
      have hbw := HB2.out.trans ((HB.out.trans (hb7.mono HB.out.size)).mono HB2.out.size)
      have HBW := Lib.hid hbw
      have HB7 := Lib.hid (HB.out.trans (hb7.mono HB.out.size))
      have HC7 : Hid (∀ w', Below W7.heap.size W7 w' → w'.cell? ⟨wv.heap.size, 0, none⟩ = some (.int .i64 1) ∧ w'.cell? ⟨wv.heap.size, 1, none⟩ = some (.int .i64 0) ∧ w'.cell? ⟨wv.heap.size, 2, none⟩ = some (.string nm) ∧ w'.cell? ⟨wv.heap.size, 3, none⟩ = some (.slice none 0 0)) := Lib.hid (fun w' hb' => by
        obtain ⟨⟨y0, y1, y2, y3⟩, _⟩ := cells_of4 r7
        exact ⟨cell_on hb' y0, cell_on hb' y1, cell_on hb' y2, cell_on hb' y3⟩)
      have hvar : ∀ W, TermAt W 0 0 (tv 1 0 nm (.slice none 0 0)) (.node 1 0 nm []) := fun W => ⟨_, _, _, _, [], rfl, rfl, by have := HNM.out; unfold maxLen; omega, ArgsAt.nil _ _ _ _ _⟩
      have hwv : wT (.node 1 0 nm []) ≤ 1048576 := by rw [wT_node]; have := HNM.out; simp [wS]; try omega
      have HCA : Hid (∀ w', Below W7.heap.size W7 w' → Calls Try.prog 64 #[.slice ua na uc, tv 1 0 nm (.slice none 0 0)] w' (LCopyT (0 + ha + 1) (appV a nm) w')) := Lib.hid (fun w' hb' => by
        have q := sApp_any a HW.out.1 ha 0 (.slice ua na uc) (tv 1 0 nm (.slice none 0 0)) (.node 1 0 nm []) lo 0 w' ((HU.out.below hbw).below hb') (hvar _) hwv
        rw [appV_map] at q; exact q)
      have HCB : Hid (∀ w', Below W7.heap.size W7 w' → Calls Try.prog 64 #[.slice va nb vc, tv 1 0 nm (.slice none 0 0)] w' (LCopyT (0 + hb + 1) (appV b nm) w')) := Lib.hid (fun w' hb' => by
        have q := sApp_any b HW.out.2 hb 0 (.slice va nb vc) (tv 1 0 nm (.slice none 0 0)) (.node 1 0 nm []) lo2 0 w' ((HV.out.below hbw).below hb') (hvar _) hwv
        rw [appV_map] at q; exact q)
      have HD7 : Hid (Below W7.heap.size W7 W7.drew) := Lib.hid (Below.drew (Below.refl _ _))
      have HWA := Lib.hid (appV_w (nm := nm) HW.out.1 HNM.out)
      clear hb7 r7 hbw hvar hwv hbv
      go_upto_region 6 with fail
      rw [← hW7]
      clear hW7
      obtain ⟨d0, d1, d2, d3⟩ := HC7.out _ (Below.refl _ _)
      go_wp2
      have HF0 := Lib.hid True.intro
      go_region_law (first
        | (clear HF0; go_simp; go_at_call 64; refine (HCA.out _ HD7.out).mono ?_; rintro e wa ⟨ka, nna, sa, aa, ma, ca, rfl, hta, hba⟩; have hba7 := HD7.out.trans (hba.mono HD7.out.size); obtain ⟨x0, x1, x2, x3⟩ := HC7.out _ hba7; have HTA := Lib.hid hta; have HBA := Lib.hid hba7; clear hta hba hba7; have HFA := Lib.hid True.intro)
        | (clear HFA; go_simp; go_at_call 64; refine (HCB.out _ HBA.out).mono ?_; rintro e wb ⟨kb, nnb, sb, ab, mb, cb, rfl, htb, hbb⟩; have HTA2 := Lib.hid (HTA.out.below hbb); have HTB := Lib.hid htb; have HBB := Lib.hid (HBA.out.trans (hbb.mono HBA.out.size)); clear htb hbb; have HFB := Lib.hid True.intro)
        | (clear HFB; go_simp; go_at_call 15; refine (sSame_any _ _ _ _ _ _ _ _ _ HTA2.out HTB.out HWA.out).mono ?_; rintro e we ⟨r, ⟨rfl, hbe⟩, hr⟩; have HBE := Lib.hid (HBB.out.trans (hbe.mono HBB.out.size)); have HR := Lib.hid hr; clear hbe hr))
      all_goals cases r with
        | false =>
          have HRES : Hid (sameB a b = false) := Lib.hid (by
            cases e : sameB a b with
            | false => rfl
            | true =>
              have h1 := (agree_iff a b).1 (sameB_iff.1 e) _ (List.mem_iff_getElem?.2 ⟨k, HX.out⟩)
              have h2 := HR.out.2 h1
              cases h2)
          have HB9 := Lib.hid (bel_two HBW.out HBE.out)
          go_wp2
          go_ret
          rw [HRES.out]
          exact ⟨rfl, HB9.out⟩
        | true =>
          have HEQ : Hid (appV a nm = appV b nm) := Lib.hid (HR.out.1 rfl)
          have HB9 := Lib.hid (bel_two HB7.out HBE.out)
          have HF9 : Hid (∀ (j : Nat) (x : ByteArray × T), j < k + 1 → (a ++ b)[j]? = some x → appV a x.1 = appV b x.1) := Lib.hid (fun j x hj hx => by
            rcases (by omega : j < k ∨ j = k) with h | h
            · exact HF.out j x h hx
            · subst h
              rw [HX.out] at hx
              cases hx
              exact HEQ.out)
          clear HR
          go_wp2
          go_roundw
          case rel => exact ⟨k + 1, by omega, by go_num, HF9, HB9⟩
          case measure => simp [intOf]; omega
    · have hkn : k = n := by omega
      subst hkn
      have HRES : Hid (sameB a b = true) := Lib.hid (sameB_iff.2 ((agree_iff a b).2 (fun x hx => by
        obtain ⟨j, hj⟩ := List.mem_iff_getElem?.1 hx
        exact HF.out j x (by have := (List.getElem?_eq_some_iff.1 hj).1; have := HN.out.2; omega) hj)))
      have HB9 := Lib.hid (bel_two HB2.out HB.out)
      go_wp2
      go_ret
      rw [HRES.out]
      exact ⟨rfl, HB9.out⟩
end Go.Proofs.Yteelakhaaipebaa
