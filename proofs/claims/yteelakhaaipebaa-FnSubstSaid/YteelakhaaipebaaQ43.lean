/-
  laws.FnSubst answers true at every draw: its walk.
-/
import Derived.Test.YteelakhaaipebaaQ34
import Derived.Test.YteelakhaaipebaaQ36
import Derived.Test.YteelakhaaipebaaQ38
import Derived.Test.YteelakhaaipebaaQ39
import Derived.Test.YteelakhaaipebaaQ41
import Derived.Test.YteelakhaaipebaaQ42
import Derived.Test.YteelakhaaipebaaQ30
import Derived.Test.YteelakhaaipebaaQ21
import Derived.Test.YteelakhaaipebaaQ6
import Derived.Deep.RegionHeld3
namespace Go.Proofs.Yteelakhaaipebaa
open Go.RowKit

theorem wS_map (f : T → T) (M : Nat) (xs : List T) (h : ∀ x ∈ xs, wT (f x) ≤ wT x * (M + 1) + M) : wS (xs.map f) ≤ wS xs * (M + 1) + xs.length * M := by
  induction xs with
  | nil => simp [wS]
  | cons x r ih =>
    have h1 := h x (by simp)
    have h2 := ih (fun y hy => h y (by simp [hy]))
    simp only [wS, List.map_cons, List.sum_cons, List.length_cons, Nat.add_mul] at *
    omega
theorem wT_map (F : ByteArray → Option T) (M : Nat) (hF : ∀ s u, F s = some u → wT u ≤ M) : ∀ t, wT (mapT F (fun s => s) t) ≤ wT t * (M + 1) + M
  | .node k n s xs => by
    have hm : wS (xs.map (mapT F (fun s => s))) ≤ wS xs * (M + 1) + xs.length * M := wS_map _ M xs fun x _ => wT_map F M hF x
    have hn : wT (.node k n s (xs.map (mapT F (fun s => s)))) ≤ wT (.node k n s xs) * (M + 1) + M := by
      rw [wT_node, wT_node, List.length_map]
      simp only [Nat.add_mul, Nat.mul_add, Nat.mul_one] at *
      omega
    rw [mapT_node]
    split
    · split
      · rename_i u hu
        have := hF _ _ hu
        omega
      · exact hn
    · exact hn
theorem findB_mem7 {bs : List (ByteArray × T)} {s : ByteArray} {t : T} (h : findB bs s = some t) : ∃ x ∈ bs, x.2 = t := by
  unfold findB at h
  obtain ⟨x, hx, rfl⟩ := Option.map_eq_some_iff.1 h
  exact ⟨x, List.mem_of_find?_eq_some hx, rfl⟩
theorem small_find {bs : List (ByteArray × T)} (h : Small7 bs) : ∀ s u, findB bs s = some u → wT u ≤ 13 := fun s u hf => by
  obtain ⟨x, hx, rfl⟩ := findB_mem7 hf
  exact (h.2 x hx).2
theorem comp_mem {a b : List (ByteArray × T)} (ha : Small7 a) (hb : Small7 b) : ∀ x ∈ compB a b, x.1.size ≤ 1 ∧ wT x.2 ≤ 195 := by
  intro x hx
  unfold compB at hx
  rcases List.mem_append.1 hx with h | h
  · obtain ⟨y, hy, rfl⟩ := List.mem_map.1 h
    have h1 := ha.2 y hy
    have h2 := wT_map (findB b) 13 (small_find hb) y.2
    exact ⟨h1.1, by simp only; omega⟩
  · have h1 := hb.2 x (List.mem_filter.1 h).1
    exact ⟨h1.1, by omega⟩
theorem wBs_all {bs : List (ByteArray × T)} {M : Nat} (h : ∀ x ∈ bs, x.1.size ≤ 1 ∧ wT x.2 ≤ M) : wBs bs ≤ bs.length * (M + 2) := by
  induction bs with
  | nil => simp [wBs]
  | cons x r ih =>
    have h1 := h x (by simp)
    have h2 := ih (fun y hy => h y (by simp [hy]))
    simp only [wBs, List.length_cons, List.map_cons, List.sum_cons, Nat.add_mul] at *
    omega
theorem comp_len {a b : List (ByteArray × T)} (ha : Small7 a) (hb : Small7 b) : (compB a b).length ≤ 6 := by
  unfold compB
  rw [List.length_append, List.length_map]
  have := List.length_filter_le (fun x : ByteArray × T => (findB a x.1).isNone) b
  have := ha.1; have := hb.1
  omega
theorem rest_mem {a : List (ByteArray × T)} {rs : List ByteArray} (ha : Small7 a) : ∀ x ∈ restB a rs, wT x.2 ≤ 1048576 := by
  intro x hx
  unfold restB at hx
  obtain ⟨nm, _, h⟩ := List.mem_filterMap.1 hx
  obtain ⟨t, ht, rfl⟩ := Option.map_eq_some_iff.1 h
  have := small_find ha _ _ ht
  show wT t ≤ _
  omega

/-- A term to be read, from then on. -/
def TermGot (H : Nat) (r : T) (w : World) (e : Ending) (w' : World) : Prop := ∃ k n s a m c, e = .returned (tv k n s (.slice a m c)) ∧ TermAt w' 0 H (tv k n s (.slice a m c)) r ∧ Below w.heap.size w w'
theorem CopyR.got {H : Nat} {r : T} {w : World} {e : Ending} {w' : World} (h : CopyR H r w e w') : TermGot H r w e w' := by
  obtain ⟨k, n, s, u, xs, rfl, rfl, hs, ho, hb⟩ := h
  obtain ⟨a, c, rfl⟩ := ho.slice
  exact ⟨k, n, s, a, _, c, rfl, ⟨k, n, s, _, xs, rfl, rfl, hs, ho.args (Nat.zero_le _)⟩, hb⟩
theorem TermAt.drew {w : World} {lo h : Nat} {v : Value} {t : T} (k : TermAt w lo h v t) : TermAt w.drew lo h v t := k.below (Below.drew (Below.refl _ _))

set_option maxRecDepth 100000 in
set_option maxHeartbeats 6400000 in
theorem subst_any (a0 : Option Addr) (len cap : Nat) (w : World) (hcode : len ≤ 1048576 → CodeAt w w.heap.size (.slice a0 len cap) len) :
    Calls Try.prog 3 #[.slice a0 len cap] w (TrueEnd w) := by
  have HC := Lib.hid hcode; clear hcode
  by_cases hbig : 1048576 < len
  · have hd : decide (1048576 < len) = true := by simpa using hbig
    have HK := Lib.hid (big_any a0 len cap w)
    rw [hd] at HK
    go_enter Try.func3, Try.ntmps3
    go_wp2_with fail
    refine HK.out.mono ?_
    rintro e w1 ⟨rfl, rfl⟩
    go_wp2
    go_ret
    exact ⟨rfl, Below.refl _ _⟩
  have hd : decide (1048576 < len) = false := by simpa using hbig
  have HK := Lib.hid (big_any a0 len cap w)
  rw [hd] at HK
  have HC1 := Lib.hid (HC.out (by omega))
  go_enter Try.func3, Try.ntmps3
  go_wp2_with fail
  refine HK.out.mono ?_
  rintro e w0 ⟨rfl, rfl⟩
  clear HK hd hbig HC
  go_wp2_with fail
  refine (drawComp_any _ len _ HC1.out).mono ?_
  rintro e w1 ⟨u, v, a, b, rfl, hu, hv, hsa, hsb, hb1⟩
  obtain ⟨ua, uc, rfl⟩ := hu.slice
  obtain ⟨va, vc, rfl⟩ := hv.slice
  obtain ⟨na, hna⟩ : ∃ m, m = a.length := ⟨_, rfl⟩
  obtain ⟨nb, hnb⟩ : ∃ m, m = b.length := ⟨_, rfl⟩
  rw [← hna] at hu ⊢
  rw [← hnb] at hv ⊢
  have HU := Lib.hid hu; have HV := Lib.hid hv; have HSA := Lib.hid hsa; have HSB := Lib.hid hsb; have HB1 := Lib.hid hb1
  clear hu hv hsa hsb hb1 hna hnb
  go_wp2_with fail
  refine (drawApp_any _ len _ (HC1.out.below HB1.out)).mono ?_
  rintro e w2 ⟨u2, a2, k, n, s, ta, tm, tc, t, h, rfl, hu2, _, ht, hw, hb2⟩
  obtain ⟨ua2, uc2, rfl⟩ := hu2.slice
  clear hu2
  obtain ⟨n2, hn2⟩ : ∃ m, m = a2.length := ⟨_, rfl⟩
  rw [← hn2]
  clear hn2
  obtain ⟨W3, hW3⟩ : ∃ W3, W3 = w2.alloc (.cells #[.int .i64 k, .int .i64 n, .string s, .slice ta tm tc] 29) := ⟨_, rfl⟩
  have hb3 : Below w2.heap.size w2 W3 := by rw [hW3]; exact boxed_below _ _ _ _ _
  have r3 : W3.heap[w2.heap.size]? = some (trow k n s (.slice ta tm tc)) := by rw [hW3]; exact heap_new _ _ rfl
  have hb13 := bel_two hb2 hb3
  have HB3 := Lib.hid (bel_two HB1.out hb13)
  have HA3 := Lib.hid (HU.out.below hb13)
  have HBB3 := Lib.hid (HV.out.below hb13)
  have HT3 := Lib.hid (ht.below hb3)
  have HR3 := Lib.hid r3
  have HWT : Hid (wT t ≤ 1000) := Lib.hid hw
  have HWA : Hid (wBs a ≤ 1048576 ∧ wBs b ≤ 1048576) := Lib.hid ⟨by have := small7_w HSA.out; omega, by have := small7_w HSB.out; omega⟩
  have HCC := Lib.hid (compI_any _ _ a b _ _ 2 2 W3 HWA.out.1 HWA.out.2 HA3.out HBB3.out)
  clear ht hw hb2 hb3 r3 hb13
  go_upto_region 5 with fail
  rw [← hW3]
  clear hW3
  go_wp2_with fail
  refine HCC.out.mono ?_
  rintro e w5 ⟨cv, H5, rfl, ⟨hcv, _⟩, hb5⟩
  obtain ⟨ca, cc, rfl⟩ := hcv.slice
  obtain ⟨nc, hnc⟩ : ∃ m, m = (compB a b).length := ⟨_, rfl⟩
  rw [← hnc] at hcv ⊢
  clear hnc
  have HA5 := Lib.hid (HA3.out.below hb5)
  have HB5 := Lib.hid (HBB3.out.below hb5)
  have HC5 := Lib.hid hcv
  have HT5 := Lib.hid (HT3.out.below hb5)
  have HBX := Lib.hid (bel_two HB3.out hb5)
  have HC4 : Hid (∀ w', Below w5.heap.size w5 w' → w'.cell? ⟨w2.heap.size, 0, none⟩ = some (.int .i64 k) ∧ w'.cell? ⟨w2.heap.size, 1, none⟩ = some (.int .i64 n) ∧ w'.cell? ⟨w2.heap.size, 2, none⟩ = some (.string s) ∧ w'.cell? ⟨w2.heap.size, 3, none⟩ = some (.slice ta tm tc) ∧ Below w5.heap.size w5 w') := Lib.hid (fun w' hb' => by
    have r5 := (hb5.block _ (Array.getElem?_eq_some_iff.1 HR3.out).1).trans HR3.out
    obtain ⟨⟨y0, y1, y2, y3⟩, _⟩ := cells_of4 r5
    exact ⟨cell_on hb' y0, cell_on hb' y1, cell_on hb' y2, cell_on hb' y3, hb'⟩)
  have HWC : Hid (wBs (compB a b) ≤ 1048576) := Lib.hid (by have h1 := wBs_all (comp_mem HSA.out HSB.out); have h2 := comp_len HSA.out HSB.out; have h3 : (compB a b).length * (195 + 2) ≤ 6 * 197 := Nat.mul_le_mul_right _ h2; omega)
  obtain ⟨ra, hra⟩ : ∃ r, r = mapT (findB a) (fun s => s) t := ⟨_, rfl⟩
  obtain ⟨rb, hrb⟩ : ∃ r, r = mapT (findB b) (fun s => s) ra := ⟨_, rfl⟩
  have hrc : mapT (findB (compB a b)) (fun s => s) t = rb := by rw [map_comp, hrb, hra]
  have hwra : wT ra ≤ 14013 := by rw [hra]; have := wT_map (findB a) 13 (small_find HSA.out) t; have := HWT.out; omega
  have hwrb : wT rb ≤ 196195 := by rw [hrb]; have := wT_map (findB b) 13 (small_find HSB.out) ra; omega
  have HPC : Hid (∀ w', Below w5.heap.size w5 w' → Calls Try.prog 16 #[.slice ca nc cc, tv k n s (.slice ta tm tc)] w' (TermGot (h + H5) rb w')) := Lib.hid (fun w' hb' => by
    have q := (iApp_any _ (compB a b) _ t _ _ H5 h w' (HC5.out.below hb') HWC.out (HT5.out.below hb') (by have := HWT.out; omega)).mono (fun _ _ z => z.got)
    rw [hrc] at q; exact q)
  have HPA : Hid (∀ w', Below w5.heap.size w5 w' → Calls Try.prog 16 #[.slice ua na uc, tv k n s (.slice ta tm tc)] w' (TermGot (h + 2) ra w')) := Lib.hid (fun w' hb' => by
    have q := (iApp_any _ a _ t _ _ 2 h w' (HA5.out.below hb') HWA.out.1 (HT5.out.below hb') (by have := HWT.out; omega)).mono (fun _ _ z => z.got)
    rw [← hra] at q; exact q)
  have HPB : Hid (∀ w' x, Below w5.heap.size w5 w' → TermAt w' 0 (h + 2) x ra → Calls Try.prog 16 #[.slice va nb vc, x] w' (TermGot (h + 2 + 2) rb w')) := Lib.hid (fun w' x hb' hx => by
    have q := (iApp_any _ b _ ra _ _ 2 (h + 2) w' (HB5.out.below hb') HWA.out.2 hx (by omega)).mono (fun _ _ z => z.got)
    rw [← hrb] at q; exact q)
  have HPE : Hid (∀ w' x y, TermAt w' 0 (h + H5) x rb → TermAt w' 0 (h + 2 + 2) y rb → Calls Try.prog 15 #[x, y] w' (fun e w2 => e = .returned (.bool true) ∧ Below w'.heap.size w' w2)) := Lib.hid (fun w' x y hx hy =>
    (sSame_any 0 0 (h + H5) x y rb rb w' (h + 2 + 2) hx hy (by omega)).mono fun e w2 ⟨q, ⟨e1, e2⟩, e3⟩ => ⟨by rw [e1, e3.2 rfl], e2⟩)
  have HPS : Hid (∀ w', Below w5.heap.size w5 w' → Calls Try.prog 18 #[.slice ua na uc, .slice va nb vc] w' (ReadBE (compB a b) w')) := Lib.hid (fun w' hb' => compS_any _ _ a b _ _ 2 2 w' HWA.out.1 HWA.out.2 (HA5.out.below hb') (HB5.out.below hb'))
  have HPQ : Hid (∀ w' x H6 lo6, Below w5.heap.size w5 w' → BsAt w' lo6 H6 x (compB a b) → Calls Try.prog 17 #[.slice ca nc cc, x] w' (TrueB w')) := Lib.hid (fun w' x H6 lo6 hb' hx => sameBs_any _ x (compB a b) _ lo6 H5 H6 w' (by have := comp_len HSA.out HSB.out; omega) (fun y hy => by have := (comp_mem HSA.out HSB.out y hy).2; omega) (HC5.out.below hb') hx)
  clear hcv hb5 hra hrb hrc hwra hwrb HA3 HBB3 HT3 HR3 HB3 HC5 HT5 HWC HCC
  obtain ⟨c0, c1, c2, c3, hcur⟩ := HC4.out _ (Below.refl _ _)
  go_wp2
  go_region_held3 (fun w' => w'.cell? ⟨w2.heap.size, 0, none⟩ = some (.int .i64 k) ∧ w'.cell? ⟨w2.heap.size, 1, none⟩ = some (.int .i64 n) ∧ w'.cell? ⟨w2.heap.size, 2, none⟩ = some (.string s) ∧ w'.cell? ⟨w2.heap.size, 3, none⟩ = some (.slice ta tm tc) ∧ Below w5.heap.size w5 w')
    (first | exact HC4.out _ (by assumption) | exact HC4.out _ (Below.drew (by assumption)) | go_keep)
    (first
      | (go_at_call 16; refine (HPC.out _ (by first | assumption | exact Below.drew (by assumption))).mono ?_; rintro e wa ⟨kc, nnc, sc, ac, mc, ccc, rfl, htc, hbc⟩; have hcurc : Below w5.heap.size w5 wa := (by first | exact bel_two (by assumption) hbc | exact bel_two (Below.drew (by assumption)) hbc))
      | (go_at_call 16; refine (HPA.out _ (by first | assumption | exact Below.drew (by assumption))).mono ?_; rintro e wa ⟨ka, nna, sa, aa, ma, caa, rfl, hta, hba⟩; have hcura : Below w5.heap.size w5 wa := (by first | exact bel_two (by assumption) hba | exact bel_two (Below.drew (by assumption)) hba))
      | (go_at_call 16; refine (HPB.out _ _ (by first | assumption | exact Below.drew (by assumption)) (by first | exact hta | exact hta.drew | exact hta.below hbc | exact hta.drew.below hbc | exact (hta.below hbc).drew | exact (hta.drew.below hbc).drew)).mono ?_; rintro e wb ⟨kb, nnb, sb, ab, mb, cbb, rfl, htb, hbb⟩; have hcurb : Below w5.heap.size w5 wb := (by first | exact bel_two (by assumption) hbb | exact bel_two (Below.drew (by assumption)) hbb))
      | (go_at_call 15; refine (HPE.out _ _ _ (by first | exact htc | exact htc.below hbb | exact (htc.below hba).below hbb | exact htc.drew) (by first | exact htb | exact htb.below hbc | exact htb.drew)).mono ?_; rintro e we ⟨rfl, hbe⟩; have hcure : Below w5.heap.size w5 we := (by first | exact bel_two (by assumption) hbe | exact bel_two (Below.drew (by assumption)) hbe))
      | (go_at_call 18; refine (HPS.out _ (by first | assumption | exact Below.drew (by assumption))).mono ?_; rintro e ws ⟨us, hs7, rfl, hus, hbs⟩; obtain ⟨usa, usc, rfl⟩ := hus.slice; have hcurs : Below w5.heap.size w5 ws := (by first | exact bel_two (by assumption) hbs | exact bel_two (Below.drew (by assumption)) hbs))
      | (go_at_call 17; refine (HPQ.out _ _ _ _ (by first | assumption | exact Below.drew (by assumption)) hus).mono ?_; rintro e wq ⟨rfl, hbq⟩; have hcurq : Below w5.heap.size w5 wq := (by first | exact bel_two (by assumption) hbq | exact bel_two (Below.drew (by assumption)) hbq)))
  have HQ0 := Lib.hid (bel_two HBX.out hcurq)
  have HA9 := Lib.hid (HA5.out.below hcurq)
  clear hcur hcurc hcura hcurb hcure hcurs hcurq hbc hba hbb hbe hbs hbq htc hta htb hus HPC HPA HPB HPE HPS HPQ c0 c1 c2 c3 HC4
  go_wp2_with fail
  refine (drawRest_any _ len _ (HC1.out.below HQ0.out)).mono ?_
  rintro e w6 ⟨lu, nu, list, names, rfl, hlu, hnu, hsl, hnl, hns, hb6⟩
  obtain ⟨la, lc, rfl⟩ := hlu.slice
  obtain ⟨nua, nuc, rfl⟩ := hnu.sliceK
  obtain ⟨nl, hnl0⟩ : ∃ m, m = list.length := ⟨_, rfl⟩
  obtain ⟨nn, hnn0⟩ : ∃ m, m = names.length := ⟨_, rfl⟩
  rw [← hnl0] at hlu ⊢
  rw [← hnn0] at hnu ⊢
  have HWL : Hid (wBs list ≤ 1048576) := Lib.hid (by have := small7_w hsl; omega)
  have HNS : Hid (names.length ≤ 1048576 ∧ ∀ p ∈ names, p.size ≤ maxLen) := Lib.hid ⟨by omega, fun p hp => by have := hns p hp; unfold maxLen; omega⟩
  have HSO := Lib.hid (sortK_of names)
  have HLM : Hid (∀ x ∈ restB list (sortK names), wT x.2 ≤ 1048576) := Lib.hid (rest_mem hsl)
  have HLL : Hid ((restB list (sortK names)).length ≤ 1048576) := Lib.hid (by have := restB_len list (sortK names); have := sortK_len names; omega)
  have HRI := Lib.hid (restI_any _ _ list names (sortK names) _ 2 w6 HWL.out hlu HNS.out.1 HNS.out.2 hnu HSO.out)
  have HLU := Lib.hid hlu; have HNU := Lib.hid hnu
  have HQ6 := Lib.hid (bel_two HQ0.out hb6)
  have HA6 := Lib.hid (HA9.out.below hb6)
  clear hlu hnu hsl hnl hns hb6 hnl0 hnn0
  go_wp2_with fail
  refine HRI.out.mono ?_
  rintro e w7 ⟨rv, H7, rfl, ⟨hrv, _⟩, hb7⟩
  obtain ⟨rva, rvc, rfl⟩ := hrv.slice
  obtain ⟨nr, hnr⟩ : ∃ m, m = (restB list (sortK names)).length := ⟨_, rfl⟩
  rw [← hnr] at hrv ⊢
  have HRV7 := Lib.hid hrv
  have HLU7 := Lib.hid (HLU.out.below hb7); have HNU7 := Lib.hid (HNU.out.below hb7)
  have HQ7 := Lib.hid (bel_two HQ6.out hb7)
  have HA7 := Lib.hid (HA6.out.below hb7)
  clear hrv hb7 hnr HRI HLU HNU
  go_wp2_with fail
  refine (drawSame_any _ len _ (HC1.out.below HQ7.out)).mono ?_
  rintro e w8 ⟨xu, yu, xs, ys, rfl, hxu, hyu, hsx, hsy, hb8⟩
  obtain ⟨xa, xc, rfl⟩ := hxu.slice
  obtain ⟨ya, yc, rfl⟩ := hyu.slice
  obtain ⟨nx, hnx⟩ : ∃ m, m = xs.length := ⟨_, rfl⟩
  obtain ⟨ny, hny⟩ : ∃ m, m = ys.length := ⟨_, rfl⟩
  rw [← hnx] at hxu ⊢
  rw [← hny] at hyu ⊢
  have HWX : Hid (wBs xs ≤ 1048576 ∧ wBs ys ≤ 1048576) := Lib.hid ⟨by have := small7_w hsx; omega, by have := small7_w hsy; omega⟩
  have HXU := Lib.hid hxu; have HYU := Lib.hid hyu
  have HRV8 := Lib.hid (HRV7.out.below hb8)
  have HRS := Lib.hid (restS_any _ _ list names (sortK names) _ 2 w8 HWL.out (HLU7.out.below hb8) HNS.out.1 HNS.out.2 (HNU7.out.below hb8) HSO.out)
  have HQ8 := Lib.hid (bel_two HQ7.out hb8)
  have HA8 := Lib.hid (HA7.out.below hb8)
  clear hxu hyu hsx hsy hb8 hnx hny HRV7 HLU7 HNU7
  go_wp2_with fail
  refine HRS.out.mono ?_
  rintro e w9 ⟨sv9, H9, rfl, hsv, hb9⟩
  have HSB9 := Lib.hid (sameBs_any _ sv9 (restB list (sortK names)) _ _ H7 H9 w9 (by have := HLL.out; omega) HLM.out (HRV8.out.below hb9) hsv)
  have HX9 := Lib.hid (HXU.out.below hb9); have HY9 := Lib.hid (HYU.out.below hb9)
  have HQ9 := Lib.hid (bel_two HQ8.out hb9)
  have HA99 := Lib.hid (HA8.out.below hb9)
  obtain ⟨sa9, sc9, rfl⟩ := hsv.slice
  obtain ⟨ns9, hns9⟩ : ∃ m, m = (restB list (sortK names)).length := ⟨_, rfl⟩
  rw [← hns9] at HSB9 ⊢
  clear hsv hb9 hns9 HRS HRV8 HXU HYU HA7 HA8
  go_wp2_with fail
  refine HSB9.out.mono ?_
  rintro e w10 ⟨rfl, hb10⟩
  have HX10 := Lib.hid (HX9.out.below hb10); have HY10 := Lib.hid (HY9.out.below hb10)
  have HQ10 := Lib.hid (bel_two HQ9.out hb10)
  have HA10 := Lib.hid (HA99.out.below hb10)
  have HSI := Lib.hid (iSame_any _ _ xs ys _ _ 2 2 w10 HWX.out.1 HWX.out.2 HX10.out HY10.out)
  obtain ⟨sb, hsb⟩ : ∃ q, q = sameB xs ys := ⟨_, rfl⟩
  rw [← hsb] at HSI
  have HSBE := Lib.hid hsb
  clear hb10 hsb HSB9 HX9 HY9 HA99
  go_wp2_with fail
  refine HSI.out.mono ?_
  rintro e w11 ⟨rfl, hb11⟩
  have HQ11 := Lib.hid (bel_two HQ10.out hb11)
  have HA11 := Lib.hid (HA10.out.below hb11)
  have HSS := Lib.hid (sSameS_any _ _ xs ys _ _ 2 2 w11 HWX.out.1 HWX.out.2 (HX10.out.below hb11) (HY10.out.below hb11))
  rw [← HSBE.out] at HSS
  clear hb11 HSI HX10 HY10 HA10
  go_wp2_with fail
  refine HSS.out.mono ?_
  rintro e w12 ⟨rfl, hb12⟩
  have HQ12 := Lib.hid (bel_two HQ11.out hb12)
  have HSELF := Lib.hid (iSame_any _ _ a a _ _ 2 2 w12 HWA.out.1 HWA.out.1 (HA11.out.below hb12) (HA11.out.below hb12))
  rw [sameB_self] at HSELF
  have hbe : (sb == sb) = true := by simp
  clear hb12 HSS HA11
  go_wp2_with fail
  refine HSELF.out.mono ?_
  rintro e w13 ⟨rfl, hb13⟩
  have HQ13 := Lib.hid (bel_two HQ12.out hb13)
  go_wp2
  go_ret
  exact ⟨rfl, HQ13.out⟩
end Go.Proofs.Yteelakhaaipebaa
