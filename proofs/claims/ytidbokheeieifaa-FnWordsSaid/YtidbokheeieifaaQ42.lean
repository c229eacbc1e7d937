/-
  spec.HoldsGuard: whether a guard is true.
-/
import Derived.Test.YtidbokheeieifaaQ35
import Derived.Test.YtidbokheeieifaaQ38
import Derived.Test.YtidbokheeieifaaQ12
import Derived.Test.YtidbokheeieifaaQ41
import Derived.Test.YtidbokheeieifaaQ31
namespace Go.Proofs.Ytidbokheeieifaa
open Go.RowKit

theorem vS_nil {xs : List T} : vS xs = [] ↔ ∀ x ∈ xs, vT x = [] := by
  induction xs with
  | nil => simp [vS]
  | cons x r ih => simp only [vS, List.map_cons, List.flatten_cons, List.append_eq_nil_iff, List.mem_cons, forall_eq_or_imp] at *; rw [ih]
theorem word_vars {t : T} (h : wordB t = true) : vT t = [] ∧ ∃ k n s, t = .node k n s [] := by
  obtain ⟨k, n, s, xs⟩ := t
  have h1 : wordV k n s xs.length = true := h
  obtain ⟨hk, _, _, _, h0⟩ := (wordV_iff _ _ _ _).1 h1
  have h2 : xs = [] := List.eq_nil_of_length_eq_zero h0
  subst h2
  refine ⟨?_, k, n, s, rfl⟩
  rw [vT_node, if_neg (by omega)]; rfl
/-- Reducing loses no variable. -/
theorem vT_red : ∀ t, vT (redT t) = [] ↔ vT t = []
  | .node k n s xs => by
    have ih : ∀ x ∈ xs, (vT (redT x) = [] ↔ vT x = []) := fun x _ => vT_red x
    have hS : vS (xs.map redT) = [] ↔ vS xs = [] := by
      rw [vS_nil, vS_nil]
      constructor
      · exact fun h x hx => (ih x hx).1 (h _ (List.mem_map_of_mem hx))
      · intro h y hy
        obtain ⟨x, hx, rfl⟩ := List.mem_map.1 hy
        exact (ih x hx).2 (h x hx)
    cases hg : goesT (.node k n s xs) with
    | false => rw [red_stays hg, vT_node, vT_node, List.append_eq_nil_iff, List.append_eq_nil_iff, hS]
    | true =>
      rw [red_goes hg]
      have hg2 : goesB k n s (xs.map redT) = true := hg
      unfold goesB at hg2
      simp only [Bool.and_eq_true, beq_iff_eq, decide_eq_true_eq] at hg2
      obtain ⟨hk, _, _, h2, ha, hb⟩ := hg2
      have hl : (xs.map redT).length = 2 := h2
      obtain ⟨y0, e0⟩ : ∃ y, (xs.map redT)[0]? = some y := ⟨_, List.getElem?_eq_getElem (by omega)⟩
      obtain ⟨y1, e1⟩ : ∃ y, (xs.map redT)[1]? = some y := ⟨_, List.getElem?_eq_getElem (by omega)⟩
      rw [e0] at ha; rw [e1] at hb
      have hw : vS (xs.map redT) = [] := by
        rw [vS_nil]
        intro y hy
        obtain ⟨i, hi⟩ := List.getElem?_of_mem hy
        have hil := (List.getElem?_eq_some_iff.1 hi).1
        have h01 : i = 0 ∨ i = 1 := by omega
        rcases h01 with rfl | rfl
        · rw [e0] at hi; cases hi; exact (word_vars ha).1
        · rw [e1] at hi; cases hi; exact (word_vars hb).1
      rw [vT_node, vT_node, if_neg (by omega), if_neg (by omega), hS.1 hw]
      simp [vS]
theorem wS_mapLe (f : T → T) (xs : List T) (h : ∀ x ∈ xs, wT (f x) ≤ wT x) : wS (xs.map f) ≤ wS xs := by
  induction xs with
  | nil => exact Nat.le_refl _
  | cons x xs ih =>
    have h1 := h x (by simp)
    have h2 := ih fun y hy => h y (by simp [hy])
    simp only [List.map_cons, wS, List.sum_cons] at *
    omega
theorem wT_red : ∀ t, wT (redT t) ≤ wT t
  | .node k n s xs => by
    have ih : ∀ x ∈ xs, wT (redT x) ≤ wT x := fun x _ => wT_red x
    have hS : wS (xs.map redT) ≤ wS xs := wS_mapLe redT xs ih
    cases hg : goesT (.node k n s xs) with
    | false => rw [red_stays hg, wT_node, wT_node, List.length_map]; omega
    | true => rw [red_goes hg, wT_node, wT_node]; simp [wS]

open Classical in
/-- A guard is true. -/
noncomputable def holdsG (g : Gd) : Bool :=
  if vT g.l = [] ∧ vT g.r = [] then
    (if g.kd = 1 then decide (redT g.l = redT g.r) else if g.kd = 2 then !decide (redT g.l = redT g.r) else if g.kd = 3 then (wordB (redT g.l) && (wordB (redT g.r) && decide (numT (redT g.l) < numT (redT g.r)))) else false) else false
theorem holds_var {g : Gd} (h : vT g.l ≠ [] ∨ vT g.r ≠ []) : holdsG g = false := by
  unfold holdsG
  rw [if_neg (fun q => by rcases h with h | h; exact h q.1; exact h q.2)]
theorem holds_1 {g : Gd} (h1 : vT g.l = []) (h2 : vT g.r = []) (hk : g.kd = 1) : holdsG g = true ↔ redT g.l = redT g.r := by
  unfold holdsG; rw [if_pos ⟨h1, h2⟩, if_pos hk]; simp
theorem holds_2 {g : Gd} (h1 : vT g.l = []) (h2 : vT g.r = []) (hk : g.kd = 2) : holdsG g = true ↔ ¬ redT g.l = redT g.r := by
  unfold holdsG; rw [if_pos ⟨h1, h2⟩, if_neg (by omega), if_pos hk]; simp
theorem holds_3 {g : Gd} (h1 : vT g.l = []) (h2 : vT g.r = []) (hk : g.kd = 3) : holdsG g = (wordB (redT g.l) && (wordB (redT g.r) && decide (numT (redT g.l) < numT (redT g.r)))) := by
  unfold holdsG; rw [if_pos ⟨h1, h2⟩, if_neg (by omega), if_neg (by omega), if_pos hk]
theorem holds_o {g : Gd} (h1 : g.kd ≠ 1) (h2 : g.kd ≠ 2) (h3 : g.kd ≠ 3) : holdsG g = false := by
  unfold holdsG; rw [if_neg h1, if_neg h2, if_neg h3]; simp
theorem bool_eq {a b : Bool} (h : a = true ↔ b = true) : a = b := by cases a <;> cases b <;> simp_all

/-- Two terms in boxes of their own. -/
def TwoBox (W : World) (rl rr : T) (pA pB : Value) (wc : World) : Prop :=
  ∃ BA BB kl nl sl al ml cl Hl kr nr sr ar mr cr Hr, pA = .pointer (some ⟨BA, 0, none⟩) ∧ pB = .pointer (some ⟨BB, 0, none⟩) ∧ wc.heap[BA]? = some (trow kl nl sl (.slice al ml cl)) ∧ wc.heap[BB]? = some (trow kr nr sr (.slice ar mr cr)) ∧
    TermAt wc W.heap.size Hl (tv kl nl sl (.slice al ml cl)) rl ∧ TermAt wc W.heap.size Hr (tv kr nr sr (.slice ar mr cr)) rr ∧ Below W.heap.size W wc
theorem word_of {w : World} {lo h : Nat} {k n : Int} {s : ByteArray} {a : Option Addr} {m c : Nat} {t : T} (ht : TermAt w lo h (tv k n s (.slice a m c)) t) : wordB t = wordV k n s m ∧ numT t = n ∧ s.size ≤ maxLen := by
  obtain ⟨_, _, _, _, xs, e, rfl, hs, ha⟩ := ht
  cases e
  obtain ⟨a', c', e2⟩ := ha.slice
  cases e2
  exact ⟨rfl, rfl, hs⟩

set_option maxRecDepth 100000 in
set_option maxHeartbeats 6400000 in
theorem sHolds_any (v : Value) (g : Gd) (lo h : Nat) (w : World) (hv : GAt w lo h v g) (hw : wG g ≤ 1048576) :
    Calls Try.prog 17 #[v] w (AnsB (holdsG g) w) := by
  obtain ⟨k, n, s, u, k', n', s', u', rfl, ht1, ht2⟩ := hv
  obtain ⟨kd, t1, t2⟩ := g
  have hw1 : wT t1 ≤ 1048576 := by unfold wG at hw; simp only at hw; omega
  have hw2 : wT t2 ≤ 1048576 := by unfold wG at hw; simp only at hw; omega
  clear hw
  obtain ⟨W, hW⟩ : ∃ W, W = w.alloc (.cells #[.int .i64 kd, .int .i64 k, .int .i64 n, .string s, u, .int .i64 k', .int .i64 n', .string s', u'] 31) := ⟨_, rfl⟩
  have hb0 : Below w.heap.size w W := by rw [hW]; exact (Below.refl _ _).alloc (Nat.le_refl _) _
  have hr : W.heap[w.heap.size]? = some (grow 31 kd k n s u k' n' s' u') := by rw [hW]; exact heap_new _ _ rfl
  have HGB : Hid (∀ w', Below W.heap.size W w' → w'.heap[w.heap.size]? = some (grow 31 kd k n s u k' n' s' u')) := Lib.hid (fun w' hb => (hb.block _ (Array.getElem?_eq_some_iff.1 hr).1).trans hr)
  have HT1 := Lib.hid (ht1.below hb0); clear ht1
  have HT2 := Lib.hid (ht2.below hb0); clear ht2
  have HB0 := Lib.hid hb0; clear hb0 hr
  have HC12 : Hid (cT t1 ≤ 4294967296 ∧ cT t2 ≤ 4294967296) := Lib.hid ⟨by have := cT_le t1; omega, by have := cT_le t2; omega⟩
  have HCR : Hid (cT (redT t1) ≤ 4294967296 ∧ cT (redT t2) ≤ 4294967296) := Lib.hid ⟨Nat.le_trans (cT_red t1) HC12.out.1, Nat.le_trans (cT_red t2) HC12.out.2⟩

  have hq1 := wT_red t1
  have hq2 := wT_red t2
  have hwr1 : wT (redT t1) ≤ 1048576 := by omega
  have hwr2 : wT (redT t2) ≤ 1048576 := by omega
  go_enter Try.func17, Try.ntmps17
  go_wp2_with fail
  rw [← hW]
  clear hW
  refine (sRed_any _ _ t1 lo W HT1.out HC12.out.1).mono ?_
  intro e w1 hc
  obtain ⟨Hl, kl, nl, sl, al, ml, cl, rfl, htl, hb1⟩ := CopyE.read ⟨_, hc⟩
  obtain ⟨W1, hW1⟩ : ∃ W1, W1 = boxed w1 kl nl sl (.slice al ml cl) := ⟨_, rfl⟩
  have hb1b : Below w1.heap.size w1 W1 := by rw [hW1]; exact boxed_below _ _ _ _ _
  have hra : W1.heap[w1.heap.size]? = some (trow kl nl sl (.slice al ml cl)) := by rw [hW1]; exact heap_new _ _ rfl
  have HB1 := Lib.hid (bel_two hb1 hb1b)
  have HX1 := Lib.hid (htl.below hb1b)
  obtain ⟨_, _, _, _, _, d5, d6, d7, d8⟩ := cells_of9 (HGB.out _ HB1.out)
  have HRA1 := Lib.hid hra
  clear hc htl hb1 hb1b hra
  rw [hW1] at d5 d6 d7 d8
  unfold boxed at hW1 d5 d6 d7 d8
  go_wp2_with fail
  rw [← hW1]
  clear hW1 d5 d6 d7 d8
  refine (sRed_any _ _ t2 lo W1 (HT2.out.below HB1.out) HC12.out.2).mono ?_
  intro e w2 hc
  obtain ⟨Hr, kr, nr, sr, ar, mr, cr, rfl, htr, hb2⟩ := CopyE.read ⟨_, hc⟩
  obtain ⟨wc, hWc⟩ : ∃ wc, wc = boxed w2 kr nr sr (.slice ar mr cr) := ⟨_, rfl⟩
  have hb2b : Below w2.heap.size w2 wc := by rw [hWc]; exact boxed_below _ _ _ _ _
  have hrb : wc.heap[w2.heap.size]? = some (trow kr nr sr (.slice ar mr cr)) := by rw [hWc]; exact heap_new _ _ rfl
  have hb12 : Below W1.heap.size W1 wc := bel_two hb2 hb2b
  have hra := (hb12.block _ (Array.getElem?_eq_some_iff.1 HRA1.out).1).trans HRA1.out
  have HBC := Lib.hid (bel_two HB1.out hb12)
  have HX := Lib.hid (HX1.out.below hb12)
  have HY := Lib.hid (htr.below hb2b)
  have HRA := Lib.hid hra
  have HRB := Lib.hid hrb
  obtain ⟨⟨a0, a1, a2, a3⟩, _⟩ := cells_of4 hra
  clear hc htr hb2 hb2b hra hrb hb12
  rw [hWc] at a0 a1 a2 a3
  unfold boxed at hWc a0 a1 a2 a3
  go_wp2_with fail
  rw [← hWc]
  clear hWc a0 a1 a2 a3
  refine (sGround_any _ (redT t1) _ _ wc HX.out hwr1).mono ?_
  rintro e w3 ⟨bl, rfl, hbl, hb3⟩
  have HB3 := Lib.hid (bel_two HBC.out hb3)
  have HX3 := Lib.hid (HX.out.below hb3)
  have HY3 := Lib.hid (HY.out.below hb3)
  have HRA3 := Lib.hid ((hb3.block _ (Array.getElem?_eq_some_iff.1 HRA.out).1).trans HRA.out)
  have HRB3 := Lib.hid ((hb3.block _ (Array.getElem?_eq_some_iff.1 HRB.out).1).trans HRB.out)
  have HGL : Hid (bl = true ↔ vT t1 = []) := Lib.hid (hbl.trans (vT_red t1))
  clear hbl hb3
  cases bl with
  | false =>
    have HN : Hid (holdsG ⟨kd, t1, t2⟩ = false) := Lib.hid (holds_var (Or.inl (fun e => by have := HGL.out.2 e; cases this)))
    have HE := Lib.hid (HB0.out.trans (HB3.out.mono HB0.out.size))
    go_wp2
    go_ret
    exact ⟨by rw [HN.out]; rfl, HE.out⟩
  | true =>
  have HV1 := Lib.hid (HGL.out.1 rfl)
  obtain ⟨⟨b0, b1, b2, b3⟩, _⟩ := cells_of4 HRB3.out
  go_wp2_with fail
  refine (sGround_any _ (redT t2) _ _ w3 HY3.out hwr2).mono ?_
  rintro e w4 ⟨br, rfl, hbr, hb4⟩
  have HGR : Hid (br = true ↔ vT t2 = []) := Lib.hid (hbr.trans (vT_red t2))
  have HB4 := Lib.hid (bel_two HB3.out hb4)
  have HX4 := Lib.hid (HX3.out.below hb4)
  have HY4 := Lib.hid (HY3.out.below hb4)
  have HRA4 := Lib.hid ((hb4.block _ (Array.getElem?_eq_some_iff.1 HRA3.out).1).trans HRA3.out)
  have HRB4 := Lib.hid ((hb4.block _ (Array.getElem?_eq_some_iff.1 HRB3.out).1).trans HRB3.out)
  clear hbr hb4 b0 b1 b2 b3 HBC HX HY HRA HRB
  cases br with
  | false =>
    have HN : Hid (holdsG ⟨kd, t1, t2⟩ = false) := Lib.hid (holds_var (Or.inr (fun e => by have := HGR.out.2 e; cases this)))
    have HE := Lib.hid (HB0.out.trans (HB4.out.mono HB0.out.size))
    go_wp2
    go_ret
    exact ⟨by rw [HN.out]; rfl, HE.out⟩
  | true =>
  have HV := Lib.hid (And.intro HV1.out (HGR.out.1 rfl))
  have HBC := HB4
  have HX := HX4
  have HY := HY4
  have HRA := HRA4
  have HRB := HRB4
  clear HGL HGR HV1 HB3 HX3 HY3 HRA3 HRB3 HB4 HX4 HY4 HRA4 HRB4
  by_cases k1 : kd = 1
  · subst k1
    obtain ⟨d0, _⟩ := cells_of9 (HGB.out _ HBC.out)
    obtain ⟨⟨a0, a1, a2, a3⟩, _⟩ := cells_of4 HRA.out
    obtain ⟨⟨b0, b1, b2, b3⟩, _⟩ := cells_of4 HRB.out
    go_wp2_with fail
    refine (sSame_anyK _ _ _ _ _ (redT t1) (redT t2) _ _ HX.out HY.out HCR.out.1).mono ?_
    rintro e w9 ⟨b, ⟨rfl, hb9⟩, hq⟩
    have HQ : Hid (holdsG ⟨1, t1, t2⟩ = b) := Lib.hid (bool_eq ((holds_1 HV.out.1 HV.out.2 rfl).trans hq.symm))
    have HB9 := Lib.hid (HB0.out.trans ((bel_two HBC.out hb9).mono HB0.out.size))
    clear hq hb9 a0 a1 a2 a3 b0 b1 b2 b3 d0
    go_wp2
    go_ret
    exact ⟨by rw [HQ.out]; rfl, HB9.out⟩
  have k1b : (kd == 1) = false := by simpa using k1
  by_cases k2 : kd = 2
  · subst k2
    obtain ⟨d0, _⟩ := cells_of9 (HGB.out _ HBC.out)
    obtain ⟨⟨a0, a1, a2, a3⟩, _⟩ := cells_of4 HRA.out
    obtain ⟨⟨b0, b1, b2, b3⟩, _⟩ := cells_of4 HRB.out
    go_wp2_with fail
    refine (sSame_anyK _ _ _ _ _ (redT t1) (redT t2) _ _ HX.out HY.out HCR.out.1).mono ?_
    rintro e w9 ⟨b, ⟨rfl, hb9⟩, hq⟩
    have HQ : Hid (holdsG ⟨2, t1, t2⟩ = !b) := Lib.hid (bool_eq ((holds_2 HV.out.1 HV.out.2 rfl).trans (by rw [← hq]; cases b <;> simp)))
    have HB9 := Lib.hid (HB0.out.trans ((bel_two HBC.out hb9).mono HB0.out.size))
    clear hq hb9 a0 a1 a2 a3 b0 b1 b2 b3 d0
    go_wp2
    go_ret
    exact ⟨by rw [HQ.out]; rfl, HB9.out⟩
  have k2b : (kd == 2) = false := by simpa using k2
  by_cases k3 : kd = 3
  · subst k3
    have HQ : Hid (holdsG ⟨3, t1, t2⟩ = (wordV kl nl sl ml && (wordV kr nr sr mr && decide (nl < nr)))) := Lib.hid (by
      rw [holds_3 HV.out.1 HV.out.2 rfl]
      obtain ⟨x1, x2, _⟩ := word_of HX.out
      obtain ⟨x3, x4, _⟩ := word_of HY.out
      simp only
      rw [x1, x2, x3, x4])
    obtain ⟨d0, _⟩ := cells_of9 (HGB.out _ HBC.out)
    obtain ⟨⟨a0, a1, a2, a3⟩, _⟩ := cells_of4 HRA.out
    clear k1 k2
    go_wp2_with fail
    refine (sWord_any kl nl sl al ml cl _).mono ?_
    rintro e w9 ⟨rfl, hb9⟩
    have HB9 := Lib.hid (bel_two HBC.out hb9)
    have HRB9 := Lib.hid ((hb9.block _ (Array.getElem?_eq_some_iff.1 HRB.out).1).trans HRB.out)
    have HRA9 := Lib.hid ((hb9.block _ (Array.getElem?_eq_some_iff.1 HRA.out).1).trans HRA.out)
    clear hb9 a0 a1 a2 a3 d0
    cases hwl : wordV kl nl sl ml with
    | false =>
      have HN : Hid (holdsG ⟨3, t1, t2⟩ = false) := Lib.hid (by rw [HQ.out, hwl]; rfl)
      have HE := Lib.hid (HB0.out.trans (HB9.out.mono HB0.out.size))
      clear hwl
      go_wp2
      go_ret
      exact ⟨by rw [HN.out]; rfl, HE.out⟩
    | true =>
    obtain ⟨⟨b0, b1, b2, b3⟩, _⟩ := cells_of4 HRB9.out
    go_wp2_with fail
    refine (sWord_any kr nr sr ar mr cr _).mono ?_
    rintro e w10 ⟨rfl, hb10⟩
    have HE := Lib.hid (HB0.out.trans ((bel_two HB9.out hb10).mono HB0.out.size))
    obtain ⟨⟨a0, a1, a2, a3⟩, _⟩ := cells_of4 ((hb10.block _ (Array.getElem?_eq_some_iff.1 HRA9.out).1).trans HRA9.out)
    obtain ⟨⟨b0', b1', b2', b3'⟩, _⟩ := cells_of4 ((hb10.block _ (Array.getElem?_eq_some_iff.1 HRB9.out).1).trans HRB9.out)
    clear hb10 b0 b1 b2 b3
    cases hwr : wordV kr nr sr mr with
    | false =>
      have HN : Hid (holdsG ⟨3, t1, t2⟩ = false) := Lib.hid (by rw [HQ.out, hwl, hwr]; rfl)
      clear hwl hwr
      go_wp2
      go_ret
      exact ⟨by rw [HN.out]; rfl, HE.out⟩
    | true =>
      have HN : Hid (holdsG ⟨3, t1, t2⟩ = decide (nl < nr)) := Lib.hid (by rw [HQ.out, hwl, hwr]; rfl)
      clear hwl hwr
      go_wp2
      go_ret
      exact ⟨by rw [HN.out]; rfl, HE.out⟩
  have k3b : (kd == 3) = false := by simpa using k3
  have HN : Hid (holdsG ⟨kd, t1, t2⟩ = false) := Lib.hid (holds_o k1 k2 k3)
  obtain ⟨d0, _⟩ := cells_of9 (HGB.out _ HBC.out)
  have HE := Lib.hid (HB0.out.trans (HBC.out.mono HB0.out.size))
  clear k1 k2 k3
  go_wp2
  go_ret
  exact ⟨by rw [HN.out]; rfl, HE.out⟩

end Go.Proofs.Ytidbokheeieifaa
