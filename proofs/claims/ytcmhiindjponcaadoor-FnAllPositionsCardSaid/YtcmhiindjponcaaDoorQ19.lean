/-
  The draws of the law on positions: a term; two positions of one.
  spec.CountTerm returns how many terms there are in a term.
-/
import Derived.Test.YtcmhiindjponcaaDoorQ16
import Derived.Test.YtcmhiindjponcaaDoorQ18
import Derived.Test.YtcmhiindjponcaaDoorQ4
namespace Go.Proofs.YtcmhiindjponcaaDoor
open Go.RowKit

theorem termAt_grownP {w w' : World} {lo h : Nat} {v : Value} {t : T} {row : Option Nat} (k : TermAt w lo h v t) (hg : w.grownBy w' row) (hr : ∀ j, row = some j → j < lo) : TermAt w' lo h v t := by
  obtain ⟨kk, n, s, u, xs, e1, e2, hs, ha⟩ := k
  exact ⟨kk, n, s, u, xs, e1, e2, hs, ha.grown hg hr⟩
theorem cells4e {Y : World} {b : Nat} {x0 x1 x2 x3 : Value} (hb : Y.heap[b]? = some (.cells #[x0, x1, x2, x3] 26 (0, 0))) : (Y.cell? ⟨b, 0, none⟩ = some x0 ∧ Y.cell? ⟨b, 1, none⟩ = some x1 ∧ Y.cell? ⟨b, 2, none⟩ = some x2 ∧ Y.cell? ⟨b, 3, none⟩ = some x3) ∧
    (Y.frozen? ⟨b, 0, none⟩ = false ∧ Y.frozen? ⟨b, 1, none⟩ = false ∧ Y.frozen? ⟨b, 2, none⟩ = false ∧ Y.frozen? ⟨b, 3, none⟩ = false) := by
  have a0 := cell_of_row Y b 0 _ _ _ hb
  have a1 := cell_of_row Y b 1 _ _ _ hb
  have a2 := cell_of_row Y b 2 _ _ _ hb
  have a3 := cell_of_row Y b 3 _ _ _ hb
  simp at a0 a1 a2 a3
  exact ⟨⟨a0, a1, a2, a3⟩, frozen_of_row Y b 0 _ _ hb, frozen_of_row Y b 1 _ _ hb, frozen_of_row Y b 2 _ _ hb, frozen_of_row Y b 3 _ _ hb⟩

/-- A term was drawn. -/
def DrawnTp (w : World) (e : Ending) (w' : World) : Prop := ∃ k n nm a m c t h, e = .returned (tv k n nm (.slice a m c)) ∧ TermAt w' w.heap.size h (tv k n nm (.slice a m c)) t ∧ wT t ≤ 1000 ∧ Below w.heap.size w w'

set_option maxRecDepth 100000 in
set_option maxHeartbeats 800000 in
theorem drawAll_any (cv : Value) (len : Nat) (w : World) (hcode : CodeAt w w.heap.size cv len) :
    Calls Tryd.prog 5 #[cv] w (DrawnTp w) := by
  have HC := Lib.hid hcode; clear hcode
  go_enter Tryd.func5, Tryd.ntmps5
  obtain ⟨Z, hZ⟩ : ∃ Z, Z = w.alloc (.cells #[.int .i64 0, .int .i64 0, .string ⟨#[]⟩, .slice none 0 0] 26) := ⟨_, rfl⟩
  have hbz : Below w.heap.size w Z := by rw [hZ]; exact (Below.refl _ _).alloc (Nat.le_refl _) _
  have hzr : Z.heap[w.heap.size]? = some (.cells #[.int .i64 0, .int .i64 0, .string ⟨#[]⟩, .slice none 0 0] 26 (0, 0)) := by rw [hZ]; exact heap_new w _ rfl
  have hz : Z.heap.size = w.heap.size + 1 := by rw [hZ]; simp
  have HBZ := Lib.hid hbz
  have HZ := Lib.hid hz
  have HZR := Lib.hid hzr
  have HCZ := Lib.hid (HC.out.below hbz)
  have HN := Lib.hid (new_any cv len Z HCZ.out)
  clear hbz hz hzr
  go_wp2_with fail
  rw [← hZ]
  clear hZ
  refine HN.out.mono ?_
  rintro e w1 ⟨rfl, hu1, hb1, _⟩
  have HC1 := Lib.hid (HCZ.out.at_new hb1)
  have HU1 := Lib.hid hu1; clear hu1
  have HB1 := Lib.hid hb1; clear hb1
  go_wp2_with fail
  refine (bent_any Z.heap.size cv len _ HC1.out HU1.out).mono ?_
  rintro e w2 ⟨v, t, h, rfl, ht, hw, hu2, hg2⟩
  obtain ⟨k, n, nm, a, m, c, rfl⟩ := ht.shape
  have HB2 := Lib.hid (HBZ.out.trans ((below_own HB1.out hg2).mono HBZ.out.size))
  have HZR2 : Hid (w2.heap[w.heap.size]? = some (.cells #[.int .i64 0, .int .i64 0, .string ⟨#[]⟩, .slice none 0 0] 26 (0, 0))) := Lib.hid (by
    have h1 := (below_own HB1.out hg2).block w.heap.size (by have := HZ.out; omega)
    exact h1.trans HZR.out)
  have hlo : w.heap.size < w1.heap.size := by have := HB1.out.size; have := HZ.out; omega
  have HF : Hid (∀ v0 v1 v2 v3, DrawnTp w (.returned (tv k n nm (.slice a m c))) ((((w2.setCell ⟨w.heap.size, 0, none⟩ v0).setCell ⟨w.heap.size, 1, none⟩ v1).setCell ⟨w.heap.size, 2, none⟩ v2).setCell ⟨w.heap.size, 3, none⟩ v3)) := Lib.hid (fun v0 v1 v2 v3 => by
    have q1 := termAt_grownP ht (set_grown w2 w.heap.size 0 v0) (fun j e => by cases e; exact hlo)
    have q2 := termAt_grownP q1 (set_grown _ w.heap.size 1 v1) (fun j e => by cases e; exact hlo)
    have q3 := termAt_grownP q2 (set_grown _ w.heap.size 2 v2) (fun j e => by cases e; exact hlo)
    have q4 := termAt_grownP q3 (set_grown _ w.heap.size 3 v3) (fun j e => by cases e; exact hlo)
    exact ⟨k, n, nm, a, m, c, t, h, rfl, q4.low (by omega), hw, (((HB2.out.setCell (Nat.le_refl _) _).setCell (Nat.le_refl _) _).setCell (Nat.le_refl _) _).setCell (Nat.le_refl _) _⟩)
  obtain ⟨⟨x0, x1, x2, x3⟩, f0, f1, f2, f3⟩ := cells4e HZR2.out
  clear ht hw hu2 hg2 hlo
  go_wp2
  (try simp only [Exit.inBlock, Exit.then])
  refine bodyPost_ret (v := tv k n nm (.slice a m c)) ?hr rfl ?_
  case hr =>
    rw [results_cell (a := 2) (t := 26) (ad := ⟨w.heap.size, 0, none⟩) rfl rfl]
    go_simp
  exact HF.out _ _ _ _


/-- Two positions were drawn. -/
def DrawnPQ (w : World) (e : Ending) (w' : World) : Prop := ∃ (v u : Value) (ps qs : List Int), e = .returned (.tuple #[v, u]) ∧ IntsAt w' v ps ∧ IntsAt w' u qs ∧ ps.length ≤ 1002 ∧ qs.length ≤ 1002 ∧ Below w.heap.size w w'

set_option maxRecDepth 100000 in
set_option maxHeartbeats 3200000 in
theorem drawPre_any (cv : Value) (len : Nat) (w : World) (hcode : CodeAt w w.heap.size cv len) :
    Calls Tryd.prog 12 #[cv] w (DrawnPQ w) := by
  have HC := Lib.hid hcode; clear hcode
  go_enter Tryd.func12, Tryd.ntmps12
  go_wp2_with fail
  refine (new_any cv len _ HC.out).mono ?_
  rintro e w1 ⟨rfl, hu1, hb1, hlt1⟩
  have HC1 := Lib.hid (HC.out.at_new hb1)
  have HU1 := Lib.hid hu1; clear hu1
  have HB1 := Lib.hid hb1; clear hb1
  have hs1 : w.heap.size < w1.heap.size := HU1.out.lt
  clear hlt1
  go_wp2_with fail
  refine (bent_any w.heap.size cv len _ HC1.out HU1.out).mono ?_
  rintro e w2 ⟨v, t, h, rfl, ht, hw, hu2, hg2⟩
  obtain ⟨k, n, s, a, m, cap, rfl⟩ := ht.shape
  have hs2 : w1.heap.size ≤ w2.heap.size := hg2.size
  obtain ⟨X, hX⟩ : ∃ X, X = w2.alloc (.cells #[.int .i64 k, .int .i64 n, .string s, .slice a m cap] 26) := ⟨_, rfl⟩
  have HX2 : Hid (w2.grownBy X (some w.heap.size)) := Lib.hid (by rw [hX]; exact World.grownBy_alloc _ _ _)
  have HUX : Hid (CurAt X w.heap.size cv len) := Lib.hid (by rw [hX]; exact hu2.alloc _)
  have HXB : Hid (X.heap[w2.heap.size]? = some (.cells #[.int .i64 k, .int .i64 n, .string s, .slice a m cap] 26 (0, 0))) := Lib.hid (by rw [hX]; exact heap_new w2 _ rfl)
  have HXC : Hid (∀ Y, X.grownBy Y (some w.heap.size) → CodeAt Y w.heap.size cv len) := Lib.hid (fun Y hY => HC1.out.grown HU1.out.lt (grown_trans hg2 (grown_trans HX2.out hY)))
  have HXT : Hid (∀ Y, X.grownBy Y (some w.heap.size) → TermAt Y w1.heap.size h (tv k n s (.slice a m cap)) t) := Lib.hid (fun Y hY => ht.grown (grown_trans HX2.out hY) (fun j e => by cases e; exact hs1))
  have HXW : Hid (∀ Y, X.grownBy Y (some w.heap.size) → Below w.heap.size w Y) := Lib.hid (fun Y hY => below_own HB1.out (grown_trans hg2 (grown_trans HX2.out hY)))
  have HKS : Hid (∀ Y, X.grownBy Y (some w.heap.size) → (Y.cell? ⟨w2.heap.size, 0, none⟩ = some (.int .i64 k) ∧ Y.cell? ⟨w2.heap.size, 1, none⟩ = some (.int .i64 n) ∧ Y.cell? ⟨w2.heap.size, 2, none⟩ = some (.string s) ∧ Y.cell? ⟨w2.heap.size, 3, none⟩ = some (.slice a m cap))) := Lib.hid (fun Y hY =>
    (cells4e ((hY.block _ (Array.getElem?_eq_some_iff.1 HXB.out).1 (fun e => by have := Option.some.inj e; omega)).trans HXB.out)).1)
  have HCP : Hid (∀ Y, X.grownBy Y (some w.heap.size) → CurAt Y w.heap.size cv len → Calls Tryd.prog 25 #[.pointer (some ⟨w.heap.size, 0, none⟩), tv k n s (.slice a m cap)] Y (PosDr w.heap.size cv len Y)) :=
    Lib.hid (fun Y hY hU => posDraw_any _ cv len _ t _ h Y (HXC.out Y hY) hU (HXT.out Y hY) hw)
  have hXz : w.heap.size < X.heap.size := by rw [hX]; simp; omega
  have HXZ := Lib.hid hXz; clear hXz
  clear ht hw hu2 hg2
  obtain ⟨p0, p1, p2, p3⟩ := HKS.out _ (grown_refl _ _)
  go_wp2_with fail
  rw [← hX]
  clear hX
  clear HC HC1 HU1 HB1 HX2 HXB HXC HXT
  go_region_with (first
      | (go_at_call 25; refine (HCP.out _ (gr_drew (grown_refl _ _)) HUX.out).mono ?_; rintro e w5 ⟨pv, qs, rfl, hq5, hql5, hqf5, hu5, hg5⟩; have hX5 : X.grownBy w5 (some w.heap.size) := grown_trans (gr_drew (grown_refl _ _)) hg5; obtain ⟨r0, r1, r2, r3⟩ := HKS.out _ hX5; have HQ5 := Lib.hid hq5; have HU5 := Lib.hid hu5; have HX5 := Lib.hid hX5; have HL5 := Lib.hid hql5; clear hq5 hu5 hX5 hqf5 hg5 hql5)
      | (go_at_call 25; refine (HCP.out _ HX5.out HU5.out).mono ?_; rintro e w6 ⟨pv6, qs6, rfl, hq6, hql6, hqf6, hu6, hg6⟩; have HQ6 := Lib.hid hq6; have HG6 := Lib.hid hg6; have HL6 := Lib.hid hql6; clear hq6 hu6 hqf6 hg6 hql6))
  all_goals (
    have h5 : IntsAt w6 pv qs := IntsAt.of_owns (own_at HQ5.out (fun kk e => by
      have hk := HQ5.out.lt kk e
      have hk1 : X.heap.size ≤ kk := hk.1
      have hk2 := HXZ.out
      exact HG6.out.block kk hk.2 (fun e2 => by have := Option.some.inj e2; omega)))
    have h6 : IntsAt w6 pv6 qs6 := IntsAt.of_owns HQ6.out
    have HF : Hid (DrawnPQ w (.returned (.tuple #[pv, pv6])) w6) := Lib.hid ⟨pv, pv6, qs, qs6, rfl, h5, h6, HL5.out, HL6.out, HXW.out _ (grown_trans HX5.out HG6.out)⟩
    have HF2 : Hid (DrawnPQ w (.returned (.tuple #[pv6, pv])) w6) := Lib.hid ⟨pv6, pv, qs6, qs, rfl, h6, h5, HL6.out, HL5.out, HXW.out _ (grown_trans HX5.out HG6.out)⟩
    clear h5 h6
    go_wp2
    go_ret2
    first | exact HF.out | exact HF2.out)
end Go.Proofs.YtcmhiindjponcaaDoor
namespace Go.Proofs.YtcmhiindjponcaaDoor
open Go.RowKit

def CountAt (lo h : Nat) : Prop := ∀ (v : Value) (t : T) (w : World), TermAt w lo h v t → wT t ≤ 1048576 →
  Calls Tryd.prog 7 #[v] w (NumB (cT t) w)

set_option maxRecDepth 100000 in
set_option maxHeartbeats 1600000 in
theorem sCount_step (lo h : Nat) (IH : ∀ h', h = h' + 1 → CountAt lo h') : CountAt lo h := by
  intro v t w ht hw
  obtain ⟨kk, nn, s, u, xs, rfl, rfl, hs, ha⟩ := ht
  obtain ⟨a, cap, rfl⟩ := ha.slice
  have HA := Lib.hid (ha.below (boxed_below w kk nn s (.slice a xs.length cap))); clear ha
  have HW : Hid (xs.length + wS xs ≤ 1048576) := Lib.hid (by rw [wT_node] at hw; omega)
  clear hw hs
  obtain ⟨m, hm⟩ : ∃ m, m = xs.length := ⟨_, rfl⟩
  have hml : m ≤ 1048576 := by have := HW.out; omega
  rw [← hm] at HA ⊢
  have HM := Lib.hid hm; clear hm
  have HIH := Lib.hid IH; clear IH
  have HB0 := Lib.hid (boxed_below w kk nn s (.slice a m cap))
  go_enter Tryd.func7, Tryd.ntmps7
  go_wp2
  go_loopw [3, 4] (fun c i wr => ∃ k : Nat, k ≤ m ∧ i = .int .i64 k ∧ c = .int .i64 (1 + cS (xs.take k) : Nat) ∧ Hid (Below (boxed w kk nn s (.slice a m cap)).heap.size (boxed w kk nn s (.slice a m cap)) wr)) (fun _ i _ => m - (intOf i).toNat)
  case atStart => exact ⟨0, Nat.zero_le _, rfl, by simp [cS], Lib.hid (Below.refl _ _)⟩
  case round =>
    obtain ⟨k, hk, rfl, rfl, HB⟩ := hrel
    obtain ⟨_, _, _, cb⟩ := boxed_cells HB.out
    obtain ⟨c, hc⟩ : ∃ c : Nat, c = 1 + cS (xs.take k) := ⟨_, rfl⟩
    have hcl : c ≤ 2097153 := by have := cS_take xs k; have := cS_le xs; have := HW.out; omega
    rw [← hc]
    have HCC := Lib.hid hc; clear hc
    by_cases hlt : k < m
    · obtain ⟨t, ht⟩ : ∃ t, xs[k]? = some t := ⟨_, List.getElem?_eq_getElem (by have := HM.out; omega)⟩
      obtain ⟨h', b, o, tk', tn, tsn, txs, u', e, rfl, rfl, hsz, c0, c1, c2, c3, har⟩ := HA.out.at ht
      have d0 := cell_on HB.out c0
      have d1 := cell_on HB.out c1
      have d2 := cell_on HB.out c2
      have d3 := cell_on HB.out c3
      clear c0 c1 c2 c3
      have hwt := wT_at xs k _ ht
      have HCALL := Lib.hid (HIH.out h' e _ _ wr ⟨tk', tn, tsn, u', txs, rfl, rfl, hsz, har.below HB.out⟩ (by have := HW.out; omega))
      have HCS : Hid (1 + cS (xs.take (k + 1)) = c + cT (.node tk' tn tsn txs)) := Lib.hid (by rw [tk xs k _ ht, cS_snoc, HCC.out]; omega)
      have hct : cT (.node tk' tn tsn txs) ≤ 1048577 := by have := cT_le (.node tk' tn tsn txs); have := HW.out; omega
      obtain ⟨ct, hcte⟩ : ∃ ct, ct = cT (.node tk' tn tsn txs) := ⟨_, rfl⟩
      rw [← hcte] at hct HCALL HCS
      clear hwt ht har hsz hcte e
      go_wp2_with fail
      refine HCALL.out.mono ?_
      rintro e w1 ⟨rfl, hb1⟩
      have HB2 := Lib.hid (HB.out.trans (hb1.mono HB.out.size)); clear hb1
      go_wp2
      go_roundw
      case rel => exact ⟨k + 1, by omega, by go_num, by rw [HCS.out]; go_num, HB2⟩
      case measure => simp [intOf]; omega
    · have HD : Hid (c = cT (.node kk nn s xs)) := Lib.hid (by
        have hkn : k = xs.length := by have := HM.out; omega
        rw [HCC.out, hkn, List.take_length, cT_node])
      go_wp2
      go_ret
      exact ⟨by rw [← HD.out]; rfl, HB0.out.trans (HB.out.mono HB0.out.size)⟩

theorem sCount_any (lo : Nat) (h : Nat) : CountAt lo h := by_height (sCount_step lo) h

end Go.Proofs.YtcmhiindjponcaaDoor
