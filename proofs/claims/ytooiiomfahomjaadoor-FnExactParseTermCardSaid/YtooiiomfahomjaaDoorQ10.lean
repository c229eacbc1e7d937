/-
  spec.CountTerm returns how many terms there are in a term.
  spec.DepthOfTerm returns how deep a term is.
  spec.CountTerm and spec.DepthOfTerm, together. No walk.
-/
import Derived.Test.YtooiiomfahomjaaDoorQ5
namespace Go.Proofs.YtooiiomfahomjaaDoor
open Go.RowKit

def CountAt (lo h : Nat) : Prop := ∀ (v : Value) (t : T) (w : World), TermAt w lo h v t → wT t ≤ 1048576 →
  Calls Tryd.prog 9 #[v] w (NumB (cT t) w)

set_option maxRecDepth 100000 in
set_option maxHeartbeats 1600000 in
theorem sCount_step (lo h : Nat) (IH : ∀ h', h = h' + 1 → CountAt lo h') : CountAt lo h := by
  intro v t w ht hw
  obtain ⟨kk, nn, s, u, xs, rfl, rfl, hs, ha⟩ := ht
  obtain ⟨a, cap, rfl⟩ := ha.slice
  have HA := Lib.hid (ha.below (boxed_below w kk nn s (.slice a xs.length cap))); clear ha
  have HW : Hid (xs.length + wS xs ≤ 1048576) := Lib.hid (by rw [wT_node] at hw; omega)
  clear hw hs
  obtain ⟨m, hm⟩ : ∃ m, m = xs.length := ⟨_, rfl⟩
  have hml : m ≤ 1048576 := by have := HW.out; omega
  rw [← hm] at HA ⊢
  have HM := Lib.hid hm; clear hm
  have HIH := Lib.hid IH; clear IH
  have HB0 := Lib.hid (boxed_below w kk nn s (.slice a m cap))
  go_enter Tryd.func9, Tryd.ntmps9
  go_wp2
  go_loopw [3, 4] (fun c i wr => ∃ k : Nat, k ≤ m ∧ i = .int .i64 k ∧ c = .int .i64 (1 + cS (xs.take k) : Nat) ∧ Hid (Below (boxed w kk nn s (.slice a m cap)).heap.size (boxed w kk nn s (.slice a m cap)) wr)) (fun _ i _ => m - (intOf i).toNat)
  case atStart => exact ⟨0, Nat.zero_le _, rfl, by simp [cS], Lib.hid (Below.refl _ _)⟩
  case round =>
    obtain ⟨k, hk, rfl, rfl, HB⟩ := hrel
    obtain ⟨_, _, _, cb⟩ := boxed_cells HB.out
    obtain ⟨c, hc⟩ : ∃ c : Nat, c = 1 + cS (xs.take k) := ⟨_, rfl⟩
    have hcl : c ≤ 2097153 := by have := cS_take xs k; have := cS_le xs; have := HW.out; omega
    rw [← hc]
    have HCC := Lib.hid hc; clear hc
    by_cases hlt : k < m
    · obtain ⟨t, ht⟩ : ∃ t, xs[k]? = some t := ⟨_, List.getElem?_eq_getElem (by have := HM.out; omega)⟩
      obtain ⟨h', b, o, tk', tn, tsn, txs, u', e, rfl, rfl, hsz, c0, c1, c2, c3, har⟩ := HA.out.at ht
      have d0 := cell_on HB.out c0
      have d1 := cell_on HB.out c1
      have d2 := cell_on HB.out c2
      have d3 := cell_on HB.out c3
      clear c0 c1 c2 c3
      have hwt := wT_at xs k _ ht
      have HCALL := Lib.hid (HIH.out h' e _ _ wr ⟨tk', tn, tsn, u', txs, rfl, rfl, hsz, har.below HB.out⟩ (by have := HW.out; omega))
      have HCS : Hid (1 + cS (xs.take (k + 1)) = c + cT (.node tk' tn tsn txs)) := Lib.hid (by rw [tk xs k _ ht, cS_snoc, HCC.out]; omega)
      have hct : cT (.node tk' tn tsn txs) ≤ 1048577 := by have := cT_le (.node tk' tn tsn txs); have := HW.out; omega
      obtain ⟨ct, hcte⟩ : ∃ ct, ct = cT (.node tk' tn tsn txs) := ⟨_, rfl⟩
      rw [← hcte] at hct HCALL HCS
      clear hwt ht har hsz hcte e
      go_wp2_with fail
      refine HCALL.out.mono ?_
      rintro e w1 ⟨rfl, hb1⟩
      have HB2 := Lib.hid (HB.out.trans (hb1.mono HB.out.size)); clear hb1
      go_wp2
      go_roundw
      case rel => exact ⟨k + 1, by omega, by go_num, by rw [HCS.out]; go_num, HB2⟩
      case measure => simp [intOf]; omega
    · have HD : Hid (c = cT (.node kk nn s xs)) := Lib.hid (by
        have hkn : k = xs.length := by have := HM.out; omega
        rw [HCC.out, hkn, List.take_length, cT_node])
      go_wp2
      go_ret
      exact ⟨by rw [← HD.out]; rfl, HB0.out.trans (HB.out.mono HB0.out.size)⟩

theorem sCount_any (lo : Nat) (h : Nat) : CountAt lo h := by_height (sCount_step lo) h

end Go.Proofs.YtooiiomfahomjaaDoor
namespace Go.Proofs.YtooiiomfahomjaaDoor
open Go.RowKit

theorem max_any (a b : Int) (w : World) : Calls Tryd.prog 81 #[.int .i64 a, .int .i64 b] w fun e w' => e = .returned (.int .i64 (max a b)) ∧ w' = w := by
  by_cases h : b < a
  · have hm : max a b = a := by omega
    rw [hm]
    go_enter Tryd.func81, Tryd.ntmps81
    go_wp2
    go_ret
    exact ⟨rfl, rfl⟩
  · have hm : max a b = b := by omega
    rw [hm]
    go_enter Tryd.func81, Tryd.ntmps81
    go_wp2
    go_ret
    exact ⟨rfl, rfl⟩

def DepthAt (lo h : Nat) : Prop := ∀ (v : Value) (t : T) (w : World), TermAt w lo h v t → wT t ≤ 1048576 →
  Calls Tryd.prog 61 #[v] w (NumB (dT t) w)

set_option maxRecDepth 100000 in
set_option maxHeartbeats 1600000 in
theorem sDepth_step (lo h : Nat) (IH : ∀ h', h = h' + 1 → DepthAt lo h') : DepthAt lo h := by
  intro v t w ht hw
  obtain ⟨kk, nn, s, u, xs, rfl, rfl, hs, ha⟩ := ht
  obtain ⟨a, cap, rfl⟩ := ha.slice
  have HA := Lib.hid (ha.below (boxed_below w kk nn s (.slice a xs.length cap))); clear ha
  have HW : Hid (xs.length + wS xs ≤ 1048576) := Lib.hid (by rw [wT_node] at hw; omega)
  have HDL : Hid (dT (.node kk nn s xs) ≤ 1048577) := Lib.hid (by have := dT_le (.node kk nn s xs); have := cT_le (.node kk nn s xs); omega)
  clear hw hs
  obtain ⟨m, hm⟩ : ∃ m, m = xs.length := ⟨_, rfl⟩
  have hml : m ≤ 1048576 := by have := HW.out; omega
  rw [← hm] at HA ⊢
  have HM := Lib.hid hm; clear hm
  have HIH := Lib.hid IH; clear IH
  have HB0 := Lib.hid (boxed_below w kk nn s (.slice a m cap))
  go_enter Tryd.func61, Tryd.ntmps61
  go_wp2
  go_loopw [3, 4] (fun c i wr => ∃ k : Nat, k ≤ m ∧ i = .int .i64 k ∧ c = .int .i64 (dS (xs.take k) : Nat) ∧ Hid (Below (boxed w kk nn s (.slice a m cap)).heap.size (boxed w kk nn s (.slice a m cap)) wr)) (fun _ i _ => m - (intOf i).toNat)
  case atStart => exact ⟨0, Nat.zero_le _, rfl, by simp [dS], Lib.hid (Below.refl _ _)⟩
  case round =>
    obtain ⟨k, hk, rfl, rfl, HB⟩ := hrel
    obtain ⟨_, _, _, cb⟩ := boxed_cells HB.out
    obtain ⟨c, hc⟩ : ∃ c : Nat, c = dS (xs.take k) := ⟨_, rfl⟩
    rw [← hc]
    have HCC := Lib.hid hc; clear hc
    by_cases hlt : k < m
    · obtain ⟨t, ht⟩ : ∃ t, xs[k]? = some t := ⟨_, List.getElem?_eq_getElem (by have := HM.out; omega)⟩
      obtain ⟨h', b, o, tk', tn, tsn, txs, u', e, rfl, rfl, hsz, c0, c1, c2, c3, har⟩ := HA.out.at ht
      have d0 := cell_on HB.out c0
      have d1 := cell_on HB.out c1
      have d2 := cell_on HB.out c2
      have d3 := cell_on HB.out c3
      clear c0 c1 c2 c3
      have hwt := wT_at xs k _ ht
      have HCALL := Lib.hid (HIH.out h' e _ _ wr ⟨tk', tn, tsn, u', txs, rfl, rfl, hsz, har.below HB.out⟩ (by have := HW.out; omega))
      have HCS : Hid (dS (xs.take (k + 1)) = max c (dT (.node tk' tn tsn txs))) := Lib.hid (by rw [tk xs k _ ht, dS_snoc, HCC.out])
      obtain ⟨ct, hcte⟩ : ∃ ct, ct = dT (.node tk' tn tsn txs) := ⟨_, rfl⟩
      rw [← hcte] at HCALL HCS
      clear hwt ht har hsz hcte e
      go_wp2_with fail
      refine HCALL.out.mono ?_
      rintro e w1 ⟨rfl, hb1⟩
      have HB2 := Lib.hid (HB.out.trans (hb1.mono HB.out.size)); clear hb1
      go_wp2_with fail
      refine (max_any _ _ _).mono ?_
      rintro e w2 ⟨rfl, rfl⟩
      have hmx : max (c : Int) (ct : Int) = ((max c ct : Nat) : Int) := by omega
      rw [hmx]
      clear hmx
      go_wp2
      go_roundw
      case rel => exact ⟨k + 1, by omega, by go_num, by rw [HCS.out], HB2⟩
      case measure => simp [intOf]; omega
    · have HD : Hid (c + 1 = dT (.node kk nn s xs)) := Lib.hid (by
        have hkn : k = xs.length := by have := HM.out; omega
        rw [HCC.out, hkn, List.take_length, dT_node])
      have hcl : c ≤ 1048576 := by have := HD.out; have := HDL.out; omega
      go_wp2
      go_ret
      exact ⟨by rw [← HD.out]; rfl, HB0.out.trans (HB.out.mono HB0.out.size)⟩

theorem sDepth_any (lo : Nat) (h : Nat) : DepthAt lo h := by_height (sDepth_step lo) h
end Go.Proofs.YtooiiomfahomjaaDoor
namespace Go.Proofs.YtooiiomfahomjaaDoor
open Go.RowKit

end Go.Proofs.YtooiiomfahomjaaDoor
