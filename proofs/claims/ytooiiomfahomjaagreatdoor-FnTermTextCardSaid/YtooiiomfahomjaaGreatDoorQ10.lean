/-
  spec.IsValidTerm tells the terms of at most 60 nodes, at most 16 deep, whose every node has one of the three forms.
  Plain facts on the sizes of lists of strings and of what is joined out of them. No program.
-/
import Derived.Test.YtooiiomfahomjaaGreatDoorQ9
import Derived.Lib.Join
namespace Go.Proofs.YtooiiomfahomjaaGreatDoor
open Go.RowKit

/-- A call that answers whether X holds and leaves what was there. -/
def TellsT (X : Prop) (w : World) (e : Ending) (w' : World) : Prop := ∃ b, e = .returned (.bool b) ∧ (b = true ↔ X) ∧ Below w.heap.size w w'

/-- One node has one of the three forms. -/
def NodeOk (k n : Int) (s : ByteArray) (m : Nat) : Prop :=
  (k = 1 ∧ Nm 65 90 s ∧ n = 0 ∧ m = 0) ∨ (k = 2 ∧ Nm 97 122 s ∧ n = 0) ∨ (k = 3 ∧ s.size = 0 ∧ 0 ≤ n ∧ n ≤ 3 ∧ m = 0)

set_option maxRecDepth 100000 in
set_option maxHeartbeats 1600000 in
theorem sNode_any (k n : Int) (s : ByteArray) (a : Option Addr) (m cap : Nat) (w : World) (hs : s.size ≤ maxLen) :
    Calls Tryz.prog 40 #[tv k n s (.slice a m cap)] w (TellsT (NodeOk k n s m) w) := by
  have hs2 : s.size ≤ 9223372036854775807 := by unfold maxLen at hs; omega
  clear hs
  have HB0 := Lib.hid (boxed_below w k n s (.slice a m cap))
  by_cases h1 : k = 1
  · subst h1
    go_enter Tryz.func40, Tryz.ntmps40
    go_wp2_with fail
    refine (sVar_any s _ hs2).mono ?_
    rintro e w1 ⟨b1, rfl, hq, rfl⟩
    have HQ := Lib.hid hq; clear hq
    cases b1 with
    | false =>
      go_wp2
      go_ret
      refine ⟨false, rfl, ⟨fun h => by simp at h, fun h => ?_⟩, HB0.out⟩
      rcases h with ⟨_, h, _⟩ | ⟨h, _⟩ | ⟨h, _⟩
      · exact absurd h (fun q => by have := HQ.out.2 q; simp at this)
      · omega
      · omega
    | true =>
      by_cases hn : n = 0
      · subst hn
        by_cases hm : m = 0
        · subst hm
          go_wp2
          go_ret
          exact ⟨true, rfl, ⟨fun _ => Or.inl ⟨rfl, HQ.out.1 (by simp), rfl, rfl⟩, fun _ => rfl⟩, HB0.out⟩
        · have hm' : ((m : Int) == 0) = false := by rw [beq_eq_false_iff_ne]; omega
          go_wp2
          go_ret
          refine ⟨false, rfl, ⟨fun h => by simp at h, fun h => ?_⟩, HB0.out⟩
          rcases h with ⟨_, _, _, h⟩ | ⟨h, _⟩ | ⟨h, _⟩ <;> omega
      · have hn' : (n == 0) = false := by rw [beq_eq_false_iff_ne]; exact hn
        go_wp2
        go_ret
        refine ⟨false, rfl, ⟨fun h => by simp at h, fun h => ?_⟩, HB0.out⟩
        rcases h with ⟨_, _, h, _⟩ | ⟨h, _⟩ | ⟨h, _⟩ <;> omega
  · have h1' : (k == 1) = false := by rw [beq_eq_false_iff_ne]; exact h1
    by_cases h2 : k = 2
    · subst h2
      go_enter Tryz.func40, Tryz.ntmps40
      go_wp2_with fail
      refine (sName_any s _ hs2).mono ?_
      rintro e w1 ⟨b1, rfl, hq, rfl⟩
      have HQ := Lib.hid hq; clear hq
      cases b1 with
      | false =>
        go_wp2
        go_ret
        refine ⟨false, rfl, ⟨fun h => by simp at h, fun h => ?_⟩, HB0.out⟩
        rcases h with ⟨h, _⟩ | ⟨_, h, _⟩ | ⟨h, _⟩
        · omega
        · exact absurd h (fun q => by have := HQ.out.2 q; simp at this)
        · omega
      | true =>
        by_cases hn : n = 0
        · subst hn
          go_wp2
          go_ret
          exact ⟨true, rfl, ⟨fun _ => Or.inr (Or.inl ⟨rfl, HQ.out.1 (by simp), rfl⟩), fun _ => rfl⟩, HB0.out⟩
        · have hn' : (n == 0) = false := by rw [beq_eq_false_iff_ne]; exact hn
          go_wp2
          go_ret
          refine ⟨false, rfl, ⟨fun h => by simp at h, fun h => ?_⟩, HB0.out⟩
          rcases h with ⟨h, _⟩ | ⟨_, _, h⟩ | ⟨h, _⟩ <;> omega
    · have h2' : (k == 2) = false := by rw [beq_eq_false_iff_ne]; exact h2
      by_cases h3 : k = 3
      · subst h3
        by_cases h0 : s.size = 0
        · obtain rfl := no_empty s h0
          go_enter Tryz.func40, Tryz.ntmps40
          go_wp2_with fail
          refine (sIn_any _ _ _ _).mono ?_
          rintro e w1 ⟨b1, rfl, hq, rfl⟩
          have HQ := Lib.hid hq; clear hq
          cases b1 with
          | false =>
            go_wp2
            go_ret
            refine ⟨false, rfl, ⟨fun h => by simp at h, fun h => ?_⟩, HB0.out⟩
            rcases h with ⟨h, _⟩ | ⟨h, _⟩ | ⟨_, _, h4, h5, _⟩
            · omega
            · omega
            · have := HQ.out.2 ⟨h4, h5⟩; simp at this
          | true =>
            have HQ2 := HQ.out.1 (by simp)
            by_cases hm : m = 0
            · subst hm
              have HQ3 := Lib.hid HQ2; clear HQ2
              go_wp2
              go_ret
              exact ⟨true, rfl, ⟨fun _ => Or.inr (Or.inr ⟨rfl, rfl, HQ3.out.1, HQ3.out.2, rfl⟩), fun _ => rfl⟩, HB0.out⟩
            · have hm' : ((m : Int) == 0) = false := by rw [beq_eq_false_iff_ne]; omega
              clear HQ2
              go_wp2
              go_ret
              refine ⟨false, rfl, ⟨fun h => by simp at h, fun h => ?_⟩, HB0.out⟩
              rcases h with ⟨h, _⟩ | ⟨h, _⟩ | ⟨_, _, _, _, h⟩ <;> omega
        · obtain ⟨hb, hb'⟩ := some_byte s h0
          go_enter Tryz.func40, Tryz.ntmps40
          go_wp2
          go_ret
          refine ⟨false, rfl, ⟨fun h => by simp at h, fun h => ?_⟩, HB0.out⟩
          rcases h with ⟨h, _⟩ | ⟨h, _⟩ | ⟨_, h, _⟩ <;> omega
      · have h3' : (k == 3) = false := by rw [beq_eq_false_iff_ne]; exact h3
        go_enter Tryz.func40, Tryz.ntmps40
        go_wp2
        go_ret
        refine ⟨false, rfl, ⟨fun h => by simp at h, fun h => ?_⟩, HB0.out⟩
        rcases h with ⟨h, _⟩ | ⟨h, _⟩ | ⟨h, _⟩ <;> omega

/-! ### all nodes -/
/-- Every node of a term has one of the three forms. -/
def OkT : T → Prop
  | .node k n s xs => NodeOk k n s xs.length ∧ ∀ x ∈ xs, OkT x
theorem okT_node (k n : Int) (s : ByteArray) (xs : List T) : OkT (.node k n s xs) ↔ NodeOk k n s xs.length ∧ ∀ x ∈ xs, OkT x := by rw [OkT]

def AllAt (lo h : Nat) : Prop := ∀ (v : Value) (t : T) (w : World), TermAt w lo h v t → wT t ≤ 1048576 →
  Calls Tryz.prog 21 #[v] w (TellsT (OkT t) w)

set_option maxRecDepth 100000 in
set_option maxHeartbeats 1600000 in
theorem sAll_step (lo h : Nat) (IH : ∀ h', h = h' + 1 → AllAt lo h') : AllAt lo h := by
  intro v t w ht hw
  obtain ⟨kk, nn, s, u, xs, rfl, rfl, hs, ha⟩ := ht
  obtain ⟨a, cap, rfl⟩ := ha.slice
  have HA := Lib.hid (ha.below (boxed_below w kk nn s (.slice a xs.length cap))); clear ha
  have HW : Hid (xs.length + wS xs ≤ 1048576) := Lib.hid (by rw [wT_node] at hw; omega)
  have HSZ := Lib.hid hs
  have HOK := Lib.hid (okT_node kk nn s xs)
  clear hw hs
  have hnode : ∀ w', Calls Tryz.prog 40 #[tv kk nn s (.slice a xs.length cap)] w' (TellsT (NodeOk kk nn s xs.length) w') := fun w' => sNode_any kk nn s a xs.length cap w' HSZ.out
  have HND := Lib.hid hnode; clear hnode
  obtain ⟨m, hm⟩ : ∃ m, m = xs.length := ⟨_, rfl⟩
  have hml : m ≤ 1048576 := by have := HW.out; omega
  rw [← hm] at HA HND HOK ⊢
  have HM := Lib.hid hm; clear hm
  have HIH := Lib.hid IH; clear IH
  have HB0 := Lib.hid (boxed_below w kk nn s (.slice a m cap))
  go_enter Tryz.func21, Tryz.ntmps21
  go_wp2
  go_loopw [3] (fun i wr => ∃ k : Nat, k ≤ m ∧ i = .int .i64 k ∧ Hid (∀ j x, j < k → xs[j]? = some x → OkT x) ∧ Hid (Below (boxed w kk nn s (.slice a m cap)).heap.size (boxed w kk nn s (.slice a m cap)) wr)) (fun i _ => m - (intOf i).toNat)
  case atStart => exact ⟨0, Nat.zero_le _, rfl, Lib.hid (fun j x hj => by omega), Lib.hid (Below.refl _ _)⟩
  case round =>
    obtain ⟨k, hk, rfl, HF, HB⟩ := hrel
    obtain ⟨cb0, cb1, cb2, cb⟩ := boxed_cells HB.out
    by_cases hlt : k < m
    · obtain ⟨t, ht⟩ : ∃ t, xs[k]? = some t := ⟨_, List.getElem?_eq_getElem (by have := HM.out; omega)⟩
      obtain ⟨h', b, o, tk', tn, tsn, txs, u', e, rfl, rfl, hsz, c0, c1, c2, c3, har⟩ := HA.out.at ht
      have d0 := cell_on HB.out c0
      have d1 := cell_on HB.out c1
      have d2 := cell_on HB.out c2
      have d3 := cell_on HB.out c3
      clear c0 c1 c2 c3
      have hwt := wT_at xs k _ ht
      have HCALL := Lib.hid (HIH.out h' e _ _ wr ⟨tk', tn, tsn, u', txs, rfl, rfl, hsz, har.below HB.out⟩ (by have := HW.out; omega))
      have HT := Lib.hid ht
      clear hwt ht har hsz e
      go_wp2_with fail
      refine HCALL.out.mono ?_
      rintro e w1 ⟨b1, rfl, hq, hb1⟩
      have HB2 := Lib.hid (HB.out.trans (hb1.mono HB.out.size)); clear hb1
      have HQ := Lib.hid hq; clear hq
      cases b1 with
      | true =>
        go_wp2
        go_roundw
        case rel =>
          refine ⟨k + 1, by omega, by go_num, Lib.hid fun j x hj hx => ?_, HB2⟩
          by_cases hjk : j = k
          · subst hjk
            rw [HT.out] at hx; cases hx
            exact HQ.out.1 (by simp)
          · exact HF.out j x (by omega) hx
        case measure => simp [intOf]; omega
      | false =>
        go_wp2
        go_ret
        refine ⟨false, rfl, ⟨fun h => by simp at h, fun h => ?_⟩, HB0.out.trans (HB2.out.mono HB0.out.size)⟩
        have := HQ.out.2 ((HOK.out.1 h).2 _ (List.mem_of_getElem? HT.out))
        simp at this
    · have HD : Hid (∀ x ∈ xs, OkT x) := Lib.hid (fun x hx => by
        obtain ⟨j, hj⟩ := List.mem_iff_getElem?.1 hx
        exact HF.out j x (by have := (List.getElem?_eq_some_iff.1 hj).1; have := HM.out; omega) hj)
      go_wp2_with fail
      refine (HND.out wr).mono ?_
      rintro e w1 ⟨b1, rfl, hq, hb1⟩
      have HB2 := Lib.hid (HB.out.trans (hb1.mono HB.out.size)); clear hb1
      have HQ := Lib.hid hq; clear hq
      go_wp2
      go_ret
      refine ⟨b1, rfl, ?_, HB0.out.trans (HB2.out.mono HB0.out.size)⟩
      rw [HQ.out, HOK.out]
      exact ⟨fun h => ⟨h, HD.out⟩, fun h => h.1⟩

theorem sAll_any (lo : Nat) (h : Nat) : AllAt lo h := by_height (sAll_step lo) h

/-! ### no more than so many nodes -/
def LeftAt (lo h : Nat) : Prop := ∀ (v : Value) (t : T) (left : Nat) (w : World), TermAt w lo h v t → wT t ≤ 1048576 → left ≤ 60 →
  Calls Tryz.prog 19 #[v, .int .i64 left] w (NumB (max ((left : Int) - cT t) (-1)) w)

set_option maxRecDepth 100000 in
set_option maxHeartbeats 1600000 in
theorem sLeft_step (lo h : Nat) (IH : ∀ h', h = h' + 1 → LeftAt lo h') : LeftAt lo h := by
  intro v t left w ht hw hleft
  obtain ⟨kk, nn, s, u, xs, rfl, rfl, hs, ha⟩ := ht
  obtain ⟨a, cap, rfl⟩ := ha.slice
  have HA := Lib.hid (ha.below (boxed_below w kk nn s (.slice a xs.length cap))); clear ha
  have HW : Hid (xs.length + wS xs ≤ 1048576) := Lib.hid (by rw [wT_node] at hw; omega)
  have HCN := Lib.hid (cT_node kk nn s xs)
  clear hw hs
  obtain ⟨m, hm⟩ : ∃ m, m = xs.length := ⟨_, rfl⟩
  have hml : m ≤ 1048576 := by have := HW.out; omega
  rw [← hm] at HA ⊢
  have HM := Lib.hid hm; clear hm
  have HIH := Lib.hid IH; clear IH
  have HB0 := Lib.hid (boxed_below w kk nn s (.slice a m cap))
  go_enter Tryz.func19, Tryz.ntmps19
  go_wp2
  go_loopw [1, 5] (fun c i wr => ∃ (k : Nat) (x : Int), k ≤ m ∧ i = .int .i64 k ∧ c = .int .i64 x ∧ -1 ≤ x ∧ x ≤ 60 ∧ Hid (x = max ((left : Int) - 1 - cS (xs.take k)) (-1)) ∧ Hid (Below (boxed w kk nn s (.slice a m cap)).heap.size (boxed w kk nn s (.slice a m cap)) wr)) (fun _ i _ => m - (intOf i).toNat)
  case atStart => exact ⟨0, (left : Int) - 1, Nat.zero_le _, rfl, rfl, by omega, by omega, Lib.hid (by simp [cS]; omega), Lib.hid (Below.refl _ _)⟩
  case round =>
    obtain ⟨k, x, hk, rfl, rfl, hx0, hx1, HX, HB⟩ := hrel
    obtain ⟨_, _, _, cb⟩ := boxed_cells HB.out
    by_cases hlt : k < m
    · by_cases hneg : x < 0
      · have HD : Hid (x = max ((left : Int) - cT (.node kk nn s xs)) (-1)) := Lib.hid (by
          have h1 := HX.out
          have h2 := cS_take xs k
          rw [HCN.out]
          omega)
        go_wp2
        go_ret
        exact ⟨by rw [← HD.out]; rfl, HB0.out.trans (HB.out.mono HB0.out.size)⟩
      · have hpos : 0 ≤ x := by omega
        obtain ⟨t, ht⟩ : ∃ t, xs[k]? = some t := ⟨_, List.getElem?_eq_getElem (by have := HM.out; omega)⟩
        obtain ⟨h', b, o, tk', tn, tsn, txs, u', e, rfl, rfl, hsz, c0, c1, c2, c3, har⟩ := HA.out.at ht
        have d0 := cell_on HB.out c0
        have d1 := cell_on HB.out c1
        have d2 := cell_on HB.out c2
        have d3 := cell_on HB.out c3
        clear c0 c1 c2 c3
        have hwt := wT_at xs k _ ht
        have hcall := HIH.out h' e _ _ x.toNat wr ⟨tk', tn, tsn, u', txs, rfl, rfl, hsz, har.below HB.out⟩ (by have := HW.out; omega) (by omega)
        rw [show ((x.toNat : Nat) : Int) = x by omega] at hcall
        have HCALL := Lib.hid hcall
        obtain ⟨y, hy⟩ : ∃ y, y = max (x - (cT (.node tk' tn tsn txs) : Int)) (-1) := ⟨_, rfl⟩
        have HY : Hid (y = max ((left : Int) - 1 - cS (xs.take (k + 1))) (-1)) := Lib.hid (by
          have h1 := HX.out
          rw [tk xs k _ ht, cS_snoc]
          omega)
        have hy0 : -1 ≤ y ∧ y ≤ 60 := by omega
        obtain ⟨hy1, hy2⟩ := hy0
        rw [← hy] at HCALL
        clear hwt ht har hsz e hcall hy
        go_wp2_with fail
        refine HCALL.out.mono ?_
        rintro e w1 ⟨rfl, hb1⟩
        have HB2 := Lib.hid (HB.out.trans (hb1.mono HB.out.size)); clear hb1
        go_wp2
        go_roundw
        case rel => exact ⟨k + 1, y, by omega, by go_num, rfl, hy1, hy2, HY, HB2⟩
        case measure => simp [intOf]; omega
    · have HD : Hid (x = max ((left : Int) - cT (.node kk nn s xs)) (-1)) := Lib.hid (by
        have h1 := HX.out
        have hkn : k = xs.length := by have := HM.out; omega
        rw [hkn, List.take_length] at h1
        rw [HCN.out]
        omega)
      go_wp2
      go_ret
      exact ⟨by rw [← HD.out]; rfl, HB0.out.trans (HB.out.mono HB0.out.size)⟩

theorem sLeft_any (lo : Nat) (h : Nat) : LeftAt lo h := by_height (sLeft_step lo) h

/-- A valid term. -/
def ValidT (t : T) : Prop := cT t ≤ 60 ∧ dT t ≤ 16 ∧ OkT t

set_option maxRecDepth 100000 in
set_option maxHeartbeats 800000 in
theorem sValid_any (v : Value) (t : T) (lo h : Nat) (w : World) (ht : TermAt w lo h v t) (hw : wT t ≤ 1048576) :
    Calls Tryz.prog 9 #[v] w (TellsT (ValidT t) w) := by
  have HW := Lib.hid hw; clear hw
  have HT := Lib.hid ht
  obtain ⟨kk, nn, s, u, xs, rfl, et, hs, ha⟩ := ht
  clear et hs ha xs
  have HB0 := Lib.hid (boxed_below w kk nn s u)
  go_enter Tryz.func9, Tryz.ntmps9
  go_wp2_with fail
  refine (sLeft_any lo h _ t 60 _ (HT.out.below HB0.out) HW.out (by decide)).mono ?_
  rintro e w1 ⟨rfl, hb1⟩
  have hc1 := boxed_cells hb1
  obtain ⟨c0, c1, c2, c3⟩ := hc1
  have HB1 := Lib.hid (HB0.out.trans (hb1.mono HB0.out.size))
  have HT1 := Lib.hid ((HT.out.below HB0.out).below hb1)
  have HBX := Lib.hid hb1; clear hb1
  obtain ⟨y, hy⟩ : ∃ y, y = max (((60 : Nat) : Int) - cT t) (-1) := ⟨_, rfl⟩
  rw [← hy]
  have HY := Lib.hid hy; clear hy
  by_cases hy0 : 0 ≤ y
  · have HC : Hid (cT t ≤ 60) := Lib.hid (by have := HY.out; omega)
    have hdl := dT_le t
    have hdc : dT t ≤ 60 := by have := HC.out; omega
    clear hdl
    obtain ⟨d, hd⟩ : ∃ d, d = dT t := ⟨_, rfl⟩
    have HDD := Lib.hid hd
    go_wp2_with fail
    refine (sDepth_any lo h _ t _ HT1.out HW.out).mono ?_
    rintro e w2 ⟨rfl, hb2⟩
    have e0 := cell_on hb2 c0
    have e1 := cell_on hb2 c1
    have e2 := cell_on hb2 c2
    have e3 := cell_on hb2 c3
    have HB2 := Lib.hid (HB1.out.trans (hb2.mono HB1.out.size))
    have HT2 := Lib.hid (HT1.out.below hb2); clear hb2 c0 c1 c2 c3
    rw [← hd]
    rw [← hd] at hdc
    clear hd
    by_cases hd16 : d ≤ 16
    · go_wp2_with fail
      refine (sAll_any lo h _ t _ HT2.out HW.out).mono ?_
      rintro e w3 ⟨b3, rfl, hq, hb3⟩
      have HQ := Lib.hid hq; clear hq
      have HB3 := Lib.hid (HB2.out.trans (hb3.mono HB2.out.size)); clear hb3
      go_wp2
      go_ret
      refine ⟨b3, rfl, ?_, HB3.out⟩
      rw [HQ.out]
      exact ⟨fun h => ⟨HC.out, by rw [← HDD.out]; exact hd16, h⟩, fun h => h.2.2⟩
    · go_wp2
      go_ret
      refine ⟨false, rfl, ⟨fun h => by simp at h, fun h => ?_⟩, HB2.out⟩
      have := h.2.1
      rw [← HDD.out] at this
      omega
  · go_wp2
    go_ret
    refine ⟨false, rfl, ⟨fun h => by simp at h, fun h => ?_⟩, HB1.out⟩
    have := h.1
    have := HY.out
    omega
end Go.Proofs.YtooiiomfahomjaaGreatDoor
namespace Go.Proofs.YtooiiomfahomjaaGreatDoor
open Go

/-- The bytes of all strings together. -/
def total (ps : List ByteArray) : Nat := (ps.map (·.size)).sum
theorem total_snoc (ps : List ByteArray) (p : ByteArray) : total (ps ++ [p]) = total ps + p.size := by simp [total]
theorem take_next {α : Type} (l : List α) (k : Nat) (x : α) (h : l[k]? = some x) : l.take (k + 1) = l.take k ++ [x] := by
  rw [List.take_add_one, h]; rfl
theorem total_take_le (ps : List ByteArray) (k : Nat) : total (ps.take k) ≤ total ps := by
  have h : total ps = total (ps.take k) + total (ps.drop k) := by
    unfold total
    rw [← List.sum_append, ← List.map_append, List.take_append_drop]
  omega

theorem join_length (sep : List UInt8) (ps : List ByteArray) : (Lib.join (ps.map (·.data.toList)) sep).length ≤ total ps + ps.length * sep.length := by
  cases ps with
  | nil => simp [Lib.join_nil]
  | cons p r =>
    rw [List.map_cons, Lib.join_cons]
    have h : ∀ r : List ByteArray, (Lib.joinTail sep (r.map (·.data.toList))).length = total r + r.length * sep.length := by
      intro r
      induction r with
      | nil => simp [Lib.joinTail, total]
      | cons q r ih =>
        have e : Lib.joinTail sep ((q :: r).map (·.data.toList)) = sep ++ q.data.toList ++ Lib.joinTail sep (r.map (·.data.toList)) := by simp [Lib.joinTail]
        have e2 : total (q :: r) = q.size + total r := by simp [total]
        have e3 : q.data.toList.length = q.size := by simp
        rw [e, List.length_append, List.length_append, ih, e2, e3, List.length_cons, Nat.add_mul]
        omega
    have e2 : total (p :: r) = p.size + total r := by simp [total]
    have e3 : p.data.toList.length = p.size := by simp
    rw [List.length_append, h r, e2, e3, List.length_cons, Nat.add_mul]
    omega

end Go.Proofs.YtooiiomfahomjaaGreatDoor
