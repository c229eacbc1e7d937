/-
  spec.l3Copy copies a term into memory of the call's own.
-/
import Derived.Test.YtcmhiindjponcaaDoorQ16
import Derived.Deep.AppendLies
namespace Go.Proofs.YtcmhiindjponcaaDoor
open Go.RowKit

/-- A copy in new blocks. -/
def LCopyT (h : Nat) (t : T) (w : World) (e : Ending) (w' : World) : Prop := ∃ k n s a m c, e = .returned (tv k n s (.slice a m c)) ∧ TermAt w' w.heap.size h (tv k n s (.slice a m c)) t ∧ Below w.heap.size w w'
/-- The same, of which the row of the arguments is the call's own. -/
def LCopyO (h : Nat) (t : T) (w : World) (e : Ending) (w' : World) : Prop := ∃ k n s a m c xs vs, e = .returned (tv k n s (.slice a m c)) ∧ t = .node k n s xs ∧ s.size ≤ maxLen ∧ m = xs.length ∧ m ≤ maxLen ∧ (h = 0 → xs = []) ∧
  w'.ownsRow w.heap.size 26 4 (.slice a m c) m vs ∧ RowP (fun j => w.heap.size ≤ j ∧ some j ≠ (Value.slice a m c).ownBlock ∧ j < w'.heap.size) w' (h - 1) xs vs ∧ Below w.heap.size w w'
theorem LCopyO.args {w' : World} {B h : Nat} {u : Value} {xs : List T} {vs : List Value} {P : Nat → Prop} (ho : w'.ownsRow B 26 4 u xs.length vs) (hl : xs.length ≤ maxLen) (h0 : h = 0 → xs = []) (hP : ∀ j, P j → B ≤ j) (hr : RowP P w' (h - 1) xs vs) : ArgsAt w' B h u xs := by
  have h1 := hr.args ho rfl hl hP (Nat.le_refl _)
  cases h with
  | zero =>
    have := h0 rfl
    subst this
    obtain ⟨a, c, e⟩ := own_form' ho
    subst e
    exact ArgsAt.nil _ _ _ _ _
  | succ h => exact h1
theorem LCopyO.toT {h : Nat} {t : T} {w : World} {e : Ending} {w' : World} (c : LCopyO h t w e w') : LCopyT h t w e w' := by
  obtain ⟨k, n, s, a, m, cc, xs, vs, rfl, rfl, hs, rfl, hl, h0, ho, hr, hb⟩ := c
  exact ⟨k, n, s, a, _, cc, rfl, ⟨k, n, s, _, xs, rfl, rfl, hs, LCopyO.args ho hl h0 (fun j hj => hj.1) hr⟩, hb⟩
def LCopyAt (h : Nat) : Prop := ∀ (v : Value) (t : T) (lo : Nat) (w : World), TermAt w lo h v t → wT t ≤ 1048576 → Calls Tryd.prog 19 #[v] w (LCopyO h t w)

/-- How far the copy of the arguments has come. -/
def LCRel (lo h k : Nat) (ts : List T) (v : Value) (w wr : World) : Prop :=
  ∃ vs, wr.ownsRow lo 26 4 v k vs ∧ RowP (fun j => lo ≤ j ∧ some j ≠ v.ownBlock ∧ j < wr.heap.size) wr (h - 1) (ts.take k) vs ∧ Below lo w wr

theorem lcopy_fin {w wr : World} {k n : Int} {s : ByteArray} {a : Option Addr} {m c h : Nat} {xs : List T} {vs : List Value} {v0 v1 v2 v3 v4 : Value} (hs : s.size ≤ maxLen) (hm : m = xs.length) (hl : m ≤ maxLen) (h0 : h = 0 → xs = []) (ho : wr.ownsRow (w.heap.size + 2) 26 4 (.slice a m c) m vs)
    (hr : RowP (fun j => w.heap.size + 2 ≤ j ∧ some j ≠ (Value.slice a m c).ownBlock ∧ j < wr.heap.size) wr (h - 1) xs vs) (hb : Below w.heap.size w wr) :
    LCopyO h (.node k n s xs) w (.returned (tv k n s (.slice a m c))) (((((wr.setCell ⟨w.heap.size, 3, none⟩ v4).setCell ⟨w.heap.size + 1, 0, none⟩ v0).setCell ⟨w.heap.size + 1, 1, none⟩ v1).setCell ⟨w.heap.size + 1, 2, none⟩ v2).setCell ⟨w.heap.size + 1, 3, none⟩ v3) := by
  have st : ∀ (W : World) (g j : Nat) (v : Value), g < w.heap.size + 2 → W.ownsRow (w.heap.size + 2) 26 4 (.slice a m c) m vs ∧ RowP (fun j => w.heap.size + 2 ≤ j ∧ some j ≠ (Value.slice a m c).ownBlock ∧ j < wr.heap.size) W (h - 1) xs vs →
      (W.setCell ⟨g, j, none⟩ v).ownsRow (w.heap.size + 2) 26 4 (.slice a m c) m vs ∧ RowP (fun j => w.heap.size + 2 ≤ j ∧ some j ≠ (Value.slice a m c).ownBlock ∧ j < wr.heap.size) (W.setCell ⟨g, j, none⟩ v) (h - 1) xs vs := by
    intro W g j v hg ⟨o, r⟩
    refine ⟨keep_above o (u := .slice (some ⟨g, 0, none⟩) 0 0) (fun k hk => by simp [Value.ownBlock] at hk; omega) (by simpa [Value.ownBlock] using set_grown W g j v), r.keep fun ad x hP hx => (set_grown W g j v).cell hx (fun e => by cases e; have := hP.1; omega)⟩
  obtain ⟨o5, r5⟩ := st _ (w.heap.size + 1) 3 v3 (by omega) (st _ (w.heap.size + 1) 2 v2 (by omega) (st _ (w.heap.size + 1) 1 v1 (by omega) (st _ (w.heap.size + 1) 0 v0 (by omega) (st wr w.heap.size 3 v4 (by omega) ⟨ho, hr⟩))))
  exact ⟨k, n, s, a, m, c, xs, vs, rfl, rfl, hs, hm, hl, h0, own_low o5 (by omega), r5.imp (fun j hj => ⟨by omega, hj.2.1, by simpa [World.setCell] using hj.2.2⟩),
    ((((hb.setCell (Nat.le_refl _) _).setCell (Nat.le_succ _) _).setCell (Nat.le_succ _) _).setCell (Nat.le_succ _) _).setCell (Nat.le_succ _) _⟩

set_option maxRecDepth 100000 in
set_option maxHeartbeats 3200000 in
theorem lcopy_step (h : Nat) (IH : ∀ h', h = h' + 1 → LCopyAt h') : LCopyAt h := by
  intro v t lo w ht hw
  obtain ⟨k, n, s, u, xs, rfl, rfl, hs, ha⟩ := ht
  obtain ⟨a, cap, rfl⟩ := ha.slice
  obtain ⟨i0, hi, hz0, hz1, hz2⟩ := info_parts infoTermD
  have HI := Lib.hid hi; clear hi
  have HZ0 := Lib.hid hz0; clear hz0
  have HZ1 := Lib.hid hz1; clear hz1
  have HZ2 := Lib.hid hz2; clear hz2
  have HS := Lib.hid hs; clear hs
  have HA := Lib.hid ha; clear ha
  have HW : Hid (xs.length + wS xs ≤ 1048576) := Lib.hid (by rw [wT_node] at hw; omega)
  clear hw
  have HIH := Lib.hid IH; clear IH
  obtain ⟨m, hm⟩ : ∃ m, m = xs.length := ⟨_, rfl⟩
  have hml : m ≤ 1048576 := by have := HW.out; omega
  rw [← hm] at HA ⊢
  have HM := Lib.hid hm; clear hm
  obtain ⟨W0, hW0⟩ : ∃ W0, W0 = ((boxed w k n s (.slice a m cap)).alloc (.cells #[.int .i64 0, .int .i64 0, .string ⟨#[]⟩, .slice none 0 0] 26)).alloc (.cells #[] 26) := ⟨_, rfl⟩
  have hs0 : W0.heap.size = w.heap.size + 3 := by rw [hW0]; simp
  have hB0 : Below w.heap.size w W0 := by rw [hW0]; exact ((boxed_below w k n s _).alloc (by simp) _).alloc (by simp; omega) _
  have r0 : W0.heap[w.heap.size]? = some (.cells #[.int .i64 k, .int .i64 n, .string s, .slice a m cap] 26 (0, 0)) := by
    rw [hW0, Below.heap_alloc _ _ _ (by simp; omega), Below.heap_alloc _ _ _ (by simp)]; exact heap_new w _ rfl
  have r1 : W0.heap[w.heap.size + 1]? = some (.cells #[.int .i64 0, .int .i64 0, .string ⟨#[]⟩, .slice none 0 0] 26 (0, 0)) := by
    rw [hW0, Below.heap_alloc _ _ _ (by simp)]; exact heap_new _ _ (by simp)
  have ho0 : W0.ownsRow (w.heap.size + 2) 26 4 (.slice (some ⟨w.heap.size + 2, 0, none⟩) 0 0) 0 [] := by
    rw [hW0]
    have e : ((boxed w k n s (.slice a m cap)).alloc (.cells #[.int .i64 0, .int .i64 0, .string ⟨#[]⟩, .slice none 0 0] 26)).heap.size = w.heap.size + 2 := by simp
    have := World.ownsRow_lit (base := w.heap.size + 2) (size := 4) (e := 26) ((boxed w k n s (.slice a m cap)).alloc (.cells #[.int .i64 0, .int .i64 0, .string ⟨#[]⟩, .slice none 0 0] 26)) #[] 0 (by rw [e]; omega) (by decide) rfl
    rw [e] at this
    exact this
  have HR0 : Hid (LCRel (w.heap.size + 2) h 0 xs (.slice (some ⟨w.heap.size + 2, 0, none⟩) 0 0) W0 W0) := Lib.hid ⟨[], ho0, rfl, Below.refl _ _⟩
  have HB0 := Lib.hid hB0
  have HS0 := Lib.hid hs0
  have HRR := Lib.hid (And.intro r0 r1)
  clear ho0 hB0 hs0 r0 r1
  go_enter Tryd.func19, Tryd.ntmps19
  go_wp2
  rw [← hW0]
  clear hW0
  go_loopw [3, 4] (fun v i wr => ∃ j : Nat, j ≤ m ∧ i = .int .i64 j ∧ (∃ va vc, v = .slice va j vc) ∧ Hid (LCRel (w.heap.size + 2) h j xs v W0 wr)) (fun _ i _ => m - (intOf i).toNat)
  case atStart => exact ⟨0, Nat.zero_le _, rfl, ⟨_, _, rfl⟩, HR0⟩
  case round =>
    clear HR0
    obtain ⟨j, hj, rfl, ⟨va, vc, rfl⟩, HR⟩ := hrel
    obtain ⟨vs, ho, hrp, hbl⟩ := HR.out
    have q0 := (hbl.block w.heap.size (by omega)).trans HRR.out.1
    have q1 := (hbl.block (w.heap.size + 1) (by omega)).trans HRR.out.2
    have c3 := cell_of_row wr w.heap.size 3 _ _ _ q0
    simp at c3
    have hzr : w.heap.size + 3 ≤ wr.heap.size := by have := HS0.out; have := hbl.size; omega
    have HQ := Lib.hid (And.intro q0 q1); clear q0 q1
    have HO := Lib.hid ho; clear ho
    have HP := Lib.hid hrp; clear hrp
    have HB := Lib.hid hbl; clear hbl
    by_cases hlt : j < m
    · obtain ⟨x, hx⟩ : ∃ x, xs[j]? = some x := ⟨_, List.getElem?_eq_getElem (by have := HM.out; omega)⟩
      obtain ⟨h', b, o, tk', tn, tsn, txs, u', e, rfl, rfl, hsz, p0, p1, p2, p3, har⟩ := HA.out.at hx
      obtain ⟨ua, uc, rfl⟩ := har.slice
      have hbw : Below w.heap.size w wr := HB0.out.trans (HB.out.mono (by omega))
      have d0 := cell_on hbw p0
      have d1 := cell_on hbw p1
      have d2 := cell_on hbw p2
      have d3 := cell_on hbw p3
      have hwt := wT_at xs j _ hx
      have HCALL := Lib.hid ((HIH.out h' e _ _ lo wr ⟨tk', tn, tsn, _, txs, rfl, rfl, hsz, har.below hbw⟩ (by have := HW.out; omega)).mono fun _ _ q => LCopyO.toT q)
      have HTK : Hid (xs.take (j + 1) = xs.take j ++ [.node tk' tn tsn txs]) := Lib.hid (tk xs j _ hx)
      have HE := Lib.hid e
      clear hwt har hsz e p0 p1 p2 p3 hx hbw
      go_wp2_with fail
      refine HCALL.out.mono ?_
      rintro e w2 ⟨k2, n2, s2, a2, m2, c2', rfl, ht2, hb2⟩
      obtain ⟨_, _, _, _, ys, e1, e2, hs2, ha2⟩ := ht2
      cases e1
      cases e2
      have HA2 := Lib.hid (And.intro hs2 ha2); clear hs2 ha2
      have HO2 := Lib.hid (keep_own HO.out hb2)
      have HB2 := Lib.hid hb2; clear hb2
      go_wp2_with (first | (at_builtin; refine wpList_append_lies _ rfl (.tmp 13) (.tmp 20) 24 rfl (w.heap.size + 2) 26 i0 (.agg #[.int .i64 0, .int .i64 0, .string ByteArray.empty, .slice none 0 0]) 4 56 Tryd.underlying24 HI.out HZ0.out HZ1.out HZ2.out rfl (by decide) _ _ _ rfl (HO2.out.alloc _) ⟨w2.heap.size, 0, none⟩ 1 1 [.int .i64 tk', .int .i64 tn, .string tsn, .slice a2 m2 c2'] rfl rfl (news4' _ _ _ _ _ _ rfl) (by simp [Value.oneCell']) (by decide) (by unfold maxLen; omega) (by omega) (Nat.le_trans (by omega : w.heap.size + 2 ≤ wr.heap.size) (Nat.le_trans HB2.out.size (by simp))) _ rfl ?_))
      intro g cap3 w3 hown hgr hat hlt3
      have hown1 := (HO.out.lt)
      have hst : LCRel (w.heap.size + 2) h (j + 1) xs (.slice (some ⟨g, 0, none⟩) (j + 1) cap3) W0 w3 := by
        have hw2 := HB2.out.size
        have hza : (w2.alloc (.cells #[.int .i64 tk', .int .i64 tn, .string tsn, .slice a2 m2 c2'] 26)).heap.size = w2.heap.size + 1 := by simp
        have hw3 := hgr.size
        have hc3 : ∀ (ad : Addr) v, some ad.block ≠ (Value.slice va j vc).ownBlock → w2.cell? ad = some v → w3.cell? ad = some v := fun ad v hne hv => hgr.cell (cell_on ((Below.refl _ _).alloc (Nat.le_refl _) _) hv) hne
        refine ⟨_, hown, ?_, ?_⟩
        · rw [HTK.out]
          have e1 : h - 1 = h' := by have := HE.out; omega
          have hp := HP.out
          rw [e1] at hp ⊢
          refine RowP.snoc HA2.out.1 ?_ ((hp.keep (fun ad v hP hv => hc3 ad v hP.2.1 (cell_on HB2.out hv))).imp (fun i hP => ⟨hP.1, ?_, ?_⟩))
          · have h1 : ArgsP (fun i => wr.heap.size ≤ i ∧ i < w2.heap.size) w2 h' (.slice a2 m2 c2') txs := ArgsP.of (fun i h1 h2 => ⟨h1, h2⟩) HA2.out.2
            refine (h1.keep (fun ad v hP hv => hc3 ad v (fun e => ?_) hv)).imp (fun i hP => ⟨by omega, fun e => ?_, by omega⟩)
            · have := (HO.out.lt _ e.symm).2
              omega
            · have e2 : i = g := by simpa [Value.ownBlock] using e
              rcases hat with h2 | h2
              · have := (HO.out.lt _ h2).2
                omega
              · omega
          · intro e
            have e2 : i = g := by simpa [Value.ownBlock] using e
            rcases hat with h2 | h2
            · exact hP.2.1 (by rw [h2, e2])
            · have := hP.2.2
              omega
          · have := hP.2.2
            omega
        · have h1 : Below (w.heap.size + 2) W0 w2 := HB.out.trans (HB2.out.mono (by omega))
          have h2 := h1.alloc (by omega) (.cells #[.int .i64 tk', .int .i64 tn, .string tsn, .slice a2 m2 c2'] 26)
          exact h2.grown hgr (by omega) (fun i hi => (HO.out.lt _ hi).1)
      have HST := Lib.hid hst
      clear hst hown1 hown hgr hat hlt3
      go_wp2
      go_roundw
      case rel => exact ⟨j + 1, by omega, by go_num, ⟨_, _, rfl⟩, HST⟩
      case measure => simp [intOf]; omega
    · have hjm : j = m := by omega
      subst hjm
      have q0 := HQ.out.1
      have q1 := HQ.out.2
      have e0 := cell_of_row wr w.heap.size 0 _ _ _ q0
      have e1 := cell_of_row wr w.heap.size 1 _ _ _ q0
      have e2 := cell_of_row wr w.heap.size 2 _ _ _ q0
      have g3 := frozen_of_row wr w.heap.size 3 _ _ q0
      have z0 := cell_of_row wr (w.heap.size + 1) 0 _ _ _ q1
      have z1 := cell_of_row wr (w.heap.size + 1) 1 _ _ _ q1
      have z2 := cell_of_row wr (w.heap.size + 1) 2 _ _ _ q1
      have z3 := cell_of_row wr (w.heap.size + 1) 3 _ _ _ q1
      have y0 := frozen_of_row wr (w.heap.size + 1) 0 _ _ q1
      have y1 := frozen_of_row wr (w.heap.size + 1) 1 _ _ q1
      have y2 := frozen_of_row wr (w.heap.size + 1) 2 _ _ q1
      have y3 := frozen_of_row wr (w.heap.size + 1) 3 _ _ q1
      simp at e0 e1 e2 z0 z1 z2 z3
      clear q0 q1
      have hp := HP.out
      rw [show xs.take j = xs from by rw [List.take_of_length_le]; have := HM.out; omega] at hp
      have h0 : h = 0 → xs = [] := fun e => by
        subst e
        exact HA.out.1
      have HF := Lib.hid (fun v0 v1 v2 v3 v4 => lcopy_fin (v0 := v0) (v1 := v1) (v2 := v2) (v3 := v3) (v4 := v4) (k := k) (n := n) (w := w) HS.out HM.out (by unfold maxLen; omega) h0 HO.out hp (HB0.out.trans (HB.out.mono (by omega))))
      clear hp h0
      go_wp2
      (try simp only [Exit.inBlock, Exit.then])
      refine bodyPost_ret (v := tv k n s (.slice va j vc)) ?hr rfl ?_
      case hr =>
        rw [results_cell (a := 2) (t := 26) (ad := ⟨w.heap.size + 1, 0, none⟩) rfl rfl]
        go_simp
      exact HF.out _ _ _ _ _

theorem lcopyO_any (h : Nat) : LCopyAt h := by_height lcopy_step h
theorem lcopy_any (h : Nat) (v : Value) (t : T) (lo : Nat) (w : World) (ht : TermAt w lo h v t) (hw : wT t ≤ 1048576) : Calls Tryd.prog 19 #[v] w (LCopyT h t w) :=
  (lcopyO_any h v t lo w ht hw).mono fun _ _ q => LCopyO.toT q
end Go.Proofs.YtcmhiindjponcaaDoor
