/-
  spec.l3Copy copies a term into memory of the call's own.
-/
import Derived.Test.YtbechogdijkgjaaTermBent
import Derived.Test.YtbechogdijkgjaaLevel
import Derived.Deep.AppendLies
namespace Go.Proofs.Ytbechogdijkgjaa
open Go.RowKit

/-- The cells of a row of terms whose own rows lie in blocks of which P holds. -/
def RowP (P : Nat → Prop) (w : World) (h : Nat) : List T → List Value → Prop
  | [], vs => vs = []
  | .node k n s xs :: ts, vs => ∃ a m cap rest, vs = .int .i64 k :: .int .i64 n :: .string s :: .slice a m cap :: rest ∧ s.size ≤ maxLen ∧ ArgsP P w h (.slice a m cap) xs ∧ RowP P w h ts rest
theorem RowP.keep {P : Nat → Prop} {w w' : World} {h : Nat} (hk : ∀ (ad : Addr) v, P ad.block → w.cell? ad = some v → w'.cell? ad = some v) : ∀ {ts : List T} {vs : List Value}, RowP P w h ts vs → RowP P w' h ts vs
  | [], _, e => e
  | .node _ _ _ _ :: _, _, ⟨a, m, cap, rest, e, hs, ha, hr⟩ => ⟨a, m, cap, rest, e, hs, ha.keep hk, hr.keep hk⟩
theorem ArgsP.imp {P Q : Nat → Prop} {w : World} (hp : ∀ j, P j → Q j) : ∀ {h : Nat} {u : Value} {ts : List T}, ArgsP P w h u ts → ArgsP Q w h u ts
  | 0, _, _, k => k
  | h + 1, _, _, ⟨a, cap, e, hl, hc⟩ => by
    refine ⟨a, cap, e, hl, ?_⟩
    rcases hc with hc | ⟨b, o, rfl, hb, hc⟩
    · exact Or.inl hc
    · refine Or.inr ⟨b, o, rfl, hp _ hb, fun i k n s xs hi => ?_⟩
      obtain ⟨hs, u', c0, c1, c2, c3, hr⟩ := hc i k n s xs hi
      exact ⟨hs, u', c0, c1, c2, c3, hr.imp hp⟩
theorem RowP.imp {P Q : Nat → Prop} {w : World} {h : Nat} (hp : ∀ j, P j → Q j) : ∀ {ts : List T} {vs : List Value}, RowP P w h ts vs → RowP Q w h ts vs
  | [], _, e => e
  | .node _ _ _ _ :: _, _, ⟨a, m, cap, rest, e, hs, ha, hr⟩ => ⟨a, m, cap, rest, e, hs, ha.imp hp, hr.imp hp⟩
theorem RowP.snoc {P : Nat → Prop} {w : World} {h : Nat} {k n : Int} {s : ByteArray} {a : Option Addr} {m cap : Nat} {xs : List T} (hs : s.size ≤ maxLen) (ha : ArgsP P w h (.slice a m cap) xs) : ∀ {ts : List T} {vs : List Value}, RowP P w h ts vs →
    RowP P w h (ts ++ [.node k n s xs]) (vs ++ [.int .i64 k, .int .i64 n, .string s, .slice a m cap])
  | [], _, e => by cases e; exact ⟨a, m, cap, [], rfl, hs, ha, rfl⟩
  | .node _ _ _ _ :: _, _, ⟨a', m', cap', rest, e, hs', ha', hr⟩ => ⟨a', m', cap', _, by rw [e]; rfl, hs', ha', hr.snoc hs ha⟩
theorem RowP.rowV {P : Nat → Prop} {w : World} {h : Nat} : ∀ {ts : List T} {vs : List Value}, RowP P w h ts vs → RowV w h ts vs
  | [], _, e => e
  | .node _ _ _ _ :: _, _, ⟨a, m, cap, rest, e, hs, ha, hr⟩ => ⟨a, m, cap, rest, e, hs, ha.args (fun _ _ => Nat.zero_le _), hr.rowV⟩
theorem RowP.at {P : Nat → Prop} {w : World} {h : Nat} : ∀ {ts : List T} {vs : List Value}, RowP P w h ts vs → ∀ (i : Nat) (k n : Int) (s : ByteArray) (xs : List T), ts[i]? = some (T.node k n s xs) →
    ∃ a m cap, vs[i * 4 + 3]? = some (.slice a m cap) ∧ ArgsP P w h (.slice a m cap) xs
  | [], _, _ => by simp
  | .node _ _ _ _ :: _, _, ⟨a, m, cap, rest, e, hs, ha, hr⟩ => by
    intro i k n s xs hi
    cases i with
    | zero =>
      simp at hi
      obtain ⟨rfl, rfl, rfl, rfl⟩ := hi
      subst e
      exact ⟨a, m, cap, rfl, ha⟩
    | succ i =>
      simp at hi
      obtain ⟨a', m', cap', x3, ha'⟩ := hr.at i k n s xs hi
      subst e
      exact ⟨a', m', cap', by rw [show (i + 1) * 4 + 3 = i * 4 + 3 + 4 by omega]; simpa using x3, ha'⟩
theorem RowP.args {P : Nat → Prop} {w : World} {B lo h n : Nat} {v : Value} {ts : List T} {vs : List Value} (r : RowP P w h ts vs) (ho : w.ownsRow B 26 4 v n vs) (hn : n = ts.length) (hl : n ≤ maxLen) (hP : ∀ j, P j → lo ≤ j) (hB : lo ≤ B) : ArgsAt w lo (h + 1) v ts := by
  rcases ho.2 with hnil | ⟨g, cap, cur, rfl, hg, rest⟩
  · obtain ⟨rfl, h0⟩ := hnil
    have : ts = [] := List.eq_nil_of_length_eq_zero (by omega)
    subst this
    exact ArgsAt.nil _ _ _ _ _
  · subst hn
    refine ⟨_, cap, rfl, hl, Or.inr ⟨g, 0, rfl, by omega, fun i k n s xs hi => ?_⟩⟩
    obtain ⟨hs, a, m, c, x0, x1, x2, x3, _⟩ := r.rowV.at i k n s xs hi
    obtain ⟨a2, m2, c2, y3, ha⟩ := r.at i k n s xs hi
    rw [x3] at y3
    cases y3
    have hli : i < ts.length := (List.getElem?_eq_some_iff.1 hi).1
    refine ⟨hs, _, ?_, ?_, ?_, ?_, ha.args hP⟩
    · rw [Nat.zero_add, ho.cellAt (i * 4) (by omega), x0]
    · rw [Nat.zero_add, ho.cellAt (i * 4 + 1) (by omega), x1]
    · rw [Nat.zero_add, ho.cellAt (i * 4 + 2) (by omega), x2]
    · rw [Nat.zero_add, ho.cellAt (i * 4 + 3) (by omega), x3]

/-- A copy in new blocks. -/
def LCopyT (h : Nat) (t : T) (w : World) (e : Ending) (w' : World) : Prop := ∃ k n s a m c, e = .returned (tv k n s (.slice a m c)) ∧ TermAt w' w.heap.size h (tv k n s (.slice a m c)) t ∧ Below w.heap.size w w'
def LCopyAt (h : Nat) : Prop := ∀ (v : Value) (t : T) (lo : Nat) (w : World), TermAt w lo h v t → wT t ≤ 1048576 → Calls Try.prog 75 #[v] w (LCopyT h t w)

/-- How far the copy of the arguments has come. -/
def LCRel (lo h k : Nat) (ts : List T) (v : Value) (w wr : World) : Prop :=
  ∃ vs, wr.ownsRow lo 26 4 v k vs ∧ RowP (fun j => lo ≤ j ∧ some j ≠ v.ownBlock ∧ j < wr.heap.size) wr (h - 1) (ts.take k) vs ∧ Below lo w wr

theorem lcopy_fin {w wr : World} {k n : Int} {s : ByteArray} {a : Option Addr} {m c h : Nat} {xs : List T} {v0 v1 v2 v3 v4 : Value} (hs : s.size ≤ maxLen) (ha : ArgsAt wr (w.heap.size + 2) h (.slice a m c) xs) (hb : Below w.heap.size w wr) :
    LCopyT h (.node k n s xs) w (.returned (tv k n s (.slice a m c))) (((((wr.setCell ⟨w.heap.size, 3, none⟩ v4).setCell ⟨w.heap.size + 1, 0, none⟩ v0).setCell ⟨w.heap.size + 1, 1, none⟩ v1).setCell ⟨w.heap.size + 1, 2, none⟩ v2).setCell ⟨w.heap.size + 1, 3, none⟩ v3) := by
  refine ⟨k, n, s, a, m, c, rfl, ⟨k, n, s, _, xs, rfl, rfl, hs, ?_⟩, ?_⟩
  · have h1 := ha.grown (set_grown wr w.heap.size 3 v4) (fun j e => by cases e; omega)
    have h2 := h1.grown (set_grown _ (w.heap.size + 1) 0 v0) (fun j e => by cases e; omega)
    have h3 := h2.grown (set_grown _ (w.heap.size + 1) 1 v1) (fun j e => by cases e; omega)
    have h4 := h3.grown (set_grown _ (w.heap.size + 1) 2 v2) (fun j e => by cases e; omega)
    exact (h4.grown (set_grown _ (w.heap.size + 1) 3 v3) (fun j e => by cases e; omega)).low (by omega)
  · exact ((((hb.setCell (Nat.le_refl _) _).setCell (Nat.le_succ _) _).setCell (Nat.le_succ _) _).setCell (Nat.le_succ _) _).setCell (Nat.le_succ _) _

set_option maxRecDepth 100000 in
set_option maxHeartbeats 3200000 in
theorem lcopy_step (h : Nat) (IH : ∀ h', h = h' + 1 → LCopyAt h') : LCopyAt h := by
  intro v t lo w ht hw
  obtain ⟨k, n, s, u, xs, rfl, rfl, hs, ha⟩ := ht
  obtain ⟨a, cap, rfl⟩ := ha.slice
  obtain ⟨i0, hi, hz0, hz1, hz2⟩ := info_parts infoTermD
  have HI := Lib.hid hi; clear hi
  have HZ0 := Lib.hid hz0; clear hz0
  have HZ1 := Lib.hid hz1; clear hz1
  have HZ2 := Lib.hid hz2; clear hz2
  have HS := Lib.hid hs; clear hs
  have HA := Lib.hid ha; clear ha
  have HW : Hid (xs.length + wS xs ≤ 1048576) := Lib.hid (by rw [wT_node] at hw; omega)
  clear hw
  have HIH := Lib.hid IH; clear IH
  obtain ⟨m, hm⟩ : ∃ m, m = xs.length := ⟨_, rfl⟩
  have hml : m ≤ 1048576 := by have := HW.out; omega
  rw [← hm] at HA ⊢
  have HM := Lib.hid hm; clear hm
  obtain ⟨W0, hW0⟩ : ∃ W0, W0 = ((boxed w k n s (.slice a m cap)).alloc (.cells #[.int .i64 0, .int .i64 0, .string ⟨#[]⟩, .slice none 0 0] 26)).alloc (.cells #[] 26) := ⟨_, rfl⟩
  have hs0 : W0.heap.size = w.heap.size + 3 := by rw [hW0]; simp
  have hB0 : Below w.heap.size w W0 := by rw [hW0]; exact ((boxed_below w k n s _).alloc (by simp) _).alloc (by simp; omega) _
  have r0 : W0.heap[w.heap.size]? = some (.cells #[.int .i64 k, .int .i64 n, .string s, .slice a m cap] 26 (0, 0)) := by
    rw [hW0, Below.heap_alloc _ _ _ (by simp; omega), Below.heap_alloc _ _ _ (by simp)]; exact heap_new w _ rfl
  have r1 : W0.heap[w.heap.size + 1]? = some (.cells #[.int .i64 0, .int .i64 0, .string ⟨#[]⟩, .slice none 0 0] 26 (0, 0)) := by
    rw [hW0, Below.heap_alloc _ _ _ (by simp)]; exact heap_new _ _ (by simp)
  have ho0 : W0.ownsRow (w.heap.size + 2) 26 4 (.slice (some ⟨w.heap.size + 2, 0, none⟩) 0 0) 0 [] := by
    rw [hW0]
    have e : ((boxed w k n s (.slice a m cap)).alloc (.cells #[.int .i64 0, .int .i64 0, .string ⟨#[]⟩, .slice none 0 0] 26)).heap.size = w.heap.size + 2 := by simp
    have := World.ownsRow_lit (base := w.heap.size + 2) (size := 4) (e := 26) ((boxed w k n s (.slice a m cap)).alloc (.cells #[.int .i64 0, .int .i64 0, .string ⟨#[]⟩, .slice none 0 0] 26)) #[] 0 (by rw [e]; omega) (by decide) rfl
    rw [e] at this
    exact this
  have HR0 : Hid (LCRel (w.heap.size + 2) h 0 xs (.slice (some ⟨w.heap.size + 2, 0, none⟩) 0 0) W0 W0) := Lib.hid ⟨[], ho0, rfl, Below.refl _ _⟩
  have HB0 := Lib.hid hB0
  have HS0 := Lib.hid hs0
  have HRR := Lib.hid (And.intro r0 r1)
  clear ho0 hB0 hs0 r0 r1
  go_enter Try.func75, Try.ntmps75
  go_wp2
  rw [← hW0]
  clear hW0
  go_loopw [3, 4] (fun v i wr => ∃ j : Nat, j ≤ m ∧ i = .int .i64 j ∧ (∃ va vc, v = .slice va j vc) ∧ Hid (LCRel (w.heap.size + 2) h j xs v W0 wr)) (fun _ i _ => m - (intOf i).toNat)
  case atStart => exact ⟨0, Nat.zero_le _, rfl, ⟨_, _, rfl⟩, HR0⟩
  case round =>
    clear HR0
    obtain ⟨j, hj, rfl, ⟨va, vc, rfl⟩, HR⟩ := hrel
    obtain ⟨vs, ho, hrp, hbl⟩ := HR.out
    have q0 := (hbl.block w.heap.size (by omega)).trans HRR.out.1
    have q1 := (hbl.block (w.heap.size + 1) (by omega)).trans HRR.out.2
    have c3 := cell_of_row wr w.heap.size 3 _ _ _ q0
    simp at c3
    have hzr : w.heap.size + 3 ≤ wr.heap.size := by have := HS0.out; have := hbl.size; omega
    have HQ := Lib.hid (And.intro q0 q1); clear q0 q1
    have HO := Lib.hid ho; clear ho
    have HP := Lib.hid hrp; clear hrp
    have HB := Lib.hid hbl; clear hbl
    by_cases hlt : j < m
    · obtain ⟨x, hx⟩ : ∃ x, xs[j]? = some x := ⟨_, List.getElem?_eq_getElem (by have := HM.out; omega)⟩
      obtain ⟨h', b, o, tk', tn, tsn, txs, u', e, rfl, rfl, hsz, p0, p1, p2, p3, har⟩ := HA.out.at hx
      obtain ⟨ua, uc, rfl⟩ := har.slice
      have hbw : Below w.heap.size w wr := HB0.out.trans (HB.out.mono (by omega))
      have d0 := cell_on hbw p0
      have d1 := cell_on hbw p1
      have d2 := cell_on hbw p2
      have d3 := cell_on hbw p3
      have hwt := wT_at xs j _ hx
      have HCALL := Lib.hid (HIH.out h' e _ _ lo wr ⟨tk', tn, tsn, _, txs, rfl, rfl, hsz, har.below hbw⟩ (by have := HW.out; omega))
      have HTK : Hid (xs.take (j + 1) = xs.take j ++ [.node tk' tn tsn txs]) := Lib.hid (tk xs j _ hx)
      have HE := Lib.hid e
      clear hwt har hsz e p0 p1 p2 p3 hx hbw
      go_wp2_with fail
      refine HCALL.out.mono ?_
      rintro e w2 ⟨k2, n2, s2, a2, m2, c2', rfl, ht2, hb2⟩
      obtain ⟨_, _, _, _, ys, e1, e2, hs2, ha2⟩ := ht2
      cases e1
      cases e2
      have HA2 := Lib.hid (And.intro hs2 ha2); clear hs2 ha2
      have HO2 := Lib.hid (keep_own HO.out hb2)
      have HB2 := Lib.hid hb2; clear hb2
      go_wp2_with (first | (at_builtin; refine wpList_append_lies _ rfl (.tmp 13) (.tmp 20) 24 rfl (w.heap.size + 2) 26 i0 (.agg #[.int .i64 0, .int .i64 0, .string ByteArray.empty, .slice none 0 0]) 4 56 Try.underlying24 HI.out HZ0.out HZ1.out HZ2.out rfl (by decide) _ _ _ rfl (HO2.out.alloc _) ⟨w2.heap.size, 0, none⟩ 1 1 [.int .i64 tk', .int .i64 tn, .string tsn, .slice a2 m2 c2'] rfl rfl (news4' _ _ _ _ _ _ rfl) (by simp [Value.oneCell']) (by decide) (by unfold maxLen; omega) (by omega) (Nat.le_trans (by omega : w.heap.size + 2 ≤ wr.heap.size) (Nat.le_trans HB2.out.size (by simp))) _ rfl ?_))
      intro g cap3 w3 hown hgr hat hlt3
      have hown1 := (HO.out.lt)
      have hst : LCRel (w.heap.size + 2) h (j + 1) xs (.slice (some ⟨g, 0, none⟩) (j + 1) cap3) W0 w3 := by
        have hw2 := HB2.out.size
        have hza : (w2.alloc (.cells #[.int .i64 tk', .int .i64 tn, .string tsn, .slice a2 m2 c2'] 26)).heap.size = w2.heap.size + 1 := by simp
        have hw3 := hgr.size
        have hc3 : ∀ (ad : Addr) v, some ad.block ≠ (Value.slice va j vc).ownBlock → w2.cell? ad = some v → w3.cell? ad = some v := fun ad v hne hv => hgr.cell (cell_on ((Below.refl _ _).alloc (Nat.le_refl _) _) hv) hne
        refine ⟨_, hown, ?_, ?_⟩
        · rw [HTK.out]
          have e1 : h - 1 = h' := by have := HE.out; omega
          have hp := HP.out
          rw [e1] at hp ⊢
          refine RowP.snoc HA2.out.1 ?_ ((hp.keep (fun ad v hP hv => hc3 ad v hP.2.1 (cell_on HB2.out hv))).imp (fun i hP => ⟨hP.1, ?_, ?_⟩))
          · have h1 : ArgsP (fun i => wr.heap.size ≤ i ∧ i < w2.heap.size) w2 h' (.slice a2 m2 c2') txs := ArgsP.of (fun i h1 h2 => ⟨h1, h2⟩) HA2.out.2
            refine (h1.keep (fun ad v hP hv => hc3 ad v (fun e => ?_) hv)).imp (fun i hP => ⟨by omega, fun e => ?_, by omega⟩)
            · have := (HO.out.lt _ e.symm).2
              omega
            · have e2 : i = g := by simpa [Value.ownBlock] using e
              rcases hat with h2 | h2
              · have := (HO.out.lt _ h2).2
                omega
              · omega
          · intro e
            have e2 : i = g := by simpa [Value.ownBlock] using e
            rcases hat with h2 | h2
            · exact hP.2.1 (by rw [h2, e2])
            · have := hP.2.2
              omega
          · have := hP.2.2
            omega
        · have h1 : Below (w.heap.size + 2) W0 w2 := HB.out.trans (HB2.out.mono (by omega))
          have h2 := h1.alloc (by omega) (.cells #[.int .i64 tk', .int .i64 tn, .string tsn, .slice a2 m2 c2'] 26)
          exact h2.grown hgr (by omega) (fun i hi => (HO.out.lt _ hi).1)
      have HST := Lib.hid hst
      clear hst hown1 hown hgr hat hlt3
      go_wp2
      go_roundw
      case rel => exact ⟨j + 1, by omega, by go_num, ⟨_, _, rfl⟩, HST⟩
      case measure => simp [intOf]; omega
    · have hjm : j = m := by omega
      subst hjm
      have q0 := HQ.out.1
      have q1 := HQ.out.2
      have e0 := cell_of_row wr w.heap.size 0 _ _ _ q0
      have e1 := cell_of_row wr w.heap.size 1 _ _ _ q0
      have e2 := cell_of_row wr w.heap.size 2 _ _ _ q0
      have g3 := frozen_of_row wr w.heap.size 3 _ _ q0
      have z0 := cell_of_row wr (w.heap.size + 1) 0 _ _ _ q1
      have z1 := cell_of_row wr (w.heap.size + 1) 1 _ _ _ q1
      have z2 := cell_of_row wr (w.heap.size + 1) 2 _ _ _ q1
      have z3 := cell_of_row wr (w.heap.size + 1) 3 _ _ _ q1
      have y0 := frozen_of_row wr (w.heap.size + 1) 0 _ _ q1
      have y1 := frozen_of_row wr (w.heap.size + 1) 1 _ _ q1
      have y2 := frozen_of_row wr (w.heap.size + 1) 2 _ _ q1
      have y3 := frozen_of_row wr (w.heap.size + 1) 3 _ _ q1
      simp at e0 e1 e2 z0 z1 z2 z3
      clear q0 q1
      have harg : ArgsAt wr (w.heap.size + 2) h (.slice va j vc) xs := by
        have hp := HP.out
        rw [show xs.take j = xs from by rw [List.take_of_length_le]; have := HM.out; omega] at hp
        have h1 := hp.args HO.out HM.out (by unfold maxLen; omega) (fun i hP => hP.1) (Nat.le_refl _)
        cases h with
        | zero =>
          have : xs = [] := by
            rcases HA.out with ⟨h0, _⟩
            exact h0
          subst this
          have hj0 : j = 0 := by have := HM.out; simpa using this
          subst hj0
          exact ArgsAt.nil _ _ _ _ _
        | succ h => exact h1
      have HF := Lib.hid (fun v0 v1 v2 v3 v4 => lcopy_fin (v0 := v0) (v1 := v1) (v2 := v2) (v3 := v3) (v4 := v4) (k := k) (n := n) (w := w) HS.out harg (HB0.out.trans (HB.out.mono (by omega))))
      clear harg
      go_wp2
      (try simp only [Exit.inBlock, Exit.then])
      refine bodyPost_ret (v := tv k n s (.slice va j vc)) ?hr rfl ?_
      case hr =>
        rw [results_cell (a := 2) (t := 26) (ad := ⟨w.heap.size + 1, 0, none⟩) rfl rfl]
        go_simp
      exact HF.out _ _ _ _ _

theorem lcopy_any (h : Nat) : LCopyAt h := by_height lcopy_step h
end Go.Proofs.Ytbechogdijkgjaa
