/-
  spec.l3Copy copies a term into memory of the call's own.
  What draws of one term and of two leave; what a call does in every later world. No walk.
  spec.TermAt returns the subterm at a position.
  What lies below is kept twice. No walk.
  An argument of a law in a block of its own. No walk.
  laws.eqTerm and laws.eqTermS answer true at two terms that are one tree.
  What the contracts of functions that return a term share. No walk.
  slices.Clone over terms: the same cells in a row of the call's own; impl.ownArgs puts such a row in the place of a term's arguments.
  What the growth of a slice of the call's own leaves as it was. No walk.
  Small facts on one byte as a string and on strings put together. No walk.
  Plain facts on decimal numerals: digits of a positive number, the numeral of an integer. No program.
  laws.markText: 'm' and the decimal numeral.
-/
import Derived.Test.YtidbokheeieifaaQ5
import Derived.Test.YtidbokheeieifaaQ4
import Derived.Test.YtidbokheeieifaaQ2
import Derived.Test.YtidbokheeieifaaQ3
import Derived.Test.YtidbokheeieifaaRows
import Derived.Deep.AppendLies
import Derived.WalkLawsBesides
import Derived.BigQuiet
import Derived.Deep.QuietTactic
import Derived.Deep.RegionHeld3
import Derived.Laws.AppendOwn
import Derived.WalkKit
import Derived.WalkSpells
import Derived.Laws.IdiomStrings
import Derived.Lib.Hide
import Derived.Lib.ItoaNum
import Derived.Lib.ItoaMem
import Derived.Lib.ItoaLen
namespace Go.Proofs.Ytidbokheeieifaa
open Go.RowKit

theorem len_cSc : ∀ xs : List T, xs.length ≤ cS xs
  | [] => by simp [cS]
  | x :: xs => by
    have h1 := len_cSc xs
    have h2 : 1 ≤ cT x := by obtain ⟨k, n, s, ys⟩ := x; rw [cT_node]; omega
    simp only [cS, List.map_cons, List.sum_cons, List.length_cons] at *
    omega
theorem cT_atc (ts : List T) (k : Nat) (t : T) (h : ts[k]? = some t) : cS (ts.take k) + cT t ≤ cS ts := by
  have h1 := cS_take ts (k + 1)
  rw [tk ts k t h, cS_snoc] at h1
  exact h1
/-- A copy in new blocks. -/
def LCopyT (h : Nat) (t : T) (w : World) (e : Ending) (w' : World) : Prop := ∃ k n s a m c, e = .returned (tv k n s (.slice a m c)) ∧ TermAt w' w.heap.size h (tv k n s (.slice a m c)) t ∧ Below w.heap.size w w'
/-- The same, of which the row of the arguments is the call's own. -/
def LCopyO (h : Nat) (t : T) (w : World) (e : Ending) (w' : World) : Prop := ∃ k n s a m c xs vs, e = .returned (tv k n s (.slice a m c)) ∧ t = .node k n s xs ∧ s.size ≤ maxLen ∧ m = xs.length ∧ m ≤ maxLen ∧ (h = 0 → xs = []) ∧
  w'.ownsRow w.heap.size 26 4 (.slice a m c) m vs ∧ RowP (fun j => w.heap.size ≤ j ∧ some j ≠ (Value.slice a m c).ownBlock ∧ j < w'.heap.size) w' (h - 1) xs vs ∧ Below w.heap.size w w'
theorem LCopyO.args {w' : World} {B h : Nat} {u : Value} {xs : List T} {vs : List Value} {P : Nat → Prop} (ho : w'.ownsRow B 26 4 u xs.length vs) (hl : xs.length ≤ maxLen) (h0 : h = 0 → xs = []) (hP : ∀ j, P j → B ≤ j) (hr : RowP P w' (h - 1) xs vs) : ArgsAt w' B h u xs := by
  have h1 := hr.args ho rfl hl hP (Nat.le_refl _)
  cases h with
  | zero =>
    have := h0 rfl
    subst this
    obtain ⟨a, c, e⟩ := own_form' ho
    subst e
    exact ArgsAt.nil _ _ _ _ _
  | succ h => exact h1
theorem LCopyO.toT {h : Nat} {t : T} {w : World} {e : Ending} {w' : World} (c : LCopyO h t w e w') : LCopyT h t w e w' := by
  obtain ⟨k, n, s, a, m, cc, xs, vs, rfl, rfl, hs, rfl, hl, h0, ho, hr, hb⟩ := c
  exact ⟨k, n, s, a, _, cc, rfl, ⟨k, n, s, _, xs, rfl, rfl, hs, LCopyO.args ho hl h0 (fun j hj => hj.1) hr⟩, hb⟩
def LCopyAt (h : Nat) : Prop := ∀ (v : Value) (t : T) (lo : Nat) (w : World), TermAt w lo h v t → cT t ≤ 4294967296 → Calls Try.prog 150 #[v] w (LCopyO h t w)

/-- How far the copy of the arguments has come. -/
def LCRel (lo h k : Nat) (ts : List T) (v : Value) (w wr : World) : Prop :=
  ∃ vs, wr.ownsRow lo 26 4 v k vs ∧ RowP (fun j => lo ≤ j ∧ some j ≠ v.ownBlock ∧ j < wr.heap.size) wr (h - 1) (ts.take k) vs ∧ Below lo w wr

theorem lcopy_fin {w wr : World} {k n : Int} {s : ByteArray} {a : Option Addr} {m c h : Nat} {xs : List T} {vs : List Value} {v0 v1 v2 v3 v4 : Value} (hs : s.size ≤ maxLen) (hm : m = xs.length) (hl : m ≤ maxLen) (h0 : h = 0 → xs = []) (ho : wr.ownsRow (w.heap.size + 2) 26 4 (.slice a m c) m vs)
    (hr : RowP (fun j => w.heap.size + 2 ≤ j ∧ some j ≠ (Value.slice a m c).ownBlock ∧ j < wr.heap.size) wr (h - 1) xs vs) (hb : Below w.heap.size w wr) :
    LCopyO h (.node k n s xs) w (.returned (tv k n s (.slice a m c))) (((((wr.setCell ⟨w.heap.size, 3, none⟩ v4).setCell ⟨w.heap.size + 1, 0, none⟩ v0).setCell ⟨w.heap.size + 1, 1, none⟩ v1).setCell ⟨w.heap.size + 1, 2, none⟩ v2).setCell ⟨w.heap.size + 1, 3, none⟩ v3) := by
  have st : ∀ (W : World) (g j : Nat) (v : Value), g < w.heap.size + 2 → W.ownsRow (w.heap.size + 2) 26 4 (.slice a m c) m vs ∧ RowP (fun j => w.heap.size + 2 ≤ j ∧ some j ≠ (Value.slice a m c).ownBlock ∧ j < wr.heap.size) W (h - 1) xs vs →
      (W.setCell ⟨g, j, none⟩ v).ownsRow (w.heap.size + 2) 26 4 (.slice a m c) m vs ∧ RowP (fun j => w.heap.size + 2 ≤ j ∧ some j ≠ (Value.slice a m c).ownBlock ∧ j < wr.heap.size) (W.setCell ⟨g, j, none⟩ v) (h - 1) xs vs := by
    intro W g j v hg ⟨o, r⟩
    refine ⟨keep_above o (u := .slice (some ⟨g, 0, none⟩) 0 0) (fun k hk => by simp [Value.ownBlock] at hk; omega) (by simpa [Value.ownBlock] using set_grown W g j v), r.keep fun ad x hP hx => (set_grown W g j v).cell hx (fun e => by cases e; have := hP.1; omega)⟩
  obtain ⟨o5, r5⟩ := st _ (w.heap.size + 1) 3 v3 (by omega) (st _ (w.heap.size + 1) 2 v2 (by omega) (st _ (w.heap.size + 1) 1 v1 (by omega) (st _ (w.heap.size + 1) 0 v0 (by omega) (st wr w.heap.size 3 v4 (by omega) ⟨ho, hr⟩))))
  exact ⟨k, n, s, a, m, c, xs, vs, rfl, rfl, hs, hm, hl, h0, own_low o5 (by omega), r5.imp (fun j hj => ⟨by omega, hj.2.1, by simpa [World.setCell] using hj.2.2⟩),
    ((((hb.setCell (Nat.le_refl _) _).setCell (Nat.le_succ _) _).setCell (Nat.le_succ _) _).setCell (Nat.le_succ _) _).setCell (Nat.le_succ _) _⟩

set_option maxRecDepth 100000 in
set_option maxHeartbeats 3200000 in
theorem lcopy_step (h : Nat) (IH : ∀ h', h = h' + 1 → LCopyAt h') : LCopyAt h := by
  intro v t lo w ht hw
  obtain ⟨k, n, s, u, xs, rfl, rfl, hs, ha⟩ := ht
  obtain ⟨a, cap, rfl⟩ := ha.slice
  obtain ⟨i0, hi, hz0, hz1, hz2⟩ := info_parts infoTermD
  have HI := Lib.hid hi; clear hi
  have HZ0 := Lib.hid hz0; clear hz0
  have HZ1 := Lib.hid hz1; clear hz1
  have HZ2 := Lib.hid hz2; clear hz2
  have HS := Lib.hid hs; clear hs
  have HA := Lib.hid ha; clear ha
  have HW : Hid (1 + cS xs ≤ 4294967296 ∧ xs.length ≤ cS xs) := Lib.hid ⟨by rw [cT_node] at hw; exact hw, len_cSc xs⟩
  clear hw
  have HIH := Lib.hid IH; clear IH
  obtain ⟨m, hm⟩ : ∃ m, m = xs.length := ⟨_, rfl⟩
  have hml : m ≤ 4294967296 := by have := HW.out; omega
  rw [← hm] at HA ⊢
  have HM := Lib.hid hm; clear hm
  obtain ⟨W0, hW0⟩ : ∃ W0, W0 = ((boxed w k n s (.slice a m cap)).alloc (.cells #[.int .i64 0, .int .i64 0, .string ⟨#[]⟩, .slice none 0 0] 26)).alloc (.cells #[] 26) := ⟨_, rfl⟩
  have hs0 : W0.heap.size = w.heap.size + 3 := by rw [hW0]; simp
  have hB0 : Below w.heap.size w W0 := by rw [hW0]; exact ((boxed_below w k n s _).alloc (by simp) _).alloc (by simp; omega) _
  have r0 : W0.heap[w.heap.size]? = some (.cells #[.int .i64 k, .int .i64 n, .string s, .slice a m cap] 26 (0, 0)) := by
    rw [hW0, Below.heap_alloc _ _ _ (by simp; omega), Below.heap_alloc _ _ _ (by simp)]; exact heap_new w _ rfl
  have r1 : W0.heap[w.heap.size + 1]? = some (.cells #[.int .i64 0, .int .i64 0, .string ⟨#[]⟩, .slice none 0 0] 26 (0, 0)) := by
    rw [hW0, Below.heap_alloc _ _ _ (by simp)]; exact heap_new _ _ (by simp)
  have ho0 : W0.ownsRow (w.heap.size + 2) 26 4 (.slice (some ⟨w.heap.size + 2, 0, none⟩) 0 0) 0 [] := by
    rw [hW0]
    have e : ((boxed w k n s (.slice a m cap)).alloc (.cells #[.int .i64 0, .int .i64 0, .string ⟨#[]⟩, .slice none 0 0] 26)).heap.size = w.heap.size + 2 := by simp
    have := World.ownsRow_lit (base := w.heap.size + 2) (size := 4) (e := 26) ((boxed w k n s (.slice a m cap)).alloc (.cells #[.int .i64 0, .int .i64 0, .string ⟨#[]⟩, .slice none 0 0] 26)) #[] 0 (by rw [e]; omega) (by decide) rfl
    rw [e] at this
    exact this
  have HR0 : Hid (LCRel (w.heap.size + 2) h 0 xs (.slice (some ⟨w.heap.size + 2, 0, none⟩) 0 0) W0 W0) := Lib.hid ⟨[], ho0, rfl, Below.refl _ _⟩
  have HB0 := Lib.hid hB0
  have HS0 := Lib.hid hs0
  have HRR := Lib.hid (And.intro r0 r1)
  clear ho0 hB0 hs0 r0 r1
  go_enter Try.func150, Try.ntmps150
  go_wp2
  rw [← hW0]
  clear hW0
  go_loopw [3, 4] (fun v i wr => ∃ j : Nat, j ≤ m ∧ i = .int .i64 j ∧ (∃ va vc, v = .slice va j vc) ∧ Hid (LCRel (w.heap.size + 2) h j xs v W0 wr)) (fun _ i _ => m - (intOf i).toNat)
  case atStart => exact ⟨0, Nat.zero_le _, rfl, ⟨_, _, rfl⟩, HR0⟩
  case round =>
    clear HR0
    obtain ⟨j, hj, rfl, ⟨va, vc, rfl⟩, HR⟩ := hrel
    obtain ⟨vs, ho, hrp, hbl⟩ := HR.out
    have q0 := (hbl.block w.heap.size (by omega)).trans HRR.out.1
    have q1 := (hbl.block (w.heap.size + 1) (by omega)).trans HRR.out.2
    have c3 := cell_of_row wr w.heap.size 3 _ _ _ q0
    simp at c3
    have hzr : w.heap.size + 3 ≤ wr.heap.size := by have := HS0.out; have := hbl.size; omega
    have HQ := Lib.hid (And.intro q0 q1); clear q0 q1
    have HO := Lib.hid ho; clear ho
    have HP := Lib.hid hrp; clear hrp
    have HB := Lib.hid hbl; clear hbl
    by_cases hlt : j < m
    · obtain ⟨x, hx⟩ : ∃ x, xs[j]? = some x := ⟨_, List.getElem?_eq_getElem (by have := HM.out; omega)⟩
      obtain ⟨h', b, o, tk', tn, tsn, txs, u', e, rfl, rfl, hsz, p0, p1, p2, p3, har⟩ := HA.out.at hx
      obtain ⟨ua, uc, rfl⟩ := har.slice
      have hbw : Below w.heap.size w wr := HB0.out.trans (HB.out.mono (by omega))
      have d0 := cell_on hbw p0
      have d1 := cell_on hbw p1
      have d2 := cell_on hbw p2
      have d3 := cell_on hbw p3
      have hwt := cT_atc xs j _ hx
      have HCALL := Lib.hid ((HIH.out h' e _ _ lo wr ⟨tk', tn, tsn, _, txs, rfl, rfl, hsz, har.below hbw⟩ (by have := HW.out; omega)).mono fun _ _ q => LCopyO.toT q)
      have HTK : Hid (xs.take (j + 1) = xs.take j ++ [.node tk' tn tsn txs]) := Lib.hid (tk xs j _ hx)
      have HE := Lib.hid e
      clear hwt har hsz e p0 p1 p2 p3 hx hbw
      go_wp2_with fail
      refine HCALL.out.mono ?_
      rintro e w2 ⟨k2, n2, s2, a2, m2, c2', rfl, ht2, hb2⟩
      obtain ⟨_, _, _, _, ys, e1, e2, hs2, ha2⟩ := ht2
      cases e1
      cases e2
      have HA2 := Lib.hid (And.intro hs2 ha2); clear hs2 ha2
      have HO2 := Lib.hid (keep_own HO.out hb2)
      have HB2 := Lib.hid hb2; clear hb2
      go_wp2_with (first | (at_builtin; refine wpList_append_lies _ rfl (.tmp 13) (.tmp 20) 24 rfl (w.heap.size + 2) 26 i0 (.agg #[.int .i64 0, .int .i64 0, .string ByteArray.empty, .slice none 0 0]) 4 56 Try.underlying24 HI.out HZ0.out HZ1.out HZ2.out rfl (by decide) _ _ _ rfl (HO2.out.alloc _) ⟨w2.heap.size, 0, none⟩ 1 1 [.int .i64 tk', .int .i64 tn, .string tsn, .slice a2 m2 c2'] rfl rfl (news4' _ _ _ _ _ _ rfl) (by simp [Value.oneCell']) (by decide) (by unfold maxLen; omega) (by omega) (Nat.le_trans (by omega : w.heap.size + 2 ≤ wr.heap.size) (Nat.le_trans HB2.out.size (by simp))) _ rfl ?_))
      intro g cap3 w3 hown hgr hat hlt3
      have hown1 := (HO.out.lt)
      have hst : LCRel (w.heap.size + 2) h (j + 1) xs (.slice (some ⟨g, 0, none⟩) (j + 1) cap3) W0 w3 := by
        have hw2 := HB2.out.size
        have hza : (w2.alloc (.cells #[.int .i64 tk', .int .i64 tn, .string tsn, .slice a2 m2 c2'] 26)).heap.size = w2.heap.size + 1 := by simp
        have hw3 := hgr.size
        have hc3 : ∀ (ad : Addr) v, some ad.block ≠ (Value.slice va j vc).ownBlock → w2.cell? ad = some v → w3.cell? ad = some v := fun ad v hne hv => hgr.cell (cell_on ((Below.refl _ _).alloc (Nat.le_refl _) _) hv) hne
        refine ⟨_, hown, ?_, ?_⟩
        · rw [HTK.out]
          have e1 : h - 1 = h' := by have := HE.out; omega
          have hp := HP.out
          rw [e1] at hp ⊢
          refine RowP.snoc HA2.out.1 ?_ ((hp.keep (fun ad v hP hv => hc3 ad v hP.2.1 (cell_on HB2.out hv))).imp (fun i hP => ⟨hP.1, ?_, ?_⟩))
          · have h1 : ArgsP (fun i => wr.heap.size ≤ i ∧ i < w2.heap.size) w2 h' (.slice a2 m2 c2') txs := ArgsP.of (fun i h1 h2 => ⟨h1, h2⟩) HA2.out.2
            refine (h1.keep (fun ad v hP hv => hc3 ad v (fun e => ?_) hv)).imp (fun i hP => ⟨by omega, fun e => ?_, by omega⟩)
            · have := (HO.out.lt _ e.symm).2
              omega
            · have e2 : i = g := by simpa [Value.ownBlock] using e
              rcases hat with h2 | h2
              · have := (HO.out.lt _ h2).2
                omega
              · omega
          · intro e
            have e2 : i = g := by simpa [Value.ownBlock] using e
            rcases hat with h2 | h2
            · exact hP.2.1 (by rw [h2, e2])
            · have := hP.2.2
              omega
          · have := hP.2.2
            omega
        · have h1 : Below (w.heap.size + 2) W0 w2 := HB.out.trans (HB2.out.mono (by omega))
          have h2 := h1.alloc (by omega) (.cells #[.int .i64 tk', .int .i64 tn, .string tsn, .slice a2 m2 c2'] 26)
          exact h2.grown hgr (by omega) (fun i hi => (HO.out.lt _ hi).1)
      have HST := Lib.hid hst
      clear hst hown1 hown hgr hat hlt3
      go_wp2
      go_roundw
      case rel => exact ⟨j + 1, by omega, by go_num, ⟨_, _, rfl⟩, HST⟩
      case measure => simp [intOf]; omega
    · have hjm : j = m := by omega
      subst hjm
      have q0 := HQ.out.1
      have q1 := HQ.out.2
      have e0 := cell_of_row wr w.heap.size 0 _ _ _ q0
      have e1 := cell_of_row wr w.heap.size 1 _ _ _ q0
      have e2 := cell_of_row wr w.heap.size 2 _ _ _ q0
      have g3 := frozen_of_row wr w.heap.size 3 _ _ q0
      have z0 := cell_of_row wr (w.heap.size + 1) 0 _ _ _ q1
      have z1 := cell_of_row wr (w.heap.size + 1) 1 _ _ _ q1
      have z2 := cell_of_row wr (w.heap.size + 1) 2 _ _ _ q1
      have z3 := cell_of_row wr (w.heap.size + 1) 3 _ _ _ q1
      have y0 := frozen_of_row wr (w.heap.size + 1) 0 _ _ q1
      have y1 := frozen_of_row wr (w.heap.size + 1) 1 _ _ q1
      have y2 := frozen_of_row wr (w.heap.size + 1) 2 _ _ q1
      have y3 := frozen_of_row wr (w.heap.size + 1) 3 _ _ q1
      simp at e0 e1 e2 z0 z1 z2 z3
      clear q0 q1
      have hp := HP.out
      rw [show xs.take j = xs from by rw [List.take_of_length_le]; have := HM.out; omega] at hp
      have h0 : h = 0 → xs = [] := fun e => by
        subst e
        exact HA.out.1
      have HF := Lib.hid (fun v0 v1 v2 v3 v4 => lcopy_fin (v0 := v0) (v1 := v1) (v2 := v2) (v3 := v3) (v4 := v4) (k := k) (n := n) (w := w) HS.out HM.out (by unfold maxLen; omega) h0 HO.out hp (HB0.out.trans (HB.out.mono (by omega))))
      clear hp h0
      go_wp2
      (try simp only [Exit.inBlock, Exit.then])
      refine bodyPost_ret (v := tv k n s (.slice va j vc)) ?hr rfl ?_
      case hr =>
        rw [results_cell (a := 2) (t := 26) (ad := ⟨w.heap.size + 1, 0, none⟩) rfl rfl]
        go_simp
      exact HF.out _ _ _ _ _

theorem lcopyO_anyK (h : Nat) : LCopyAt h := by_height lcopy_step h
theorem lcopy_anyK (h : Nat) (v : Value) (t : T) (lo : Nat) (w : World) (ht : TermAt w lo h v t) (hw : cT t ≤ 4294967296) : Calls Try.prog 150 #[v] w (LCopyT h t w) :=
  (lcopyO_anyK h v t lo w ht hw).mono fun _ _ q => LCopyO.toT q
theorem lcopyO_any (h : Nat) (v : Value) (t : T) (lo : Nat) (w : World) (ht : TermAt w lo h v t) (hw : wT t ≤ 1048576) : Calls Try.prog 150 #[v] w (LCopyO h t w) := lcopyO_anyK h v t lo w ht (by have := cT_le t; omega)
theorem lcopy_any (h : Nat) (v : Value) (t : T) (lo : Nat) (w : World) (ht : TermAt w lo h v t) (hw : wT t ≤ 1048576) : Calls Try.prog 150 #[v] w (LCopyT h t w) := lcopy_anyK h v t lo w ht (by have := cT_le t; omega)
end Go.Proofs.Ytidbokheeieifaa
namespace Go.Proofs.Ytidbokheeieifaa
open Go.RowKit

/-- A term that was drawn. -/
def DrawnTerm (w : World) (e : Ending) (w' : World) : Prop :=
  ∃ k n s a m cap t h, e = .returned (tv k n s (.slice a m cap)) ∧ TermAt w' w.heap.size h (tv k n s (.slice a m cap)) t ∧ wT t ≤ 1000 ∧ Below w.heap.size w w'

theorem drawn_fin {w w2 : World} {k n : Int} {s : ByteArray} {a : Option Addr} {m cap : Nat} {t : T} {h : Nat} (ht : TermAt w2 (w.heap.size + 1) h (tv k n s (.slice a m cap)) t) (hw : wT t ≤ 1000) (hb : Below w.heap.size w w2) (v0 v1 v2 v3 : Value) :
    DrawnTerm w (.returned (tv k n s (.slice a m cap))) ((((w2.setCell ⟨w.heap.size, 0, none⟩ v0).setCell ⟨w.heap.size, 1, none⟩ v1).setCell ⟨w.heap.size, 2, none⟩ v2).setCell ⟨w.heap.size, 3, none⟩ v3) := by
  have hg4 : w2.grownBy ((((w2.setCell ⟨w.heap.size, 0, none⟩ v0).setCell ⟨w.heap.size, 1, none⟩ v1).setCell ⟨w.heap.size, 2, none⟩ v2).setCell ⟨w.heap.size, 3, none⟩ v3) (some w.heap.size) :=
    grown_trans (grown_trans (grown_trans (set_grown _ _ _ _) (set_grown _ _ _ _)) (set_grown _ _ _ _)) (set_grown _ _ _ _)
  obtain ⟨k', n', s', u', xs, e1, e2, hs, ha⟩ := ht
  cases e1
  refine ⟨k, n, s, a, m, cap, t, h, rfl, ⟨k, n, s, _, xs, rfl, e2, hs, (ha.grown hg4 (fun j e => by cases e; omega)).low (by omega)⟩, hw, ?_⟩
  exact (((hb.setCell (Nat.le_refl _) _).setCell (Nat.le_refl _) _).setCell (Nat.le_refl _) _).setCell (Nat.le_refl _) _

theorem boxZ_cells' {w wr : World} (hg : (boxZ w).grownBy wr (some (boxZ w).heap.size)) :
    (wr.cell? ⟨w.heap.size, 0, none⟩ = some (.int .i64 0) ∧ wr.cell? ⟨w.heap.size, 1, none⟩ = some (.int .i64 0) ∧ wr.cell? ⟨w.heap.size, 2, none⟩ = some (.string ⟨#[]⟩) ∧ wr.cell? ⟨w.heap.size, 3, none⟩ = some (.slice none 0 0)) ∧
    (wr.frozen? ⟨w.heap.size, 0, none⟩ = false ∧ wr.frozen? ⟨w.heap.size, 1, none⟩ = false ∧ wr.frozen? ⟨w.heap.size, 2, none⟩ = false ∧ wr.frozen? ⟨w.heap.size, 3, none⟩ = false) := by
  have q := hg.block w.heap.size (by simp) (fun e => by simp at e)
  rw [heap_new w (.cells #[.int .i64 0, .int .i64 0, .string ⟨#[]⟩, .slice none 0 0] 26) rfl] at q
  have a0 := cell_of_row wr w.heap.size 0 _ _ _ q
  have a1 := cell_of_row wr w.heap.size 1 _ _ _ q
  have a2 := cell_of_row wr w.heap.size 2 _ _ _ q
  have a3 := cell_of_row wr w.heap.size 3 _ _ _ q
  simp at a0 a1 a2 a3
  exact ⟨⟨a0, a1, a2, a3⟩, frozen_of_row wr w.heap.size 0 _ _ q, frozen_of_row wr w.heap.size 1 _ _ q, frozen_of_row wr w.heap.size 2 _ _ q, frozen_of_row wr w.heap.size 3 _ _ q⟩

/-- What a call does in every world behind W. -/
def Behind (W : World) (f : FuncId) (args : Array Value) (R : Ending → World → Prop) : Prop := ∀ w', Below W.heap.size W w' → Calls Try.prog f args w' (fun e w2 => R e w2 ∧ Below W.heap.size W w2)

theorem results_cell2 {fn : Func} {a b : Tmp} {t : TypeId} {tmps : Array Value} {ad bd : Addr} (h : fn.results = #[.cell a t, .cell b t]) (ha : tmps.getD a undef = .pointer (some ad)) (hb : tmps.getD b undef = .pointer (some bd)) (P : Program) (w : World) {x y : Value}
    (hx : (loadVar t ad).run P w = .ok x w) (hy : (loadVar t bd).run P w = .ok y w) : (results fn tmps).run P w = .ok (.tuple #[x, y]) w := by
  have h2 : tmps[a]?.getD undef = .pointer (some ad) := by rw [← ha]; simp
  have h3 : tmps[b]?.getD undef = .pointer (some bd) := by rw [← hb]; simp
  simp [results, h, h2, h3, asAddr, hx, hy, Result.andThen]

/-- Two terms that were drawn. -/
def DrawnTwo (w : World) (e : Ending) (w' : World) : Prop :=
  ∃ k n s a m c k2 n2 s2 a2 m2 c2 t t2 h h2, e = .returned (.tuple #[tv k n s (.slice a m c), tv k2 n2 s2 (.slice a2 m2 c2)]) ∧ TermAt w' w.heap.size h (tv k n s (.slice a m c)) t ∧ TermAt w' w.heap.size h2 (tv k2 n2 s2 (.slice a2 m2 c2)) t2 ∧ wT t ≤ 1000 ∧ wT t2 ≤ 1000 ∧ Below w.heap.size w w'

abbrev boxZ2 (w : World) : World := boxZ (boxZ w)
/-- Both results stored. -/
abbrev stored2 (X : World) (b : Nat) (v0 v1 v2 v3 u0 u1 u2 u3 : Value) : World :=
  (((((((X.setCell ⟨b, 0, none⟩ v0).setCell ⟨b, 1, none⟩ v1).setCell ⟨b, 2, none⟩ v2).setCell ⟨b, 3, none⟩ v3).setCell ⟨b + 1, 0, none⟩ u0).setCell ⟨b + 1, 1, none⟩ u1).setCell ⟨b + 1, 2, none⟩ u2).setCell ⟨b + 1, 3, none⟩ u3

theorem TermAt.grown {w w' : World} {lo h : Nat} {v : Value} {t : T} {row : Option Nat} (k : TermAt w lo h v t) (hg : w.grownBy w' row) (hr : ∀ j, row = some j → j < lo) : TermAt w' lo h v t := by
  obtain ⟨k', n, s, u, xs, e1, e2, hs, ha⟩ := k
  exact ⟨k', n, s, u, xs, e1, e2, hs, ha.grown hg hr⟩

theorem two_fin {w X : World} {k n : Int} {s : ByteArray} {a : Option Addr} {m c : Nat} {k2 n2 : Int} {s2 : ByteArray} {a2 : Option Addr} {m2 c2 : Nat} {t t2 : T} {h h2 : Nat} (ht : TermAt X (w.heap.size + 2) h (tv k n s (.slice a m c)) t) (ht2 : TermAt X (w.heap.size + 2) h2 (tv k2 n2 s2 (.slice a2 m2 c2)) t2)
    (hw : wT t ≤ 1000) (hw2 : wT t2 ≤ 1000) (hb : Below w.heap.size w X) (v0 v1 v2 v3 u0 u1 u2 u3 : Value) :
    DrawnTwo w (.returned (.tuple #[tv k n s (.slice a m c), tv k2 n2 s2 (.slice a2 m2 c2)])) (stored2 X w.heap.size v0 v1 v2 v3 u0 u1 u2 u3) := by
  have up : ∀ {h : Nat} {v : Value} {t : T}, TermAt X (w.heap.size + 2) h v t → TermAt (stored2 X w.heap.size v0 v1 v2 v3 u0 u1 u2 u3) (w.heap.size + 2) h v t := by
    intro h v t q
    have q1 := q.grown (set_grown X w.heap.size 0 v0) (fun j e => by cases e; omega)
    have q2 := q1.grown (set_grown _ w.heap.size 1 v1) (fun j e => by cases e; omega)
    have q3 := q2.grown (set_grown _ w.heap.size 2 v2) (fun j e => by cases e; omega)
    have q4 := q3.grown (set_grown _ w.heap.size 3 v3) (fun j e => by cases e; omega)
    have q5 := q4.grown (set_grown _ (w.heap.size + 1) 0 u0) (fun j e => by cases e; omega)
    have q6 := q5.grown (set_grown _ (w.heap.size + 1) 1 u1) (fun j e => by cases e; omega)
    have q7 := q6.grown (set_grown _ (w.heap.size + 1) 2 u2) (fun j e => by cases e; omega)
    exact q7.grown (set_grown _ (w.heap.size + 1) 3 u3) (fun j e => by cases e; omega)
  refine ⟨k, n, s, a, m, c, k2, n2, s2, a2, m2, c2, t, t2, h, h2, rfl, (up ht).low (by omega), (up ht2).low (by omega), hw, hw2, ?_⟩
  exact (((((((hb.setCell (Nat.le_refl _) _).setCell (Nat.le_refl _) _).setCell (Nat.le_refl _) _).setCell (Nat.le_refl _) _).setCell (Nat.le_succ _) _).setCell (Nat.le_succ _) _).setCell (Nat.le_succ _) _).setCell (Nat.le_succ _) _

/-- The two results' blocks in a later world. -/
theorem boxZ2_cells {w wr : World} {row : Option Nat} (hg : (boxZ2 w).grownBy wr row) (h1 : some w.heap.size ≠ row) (h2 : some (w.heap.size + 1) ≠ row) :
    wr.heap[w.heap.size]? = some (.cells #[.int .i64 0, .int .i64 0, .string ⟨#[]⟩, .slice none 0 0] 26 (0, 0)) ∧ wr.heap[w.heap.size + 1]? = some (.cells #[.int .i64 0, .int .i64 0, .string ⟨#[]⟩, .slice none 0 0] 26 (0, 0)) := by
  constructor
  · rw [hg.block _ (by simp; omega) h1, Below.heap_alloc _ _ _ (by simp)]
    exact heap_new w _ rfl
  · rw [hg.block _ (by simp) h2]
    exact heap_new _ _ (by simp)

theorem cells_of4 {Y : World} {b : Nat} {x0 x1 x2 x3 : Value} (hb : Y.heap[b]? = some (.cells #[x0, x1, x2, x3] 26 (0, 0))) : (Y.cell? ⟨b, 0, none⟩ = some x0 ∧ Y.cell? ⟨b, 1, none⟩ = some x1 ∧ Y.cell? ⟨b, 2, none⟩ = some x2 ∧ Y.cell? ⟨b, 3, none⟩ = some x3) ∧
    (Y.frozen? ⟨b, 0, none⟩ = false ∧ Y.frozen? ⟨b, 1, none⟩ = false ∧ Y.frozen? ⟨b, 2, none⟩ = false ∧ Y.frozen? ⟨b, 3, none⟩ = false) :=
  ⟨⟨by rw [cell_of_row Y b 0 _ _ _ hb]; rfl, by rw [cell_of_row Y b 1 _ _ _ hb]; rfl, by rw [cell_of_row Y b 2 _ _ _ hb]; rfl, by rw [cell_of_row Y b 3 _ _ _ hb]; rfl⟩, frozen_of_row Y b 0 _ _ hb, frozen_of_row Y b 1 _ _ hb, frozen_of_row Y b 2 _ _ hb, frozen_of_row Y b 3 _ _ hb⟩

end Go.Proofs.Ytidbokheeieifaa
namespace Go.Proofs.Ytidbokheeieifaa
open Go.RowKit

theorem in_any (a b c : Int) (w : World) : Calls Try.prog 112 #[.int .i64 a, .int .i64 b, .int .i64 c] w (fun e w' => e = .returned (.bool (decide (b ≤ a) && decide (a ≤ c))) ∧ w' = w) := by
  by_cases h1 : b ≤ a
  · have h1' : decide (b ≤ a) = true := by simpa using h1
    by_cases h2 : a ≤ c
    · have h2' : decide (a ≤ c) = true := by simpa using h2
      go_enter Try.func112, Try.ntmps112
      go_wp2
      go_ret
      exact ⟨by simp [h1, h2], rfl⟩
    · have h2' : decide (a ≤ c) = false := by simpa using h2
      go_enter Try.func112, Try.ntmps112
      go_wp2
      go_ret
      exact ⟨by simp [h1, h2], rfl⟩
  · have h1' : decide (b ≤ a) = false := by simpa using h1
    go_enter Try.func112, Try.ntmps112
    go_wp2
    go_ret
    exact ⟨by simp [h1], rfl⟩

theorem results_ct {fn : Func} {a b : Tmp} {t : TypeId} {tmps : Array Value} {ad : Addr} (h : fn.results = #[.cell a t, .tmp b]) (ha : tmps.getD a undef = .pointer (some ad)) (P : Program) (w : World) {x : Value}
    (hx : (loadVar t ad).run P w = .ok x w) : (results fn tmps).run P w = .ok (.tuple #[x, tmps.getD b undef]) w := by
  have h2 : tmps[a]?.getD undef = .pointer (some ad) := by rw [← ha]; simp
  simp [results, h, h2, asAddr, hx, Result.andThen]

/-- The zero term. -/
abbrev zT : T := .node 0 0 ByteArray.empty []
/-- A copy of the subterm at a position, or the zero term. -/
def SubT (o : Option T) (w : World) (e : Ending) (w' : World) : Prop :=
  ∃ k n s a m c h, e = .returned (.tuple #[tv k n s (.slice a m c), .bool o.isSome]) ∧ TermAt w' w.heap.size h (tv k n s (.slice a m c)) (o.getD zT) ∧ Below w.heap.size w w'

/-- A struct's row in a block. -/
abbrev trow (k n : Int) (s : ByteArray) (u : Value) : Obj := .cells #[.int .i64 k, .int .i64 n, .string s, u] 26 (0, 0)

theorem box_two (w : World) (k n : Int) (s : ByteArray) (u : Value) : ((boxed w k n s u).alloc (.cells #[.int .i64 0, .int .i64 0, .string ⟨#[]⟩, .slice none 0 0] 26)).heap[w.heap.size]? = some (trow k n s u) ∧
    ((boxed w k n s u).alloc (.cells #[.int .i64 0, .int .i64 0, .string ⟨#[]⟩, .slice none 0 0] 26)).heap[w.heap.size + 1]? = some (trow 0 0 ByteArray.empty (.slice none 0 0)) ∧
    Below w.heap.size w ((boxed w k n s u).alloc (.cells #[.int .i64 0, .int .i64 0, .string ⟨#[]⟩, .slice none 0 0] 26)) :=
  ⟨heap_mid _ _ _ rfl, heap_new _ _ (by simp), (boxed_below w k n s u).alloc (by simp) _⟩

theorem sub_fin {w wr : World} {o : Option T} {k n : Int} {s : ByteArray} {a : Option Addr} {m c h : Nat} (ht : TermAt wr (w.heap.size + 2) h (tv k n s (.slice a m c)) (o.getD zT)) (hb : Below w.heap.size w wr) (v0 v1 v2 v3 : Value) :
    SubT o w (.returned (.tuple #[tv k n s (.slice a m c), .bool o.isSome])) ((((wr.setCell ⟨w.heap.size + 1, 0, none⟩ v0).setCell ⟨w.heap.size + 1, 1, none⟩ v1).setCell ⟨w.heap.size + 1, 2, none⟩ v2).setCell ⟨w.heap.size + 1, 3, none⟩ v3) := by
  have q1 := ht.grown (set_grown wr (w.heap.size + 1) 0 v0) (fun j e => by cases e; omega)
  have q2 := q1.grown (set_grown _ (w.heap.size + 1) 1 v1) (fun j e => by cases e; omega)
  have q3 := q2.grown (set_grown _ (w.heap.size + 1) 2 v2) (fun j e => by cases e; omega)
  have q4 := q3.grown (set_grown _ (w.heap.size + 1) 3 v3) (fun j e => by cases e; omega)
  exact ⟨k, n, s, a, m, c, h, rfl, q4.low (by omega), (((hb.setCell (Nat.le_succ _) _).setCell (Nat.le_succ _) _).setCell (Nat.le_succ _) _).setCell (Nat.le_succ _) _⟩

theorem zT_at (w : World) (lo : Nat) : TermAt w lo 0 (tv 0 0 ByteArray.empty (.slice none 0 0)) zT := ⟨0, 0, ByteArray.empty, _, [], rfl, rfl, by simp, rfl, _, _, rfl⟩

/-- The box of the subterm at hand, the result's box, and what was there. -/
def Boxes (w : World) (k n : Int) (s : ByteArray) (u : Value) (wr : World) : Prop :=
  wr.heap[w.heap.size]? = some (trow k n s u) ∧ wr.heap[w.heap.size + 1]? = some (trow 0 0 ByteArray.empty (.slice none 0 0)) ∧ Below w.heap.size w wr
theorem Boxes.drewN {w wr : World} {k n : Int} {s : ByteArray} {u : Value} (h : Boxes w k n s u wr) (q : Nat) : Boxes w k n s u (wr.drewN q) :=
  ⟨h.1, h.2.1, h.2.2.trans ((below_q wr q).mono h.2.2.size)⟩
theorem Boxes.step {w wr : World} {k n : Int} {s : ByteArray} {u : Value} (h : Boxes w k n s u wr) (k2 n2 : Int) (s2 : ByteArray) (u2 : Value) :
    Boxes w k2 n2 s2 u2 ((((wr.setCell ⟨w.heap.size, 0, none⟩ (.int .i64 k2)).setCell ⟨w.heap.size, 1, none⟩ (.int .i64 n2)).setCell ⟨w.heap.size, 2, none⟩ (.string s2)).setCell ⟨w.heap.size, 3, none⟩ u2) := by
  refine ⟨set4_row h.1 _ _ _ _, ?_, (((h.2.2.setCell (Nat.le_refl _) _).setCell (Nat.le_refl _) _).setCell (Nat.le_refl _) _).setCell (Nat.le_refl _) _⟩
  have hne : ∀ (W : World) (j : Nat) (v : Value), (W.setCell ⟨w.heap.size, j, none⟩ v).heap[w.heap.size + 1]? = W.heap[w.heap.size + 1]? := fun W j v => Below.heap_setCell _ _ _ _ (by simp)
  rw [hne, hne, hne, hne]
  exact h.2.1

end Go.Proofs.Ytidbokheeieifaa
namespace Go.Proofs.Ytidbokheeieifaa
open Go.RowKit

theorem bel_two {w a b : World} (h : Below w.heap.size w a) (k : Below a.heap.size a b) : Below w.heap.size w b := h.trans (k.mono h.size)
end Go.Proofs.Ytidbokheeieifaa
namespace Go.Proofs.Ytidbokheeieifaa
open Go.RowKit

/-- An argument in a block of its own. -/
abbrev boxedL (w : World) (k n : Int) (s : ByteArray) (u : Value) : World := w.alloc (.cells #[.int .i64 k, .int .i64 n, .string s, u] 41)
theorem boxedL_below (w : World) (k n : Int) (s : ByteArray) (u : Value) : Below w.heap.size w (boxedL w k n s u) := (Below.refl _ _).alloc (Nat.le_refl _) _
theorem boxedL_cells {w wr : World} {k n : Int} {s : ByteArray} {u : Value} (hb : Below (boxedL w k n s u).heap.size (boxedL w k n s u) wr) :
    wr.cell? ⟨w.heap.size, 0, none⟩ = some (.int .i64 k) ∧ wr.cell? ⟨w.heap.size, 1, none⟩ = some (.int .i64 n) ∧ wr.cell? ⟨w.heap.size, 2, none⟩ = some (.string s) ∧ wr.cell? ⟨w.heap.size, 3, none⟩ = some u := by
  have hlt : w.heap.size < (boxedL w k n s u).heap.size := by simp
  have c : ∀ j v, #[Value.int .i64 k, .int .i64 n, .string s, u][j]? = some v → wr.cell? ⟨w.heap.size, j, none⟩ = some v := by
    intro j v hv
    rw [hb.cell (by exact hlt), World.cell?_alloc_mark w _ 41 (0, 0) j]
    exact hv
  exact ⟨c 0 _ rfl, c 1 _ rfl, c 2 _ rfl, c 3 _ rfl⟩
end Go.Proofs.Ytidbokheeieifaa
namespace Go.Proofs.Ytidbokheeieifaa
open Go.RowKit

/-- The eight cells of two structs, and that what was there is there. -/
def Cells8 (wr : World) (b o b' o' : Nat) (k n : Int) (s : ByteArray) (u u' : Value) (w' : World) : Prop :=
  w'.cell? ⟨b, o, none⟩ = some (.int .i64 k) ∧ w'.cell? ⟨b, o + 1, none⟩ = some (.int .i64 n) ∧ w'.cell? ⟨b, o + 2, none⟩ = some (.string s) ∧ w'.cell? ⟨b, o + 3, none⟩ = some u ∧
  w'.cell? ⟨b', o', none⟩ = some (.int .i64 k) ∧ w'.cell? ⟨b', o' + 1, none⟩ = some (.int .i64 n) ∧ w'.cell? ⟨b', o' + 2, none⟩ = some (.string s) ∧ w'.cell? ⟨b', o' + 3, none⟩ = some u' ∧ Below wr.heap.size wr w'

theorem Cells8.on {wr w' : World} {b o b' o' : Nat} {k n : Int} {s : ByteArray} {u u' : Value} (h : Cells8 wr b o b' o' k n s u u' wr) (hb : Below wr.heap.size wr w') : Cells8 wr b o b' o' k n s u u' w' := by
  obtain ⟨c0, c1, c2, c3, d0, d1, d2, d3, _⟩ := h
  have keep : ∀ {ad : Addr} {v : Value}, wr.cell? ad = some v → w'.cell? ad = some v := fun {ad} {v} hv => by rw [hb.cell (World.block_lt_of_cell? wr _ hv)]; exact hv
  exact ⟨keep c0, keep c1, keep c2, keep c3, keep d0, keep d1, keep d2, keep d3, hb⟩

def TrueB (w : World) (e : Ending) (w' : World) : Prop := e = .returned (.bool true) ∧ Below w.heap.size w w'

def EqSAt (lo lo' h : Nat) : Prop := ∀ (u u' : Value) (ts : List T) (w : World), ArgsAt w lo h u ts → ArgsAt w lo' h u' ts →
  Calls Try.prog 82 #[u, u'] w (TrueB w)

set_option maxRecDepth 100000 in
set_option maxHeartbeats 800000 in
theorem eqT_of {lo lo' h : Nat} (hS : EqSAt lo lo' h) (k n : Int) (s : ByteArray) (u u' : Value) (xs : List T) (w : World) (ha : ArgsAt w lo h u xs) (ha' : ArgsAt w lo' h u' xs) :
    Calls Try.prog 28 #[tv k n s u, tv k n s u'] w (TrueB w) := by
  have hb0 : Below w.heap.size w ((w.alloc (.cells #[.int .i64 k, .int .i64 n, .string s, u] 26)).alloc (.cells #[.int .i64 k, .int .i64 n, .string s, u'] 26)) := ((Below.refl _ _).alloc (Nat.le_refl _) _).alloc (by simp) _
  have hc := hS u u' xs _ (ha.below hb0) (ha'.below hb0)
  have HC := Lib.hid hc; clear hc ha ha'
  have HB0 := Lib.hid hb0; clear hb0
  have e1 : (k != k) = false := by simp
  have e2 : (n != n) = false := by simp
  have e3 : (s.toList == s.toList) = true := by simp
  go_enter Try.func28, Try.ntmps28
  go_wp2_with fail
  refine HC.out.mono ?_
  rintro e w1 ⟨rfl, hb1⟩
  have HB1 := Lib.hid (HB0.out.trans (hb1.mono HB0.out.size)); clear hb1
  go_wp2
  go_ret
  exact ⟨rfl, HB1.out⟩

set_option maxRecDepth 100000 in
set_option maxHeartbeats 400000 in
theorem eqS_empty (a b : Option Addr) (c d : Nat) (w : World) :
    Calls Try.prog 82 #[.slice a 0 c, .slice b 0 d] w (TrueB w) := by
  go_enter Try.func82, Try.ntmps82
  go_wp2
  refine wp_loop_rounds 1 ?_
  rw [rounds_succ]
  go_wp2
  go_ret
  exact ⟨rfl, Below.refl _ _⟩

set_option maxRecDepth 100000 in
set_option maxHeartbeats 1600000 in
theorem eqS_some {lo lo' h : Nat} (hS : EqSAt lo lo' h) (b o cap b' o' cap' : Nat) (ts : List T) (w : World) (hl : ts.length ≤ maxLen) (hc : RowAt w lo h b o ts) (hc' : RowAt w lo' h b' o' ts) :
    Calls Try.prog 82 #[.slice (some ⟨b, o, none⟩) ts.length cap, .slice (some ⟨b', o', none⟩) ts.length cap'] w (TrueB w) := by
  have HC := Lib.hid hc; clear hc
  have HC' := Lib.hid hc'; clear hc'
  have HSS := Lib.hid hS; clear hS
  obtain ⟨n, hn⟩ : ∃ n, n = ts.length := ⟨_, rfl⟩
  have hl2 : ts.length ≤ 9223372036854775807 := by unfold maxLen at hl; omega
  clear hl
  rw [← hn] at hl2 ⊢
  have HN := Lib.hid hn; clear hn
  go_enter Try.func82, Try.ntmps82
  go_wp2
  go_loopw [5] (fun i wr => ∃ k : Nat, k ≤ n ∧ i = .int .i64 k ∧ Hid (Below w.heap.size w wr)) (fun i _ => n - (intOf i).toNat)
  case atStart => exact ⟨0, Nat.zero_le _, rfl, Lib.hid (Below.refl _ _)⟩
  case round =>
    obtain ⟨k, hk, rfl, HB⟩ := hrel
    by_cases hlt : k < n
    · obtain ⟨t, ht⟩ : ∃ t, ts[k]? = some t := ⟨_, List.getElem?_eq_getElem (by have := HN.out; omega)⟩
      obtain ⟨tk', tn, tsn, txs⟩ := t
      obtain ⟨_, u1, c0, c1, c2, c3, har⟩ := HC.out k _ _ _ _ ht
      obtain ⟨_, u2, d0, d1, d2, d3, har'⟩ := HC'.out k _ _ _ _ ht
      have keep : ∀ {ad : Addr} {v : Value}, w.cell? ad = some v → wr.cell? ad = some v := fun {ad} {v} hv => by rw [HB.out.cell (World.block_lt_of_cell? w _ hv)]; exact hv
      have h8 : Cells8 wr b (o + k * 4) b' (o' + k * 4) tk' tn tsn u1 u2 wr := ⟨keep c0, keep c1, keep c2, keep c3, keep d0, keep d1, keep d2, keep d3, Below.refl _ _⟩
      have HAR := Lib.hid (har.below HB.out); clear har
      have HAR' := Lib.hid (har'.below HB.out); clear har'
      clear c0 c1 c2 c3 d0 d1 d2 d3 keep ht
      have HK : Hid (∀ w', Below wr.heap.size wr w' → Cells8 wr b (o + k * 4) b' (o' + k * 4) tk' tn tsn u1 u2 w') := Lib.hid (fun w' hb => h8.on hb)
      have HCALL : Hid (∀ w', Below wr.heap.size wr w' → Calls Try.prog 28 #[tv tk' tn tsn u1, tv tk' tn tsn u2] w' (TrueB w')) := Lib.hid (fun w' hb => eqT_of HSS.out tk' tn tsn u1 u2 txs w' (HAR.out.below hb) (HAR'.out.below hb))
      obtain ⟨c0, c1, c2, c3, d0, d1, d2, d3, hb0⟩ := h8
      go_wp2
      go_region_held3 (fun w' => w'.cell? ⟨b, o + k * 4, none⟩ = some (.int .i64 tk') ∧ w'.cell? ⟨b, o + k * 4 + 1, none⟩ = some (.int .i64 tn) ∧ w'.cell? ⟨b, o + k * 4 + 2, none⟩ = some (.string tsn) ∧ w'.cell? ⟨b, o + k * 4 + 3, none⟩ = some u1 ∧
          w'.cell? ⟨b', o' + k * 4, none⟩ = some (.int .i64 tk') ∧ w'.cell? ⟨b', o' + k * 4 + 1, none⟩ = some (.int .i64 tn) ∧ w'.cell? ⟨b', o' + k * 4 + 2, none⟩ = some (.string tsn) ∧ w'.cell? ⟨b', o' + k * 4 + 3, none⟩ = some u2 ∧ Below wr.heap.size wr w')
        (first | exact HK.out _ (by assumption) | exact HK.out _ (bel_drew (by assumption)) | exact HK.out _ (Below.drew (by assumption)) | exact HK.out _ (Below.trans (by assumption) (Below.mono (by assumption) (Below.size (by assumption)))) | go_keep)
        (first | (go_at_call 28; refine (HCALL.out _ (by first | assumption | exact Below.drew (by assumption))).mono ?_; rintro e w1 ⟨rfl, hb1⟩))
      have HB2 := Lib.hid (HB.out.trans ((bel_drew hb1).mono HB.out.size)); clear hb1
      go_wp2
      go_roundw
      case rel => exact ⟨k + 1, by omega, by go_num, HB2⟩
      case measure => simp [intOf]; omega
    · go_wp2
      go_ret
      exact ⟨rfl, HB.out⟩

theorem eqS_any (lo lo' : Nat) : ∀ h, EqSAt lo lo' h
  | 0 => fun u u' ts w ha ha' => by
    obtain ⟨rfl, a, cap, rfl⟩ := ha
    obtain ⟨_, a', cap', rfl⟩ := ha'
    exact eqS_empty a a' cap cap' w
  | h + 1 => fun u u' ts w ha ha' => by
    rcases ha.cases with ⟨rfl, a, cap, rfl⟩ | ⟨h1, b, o, cap, e, rfl, hl, _, hc⟩
    · obtain ⟨a', cap', rfl⟩ := ha'.slice
      exact eqS_empty a a' cap cap' w
    · obtain rfl : h = h1 := by omega
      rcases ha'.cases with ⟨rfl, a', cap', rfl⟩ | ⟨h2, b', o', cap', e2, rfl, _, _, hc'⟩
      · exact eqS_empty _ a' cap cap' w
      · obtain rfl : h = h2 := by omega
        exact eqS_some (eqS_any lo lo' h) b o cap b' o' cap' ts w hl hc hc'

/-- laws.eqTerm, at two readings of one tree. -/
theorem eqT_any (v v' : Value) (t : T) (lo lo' h : Nat) (w : World) (ht : TermAt w lo h v t) (ht' : TermAt w lo' h v' t) :
    Calls Try.prog 28 #[v, v'] w (TrueB w) := by
  obtain ⟨k, n, s, u, xs, rfl, rfl, hs, ha⟩ := ht
  obtain ⟨k', n', s', u', xs', rfl, e, hs', ha'⟩ := ht'
  cases e
  exact eqT_of (eqS_any lo lo' h) k n s u u' xs w ha ha'
end Go.Proofs.Ytidbokheeieifaa
namespace Go.Proofs.Ytidbokheeieifaa
open Go.RowKit

theorem keep_at {w w' : World} {B n size : Nat} {e : TypeId} {v : Value} {xs : List Value} (h : w.ownsRow B e size v n xs) (hk : ∀ k, v.ownBlock = some k → w'.heap[k]? = w.heap[k]?) : w'.ownsRow B e size v n xs := by
  refine ⟨h.1, ?_⟩
  rcases h.2 with hn | ⟨g, cap, cur, rfl, hg, hc, rest⟩
  · exact Or.inl hn
  · exact Or.inr ⟨g, cap, cur, rfl, hg, by rw [hk g rfl]; exact hc, rest⟩
theorem Out.own {w w' : World} {lo hi B n size : Nat} {e : TypeId} {v : Value} {xs : List Value} (h : Out lo hi w w') (ho : w.ownsRow B e size v n xs) (hk : ∀ k, v.ownBlock = some k → k < lo ∨ hi ≤ k) : w'.ownsRow B e size v n xs :=
  keep_at ho fun k hv => h.2.2.2.2 k (ho.lt k hv).2 (hk k hv)
theorem Out.under {w w' : World} {lo hi B : Nat} (h : Out lo hi w w') (hB : B ≤ lo) (hB2 : B ≤ w.heap.size) : Below B w w' :=
  ⟨h.1, h.2.1, h.2.2.1, h.2.2.2.1, fun k hk => h.2.2.2.2 k (by omega) (Or.inl (by omega))⟩
theorem TermAt.le {w : World} {lo h h' : Nat} {v : Value} {t : T} (k : TermAt w lo h v t) (hle : h ≤ h') : TermAt w lo h' v t := by
  obtain ⟨k, n, s, u, xs, e1, e2, hs, ha⟩ := k
  exact ⟨k, n, s, u, xs, e1, e2, hs, ha.le hle⟩
/-- An answer that is a term, in rows of the call's own, and a word. -/
def ResO (ok : Bool) (r : T) (w : World) (e : Ending) (w' : World) : Prop :=
  ∃ k n s a m c h xs, e = .returned (.tuple #[tv k n s (.slice a m c), .bool ok]) ∧ r = .node k n s xs ∧ s.size ≤ maxLen ∧ OwnR (fun _ => True) w' h w.heap.size w'.heap.size (.slice a m c) xs ∧ Below w.heap.size w w'
/-- The same, read alone. -/
def ResT (ok : Bool) (r : T) (w : World) (e : Ending) (w' : World) : Prop :=
  ∃ k n s a m c h, e = .returned (.tuple #[tv k n s (.slice a m c), .bool ok]) ∧ TermAt w' w.heap.size h (tv k n s (.slice a m c)) r ∧ Below w.heap.size w w'

/-- The blocks from lo to hi are as they were. -/
def Same (lo hi : Nat) (w w' : World) : Prop := ∀ b, lo ≤ b → b < hi → w'.heap[b]? = w.heap[b]?
theorem Same.below {lo hi : Nat} {w w1 w2 : World} (h : Same lo hi w w1) (hb : Below w1.heap.size w1 w2) (hh : hi ≤ w1.heap.size) : Same lo hi w w2 := fun b h1 h2 => (hb.block b (by omega)).trans (h b h1 h2)
theorem Same.of_below {lo hi : Nat} {w w1 : World} (hb : Below w.heap.size w w1) (hh : hi ≤ w.heap.size) : Same lo hi w w1 := fun b _ h2 => hb.block b (by omega)
theorem Same.out {lo hi l2 h2 : Nat} {w w1 w2 : World} (h : Same lo hi w w1) (ho : Out l2 h2 w1 w2) (hh : hi ≤ w1.heap.size) (hd : hi ≤ l2 ∨ h2 ≤ lo) : Same lo hi w w2 := fun b b1 b2 => (ho.2.2.2.2 b (by omega) (by omega)).trans (h b b1 b2)
theorem Same.grown {lo hi : Nat} {w w1 w2 : World} {row : Option Nat} (h : Same lo hi w w1) (hg : w1.grownBy w2 row) (hh : hi ≤ w1.heap.size) (hd : ∀ k, row = some k → k < lo ∨ hi ≤ k) : Same lo hi w w2 := fun b b1 b2 =>
  (hg.block b (by omega) (fun e => by have := hd b e.symm; omega)).trans (h b b1 b2)
/-- A term's box and rows in blocks that are as they were. -/
theorem same_term {w w' : World} {lo hi b h : Nat} {k n : Int} {s : ByteArray} {u : Value} {xs : List T} (hs : Same lo (b + 1) w w') (ho : OwnR (fun _ => True) w h lo hi u xs) (hhi : hi ≤ b + 1) (hr : w.heap[b]? = some (trow k n s u)) (hlo : lo ≤ b) (hsz : s.size ≤ maxLen) :
    w'.heap[b]? = some (trow k n s u) ∧ OwnR (fun _ => True) w' h lo hi u xs ∧ TermAt w' lo h (tv k n s u) (.node k n s xs) := by
  have ho' : OwnR (fun _ => True) w' h lo hi u xs := ho.keep fun c _ c1 c2 => ⟨hs c c1 (by omega), trivial⟩
  exact ⟨(hs b hlo (by omega)).trans hr, ho', ⟨k, n, s, u, xs, rfl, rfl, hsz, ho'.args (Nat.le_refl _)⟩⟩
/-- laws.eqTerm, whatever the heights of the readings. -/
theorem eqT_two (v v' : Value) (t : T) (lo lo' h h' : Nat) (w : World) (ht : TermAt w lo h v t) (ht' : TermAt w lo' h' v' t) : Calls Try.prog 28 #[v, v'] w (TrueB w) :=
  eqT_any v v' t lo lo' (max h h') w (ht.le (Nat.le_max_left _ _)) (ht'.le (Nat.le_max_right _ _))
end Go.Proofs.Ytidbokheeieifaa
namespace Go.Proofs.Ytidbokheeieifaa
open Go.RowKit

theorem infoTermK : (Try.prog.info? 26).map (fun i => (i.zero, i.size, i.bytes)) = some (some (.agg #[.int .i64 0, .int .i64 0, .string ByteArray.empty, .slice none 0 0]), 4, 56) := by kernel_rfl
theorem own_formK {w : World} {B n size : Nat} {e : TypeId} {v : Value} {xs : List Value} (h : w.ownsRow B e size v n xs) : ∃ a c, v = .slice a n c := by
  rcases h.2 with ⟨rfl, h0⟩ | ⟨g, cap, cur, rfl, _⟩
  · exact ⟨none, 0, by rw [h0]⟩
  · exact ⟨_, _, rfl⟩

/-- The value's cells are those of vs, and the row is the call's own. -/
def CloneB (m : Nat) (vs : List Value) (w : World) (e : Ending) (w' : World) : Prop :=
  ∃ u, e = .returned u ∧ w'.ownsRow w.heap.size 26 4 u m vs ∧ Below w.heap.size w w'

set_option maxRecDepth 100000 in
set_option maxHeartbeats 800000 in
theorem clone_anyK (a : Option Addr) (m cap : Nat) (vs : List Value) (w : World) (hl : vs.length = m * 4) (hm : m ≤ 4294967296) (h0 : a = none → m = 0) (hc : ∀ ad, a = some ad → ∀ j u, vs[j]? = some u → w.cell? (ad.add j) = some u) (h1 : ∀ u ∈ vs, u.oneCell' = true) :
    Calls Try.prog 138 #[.slice a m cap] w (CloneB m vs w) := by
  have q22 : ∀ (w : World) (a : Option Addr) (n c n' c' : Nat), (binOp .eql 24 (.slice a n c) (.slice none n' c')).run Try.prog w = .ok (.bool a.isNone) w := fun w a n c n' c' => Lib.run_eql_slice_nil w _ _ a n c n' c' Try.underlying24
  cases a with
  | none =>
    have e0 := h0 rfl
    subst e0
    have ev : vs = [] := List.eq_nil_of_length_eq_zero (by omega)
    subst ev
    clear hc h1
    go_enter Try.func138, Try.ntmps138
    go_wp2
    go_ret
    exact ⟨_, rfl, ⟨rfl, Or.inl ⟨rfl, rfl⟩⟩, Below.refl _ _⟩
  | some ad =>
    obtain ⟨i0, hi, hz0, hz1, hz2⟩ := info_parts infoTermK
    have HI := Lib.hid hi; clear hi
    have HZ0 := Lib.hid hz0; clear hz0
    have HZ1 := Lib.hid hz1; clear hz1
    have HZ2 := Lib.hid hz2; clear hz2
    have HC := Lib.hid (hc ad rfl); clear hc
    have H1 := Lib.hid h1; clear h1
    clear h0
    go_enter Try.func138, Try.ntmps138
    go_wp2_with (first | (at_builtin; refine wpList_append_own _ rfl (.tmp 5) (.tmp 6) 24 rfl w.heap.size 26 i0 (.agg #[.int .i64 0, .int .i64 0, .string ByteArray.empty, .slice none 0 0]) 4 56 Try.underlying24 HI.out HZ0.out HZ1.out HZ2.out rfl (by decide) _ _ _ rfl (World.ownsRow_lit w #[] 0 (Nat.le_refl _) (by decide) rfl) ad m cap vs rfl hl ?c1 H1.out ?c3 ?c4 ?c5 ?_))
    case c1 => intro j u hj; exact Lib.cell?_alloc_some _ (HC.out j u hj)
    case c3 => unfold maxLen; omega
    case c4 => omega
    case c5 => simp
    intro v' w1 hown hgrow _
    have hb : Below w.heap.size w w1 := ((Below.refl _ _).alloc (Nat.le_refl _) _).grown hgrow (by simp) (fun k hk => by simp [Value.ownBlock] at hk; omega)
    have HO := Lib.hid hown; clear hown hgrow
    have HB := Lib.hid hb; clear hb
    go_wp2
    go_ret
    exact ⟨_, rfl, HO.out, HB.out⟩

/-- impl.ownArgs: the fourth cell holds such a row. -/
def OwnB (b o m : Nat) (vs : List Value) (w : World) (e : Ending) (w' : World) : Prop :=
  e = .returned (.tuple #[]) ∧ ∃ u wc, w' = wc.setCell ⟨b, o + 3, none⟩ u ∧ wc.ownsRow w.heap.size 26 4 u m vs ∧ Below w.heap.size w wc

set_option maxRecDepth 100000 in
set_option maxHeartbeats 800000 in
theorem ownArgs_anyK (b o : Nat) (a : Option Addr) (m cap : Nat) (vs : List Value) (w : World) (hl : vs.length = m * 4) (hm : m ≤ 4294967296) (h0 : a = none → m = 0) (hc : ∀ ad, a = some ad → ∀ j u, vs[j]? = some u → w.cell? (ad.add j) = some u) (h1 : ∀ u ∈ vs, u.oneCell' = true)
    (hcell : w.cell? ⟨b, o + 3, none⟩ = some (.slice a m cap)) (hfrz : w.frozen? ⟨b, o + 3, none⟩ = false) :
    Calls Try.prog 110 #[.pointer (some ⟨b, o, none⟩)] w (OwnB b o m vs w) := by
  have HCL := Lib.hid (clone_anyK a m cap vs w hl hm h0 hc h1)
  clear hc h1 h0
  have HCE := Lib.hid (And.intro hcell hfrz)
  go_enter Try.func110, Try.ntmps110
  go_wp2_with fail
  refine HCL.out.mono ?_
  rintro e w1 ⟨u, rfl, ho, hb⟩
  have hlt := World.block_lt_of_cell? w _ HCE.out.1
  have hcell1 : w1.cell? ⟨b, o + 3, none⟩ = some (.slice a m cap) := by rw [hb.cell hlt]; exact HCE.out.1
  have hfrz1 : w1.frozen? ⟨b, o + 3, none⟩ = false := (hb.frozen hlt).trans HCE.out.2
  rcases own_formK ho with ⟨a1, c1, rfl⟩
  have HO := Lib.hid ho; clear ho
  have HB := Lib.hid hb; clear hb hcell hfrz
  go_wp2
  go_end0
  exact ⟨rfl, _, w1, rfl, HO.out, HB.out⟩
theorem ownArgs_any (b o : Nat) (a : Option Addr) (m cap : Nat) (vs : List Value) (w : World) (hl : vs.length = m * 4) (hm : m ≤ 4194304) (h0 : a = none → m = 0) (hc : ∀ ad, a = some ad → ∀ j u, vs[j]? = some u → w.cell? (ad.add j) = some u) (h1 : ∀ u ∈ vs, u.oneCell' = true)
    (hcell : w.cell? ⟨b, o + 3, none⟩ = some (.slice a m cap)) (hfrz : w.frozen? ⟨b, o + 3, none⟩ = false) :
    Calls Try.prog 110 #[.pointer (some ⟨b, o, none⟩)] w (OwnB b o m vs w) := ownArgs_anyK b o a m cap vs w hl (by omega) h0 hc h1 hcell hfrz
end Go.Proofs.Ytidbokheeieifaa
namespace Go.Proofs.Ytidbokheeieifaa
open Go.RowKit

/-- What slice v's growth leaves. -/
def Grew (v : Value) (w1 : World) (v' : Value) (w' : World) : Prop := w1.heap.size ≤ w'.heap.size ∧ (∀ b, b < w1.heap.size → NotOwn v b → w'.heap[b]? = w1.heap[b]?) ∧ (v'.ownBlock = v.ownBlock ∨ ∃ k, v'.ownBlock = some k ∧ w1.heap.size ≤ k)
theorem Grew.refl (v v' : Value) (w : World) (h : v'.ownBlock = v.ownBlock) : Grew v w v' w := ⟨Nat.le_refl _, fun _ _ _ => rfl, Or.inl h⟩
theorem Grew.trans {v v' v2 : Value} {w1 w' w2 : World} (h : Grew v w1 v' w') (k : Grew v' w' v2 w2) : Grew v w1 v2 w2 :=
  ⟨Nat.le_trans h.1 k.1, fun b hb hv => (k.2.1 b (Nat.lt_of_lt_of_le hb h.1) (notOwn_old h.2.2 hb hv)).trans (h.2.1 b hb hv), ob_trans h.1 h.2.2 k.2.2⟩

theorem grew_app {vi : Value} {wr w3 : World} {o : Obj} {g3 n cap : Nat} (hgr : (wr.alloc o).grownBy w3 vi.ownBlock) (hat : vi.ownBlock = some g3 ∨ g3 = (wr.alloc o).heap.size) : Grew vi wr (.slice (some ⟨g3, 0, none⟩) n cap) w3 := by
  have hz : (wr.alloc o).heap.size = wr.heap.size + 1 := by simp
  have hs := hgr.size
  rw [hz] at hs hat
  refine ⟨by omega, fun b hb hv => (hgr.block b (by omega) hv).trans (Below.heap_alloc _ _ _ hb), ?_⟩
  rcases hat with h | h
  · exact Or.inl h.symm
  · exact Or.inr ⟨g3, rfl, by omega⟩
theorem Grew.alloc {v v' : Value} {w w' : World} (h : Grew v w v' w') (o : Obj) : Grew v w v' (w'.alloc o) :=
  ⟨by have := h.1; simp; omega, fun b hb hv => (Below.heap_alloc _ _ _ (Nat.lt_of_lt_of_le hb h.1)).trans (h.2.1 b hb hv), h.2.2⟩
theorem Grew.below {v v' : Value} {w w' w2 : World} (h : Grew v w v' w') (hb : Below w'.heap.size w' w2) : Grew v w v' w2 :=
  ⟨Nat.le_trans h.1 hb.size, fun b hl hv => (hb.block b (Nat.lt_of_lt_of_le hl h.1)).trans (h.2.1 b hl hv), h.2.2⟩
theorem Grew.drew {v v' : Value} {w w' : World} (h : Grew v w v' w') : Grew v w v' w'.drew := h
end Go.Proofs.Ytidbokheeieifaa
namespace Go.Proofs.Ytidbokheeieifaa
open Go.RowKit

theorem ret_str {a b : List UInt8} (h : a = b) : Ending.returned (.string ⟨a.toArray⟩) = .returned (.string ⟨b.toArray⟩) := by rw [h]

/-- 'string([]byte{c})'. -/
theorem conv_one (W : World) (k : Nat) (c : Int) (hk : k < 256) (hc : c = (k : Int)) :
    (convert 22 9 (.slice (some ⟨W.heap.size, 0, none⟩) 1 1)).run Try.prog (W.alloc (.cells #[.int .u8 c] 5)) = .ok (.string ⟨#[UInt8.ofNat k]⟩) (W.alloc (.cells #[.int .u8 c] 5)) := by
  have h := run_convert_bytes_back (P := Try.prog) (W.alloc (.cells #[.int .u8 c] 5)) 22 9 5 ⟨W.heap.size, 0, none⟩ 1 [UInt8.ofNat k] Try.underlying22 Try.underlying5 Try.underlying9 (fun j hj => by
    have hj0 : j = 0 := by simpa using hj
    subst hj0
    have := World.cell?_alloc_mark W #[.int .u8 c] 5 (0, 0) 0
    show (W.alloc (.cells #[.int .u8 c] 5)).cell? ⟨W.heap.size, 0, none⟩ = _
    rw [this, hc]
    simp
    omega)
  exact h

theorem cons_str (x : UInt8) (out : List UInt8) : (⟨#[x]⟩ : ByteArray) ++ ⟨out.toArray⟩ = ⟨(x :: out).toArray⟩ := by
  apply ByteArray.ext
  simp [ByteArray.data_append]
theorem digit_val (k : Nat) : (48 : UInt8) + UInt8.ofNat k = UInt8.ofNat (48 + k) := by
  rw [UInt8.ofNat_add]; rfl
end Go.Proofs.Ytidbokheeieifaa
namespace Go.Proofs.Ytidbokheeieifaa
open Go

/-- The digits of u, none for 0. -/
def decPos (u : Nat) : List UInt8 :=
  if _h : u = 0 then [] else decPos (u / 10) ++ [UInt8.ofNat (48 + u % 10)]
termination_by u
decreasing_by omega

theorem decPos_zero : decPos 0 = [] := by rw [decPos, dif_pos rfl]
theorem decPos_pos {u : Nat} (h : u ≠ 0) : decPos u = decPos (u / 10) ++ [UInt8.ofNat (48 + u % 10)] := by
  rw [decPos, dif_neg h]
theorem decPos_eq (u : Nat) (h : u ≠ 0) : decPos u = Lib.decDigits u := by
  induction u using Nat.strongRecOn with
  | _ u ih =>
    rw [decPos_pos h]
    by_cases hs : u < 10
    · rw [Lib.decDigits_one hs, show u / 10 = 0 by omega, decPos_zero, show u % 10 = u by omega]; rfl
    · rw [Lib.decDigits, dif_neg hs, ih (u / 10) (by omega) (by omega)]

/-- One round: the last digit of the rest goes ahead of what has been written. -/
theorem decPos_step {u : Nat} (h : u ≠ 0) (out : List UInt8) : decPos (u / 10) ++ (UInt8.ofNat (48 + u % 10) :: out) = decPos u ++ out := by
  rw [decPos_pos h, List.append_assoc]; rfl

theorem decPos_length_le (u : Nat) (h : u < 10 ^ 20) : (decPos u).length ≤ 20 := by
  by_cases h0 : u = 0
  · rw [h0, decPos_zero]; simp
  · rw [decPos_eq u h0, Lib.decDigits_length]
    have h1 := Lib.nDigits_pos u
    rcases Nat.lt_or_ge 20 (Lib.nDigits u) with hlt | hge
    · exfalso
      obtain ⟨k, hk⟩ : ∃ k, Lib.nDigits u = k + 1 := ⟨Lib.nDigits u - 1, by omega⟩
      have hle : ∀ (k u : Nat), Lib.nDigits u = k + 1 → 1 ≤ k → 10 ^ k ≤ u := by
        intro k
        induction k with
        | zero => intro u _ h; omega
        | succ k ih =>
          intro u hu _
          have hb : ¬ u < 10 := by
            intro hlt; rw [Lib.nDigits_small hlt] at hu; omega
          rw [Lib.nDigits_big hb] at hu
          by_cases hk0 : k = 0
          · subst hk0; omega
          · have := ih (u / 10) (by omega) (by omega)
            rw [Nat.pow_succ]; omega
      have h2 := hle k u hk (by omega)
      have h3 : 10 ^ 20 ≤ 10 ^ k := Nat.pow_le_pow_right (by omega) (by omega)
      omega
    · omega

theorem itoa_pos {n : Int} (h : 0 < n) : Lib.itoa n = decPos n.toNat := by
  unfold Lib.itoa; rw [if_neg (by omega), decPos_eq _ (by omega)]
theorem itoa_neg' {n : Int} (h : n < 0) : Lib.itoa n = 45 :: decPos n.natAbs := by
  unfold Lib.itoa; rw [if_pos h, decPos_eq _ (by omega)]
theorem itoa_zero : Lib.itoa 0 = [48] := by
  unfold Lib.itoa; rw [if_neg (by omega)]; exact Lib.decDigits_one (by decide)
end Go.Proofs.Ytidbokheeieifaa
namespace Go.Proofs.Ytidbokheeieifaa
open Go.RowKit

/-- The k-th mark. -/
def mark (k : Nat) : ByteArray := ⟨((109 : UInt8) :: decPos k).toArray⟩
def MarkEnd (k : Nat) (w : World) (e : Ending) (w' : World) : Prop := e = .returned (.string (mark k)) ∧ Below w.heap.size w w'

set_option maxRecDepth 100000 in
set_option maxHeartbeats 400000 in
theorem markText_any (n : Nat) (w : World) (h0 : 1 ≤ n) (h1 : (n : Int) ≤ 9223372036854775807) :
    Calls Try.prog 95 #[.int .i64 n] w (MarkEnd n w) := by
  have hz : decide ((n : Int) ≤ 0) = false := by simp; omega
  go_enter Try.func95, Try.ntmps95
  go_wp2
  go_loopw [0, 3] (fun a o wr => ∃ (m : Nat) (out : List UInt8), (m : Int) ≤ 9223372036854775807 ∧ a = .int .i64 m ∧ o = .string ⟨out.toArray⟩ ∧ decPos m ++ out = decPos n ∧ Below w.heap.size w wr) (fun a _ _ => (intOf a).toNat)
  case atStart => exact ⟨n, [], by omega, rfl, rfl, by simp, Below.refl _ _⟩
  case round =>
    obtain ⟨m, out, hm, rfl, rfl, hd, hb⟩ := hrel
    have HD := Lib.hid hd; clear hd
    have hlen : out.length ≤ 20 := by
      have e := congrArg List.length HD.out
      have l := decPos_length_le n (by omega)
      rw [List.length_append] at e
      omega
    by_cases hm0 : m = 0
    · subst hm0
      go_wp2
      go_ret
      refine ⟨?_, hb⟩
      show Ending.returned (.string (⟨#[109]⟩ ++ ⟨out.toArray⟩)) = _
      rw [cons_str]
      have := HD.out
      rw [decPos_zero, List.nil_append] at this
      rw [this]; rfl
    · have hmp : 1 ≤ m := by omega
      have hp : (0 : Int) ≤ (m : Int) % 10 := by omega
      have hp2 : (m : Int) % 10 ≤ 9 := by omega
      have hcv := conv_one wr (48 + m % 10) (48 + (m : Int) % 10) (by omega) (by omega)
      have hstep := decPos_step (u := m) hm0 out
      clear hm0
      have HS := Lib.hid hstep; clear hstep
      go_wp2
      go_roundw
      case rel =>
        refine ⟨m / 10, UInt8.ofNat (48 + m % 10) :: out, by omega, by go_num, ?_, by rw [HS.out, HD.out], hb.alloc (by have := hb.size; omega) _⟩
        rw [digit_val, cons_str]
      case measure => simp [intOf]; omega

theorem markText_int (x : Int) (n : Nat) (w : World) (hx : x = (n : Int)) (h0 : 1 ≤ n) (h1 : (n : Int) ≤ 9223372036854775807) :
    Calls Try.prog 95 #[.int .i64 x] w (MarkEnd n w) := by
  subst hx; exact markText_any n w h0 h1

theorem held_call {wr w1 : World} {a : Addr} {v : Value} (hb1 : Below wr.drew.heap.size wr.drew w1) (hg : a.block < wr.heap.size) (h : wr.cell? a = some v) : w1.cell? a = some v ∧ Below wr.heap.size wr w1 := by
  have hb : Below wr.heap.size wr wr.drew := (Below.refl _ _).drew
  exact ⟨by rw [(hb.trans hb1).cell hg]; exact h, hb.trans hb1⟩
theorem held_draw {wr : World} {a : Addr} {v : Value} (h : wr.cell? a = some v) : wr.drew.cell? a = some v ∧ Below wr.heap.size wr wr.drew :=
  ⟨h, (Below.refl _ _).drew⟩
end Go.Proofs.Ytidbokheeieifaa
