/-
  laws.markTermS and laws.markTerm write over the rows of a term that are a call's own; nothing else turns.
-/
import Derived.Test.YtidbokheeieifaaQ2
import Derived.Test.YtidbokheeieifaaQ6
namespace Go.Proofs.Ytidbokheeieifaa
open Go.RowKit

def MarkOut (lo hi k : Nat) (w : World) (e : Ending) (w' : World) : Prop := e = .returned (.int .i64 (k : Int)) ∧ Out lo hi w w'

def MarkAt (h : Nat) : Prop := ∀ (u : Value) (ts : List T) (lo hi k : Nat) (w : World), OwnA w h lo hi u ts → hi ≤ w.heap.size → 1 ≤ k → k + 3 * cS ts ≤ 2305843009213693952 →
  Calls Try.prog 94 #[u, .int .i64 k] w (MarkOut lo hi (k + 3 * cS ts) w)

theorem len_cS : ∀ ts : List T, ts.length ≤ cS ts
  | [] => Nat.zero_le _
  | t :: ts => by
    have h := len_cS ts
    obtain ⟨k, n, s, xs⟩ := t
    have hc : cS (T.node k n s xs :: ts) = cT (T.node k n s xs) + cS ts := by simp [cS]
    rw [hc, cT_node]
    simp only [List.length_cons]
    omega

/-- How far the marks of a row have come. -/
def MRel (h g m cap j : Nat) (ts : List T) (U : Nat → Value) (L R : Nat → Nat) (w : World) : Prop :=
  ∃ xs, w.ownsRow g 26 4 (.slice (some ⟨g, 0, none⟩) m cap) m xs ∧ ∀ i kk nn s txs, j ≤ i → ts[i]? = some (T.node kk nn s txs) → xs[i * 4 + 3]? = some (U i) ∧ OwnA w h (L i) (R i) (U i) txs

theorem MRel.cells {h g m cap j : Nat} {ts : List T} {U : Nat → Value} {L R : Nat → Nat} {w : World} (c : MRel h g m cap j ts U L R w) {i : Nat} (hi : i < m) (q : Nat) (hq : q < 4) :
    (∃ v, w.cell? ⟨g, i * 4 + q, none⟩ = some v) ∧ w.frozen? ⟨g, i * 4 + q, none⟩ = false := by
  obtain ⟨xs, ho, _⟩ := c
  have hl := ho.1
  refine ⟨?_, ho.frozenAt _⟩
  rw [ho.cellAt (i * 4 + q) (by omega)]
  exact ⟨_, List.getElem?_eq_getElem (by omega)⟩
theorem MRel.args {h g m cap j : Nat} {ts : List T} {U : Nat → Value} {L R : Nat → Nat} {w : World} (c : MRel h g m cap j ts U L R w) {kk nn : Int} {s : ByteArray} {txs : List T} (hj : j < m) (ht : ts[j]? = some (T.node kk nn s txs)) :
    w.cell? ⟨g, j * 4 + 3, none⟩ = some (U j) ∧ OwnA w h (L j) (R j) (U j) txs := by
  obtain ⟨xs, ho, hx⟩ := c
  obtain ⟨h1, h2⟩ := hx j kk nn s txs (Nat.le_refl _) ht
  exact ⟨by rw [ho.cellAt (j * 4 + 3) (by omega)]; exact h1, h2⟩
/-- A store into a cell of element j that is not its last. -/
theorem MRel.store {h g m cap j : Nat} {ts : List T} {U : Nat → Value} {L R : Nat → Nat} {w : World} (c : MRel h g m cap j ts U L R w) (hg : ∀ i, g < L i ∨ R i ≤ g) (q : Nat) (hq : q < 3) (v : Value) :
    MRel h g m cap j ts U L R (w.setCell ⟨g, j * 4 + q, none⟩ v) := by
  obtain ⟨xs, ho, hx⟩ := c
  refine ⟨_, (ho.stored (j * 4 + q) v).1, fun i kk nn s txs hi ht => ?_⟩
  obtain ⟨h1, h2⟩ := hx i kk nn s txs hi ht
  refine ⟨by rw [List.getElem?_set_ne (by omega)]; exact h1, h2.keep fun b b1 b2 => ?_⟩
  exact Below.heap_setCell _ _ _ _ (fun e => by have := hg i; simp at e; omega)
theorem MRel.below {h g m cap j : Nat} {ts : List T} {U : Nat → Value} {L R : Nat → Nat} {w w' : World} (c : MRel h g m cap j ts U L R w) (hb : Below w.heap.size w w') (hR : ∀ i, R i ≤ w.heap.size) : MRel h g m cap j ts U L R w' := by
  obtain ⟨xs, ho, hx⟩ := c
  refine ⟨xs, keep_own ho hb, fun i kk nn s txs hi ht => ?_⟩
  obtain ⟨h1, h2⟩ := hx i kk nn s txs hi ht
  exact ⟨h1, h2.keep fun b b1 b2 => hb.block b (by have := hR i; omega)⟩
/-- The child's marks. -/
theorem MRel.child {h g m cap j : Nat} {ts : List T} {U : Nat → Value} {L R : Nat → Nat} {w w' : World} (c : MRel h g m cap j ts U L R w) (ho : Out (L j) (R j) w w') (hg : ∀ i, g < L i ∨ R i ≤ g) (hgs : g < w.heap.size) (hR : ∀ i, R i ≤ w.heap.size)
    (hd : ∀ i, j < i → i < ts.length → R j ≤ L i ∨ R i ≤ L j) : MRel h g m cap (j + 1) ts U L R w' := by
  obtain ⟨xs, hr, hx⟩ := c
  refine ⟨xs, row_keep hr (ho.2.2.2.2 g hgs (by have := hg j; omega)), fun i kk nn s txs hi ht => ?_⟩
  obtain ⟨h1, h2⟩ := hx i kk nn s txs (by omega) ht
  refine ⟨h1, h2.keep fun b b1 b2 => ho.2.2.2.2 b (by have := hR i; omega) ?_⟩
  have := hd i (by omega) (List.getElem?_eq_some_iff.1 ht).1
  omega

set_option maxRecDepth 100000 in
set_option maxHeartbeats 400000 in
theorem mark_empty (lo hi k : Nat) (a : Option Addr) (cap : Nat) (w : World) :
    Calls Try.prog 94 #[.slice a 0 cap, .int .i64 k] w (MarkOut lo hi k w) := by
  go_enter Try.func94, Try.ntmps94
  go_wp2
  refine wp_loop_rounds 1 ?_
  rw [rounds_succ]
  go_wp2
  go_ret
  exact ⟨rfl, Out.refl _ _ _⟩

set_option maxRecDepth 100000 in
set_option maxHeartbeats 1600000 in
theorem mark_some {h : Nat} (hM : MarkAt h) (g cap : Nat) (ts : List T) (U : Nat → Value) (L R : Nat → Nat) (lo hi k : Nat) (w : World) (hrel0 : MRel h g ts.length cap 0 ts U L R w) (h1 : lo ≤ g) (h2 : g < hi) (hhi : hi ≤ w.heap.size)
    (hg : ∀ i, g < L i ∨ R i ≤ g) (hL : ∀ i, lo ≤ L i) (hR : ∀ i, R i ≤ hi) (hd : ∀ i j, i < j → j < ts.length → R i ≤ L j ∨ R j ≤ L i) (hk : 1 ≤ k) (hkc : k + 3 * cS ts ≤ 2305843009213693952) :
    Calls Try.prog 94 #[.slice (some ⟨g, 0, none⟩) ts.length cap, .int .i64 k] w (MarkOut lo hi (k + 3 * cS ts) w) := by
  have hl : ts.length ≤ 2305843009213693952 := by have := len_cS ts; omega
  have HM0 := Lib.hid hM; clear hM
  have HG := Lib.hid hg; clear hg
  have HL := Lib.hid hL; clear hL
  have HRR := Lib.hid hR; clear hR
  have HDD := Lib.hid hd; clear hd
  have HKC := Lib.hid hkc; clear hkc
  obtain ⟨m, hm⟩ : ∃ m, m = ts.length := ⟨_, rfl⟩
  rw [← hm] at hrel0 hl ⊢
  have HM := Lib.hid hm; clear hm
  have HR0 := Lib.hid hrel0; clear hrel0
  go_enter Try.func94, Try.ntmps94
  go_wp2
  go_loopw [1, 5] (fun q i wr => ∃ (j c : Nat), j ≤ m ∧ i = .int .i64 j ∧ q = .int .i64 c ∧ Hid (c = k + 3 * cS (ts.take j)) ∧ Hid (MRel h g m cap j ts U L R wr) ∧ Hid (Out lo hi w wr)) (fun _ i _ => m - (intOf i).toNat)
  case atStart => exact ⟨0, k, Nat.zero_le _, rfl, rfl, Lib.hid (by simp [cS]), HR0, Lib.hid (Out.refl _ _ _)⟩
  case round =>
    obtain ⟨j, c, hj, rfl, rfl, HC, HR, HO⟩ := hrel
    have hcb : c ≤ 2305843009213693952 := by have := HC.out; have := cS_take ts j; have := HKC.out; omega
    have hc1 : 1 ≤ c := by have := HC.out; omega
    by_cases hlt : j < m
    · obtain ⟨t, ht⟩ : ∃ t, ts[j]? = some t := ⟨_, List.getElem?_eq_getElem (by have := HM.out; omega)⟩
      obtain ⟨tk1, tn1, ts1, txs⟩ := t
      have hct : cS (ts.take (j + 1)) = cS (ts.take j) + (1 + cS txs) := by rw [tk ts j _ ht, cS_snoc, cT_node]
      have hctl := cS_take ts (j + 1)
      have HCT := Lib.hid hct
      have hcx : c + 3 + 3 * cS txs ≤ 2305843009213693952 := by have := HC.out; have := HKC.out; omega
      have htl2 : txs.length ≤ 2305843009213693952 := by have := len_cS txs; omega
      clear hct hctl
      have hgs : g < wr.heap.size := by have := HO.out.2.2.2.1; omega
      have hRs : Hid (∀ i, R i ≤ wr.heap.size) := Lib.hid (fun i => by have := HRR.out i; have := HO.out.2.2.2.1; omega)
      have HT := Lib.hid ht; clear ht
      obtain ⟨⟨o0, g0⟩, f0⟩ := HR.out.cells hlt 0 (by omega)
      obtain ⟨⟨o1, g1⟩, f1⟩ := HR.out.cells hlt 1 (by omega)
      rw [Nat.add_zero] at g0 f0
      have s0 := HR.out.store HG.out 0 (by omega) (.int .i64 (c : Int))
      rw [Nat.add_zero] at s0
      have s1 := s0.store HG.out 1 (by omega) (.int .i64 ((c : Int) + 1))
      have HS1 := Lib.hid s1; clear s0 s1
      have HO1 := Lib.hid (HO.out.trans ((Out.set (lo := lo) (hi := hi) wr g (j * 4) (.int .i64 (c : Int)) h1 h2).trans (Out.set _ g (j * 4 + 1) (.int .i64 ((c : Int) + 1)) h1 h2)))
      go_wp2_with fail
      refine (markText_int _ (c + 2) _ (by omega) (by omega) (by omega)).mono ?_
      rintro e w1 ⟨rfl, hb1⟩
      have HS2 := Lib.hid (HS1.out.below hb1 (fun i => by have := hRs.out i; simpa using this))
      have hw1 : wr.heap.size ≤ w1.heap.size := by have := hb1.size; simpa [World.setCell] using this
      have HO2 := Lib.hid (HO1.out.trans (Out.of_below hb1)); clear hb1 g0 g1 f0 f1
      obtain ⟨⟨o2, g2⟩, f2⟩ := HS2.out.cells hlt 2 (by omega)
      have HS3 := Lib.hid (HS2.out.store HG.out 2 (by omega) (.string (mark (c + 2))))
      have HO3 := Lib.hid (HO2.out.trans (Out.set (lo := lo) (hi := hi) w1 g (j * 4 + 2) (.string (mark (c + 2))) h1 h2))
      obtain ⟨ca, hoa⟩ := HS3.out.args hlt HT.out
      have hsz : w1.heap.size = (w1.setCell ⟨g, j * 4 + 2, none⟩ (.string (mark (c + 2)))).heap.size := by simp [World.setCell]
      have hcall := HM0.out (U j) txs (L j) (R j) (c + 3) _ hoa (by have := hRs.out j; omega) (by omega) (by omega)
      obtain ⟨ua, uc, hu⟩ := hoa.slice
      rw [hu] at ca hcall
      clear hoa
      have HCALL := Lib.hid hcall; clear hcall
      go_wp2_with fail
      have hcast : ((c : Int) + 1 + 1 + 1) = ((c + 3 : Nat) : Int) := by omega
      rw [hcast]
      refine HCALL.out.mono ?_
      rintro e w2 ⟨rfl, ho2⟩
      have HR4 := Lib.hid (HS3.out.child ho2 HG.out (by omega) (fun i => by have := hRs.out i; omega) (fun i hi hil => HDD.out j i hi hil))
      have HO4 := Lib.hid (HO3.out.trans (ho2.wide (HL.out j) (HRR.out j))); clear ho2
      have HC4 : Hid (c + 3 + 3 * cS txs = k + 3 * cS (ts.take (j + 1))) := Lib.hid (by have := HC.out; have := HCT.out; omega)
      go_wp2
      go_roundw
      case rel => exact ⟨j + 1, c + 3 + 3 * cS txs, by omega, by go_num, rfl, HC4, HR4, HO4⟩
      case measure => simp [intOf]; omega
    · have HD : Hid (c = k + 3 * cS ts) := Lib.hid (by
        have hjm : j = ts.length := by have := HM.out; omega
        rw [HC.out, hjm, List.take_length])
      go_wp2
      go_ret
      exact ⟨by rw [← HD.out]; rfl, HO.out⟩

theorem mark_any : ∀ h, MarkAt h
  | 0 => by
    rintro u ts lo hi k w ⟨rfl, a, cap, rfl⟩ hhi hk hkc
    exact (mark_empty lo hi k a cap w)
  | h + 1 => by
    rintro u ts lo hi k w ⟨a, cap, rfl, hc⟩ hhi hk hkc
    by_cases hn : ts = []
    · subst hn
      exact mark_empty lo hi k a cap w
    · obtain ⟨g, xs, U, L, R, rfl, h1, h2, ho, hx, hd⟩ := hc.resolve_left hn
      have hin : ∀ i, i < ts.length → lo ≤ L i ∧ R i ≤ hi ∧ (g < L i ∨ R i ≤ g) := fun i hi' => by
        obtain ⟨t, ht⟩ : ∃ t, ts[i]? = some t := ⟨_, List.getElem?_eq_getElem hi'⟩
        obtain ⟨kk, nn, s, txs⟩ := t
        obtain ⟨_, l1, l2, l3, _⟩ := hx i kk nn s txs ht
        exact ⟨l1, l2, l3⟩
      refine mark_some (mark_any h) g cap ts U (fun i => if i < ts.length then L i else lo) (fun i => if i < ts.length then R i else lo) lo hi k w ⟨xs, ho, fun i kk nn s txs _ ht => ?_⟩ h1 h2 hhi ?_ ?_ ?_ ?_ hk hkc
      · have hi' := (List.getElem?_eq_some_iff.1 ht).1
        obtain ⟨x3, _, _, _, hr⟩ := hx i kk nn s txs ht
        exact ⟨x3, by simpa [hi'] using hr⟩
      · intro i
        by_cases hi' : i < ts.length
        · simpa [hi'] using (hin i hi').2.2
        · simp [hi']; omega
      · intro i
        by_cases hi' : i < ts.length
        · simpa [hi'] using (hin i hi').1
        · simp [hi']
      · intro i
        by_cases hi' : i < ts.length
        · simpa [hi'] using (hin i hi').2.1
        · simp [hi']; omega
      · intro i j hij hj
        have hi' : i < ts.length := by omega
        simpa [hi', hj] using hd i j hij hj

set_option maxRecDepth 100000 in
set_option maxHeartbeats 800000 in
/-- laws.markTerm, at a term whose rows are the call's own. -/
theorem markT_any (kk nn : Int) (s : ByteArray) (u : Value) (xs : List T) (h lo hi k : Nat) (w : World) (ho : OwnA w h lo hi u xs) (hhi : hi ≤ w.heap.size) (hk : 1 ≤ k) (hkc : k + 3 * cS xs ≤ 2305843009213693952) :
    Calls Try.prog 33 #[tv kk nn s u, .int .i64 k] w (MarkOut lo hi (k + 3 * cS xs) w) := by
  have hob : OwnA (boxed w kk nn s u) h lo hi u xs := ho.keep fun b b1 b2 => (boxed_below w kk nn s u).block b (by omega)
  have hsz := (boxed_below w kk nn s u).size
  have hcall := mark_any h u xs lo hi k _ hob (by omega) hk hkc
  have HO := Lib.hid (Out.of_below (lo := lo) (hi := hi) (boxed_below w kk nn s u))
  obtain ⟨a, cap, rfl⟩ := ho.slice
  clear ho hob
  have HCALL := Lib.hid hcall; clear hcall
  go_enter Try.func33, Try.ntmps33
  go_wp2_with fail
  refine HCALL.out.mono ?_
  rintro e w1 ⟨rfl, ho1⟩
  have HO1 := Lib.hid (HO.out.trans ho1); clear ho1
  go_wp2
  go_ret
  exact ⟨rfl, HO1.out⟩
end Go.Proofs.Ytidbokheeieifaa
