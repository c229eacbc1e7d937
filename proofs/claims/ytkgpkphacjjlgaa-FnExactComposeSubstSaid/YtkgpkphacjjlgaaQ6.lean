/-
  laws.markTermS and laws.markTerm write over the rows of a term that are a call's own; nothing else turns.
  laws.markTermS and laws.markTerm write numbered marks over the rows of a term that are a call's own, and nothing else turns; laws.heldTermS and laws.heldTerm find the marks there.
  impl.copyTerm: the term in memory of the call's own, all rows below it owned and apart.
  A row of arguments in the making: each argument's rows lie behind those of the ones before. No walk.
  A term of which the variables are changed, in memory of the call's own: what is still to be done, and what it will have been worth. No walk.
-/
import Derived.Test.YtkgpkphacjjlgaaQ1
import Derived.Test.YtkgpkphacjjlgaaQ5
import Derived.Deep.LoopGhost
namespace Go.Proofs.Ytkgpkphacjjlgaa
open Go.RowKit

def MarkOut (lo hi k : Nat) (w : World) (e : Ending) (w' : World) : Prop := e = .returned (.int .i64 (k : Int)) ∧ Out lo hi w w'

def MarkAt (h : Nat) : Prop := ∀ (u : Value) (ts : List T) (lo hi k : Nat) (w : World), OwnA w h lo hi u ts → hi ≤ w.heap.size → 1 ≤ k → k + 3 * cS ts ≤ 2305843009213693952 →
  Calls Try.prog 85 #[u, .int .i64 k] w (MarkOut lo hi (k + 3 * cS ts) w)

theorem len_cS : ∀ ts : List T, ts.length ≤ cS ts
  | [] => Nat.zero_le _
  | t :: ts => by
    have h := len_cS ts
    obtain ⟨k, n, s, xs⟩ := t
    have hc : cS (T.node k n s xs :: ts) = cT (T.node k n s xs) + cS ts := by simp [cS]
    rw [hc, cT_node]
    simp only [List.length_cons]
    omega

/-- How far the marks of a row have come. -/
def MRel (h g m cap j : Nat) (ts : List T) (U : Nat → Value) (L R : Nat → Nat) (w : World) : Prop :=
  ∃ xs, w.ownsRow g 29 4 (.slice (some ⟨g, 0, none⟩) m cap) m xs ∧ ∀ i kk nn s txs, j ≤ i → ts[i]? = some (T.node kk nn s txs) → xs[i * 4 + 3]? = some (U i) ∧ OwnA w h (L i) (R i) (U i) txs

theorem MRel.cells {h g m cap j : Nat} {ts : List T} {U : Nat → Value} {L R : Nat → Nat} {w : World} (c : MRel h g m cap j ts U L R w) {i : Nat} (hi : i < m) (q : Nat) (hq : q < 4) :
    (∃ v, w.cell? ⟨g, i * 4 + q, none⟩ = some v) ∧ w.frozen? ⟨g, i * 4 + q, none⟩ = false := by
  obtain ⟨xs, ho, _⟩ := c
  have hl := ho.1
  refine ⟨?_, ho.frozenAt _⟩
  rw [ho.cellAt (i * 4 + q) (by omega)]
  exact ⟨_, List.getElem?_eq_getElem (by omega)⟩
theorem MRel.args {h g m cap j : Nat} {ts : List T} {U : Nat → Value} {L R : Nat → Nat} {w : World} (c : MRel h g m cap j ts U L R w) {kk nn : Int} {s : ByteArray} {txs : List T} (hj : j < m) (ht : ts[j]? = some (T.node kk nn s txs)) :
    w.cell? ⟨g, j * 4 + 3, none⟩ = some (U j) ∧ OwnA w h (L j) (R j) (U j) txs := by
  obtain ⟨xs, ho, hx⟩ := c
  obtain ⟨h1, h2⟩ := hx j kk nn s txs (Nat.le_refl _) ht
  exact ⟨by rw [ho.cellAt (j * 4 + 3) (by omega)]; exact h1, h2⟩
/-- A store into a cell of element j that is not its last. -/
theorem MRel.store {h g m cap j : Nat} {ts : List T} {U : Nat → Value} {L R : Nat → Nat} {w : World} (c : MRel h g m cap j ts U L R w) (hg : ∀ i, g < L i ∨ R i ≤ g) (q : Nat) (hq : q < 3) (v : Value) :
    MRel h g m cap j ts U L R (w.setCell ⟨g, j * 4 + q, none⟩ v) := by
  obtain ⟨xs, ho, hx⟩ := c
  refine ⟨_, (ho.stored (j * 4 + q) v).1, fun i kk nn s txs hi ht => ?_⟩
  obtain ⟨h1, h2⟩ := hx i kk nn s txs hi ht
  refine ⟨by rw [List.getElem?_set_ne (by omega)]; exact h1, h2.keep fun b b1 b2 => ?_⟩
  exact Below.heap_setCell _ _ _ _ (fun e => by have := hg i; simp at e; omega)
theorem MRel.below {h g m cap j : Nat} {ts : List T} {U : Nat → Value} {L R : Nat → Nat} {w w' : World} (c : MRel h g m cap j ts U L R w) (hb : Below w.heap.size w w') (hR : ∀ i, R i ≤ w.heap.size) : MRel h g m cap j ts U L R w' := by
  obtain ⟨xs, ho, hx⟩ := c
  refine ⟨xs, keep_own ho hb, fun i kk nn s txs hi ht => ?_⟩
  obtain ⟨h1, h2⟩ := hx i kk nn s txs hi ht
  exact ⟨h1, h2.keep fun b b1 b2 => hb.block b (by have := hR i; omega)⟩
/-- The child's marks. -/
theorem MRel.child {h g m cap j : Nat} {ts : List T} {U : Nat → Value} {L R : Nat → Nat} {w w' : World} (c : MRel h g m cap j ts U L R w) (ho : Out (L j) (R j) w w') (hg : ∀ i, g < L i ∨ R i ≤ g) (hgs : g < w.heap.size) (hR : ∀ i, R i ≤ w.heap.size)
    (hd : ∀ i, j < i → i < ts.length → R j ≤ L i ∨ R i ≤ L j) : MRel h g m cap (j + 1) ts U L R w' := by
  obtain ⟨xs, hr, hx⟩ := c
  refine ⟨xs, row_keep hr (ho.2.2.2.2 g hgs (by have := hg j; omega)), fun i kk nn s txs hi ht => ?_⟩
  obtain ⟨h1, h2⟩ := hx i kk nn s txs (by omega) ht
  refine ⟨h1, h2.keep fun b b1 b2 => ho.2.2.2.2 b (by have := hR i; omega) ?_⟩
  have := hd i (by omega) (List.getElem?_eq_some_iff.1 ht).1
  omega

set_option maxRecDepth 100000 in
set_option maxHeartbeats 400000 in
theorem mark_empty (lo hi k : Nat) (a : Option Addr) (cap : Nat) (w : World) :
    Calls Try.prog 85 #[.slice a 0 cap, .int .i64 k] w (MarkOut lo hi k w) := by
  go_enter Try.func85, Try.ntmps85
  go_wp2
  refine wp_loop_rounds 1 ?_
  rw [rounds_succ]
  go_wp2
  go_ret
  exact ⟨rfl, Out.refl _ _ _⟩

set_option maxRecDepth 100000 in
set_option maxHeartbeats 1600000 in
theorem mark_some {h : Nat} (hM : MarkAt h) (g cap : Nat) (ts : List T) (U : Nat → Value) (L R : Nat → Nat) (lo hi k : Nat) (w : World) (hrel0 : MRel h g ts.length cap 0 ts U L R w) (h1 : lo ≤ g) (h2 : g < hi) (hhi : hi ≤ w.heap.size)
    (hg : ∀ i, g < L i ∨ R i ≤ g) (hL : ∀ i, lo ≤ L i) (hR : ∀ i, R i ≤ hi) (hd : ∀ i j, i < j → j < ts.length → R i ≤ L j ∨ R j ≤ L i) (hk : 1 ≤ k) (hkc : k + 3 * cS ts ≤ 2305843009213693952) :
    Calls Try.prog 85 #[.slice (some ⟨g, 0, none⟩) ts.length cap, .int .i64 k] w (MarkOut lo hi (k + 3 * cS ts) w) := by
  have hl : ts.length ≤ 2305843009213693952 := by have := len_cS ts; omega
  have HM0 := Lib.hid hM; clear hM
  have HG := Lib.hid hg; clear hg
  have HL := Lib.hid hL; clear hL
  have HRR := Lib.hid hR; clear hR
  have HDD := Lib.hid hd; clear hd
  have HKC := Lib.hid hkc; clear hkc
  obtain ⟨m, hm⟩ : ∃ m, m = ts.length := ⟨_, rfl⟩
  rw [← hm] at hrel0 hl ⊢
  have HM := Lib.hid hm; clear hm
  have HR0 := Lib.hid hrel0; clear hrel0
  go_enter Try.func85, Try.ntmps85
  go_wp2
  go_loopw [1, 5] (fun q i wr => ∃ (j c : Nat), j ≤ m ∧ i = .int .i64 j ∧ q = .int .i64 c ∧ Hid (c = k + 3 * cS (ts.take j)) ∧ Hid (MRel h g m cap j ts U L R wr) ∧ Hid (Out lo hi w wr)) (fun _ i _ => m - (intOf i).toNat)
  case atStart => exact ⟨0, k, Nat.zero_le _, rfl, rfl, Lib.hid (by simp [cS]), HR0, Lib.hid (Out.refl _ _ _)⟩
  case round =>
    obtain ⟨j, c, hj, rfl, rfl, HC, HR, HO⟩ := hrel
    have hcb : c ≤ 2305843009213693952 := by have := HC.out; have := cS_take ts j; have := HKC.out; omega
    have hc1 : 1 ≤ c := by have := HC.out; omega
    by_cases hlt : j < m
    · obtain ⟨t, ht⟩ : ∃ t, ts[j]? = some t := ⟨_, List.getElem?_eq_getElem (by have := HM.out; omega)⟩
      obtain ⟨tk1, tn1, ts1, txs⟩ := t
      have hct : cS (ts.take (j + 1)) = cS (ts.take j) + (1 + cS txs) := by rw [tk ts j _ ht, cS_snoc, cT_node]
      have hctl := cS_take ts (j + 1)
      have HCT := Lib.hid hct
      have hcx : c + 3 + 3 * cS txs ≤ 2305843009213693952 := by have := HC.out; have := HKC.out; omega
      have htl2 : txs.length ≤ 2305843009213693952 := by have := len_cS txs; omega
      clear hct hctl
      have hgs : g < wr.heap.size := by have := HO.out.2.2.2.1; omega
      have hRs : Hid (∀ i, R i ≤ wr.heap.size) := Lib.hid (fun i => by have := HRR.out i; have := HO.out.2.2.2.1; omega)
      have HT := Lib.hid ht; clear ht
      obtain ⟨⟨o0, g0⟩, f0⟩ := HR.out.cells hlt 0 (by omega)
      obtain ⟨⟨o1, g1⟩, f1⟩ := HR.out.cells hlt 1 (by omega)
      rw [Nat.add_zero] at g0 f0
      have s0 := HR.out.store HG.out 0 (by omega) (.int .i64 (c : Int))
      rw [Nat.add_zero] at s0
      have s1 := s0.store HG.out 1 (by omega) (.int .i64 ((c : Int) + 1))
      have HS1 := Lib.hid s1; clear s0 s1
      have HO1 := Lib.hid (HO.out.trans ((Out.set (lo := lo) (hi := hi) wr g (j * 4) (.int .i64 (c : Int)) h1 h2).trans (Out.set _ g (j * 4 + 1) (.int .i64 ((c : Int) + 1)) h1 h2)))
      go_wp2_with fail
      refine (markText_int _ (c + 2) _ (by omega) (by omega) (by omega)).mono ?_
      rintro e w1 ⟨rfl, hb1⟩
      have HS2 := Lib.hid (HS1.out.below hb1 (fun i => by have := hRs.out i; simpa using this))
      have hw1 : wr.heap.size ≤ w1.heap.size := by have := hb1.size; simpa [World.setCell] using this
      have HO2 := Lib.hid (HO1.out.trans (Out.of_below hb1)); clear hb1 g0 g1 f0 f1
      obtain ⟨⟨o2, g2⟩, f2⟩ := HS2.out.cells hlt 2 (by omega)
      have HS3 := Lib.hid (HS2.out.store HG.out 2 (by omega) (.string (mark (c + 2))))
      have HO3 := Lib.hid (HO2.out.trans (Out.set (lo := lo) (hi := hi) w1 g (j * 4 + 2) (.string (mark (c + 2))) h1 h2))
      obtain ⟨ca, hoa⟩ := HS3.out.args hlt HT.out
      have hsz : w1.heap.size = (w1.setCell ⟨g, j * 4 + 2, none⟩ (.string (mark (c + 2)))).heap.size := by simp [World.setCell]
      have hcall := HM0.out (U j) txs (L j) (R j) (c + 3) _ hoa (by have := hRs.out j; omega) (by omega) (by omega)
      obtain ⟨ua, uc, hu⟩ := hoa.slice
      rw [hu] at ca hcall
      clear hoa
      have HCALL := Lib.hid hcall; clear hcall
      go_wp2_with fail
      have hcast : ((c : Int) + 1 + 1 + 1) = ((c + 3 : Nat) : Int) := by omega
      rw [hcast]
      refine HCALL.out.mono ?_
      rintro e w2 ⟨rfl, ho2⟩
      have HR4 := Lib.hid (HS3.out.child ho2 HG.out (by omega) (fun i => by have := hRs.out i; omega) (fun i hi hil => HDD.out j i hi hil))
      have HO4 := Lib.hid (HO3.out.trans (ho2.wide (HL.out j) (HRR.out j))); clear ho2
      have HC4 : Hid (c + 3 + 3 * cS txs = k + 3 * cS (ts.take (j + 1))) := Lib.hid (by have := HC.out; have := HCT.out; omega)
      go_wp2
      go_roundw
      case rel => exact ⟨j + 1, c + 3 + 3 * cS txs, by omega, by go_num, rfl, HC4, HR4, HO4⟩
      case measure => simp [intOf]; omega
    · have HD : Hid (c = k + 3 * cS ts) := Lib.hid (by
        have hjm : j = ts.length := by have := HM.out; omega
        rw [HC.out, hjm, List.take_length])
      go_wp2
      go_ret
      exact ⟨by rw [← HD.out]; rfl, HO.out⟩

theorem mark_any : ∀ h, MarkAt h
  | 0 => by
    rintro u ts lo hi k w ⟨rfl, a, cap, rfl⟩ hhi hk hkc
    exact (mark_empty lo hi k a cap w)
  | h + 1 => by
    rintro u ts lo hi k w ⟨a, cap, rfl, hc⟩ hhi hk hkc
    by_cases hn : ts = []
    · subst hn
      exact mark_empty lo hi k a cap w
    · obtain ⟨g, xs, U, L, R, rfl, h1, h2, ho, hx, hd⟩ := hc.resolve_left hn
      have hin : ∀ i, i < ts.length → lo ≤ L i ∧ R i ≤ hi ∧ (g < L i ∨ R i ≤ g) := fun i hi' => by
        obtain ⟨t, ht⟩ : ∃ t, ts[i]? = some t := ⟨_, List.getElem?_eq_getElem hi'⟩
        obtain ⟨kk, nn, s, txs⟩ := t
        obtain ⟨_, l1, l2, l3, _⟩ := hx i kk nn s txs ht
        exact ⟨l1, l2, l3⟩
      refine mark_some (mark_any h) g cap ts U (fun i => if i < ts.length then L i else lo) (fun i => if i < ts.length then R i else lo) lo hi k w ⟨xs, ho, fun i kk nn s txs _ ht => ?_⟩ h1 h2 hhi ?_ ?_ ?_ ?_ hk hkc
      · have hi' := (List.getElem?_eq_some_iff.1 ht).1
        obtain ⟨x3, _, _, _, hr⟩ := hx i kk nn s txs ht
        exact ⟨x3, by simpa [hi'] using hr⟩
      · intro i
        by_cases hi' : i < ts.length
        · simpa [hi'] using (hin i hi').2.2
        · simp [hi']; omega
      · intro i
        by_cases hi' : i < ts.length
        · simpa [hi'] using (hin i hi').1
        · simp [hi']
      · intro i
        by_cases hi' : i < ts.length
        · simpa [hi'] using (hin i hi').2.1
        · simp [hi']; omega
      · intro i j hij hj
        have hi' : i < ts.length := by omega
        simpa [hi', hj] using hd i j hij hj

set_option maxRecDepth 100000 in
set_option maxHeartbeats 800000 in
/-- laws.markTerm, at a term whose rows are the call's own. -/
theorem markT_any (kk nn : Int) (s : ByteArray) (u : Value) (xs : List T) (h lo hi k : Nat) (w : World) (ho : OwnA w h lo hi u xs) (hhi : hi ≤ w.heap.size) (hk : 1 ≤ k) (hkc : k + 3 * cS xs ≤ 2305843009213693952) :
    Calls Try.prog 42 #[tv kk nn s u, .int .i64 k] w (MarkOut lo hi (k + 3 * cS xs) w) := by
  have hob : OwnA (boxed w kk nn s u) h lo hi u xs := ho.keep fun b b1 b2 => (boxed_below w kk nn s u).block b (by omega)
  have hsz := (boxed_below w kk nn s u).size
  have hcall := mark_any h u xs lo hi k _ hob (by omega) hk hkc
  have HO := Lib.hid (Out.of_below (lo := lo) (hi := hi) (boxed_below w kk nn s u))
  obtain ⟨a, cap, rfl⟩ := ho.slice
  clear ho hob
  have HCALL := Lib.hid hcall; clear hcall
  go_enter Try.func42, Try.ntmps42
  go_wp2_with fail
  refine HCALL.out.mono ?_
  rintro e w1 ⟨rfl, ho1⟩
  have HO1 := Lib.hid (HO.out.trans ho1); clear ho1
  go_wp2
  go_ret
  exact ⟨rfl, HO1.out⟩
end Go.Proofs.Ytkgpkphacjjlgaa
namespace Go.Proofs.Ytkgpkphacjjlgaa
open Go.RowKit

mutual
/-- A term over whose arguments, and itself, the marks from k on were written. -/
def mkT (k : Nat) : T → T
  | .node _ _ _ xs => .node (k : Int) ((k : Int) + 1) (mark (k + 2)) (mkS (k + 3) xs)
def mkS (k : Nat) : List T → List T
  | [] => []
  | t :: ts => mkT k t :: mkS (k + 3 * cT t) ts
end
theorem mkS_nil (k : Nat) : mkS k [] = [] := by rw [mkS]
theorem mkS_cons (k : Nat) (t : T) (ts : List T) : mkS k (t :: ts) = mkT k t :: mkS (k + 3 * cT t) ts := by rw [mkS]
theorem mkS_length (k : Nat) (ts : List T) : (mkS k ts).length = ts.length := by
  induction ts generalizing k with
  | nil => simp [mkS_nil]
  | cons t ts ih => rw [mkS_cons, List.length_cons, List.length_cons, ih]
theorem mkS_at (ts : List T) (k i : Nat) (t : T) (h : ts[i]? = some t) : (mkS k ts)[i]? = some (mkT (k + 3 * cS (ts.take i)) t) := by
  induction ts generalizing k i with
  | nil => simp at h
  | cons x ts ih =>
    rw [mkS_cons]
    cases i with
    | zero => simp at h; subst h; simp [cS]
    | succ i =>
      simp at h
      rw [List.getElem?_cons_succ, ih _ i h, List.take_succ_cons]
      have : cS (x :: ts.take i) = cT x + cS (ts.take i) := by simp [cS]
      rw [this, show k + 3 * cT x + 3 * cS (ts.take i) = k + 3 * (cT x + cS (ts.take i)) by omega]
theorem mkT_node (k : Nat) (kk nn : Int) (s : ByteArray) (xs : List T) : mkT k (.node kk nn s xs) = .node (k : Int) ((k : Int) + 1) (mark (k + 2)) (mkS (k + 3) xs) := by rw [mkT]
theorem mark_size (k : Nat) (h : k ≤ 2305843009213693952) : (mark k).size ≤ maxLen := by
  have l := decPos_length_le k (by omega)
  have : (mark k).size = 1 + (decPos k).length := by
    show ((109 : UInt8) :: decPos k).toArray.size = _
    simp; omega
  rw [this]; unfold maxLen; omega

/-- The mark of cell q of an element. -/
def mv (c : Nat) : Nat → Value
  | 0 => .int .i64 (c : Int)
  | 1 => .int .i64 ((c : Int) + 1)
  | _ => .string (mark (c + 2))

theorem cell_heap {w w' : World} {ad : Addr} (h : w'.heap[ad.block]? = w.heap[ad.block]?) : w'.cell? ad = w.cell? ad := by
  unfold World.cell?; rw [h]
theorem ArgsP.keepB {P : Nat → Prop} {w w' : World} {h : Nat} {u : Value} {ts : List T} (k : ArgsP P w h u ts) (hk : ∀ b, P b → b < w.heap.size → w'.heap[b]? = w.heap[b]?) : ArgsP P w' h u ts :=
  k.keep fun ad v hp hv => by rw [cell_heap (hk _ hp (World.block_lt_of_cell? w _ hv))]; exact hv

/-- Blocks from l to r. -/
abbrev In (l r : Nat) : Nat → Prop := fun b => l ≤ b ∧ b < r

/-- How far the marks of a row have come: all before element j, and q cells of it. -/
def MRow (h g m cap k j q : Nat) (ts : List T) (U : Nat → Value) (L R : Nat → Nat) (w : World) : Prop :=
  ∃ xs, w.ownsRow g 29 4 (.slice (some ⟨g, 0, none⟩) m cap) m xs ∧ (∀ i kk nn s txs, j ≤ i → ts[i]? = some (T.node kk nn s txs) → xs[i * 4 + 3]? = some (U i) ∧ OwnA w h (L i) (R i) (U i) txs) ∧
    (∀ i kk nn s txs, i < j → ts[i]? = some (T.node kk nn s txs) → (∀ p, p < 3 → xs[i * 4 + p]? = some (mv (k + 3 * cS (ts.take i)) p)) ∧ xs[i * 4 + 3]? = some (U i) ∧ ArgsP (In (L i) (R i)) w h (U i) (mkS (k + 3 * cS (ts.take i) + 3) txs)) ∧
    ∀ p, p < q → xs[j * 4 + p]? = some (mv (k + 3 * cS (ts.take j)) p)

theorem MRow.cells {h g m cap k j p : Nat} {ts : List T} {U : Nat → Value} {L R : Nat → Nat} {w : World} (c : MRow h g m cap k j p ts U L R w) {i : Nat} (hi : i < m) (q : Nat) (hq : q < 4) :
    (∃ v, w.cell? ⟨g, i * 4 + q, none⟩ = some v) ∧ w.frozen? ⟨g, i * 4 + q, none⟩ = false := by
  obtain ⟨xs, ho, _⟩ := c
  have hl := ho.1
  refine ⟨?_, ho.frozenAt _⟩
  rw [ho.cellAt (i * 4 + q) (by omega)]
  exact ⟨_, List.getElem?_eq_getElem (by omega)⟩
theorem MRow.args {h g m cap k j p : Nat} {ts : List T} {U : Nat → Value} {L R : Nat → Nat} {w : World} (c : MRow h g m cap k j p ts U L R w) {kk nn : Int} {s : ByteArray} {txs : List T} (hj : j < m) (ht : ts[j]? = some (T.node kk nn s txs)) :
    w.cell? ⟨g, j * 4 + 3, none⟩ = some (U j) ∧ OwnA w h (L j) (R j) (U j) txs := by
  obtain ⟨xs, ho, hx, _⟩ := c
  obtain ⟨h1, h2⟩ := hx j kk nn s txs (Nat.le_refl _) ht
  exact ⟨by rw [ho.cellAt (j * 4 + 3) (by omega)]; exact h1, h2⟩
/-- The next cell of element j. -/
theorem MRow.store {h g m cap k j q : Nat} {ts : List T} {U : Nat → Value} {L R : Nat → Nat} {w : World} (c : MRow h g m cap k j q ts U L R w) (hg : ∀ i, g < L i ∨ R i ≤ g) (hq : q < 3) (hj : j < m) {v : Value} (hv : v = mv (k + 3 * cS (ts.take j)) q) :
    MRow h g m cap k j (q + 1) ts U L R (w.setCell ⟨g, j * 4 + q, none⟩ v) := by
  obtain ⟨xs, ho, hx, hd, hp⟩ := c
  have hl := ho.1
  have hs : ∀ b, b ≠ g → (w.setCell ⟨g, j * 4 + q, none⟩ v).heap[b]? = w.heap[b]? := fun b hb => Below.heap_setCell _ _ _ _ (fun e => hb (by simpa using e))
  refine ⟨_, (ho.stored (j * 4 + q) v).1, fun i kk nn s txs hi ht => ?_, fun i kk nn s txs hi ht => ?_, fun p hp' => ?_⟩
  · obtain ⟨h1, h2⟩ := hx i kk nn s txs hi ht
    refine ⟨by rw [List.getElem?_set_ne (by omega)]; exact h1, h2.keep fun b b1 b2 => hs b (by have := hg i; omega)⟩
  · obtain ⟨h0, h1, h2⟩ := hd i kk nn s txs hi ht
    refine ⟨fun p hp => by rw [List.getElem?_set_ne (by omega)]; exact h0 p hp, by rw [List.getElem?_set_ne (by omega)]; exact h1, h2.keepB fun b hb _ => hs b (by have := hg i; have := hb.1; have := hb.2; omega)⟩
  · by_cases hpq : p = q
    · subst hpq
      rw [List.getElem?_set_self (by omega), hv]
    · rw [List.getElem?_set_ne (by omega)]
      exact hp p (by omega)
theorem MRow.below {h g m cap k j q : Nat} {ts : List T} {U : Nat → Value} {L R : Nat → Nat} {w w' : World} (c : MRow h g m cap k j q ts U L R w) (hb : Below w.heap.size w w') (hR : ∀ i, R i ≤ w.heap.size) : MRow h g m cap k j q ts U L R w' := by
  obtain ⟨xs, ho, hx, hd, hp⟩ := c
  refine ⟨xs, keep_own ho hb, fun i kk nn s txs hi ht => ?_, fun i kk nn s txs hi ht => ?_, hp⟩
  · obtain ⟨h1, h2⟩ := hx i kk nn s txs hi ht
    exact ⟨h1, h2.keep fun b b1 b2 => hb.block b (by have := hR i; omega)⟩
  · obtain ⟨h0, h1, h2⟩ := hd i kk nn s txs hi ht
    exact ⟨h0, h1, h2.keepB fun b _ hlt => hb.block b hlt⟩
/-- The child's marks. -/
theorem MRow.child {h g m cap k j : Nat} {ts : List T} {U : Nat → Value} {L R : Nat → Nat} {w w' : World} (c : MRow h g m cap k j 3 ts U L R w) (ho : Out (L j) (R j) w w') (hg : ∀ i, g < L i ∨ R i ≤ g) (hgs : g < w.heap.size) (hR : ∀ i, R i ≤ w.heap.size)
    (hd : ∀ i i', i < i' → i' < ts.length → R i ≤ L i' ∨ R i' ≤ L i) {kk nn : Int} {s : ByteArray} {txs : List T} (ht : ts[j]? = some (T.node kk nn s txs)) (hm : ArgsP (In (L j) (R j)) w' h (U j) (mkS (k + 3 * cS (ts.take j) + 3) txs)) :
    MRow h g m cap k (j + 1) 0 ts U L R w' := by
  obtain ⟨xs, hr, hx, hdn, hp⟩ := c
  have hjl := (List.getElem?_eq_some_iff.1 ht).1
  refine ⟨xs, row_keep hr (ho.2.2.2.2 g hgs (by have := hg j; omega)), fun i kk' nn' s' txs' hi ht' => ?_, fun i kk' nn' s' txs' hi ht' => ?_, fun p hp => by omega⟩
  · obtain ⟨h1, h2⟩ := hx i kk' nn' s' txs' (by omega) ht'
    refine ⟨h1, h2.keep fun b b1 b2 => ho.2.2.2.2 b (by have := hR i; omega) ?_⟩
    have := hd j i (by omega) (List.getElem?_eq_some_iff.1 ht').1
    omega
  · by_cases hij : i = j
    · subst hij
      rw [ht] at ht'
      cases ht'
      exact ⟨hp, (hx i kk nn s txs (Nat.le_refl _) ht).1, hm⟩
    · obtain ⟨h0, h1, h2⟩ := hdn i kk' nn' s' txs' (by omega) ht'
      refine ⟨h0, h1, h2.keepB fun b hb hlt => ho.2.2.2.2 b hlt ?_⟩
      have := hd i j (by omega) hjl
      have := hb.1; have := hb.2
      omega
theorem MRow.done {h g m cap k : Nat} {ts : List T} {U : Nat → Value} {L R : Nat → Nat} {w : World} {lo hi : Nat} (c : MRow h g m cap k m 0 ts U L R w) (hm : m = ts.length) (hl : m ≤ maxLen) (hk : k + 3 * cS ts ≤ 2305843009213693952) (h1 : lo ≤ g) (h2 : g < hi) (hL : ∀ i, lo ≤ L i) (hR : ∀ i, R i ≤ hi) :
    ArgsP (In lo hi) w (h + 1) (.slice (some ⟨g, 0, none⟩) m cap) (mkS k ts) := by
  obtain ⟨xs, ho, _, hd, _⟩ := c
  refine ⟨_, cap, by rw [mkS_length, hm], by rw [mkS_length]; omega, Or.inr ⟨g, 0, rfl, ⟨h1, h2⟩, fun i a b s' txs' hi' => ?_⟩⟩
  have hil : i < ts.length := by have := (List.getElem?_eq_some_iff.1 hi').1; rwa [mkS_length] at this
  obtain ⟨t, ht⟩ : ∃ t, ts[i]? = some t := ⟨_, List.getElem?_eq_getElem hil⟩
  obtain ⟨kk, nn, s, txs⟩ := t
  rw [mkS_at ts k i _ ht, mkT_node] at hi'
  simp only [Option.some.injEq, T.node.injEq] at hi'
  obtain ⟨rfl, rfl, rfl, rfl⟩ := hi'
  obtain ⟨h0, h3, h4⟩ := hd i kk nn s txs (by omega) ht
  have hct := cS_take ts (i + 1)
  rw [tk ts i _ ht, cS_snoc, cT_node] at hct
  refine ⟨mark_size _ (by omega), U i, ?_, ?_, ?_, ?_, h4.imp fun b hb => ⟨Nat.le_trans (hL i) hb.1, Nat.lt_of_lt_of_le hb.2 (hR i)⟩⟩
  · rw [Nat.zero_add, ho.cellAt (i * 4) (by omega)]; exact h0 0 (by omega)
  · rw [Nat.zero_add, ho.cellAt (i * 4 + 1) (by omega)]; exact h0 1 (by omega)
  · rw [Nat.zero_add, ho.cellAt (i * 4 + 2) (by omega)]; exact h0 2 (by omega)
  · rw [Nat.zero_add, ho.cellAt (i * 4 + 3) (by omega)]; exact h3

def MarkP (lo hi k h : Nat) (u : Value) (ts : List T) (w : World) (e : Ending) (w' : World) : Prop := MarkOut lo hi (k + 3 * cS ts) w e w' ∧ ArgsP (In lo hi) w' h u (mkS k ts)
def MarkPAt (h : Nat) : Prop := ∀ (u : Value) (ts : List T) (lo hi k : Nat) (w : World), OwnA w h lo hi u ts → hi ≤ w.heap.size → 1 ≤ k → k + 3 * cS ts ≤ 2305843009213693952 →
  Calls Try.prog 85 #[u, .int .i64 k] w (MarkP lo hi k h u ts w)

theorem markP_empty (lo hi k h : Nat) (a : Option Addr) (cap : Nat) (w : World) :
    Calls Try.prog 85 #[.slice a 0 cap, .int .i64 k] w (MarkP lo hi k h (.slice a 0 cap) [] w) :=
  (mark_empty lo hi k a cap w).mono fun e w' hm => ⟨by simpa [cS] using hm, by
    rw [mkS_nil]
    cases h with
    | zero => exact ⟨rfl, _, _, rfl⟩
    | succ h => exact ⟨_, _, rfl, Nat.zero_le _, Or.inl rfl⟩⟩

set_option maxRecDepth 100000 in
set_option maxHeartbeats 1600000 in
theorem markP_some {h : Nat} (hM : MarkPAt h) (g cap : Nat) (ts : List T) (U : Nat → Value) (L R : Nat → Nat) (lo hi k : Nat) (w : World) (hrel0 : MRow h g ts.length cap k 0 0 ts U L R w) (h1 : lo ≤ g) (h2 : g < hi) (hhi : hi ≤ w.heap.size)
    (hg : ∀ i, g < L i ∨ R i ≤ g) (hL : ∀ i, lo ≤ L i) (hR : ∀ i, R i ≤ hi) (hd : ∀ i j, i < j → j < ts.length → R i ≤ L j ∨ R j ≤ L i) (hk : 1 ≤ k) (hkc : k + 3 * cS ts ≤ 2305843009213693952) :
    Calls Try.prog 85 #[.slice (some ⟨g, 0, none⟩) ts.length cap, .int .i64 k] w (MarkP lo hi k (h + 1) (.slice (some ⟨g, 0, none⟩) ts.length cap) ts w) := by
  have hl : ts.length ≤ 2305843009213693952 := by have := len_cS ts; omega
  have HM0 := Lib.hid hM; clear hM
  have HG := Lib.hid hg; clear hg
  have HL := Lib.hid hL; clear hL
  have HRR := Lib.hid hR; clear hR
  have HDD := Lib.hid hd; clear hd
  have HKC := Lib.hid hkc; clear hkc
  obtain ⟨m, hm⟩ : ∃ m, m = ts.length := ⟨_, rfl⟩
  rw [← hm] at hrel0 hl ⊢
  have HM := Lib.hid hm; clear hm
  have HR0 := Lib.hid hrel0; clear hrel0
  go_enter Try.func85, Try.ntmps85
  go_wp2
  go_loopw [1, 5] (fun q i wr => ∃ (j c : Nat), j ≤ m ∧ i = .int .i64 j ∧ q = .int .i64 c ∧ Hid (c = k + 3 * cS (ts.take j)) ∧ Hid (MRow h g m cap k j 0 ts U L R wr) ∧ Hid (Out lo hi w wr)) (fun _ i _ => m - (intOf i).toNat)
  case atStart => exact ⟨0, k, Nat.zero_le _, rfl, rfl, Lib.hid (by simp [cS]), HR0, Lib.hid (Out.refl _ _ _)⟩
  case round =>
    obtain ⟨j, c, hj, rfl, rfl, HC, HR, HO⟩ := hrel
    have hcb : c ≤ 2305843009213693952 := by have := HC.out; have := cS_take ts j; have := HKC.out; omega
    have hc1 : 1 ≤ c := by have := HC.out; omega
    by_cases hlt : j < m
    · obtain ⟨t, ht⟩ : ∃ t, ts[j]? = some t := ⟨_, List.getElem?_eq_getElem (by have := HM.out; omega)⟩
      obtain ⟨tk1, tn1, ts1, txs⟩ := t
      have hct : cS (ts.take (j + 1)) = cS (ts.take j) + (1 + cS txs) := by rw [tk ts j _ ht, cS_snoc, cT_node]
      have hctl := cS_take ts (j + 1)
      have HCT := Lib.hid hct
      have hcx : c + 3 + 3 * cS txs ≤ 2305843009213693952 := by have := HC.out; have := HKC.out; omega
      have htl2 : txs.length ≤ 2305843009213693952 := by have := len_cS txs; omega
      clear hct hctl
      have hgs : g < wr.heap.size := by have := HO.out.2.2.2.1; omega
      have hRs : Hid (∀ i, R i ≤ wr.heap.size) := Lib.hid (fun i => by have := HRR.out i; have := HO.out.2.2.2.1; omega)
      have HT := Lib.hid ht; clear ht
      obtain ⟨⟨o0, g0⟩, f0⟩ := HR.out.cells hlt 0 (by omega)
      obtain ⟨⟨o1, g1⟩, f1⟩ := HR.out.cells hlt 1 (by omega)
      rw [Nat.add_zero] at g0 f0
      have s0 := HR.out.store (q := 0) HG.out (by omega) hlt (v := .int .i64 (c : Int)) (by rw [HC.out]; rfl)
      rw [Nat.add_zero] at s0
      have s1 := s0.store (q := 1) HG.out (by omega) hlt (v := .int .i64 ((c : Int) + 1)) (by rw [HC.out]; rfl)
      have HS1 := Lib.hid s1; clear s0 s1
      have HO1 := Lib.hid (HO.out.trans ((Out.set (lo := lo) (hi := hi) wr g (j * 4) (.int .i64 (c : Int)) h1 h2).trans (Out.set _ g (j * 4 + 1) (.int .i64 ((c : Int) + 1)) h1 h2)))
      go_wp2_with fail
      refine (markText_int _ (c + 2) _ (by omega) (by omega) (by omega)).mono ?_
      rintro e w1 ⟨rfl, hb1⟩
      have HS2 := Lib.hid (HS1.out.below hb1 (fun i => by have := hRs.out i; simpa using this))
      have hw1 : wr.heap.size ≤ w1.heap.size := by have := hb1.size; simpa [World.setCell] using this
      have HO2 := Lib.hid (HO1.out.trans (Out.of_below hb1)); clear hb1 g0 g1 f0 f1
      obtain ⟨⟨o2, g2⟩, f2⟩ := HS2.out.cells hlt 2 (by omega)
      have HS3 := Lib.hid (HS2.out.store (q := 2) HG.out (by omega) hlt (v := .string (mark (c + 2))) (by rw [HC.out]; rfl))
      have HO3 := Lib.hid (HO2.out.trans (Out.set (lo := lo) (hi := hi) w1 g (j * 4 + 2) (.string (mark (c + 2))) h1 h2))
      obtain ⟨ca, hoa⟩ := HS3.out.args hlt HT.out
      have hsz : w1.heap.size = (w1.setCell ⟨g, j * 4 + 2, none⟩ (.string (mark (c + 2)))).heap.size := by simp [World.setCell]
      have hcall := HM0.out (U j) txs (L j) (R j) (c + 3) _ hoa (by have := hRs.out j; omega) (by omega) (by omega)
      obtain ⟨ua, uc, hu⟩ := hoa.slice
      rw [hu] at ca hcall
      clear hoa
      have HUE := Lib.hid hu; clear hu
      have HCALL := Lib.hid hcall; clear hcall
      go_wp2_with fail
      have hcast : ((c : Int) + 1 + 1 + 1) = ((c + 3 : Nat) : Int) := by omega
      rw [hcast]
      refine HCALL.out.mono ?_
      rintro e w2 ⟨⟨rfl, ho2⟩, hp2⟩
      have HR4 := Lib.hid (HS3.out.child ho2 HG.out (by omega) (fun i => by have := hRs.out i; omega) HDD.out HT.out (by rw [HUE.out, ← HC.out]; exact hp2))
      have HO4 := Lib.hid (HO3.out.trans (ho2.wide (HL.out j) (HRR.out j))); clear ho2 hp2
      have HC4 : Hid (c + 3 + 3 * cS txs = k + 3 * cS (ts.take (j + 1))) := Lib.hid (by have := HC.out; have := HCT.out; omega)
      go_wp2
      go_roundw
      case rel => exact ⟨j + 1, c + 3 + 3 * cS txs, by omega, by go_num, rfl, HC4, HR4, HO4⟩
      case measure => simp [intOf]; omega
    · have HD : Hid (c = k + 3 * cS ts) := Lib.hid (by
        have hjm : j = ts.length := by have := HM.out; omega
        rw [HC.out, hjm, List.take_length])
      have hjm : j = m := by omega
      have HF := Lib.hid ((hjm ▸ HR.out).done (lo := lo) (hi := hi) HM.out (by unfold maxLen; omega) HKC.out h1 h2 HL.out HRR.out)
      go_wp2
      go_ret
      exact ⟨⟨by rw [← HD.out]; rfl, HO.out⟩, HF.out⟩

theorem markP_any : ∀ h, MarkPAt h
  | 0 => by
    rintro u ts lo hi k w ⟨rfl, a, cap, rfl⟩ hhi hk hkc
    exact markP_empty lo hi k 0 a cap w
  | h + 1 => by
    rintro u ts lo hi k w ⟨a, cap, rfl, hc⟩ hhi hk hkc
    by_cases hn : ts = []
    · subst hn
      exact markP_empty lo hi k (h + 1) a cap w
    · obtain ⟨g, xs, U, L, R, rfl, h1, h2, ho, hx, hd⟩ := hc.resolve_left hn
      have hin : ∀ i, i < ts.length → lo ≤ L i ∧ R i ≤ hi ∧ (g < L i ∨ R i ≤ g) := fun i hi' => by
        obtain ⟨t, ht⟩ : ∃ t, ts[i]? = some t := ⟨_, List.getElem?_eq_getElem hi'⟩
        obtain ⟨kk, nn, s, txs⟩ := t
        obtain ⟨_, l1, l2, l3, _⟩ := hx i kk nn s txs ht
        exact ⟨l1, l2, l3⟩
      refine markP_some (markP_any h) g cap ts U (fun i => if i < ts.length then L i else lo) (fun i => if i < ts.length then R i else lo) lo hi k w ⟨xs, ho, fun i kk nn s txs _ ht => ?_, fun i _ _ _ _ hi' => by omega, fun p hp => by omega⟩ h1 h2 hhi ?_ ?_ ?_ ?_ hk hkc
      · have hi' := (List.getElem?_eq_some_iff.1 ht).1
        obtain ⟨x3, _, _, _, hr⟩ := hx i kk nn s txs ht
        exact ⟨x3, by simpa [hi'] using hr⟩
      · intro i
        by_cases hi' : i < ts.length
        · simpa [hi'] using (hin i hi').2.2
        · simp [hi']; omega
      · intro i
        by_cases hi' : i < ts.length
        · simpa [hi'] using (hin i hi').1
        · simp [hi']
      · intro i
        by_cases hi' : i < ts.length
        · simpa [hi'] using (hin i hi').2.1
        · simp [hi']; omega
      · intro i j hij hj
        have hi' : i < ts.length := by omega
        simpa [hi', hj] using hd i j hij hj

set_option maxRecDepth 100000 in
set_option maxHeartbeats 800000 in
/-- laws.markTerm, at a term whose rows are the call's own. -/
theorem markPT_any (kk nn : Int) (s : ByteArray) (u : Value) (xs : List T) (h lo hi k : Nat) (w : World) (ho : OwnA w h lo hi u xs) (hhi : hi ≤ w.heap.size) (hk : 1 ≤ k) (hkc : k + 3 * cS xs ≤ 2305843009213693952) :
    Calls Try.prog 42 #[tv kk nn s u, .int .i64 k] w (MarkP lo hi k h u xs w) := by
  have hob : OwnA (boxed w kk nn s u) h lo hi u xs := ho.keep fun b b1 b2 => (boxed_below w kk nn s u).block b (by omega)
  have hsz := (boxed_below w kk nn s u).size
  have hcall := markP_any h u xs lo hi k _ hob (by omega) hk hkc
  have HO := Lib.hid (Out.of_below (lo := lo) (hi := hi) (boxed_below w kk nn s u))
  obtain ⟨a, cap, rfl⟩ := ho.slice
  clear ho hob
  have HCALL := Lib.hid hcall; clear hcall
  go_enter Try.func42, Try.ntmps42
  go_wp2_with fail
  refine HCALL.out.mono ?_
  rintro e w1 ⟨⟨rfl, ho1⟩, hp1⟩
  have HO1 := Lib.hid (HO.out.trans ho1); clear ho1
  have HP1 := Lib.hid hp1; clear hp1
  go_wp2
  go_ret
  exact ⟨⟨rfl, HO1.out⟩, HP1.out⟩
end Go.Proofs.Ytkgpkphacjjlgaa
namespace Go.Proofs.Ytkgpkphacjjlgaa
open Go.RowKit

/-- The pointer to a node. -/
abbrev pP (p : Pd) : Value := .pointer (some ⟨p.b, p.o, none⟩)
/-- How many terms are still to do. -/
def todo (ps : List Pd) : Nat := (ps.map fun p => 1 + cS p.xs).sum
theorem todo_cons (p : Pd) (ps : List Pd) : todo (p :: ps) = 1 + cS p.xs + todo ps := by simp [todo]
theorem todo_app (ps qs : List Pd) : todo (ps ++ qs) = todo ps + todo qs := by simp [todo]
theorem todo_kids (g h : Nat) (U : Nat → Value) (xs : List T) (j : Nat) (hj : j ≤ xs.length) : todo (kidL g h U (fun i => ((xs[i]?).map kT).getD []) j) = cS (xs.take j) := by
  induction j with
  | zero => simp [kidL, todo, cS]
  | succ j ih =>
    obtain ⟨t, ht⟩ : ∃ t, xs[j]? = some t := ⟨_, List.getElem?_eq_getElem (by omega)⟩
    rw [kidL, todo_cons, ih (by omega), tk xs j t ht, cS_snoc, cT_kT]
    simp [kid, ht]; omega
theorem todo_len (ps : List Pd) : ps.length ≤ todo ps := by
  induction ps with
  | nil => simp [todo]
  | cons p ps ih => rw [todo_cons, List.length_cons]; omega

/-- A row of the call's own, cut short. -/
theorem own_front {w : World} {B n k cap : Nat} {e : TypeId} {a : Option Addr} {xs ys : List Value} (h : w.ownsRow B e 1 (.slice a n cap) n (xs ++ ys)) (hk : xs.length = k) (hx : ys ≠ []) : w.ownsRow B e 1 (.slice a k cap) k xs := by
  have hl := h.1
  rw [List.length_append, Nat.mul_one] at hl
  refine ⟨by omega, ?_⟩
  rcases h.2 with ⟨e1, h0⟩ | ⟨g, c, cur, e1, hb, hg, hc, hm, hs, ht⟩
  · exfalso
    have : ys.length ≠ 0 := fun e => hx (List.eq_nil_of_length_eq_zero e)
    omega
  · simp only [Value.slice.injEq] at e1
    obtain ⟨rfl, _, rfl⟩ := e1
    refine Or.inr ⟨g, cap, cur, rfl, hb, hg, by omega, hm, hs, ?_⟩
    have h2 := congrArg (List.take k) ht
    rw [List.take_take, List.take_left' hk] at h2
    rw [← h2]; congr 1; omega

/-- The node's arguments were copied, and all of them are put behind what is still to do. -/
theorem good_push {w0 : World} {Pb : Nat → Prop} {Fin : World → Prop} {ps : List Pd} {p : Pd} {v v1 vi : Value} {w wc wi : World} {a : Option Addr} {m c g : Nat} {vs : List Value}
    (cont : ∀ v' w' u', Done p v w v' w' u' → GoodW w0 Pb Fin ps v' w') (hp : p.b < w.heap.size) (hpo : NotOwn v p.b) (hl : p.xs.length ≤ maxLen) (hm : m = p.xs.length) (hv1 : v1.ownBlock = v.ownBlock) (hvl : ∀ k, v.ownBlock = some k → k < w.heap.size)
    (hb : Below w.heap.size w wc) (ho : wc.ownsRow w.heap.size 29 4 (.slice a m c) m vs) (hg : m = 0 ∨ a = some ⟨g, 0, none⟩) (hPg : ∀ b, w.heap.size ≤ b → Pb b)
    (hr : RowV w0 (p.h - 1) p.xs vs) (hh : p.h = 0 → p.xs = []) (hG : Grew v1 (wc.setCell ⟨p.b, p.o + 3, none⟩ (.slice a m c)) vi wi) :
    GoodW w0 Pb Fin (kidL g (p.h - 1) (fun i => (vs[i * 4 + 3]?).getD undef) (fun i => ((p.xs[i]?).map kT).getD []) m ++ ps) vi wi := by
  obtain ⟨s1, k1, o1⟩ := hG
  have hz : (wc.setCell ⟨p.b, p.o + 3, none⟩ (.slice a m c)).heap.size = wc.heap.size := by simp [World.setCell]
  rw [hz] at s1 k1 o1
  have hws := hb.size
  rw [hv1] at o1
  have hn1 : ∀ b, NotOwn v b → NotOwn v1 b := fun b h => by unfold NotOwn at *; rw [hv1]; exact h
  have hnv : ∀ b, w.heap.size ≤ b → NotOwn v b := fun b h e => by have := hvl b e.symm; omega
  have size : w.heap.size ≤ wi.heap.size := by omega
  have keep : ∀ b, b < w.heap.size → b ≠ p.b → NotOwn v b → wi.heap[b]? = w.heap[b]? := fun b h1 h2 h3 =>
    (k1 b (by omega) (hn1 b h3)).trans ((Below.heap_setCell _ _ _ _ (fun e => h2 (by simpa using e))).trans (hb.block b h1))
  have cell : wi.heap[p.b]? = (w.setCell ⟨p.b, p.o + 3, none⟩ (.slice a m c)).heap[p.b]? :=
    (k1 p.b (by omega) (hn1 _ hpo)).trans (setCell_heap (ad := ⟨p.b, p.o + 3, none⟩) (hb.block p.b hp))
  have ob : vi.ownBlock = v.ownBlock ∨ ∃ k, vi.ownBlock = some k ∧ w.heap.size ≤ k := by
    rcases o1 with o1 | ⟨k, e, hk⟩
    · exact Or.inl o1
    · exact Or.inr ⟨k, e, by omega⟩
  by_cases h0 : m = 0
  · have hx : p.xs = [] := List.eq_nil_of_length_eq_zero (by omega)
    subst h0
    exact cont vi wi _ ⟨size, keep, cell, ob, by rw [hx]; exact OwnR.nil _ _ _ _ _ _ _⟩
  · have ha : a = some ⟨g, 0, none⟩ := hg.resolve_left h0
    subst ha
    have hlt := ho.lt g rfl
    obtain ⟨h', hh'⟩ : ∃ h', p.h = h' + 1 := ⟨p.h - 1, by
      have : p.h ≠ 0 := fun e => h0 (by rw [hm, hh e]; rfl)
      omega⟩
    rw [show p.h - 1 = h' by omega] at hr ⊢
    refine GoodW.kids (cap := c) cont hlt.1 (hPg g hlt.1) hp hpo hl hh' (fun i k n s txs hi => ?_) m vi wi (by omega) ⟨size, keep, by rw [← hm]; exact cell, ob, by omega, notOwn_old (n := wc.heap.size) o1 hlt.2 (hnv g hlt.1), ?_⟩
    · obtain ⟨_, a', m', cap', _, _, _, x3, ha⟩ := hr.at i k n s txs hi
      simp only [hi, Option.map_some, Option.getD_some, x3]
      exact ⟨rfl, ha⟩
    · have hrow1 : (wc.setCell ⟨p.b, p.o + 3, none⟩ (.slice (some ⟨g, 0, none⟩) m c)).ownsRow w.heap.size 29 4 (.slice (some ⟨g, 0, none⟩) m c) m vs := row_keep ho (Below.heap_setCell _ _ _ _ (fun e => by simp at e; omega))
      have hrow2 := row_keep hrow1 (w' := wi) (k1 g hlt.2 (hn1 _ (hnv g hlt.1)))
      have hrow3 : wi.ownsRow g 29 4 (.slice (some ⟨g, 0, none⟩) m c) m vs := by
        refine ⟨hrow2.1, ?_⟩
        rcases hrow2.2 with ⟨e, _⟩ | ⟨g', cap', cur, e, _, rest⟩
        · cases e
        · cases e
          exact Or.inr ⟨g, c, cur, rfl, Nat.le_refl _, rest⟩
      refine ⟨vs, fun _ => undef, fun _ => 0, fun _ => 0, by rw [← hm]; exact hrow3, fun i k n s txs hi => ?_, fun i i' h1 h2 h3 => by omega⟩
      obtain ⟨hs, a', m', cap', x0, x1, x2, x3, _⟩ := hr.at i k n s txs hi
      have hil := (List.getElem?_eq_some_iff.1 hi).1
      exact ⟨⟨hs, x0, x1, x2⟩, fun _ => by simp [x3], fun hle => by omega⟩

/-- A copy whose rows are the call's own, and apart. -/
def CopyR (h : Nat) (t : T) (w : World) (e : Ending) (w' : World) : Prop :=
  ∃ k n s u xs, e = .returned (tv k n s u) ∧ t = .node k n s xs ∧ s.size ≤ maxLen ∧ OwnR (fun _ => True) w' h w.heap.size w'.heap.size u xs ∧ Below w.heap.size w w'
end Go.Proofs.Ytkgpkphacjjlgaa
namespace Go.Proofs.Ytkgpkphacjjlgaa
open Go.RowKit

theorem OwnR.more {Q : Nat → Prop} {w : World} : ∀ {h lo hi : Nat} {u : Value} {ts : List T}, OwnR Q w h lo hi u ts → OwnR Q w (h + 1) lo hi u ts
  | 0, _, _, _, _, ⟨e, a, cap, e2⟩ => by subst e; exact ⟨a, cap, e2, Nat.zero_le _, Or.inl rfl⟩
  | h + 1, lo, hi, u, ts, ⟨a, cap, e, hl, hc⟩ => by
    refine ⟨a, cap, e, hl, ?_⟩
    rcases hc with hc | ⟨g, xs, U, L, R, ea, hq, h1, h2, ho, hx, hd⟩
    · exact Or.inl hc
    · refine Or.inr ⟨g, xs, U, L, R, ea, hq, h1, h2, ho, fun i k n s txs hi => ?_, hd⟩
      obtain ⟨c, x3, l1, l2, l3, hr⟩ := hx i k n s txs hi
      exact ⟨c, x3, l1, l2, l3, hr.more⟩
theorem OwnR.le {Q : Nat → Prop} {w : World} {h h' lo hi : Nat} {u : Value} {ts : List T} (k : OwnR Q w h lo hi u ts) (hle : h ≤ h') : OwnR Q w h' lo hi u ts := by
  induction hle with
  | refl => exact k
  | step _ ih => exact ih.more

/-- What an append to a slice leaves. -/
structure Snoc (lo0 : Nat) (w : World) (u : Value) (m : Nat) (ys cs : List Value) (w' : World) (u' : Value) : Prop where
  size : w.heap.size ≤ w'.heap.size
  keep : ∀ b, b < w.heap.size → NotOwn u b → w'.heap[b]? = w.heap[b]?
  new : w'.ownsRow lo0 29 4 u' (m + 1) (ys ++ cs)
  ob : u'.ownBlock = u.ownBlock ∨ ∃ k, u'.ownBlock = some k ∧ w.heap.size ≤ k

/-- One argument more. -/
theorem OwnR.row {w : World} {lo0 lo hi H : Nat} {u : Value} {txs : List T} (ho : OwnR (fun _ => True) w (H + 1) lo hi u txs) (h0 : lo0 ≤ lo) (hn : txs = [] → u = .slice none 0 0) (hhi : hi ≤ w.heap.size) (hlw : lo ≤ w.heap.size) (hm : txs.length + 1 ≤ maxLen) :
    ∃ ys, w.ownsRow lo0 29 4 u txs.length ys ∧ (∀ j, u.ownBlock = some j → lo ≤ j ∧ j < hi) ∧
      ∀ w' u' ka na sa ua axs La Ra, Snoc lo0 w u txs.length ys [.int .i64 ka, .int .i64 na, .string sa, ua] w' u' → sa.size ≤ maxLen → lo ≤ La → hi ≤ La → Ra ≤ w.heap.size → OwnR (fun _ => True) w H La Ra ua axs →
        OwnR (fun _ => True) w' (H + 1) lo w'.heap.size u' (txs ++ [.node ka na sa axs]) := by
  have hrow : ∃ ys, w.ownsRow lo0 29 4 u txs.length ys ∧ (∀ j, u.ownBlock = some j → lo ≤ j ∧ j < hi) ∧ ∃ (V : Nat → Value) (L' R' : Nat → Nat),
      (∀ i kk nn s' tx, txs[i]? = some (T.node kk nn s' tx) → (s'.size ≤ maxLen ∧ ys[i * 4]? = some (.int .i64 kk) ∧ ys[i * 4 + 1]? = some (.int .i64 nn) ∧ ys[i * 4 + 2]? = some (.string s')) ∧ ys[i * 4 + 3]? = some (V i) ∧ (lo ≤ L' i ∧ R' i ≤ hi) ∧ (∀ j, u.ownBlock = some j → j < L' i ∨ R' i ≤ j) ∧ OwnR (fun _ => True) w H (L' i) (R' i) (V i) tx) ∧
      (∀ i j, i < j → j < txs.length → R' i ≤ L' j ∨ R' j ≤ L' i) := by
    by_cases ht : txs = []
    · subst ht
      rw [hn rfl]
      exact ⟨[], ⟨rfl, Or.inl ⟨rfl, rfl⟩⟩, fun j e => by simp [Value.ownBlock] at e, fun _ => undef, fun _ => 0, fun _ => 0, fun i _ _ _ _ hi => by simp at hi, fun i j _ h2 => by simp at h2⟩
    · obtain ⟨a, cap, e, hle, hc⟩ := ho
      obtain ⟨g, ys, V, L', R', rfl, hq, h1, h2, how, hxx, hdd⟩ := hc.resolve_left ht
      have how' := how
      rw [e] at how'
      refine ⟨ys, own_low how (by omega), fun j ej => ?_, V, L', R', fun i kk nn s' tx hi => ?_, hdd⟩
      · rw [e] at ej; simp [Value.ownBlock] at ej; subst ej; exact ⟨h1, h2⟩
      · obtain ⟨cc, y3, l1, l2, l3, hr⟩ := hxx i kk nn s' tx hi
        exact ⟨cc, y3, ⟨l1, l2⟩, fun j ej => by rw [e] at ej; simp [Value.ownBlock] at ej; subst ej; exact l3, hr⟩
  obtain ⟨ys, how, hnv, V, L', R', hxx, hdd⟩ := hrow
  refine ⟨ys, how, hnv, fun w' u' ka na sa ua axs La Ra A hsa hLl hLa hRa hoa => ?_⟩
  have hyl : ys.length = txs.length * 4 := how.1
  have hsz := A.size
  have hkb : ∀ b, b < w.heap.size → (∀ j, u.ownBlock = some j → b ≠ j) → w'.heap[b]? = w.heap[b]? := fun b hb h2 => A.keep b hb (fun e => h2 b e.symm rfl)
  obtain ⟨g', cap', rfl⟩ : ∃ g' cap', u' = .slice (some ⟨g', 0, none⟩) (txs.length + 1) cap' := by
    rcases A.new.2 with ⟨_, h0⟩ | ⟨g, c, cur, e, _⟩
    · omega
    · exact ⟨g, c, e⟩
  have hg' : u.ownBlock = some g' ∨ w.heap.size ≤ g' := by
    rcases A.ob with e | ⟨j, e, hj⟩
    · exact Or.inl e.symm
    · simp [Value.ownBlock] at e; subst e; exact Or.inr hj
  have hg'lt : g' < w'.heap.size := (A.new.lt g' rfl).2
  have hg'lo : lo ≤ g' := by
    rcases hg' with e | e
    · exact (hnv g' e).1
    · omega
  refine ⟨_, cap', by simp, by simpa using hm, Or.inr ⟨g', ys ++ [.int .i64 ka, .int .i64 na, .string sa, ua], fun i => if i = txs.length then ua else V i, fun i => if i = txs.length then La else L' i, fun i => if i = txs.length then Ra else R' i, rfl, trivial, hg'lo, hg'lt, ?_, fun i kk nn s' tx hi => ?_, fun i j h1 h2 => ?_⟩⟩
  · rw [List.length_append, List.length_singleton]
    refine ⟨A.new.1, ?_⟩
    rcases A.new.2 with ⟨_, h0⟩ | ⟨g, c, cur, e, hb, rest⟩
    · omega
    · cases e; exact Or.inr ⟨g', cap', cur, rfl, Nat.le_refl _, rest⟩
  · rcases Nat.lt_trichotomy i txs.length with hlt | hlt | hlt
    · rw [List.getElem?_append_left hlt] at hi
      obtain ⟨⟨d0, d1, d2, d3⟩, y3, l1, l3, hr⟩ := hxx i kk nn s' tx hi
      have e : i ≠ txs.length := by omega
      simp only [if_neg e]
      refine ⟨⟨d0, ?_, ?_, ?_⟩, ?_, l1.1, by omega, ?_, hr.keep fun b hb b1 b2 => ⟨hkb b (by omega) fun j ej ebj => ?_, trivial⟩⟩
      · rw [List.getElem?_append_left (by omega)]; exact d1
      · rw [List.getElem?_append_left (by omega)]; exact d2
      · rw [List.getElem?_append_left (by omega)]; exact d3
      · rw [List.getElem?_append_left (by omega)]; exact y3
      · rcases hg' with eg | eg
        · exact l3 g' eg
        · exact Or.inr (by omega)
      · have := l3 j ej; omega
    · subst hlt
      simp only [List.getElem?_concat_length, Option.some.injEq, T.node.injEq] at hi
      obtain ⟨rfl, rfl, rfl, rfl⟩ := hi
      simp only [if_true]
      refine ⟨⟨hsa, ?_, ?_, ?_⟩, ?_, by omega, by omega, ?_, hoa.keep fun b hb b1 b2 => ⟨hkb b (by omega) fun j ej ebj => ?_, trivial⟩⟩
      · rw [List.getElem?_append_right (by omega), hyl, Nat.sub_self]; rfl
      · rw [List.getElem?_append_right (by omega), hyl, show txs.length * 4 + 1 - txs.length * 4 = 1 by omega]; rfl
      · rw [List.getElem?_append_right (by omega), hyl, show txs.length * 4 + 2 - txs.length * 4 = 2 by omega]; rfl
      · rw [List.getElem?_append_right (by omega), hyl, show txs.length * 4 + 3 - txs.length * 4 = 3 by omega]; rfl
      · rcases hg' with eg | eg
        · have := (hnv g' eg).2; exact Or.inl (by omega)
        · exact Or.inr (by omega)
      · have := (hnv j ej).2; omega
    · rw [List.getElem?_eq_none (by simp; omega)] at hi; cases hi
  · rw [List.length_append, List.length_singleton] at h2
    have e : i ≠ txs.length := by omega
    simp only [if_neg e]
    by_cases e2 : j = txs.length
    · simp only [if_pos e2]
      obtain ⟨t, ht⟩ : ∃ t, txs[i]? = some t := ⟨_, List.getElem?_eq_getElem (by omega)⟩
      obtain ⟨k1, n1, s1, x1⟩ := t
      obtain ⟨_, _, l1, _, _⟩ := hxx i k1 n1 s1 x1 ht
      exact Or.inl (by omega)
    · simp only [if_neg e2]; exact hdd i j h1 (by omega)
end Go.Proofs.Ytkgpkphacjjlgaa
namespace Go.Proofs.Ytkgpkphacjjlgaa
open Go.RowKit

/-- The variables are changed: by its name one becomes a term, or gets another name. -/
def mapT (F : ByteArray → Option T) (R : ByteArray → ByteArray) : T → T
  | .node k n s xs => if k = 1 then (match F s with | some t => t | none => .node k n (R s) (xs.map (mapT F R))) else .node k n s (xs.map (mapT F R))
theorem mapT_node (F : ByteArray → Option T) (R : ByteArray → ByteArray) (k n : Int) (s : ByteArray) (xs : List T) : mapT F R (.node k n s xs) = if k = 1 then (match F s with | some t => t | none => .node k n (R s) (xs.map (mapT F R))) else .node k n s (xs.map (mapT F R)) := by rw [mapT]

theorem set_id_heap {w : World} {ad : Addr} {v : Value} (h : w.cell? ad = some v) : (w.setCell ad v).heap = w.heap := by
  unfold World.setCell
  apply Array.ext_getElem?
  intro i
  rw [Array.getElem?_modify]
  by_cases hi : ad.block = i
  · subst hi
    rw [if_pos rfl]
    unfold World.cell? at h
    cases hb : w.heap[ad.block]? with
    | none => rfl
    | some o =>
      rw [hb] at h
      cases o with
      | cells c elem frozen =>
        simp only [Option.map_some]
        cases hs : ad.spot with
        | some x => simp
        | none =>
          simp only [hs, Option.isSome_none, Bool.false_eq_true, if_false] at h ⊢
          congr 2
          apply Array.ext_getElem?
          intro j
          rw [Array.getElem?_setIfInBounds]
          by_cases hj : ad.off = j
          · subst hj
            have hlt := (Array.getElem?_eq_some_iff.1 h).1
            rw [if_pos rfl, if_pos hlt, h]
          · rw [if_neg hj]
      | _ => rfl
  · rw [if_neg hi]
theorem set_id {w : World} {ad : Addr} {v : Value} (h : w.cell? ad = some v) : w.setCell ad v = w := by
  have e := set_id_heap h
  calc w.setCell ad v = { w with heap := (w.setCell ad v).heap } := rfl
    _ = w := by rw [e]
theorem lset4 {xs : List Value} {a p : Nat} {v0 v1 v2 v3 : Value} (h0 : a ≠ p) (h1 : a + 1 ≠ p) (h2 : a + 2 ≠ p) (h3 : a + 3 ≠ p) :
    ((((xs.set a v0).set (a + 1) v1).set (a + 2) v2).set (a + 3) v3)[p]? = xs[p]? := by
  rw [List.getElem?_set_ne h3, List.getElem?_set_ne h2, List.getElem?_set_ne h1, List.getElem?_set_ne h0]

/-- The four cells of a node. -/
abbrev cellsQ (w : World) (b o : Nat) (k n : Int) (s : ByteArray) (u : Value) : World :=
  (((w.setCell ⟨b, o, none⟩ (.int .i64 k)).setCell ⟨b, o + 1, none⟩ (.int .i64 n)).setCell ⟨b, o + 2, none⟩ (.string s)).setCell ⟨b, o + 3, none⟩ u
theorem setCell_heap' {w w' : World} {b o : Nat} {x : Value} (h : w'.heap[b]? = w.heap[b]?) : (w'.setCell ⟨b, o, none⟩ x).heap[b]? = (w.setCell ⟨b, o, none⟩ x).heap[b]? := setCell_heap (ad := ⟨b, o, none⟩) h
theorem cellsQ_heap {w w' : World} {b o : Nat} {k n : Int} {s : ByteArray} {u : Value} (h : w'.heap[b]? = w.heap[b]?) : (cellsQ w' b o k n s u).heap[b]? = (cellsQ w b o k n s u).heap[b]? :=
  setCell_heap' (setCell_heap' (setCell_heap' (setCell_heap' h)))
theorem cellsQ_head {w : World} {b o : Nat} {k n : Int} {s : ByteArray} {u : Value} (h0 : w.cell? ⟨b, o, none⟩ = some (.int .i64 k)) (h1 : w.cell? ⟨b, o + 1, none⟩ = some (.int .i64 n)) : cellsQ w b o k n s u = (w.setCell ⟨b, o + 2, none⟩ (.string s)).setCell ⟨b, o + 3, none⟩ u := by
  unfold cellsQ
  rw [set_id h0, set_id h1]

/-- A node that is still to be changed: where it lies, what its cells hold, its arguments. -/
structure Pv where
  b : Nat
  o : Nat
  h : Nat
  k : Int
  n : Int
  s : ByteArray
  u : Value
  xs : List T

/-- The node was changed: only its cells have turned, beside the slice v of what is still to do, which may have moved; its arguments lie in new blocks. -/
structure DoneM (f : T → T) (D : Nat) (p : Pv) (v : Value) (w : World) (v' : Value) (w' : World) : Prop where
  size : w.heap.size ≤ w'.heap.size
  keep : ∀ b, b < w.heap.size → b ≠ p.b → NotOwn v b → w'.heap[b]? = w.heap[b]?
  ob : v'.ownBlock = v.ownBlock ∨ ∃ k, v'.ownBlock = some k ∧ w.heap.size ≤ k
  res : ∃ k n s u xs, f (.node p.k p.n p.s p.xs) = .node k n s xs ∧ s.size ≤ maxLen ∧ w'.heap[p.b]? = (cellsQ w p.b p.o k n s u).heap[p.b]? ∧ OwnR (NotOwn v') w' (p.h + D) w.heap.size w'.heap.size u xs

/-- The node's cells. -/
structure NodeC (w : World) (b o : Nat) (k n : Int) (s : ByteArray) (u : Value) : Prop where
  c0 : w.cell? ⟨b, o, none⟩ = some (.int .i64 k)
  c1 : w.cell? ⟨b, o + 1, none⟩ = some (.int .i64 n)
  c2 : w.cell? ⟨b, o + 2, none⟩ = some (.string s)
  c3 : w.cell? ⟨b, o + 3, none⟩ = some u
  f0 : w.frozen? ⟨b, o, none⟩ = false
  f1 : w.frozen? ⟨b, o + 1, none⟩ = false
  f2 : w.frozen? ⟨b, o + 2, none⟩ = false
  f3 : w.frozen? ⟨b, o + 3, none⟩ = false

/-- What is still to do, the next one first, is worth Fin: once all of it is done, Fin holds. -/
def GoodM (f : T → T) (D : Nat) (w0 : World) (Pb : Nat → Prop) (Fin : World → Prop) : List Pv → Value → World → Prop
  | [], _, w => Fin w
  | p :: ps, v, w => (NodeC w p.b p.o p.k p.n p.s p.u ∧ wT (.node p.k p.n p.s p.xs) ≤ 4194303 ∧ Pb p.b ∧ p.b < w.heap.size ∧ NotOwn v p.b ∧ ArgsAt w0 0 p.h p.u p.xs) ∧ ∀ v' w', DoneM f D p v w v' w' → GoodM f D w0 Pb Fin ps v' w'

/-- What a row of arguments holds at its j-th. -/
structure Hd where
  k : Int
  n : Int
  s : ByteArray
  u : Value
  xs : List T
def kidM (g h : Nat) (U : Nat → Hd) (j : Nat) : Pv := ⟨g, j * 4, h, (U j).k, (U j).n, (U j).s, (U j).u, (U j).xs⟩
def kidsM (g h : Nat) (U : Nat → Hd) : Nat → List Pv
  | 0 => []
  | j + 1 => kidM g h U j :: kidsM g h U j

/-- A node whose row was copied, and whose arguments from j on are done. -/
structure MidM (f : T → T) (D : Nat) (p : Pv) (S : ByteArray) (v : Value) (w : World) (g cap h : Nat) (U : Nat → Hd) (j : Nat) (vj : Value) (wj : World) : Prop where
  size : w.heap.size ≤ wj.heap.size
  keep : ∀ b, b < w.heap.size → b ≠ p.b → NotOwn v b → wj.heap[b]? = w.heap[b]?
  cell : wj.heap[p.b]? = (cellsQ w p.b p.o p.k p.n S (.slice (some ⟨g, 0, none⟩) p.xs.length cap)).heap[p.b]?
  ob : vj.ownBlock = v.ownBlock ∨ ∃ k, vj.ownBlock = some k ∧ w.heap.size ≤ k
  gs : g < wj.heap.size
  gn : NotOwn vj g
  row : ∃ (ys : List Value) (V : Nat → Value) (L R : Nat → Nat), wj.ownsRow g 29 4 (.slice (some ⟨g, 0, none⟩) p.xs.length cap) p.xs.length ys ∧
    (∀ i, i < j → i < p.xs.length → ys[i * 4]? = some (.int .i64 (U i).k) ∧ ys[i * 4 + 1]? = some (.int .i64 (U i).n) ∧ ys[i * 4 + 2]? = some (.string (U i).s) ∧ ys[i * 4 + 3]? = some (U i).u) ∧
    (∀ i t, j ≤ i → p.xs[i]? = some t → ∃ k n s txs, f t = .node k n s txs ∧ (s.size ≤ maxLen ∧ ys[i * 4]? = some (.int .i64 k) ∧ ys[i * 4 + 1]? = some (.int .i64 n) ∧ ys[i * 4 + 2]? = some (.string s)) ∧ ys[i * 4 + 3]? = some (V i) ∧ g < L i ∧ w.heap.size ≤ L i ∧ R i ≤ wj.heap.size ∧ OwnR (NotOwn vj) wj (h + D) (L i) (R i) (V i) txs) ∧
    ∀ i i', j ≤ i → i < i' → i' < p.xs.length → R i' ≤ L i

theorem MidM.step {f : T → T} {D : Nat} {p : Pv} {S : ByteArray} {v : Value} {w : World} {g cap h : Nat} {U : Nat → Hd} {j : Nat} {vj : Value} {wj : World} {v' : Value} {w' : World} (m : MidM f D p S v w g cap h U (j + 1) vj wj) (d : DoneM f D (kidM g h U j) vj wj v' w')
    (hg : w.heap.size ≤ g) (hp : p.b < w.heap.size) (hpo : NotOwn v p.b) (hj : j < p.xs.length) (hX : ∀ i k n s txs, p.xs[i]? = some (.node k n s txs) → (U i).k = k ∧ (U i).n = n ∧ (U i).s = s ∧ (U i).xs = txs) : MidM f D p S v w g cap h U j v' w' := by
  obtain ⟨ys, V, L, R, ho, hlo, hhi, hd⟩ := m.row
  have hyl := ho.1
  have dk : ∀ b, b < wj.heap.size → b ≠ g → NotOwn vj b → w'.heap[b]? = wj.heap[b]? := d.keep
  have ms := m.size
  have ds := d.size
  obtain ⟨k', n', s', u', xs', ef, hs', hc', hown⟩ := d.res
  refine ⟨Nat.le_trans m.size d.size, fun b hb hne hno => ?_, ?_, ob_trans m.size m.ob d.ob, Nat.lt_of_lt_of_le m.gs d.size, notOwn_old d.ob m.gs m.gn, ?_⟩
  · exact (dk b (by omega) (by omega) (notOwn_old m.ob hb hno)).trans (m.keep b hb hne hno)
  · exact (dk p.b (by omega) (by omega) (notOwn_old m.ob hp hpo)).trans m.cell
  · have o1 := (ho.stored (j * 4) (.int .i64 k')).1
    have o2 := (o1.stored (j * 4 + 1) (.int .i64 n')).1
    have o3 := (o2.stored (j * 4 + 2) (.string s')).1
    have o4 := (o3.stored (j * 4 + 3) u').1
    have hrow := row_keep o4 (w' := w') (hc' : w'.heap[g]? = (cellsQ wj g (j * 4) k' n' s' u').heap[g]?)
    refine ⟨_, fun i => if i = j then u' else V i, fun i => if i = j then wj.heap.size else L i, fun i => if i = j then w'.heap.size else R i, hrow, fun i hi hil => ?_, fun i t hle hi => ?_, fun i i' h1 h2 h3 => ?_⟩
    · obtain ⟨x0, x1, x2, x3⟩ := hlo i (by omega) hil
      rw [lset4 (by omega) (by omega) (by omega) (by omega), lset4 (by omega) (by omega) (by omega) (by omega), lset4 (by omega) (by omega) (by omega) (by omega), lset4 (by omega) (by omega) (by omega) (by omega)]
      exact ⟨x0, x1, x2, x3⟩
    · have hil := (List.getElem?_eq_some_iff.1 hi).1
      by_cases e : i = j
      · subst e
        obtain ⟨tk, tn, tsn, txs⟩ := t
        obtain ⟨e1, e2, e3, e4⟩ := hX i tk tn tsn txs hi
        have e5 : f (.node tk tn tsn txs) = .node k' n' s' xs' := by rw [← ef, ← e1, ← e2, ← e3, ← e4]; rfl
        refine ⟨k', n', s', xs', e5, ⟨hs', ?_, ?_, ?_⟩, ?_, ?_⟩
        · simp [List.getElem?_set]; omega
        · simp [List.getElem?_set]; omega
        · simp [List.getElem?_set]; omega
        · simp [List.getElem?_set]; omega
        · simp only [if_true]
          exact ⟨m.gs, m.size, Nat.le_refl _, hown⟩
      · simp only [if_neg e]
        obtain ⟨k, n, s, txs, ef', ⟨hs, x0, x1, x2⟩, x3, l1, l2, l3, hr⟩ := hhi i t (by omega) hi
        refine ⟨k, n, s, txs, ef', ⟨hs, ?_, ?_, ?_⟩, ?_, l1, l2, by omega, hr.keep (fun b hb b1 b2 => ⟨dk b (by omega) (by omega) hb, notOwn_old d.ob (by omega) hb⟩)⟩
        · rw [lset4 (by omega) (by omega) (by omega) (by omega)]; exact x0
        · rw [lset4 (by omega) (by omega) (by omega) (by omega)]; exact x1
        · rw [lset4 (by omega) (by omega) (by omega) (by omega)]; exact x2
        · rw [lset4 (by omega) (by omega) (by omega) (by omega)]; exact x3
    · by_cases e : i = j
      · subst e
        have e2 : i' ≠ i := by omega
        simp only [if_true, if_neg e2]
        obtain ⟨t, ht⟩ : ∃ t, p.xs[i']? = some t := ⟨_, List.getElem?_eq_getElem h3⟩
        obtain ⟨_, _, _, _, _, _, _, _, _, l3, _⟩ := hhi i' t (by omega) ht
        exact l3
      · have e2 : i' ≠ j := by omega
        simp only [if_neg e, if_neg e2]
        exact hd i i' (by omega) h2 h3

theorem MidM.done {f : T → T} {D : Nat} {p : Pv} {S : ByteArray} {v : Value} {w : World} {g cap h : Nat} {U : Nat → Hd} {vj : Value} {wj : World} (m : MidM f D p S v w g cap h U 0 vj wj) (hg : w.heap.size ≤ g) (hl : p.xs.length ≤ maxLen) (hh : p.h = h + 1)
    (hS : S.size ≤ maxLen) (hf : f (.node p.k p.n p.s p.xs) = .node p.k p.n S (p.xs.map f)) : DoneM f D p v w vj wj := by
  obtain ⟨ys, V, L, R, ho, _, hhi, hd⟩ := m.row
  refine ⟨m.size, m.keep, m.ob, _, _, _, _, _, hf, hS, m.cell, ?_⟩
  rw [hh, show h + 1 + D = h + D + 1 by omega]
  have ho' := ho
  rw [show p.xs.length = (p.xs.map f).length by simp] at ho' ⊢
  refine ⟨_, cap, rfl, by simpa using hl, Or.inr ⟨g, ys, V, L, R, rfl, m.gn, hg, m.gs, ho', fun i k n s txs hi => ?_, fun i j h1 h2 => Or.inr (hd i j (Nat.zero_le _) h1 (by simpa using h2))⟩⟩
  rw [List.getElem?_map] at hi
  obtain ⟨t, ht, et⟩ := Option.map_eq_some_iff.1 hi
  obtain ⟨k', n', s', txs', ef, c, x3, l1, l2, l3, hr⟩ := hhi i t (Nat.zero_le _) ht
  rw [et] at ef
  cases ef
  exact ⟨c, x3, l2, l3, Or.inl l1, hr⟩

theorem GoodM.kids {f : T → T} {D : Nat} {w0 : World} {Pb : Nat → Prop} {Fin : World → Prop} {ps : List Pv} {p : Pv} {S : ByteArray} {v : Value} {w : World} {g cap h : Nat} {U : Nat → Hd}
    (cont : ∀ v' w', DoneM f D p v w v' w' → GoodM f D w0 Pb Fin ps v' w') (hg : w.heap.size ≤ g) (hn : Pb g) (hp : p.b < w.heap.size) (hpo : NotOwn v p.b) (hl : p.xs.length ≤ maxLen) (hh : p.h = h + 1)
    (hS : S.size ≤ maxLen) (hf : f (.node p.k p.n p.s p.xs) = .node p.k p.n S (p.xs.map f)) (hw : wT (.node p.k p.n p.s p.xs) ≤ 4194303)
    (hX : ∀ i k n s txs, p.xs[i]? = some (.node k n s txs) → (U i).k = k ∧ (U i).n = n ∧ (U i).s = s ∧ (U i).xs = txs ∧ ArgsAt w0 0 h (U i).u txs) :
    ∀ (j : Nat) (vj : Value) (wj : World), j ≤ p.xs.length → MidM f D p S v w g cap h U j vj wj → GoodM f D w0 Pb Fin (kidsM g h U j ++ ps) vj wj
  | 0, vj, wj, _, m => cont _ _ (m.done hg hl hh hS hf)
  | j + 1, vj, wj, hj, m => by
    obtain ⟨t, ht⟩ : ∃ t, p.xs[j]? = some t := ⟨_, List.getElem?_eq_getElem (by omega)⟩
    obtain ⟨k, n, s, txs⟩ := t
    obtain ⟨ys, V, L, R, ho, hlo, _, hd⟩ := m.row
    obtain ⟨x0, x1, x2, x3⟩ := hlo j (by omega) (by omega)
    have hyl := ho.1
    obtain ⟨e1, e2, e3, e4, hag⟩ := hX j k n s txs ht
    refine ⟨⟨⟨?_, ?_, ?_, ?_, ho.frozenAt _, ho.frozenAt _, ho.frozenAt _, ho.frozenAt _⟩, ?_, hn, m.gs, m.gn, ?_⟩, fun v' w' d => GoodM.kids cont hg hn hp hpo hl hh hS hf hw hX j v' w' (by omega) (m.step d hg hp hpo (by omega) (fun i k n s txs hi => by obtain ⟨a, b, c, d, _⟩ := hX i k n s txs hi; exact ⟨a, b, c, d⟩))⟩
    · show wj.cell? ⟨g, j * 4, none⟩ = _
      rw [ho.cellAt (j * 4) (by omega), x0]; rfl
    · show wj.cell? ⟨g, j * 4 + 1, none⟩ = _
      rw [ho.cellAt (j * 4 + 1) (by omega), x1]; rfl
    · show wj.cell? ⟨g, j * 4 + 2, none⟩ = _
      rw [ho.cellAt (j * 4 + 2) (by omega), x2]; rfl
    · show wj.cell? ⟨g, j * 4 + 3, none⟩ = _
      rw [ho.cellAt (j * 4 + 3) (by omega), x3]; rfl
    · show wT (.node (U j).k (U j).n (U j).s (U j).xs) ≤ 4194303
      rw [e1, e2, e3, e4]
      have h1 := wT_at p.xs j _ ht
      rw [wT_node] at hw
      omega
    · show ArgsAt w0 0 h (U j).u (U j).xs
      rw [e4]; exact hag
end Go.Proofs.Ytkgpkphacjjlgaa
