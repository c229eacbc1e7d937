/-
  laws.markTermS and laws.markTerm write numbered marks over the rows of a term that are a call's own, and nothing else turns; laws.heldTermS and laws.heldTerm find the marks there.
-/
import Derived.Test.YtidbokheeieifaaQ8
import Derived.Test.YtidbokheeieifaaQ5
namespace Go.Proofs.Ytidbokheeieifaa
open Go.RowKit

mutual
/-- A term over whose arguments, and itself, the marks from k on were written. -/
def mkT (k : Nat) : T → T
  | .node _ _ _ xs => .node (k : Int) ((k : Int) + 1) (mark (k + 2)) (mkS (k + 3) xs)
def mkS (k : Nat) : List T → List T
  | [] => []
  | t :: ts => mkT k t :: mkS (k + 3 * cT t) ts
end
theorem mkS_nil (k : Nat) : mkS k [] = [] := by rw [mkS]
theorem mkS_cons (k : Nat) (t : T) (ts : List T) : mkS k (t :: ts) = mkT k t :: mkS (k + 3 * cT t) ts := by rw [mkS]
theorem mkS_length (k : Nat) (ts : List T) : (mkS k ts).length = ts.length := by
  induction ts generalizing k with
  | nil => simp [mkS_nil]
  | cons t ts ih => rw [mkS_cons, List.length_cons, List.length_cons, ih]
theorem mkS_at (ts : List T) (k i : Nat) (t : T) (h : ts[i]? = some t) : (mkS k ts)[i]? = some (mkT (k + 3 * cS (ts.take i)) t) := by
  induction ts generalizing k i with
  | nil => simp at h
  | cons x ts ih =>
    rw [mkS_cons]
    cases i with
    | zero => simp at h; subst h; simp [cS]
    | succ i =>
      simp at h
      rw [List.getElem?_cons_succ, ih _ i h, List.take_succ_cons]
      have : cS (x :: ts.take i) = cT x + cS (ts.take i) := by simp [cS]
      rw [this, show k + 3 * cT x + 3 * cS (ts.take i) = k + 3 * (cT x + cS (ts.take i)) by omega]
theorem mkT_node (k : Nat) (kk nn : Int) (s : ByteArray) (xs : List T) : mkT k (.node kk nn s xs) = .node (k : Int) ((k : Int) + 1) (mark (k + 2)) (mkS (k + 3) xs) := by rw [mkT]
theorem mark_size (k : Nat) (h : k ≤ 2305843009213693952) : (mark k).size ≤ maxLen := by
  have l := decPos_length_le k (by omega)
  have : (mark k).size = 1 + (decPos k).length := by
    show ((109 : UInt8) :: decPos k).toArray.size = _
    simp; omega
  rw [this]; unfold maxLen; omega

/-- The mark of cell q of an element. -/
def mv (c : Nat) : Nat → Value
  | 0 => .int .i64 (c : Int)
  | 1 => .int .i64 ((c : Int) + 1)
  | _ => .string (mark (c + 2))

theorem cell_heap {w w' : World} {ad : Addr} (h : w'.heap[ad.block]? = w.heap[ad.block]?) : w'.cell? ad = w.cell? ad := by
  unfold World.cell?; rw [h]
theorem ArgsP.keepB {P : Nat → Prop} {w w' : World} {h : Nat} {u : Value} {ts : List T} (k : ArgsP P w h u ts) (hk : ∀ b, P b → b < w.heap.size → w'.heap[b]? = w.heap[b]?) : ArgsP P w' h u ts :=
  k.keep fun ad v hp hv => by rw [cell_heap (hk _ hp (World.block_lt_of_cell? w _ hv))]; exact hv

/-- Blocks from l to r. -/
abbrev In (l r : Nat) : Nat → Prop := fun b => l ≤ b ∧ b < r

/-- How far the marks of a row have come: all before element j, and q cells of it. -/
def MRow (h g m cap k j q : Nat) (ts : List T) (U : Nat → Value) (L R : Nat → Nat) (w : World) : Prop :=
  ∃ xs, w.ownsRow g 26 4 (.slice (some ⟨g, 0, none⟩) m cap) m xs ∧ (∀ i kk nn s txs, j ≤ i → ts[i]? = some (T.node kk nn s txs) → xs[i * 4 + 3]? = some (U i) ∧ OwnA w h (L i) (R i) (U i) txs) ∧
    (∀ i kk nn s txs, i < j → ts[i]? = some (T.node kk nn s txs) → (∀ p, p < 3 → xs[i * 4 + p]? = some (mv (k + 3 * cS (ts.take i)) p)) ∧ xs[i * 4 + 3]? = some (U i) ∧ ArgsP (In (L i) (R i)) w h (U i) (mkS (k + 3 * cS (ts.take i) + 3) txs)) ∧
    ∀ p, p < q → xs[j * 4 + p]? = some (mv (k + 3 * cS (ts.take j)) p)

theorem MRow.cells {h g m cap k j p : Nat} {ts : List T} {U : Nat → Value} {L R : Nat → Nat} {w : World} (c : MRow h g m cap k j p ts U L R w) {i : Nat} (hi : i < m) (q : Nat) (hq : q < 4) :
    (∃ v, w.cell? ⟨g, i * 4 + q, none⟩ = some v) ∧ w.frozen? ⟨g, i * 4 + q, none⟩ = false := by
  obtain ⟨xs, ho, _⟩ := c
  have hl := ho.1
  refine ⟨?_, ho.frozenAt _⟩
  rw [ho.cellAt (i * 4 + q) (by omega)]
  exact ⟨_, List.getElem?_eq_getElem (by omega)⟩
theorem MRow.args {h g m cap k j p : Nat} {ts : List T} {U : Nat → Value} {L R : Nat → Nat} {w : World} (c : MRow h g m cap k j p ts U L R w) {kk nn : Int} {s : ByteArray} {txs : List T} (hj : j < m) (ht : ts[j]? = some (T.node kk nn s txs)) :
    w.cell? ⟨g, j * 4 + 3, none⟩ = some (U j) ∧ OwnA w h (L j) (R j) (U j) txs := by
  obtain ⟨xs, ho, hx, _⟩ := c
  obtain ⟨h1, h2⟩ := hx j kk nn s txs (Nat.le_refl _) ht
  exact ⟨by rw [ho.cellAt (j * 4 + 3) (by omega)]; exact h1, h2⟩
/-- The next cell of element j. -/
theorem MRow.store {h g m cap k j q : Nat} {ts : List T} {U : Nat → Value} {L R : Nat → Nat} {w : World} (c : MRow h g m cap k j q ts U L R w) (hg : ∀ i, g < L i ∨ R i ≤ g) (hq : q < 3) (hj : j < m) {v : Value} (hv : v = mv (k + 3 * cS (ts.take j)) q) :
    MRow h g m cap k j (q + 1) ts U L R (w.setCell ⟨g, j * 4 + q, none⟩ v) := by
  obtain ⟨xs, ho, hx, hd, hp⟩ := c
  have hl := ho.1
  have hs : ∀ b, b ≠ g → (w.setCell ⟨g, j * 4 + q, none⟩ v).heap[b]? = w.heap[b]? := fun b hb => Below.heap_setCell _ _ _ _ (fun e => hb (by simpa using e))
  refine ⟨_, (ho.stored (j * 4 + q) v).1, fun i kk nn s txs hi ht => ?_, fun i kk nn s txs hi ht => ?_, fun p hp' => ?_⟩
  · obtain ⟨h1, h2⟩ := hx i kk nn s txs hi ht
    refine ⟨by rw [List.getElem?_set_ne (by omega)]; exact h1, h2.keep fun b b1 b2 => hs b (by have := hg i; omega)⟩
  · obtain ⟨h0, h1, h2⟩ := hd i kk nn s txs hi ht
    refine ⟨fun p hp => by rw [List.getElem?_set_ne (by omega)]; exact h0 p hp, by rw [List.getElem?_set_ne (by omega)]; exact h1, h2.keepB fun b hb _ => hs b (by have := hg i; have := hb.1; have := hb.2; omega)⟩
  · by_cases hpq : p = q
    · subst hpq
      rw [List.getElem?_set_self (by omega), hv]
    · rw [List.getElem?_set_ne (by omega)]
      exact hp p (by omega)
theorem MRow.below {h g m cap k j q : Nat} {ts : List T} {U : Nat → Value} {L R : Nat → Nat} {w w' : World} (c : MRow h g m cap k j q ts U L R w) (hb : Below w.heap.size w w') (hR : ∀ i, R i ≤ w.heap.size) : MRow h g m cap k j q ts U L R w' := by
  obtain ⟨xs, ho, hx, hd, hp⟩ := c
  refine ⟨xs, keep_own ho hb, fun i kk nn s txs hi ht => ?_, fun i kk nn s txs hi ht => ?_, hp⟩
  · obtain ⟨h1, h2⟩ := hx i kk nn s txs hi ht
    exact ⟨h1, h2.keep fun b b1 b2 => hb.block b (by have := hR i; omega)⟩
  · obtain ⟨h0, h1, h2⟩ := hd i kk nn s txs hi ht
    exact ⟨h0, h1, h2.keepB fun b _ hlt => hb.block b hlt⟩
/-- The child's marks. -/
theorem MRow.child {h g m cap k j : Nat} {ts : List T} {U : Nat → Value} {L R : Nat → Nat} {w w' : World} (c : MRow h g m cap k j 3 ts U L R w) (ho : Out (L j) (R j) w w') (hg : ∀ i, g < L i ∨ R i ≤ g) (hgs : g < w.heap.size) (hR : ∀ i, R i ≤ w.heap.size)
    (hd : ∀ i i', i < i' → i' < ts.length → R i ≤ L i' ∨ R i' ≤ L i) {kk nn : Int} {s : ByteArray} {txs : List T} (ht : ts[j]? = some (T.node kk nn s txs)) (hm : ArgsP (In (L j) (R j)) w' h (U j) (mkS (k + 3 * cS (ts.take j) + 3) txs)) :
    MRow h g m cap k (j + 1) 0 ts U L R w' := by
  obtain ⟨xs, hr, hx, hdn, hp⟩ := c
  have hjl := (List.getElem?_eq_some_iff.1 ht).1
  refine ⟨xs, row_keep hr (ho.2.2.2.2 g hgs (by have := hg j; omega)), fun i kk' nn' s' txs' hi ht' => ?_, fun i kk' nn' s' txs' hi ht' => ?_, fun p hp => by omega⟩
  · obtain ⟨h1, h2⟩ := hx i kk' nn' s' txs' (by omega) ht'
    refine ⟨h1, h2.keep fun b b1 b2 => ho.2.2.2.2 b (by have := hR i; omega) ?_⟩
    have := hd j i (by omega) (List.getElem?_eq_some_iff.1 ht').1
    omega
  · by_cases hij : i = j
    · subst hij
      rw [ht] at ht'
      cases ht'
      exact ⟨hp, (hx i kk nn s txs (Nat.le_refl _) ht).1, hm⟩
    · obtain ⟨h0, h1, h2⟩ := hdn i kk' nn' s' txs' (by omega) ht'
      refine ⟨h0, h1, h2.keepB fun b hb hlt => ho.2.2.2.2 b hlt ?_⟩
      have := hd i j (by omega) hjl
      have := hb.1; have := hb.2
      omega
theorem MRow.done {h g m cap k : Nat} {ts : List T} {U : Nat → Value} {L R : Nat → Nat} {w : World} {lo hi : Nat} (c : MRow h g m cap k m 0 ts U L R w) (hm : m = ts.length) (hl : m ≤ maxLen) (hk : k + 3 * cS ts ≤ 2305843009213693952) (h1 : lo ≤ g) (h2 : g < hi) (hL : ∀ i, lo ≤ L i) (hR : ∀ i, R i ≤ hi) :
    ArgsP (In lo hi) w (h + 1) (.slice (some ⟨g, 0, none⟩) m cap) (mkS k ts) := by
  obtain ⟨xs, ho, _, hd, _⟩ := c
  refine ⟨_, cap, by rw [mkS_length, hm], by rw [mkS_length]; omega, Or.inr ⟨g, 0, rfl, ⟨h1, h2⟩, fun i a b s' txs' hi' => ?_⟩⟩
  have hil : i < ts.length := by have := (List.getElem?_eq_some_iff.1 hi').1; rwa [mkS_length] at this
  obtain ⟨t, ht⟩ : ∃ t, ts[i]? = some t := ⟨_, List.getElem?_eq_getElem hil⟩
  obtain ⟨kk, nn, s, txs⟩ := t
  rw [mkS_at ts k i _ ht, mkT_node] at hi'
  simp only [Option.some.injEq, T.node.injEq] at hi'
  obtain ⟨rfl, rfl, rfl, rfl⟩ := hi'
  obtain ⟨h0, h3, h4⟩ := hd i kk nn s txs (by omega) ht
  have hct := cS_take ts (i + 1)
  rw [tk ts i _ ht, cS_snoc, cT_node] at hct
  refine ⟨mark_size _ (by omega), U i, ?_, ?_, ?_, ?_, h4.imp fun b hb => ⟨Nat.le_trans (hL i) hb.1, Nat.lt_of_lt_of_le hb.2 (hR i)⟩⟩
  · rw [Nat.zero_add, ho.cellAt (i * 4) (by omega)]; exact h0 0 (by omega)
  · rw [Nat.zero_add, ho.cellAt (i * 4 + 1) (by omega)]; exact h0 1 (by omega)
  · rw [Nat.zero_add, ho.cellAt (i * 4 + 2) (by omega)]; exact h0 2 (by omega)
  · rw [Nat.zero_add, ho.cellAt (i * 4 + 3) (by omega)]; exact h3

def MarkP (lo hi k h : Nat) (u : Value) (ts : List T) (w : World) (e : Ending) (w' : World) : Prop := MarkOut lo hi (k + 3 * cS ts) w e w' ∧ ArgsP (In lo hi) w' h u (mkS k ts)
def MarkPAt (h : Nat) : Prop := ∀ (u : Value) (ts : List T) (lo hi k : Nat) (w : World), OwnA w h lo hi u ts → hi ≤ w.heap.size → 1 ≤ k → k + 3 * cS ts ≤ 2305843009213693952 →
  Calls Try.prog 94 #[u, .int .i64 k] w (MarkP lo hi k h u ts w)

theorem markP_empty (lo hi k h : Nat) (a : Option Addr) (cap : Nat) (w : World) :
    Calls Try.prog 94 #[.slice a 0 cap, .int .i64 k] w (MarkP lo hi k h (.slice a 0 cap) [] w) :=
  (mark_empty lo hi k a cap w).mono fun e w' hm => ⟨by simpa [cS] using hm, by
    rw [mkS_nil]
    cases h with
    | zero => exact ⟨rfl, _, _, rfl⟩
    | succ h => exact ⟨_, _, rfl, Nat.zero_le _, Or.inl rfl⟩⟩

set_option maxRecDepth 100000 in
set_option maxHeartbeats 1600000 in
theorem markP_some {h : Nat} (hM : MarkPAt h) (g cap : Nat) (ts : List T) (U : Nat → Value) (L R : Nat → Nat) (lo hi k : Nat) (w : World) (hrel0 : MRow h g ts.length cap k 0 0 ts U L R w) (h1 : lo ≤ g) (h2 : g < hi) (hhi : hi ≤ w.heap.size)
    (hg : ∀ i, g < L i ∨ R i ≤ g) (hL : ∀ i, lo ≤ L i) (hR : ∀ i, R i ≤ hi) (hd : ∀ i j, i < j → j < ts.length → R i ≤ L j ∨ R j ≤ L i) (hk : 1 ≤ k) (hkc : k + 3 * cS ts ≤ 2305843009213693952) :
    Calls Try.prog 94 #[.slice (some ⟨g, 0, none⟩) ts.length cap, .int .i64 k] w (MarkP lo hi k (h + 1) (.slice (some ⟨g, 0, none⟩) ts.length cap) ts w) := by
  have hl : ts.length ≤ 2305843009213693952 := by have := len_cS ts; omega
  have HM0 := Lib.hid hM; clear hM
  have HG := Lib.hid hg; clear hg
  have HL := Lib.hid hL; clear hL
  have HRR := Lib.hid hR; clear hR
  have HDD := Lib.hid hd; clear hd
  have HKC := Lib.hid hkc; clear hkc
  obtain ⟨m, hm⟩ : ∃ m, m = ts.length := ⟨_, rfl⟩
  rw [← hm] at hrel0 hl ⊢
  have HM := Lib.hid hm; clear hm
  have HR0 := Lib.hid hrel0; clear hrel0
  go_enter Try.func94, Try.ntmps94
  go_wp2
  go_loopw [1, 5] (fun q i wr => ∃ (j c : Nat), j ≤ m ∧ i = .int .i64 j ∧ q = .int .i64 c ∧ Hid (c = k + 3 * cS (ts.take j)) ∧ Hid (MRow h g m cap k j 0 ts U L R wr) ∧ Hid (Out lo hi w wr)) (fun _ i _ => m - (intOf i).toNat)
  case atStart => exact ⟨0, k, Nat.zero_le _, rfl, rfl, Lib.hid (by simp [cS]), HR0, Lib.hid (Out.refl _ _ _)⟩
  case round =>
    obtain ⟨j, c, hj, rfl, rfl, HC, HR, HO⟩ := hrel
    have hcb : c ≤ 2305843009213693952 := by have := HC.out; have := cS_take ts j; have := HKC.out; omega
    have hc1 : 1 ≤ c := by have := HC.out; omega
    by_cases hlt : j < m
    · obtain ⟨t, ht⟩ : ∃ t, ts[j]? = some t := ⟨_, List.getElem?_eq_getElem (by have := HM.out; omega)⟩
      obtain ⟨tk1, tn1, ts1, txs⟩ := t
      have hct : cS (ts.take (j + 1)) = cS (ts.take j) + (1 + cS txs) := by rw [tk ts j _ ht, cS_snoc, cT_node]
      have hctl := cS_take ts (j + 1)
      have HCT := Lib.hid hct
      have hcx : c + 3 + 3 * cS txs ≤ 2305843009213693952 := by have := HC.out; have := HKC.out; omega
      have htl2 : txs.length ≤ 2305843009213693952 := by have := len_cS txs; omega
      clear hct hctl
      have hgs : g < wr.heap.size := by have := HO.out.2.2.2.1; omega
      have hRs : Hid (∀ i, R i ≤ wr.heap.size) := Lib.hid (fun i => by have := HRR.out i; have := HO.out.2.2.2.1; omega)
      have HT := Lib.hid ht; clear ht
      obtain ⟨⟨o0, g0⟩, f0⟩ := HR.out.cells hlt 0 (by omega)
      obtain ⟨⟨o1, g1⟩, f1⟩ := HR.out.cells hlt 1 (by omega)
      rw [Nat.add_zero] at g0 f0
      have s0 := HR.out.store (q := 0) HG.out (by omega) hlt (v := .int .i64 (c : Int)) (by rw [HC.out]; rfl)
      rw [Nat.add_zero] at s0
      have s1 := s0.store (q := 1) HG.out (by omega) hlt (v := .int .i64 ((c : Int) + 1)) (by rw [HC.out]; rfl)
      have HS1 := Lib.hid s1; clear s0 s1
      have HO1 := Lib.hid (HO.out.trans ((Out.set (lo := lo) (hi := hi) wr g (j * 4) (.int .i64 (c : Int)) h1 h2).trans (Out.set _ g (j * 4 + 1) (.int .i64 ((c : Int) + 1)) h1 h2)))
      go_wp2_with fail
      refine (markText_int _ (c + 2) _ (by omega) (by omega) (by omega)).mono ?_
      rintro e w1 ⟨rfl, hb1⟩
      have HS2 := Lib.hid (HS1.out.below hb1 (fun i => by have := hRs.out i; simpa using this))
      have hw1 : wr.heap.size ≤ w1.heap.size := by have := hb1.size; simpa [World.setCell] using this
      have HO2 := Lib.hid (HO1.out.trans (Out.of_below hb1)); clear hb1 g0 g1 f0 f1
      obtain ⟨⟨o2, g2⟩, f2⟩ := HS2.out.cells hlt 2 (by omega)
      have HS3 := Lib.hid (HS2.out.store (q := 2) HG.out (by omega) hlt (v := .string (mark (c + 2))) (by rw [HC.out]; rfl))
      have HO3 := Lib.hid (HO2.out.trans (Out.set (lo := lo) (hi := hi) w1 g (j * 4 + 2) (.string (mark (c + 2))) h1 h2))
      obtain ⟨ca, hoa⟩ := HS3.out.args hlt HT.out
      have hsz : w1.heap.size = (w1.setCell ⟨g, j * 4 + 2, none⟩ (.string (mark (c + 2)))).heap.size := by simp [World.setCell]
      have hcall := HM0.out (U j) txs (L j) (R j) (c + 3) _ hoa (by have := hRs.out j; omega) (by omega) (by omega)
      obtain ⟨ua, uc, hu⟩ := hoa.slice
      rw [hu] at ca hcall
      clear hoa
      have HUE := Lib.hid hu; clear hu
      have HCALL := Lib.hid hcall; clear hcall
      go_wp2_with fail
      have hcast : ((c : Int) + 1 + 1 + 1) = ((c + 3 : Nat) : Int) := by omega
      rw [hcast]
      refine HCALL.out.mono ?_
      rintro e w2 ⟨⟨rfl, ho2⟩, hp2⟩
      have HR4 := Lib.hid (HS3.out.child ho2 HG.out (by omega) (fun i => by have := hRs.out i; omega) HDD.out HT.out (by rw [HUE.out, ← HC.out]; exact hp2))
      have HO4 := Lib.hid (HO3.out.trans (ho2.wide (HL.out j) (HRR.out j))); clear ho2 hp2
      have HC4 : Hid (c + 3 + 3 * cS txs = k + 3 * cS (ts.take (j + 1))) := Lib.hid (by have := HC.out; have := HCT.out; omega)
      go_wp2
      go_roundw
      case rel => exact ⟨j + 1, c + 3 + 3 * cS txs, by omega, by go_num, rfl, HC4, HR4, HO4⟩
      case measure => simp [intOf]; omega
    · have HD : Hid (c = k + 3 * cS ts) := Lib.hid (by
        have hjm : j = ts.length := by have := HM.out; omega
        rw [HC.out, hjm, List.take_length])
      have hjm : j = m := by omega
      have HF := Lib.hid ((hjm ▸ HR.out).done (lo := lo) (hi := hi) HM.out (by unfold maxLen; omega) HKC.out h1 h2 HL.out HRR.out)
      go_wp2
      go_ret
      exact ⟨⟨by rw [← HD.out]; rfl, HO.out⟩, HF.out⟩

theorem markP_any : ∀ h, MarkPAt h
  | 0 => by
    rintro u ts lo hi k w ⟨rfl, a, cap, rfl⟩ hhi hk hkc
    exact markP_empty lo hi k 0 a cap w
  | h + 1 => by
    rintro u ts lo hi k w ⟨a, cap, rfl, hc⟩ hhi hk hkc
    by_cases hn : ts = []
    · subst hn
      exact markP_empty lo hi k (h + 1) a cap w
    · obtain ⟨g, xs, U, L, R, rfl, h1, h2, ho, hx, hd⟩ := hc.resolve_left hn
      have hin : ∀ i, i < ts.length → lo ≤ L i ∧ R i ≤ hi ∧ (g < L i ∨ R i ≤ g) := fun i hi' => by
        obtain ⟨t, ht⟩ : ∃ t, ts[i]? = some t := ⟨_, List.getElem?_eq_getElem hi'⟩
        obtain ⟨kk, nn, s, txs⟩ := t
        obtain ⟨_, l1, l2, l3, _⟩ := hx i kk nn s txs ht
        exact ⟨l1, l2, l3⟩
      refine markP_some (markP_any h) g cap ts U (fun i => if i < ts.length then L i else lo) (fun i => if i < ts.length then R i else lo) lo hi k w ⟨xs, ho, fun i kk nn s txs _ ht => ?_, fun i _ _ _ _ hi' => by omega, fun p hp => by omega⟩ h1 h2 hhi ?_ ?_ ?_ ?_ hk hkc
      · have hi' := (List.getElem?_eq_some_iff.1 ht).1
        obtain ⟨x3, _, _, _, hr⟩ := hx i kk nn s txs ht
        exact ⟨x3, by simpa [hi'] using hr⟩
      · intro i
        by_cases hi' : i < ts.length
        · simpa [hi'] using (hin i hi').2.2
        · simp [hi']; omega
      · intro i
        by_cases hi' : i < ts.length
        · simpa [hi'] using (hin i hi').1
        · simp [hi']
      · intro i
        by_cases hi' : i < ts.length
        · simpa [hi'] using (hin i hi').2.1
        · simp [hi']; omega
      · intro i j hij hj
        have hi' : i < ts.length := by omega
        simpa [hi', hj] using hd i j hij hj

set_option maxRecDepth 100000 in
set_option maxHeartbeats 800000 in
/-- laws.markTerm, at a term whose rows are the call's own. -/
theorem markPT_any (kk nn : Int) (s : ByteArray) (u : Value) (xs : List T) (h lo hi k : Nat) (w : World) (ho : OwnA w h lo hi u xs) (hhi : hi ≤ w.heap.size) (hk : 1 ≤ k) (hkc : k + 3 * cS xs ≤ 2305843009213693952) :
    Calls Try.prog 33 #[tv kk nn s u, .int .i64 k] w (MarkP lo hi k h u xs w) := by
  have hob : OwnA (boxed w kk nn s u) h lo hi u xs := ho.keep fun b b1 b2 => (boxed_below w kk nn s u).block b (by omega)
  have hsz := (boxed_below w kk nn s u).size
  have hcall := markP_any h u xs lo hi k _ hob (by omega) hk hkc
  have HO := Lib.hid (Out.of_below (lo := lo) (hi := hi) (boxed_below w kk nn s u))
  obtain ⟨a, cap, rfl⟩ := ho.slice
  clear ho hob
  have HCALL := Lib.hid hcall; clear hcall
  go_enter Try.func33, Try.ntmps33
  go_wp2_with fail
  refine HCALL.out.mono ?_
  rintro e w1 ⟨⟨rfl, ho1⟩, hp1⟩
  have HO1 := Lib.hid (HO.out.trans ho1); clear ho1
  have HP1 := Lib.hid hp1; clear hp1
  go_wp2
  go_ret
  exact ⟨⟨rfl, HO1.out⟩, HP1.out⟩
end Go.Proofs.Ytidbokheeieifaa
