/-
  laws.toTerm and laws.toTermS copy a term into memory of the call's own.
-/
import Derived.Test.YtidbokheeieifaaQ2
import Derived.WalkLawsBesides
import Derived.BigQuiet
import Derived.Deep.QuietTactic
namespace Go.Proofs.Ytidbokheeieifaa
open Go.RowKit

/-- A copy of the arguments: a slice whose rows are all new. -/
def CopyS (h : Nat) (ts : List T) (w : World) (e : Ending) (w' : World) : Prop :=
  ∃ u, e = .returned u ∧ (ArgsAt w' w.heap.size h u ts ∧ OwnA w' h w.heap.size w'.heap.size u ts) ∧ Below w.heap.size w w'
def CopyT (h : Nat) (t : T) (w : World) (e : Ending) (w' : World) : Prop :=
  ∃ v, e = .returned v ∧ TermAt w' w.heap.size h v t ∧ Below w.heap.size w w'

/-- The copy's rows are its own besides. -/
def CopyTO (h : Nat) (t : T) (w : World) (e : Ending) (w' : World) : Prop :=
  ∃ k n s u xs, e = .returned (tv k n s u) ∧ t = .node k n s xs ∧ s.size ≤ maxLen ∧ (ArgsAt w' w.heap.size h u xs ∧ OwnA w' h w.heap.size w'.heap.size u xs) ∧ Below w.heap.size w w'
theorem CopyTO.copy {h : Nat} {t : T} {w : World} {e : Ending} {w' : World} (c : CopyTO h t w e w') : CopyT h t w e w' := by
  obtain ⟨k, n, s, u, xs, e1, e2, hs, ⟨ha, _⟩, hb⟩ := c
  exact ⟨_, e1, ⟨k, n, s, u, xs, rfl, e2, hs, ha⟩, hb⟩

def CopySAt (lo h : Nat) : Prop := ∀ (u : Value) (ts : List T) (w : World), ArgsAt w lo h u ts → ts.length + wS ts ≤ 1048576 →
  Calls Try.prog 76 #[u] w (CopyS h ts w)

set_option maxRecDepth 100000 in
set_option maxHeartbeats 800000 in
theorem toT_of {lo h : Nat} (hS : CopySAt lo h) (k n : Int) (s : ByteArray) (u : Value) (xs : List T) (w : World) (hs : s.size ≤ maxLen) (ha : ArgsAt w lo h u xs) (hw : wT (.node k n s xs) ≤ 1048576) :
    Calls Try.prog 24 #[tv k n s u] w (CopyTO h (.node k n s xs) w) := by
  have HA := Lib.hid ha; clear ha
  have hwx : xs.length + wS xs ≤ 1048576 := by rw [wT_node] at hw; omega
  clear hw
  go_enter Try.func24, Try.ntmps24
  go_wp2_with fail
  obtain ⟨W, hW⟩ : ∃ W, W = ((w.alloc (.cells #[.int .i64 k, .int .i64 n, .string s, u] 41)).alloc (.cells #[.int .i64 0, .int .i64 0, .string ⟨#[]⟩, .slice none 0 0] 26)).alloc (.cells #[.int .i64 k, .int .i64 n, .string s, .slice none 0 0] 26) := ⟨_, rfl⟩
  have hWs : W.heap.size = w.heap.size + 1 + 1 + 1 := by rw [hW]; simp
  have r1 : W.heap[w.heap.size + 1]? = some (.cells #[.int .i64 0, .int .i64 0, .string ⟨#[]⟩, .slice none 0 0] 26 (0, 0)) := by rw [hW]; exact heap_mid _ _ _ (by simp)
  have r2 : W.heap[w.heap.size + 1 + 1]? = some (.cells #[.int .i64 k, .int .i64 n, .string s, .slice none 0 0] 26 (0, 0)) := by rw [hW]; exact heap_new _ _ (by simp)
  have hbW : Below w.heap.size w W := by rw [hW]; exact (((Below.refl _ _).alloc (Nat.le_refl _) _).alloc (by simp) _).alloc (by simp; omega) _
  have HBW := Lib.hid hbW; clear hbW
  rw [← hW]
  clear hW
  have HWS := Lib.hid hWs; clear hWs
  refine (hS u xs W (HA.out.below HBW.out) hwx).mono ?_
  rintro e w1 ⟨u1, rfl, ⟨ha1, ho1⟩, hb1⟩
  obtain ⟨ua, uc, rfl⟩ := ha1.slice
  have q1 := hb1.block (w.heap.size + 1) (by have := HWS.out; omega)
  have q2 := hb1.block (w.heap.size + 1 + 1) (by have := HWS.out; omega)
  rw [r1] at q1
  rw [r2] at q2
  clear r1 r2
  have a0 := cell_of_row w1 (w.heap.size + 1) 0 _ _ _ q1
  have a1 := cell_of_row w1 (w.heap.size + 1) 1 _ _ _ q1
  have a2 := cell_of_row w1 (w.heap.size + 1) 2 _ _ _ q1
  have a3 := cell_of_row w1 (w.heap.size + 1) 3 _ _ _ q1
  have f0 := frozen_of_row w1 (w.heap.size + 1) 0 _ _ q1
  have f1 := frozen_of_row w1 (w.heap.size + 1) 1 _ _ q1
  have f2 := frozen_of_row w1 (w.heap.size + 1) 2 _ _ q1
  have f3 := frozen_of_row w1 (w.heap.size + 1) 3 _ _ q1
  have b0 := cell_of_row w1 (w.heap.size + 1 + 1) 0 _ _ _ q2
  have b1 := cell_of_row w1 (w.heap.size + 1 + 1) 1 _ _ _ q2
  have b2 := cell_of_row w1 (w.heap.size + 1 + 1) 2 _ _ _ q2
  have b3 := cell_of_row w1 (w.heap.size + 1 + 1) 3 _ _ _ q2
  have g3 := frozen_of_row w1 (w.heap.size + 1 + 1) 3 _ _ q2
  simp at a0 a1 a2 a3 b0 b1 b2 b3
  clear q1 q2
  have HA1 := Lib.hid ha1; clear ha1
  have HO1 := Lib.hid ho1; clear ho1
  have HB1 := Lib.hid hb1; clear hb1
  go_wp2
  (try simp only [Exit.inBlock, Exit.then])
  refine bodyPost_ret (v := tv k n s (.slice ua xs.length uc)) ?hr rfl ?_
  case hr =>
    rw [results_cell (a := 2) (t := 26) (ad := ⟨w.heap.size + 1, 0, none⟩) rfl rfl]
    go_simp
  have hlt : ∀ B : Nat, B < W.heap.size → ∀ i, some B = some i → i < W.heap.size := fun B h i e => by cases e; exact h
  refine ⟨k, n, s, _, xs, rfl, rfl, hs, ⟨?_, ?_⟩, ?_⟩
  · have h2 : w.heap.size + 1 < W.heap.size := by have := HWS.out; omega
    have h3 : w.heap.size + 1 + 1 < W.heap.size := by have := HWS.out; omega
    refine ArgsAt.low (lo := W.heap.size) (by have := HWS.out; omega) ?_
    refine ArgsAt.grown ?_ (set_grown _ (w.heap.size + 1) _ _) (hlt _ h2)
    refine ArgsAt.grown ?_ (set_grown _ (w.heap.size + 1) _ _) (hlt _ h2)
    refine ArgsAt.grown ?_ (set_grown _ (w.heap.size + 1) _ _) (hlt _ h2)
    refine ArgsAt.grown ?_ (set_grown _ (w.heap.size + 1) _ _) (hlt _ h2)
    exact ArgsAt.grown HA1.out (set_grown _ (w.heap.size + 1 + 1) _ _) (hlt _ h3)
  · have h4 := HWS.out
    exact (((((HO1.out.off (Or.inl (by omega)) _ _).off (Or.inl (by omega)) _ _).off (Or.inl (by omega)) _ _).off (Or.inl (by omega)) _ _).off (Or.inl (by omega)) _ _).wide (by omega) (by simp)
  · have hb := HBW.out.trans (HB1.out.mono HBW.out.size)
    exact ((((hb.setCell (by simp; omega) _).setCell (by simp) _).setCell (by simp) _).setCell (by simp) _).setCell (by simp) _

/-- How far the copy of a row has come; the rows below it lie in blocks up to B. -/
def CopyRel (h g n k B : Nat) (ts : List T) (w : World) : Prop :=
  ∃ (xs : List Value) (U : Nat → Value) (L R : Nat → Nat), w.ownsRow g 26 4 (.slice (some ⟨g, 0, none⟩) n n) n xs ∧ (∀ i kk nn s txs, i < k → ts[i]? = some (T.node kk nn s txs) →
    s.size ≤ maxLen ∧ xs[i * 4]? = some (.int .i64 kk) ∧ xs[i * 4 + 1]? = some (.int .i64 nn) ∧ xs[i * 4 + 2]? = some (.string s) ∧ xs[i * 4 + 3]? = some (U i) ∧ ArgsAt w (g + 1) h (U i) txs ∧ OwnA w h (L i) (R i) (U i) txs) ∧
    (∀ i, i < k → g < L i ∧ L i ≤ R i ∧ R i ≤ B) ∧ (∀ i j, i < j → j < k → R i ≤ L j)

theorem CopyRel.below {h g n k B : Nat} {ts : List T} {w w' : World} (c : CopyRel h g n k B ts w) (hb : Below w.heap.size w w') (hB : B ≤ w.heap.size) : CopyRel h g n k B ts w' := by
  obtain ⟨xs, U, L, R, ho, hx, hl, hd⟩ := c
  refine ⟨xs, U, L, R, keep_own ho hb, fun i kk nn s txs hi ht => ?_, hl, hd⟩
  obtain ⟨hs, x0, x1, x2, x3, ha, hoa⟩ := hx i kk nn s txs hi ht
  exact ⟨hs, x0, x1, x2, x3, ha.below hb, hoa.keep fun b b1 b2 => hb.block b (by have := hl i hi; omega)⟩

theorem CopyRel.cells {h g n k B : Nat} {ts : List T} {w : World} (c : CopyRel h g n k B ts w) (hk : k < n) (j : Nat) (hj : j < 4) :
    (∃ v, w.cell? ⟨g, k * 4 + j, none⟩ = some v) ∧ w.frozen? ⟨g, k * 4 + j, none⟩ = false := by
  obtain ⟨xs, U, L, R, ho, _⟩ := c
  have hl := ho.1
  refine ⟨?_, ho.frozenAt _⟩
  rw [ho.cellAt (k * 4 + j) (by omega)]
  exact ⟨_, List.getElem?_eq_getElem (by omega)⟩

theorem set4 {xs : List Value} {a p : Nat} {v0 v1 v2 v3 : Value} (h0 : a ≠ p) (h1 : a + 1 ≠ p) (h2 : a + 2 ≠ p) (h3 : a + 3 ≠ p) :
    ((((xs.set a v0).set (a + 1) v1).set (a + 2) v2).set (a + 3) v3)[p]? = xs[p]? := by
  rw [List.getElem?_set_ne h3, List.getElem?_set_ne h2, List.getElem?_set_ne h1, List.getElem?_set_ne h0]

theorem CopyRel.step {h g n k B B' : Nat} {ts : List T} {w : World} (c : CopyRel h g n k B ts w) (hk : k < n) {kk nn : Int} {s : ByteArray} {txs : List T} {u : Value} (ht : ts[k]? = some (T.node kk nn s txs)) (hs : s.size ≤ maxLen) (ha : ArgsAt w (g + 1) h u txs)
    (hoa : OwnA w h B B' u txs) (hgB : g < B) (hBB : B ≤ B') :
    CopyRel h g n (k + 1) B' ts ((((w.setCell ⟨g, k * 4, none⟩ (.int .i64 kk)).setCell ⟨g, k * 4 + 1, none⟩ (.int .i64 nn)).setCell ⟨g, k * 4 + 2, none⟩ (.string s)).setCell ⟨g, k * 4 + 3, none⟩ u) := by
  obtain ⟨xs, U, L, R, ho, hx, hlr, hd⟩ := c
  have hl : xs.length = n * 4 := ho.1
  have o1 := (ho.stored (k * 4) (.int .i64 kk)).1
  have o2 := (o1.stored (k * 4 + 1) (.int .i64 nn)).1
  have o3 := (o2.stored (k * 4 + 2) (.string s)).1
  have o4 := (o3.stored (k * 4 + 3) u).1
  have up : ∀ {u' : Value} {txs' : List T}, ArgsAt w (g + 1) h u' txs' → ArgsAt ((((w.setCell ⟨g, k * 4, none⟩ (.int .i64 kk)).setCell ⟨g, k * 4 + 1, none⟩ (.int .i64 nn)).setCell ⟨g, k * 4 + 2, none⟩ (.string s)).setCell ⟨g, k * 4 + 3, none⟩ u) (g + 1) h u' txs' := by
    intro u' txs' q
    have hg : ∀ j, some g = some j → j < g + 1 := fun j e => by cases e; omega
    refine ArgsAt.grown ?_ (set_grown _ g _ _) hg
    refine ArgsAt.grown ?_ (set_grown _ g _ _) hg
    refine ArgsAt.grown ?_ (set_grown _ g _ _) hg
    exact ArgsAt.grown q (set_grown _ g _ _) hg
  have upo : ∀ {u' : Value} {txs' : List T} {l r : Nat}, g < l → OwnA w h l r u' txs' → OwnA ((((w.setCell ⟨g, k * 4, none⟩ (.int .i64 kk)).setCell ⟨g, k * 4 + 1, none⟩ (.int .i64 nn)).setCell ⟨g, k * 4 + 2, none⟩ (.string s)).setCell ⟨g, k * 4 + 3, none⟩ u) h l r u' txs' :=
    fun hgl q => (((q.off (Or.inl hgl) _ _).off (Or.inl hgl) _ _).off (Or.inl hgl) _ _).off (Or.inl hgl) _ _
  refine ⟨_, fun i => if i = k then u else U i, fun i => if i = k then B else L i, fun i => if i = k then B' else R i, o4, fun i kk' nn' s' txs' hi ht' => ?_, fun i hi => ?_, fun i j hij hj => ?_⟩
  · by_cases hik : i = k
    · subst hik
      rw [ht] at ht'
      cases ht'
      refine ⟨hs, ?_, ?_, ?_, ?_, by simpa using up ha, by simpa using upo hgB hoa⟩
      · simp [List.getElem?_set]; omega
      · simp [List.getElem?_set]; omega
      · simp [List.getElem?_set]; omega
      · simp [List.getElem?_set]; omega
    · obtain ⟨hs', x0, x1, x2, x3, ha', hoa'⟩ := hx i kk' nn' s' txs' (by omega) ht'
      refine ⟨hs', ?_, ?_, ?_, ?_, by simpa [hik] using up ha', by simpa [hik] using upo (hlr i (by omega)).1 hoa'⟩
      · rw [set4 (by omega) (by omega) (by omega) (by omega)]; exact x0
      · rw [set4 (by omega) (by omega) (by omega) (by omega)]; exact x1
      · rw [set4 (by omega) (by omega) (by omega) (by omega)]; exact x2
      · rw [set4 (by omega) (by omega) (by omega) (by omega)]; simpa [hik] using x3
  · by_cases hik : i = k
    · simp [hik]; omega
    · have := hlr i (by omega)
      simp [hik]; omega
  · have hik : i ≠ k := by omega
    by_cases hjk : j = k
    · have := hlr i (by omega)
      simp [hik, hjk]; omega
    · simpa [hik, hjk] using hd i j hij (by omega)

theorem CopyRel.done {h g n B : Nat} {ts : List T} {w : World} (c : CopyRel h g n n B ts w) (hn : n = ts.length) (hl : n ≤ maxLen) (hB : g < B) : ArgsAt w g (h + 1) (.slice (some ⟨g, 0, none⟩) n n) ts ∧ OwnA w (h + 1) g B (.slice (some ⟨g, 0, none⟩) n n) ts := by
  obtain ⟨xs, U, L, R, ho, hx, hlr, hd⟩ := c
  have hii : ∀ {i : Nat} {t : T}, ts[i]? = some t → i < n := fun {i} {t} ht => by have := (List.getElem?_eq_some_iff.1 ht).1; omega
  constructor
  · refine ⟨_, n, by rw [hn], by omega, Or.inr ⟨g, 0, rfl, Nat.le_refl _, fun i kk nn s txs ht => ?_⟩⟩
    have hi := hii ht
    obtain ⟨hs, x0, x1, x2, x3, ha, _⟩ := hx i kk nn s txs hi ht
    refine ⟨hs, U i, ?_, ?_, ?_, ?_, ha.low (by omega)⟩
    · rw [Nat.zero_add, ho.cellAt (i * 4) (by omega), x0]
    · rw [Nat.zero_add, ho.cellAt (i * 4 + 1) (by omega), x1]
    · rw [Nat.zero_add, ho.cellAt (i * 4 + 2) (by omega), x2]
    · rw [Nat.zero_add, ho.cellAt (i * 4 + 3) (by omega), x3]
  · subst hn
    refine ⟨_, _, rfl, Or.inr ⟨g, xs, U, L, R, rfl, Nat.le_refl _, hB, ho, fun i kk nn s txs ht => ?_, fun i j hij hj => Or.inl (hd i j hij hj)⟩⟩
    obtain ⟨_, _, _, _, x3, _, hoa⟩ := hx i kk nn s txs (hii ht) ht
    have := hlr i (hii ht)
    exact ⟨x3, by omega, by omega, by omega, hoa⟩

set_option maxRecDepth 100000 in
set_option maxHeartbeats 1600000 in
theorem toS_some {lo h : Nat} (hS : CopySAt lo h) (b o cap : Nat) (ts : List T) (w : World) (hw : ts.length + wS ts ≤ 1048576)
    (hc : RowAt w lo h b o ts) :
    Calls Try.prog 76 #[.slice (some ⟨b, o, none⟩) ts.length cap] w (CopyS (h + 1) ts w) := by
  obtain ⟨i0, hi, hz0, hz1, hz2⟩ := info_parts infoTerm
  have HI := Lib.hid hi; clear hi
  have HZ0 := Lib.hid hz0; clear hz0
  have HZ1 := Lib.hid hz1; clear hz1
  have HZ2 := Lib.hid hz2; clear hz2
  have HC := Lib.hid hc; clear hc
  have HSS := Lib.hid hS; clear hS
  have HWT := Lib.hid hw
  obtain ⟨n, hn⟩ : ∃ n, n = ts.length := ⟨_, rfl⟩
  have hl : n ≤ 1048576 := by omega
  clear hw
  rw [← hn]
  have HN := Lib.hid hn; clear hn
  go_enter Try.func76, Try.ntmps76
  go_wp2_with (first | (at_make; refine wpList_make_full _ rfl (.tmp 6) (.tmp 6) 24 rfl w.heap.size 26 i0 (.agg #[.int .i64 0, .int .i64 0, .string ByteArray.empty, .slice none 0 0]) 4 Try.underlying24 HI.out HZ0.out HZ1.out _ _ _ _ n rfl rfl rfl rfl ?m1 ?m2 ?m3 ?_))
  case m1 => rw [HZ2.out]; omega
  case m2 => unfold maxLen; omega
  case m3 => exact Nat.le_refl _
  intro w1 hown hgrow
  have hb : Below w.heap.size w w1 := (Below.refl _ _).grown hgrow (Nat.le_refl _) (fun k hk => by cases hk)
  have hrel0 : CopyRel h w.heap.size n 0 w1.heap.size ts w1 := ⟨_, fun _ => undef, fun _ => 0, fun _ => 0, hown, fun i _ _ _ _ hi => by omega, fun i hi => by omega, fun i j hij hj => by omega⟩
  have HR0 := Lib.hid hrel0; clear hrel0 hown
  have hsz : w.heap.size < w1.heap.size := by
    obtain ⟨_, _, _, _, ho, _⟩ := HR0.out
    exact (ho.lt w.heap.size rfl).2
  have HB := Lib.hid hb; clear hb hgrow
  go_wp2
  go_loopw [4] (fun i wr => ∃ k : Nat, k ≤ n ∧ i = .int .i64 k ∧ Hid (CopyRel h w.heap.size n k wr.heap.size ts wr) ∧ Hid (Below w.heap.size w wr) ∧ w.heap.size < wr.heap.size) (fun i _ => n - (intOf i).toNat)
  case atStart => exact ⟨0, Nat.zero_le _, rfl, HR0, HB, hsz⟩
  case round =>
    obtain ⟨k, hk, rfl, HR, HBR, hsr⟩ := hrel
    by_cases hlt : k < n
    · obtain ⟨t, ht⟩ : ∃ t, ts[k]? = some t := ⟨_, List.getElem?_eq_getElem (by have := HN.out; omega)⟩
      obtain ⟨tk', tn, tsn, txs⟩ := t
      obtain ⟨hszn, u', c0, c1, c2, c3, har⟩ := HC.out k _ _ _ _ ht
      have keep : ∀ {ad : Addr} {v : Value}, w.cell? ad = some v → wr.cell? ad = some v := fun {ad} {v} hv => by rw [HBR.out.cell (World.block_lt_of_cell? w _ hv)]; exact hv
      have d0 := keep c0
      have d1 := keep c1
      have d2 := keep c2
      have d3 := keep c3
      clear c0 c1 c2 c3 keep
      have HAR := Lib.hid (har.below HBR.out); clear har
      have hwt := wT_at ts k _ ht
      have HWX : Hid (wT (.node tk' tn tsn txs) ≤ 1048576) := Lib.hid (by have := HWT.out; omega)
      clear hwt
      have HTT := Lib.hid ht; clear ht
      have HSZ := Lib.hid hszn; clear hszn
      go_wp2_with fail
      refine (toT_of HSS.out tk' tn tsn u' txs _ HSZ.out HAR.out HWX.out).mono ?_
      rintro e w2 ⟨kk, nn, ss, u2, xx, rfl, he, hs2, ⟨ha2, ho2⟩, hb2⟩
      cases he
      have HR2 := Lib.hid (HR.out.below hb2 (by simp))
      have HB2 := Lib.hid (HBR.out.trans (hb2.mono HBR.out.size))
      have hs2' := hb2.size
      obtain ⟨⟨o0, g0⟩, f0⟩ := HR2.out.cells hlt 0 (by omega)
      obtain ⟨⟨o1, g1⟩, f1⟩ := HR2.out.cells hlt 1 (by omega)
      obtain ⟨⟨o2, g2⟩, f2⟩ := HR2.out.cells hlt 2 (by omega)
      obtain ⟨⟨o3, g3⟩, f3⟩ := HR2.out.cells hlt 3 (by omega)
      rw [Nat.add_zero] at g0 f0
      have ha3 : ArgsAt w2 (w.heap.size + 1) h u2 txs := ha2.low (by omega)
      obtain ⟨ua, uc, rfl⟩ := ha2.slice
      have HST := Lib.hid (HR2.out.step hlt HTT.out HSZ.out ha3 (ho2.wide (by simp) (Nat.le_refl _)) (by omega) (by omega)); clear ha2 ha3 hs2 hb2 ho2
      go_wp2
      go_roundw
      case rel => exact ⟨k + 1, by omega, by go_num, Lib.hid (by simpa using HST.out), Lib.hid ((((HB2.out.setCell (Nat.le_refl _) _).setCell (Nat.le_refl _) _).setCell (Nat.le_refl _) _).setCell (Nat.le_refl _) _), by simp; omega⟩
      case measure => simp [intOf]; omega
    · have hkn : k = n := by omega
      subst hkn
      have HD := Lib.hid (HR.out.done HN.out (by unfold maxLen; omega) hsr)
      go_wp2
      go_ret
      exact ⟨_, rfl, HD.out, HBR.out⟩

set_option maxRecDepth 100000 in
set_option maxHeartbeats 400000 in
theorem toS_empty (h : Nat) (a : Option Addr) (cap : Nat) (w : World) :
    Calls Try.prog 76 #[.slice a 0 cap] w (CopyS h [] w) := by
  obtain ⟨i0, hi, hz0, hz1, hz2⟩ := info_parts infoTerm
  have HI := Lib.hid hi; clear hi
  have HZ0 := Lib.hid hz0; clear hz0
  have HZ1 := Lib.hid hz1; clear hz1
  have HZ2 := Lib.hid hz2; clear hz2
  go_enter Try.func76, Try.ntmps76
  go_wp2_with (first | (at_make; refine wpList_make_full _ rfl (.tmp 6) (.tmp 6) 24 rfl w.heap.size 26 i0 (.agg #[.int .i64 0, .int .i64 0, .string ByteArray.empty, .slice none 0 0]) 4 Try.underlying24 HI.out HZ0.out HZ1.out _ _ _ _ 0 rfl rfl rfl rfl ?m1 ?m2 ?m3 ?_))
  case m1 => simp
  case m2 => decide
  case m3 => exact Nat.le_refl _
  intro w1 hown hgrow
  have hb : Below w.heap.size w w1 := (Below.refl _ _).grown hgrow (Nat.le_refl _) (fun k hk => by cases hk)
  clear hown hgrow
  go_wp2
  refine wp_loop_rounds 1 ?_
  rw [rounds_succ]
  go_wp2
  go_ret
  exact ⟨_, rfl, ⟨ArgsAt.nil _ _ _ _ _, OwnA.nil _ _ _ _ _ _⟩, hb⟩

theorem toS_any (lo : Nat) : ∀ h, CopySAt lo h
  | 0 => fun u ts w ha _ => by
    obtain ⟨rfl, a, cap, rfl⟩ := ha
    exact toS_empty 0 a cap w
  | h + 1 => fun u ts w ha hw => by
    rcases ha.cases with ⟨rfl, a, cap, rfl⟩ | ⟨h', b, o, cap, e, rfl, hl, _, hc⟩
    · exact toS_empty (h + 1) a cap w
    · obtain rfl : h = h' := by omega
      exact toS_some (toS_any lo h) b o cap ts w hw hc

/-- laws.toTerm, and whose its rows are. -/
theorem toT_own (v : Value) (t : T) (lo h : Nat) (w : World) (ht : TermAt w lo h v t) (hw : wT t ≤ 1048576) :
    Calls Try.prog 24 #[v] w (CopyTO h t w) := by
  obtain ⟨k, n, s, u, xs, rfl, rfl, hs, ha⟩ := ht
  exact toT_of (toS_any lo h) k n s u xs w hs ha hw

/-- laws.toTerm. -/
theorem toT_any (v : Value) (t : T) (lo h : Nat) (w : World) (ht : TermAt w lo h v t) (hw : wT t ≤ 1048576) :
    Calls Try.prog 24 #[v] w (CopyT h t w) :=
  (toT_own v t lo h w ht hw).mono fun _ _ c => c.copy
end Go.Proofs.Ytidbokheeieifaa
