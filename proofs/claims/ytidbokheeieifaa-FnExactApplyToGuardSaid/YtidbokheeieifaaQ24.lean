/-
  laws.toBind and laws.toBindS copy a list of Binds into memory of the call's own.
-/
import Derived.Test.YtidbokheeieifaaQ13
namespace Go.Proofs.Ytidbokheeieifaa
open Go.RowKit

theorem infoBind : (Try.prog.info? 148).map (fun i => (i.zero, i.size, i.bytes)) = some (some (.agg #[.string ByteArray.empty, .int .i64 0, .int .i64 0, .string ByteArray.empty, .slice none 0 0]), 5, 72) := by kernel_rfl

/-- A copy of a Bind. -/
def CopyBd (h : Nat) (p : ByteArray) (t : T) (w : World) (e : Ending) (w' : World) : Prop :=
  ∃ k n s u xs, e = .returned (bv p k n s u) ∧ t = .node k n s xs ∧ (ArgsAt w' w.heap.size h u xs ∧ OwnA w' h w.heap.size w'.heap.size u xs) ∧ Below w.heap.size w w'

set_option maxRecDepth 100000 in
set_option maxHeartbeats 800000 in
theorem toBind_any {lo h : Nat} (p : ByteArray) (k n : Int) (s : ByteArray) (u : Value) (xs : List T) (w : World) (hs : s.size ≤ maxLen) (ha : ArgsAt w lo h u xs) (hw : wT (.node k n s xs) ≤ 1048576) :
    Calls Try.prog 99 #[bv p k n s u] w (CopyBd h p (.node k n s xs) w) := by
  obtain ⟨W, hW⟩ : ∃ W, W = ((w.alloc (.cells #[.string p, .int .i64 k, .int .i64 n, .string s, u] 153)).alloc (.cells #[.string ⟨#[]⟩, .int .i64 0, .int .i64 0, .string ⟨#[]⟩, .slice none 0 0] 148)).alloc (.cells #[.string p, .int .i64 0, .int .i64 0, .string ⟨#[]⟩, .slice none 0 0] 148) := ⟨_, rfl⟩
  have hWs : W.heap.size = w.heap.size + 1 + 1 + 1 := by rw [hW]; simp
  have r1 : W.heap[w.heap.size + 1]? = some (.cells #[.string ⟨#[]⟩, .int .i64 0, .int .i64 0, .string ⟨#[]⟩, .slice none 0 0] 148 (0, 0)) := by rw [hW]; exact heap_mid _ _ _ (by simp)
  have r2 : W.heap[w.heap.size + 1 + 1]? = some (.cells #[.string p, .int .i64 0, .int .i64 0, .string ⟨#[]⟩, .slice none 0 0] 148 (0, 0)) := by rw [hW]; exact heap_new _ _ (by simp)
  have hbW : Below w.heap.size w W := by rw [hW]; exact (((Below.refl _ _).alloc (Nat.le_refl _) _).alloc (by simp) _).alloc (by simp; omega) _
  have HC := Lib.hid (toT_own (tv k n s u) (.node k n s xs) lo h W ⟨_, _, _, _, xs, rfl, rfl, hs, ha.below hbW⟩ hw)
  clear ha hw
  have HBW := Lib.hid hbW; clear hbW
  have HWS := Lib.hid hWs; clear hWs
  go_enter Try.func99, Try.ntmps99
  go_wp2_with fail
  rw [← hW]
  clear hW
  refine HC.out.mono ?_
  rintro e w1 ⟨k', n', s', u1, xs', rfl, he, hs', ⟨ha1, ho1⟩, hb1⟩
  cases he
  obtain ⟨ua, uc, rfl⟩ := ha1.slice
  have q1 := hb1.block (w.heap.size + 1) (by have := HWS.out; omega)
  have q2 := hb1.block (w.heap.size + 1 + 1) (by have := HWS.out; omega)
  rw [r1] at q1
  rw [r2] at q2
  clear r1 r2
  have a0 := cell_of_row w1 (w.heap.size + 1) 0 _ _ _ q1
  have a1 := cell_of_row w1 (w.heap.size + 1) 1 _ _ _ q1
  have a2 := cell_of_row w1 (w.heap.size + 1) 2 _ _ _ q1
  have a3 := cell_of_row w1 (w.heap.size + 1) 3 _ _ _ q1
  have a4 := cell_of_row w1 (w.heap.size + 1) 4 _ _ _ q1
  have f0 := frozen_of_row w1 (w.heap.size + 1) 0 _ _ q1
  have f1 := frozen_of_row w1 (w.heap.size + 1) 1 _ _ q1
  have f2 := frozen_of_row w1 (w.heap.size + 1) 2 _ _ q1
  have f3 := frozen_of_row w1 (w.heap.size + 1) 3 _ _ q1
  have f4 := frozen_of_row w1 (w.heap.size + 1) 4 _ _ q1
  have b0 := cell_of_row w1 (w.heap.size + 1 + 1) 0 _ _ _ q2
  have b1 := cell_of_row w1 (w.heap.size + 1 + 1) 1 _ _ _ q2
  have b2 := cell_of_row w1 (w.heap.size + 1 + 1) 2 _ _ _ q2
  have b3 := cell_of_row w1 (w.heap.size + 1 + 1) 3 _ _ _ q2
  have b4 := cell_of_row w1 (w.heap.size + 1 + 1) 4 _ _ _ q2
  have g1 := frozen_of_row w1 (w.heap.size + 1 + 1) 1 _ _ q2
  have g2 := frozen_of_row w1 (w.heap.size + 1 + 1) 2 _ _ q2
  have g3 := frozen_of_row w1 (w.heap.size + 1 + 1) 3 _ _ q2
  have g4 := frozen_of_row w1 (w.heap.size + 1 + 1) 4 _ _ q2
  simp at a0 a1 a2 a3 a4 b0 b1 b2 b3 b4
  clear q1 q2 hs'
  have HF : Hid (∀ v1 v2 v3 v4 y0 y1 y2 y3 y4, CopyBd h p (.node k n s xs) w (.returned (bv p k n s (.slice ua xs.length uc)))
      (((((((((w1.setCell ⟨w.heap.size + 1 + 1, 1, none⟩ v1).setCell ⟨w.heap.size + 1 + 1, 2, none⟩ v2).setCell ⟨w.heap.size + 1 + 1, 3, none⟩ v3).setCell ⟨w.heap.size + 1 + 1, 4, none⟩ v4).setCell ⟨w.heap.size + 1, 0, none⟩ y0).setCell ⟨w.heap.size + 1, 1, none⟩ y1).setCell ⟨w.heap.size + 1, 2, none⟩ y2).setCell ⟨w.heap.size + 1, 3, none⟩ y3).setCell ⟨w.heap.size + 1, 4, none⟩ y4)) := Lib.hid (fun v1 v2 v3 v4 y0 y1 y2 y3 y4 => by
    have h4 := HWS.out
    have hb := HBW.out.trans (hb1.mono HBW.out.size)
    have hlt : ∀ B : Nat, B < W.heap.size → ∀ i, some B = some i → i < W.heap.size := fun B h i e => by cases e; exact h
    have stA : ∀ (X : World) (B j : Nat) (v : Value), B < W.heap.size → ArgsAt X W.heap.size h (.slice ua xs.length uc) xs → ArgsAt (X.setCell ⟨B, j, none⟩ v) W.heap.size h (.slice ua xs.length uc) xs := fun X B j v hB q => ArgsAt.grown q (set_grown X B j v) (hlt B hB)
    have stO : ∀ (X : World) (B j : Nat) (v : Value), B < W.heap.size → OwnA X h W.heap.size w1.heap.size (.slice ua xs.length uc) xs → OwnA (X.setCell ⟨B, j, none⟩ v) h W.heap.size w1.heap.size (.slice ua xs.length uc) xs := fun X B j v hB q => q.off (Or.inl hB) j v
    have stB : ∀ (X : World) (B j : Nat) (v : Value), w.heap.size ≤ B → Below w.heap.size w X → Below w.heap.size w (X.setCell ⟨B, j, none⟩ v) := fun X B j v hB q => q.setCell hB v
    refine ⟨k, n, s, _, xs, rfl, rfl, ⟨ArgsAt.low (lo := W.heap.size) (by omega) ?_, OwnA.wide (by omega) (by simp [World.setCell]) (lo := W.heap.size) (hi := w1.heap.size) ?_⟩, ?_⟩
    · iterate 9 refine stA _ _ _ _ (by omega) ?_
      exact ha1
    · iterate 9 refine stO _ _ _ _ (by omega) ?_
      exact ho1
    · iterate 9 refine stB _ _ _ _ (by omega) ?_
      exact hb)
  clear ha1 ho1 hb1
  go_wp2
  (try simp only [Exit.inBlock, Exit.then])
  refine bodyPost_ret (v := bv p k n s (.slice ua xs.length uc)) ?hr rfl ?_
  case hr =>
    rw [results_cell (a := 2) (t := 148) (ad := ⟨w.heap.size + 1, 0, none⟩) rfl rfl]
    go_simp
  exact HF.out _ _ _ _ _ _ _ _ _

/-- How far the copy of a row has come; the rows below it lie in blocks up to B. -/
def CopyRelB (h g n k B : Nat) (bs : List (ByteArray × T)) (w : World) : Prop :=
  ∃ (xs : List Value) (U : Nat → Value) (L R : Nat → Nat), w.ownsRow g 148 5 (.slice (some ⟨g, 0, none⟩) n n) n xs ∧ (∀ i p kk nn s txs, i < k → bs[i]? = some (p, T.node kk nn s txs) →
    (p.size ≤ maxLen ∧ s.size ≤ maxLen) ∧ xs[i * 5]? = some (.string p) ∧ xs[i * 5 + 1]? = some (.int .i64 kk) ∧ xs[i * 5 + 2]? = some (.int .i64 nn) ∧ xs[i * 5 + 3]? = some (.string s) ∧ xs[i * 5 + 4]? = some (U i) ∧ ArgsAt w (g + 1) h (U i) txs ∧ OwnA w h (L i) (R i) (U i) txs) ∧
    (∀ i, i < k → g < L i ∧ L i ≤ R i ∧ R i ≤ B) ∧ (∀ i j, i < j → j < k → R i ≤ L j)
theorem CopyRelB.below {h g n k B : Nat} {bs : List (ByteArray × T)} {w w' : World} (c : CopyRelB h g n k B bs w) (hb : Below w.heap.size w w') (hB : B ≤ w.heap.size) : CopyRelB h g n k B bs w' := by
  obtain ⟨xs, U, L, R, ho, hx, hl, hd⟩ := c
  refine ⟨xs, U, L, R, keep_own ho hb, fun i p kk nn s txs hi ht => ?_, hl, hd⟩
  obtain ⟨hs, x0, x1, x2, x3, x4, ha, hoa⟩ := hx i p kk nn s txs hi ht
  exact ⟨hs, x0, x1, x2, x3, x4, ha.below hb, hoa.keep fun b b1 b2 => hb.block b (by have := hl i hi; omega)⟩
theorem CopyRelB.cells {h g n k B : Nat} {bs : List (ByteArray × T)} {w : World} (c : CopyRelB h g n k B bs w) (hk : k < n) (j : Nat) (hj : j < 5) :
    (∃ v, w.cell? ⟨g, k * 5 + j, none⟩ = some v) ∧ w.frozen? ⟨g, k * 5 + j, none⟩ = false := by
  obtain ⟨xs, U, L, R, ho, _⟩ := c
  have hl := ho.1
  refine ⟨?_, ho.frozenAt _⟩
  rw [ho.cellAt (k * 5 + j) (by omega)]
  exact ⟨_, List.getElem?_eq_getElem (by omega)⟩
theorem set5 {xs : List Value} {a q : Nat} {v0 v1 v2 v3 v4 : Value} (h0 : a ≠ q) (h1 : a + 1 ≠ q) (h2 : a + 2 ≠ q) (h3 : a + 3 ≠ q) (h4 : a + 4 ≠ q) :
    (((((xs.set a v0).set (a + 1) v1).set (a + 2) v2).set (a + 3) v3).set (a + 4) v4)[q]? = xs[q]? := by
  rw [List.getElem?_set_ne h4, List.getElem?_set_ne h3, List.getElem?_set_ne h2, List.getElem?_set_ne h1, List.getElem?_set_ne h0]
/-- A Bind's five cells. -/
abbrev cells5 (w : World) (g k : Nat) (p : ByteArray) (kk nn : Int) (s : ByteArray) (u : Value) : World :=
  ((((w.setCell ⟨g, k * 5, none⟩ (.string p)).setCell ⟨g, k * 5 + 1, none⟩ (.int .i64 kk)).setCell ⟨g, k * 5 + 2, none⟩ (.int .i64 nn)).setCell ⟨g, k * 5 + 3, none⟩ (.string s)).setCell ⟨g, k * 5 + 4, none⟩ u
theorem cells5_heap (w : World) (g k : Nat) (p : ByteArray) (kk nn : Int) (s : ByteArray) (u : Value) {b : Nat} (h : b ≠ g) : (cells5 w g k p kk nn s u).heap[b]? = w.heap[b]? := by
  unfold cells5
  rw [Below.heap_setCell _ _ _ _ (by exact h), Below.heap_setCell _ _ _ _ (by exact h), Below.heap_setCell _ _ _ _ (by exact h), Below.heap_setCell _ _ _ _ (by exact h), Below.heap_setCell _ _ _ _ (by exact h)]
theorem CopyRelB.step {h g n k B B' : Nat} {bs : List (ByteArray × T)} {w : World} (c : CopyRelB h g n k B bs w) (hk : k < n) {p : ByteArray} {kk nn : Int} {s : ByteArray} {txs : List T} {u : Value} (ht : bs[k]? = some (p, T.node kk nn s txs)) (hs : p.size ≤ maxLen ∧ s.size ≤ maxLen) (ha : ArgsAt w (g + 1) h u txs)
    (hoa : OwnA w h B B' u txs) (hgB : g < B) (hBB : B ≤ B') : CopyRelB h g n (k + 1) B' bs (cells5 w g k p kk nn s u) := by
  obtain ⟨xs, U, L, R, ho, hx, hlr, hd⟩ := c
  have hl : xs.length = n * 5 := ho.1
  have o1 := (ho.stored (k * 5) (.string p)).1
  have o2 := (o1.stored (k * 5 + 1) (.int .i64 kk)).1
  have o3 := (o2.stored (k * 5 + 2) (.int .i64 nn)).1
  have o4 := (o3.stored (k * 5 + 3) (.string s)).1
  have o5 := (o4.stored (k * 5 + 4) u).1
  have hoth : ∀ b, b ≠ g → (cells5 w g k p kk nn s u).heap[b]? = w.heap[b]? := fun b hb => cells5_heap _ _ _ _ _ _ _ _ hb
  have up : ∀ {u' : Value} {txs' : List T}, ArgsAt w (g + 1) h u' txs' → ArgsAt (cells5 w g k p kk nn s u) (g + 1) h u' txs' := fun q =>
    q.keep fun ad v hlo hv => by rw [cell_heap (hoth ad.block (by omega))]; exact hv
  have upo : ∀ {u' : Value} {txs' : List T} {l r : Nat}, g < l → OwnA w h l r u' txs' → OwnA (cells5 w g k p kk nn s u) h l r u' txs' :=
    fun hgl q => q.keep fun b b1 _ => hoth b (by omega)
  refine ⟨_, fun i => if i = k then u else U i, fun i => if i = k then B else L i, fun i => if i = k then B' else R i, o5, fun i p' kk' nn' s' txs' hi ht' => ?_, fun i hi => ?_, fun i j hij hj => ?_⟩
  · by_cases hik : i = k
    · subst hik
      rw [ht] at ht'
      cases ht'
      refine ⟨hs, ?_, ?_, ?_, ?_, ?_, by simpa using up ha, by simpa using upo hgB hoa⟩
      all_goals (simp [List.getElem?_set]; omega)
    · obtain ⟨hs', x0, x1, x2, x3, x4, ha', hoa'⟩ := hx i p' kk' nn' s' txs' (by omega) ht'
      refine ⟨hs', ?_, ?_, ?_, ?_, ?_, by simpa [hik] using up ha', by simpa [hik] using upo (hlr i (by omega)).1 hoa'⟩
      · rw [set5 (by omega) (by omega) (by omega) (by omega) (by omega)]; exact x0
      · rw [set5 (by omega) (by omega) (by omega) (by omega) (by omega)]; exact x1
      · rw [set5 (by omega) (by omega) (by omega) (by omega) (by omega)]; exact x2
      · rw [set5 (by omega) (by omega) (by omega) (by omega) (by omega)]; exact x3
      · rw [set5 (by omega) (by omega) (by omega) (by omega) (by omega)]; simpa [hik] using x4
  · by_cases hik : i = k
    · simp [hik]; omega
    · have := hlr i (by omega)
      simp [hik]; omega
  · have hik : i ≠ k := by omega
    by_cases hjk : j = k
    · have := hlr i (by omega)
      simp [hik, hjk]; omega
    · simpa [hik, hjk] using hd i j hij (by omega)
theorem CopyRelB.done {h g n B : Nat} {bs : List (ByteArray × T)} {w : World} (c : CopyRelB h g n n B bs w) (hn : n = bs.length) (hl : n ≤ maxLen) (hB : g < B) : BsObj g B h (.slice (some ⟨g, 0, none⟩) n n) bs w := by
  obtain ⟨xs, U, L, R, ho, hx, hlr, hd⟩ := c
  have hii : ∀ {i : Nat} {x : ByteArray × T}, bs[i]? = some x → i < n := fun {i} {t} ht => by have := (List.getElem?_eq_some_iff.1 ht).1; omega
  constructor
  · refine ⟨_, n, by rw [hn], by omega, Or.inr ⟨g, 0, rfl, Nat.le_refl _, fun i p kk nn s txs ht => ?_⟩⟩
    have hi := hii ht
    obtain ⟨hs, x0, x1, x2, x3, x4, ha, _⟩ := hx i p kk nn s txs hi ht
    refine ⟨hs.1, hs.2, U i, ?_, ?_, ?_, ?_, ?_, ha.low (by omega)⟩
    · rw [Nat.zero_add, ho.cellAt (i * 5) (by omega), x0]
    · rw [Nat.zero_add, ho.cellAt (i * 5 + 1) (by omega), x1]
    · rw [Nat.zero_add, ho.cellAt (i * 5 + 2) (by omega), x2]
    · rw [Nat.zero_add, ho.cellAt (i * 5 + 3) (by omega), x3]
    · rw [Nat.zero_add, ho.cellAt (i * 5 + 4) (by omega), x4]
  · subst hn
    refine ⟨_, _, rfl, Or.inr ⟨g, xs, U, L, R, rfl, Nat.le_refl _, hB, ho, fun i p kk nn s txs ht => ?_, fun i j hij hj => Or.inl (hd i j hij hj)⟩⟩
    obtain ⟨_, _, _, _, _, x4, _, hoa⟩ := hx i p kk nn s txs (hii ht) ht
    have := hlr i (hii ht)
    exact ⟨x4, by omega, by omega, by omega, hoa⟩

/-- A copy of a list of Binds. -/
def CopyBs (h : Nat) (bs : List (ByteArray × T)) (w : World) (e : Ending) (w' : World) : Prop := ∃ v, e = .returned v ∧ BsObj w.heap.size w'.heap.size h v bs w' ∧ Below w.heap.size w w'

set_option maxRecDepth 100000 in
set_option maxHeartbeats 1600000 in
theorem toBs_any (v : Value) (bs : List (ByteArray × T)) (lo h : Nat) (w : World) (hw : wBs bs ≤ 1048576) (hv : BsAt w lo h v bs) :
    Calls Try.prog 42 #[v] w (CopyBs h bs w) := by
  obtain ⟨i0, hi, hz0, hz1, hz2⟩ := info_parts infoBind
  have HI := Lib.hid hi; clear hi
  have HZ0 := Lib.hid hz0; clear hz0
  have HZ1 := Lib.hid hz1; clear hz1
  have HZ2 := Lib.hid hz2; clear hz2
  have HC := Lib.hid hv
  obtain ⟨a, cap, rfl⟩ := hv.slice
  clear hv
  have HWT := Lib.hid hw
  obtain ⟨n, hn⟩ : ∃ n, n = bs.length := ⟨_, rfl⟩
  have hl : n ≤ 1048576 := by have := wBs_len bs; omega
  clear hw
  rw [← hn] at HC ⊢
  have HN := Lib.hid hn; clear hn
  go_enter Try.func42, Try.ntmps42
  go_wp2_with (first | (at_make; refine wpList_make_full _ rfl (.tmp 6) (.tmp 6) 57 rfl w.heap.size 148 i0 (.agg #[.string ByteArray.empty, .int .i64 0, .int .i64 0, .string ByteArray.empty, .slice none 0 0]) 5 Try.underlying57 HI.out HZ0.out HZ1.out _ _ _ _ n rfl rfl rfl rfl ?m1 ?m2 ?m3 ?_))
  case m1 => rw [HZ2.out]; omega
  case m2 => unfold maxLen; omega
  case m3 => exact Nat.le_refl _
  intro w1 hown hgrow
  have hb : Below w.heap.size w w1 := (Below.refl _ _).grown hgrow (Nat.le_refl _) (fun k hk => by cases hk)
  have hrel0 : CopyRelB h w.heap.size n 0 w1.heap.size bs w1 := ⟨_, fun _ => undef, fun _ => 0, fun _ => 0, hown, fun i _ _ _ _ _ hi => by omega, fun i hi => by omega, fun i j hij hj => by omega⟩
  have HR0 := Lib.hid hrel0; clear hrel0 hown
  have hsz : w.heap.size < w1.heap.size := by
    obtain ⟨_, _, _, _, ho, _⟩ := HR0.out
    exact (ho.lt w.heap.size rfl).2
  have HB := Lib.hid hb; clear hb hgrow
  go_wp2
  go_loopw [4] (fun i wr => ∃ k : Nat, k ≤ n ∧ i = .int .i64 k ∧ Hid (CopyRelB h w.heap.size n k wr.heap.size bs wr) ∧ Hid (Below w.heap.size w wr) ∧ w.heap.size < wr.heap.size) (fun i _ => n - (intOf i).toNat)
  case atStart => exact ⟨0, Nat.zero_le _, rfl, HR0, HB, hsz⟩
  case round =>
    obtain ⟨k, hk, rfl, HR, HBR, hsr⟩ := hrel
    by_cases hlt : k < n
    · obtain ⟨y, ht⟩ : ∃ y, bs[k]? = some y := ⟨_, List.getElem?_eq_getElem (by have := HN.out; omega)⟩
      obtain ⟨b, o, c', p, tk', tn, tsn, txs, u', e, rfl, _, hps, hszn, c0, c1, c2, c3, c4, har⟩ := HC.out.at ht
      obtain ⟨rfl, -, rfl⟩ : a = some ⟨b, o, none⟩ ∧ n = bs.length ∧ cap = c' := by simpa using e
      have d0 := cell_on HBR.out c0
      have d1 := cell_on HBR.out c1
      have d2 := cell_on HBR.out c2
      have d3 := cell_on HBR.out c3
      have d4 := cell_on HBR.out c4
      clear c0 c1 c2 c3 c4 e
      have HAR := Lib.hid (har.below HBR.out); clear har
      have hwt := wBs_mem ht
      have HWX : Hid (wT (.node tk' tn tsn txs) ≤ 1048576) := Lib.hid (by have := HWT.out; simp only at hwt; omega)
      clear hwt
      have HTT := Lib.hid ht; clear ht
      have HSZ := Lib.hid (And.intro hps hszn); clear hszn hps
      go_wp2_with fail
      refine (toBind_any p tk' tn tsn u' txs _ HSZ.out.2 HAR.out HWX.out).mono ?_
      rintro e w2 ⟨kk, nn, ss, u2, xx, rfl, he, ⟨ha2, ho2⟩, hb2⟩
      cases he
      have HR2 := Lib.hid (HR.out.below hb2 (by simp))
      have HB2 := Lib.hid (HBR.out.trans (hb2.mono HBR.out.size))
      have hs2' := hb2.size
      obtain ⟨⟨o0, g0⟩, f0⟩ := HR2.out.cells hlt 0 (by omega)
      obtain ⟨⟨o1, g1⟩, f1⟩ := HR2.out.cells hlt 1 (by omega)
      obtain ⟨⟨o2, g2⟩, f2⟩ := HR2.out.cells hlt 2 (by omega)
      obtain ⟨⟨o3, g3⟩, f3⟩ := HR2.out.cells hlt 3 (by omega)
      obtain ⟨⟨o4, g4⟩, f4⟩ := HR2.out.cells hlt 4 (by omega)
      rw [Nat.add_zero] at g0 f0
      have ha3 : ArgsAt w2 (w.heap.size + 1) h u2 txs := ha2.low (by omega)
      obtain ⟨ua, uc, rfl⟩ := ha2.slice
      have HST := Lib.hid (HR2.out.step hlt HTT.out HSZ.out ha3 (ho2.wide (by simp) (Nat.le_refl _)) (by omega) (by omega)); clear ha2 ha3 hs2' hb2 ho2
      go_wp2
      go_roundw
      case rel => exact ⟨k + 1, by omega, by go_num, Lib.hid (by simpa using HST.out), Lib.hid (((((HB2.out.setCell (Nat.le_refl _) _).setCell (Nat.le_refl _) _).setCell (Nat.le_refl _) _).setCell (Nat.le_refl _) _).setCell (Nat.le_refl _) _), by have := HB2.out.size; have := HR2.out; simp; obtain ⟨_, _, _, _, ho, _⟩ := this; exact (ho.lt w.heap.size rfl).2⟩
      case measure => simp [intOf]; omega
    · have hkn : k = n := by omega
      subst hkn
      have HD := Lib.hid (HR.out.done HN.out (by unfold maxLen; omega) hsr)
      go_wp2
      go_ret
      exact ⟨_, rfl, HD.out, HBR.out⟩

/-- Copied, with what it reads as for two heights. -/
theorem BsAt.two {w : World} {lo lo' h h' : Nat} {u v : Value} {bs : List (ByteArray × T)} (a : BsAt w lo h u bs) (b : BsAt w lo' h' v bs) : BsAt w lo (max h h') u bs ∧ BsAt w lo' (max h h') v bs := ⟨a.le (Nat.le_max_left _ _), b.le (Nat.le_max_right _ _)⟩
end Go.Proofs.Ytidbokheeieifaa
