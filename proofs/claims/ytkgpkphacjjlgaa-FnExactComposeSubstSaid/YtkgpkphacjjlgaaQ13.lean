/-
  The method apply of a substitution; impl.ApplySubst.
  laws.toBind and laws.toBindS copy a list of Binds into memory of the call's own.
  A list of Binds in the making: each Bind's rows lie behind those of the ones before. No walk.
-/
import Derived.Test.YtkgpkphacjjlgaaQ12
import Derived.Test.YtkgpkphacjjlgaaQ7
import Derived.Test.YtkgpkphacjjlgaaQ6
import Derived.Deep.RegionLawGrows
namespace Go.Proofs.Ytkgpkphacjjlgaa
open Go.RowKit Go.Maps Go.WideMaps

set_option maxRecDepth 100000 in
set_option maxHeartbeats 1600000 in
theorem appI_any (b : Nat) (bs : List (ByteArray × T)) (l : List (ByteArray × Value)) (v : Value) (t : T) (lo lo2 h h0 : Nat) (w : World) (ht : TabAt b l w) (hbv : BsV w lo h bs l) (hw : wBs bs ≤ 1048576) (htm : TermAt w lo2 h0 v t) (hwt : wT t ≤ 4194303) :
    Calls Try.prog 56 #[.agg #[.map (some b)], v] w (CopyR (h0 + h) (mapT (findB bs) (fun s => s) t) w) := by
  have hcf : ∀ (args : Array Value) (W : World), (callFunc 95 args).run Try.prog W = .ok (.enter 95 args) W := fun _ _ => by kernel_rfl
  obtain ⟨k, n, s, a, m, cap, rfl⟩ := htm.shape
  obtain ⟨W0, hW0⟩ : ∃ W0, W0 = ((w.alloc (.cells #[.map (some b)] 84)).alloc (.cells #[.int .i64 k, .int .i64 n, .string s, .slice a m cap] 29)).alloc (.cells #[.int .i64 0, .int .i64 0, .string ⟨#[]⟩, .slice none 0 0] 29) := ⟨_, rfl⟩
  have hB0 : Below w.heap.size w W0 := by rw [hW0]; exact (((Below.refl _ _).alloc (Nat.le_refl _) _).alloc (by simp) _).alloc (by simp; omega) _
  have r0 : W0.heap[w.heap.size]? = some (.cells #[.map (some b)] 84 (0, 0)) := by rw [hW0, Below.heap_alloc _ _ _ (by simp; omega), Below.heap_alloc _ _ _ (by simp)]; exact heap_new w _ rfl
  have r2 : W0.heap[w.heap.size + 2]? = some (trow 0 0 ByteArray.empty (.slice none 0 0)) := by rw [hW0]; exact heap_new _ _ (by simp)
  have hs0 : W0.heap.size = w.heap.size + 3 := by rw [hW0]; simp
  have hcs : W0.cell? ⟨w.heap.size, 0, none⟩ = some (.map (some b)) := by have := cell_of_row W0 w.heap.size 0 _ _ _ r0; simpa using this
  have HC := Lib.hid (chg_any _ _ _ _ h _ t lo2 h0 W0 hcf (appC_any b w.heap.size bs l lo h W0 (ht.below hB0) (hbv.below hB0) hw hcs) (htm.below hB0) hwt)
  have HB0 := Lib.hid hB0
  have HR2 := Lib.hid r2
  have HS0 := Lib.hid hs0
  clear hcf ht htm hbv hw hwt hB0 r0 r2 hs0 hcs
  go_enter Try.func56, Try.ntmps56
  go_wp2_with fail
  rw [← hW0]
  refine HC.out.mono ?_
  rintro e w1 ⟨k', n', s', u', xs', rfl, hef, hs', ho, hb⟩
  obtain ⟨ua, uc, rfl⟩ := ho.slice
  have HEF := Lib.hid hef
  obtain ⟨m', hm'⟩ : ∃ m', m' = xs'.length := ⟨_, rfl⟩
  have q1 : w1.heap[w.heap.size + 2]? = some (trow 0 0 ByteArray.empty (.slice none 0 0)) := (hb.block _ (by have := HS0.out; omega)).trans HR2.out
  obtain ⟨⟨y0, y1, y2, y3⟩, f0, f1, f2, f3⟩ := cells_of4 q1
  have HF := Lib.hid (fun v0 v1 v2 v3 => copy_fin2 (b := w.heap.size + 2) (k := k') (n := n') (v0 := v0) (v1 := v1) (v2 := v2) (v3 := v3) hs' ho (HB0.out.trans (hb.mono HB0.out.size)) (by omega) (by have := HS0.out; omega))
  rw [← hm'] at HF ⊢
  clear q1 ho hb hm' hW0 hef hs'
  go_wp2
  (try simp only [Exit.inBlock, Exit.then])
  refine bodyPost_ret (v := tv k' n' s' (.slice ua m' uc)) ?hr rfl ?_
  case hr =>
    rw [results_cell (a := 4) (t := 29) (ad := ⟨w.heap.size + 2, 0, none⟩) rfl rfl]
    go_simp
  rw [HEF.out]
  exact HF.out _ _ _ _

set_option maxRecDepth 100000 in
set_option maxHeartbeats 1600000 in
theorem iApp_any (u : Value) (bs : List (ByteArray × T)) (v : Value) (t : T) (lo lo2 h h0 : Nat) (w : World) (hv : BsAt w lo h u bs) (hw : wBs bs ≤ 1048576) (htm : TermAt w lo2 h0 v t) (hwt : wT t ≤ 4194303) :
    Calls Try.prog 16 #[u, v] w (CopyR (h0 + h) (mapT (findB bs) (fun s => s) t) w) := by
  obtain ⟨k, n, s, a, m, cap, rfl⟩ := htm.shape
  obtain ⟨W0, hW0⟩ : ∃ W0, W0 = (w.alloc (.cells #[.int .i64 k, .int .i64 n, .string s, .slice a m cap] 29)).alloc (.cells #[.int .i64 0, .int .i64 0, .string ⟨#[]⟩, .slice none 0 0] 29) := ⟨_, rfl⟩
  have hB0 : Below w.heap.size w W0 := by rw [hW0]; exact ((Below.refl _ _).alloc (Nat.le_refl _) _).alloc (by simp) _
  have hs0 : W0.heap.size = w.heap.size + 2 := by rw [hW0]; simp
  have r0 : W0.heap[w.heap.size]? = some (trow k n s (.slice a m cap)) := by rw [hW0, Below.heap_alloc _ _ _ (by simp)]; exact heap_new w _ rfl
  have r1 : W0.heap[w.heap.size + 1]? = some (trow 0 0 ByteArray.empty (.slice none 0 0)) := by rw [hW0]; exact heap_new _ _ (by simp)
  have hd0 : Below W0.heap.size W0 W0.drew := Below.drew (Below.refl _ _)
  obtain ⟨l, hbv, hcall⟩ := subOf_any u bs lo h W0.drew (by have := wBs_len bs; omega) ((hv.below hB0).below hd0)
  obtain ⟨au, cu, rfl⟩ := hv.slice
  obtain ⟨r, hr⟩ : ∃ r, r = mapT (findB bs) (fun s => s) t := ⟨_, rfl⟩
  have HAPP := Lib.hid (fun (b : Nat) (W : World) (h1 : TabAt b l W) (h2 : BsV W lo h bs l) (h3 : TermAt W lo2 h0 (tv k n s (.slice a m cap)) t) => appI_any b bs l _ t lo lo2 h h0 W h1 h2 hw h3 hwt)
  rw [← hr] at HAPP ⊢
  have HBV := Lib.hid hbv; have HC := Lib.hid hcall
  have HTM := Lib.hid ((htm.below hB0).below hd0)
  have HB0 := Lib.hid hB0; have HS0 := Lib.hid hs0
  have HR : Hid (∀ w', Below W0.heap.size W0 w' → w'.cell? ⟨w.heap.size, 0, none⟩ = some (.int .i64 k) ∧ w'.cell? ⟨w.heap.size, 1, none⟩ = some (.int .i64 n) ∧ w'.cell? ⟨w.heap.size, 2, none⟩ = some (.string s) ∧ w'.cell? ⟨w.heap.size, 3, none⟩ = some (.slice a m cap) ∧ Below W0.heap.size W0 w') := Lib.hid (fun w' hb => by
    obtain ⟨c0, c1, c2, c3⟩ := (cells_of4 ((hb.block w.heap.size (by omega)).trans r0)).1
    exact ⟨c0, c1, c2, c3, hb⟩)
  have HZ : Hid (∀ w', Below W0.heap.size W0 w' → w'.heap[w.heap.size + 1]? = some (trow 0 0 ByteArray.empty (.slice none 0 0))) := Lib.hid (fun w' hb => (hb.block _ (by omega)).trans r1)
  clear hv htm hbv hcall hB0 hs0 r0 r1 hw hwt hr
  go_enter Try.func16, Try.ntmps16
  go_upto_region 1 with fail
  rw [← hW0]
  clear hW0
  obtain ⟨c0, c1, c2, c3, _⟩ := HR.out _ (Below.refl _ _)
  go_region_law (first
    | (go_simp; go_at_call 55; refine HC.out.mono ?_; rintro e w1 ⟨b, rfl, hbl, htab, hb1⟩; have hB1 : Below W0.heap.size W0 w1 := bel_two hd0 hb1; obtain ⟨d0, d1, d2, d3, _⟩ := HR.out _ hB1; have HT1 := Lib.hid (And.intro htab (And.intro (HBV.out.below hb1) (HTM.out.below hb1))); clear htab hbl)
    | (go_simp; go_at_call 56; refine (HAPP.out b w1 HT1.out.1 HT1.out.2.1 HT1.out.2.2).mono ?_; rintro e w2 ⟨k', n', s', u', xs', rfl, hef, hs', ho, hb2⟩; have hB2 : Below W0.heap.size W0 w2 := bel_two hB1 hb2; have hZ := HZ.out _ hB2; obtain ⟨⟨y0, y1, y2, y3⟩, f0, f1, f2, f3⟩ := cells_of4 hZ; obtain ⟨ua, uc, rfl⟩ := ho.slice))
  all_goals (
    have HF := Lib.hid (fun v0 v1 v2 v3 => copy_fin2 (w := w) (wr := w2) (b := w.heap.size + 1) (B := w1.heap.size) (k := k') (n := n') (v0 := v0) (v1 := v1) (v2 := v2) (v3 := v3) hs' ho (HB0.out.trans (hB2.mono HB0.out.size)) (Nat.le_succ _) (by have := HS0.out; have := hB1.size; omega))
    obtain ⟨m', hm'⟩ : ∃ m', m' = xs'.length := ⟨_, rfl⟩
    rw [← hm'] at HF ⊢
    have HEF := Lib.hid hef
    clear hm' hef ho hb2 hB2 hB1 hb1
    go_wp2
    (try simp only [Exit.inBlock, Exit.then])
    refine bodyPost_ret (v := tv k' n' s' (.slice ua m' uc)) ?_ rfl ?_
    · rw [results_cell (a := 4) (t := 29) (ad := ⟨w.heap.size + 1, 0, none⟩) rfl rfl]
      go_simp
    · rw [HEF.out]
      exact HF.out _ _ _ _)
end Go.Proofs.Ytkgpkphacjjlgaa
namespace Go.Proofs.Ytkgpkphacjjlgaa
open Go.RowKit

theorem infoBind : (Try.prog.info? 87).map (fun i => (i.zero, i.size, i.bytes)) = some (some (.agg #[.string ByteArray.empty, .int .i64 0, .int .i64 0, .string ByteArray.empty, .slice none 0 0]), 5, 72) := by kernel_rfl

/-- A copy of a Bind. -/
def CopyBd (h : Nat) (p : ByteArray) (t : T) (w : World) (e : Ending) (w' : World) : Prop :=
  ∃ k n s u xs, e = .returned (bv p k n s u) ∧ t = .node k n s xs ∧ (ArgsAt w' w.heap.size h u xs ∧ OwnA w' h w.heap.size w'.heap.size u xs) ∧ Below w.heap.size w w'

set_option maxRecDepth 100000 in
set_option maxHeartbeats 800000 in
theorem toBind_any {lo h : Nat} (p : ByteArray) (k n : Int) (s : ByteArray) (u : Value) (xs : List T) (w : World) (hs : s.size ≤ maxLen) (ha : ArgsAt w lo h u xs) (hw : wT (.node k n s xs) ≤ 1048576) :
    Calls Try.prog 82 #[bv p k n s u] w (CopyBd h p (.node k n s xs) w) := by
  obtain ⟨W, hW⟩ : ∃ W, W = ((w.alloc (.cells #[.string p, .int .i64 k, .int .i64 n, .string s, u] 126)).alloc (.cells #[.string ⟨#[]⟩, .int .i64 0, .int .i64 0, .string ⟨#[]⟩, .slice none 0 0] 87)).alloc (.cells #[.string p, .int .i64 0, .int .i64 0, .string ⟨#[]⟩, .slice none 0 0] 87) := ⟨_, rfl⟩
  have hWs : W.heap.size = w.heap.size + 1 + 1 + 1 := by rw [hW]; simp
  have r1 : W.heap[w.heap.size + 1]? = some (.cells #[.string ⟨#[]⟩, .int .i64 0, .int .i64 0, .string ⟨#[]⟩, .slice none 0 0] 87 (0, 0)) := by rw [hW]; exact heap_mid _ _ _ (by simp)
  have r2 : W.heap[w.heap.size + 1 + 1]? = some (.cells #[.string p, .int .i64 0, .int .i64 0, .string ⟨#[]⟩, .slice none 0 0] 87 (0, 0)) := by rw [hW]; exact heap_new _ _ (by simp)
  have hbW : Below w.heap.size w W := by rw [hW]; exact (((Below.refl _ _).alloc (Nat.le_refl _) _).alloc (by simp) _).alloc (by simp; omega) _
  have HC := Lib.hid (toT_own (tv k n s u) (.node k n s xs) lo h W ⟨_, _, _, _, xs, rfl, rfl, hs, ha.below hbW⟩ hw)
  clear ha hw
  have HBW := Lib.hid hbW; clear hbW
  have HWS := Lib.hid hWs; clear hWs
  go_enter Try.func82, Try.ntmps82
  go_wp2_with fail
  rw [← hW]
  clear hW
  refine HC.out.mono ?_
  rintro e w1 ⟨k', n', s', u1, xs', rfl, he, hs', ⟨ha1, ho1⟩, hb1⟩
  cases he
  obtain ⟨ua, uc, rfl⟩ := ha1.slice
  have q1 := hb1.block (w.heap.size + 1) (by have := HWS.out; omega)
  have q2 := hb1.block (w.heap.size + 1 + 1) (by have := HWS.out; omega)
  rw [r1] at q1
  rw [r2] at q2
  clear r1 r2
  have a0 := cell_of_row w1 (w.heap.size + 1) 0 _ _ _ q1
  have a1 := cell_of_row w1 (w.heap.size + 1) 1 _ _ _ q1
  have a2 := cell_of_row w1 (w.heap.size + 1) 2 _ _ _ q1
  have a3 := cell_of_row w1 (w.heap.size + 1) 3 _ _ _ q1
  have a4 := cell_of_row w1 (w.heap.size + 1) 4 _ _ _ q1
  have f0 := frozen_of_row w1 (w.heap.size + 1) 0 _ _ q1
  have f1 := frozen_of_row w1 (w.heap.size + 1) 1 _ _ q1
  have f2 := frozen_of_row w1 (w.heap.size + 1) 2 _ _ q1
  have f3 := frozen_of_row w1 (w.heap.size + 1) 3 _ _ q1
  have f4 := frozen_of_row w1 (w.heap.size + 1) 4 _ _ q1
  have b0 := cell_of_row w1 (w.heap.size + 1 + 1) 0 _ _ _ q2
  have b1 := cell_of_row w1 (w.heap.size + 1 + 1) 1 _ _ _ q2
  have b2 := cell_of_row w1 (w.heap.size + 1 + 1) 2 _ _ _ q2
  have b3 := cell_of_row w1 (w.heap.size + 1 + 1) 3 _ _ _ q2
  have b4 := cell_of_row w1 (w.heap.size + 1 + 1) 4 _ _ _ q2
  have g1 := frozen_of_row w1 (w.heap.size + 1 + 1) 1 _ _ q2
  have g2 := frozen_of_row w1 (w.heap.size + 1 + 1) 2 _ _ q2
  have g3 := frozen_of_row w1 (w.heap.size + 1 + 1) 3 _ _ q2
  have g4 := frozen_of_row w1 (w.heap.size + 1 + 1) 4 _ _ q2
  simp at a0 a1 a2 a3 a4 b0 b1 b2 b3 b4
  clear q1 q2 hs'
  have HF : Hid (∀ v1 v2 v3 v4 y0 y1 y2 y3 y4, CopyBd h p (.node k n s xs) w (.returned (bv p k n s (.slice ua xs.length uc)))
      (((((((((w1.setCell ⟨w.heap.size + 1 + 1, 1, none⟩ v1).setCell ⟨w.heap.size + 1 + 1, 2, none⟩ v2).setCell ⟨w.heap.size + 1 + 1, 3, none⟩ v3).setCell ⟨w.heap.size + 1 + 1, 4, none⟩ v4).setCell ⟨w.heap.size + 1, 0, none⟩ y0).setCell ⟨w.heap.size + 1, 1, none⟩ y1).setCell ⟨w.heap.size + 1, 2, none⟩ y2).setCell ⟨w.heap.size + 1, 3, none⟩ y3).setCell ⟨w.heap.size + 1, 4, none⟩ y4)) := Lib.hid (fun v1 v2 v3 v4 y0 y1 y2 y3 y4 => by
    have h4 := HWS.out
    have hb := HBW.out.trans (hb1.mono HBW.out.size)
    have hlt : ∀ B : Nat, B < W.heap.size → ∀ i, some B = some i → i < W.heap.size := fun B h i e => by cases e; exact h
    have stA : ∀ (X : World) (B j : Nat) (v : Value), B < W.heap.size → ArgsAt X W.heap.size h (.slice ua xs.length uc) xs → ArgsAt (X.setCell ⟨B, j, none⟩ v) W.heap.size h (.slice ua xs.length uc) xs := fun X B j v hB q => ArgsAt.grown q (set_grown X B j v) (hlt B hB)
    have stO : ∀ (X : World) (B j : Nat) (v : Value), B < W.heap.size → OwnA X h W.heap.size w1.heap.size (.slice ua xs.length uc) xs → OwnA (X.setCell ⟨B, j, none⟩ v) h W.heap.size w1.heap.size (.slice ua xs.length uc) xs := fun X B j v hB q => q.off (Or.inl hB) j v
    have stB : ∀ (X : World) (B j : Nat) (v : Value), w.heap.size ≤ B → Below w.heap.size w X → Below w.heap.size w (X.setCell ⟨B, j, none⟩ v) := fun X B j v hB q => q.setCell hB v
    refine ⟨k, n, s, _, xs, rfl, rfl, ⟨ArgsAt.low (lo := W.heap.size) (by omega) ?_, OwnA.wide (by omega) (by simp [World.setCell]) (lo := W.heap.size) (hi := w1.heap.size) ?_⟩, ?_⟩
    · iterate 9 refine stA _ _ _ _ (by omega) ?_
      exact ha1
    · iterate 9 refine stO _ _ _ _ (by omega) ?_
      exact ho1
    · iterate 9 refine stB _ _ _ _ (by omega) ?_
      exact hb)
  clear ha1 ho1 hb1
  go_wp2
  (try simp only [Exit.inBlock, Exit.then])
  refine bodyPost_ret (v := bv p k n s (.slice ua xs.length uc)) ?hr rfl ?_
  case hr =>
    rw [results_cell (a := 2) (t := 87) (ad := ⟨w.heap.size + 1, 0, none⟩) rfl rfl]
    go_simp
  exact HF.out _ _ _ _ _ _ _ _ _

/-- How far the copy of a row has come; the rows below it lie in blocks up to B. -/
def CopyRelB (h g n k B : Nat) (bs : List (ByteArray × T)) (w : World) : Prop :=
  ∃ (xs : List Value) (U : Nat → Value) (L R : Nat → Nat), w.ownsRow g 87 5 (.slice (some ⟨g, 0, none⟩) n n) n xs ∧ (∀ i p kk nn s txs, i < k → bs[i]? = some (p, T.node kk nn s txs) →
    (p.size ≤ maxLen ∧ s.size ≤ maxLen) ∧ xs[i * 5]? = some (.string p) ∧ xs[i * 5 + 1]? = some (.int .i64 kk) ∧ xs[i * 5 + 2]? = some (.int .i64 nn) ∧ xs[i * 5 + 3]? = some (.string s) ∧ xs[i * 5 + 4]? = some (U i) ∧ ArgsAt w (g + 1) h (U i) txs ∧ OwnA w h (L i) (R i) (U i) txs) ∧
    (∀ i, i < k → g < L i ∧ L i ≤ R i ∧ R i ≤ B) ∧ (∀ i j, i < j → j < k → R i ≤ L j)
theorem CopyRelB.below {h g n k B : Nat} {bs : List (ByteArray × T)} {w w' : World} (c : CopyRelB h g n k B bs w) (hb : Below w.heap.size w w') (hB : B ≤ w.heap.size) : CopyRelB h g n k B bs w' := by
  obtain ⟨xs, U, L, R, ho, hx, hl, hd⟩ := c
  refine ⟨xs, U, L, R, keep_own ho hb, fun i p kk nn s txs hi ht => ?_, hl, hd⟩
  obtain ⟨hs, x0, x1, x2, x3, x4, ha, hoa⟩ := hx i p kk nn s txs hi ht
  exact ⟨hs, x0, x1, x2, x3, x4, ha.below hb, hoa.keep fun b b1 b2 => hb.block b (by have := hl i hi; omega)⟩
theorem CopyRelB.cells {h g n k B : Nat} {bs : List (ByteArray × T)} {w : World} (c : CopyRelB h g n k B bs w) (hk : k < n) (j : Nat) (hj : j < 5) :
    (∃ v, w.cell? ⟨g, k * 5 + j, none⟩ = some v) ∧ w.frozen? ⟨g, k * 5 + j, none⟩ = false := by
  obtain ⟨xs, U, L, R, ho, _⟩ := c
  have hl := ho.1
  refine ⟨?_, ho.frozenAt _⟩
  rw [ho.cellAt (k * 5 + j) (by omega)]
  exact ⟨_, List.getElem?_eq_getElem (by omega)⟩
theorem set5 {xs : List Value} {a q : Nat} {v0 v1 v2 v3 v4 : Value} (h0 : a ≠ q) (h1 : a + 1 ≠ q) (h2 : a + 2 ≠ q) (h3 : a + 3 ≠ q) (h4 : a + 4 ≠ q) :
    (((((xs.set a v0).set (a + 1) v1).set (a + 2) v2).set (a + 3) v3).set (a + 4) v4)[q]? = xs[q]? := by
  rw [List.getElem?_set_ne h4, List.getElem?_set_ne h3, List.getElem?_set_ne h2, List.getElem?_set_ne h1, List.getElem?_set_ne h0]
/-- A Bind's five cells. -/
abbrev cells5 (w : World) (g k : Nat) (p : ByteArray) (kk nn : Int) (s : ByteArray) (u : Value) : World :=
  ((((w.setCell ⟨g, k * 5, none⟩ (.string p)).setCell ⟨g, k * 5 + 1, none⟩ (.int .i64 kk)).setCell ⟨g, k * 5 + 2, none⟩ (.int .i64 nn)).setCell ⟨g, k * 5 + 3, none⟩ (.string s)).setCell ⟨g, k * 5 + 4, none⟩ u
theorem cells5_heap (w : World) (g k : Nat) (p : ByteArray) (kk nn : Int) (s : ByteArray) (u : Value) {b : Nat} (h : b ≠ g) : (cells5 w g k p kk nn s u).heap[b]? = w.heap[b]? := by
  unfold cells5
  rw [Below.heap_setCell _ _ _ _ (by exact h), Below.heap_setCell _ _ _ _ (by exact h), Below.heap_setCell _ _ _ _ (by exact h), Below.heap_setCell _ _ _ _ (by exact h), Below.heap_setCell _ _ _ _ (by exact h)]
theorem CopyRelB.step {h g n k B B' : Nat} {bs : List (ByteArray × T)} {w : World} (c : CopyRelB h g n k B bs w) (hk : k < n) {p : ByteArray} {kk nn : Int} {s : ByteArray} {txs : List T} {u : Value} (ht : bs[k]? = some (p, T.node kk nn s txs)) (hs : p.size ≤ maxLen ∧ s.size ≤ maxLen) (ha : ArgsAt w (g + 1) h u txs)
    (hoa : OwnA w h B B' u txs) (hgB : g < B) (hBB : B ≤ B') : CopyRelB h g n (k + 1) B' bs (cells5 w g k p kk nn s u) := by
  obtain ⟨xs, U, L, R, ho, hx, hlr, hd⟩ := c
  have hl : xs.length = n * 5 := ho.1
  have o1 := (ho.stored (k * 5) (.string p)).1
  have o2 := (o1.stored (k * 5 + 1) (.int .i64 kk)).1
  have o3 := (o2.stored (k * 5 + 2) (.int .i64 nn)).1
  have o4 := (o3.stored (k * 5 + 3) (.string s)).1
  have o5 := (o4.stored (k * 5 + 4) u).1
  have hoth : ∀ b, b ≠ g → (cells5 w g k p kk nn s u).heap[b]? = w.heap[b]? := fun b hb => cells5_heap _ _ _ _ _ _ _ _ hb
  have up : ∀ {u' : Value} {txs' : List T}, ArgsAt w (g + 1) h u' txs' → ArgsAt (cells5 w g k p kk nn s u) (g + 1) h u' txs' := fun q =>
    q.keep fun ad v hlo hv => by rw [cell_heap (hoth ad.block (by omega))]; exact hv
  have upo : ∀ {u' : Value} {txs' : List T} {l r : Nat}, g < l → OwnA w h l r u' txs' → OwnA (cells5 w g k p kk nn s u) h l r u' txs' :=
    fun hgl q => q.keep fun b b1 _ => hoth b (by omega)
  refine ⟨_, fun i => if i = k then u else U i, fun i => if i = k then B else L i, fun i => if i = k then B' else R i, o5, fun i p' kk' nn' s' txs' hi ht' => ?_, fun i hi => ?_, fun i j hij hj => ?_⟩
  · by_cases hik : i = k
    · subst hik
      rw [ht] at ht'
      cases ht'
      refine ⟨hs, ?_, ?_, ?_, ?_, ?_, by simpa using up ha, by simpa using upo hgB hoa⟩
      all_goals (simp [List.getElem?_set]; omega)
    · obtain ⟨hs', x0, x1, x2, x3, x4, ha', hoa'⟩ := hx i p' kk' nn' s' txs' (by omega) ht'
      refine ⟨hs', ?_, ?_, ?_, ?_, ?_, by simpa [hik] using up ha', by simpa [hik] using upo (hlr i (by omega)).1 hoa'⟩
      · rw [set5 (by omega) (by omega) (by omega) (by omega) (by omega)]; exact x0
      · rw [set5 (by omega) (by omega) (by omega) (by omega) (by omega)]; exact x1
      · rw [set5 (by omega) (by omega) (by omega) (by omega) (by omega)]; exact x2
      · rw [set5 (by omega) (by omega) (by omega) (by omega) (by omega)]; exact x3
      · rw [set5 (by omega) (by omega) (by omega) (by omega) (by omega)]; simpa [hik] using x4
  · by_cases hik : i = k
    · simp [hik]; omega
    · have := hlr i (by omega)
      simp [hik]; omega
  · have hik : i ≠ k := by omega
    by_cases hjk : j = k
    · have := hlr i (by omega)
      simp [hik, hjk]; omega
    · simpa [hik, hjk] using hd i j hij (by omega)
theorem CopyRelB.done {h g n B : Nat} {bs : List (ByteArray × T)} {w : World} (c : CopyRelB h g n n B bs w) (hn : n = bs.length) (hl : n ≤ maxLen) (hB : g < B) : BsObj g B h (.slice (some ⟨g, 0, none⟩) n n) bs w := by
  obtain ⟨xs, U, L, R, ho, hx, hlr, hd⟩ := c
  have hii : ∀ {i : Nat} {x : ByteArray × T}, bs[i]? = some x → i < n := fun {i} {t} ht => by have := (List.getElem?_eq_some_iff.1 ht).1; omega
  constructor
  · refine ⟨_, n, by rw [hn], by omega, Or.inr ⟨g, 0, rfl, Nat.le_refl _, fun i p kk nn s txs ht => ?_⟩⟩
    have hi := hii ht
    obtain ⟨hs, x0, x1, x2, x3, x4, ha, _⟩ := hx i p kk nn s txs hi ht
    refine ⟨hs.1, hs.2, U i, ?_, ?_, ?_, ?_, ?_, ha.low (by omega)⟩
    · rw [Nat.zero_add, ho.cellAt (i * 5) (by omega), x0]
    · rw [Nat.zero_add, ho.cellAt (i * 5 + 1) (by omega), x1]
    · rw [Nat.zero_add, ho.cellAt (i * 5 + 2) (by omega), x2]
    · rw [Nat.zero_add, ho.cellAt (i * 5 + 3) (by omega), x3]
    · rw [Nat.zero_add, ho.cellAt (i * 5 + 4) (by omega), x4]
  · subst hn
    refine ⟨_, _, rfl, Or.inr ⟨g, xs, U, L, R, rfl, Nat.le_refl _, hB, ho, fun i p kk nn s txs ht => ?_, fun i j hij hj => Or.inl (hd i j hij hj)⟩⟩
    obtain ⟨_, _, _, _, _, x4, _, hoa⟩ := hx i p kk nn s txs (hii ht) ht
    have := hlr i (hii ht)
    exact ⟨x4, by omega, by omega, by omega, hoa⟩

/-- A copy of a list of Binds. -/
def CopyBs (h : Nat) (bs : List (ByteArray × T)) (w : World) (e : Ending) (w' : World) : Prop := ∃ v, e = .returned v ∧ BsObj w.heap.size w'.heap.size h v bs w' ∧ Below w.heap.size w w'

set_option maxRecDepth 100000 in
set_option maxHeartbeats 1600000 in
theorem toBs_any (v : Value) (bs : List (ByteArray × T)) (lo h : Nat) (w : World) (hw : wBs bs ≤ 1048576) (hv : BsAt w lo h v bs) :
    Calls Try.prog 38 #[v] w (CopyBs h bs w) := by
  obtain ⟨i0, hi, hz0, hz1, hz2⟩ := info_parts infoBind
  have HI := Lib.hid hi; clear hi
  have HZ0 := Lib.hid hz0; clear hz0
  have HZ1 := Lib.hid hz1; clear hz1
  have HZ2 := Lib.hid hz2; clear hz2
  have HC := Lib.hid hv
  obtain ⟨a, cap, rfl⟩ := hv.slice
  clear hv
  have HWT := Lib.hid hw
  obtain ⟨n, hn⟩ : ∃ n, n = bs.length := ⟨_, rfl⟩
  have hl : n ≤ 1048576 := by have := wBs_len bs; omega
  clear hw
  rw [← hn] at HC ⊢
  have HN := Lib.hid hn; clear hn
  go_enter Try.func38, Try.ntmps38
  go_wp2_with (first | (at_make; refine wpList_make_full _ rfl (.tmp 6) (.tmp 6) 24 rfl w.heap.size 87 i0 (.agg #[.string ByteArray.empty, .int .i64 0, .int .i64 0, .string ByteArray.empty, .slice none 0 0]) 5 Try.underlying24 HI.out HZ0.out HZ1.out _ _ _ _ n rfl rfl rfl rfl ?m1 ?m2 ?m3 ?_))
  case m1 => rw [HZ2.out]; omega
  case m2 => unfold maxLen; omega
  case m3 => exact Nat.le_refl _
  intro w1 hown hgrow
  have hb : Below w.heap.size w w1 := (Below.refl _ _).grown hgrow (Nat.le_refl _) (fun k hk => by cases hk)
  have hrel0 : CopyRelB h w.heap.size n 0 w1.heap.size bs w1 := ⟨_, fun _ => undef, fun _ => 0, fun _ => 0, hown, fun i _ _ _ _ _ hi => by omega, fun i hi => by omega, fun i j hij hj => by omega⟩
  have HR0 := Lib.hid hrel0; clear hrel0 hown
  have hsz : w.heap.size < w1.heap.size := by
    obtain ⟨_, _, _, _, ho, _⟩ := HR0.out
    exact (ho.lt w.heap.size rfl).2
  have HB := Lib.hid hb; clear hb hgrow
  go_wp2
  go_loopw [4] (fun i wr => ∃ k : Nat, k ≤ n ∧ i = .int .i64 k ∧ Hid (CopyRelB h w.heap.size n k wr.heap.size bs wr) ∧ Hid (Below w.heap.size w wr) ∧ w.heap.size < wr.heap.size) (fun i _ => n - (intOf i).toNat)
  case atStart => exact ⟨0, Nat.zero_le _, rfl, HR0, HB, hsz⟩
  case round =>
    obtain ⟨k, hk, rfl, HR, HBR, hsr⟩ := hrel
    by_cases hlt : k < n
    · obtain ⟨y, ht⟩ : ∃ y, bs[k]? = some y := ⟨_, List.getElem?_eq_getElem (by have := HN.out; omega)⟩
      obtain ⟨b, o, c', p, tk', tn, tsn, txs, u', e, rfl, _, hps, hszn, c0, c1, c2, c3, c4, har⟩ := HC.out.at ht
      obtain ⟨rfl, -, rfl⟩ : a = some ⟨b, o, none⟩ ∧ n = bs.length ∧ cap = c' := by simpa using e
      have d0 := cell_on HBR.out c0
      have d1 := cell_on HBR.out c1
      have d2 := cell_on HBR.out c2
      have d3 := cell_on HBR.out c3
      have d4 := cell_on HBR.out c4
      clear c0 c1 c2 c3 c4 e
      have HAR := Lib.hid (har.below HBR.out); clear har
      have hwt := wBs_mem ht
      have HWX : Hid (wT (.node tk' tn tsn txs) ≤ 1048576) := Lib.hid (by have := HWT.out; simp only at hwt; omega)
      clear hwt
      have HTT := Lib.hid ht; clear ht
      have HSZ := Lib.hid (And.intro hps hszn); clear hszn hps
      go_wp2_with fail
      refine (toBind_any p tk' tn tsn u' txs _ HSZ.out.2 HAR.out HWX.out).mono ?_
      rintro e w2 ⟨kk, nn, ss, u2, xx, rfl, he, ⟨ha2, ho2⟩, hb2⟩
      cases he
      have HR2 := Lib.hid (HR.out.below hb2 (by simp))
      have HB2 := Lib.hid (HBR.out.trans (hb2.mono HBR.out.size))
      have hs2' := hb2.size
      obtain ⟨⟨o0, g0⟩, f0⟩ := HR2.out.cells hlt 0 (by omega)
      obtain ⟨⟨o1, g1⟩, f1⟩ := HR2.out.cells hlt 1 (by omega)
      obtain ⟨⟨o2, g2⟩, f2⟩ := HR2.out.cells hlt 2 (by omega)
      obtain ⟨⟨o3, g3⟩, f3⟩ := HR2.out.cells hlt 3 (by omega)
      obtain ⟨⟨o4, g4⟩, f4⟩ := HR2.out.cells hlt 4 (by omega)
      rw [Nat.add_zero] at g0 f0
      have ha3 : ArgsAt w2 (w.heap.size + 1) h u2 txs := ha2.low (by omega)
      obtain ⟨ua, uc, rfl⟩ := ha2.slice
      have HST := Lib.hid (HR2.out.step hlt HTT.out HSZ.out ha3 (ho2.wide (by simp) (Nat.le_refl _)) (by omega) (by omega)); clear ha2 ha3 hs2' hb2 ho2
      go_wp2
      go_roundw
      case rel => exact ⟨k + 1, by omega, by go_num, Lib.hid (by simpa using HST.out), Lib.hid (((((HB2.out.setCell (Nat.le_refl _) _).setCell (Nat.le_refl _) _).setCell (Nat.le_refl _) _).setCell (Nat.le_refl _) _).setCell (Nat.le_refl _) _), by have := HB2.out.size; have := HR2.out; simp; obtain ⟨_, _, _, _, ho, _⟩ := this; exact (ho.lt w.heap.size rfl).2⟩
      case measure => simp [intOf]; omega
    · have hkn : k = n := by omega
      subst hkn
      have HD := Lib.hid (HR.out.done HN.out (by unfold maxLen; omega) hsr)
      go_wp2
      go_ret
      exact ⟨_, rfl, HD.out, HBR.out⟩

/-- Copied, with what it reads as for two heights. -/
theorem BsAt.two {w : World} {lo lo' h h' : Nat} {u v : Value} {bs : List (ByteArray × T)} (a : BsAt w lo h u bs) (b : BsAt w lo' h' v bs) : BsAt w lo (max h h') u bs ∧ BsAt w lo' (max h h') v bs := ⟨a.le (Nat.le_max_left _ _), b.le (Nat.le_max_right _ _)⟩
end Go.Proofs.Ytkgpkphacjjlgaa
namespace Go.Proofs.Ytkgpkphacjjlgaa
open Go.RowKit

/-- The arguments xs in blocks from l to r; if own, their rows are a call's own. -/
def KArgs (own : Bool) (H l r : Nat) (u : Value) (xs : List T) (w : World) : Prop := ArgsAt w l H u xs ∧ (own = true → OwnA w H l r u xs)
theorem kargs_own {w : World} {H H1 l : Nat} {u : Value} {xs : List T} (ho : OwnR (fun _ => True) w H l w.heap.size u xs) (hH : H ≤ H1) : Kept l w.heap.size (KArgs true H1 l w.heap.size u xs) w :=
  ⟨Nat.le_refl _, fun _ hs => ⟨((ho.le hH).args (Nat.le_refl _)).same hs, fun _ => (ho.le hH).own.same hs⟩⟩
theorem kargs_read {w : World} {H H1 l : Nat} {u : Value} {xs : List T} (ha : ArgsAt w l H u xs) (hH : H ≤ H1) : Kept l w.heap.size (KArgs false H1 l w.heap.size u xs) w :=
  ⟨Nat.le_refl _, fun _ hs => ⟨(ha.le hH).same hs, fun e => by cases e⟩⟩

/-- The slice v holds the Binds bs; its row lies in blocks from lo on. -/
def GrowB (own : Bool) (H lo : Nat) (v : Value) (bs : List (ByteArray × T)) (w : World) : Prop :=
  ∃ (vs : List Value) (U : Nat → Value) (L R : Nat → Nat), w.ownsRow lo 87 5 v bs.length vs ∧
    (∀ i p k n s xs, bs[i]? = some (p, T.node k n s xs) → (p.size ≤ maxLen ∧ s.size ≤ maxLen) ∧ vs[i * 5]? = some (.string p) ∧ vs[i * 5 + 1]? = some (.int .i64 k) ∧ vs[i * 5 + 2]? = some (.int .i64 n) ∧ vs[i * 5 + 3]? = some (.string s) ∧ vs[i * 5 + 4]? = some (U i) ∧
      (lo ≤ L i ∧ L i ≤ R i) ∧ (∀ g, v.ownBlock = some g → g < L i ∨ R i ≤ g) ∧ Kept (L i) (R i) (KArgs own H (L i) (R i) (U i) xs) w) ∧
    (∀ i j, i < j → j < bs.length → R i ≤ L j)
theorem GrowB.nil (own : Bool) (H lo : Nat) (w : World) : GrowB own H lo (.slice none 0 0) [] w := ⟨[], fun _ => undef, fun _ => 0, fun _ => 0, World.ownsRow_nil _ _ _ _, fun i _ _ _ _ _ hi => by simp at hi, fun i j _ h => by simp at h⟩
theorem GrowB.lit (own : Bool) (H lo : Nat) (w : World) (h : lo ≤ w.heap.size) : GrowB own H lo (.slice (some ⟨w.heap.size, 0, none⟩) 0 0) [] (w.alloc (.cells #[] 87)) :=
  ⟨[], fun _ => undef, fun _ => 0, fun _ => 0, World.ownsRow_lit (base := lo) (size := 5) (e := 87) w #[] 0 h (by decide) rfl, fun i _ _ _ _ _ hi => by simp at hi, fun i j _ h => by simp at h⟩
theorem GrowB.below {own : Bool} {H lo : Nat} {v : Value} {bs : List (ByteArray × T)} {w w' : World} (g : GrowB own H lo v bs w) (hb : Below w.heap.size w w') : GrowB own H lo v bs w' := by
  obtain ⟨vs, U, L, R, ho, hx, hd⟩ := g
  refine ⟨vs, U, L, R, keep_own ho hb, fun i p k n s xs hi => ?_, hd⟩
  obtain ⟨h1, x0, x1, x2, x3, x4, h2, h3, hk⟩ := hx i p k n s xs hi
  exact ⟨h1, x0, x1, x2, x3, x4, h2, h3, hk.below hb⟩
theorem GrowB.slice {own : Bool} {H lo : Nat} {v : Value} {bs : List (ByteArray × T)} {w : World} (g : GrowB own H lo v bs w) : ∃ a c, v = .slice a bs.length c := by
  obtain ⟨vs, _, _, _, ho, _⟩ := g
  exact own_formK ho
/-- One Bind more. -/
theorem GrowB.snoc {own : Bool} {H lo m uc : Nat} {ua : Option Addr} {bs : List (ByteArray × T)} {wr w1 w3 : World} {p : ByteArray} {k n : Int} {s : ByteArray} {u : Value} {xs : List T} {g3 c3 : Nat} {ys : List Value}
    (g : GrowB own H lo (.slice ua m uc) bs wr) (hm : m = bs.length) (hlo : lo ≤ wr.heap.size) (hb : Below wr.heap.size wr w1) (hp : p.size ≤ maxLen) (hs : s.size ≤ maxLen) (hk : Kept wr.heap.size w1.heap.size (KArgs own H wr.heap.size w1.heap.size u xs) w1)
    (hys : ∀ zs, wr.ownsRow lo 87 5 (.slice ua m uc) m zs → zs = ys)
    (ho3 : w3.ownsRow lo 87 5 (.slice (some ⟨g3, 0, none⟩) (m + 1) c3) (m + 1) (ys ++ [.string p, .int .i64 k, .int .i64 n, .string s, u]))
    (hg3 : (w1.alloc (.cells #[.string p, .int .i64 k, .int .i64 n, .string s, u] 87)).grownBy w3 (Value.slice ua m uc).ownBlock) (ha3 : (Value.slice ua m uc).ownBlock = some g3 ∨ g3 = (w1.alloc (.cells #[.string p, .int .i64 k, .int .i64 n, .string s, u] 87)).heap.size) :
    GrowB own H lo (.slice (some ⟨g3, 0, none⟩) (m + 1) c3) (bs ++ [(p, .node k n s xs)]) w3 := by
  obtain ⟨vs, U, L, R, ho, hx, hd⟩ := g
  rw [← hm] at ho
  obtain rfl := hys vs ho
  have hvl : vs.length = m * 5 := ho.1
  have hvb := ho.lt
  have hz := hb.size
  have hza : (w1.alloc (.cells #[.string p, .int .i64 k, .int .i64 n, .string s, u] 87)).heap.size = w1.heap.size + 1 := by simp
  have hgz := hg3.size
  rw [hza] at hgz ha3
  have hal : Below w1.heap.size w1 (w1.alloc (.cells #[.string p, .int .i64 k, .int .i64 n, .string s, u] 87)) := (Below.refl _ _).alloc (Nat.le_refl _) _
  have hgb : ∀ q, (Value.slice (some ⟨g3, 0, none⟩) (m + 1) c3).ownBlock = some q → q = g3 := fun q e => by simpa [Value.ownBlock] using e.symm
  refine ⟨_, fun i => if i = m then u else U i, fun i => if i = m then wr.heap.size else L i, fun i => if i = m then w1.heap.size else R i, by rw [List.length_append, List.length_singleton, ← hm]; exact ho3, fun i p' k' n' s' xs' hi => ?_, fun i j h1 h2 => ?_⟩
  · rcases Nat.lt_trichotomy i m with hlt | hlt | hlt
    · rw [List.getElem?_append_left (by omega)] at hi
      obtain ⟨h1, x0, x1, x2, x3, x4, h2, h3, hkk⟩ := hx i p' k' n' s' xs' hi
      have e : i ≠ m := by omega
      simp only [if_neg e]
      have hRl := hkk.1
      refine ⟨h1, ?_, ?_, ?_, ?_, ?_, h2, fun q hq => ?_, ((hkk.below hb).below hal).grown hg3 (fun q hq => ?_)⟩
      · rw [List.getElem?_append_left (by omega)]; exact x0
      · rw [List.getElem?_append_left (by omega)]; exact x1
      · rw [List.getElem?_append_left (by omega)]; exact x2
      · rw [List.getElem?_append_left (by omega)]; exact x3
      · rw [List.getElem?_append_left (by omega)]; exact x4
      · obtain rfl := hgb q hq
        rcases ha3 with h | h
        · exact h3 q h
        · exact Or.inr (by omega)
      · have := h3 q hq; omega
    · subst hlt
      rw [hm] at hi
      simp only [List.getElem?_concat_length, Option.some.injEq, Prod.mk.injEq, T.node.injEq] at hi
      obtain ⟨rfl, rfl, rfl, rfl, rfl⟩ := hi
      simp only [if_true]
      refine ⟨⟨hp, hs⟩, ?_, ?_, ?_, ?_, ?_, ⟨hlo, hz⟩, fun q hq => ?_, (hk.below hal).grown hg3 (fun q hq => ?_)⟩
      · rw [List.getElem?_append_right (by omega), hvl, Nat.sub_self]; rfl
      · rw [List.getElem?_append_right (by omega), hvl, show i * 5 + 1 - i * 5 = 1 by omega]; rfl
      · rw [List.getElem?_append_right (by omega), hvl, show i * 5 + 2 - i * 5 = 2 by omega]; rfl
      · rw [List.getElem?_append_right (by omega), hvl, show i * 5 + 3 - i * 5 = 3 by omega]; rfl
      · rw [List.getElem?_append_right (by omega), hvl, show i * 5 + 4 - i * 5 = 4 by omega]; rfl
      · obtain rfl := hgb q hq
        rcases ha3 with h | h
        · exact Or.inl (hvb q h).2
        · exact Or.inr (by omega)
      · exact Or.inl (hvb q hq).2
    · rw [List.getElem?_eq_none (by simp; omega)] at hi; cases hi
  · rw [List.length_append, List.length_singleton, ← hm] at h2
    have e : i ≠ m := by omega
    simp only [if_neg e]
    by_cases e2 : j = m
    · simp only [if_pos e2]
      obtain ⟨⟨p1, t1⟩, ht⟩ : ∃ t, bs[i]? = some t := ⟨_, List.getElem?_eq_getElem (by omega)⟩
      obtain ⟨k1, n1, s1, x1⟩ := t1
      obtain ⟨_, _, _, _, _, _, _, _, hkk⟩ := hx i p1 k1 n1 s1 x1 ht
      exact hkk.1
    · simp only [if_neg e2]; exact hd i j h1 (by omega)
theorem own_unique {w : World} {B n size : Nat} {e : TypeId} {v : Value} {xs ys : List Value} (h : w.ownsRow B e size v n xs) (k : w.ownsRow B e size v n ys) : xs = ys := by
  have h1 := h.1
  have k1 := k.1
  rcases h.2 with ⟨rfl, h0⟩ | ⟨g, cap, cur, rfl, _, hc, _, _, _, ht⟩
  · subst h0
    rw [Nat.zero_mul] at h1 k1
    rw [List.eq_nil_of_length_eq_zero h1, List.eq_nil_of_length_eq_zero k1]
  · rcases k.2 with ⟨e2, _⟩ | ⟨g', cap', cur', e2, _, hc', _, _, _, ht'⟩
    · cases e2
    · cases e2
      rw [hc] at hc'
      cases hc'
      rw [← ht, ← ht']
/-- What the next append is worth. -/
theorem GrowB.next {own : Bool} {H lo m uc : Nat} {ua : Option Addr} {bs : List (ByteArray × T)} {wr w1 : World} (g : GrowB own H lo (.slice ua m uc) bs wr) (hm : m = bs.length) (hlo : lo ≤ wr.heap.size) (hb : Below wr.heap.size wr w1) :
    ∃ ys, w1.ownsRow lo 87 5 (.slice ua m uc) m ys ∧ ∀ (p : ByteArray) (k n : Int) (s : ByteArray) (u : Value) (xs : List T), p.size ≤ maxLen → s.size ≤ maxLen → Kept wr.heap.size w1.heap.size (KArgs own H wr.heap.size w1.heap.size u xs) w1 → ∀ g3 c3 w3,
      w3.ownsRow lo 87 5 (.slice (some ⟨g3, 0, none⟩) (m + 1) c3) (m + 1) (ys ++ [.string p, .int .i64 k, .int .i64 n, .string s, u]) → (w1.alloc (.cells #[.string p, .int .i64 k, .int .i64 n, .string s, u] 87)).grownBy w3 (Value.slice ua m uc).ownBlock →
      ((Value.slice ua m uc).ownBlock = some g3 ∨ g3 = (w1.alloc (.cells #[.string p, .int .i64 k, .int .i64 n, .string s, u] 87)).heap.size) → GrowB own H lo (.slice (some ⟨g3, 0, none⟩) (m + 1) c3) (bs ++ [(p, .node k n s xs)]) w3 ∧ Below lo wr w3 := by
  have g0 := g
  obtain ⟨vs, _, _, _, ho, _⟩ := g
  rw [← hm] at ho
  refine ⟨vs, keep_own ho hb, fun p k n s u xs hp hs hk g3 c3 w3 ho3 hg3 ha3 => ⟨g0.snoc hm hlo hb hp hs hk (fun zs hz => own_unique hz ho) ho3 hg3 ha3, ?_⟩⟩
  have hz := hb.size
  exact ((hb.mono hlo).alloc (by omega) _).grown hg3 (by simp; omega) (fun j hj => (ho.lt j hj).1)
/-- What the list reads as. -/
theorem GrowB.at {own : Bool} {H lo : Nat} {v : Value} {bs : List (ByteArray × T)} {w : World} (g : GrowB own H lo v bs w) (hl : bs.length ≤ maxLen) : BsAt w lo H v bs := by
  obtain ⟨vs, U, L, R, ho, hx, _⟩ := g
  rcases ho.2 with ⟨rfl, h0⟩ | ⟨q, cap, cur, rfl, hq, _⟩
  · have : bs = [] := List.eq_nil_of_length_eq_zero h0
    subst this
    exact ⟨none, 0, rfl, Nat.zero_le _, Or.inl rfl⟩
  · refine ⟨_, cap, rfl, hl, Or.inr ⟨q, 0, rfl, hq, fun i p k n s xs hi => ?_⟩⟩
    have hil := (List.getElem?_eq_some_iff.1 hi).1
    have hvl := ho.1
    obtain ⟨⟨h1, h1'⟩, x0, x1, x2, x3, x4, h2, _, hkk⟩ := hx i p k n s xs hi
    refine ⟨h1, h1', U i, ?_, ?_, ?_, ?_, ?_, hkk.now.1.low h2.1⟩
    · rw [Nat.zero_add, ho.cellAt (i * 5) (by omega), x0]
    · rw [Nat.zero_add, ho.cellAt (i * 5 + 1) (by omega), x1]
    · rw [Nat.zero_add, ho.cellAt (i * 5 + 2) (by omega), x2]
    · rw [Nat.zero_add, ho.cellAt (i * 5 + 3) (by omega), x3]
    · rw [Nat.zero_add, ho.cellAt (i * 5 + 4) (by omega), x4]
theorem GrowB.obj {H lo : Nat} {v : Value} {bs : List (ByteArray × T)} {w : World} (g : GrowB true H lo v bs w) (hl : bs.length ≤ maxLen) : BsObj lo w.heap.size H v bs w := by
  refine ⟨g.at hl, ?_⟩
  obtain ⟨vs, U, L, R, ho, hx, hd⟩ := g
  rcases ho.2 with ⟨rfl, h0⟩ | ⟨q, cap, cur, rfl, hq, hrest⟩
  · have : bs = [] := List.eq_nil_of_length_eq_zero h0
    subst this
    exact ⟨none, 0, rfl, Or.inl rfl⟩
  · have hlt := ho.lt q rfl
    refine ⟨_, cap, rfl, Or.inr ⟨q, vs, U, L, R, rfl, hq, hlt.2, ⟨ho.1, Or.inr ⟨q, cap, cur, rfl, Nat.le_refl _, hrest⟩⟩, fun i p k n s xs hi => ?_, fun i j h1 h2 => Or.inl (hd i j h1 h2)⟩⟩
    obtain ⟨_, _, _, _, _, x4, h2, h3, hkk⟩ := hx i p k n s xs hi
    exact ⟨x4, h2.1, hkk.1, h3 q rfl, hkk.now.2 rfl⟩
end Go.Proofs.Ytkgpkphacjjlgaa
