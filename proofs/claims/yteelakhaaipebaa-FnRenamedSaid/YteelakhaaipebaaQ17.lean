/-
  The method apply of a substitution; impl.ApplySubst.
-/
import Derived.Test.YteelakhaaipebaaQ16
import Derived.Deep.RegionLawGrows
namespace Go.Proofs.Yteelakhaaipebaa
open Go.RowKit Go.Maps Go.WideMaps

set_option maxRecDepth 100000 in
set_option maxHeartbeats 1600000 in
theorem appI_any (b : Nat) (bs : List (ByteArray × T)) (l : List (ByteArray × Value)) (v : Value) (t : T) (lo lo2 h h0 : Nat) (w : World) (ht : TabAt b l w) (hbv : BsV w lo h bs l) (hw : wBs bs ≤ 1048576) (htm : TermAt w lo2 h0 v t) (hwt : wT t ≤ 4194303) :
    Calls Try.prog 61 #[.agg #[.map (some b)], v] w (CopyR (h0 + h) (mapT (findB bs) (fun s => s) t) w) := by
  have hcf : ∀ (args : Array Value) (W : World), (callFunc 114 args).run Try.prog W = .ok (.enter 114 args) W := fun _ _ => by kernel_rfl
  obtain ⟨k, n, s, a, m, cap, rfl⟩ := htm.shape
  obtain ⟨W0, hW0⟩ : ∃ W0, W0 = ((w.alloc (.cells #[.map (some b)] 83)).alloc (.cells #[.int .i64 k, .int .i64 n, .string s, .slice a m cap] 29)).alloc (.cells #[.int .i64 0, .int .i64 0, .string ⟨#[]⟩, .slice none 0 0] 29) := ⟨_, rfl⟩
  have hB0 : Below w.heap.size w W0 := by rw [hW0]; exact (((Below.refl _ _).alloc (Nat.le_refl _) _).alloc (by simp) _).alloc (by simp; omega) _
  have r0 : W0.heap[w.heap.size]? = some (.cells #[.map (some b)] 83 (0, 0)) := by rw [hW0, Below.heap_alloc _ _ _ (by simp; omega), Below.heap_alloc _ _ _ (by simp)]; exact heap_new w _ rfl
  have r2 : W0.heap[w.heap.size + 2]? = some (trow 0 0 ByteArray.empty (.slice none 0 0)) := by rw [hW0]; exact heap_new _ _ (by simp)
  have hs0 : W0.heap.size = w.heap.size + 3 := by rw [hW0]; simp
  have hcs : W0.cell? ⟨w.heap.size, 0, none⟩ = some (.map (some b)) := by have := cell_of_row W0 w.heap.size 0 _ _ _ r0; simpa using this
  have HC := Lib.hid (chg_any _ _ _ _ h _ t lo2 h0 W0 hcf (appC_any b w.heap.size bs l lo h W0 (ht.below hB0) (hbv.below hB0) hw hcs) (htm.below hB0) hwt)
  have HB0 := Lib.hid hB0
  have HR2 := Lib.hid r2
  have HS0 := Lib.hid hs0
  clear hcf ht htm hbv hw hwt hB0 r0 r2 hs0 hcs
  go_enter Try.func61, Try.ntmps61
  go_wp2_with fail
  rw [← hW0]
  refine HC.out.mono ?_
  rintro e w1 ⟨k', n', s', u', xs', rfl, hef, hs', ho, hb⟩
  obtain ⟨ua, uc, rfl⟩ := ho.slice
  have HEF := Lib.hid hef
  obtain ⟨m', hm'⟩ : ∃ m', m' = xs'.length := ⟨_, rfl⟩
  have q1 : w1.heap[w.heap.size + 2]? = some (trow 0 0 ByteArray.empty (.slice none 0 0)) := (hb.block _ (by have := HS0.out; omega)).trans HR2.out
  obtain ⟨⟨y0, y1, y2, y3⟩, f0, f1, f2, f3⟩ := cells_of4 q1
  have HF := Lib.hid (fun v0 v1 v2 v3 => copy_fin2 (b := w.heap.size + 2) (k := k') (n := n') (v0 := v0) (v1 := v1) (v2 := v2) (v3 := v3) hs' ho (HB0.out.trans (hb.mono HB0.out.size)) (by omega) (by have := HS0.out; omega))
  rw [← hm'] at HF ⊢
  clear q1 ho hb hm' hW0 hef hs'
  go_wp2
  (try simp only [Exit.inBlock, Exit.then])
  refine bodyPost_ret (v := tv k' n' s' (.slice ua m' uc)) ?hr rfl ?_
  case hr =>
    rw [results_cell (a := 4) (t := 29) (ad := ⟨w.heap.size + 2, 0, none⟩) rfl rfl]
    go_simp
  rw [HEF.out]
  exact HF.out _ _ _ _

set_option maxRecDepth 100000 in
set_option maxHeartbeats 1600000 in
theorem iApp_any (u : Value) (bs : List (ByteArray × T)) (v : Value) (t : T) (lo lo2 h h0 : Nat) (w : World) (hv : BsAt w lo h u bs) (hw : wBs bs ≤ 1048576) (htm : TermAt w lo2 h0 v t) (hwt : wT t ≤ 4194303) :
    Calls Try.prog 16 #[u, v] w (CopyR (h0 + h) (mapT (findB bs) (fun s => s) t) w) := by
  obtain ⟨k, n, s, a, m, cap, rfl⟩ := htm.shape
  obtain ⟨W0, hW0⟩ : ∃ W0, W0 = (w.alloc (.cells #[.int .i64 k, .int .i64 n, .string s, .slice a m cap] 29)).alloc (.cells #[.int .i64 0, .int .i64 0, .string ⟨#[]⟩, .slice none 0 0] 29) := ⟨_, rfl⟩
  have hB0 : Below w.heap.size w W0 := by rw [hW0]; exact ((Below.refl _ _).alloc (Nat.le_refl _) _).alloc (by simp) _
  have hs0 : W0.heap.size = w.heap.size + 2 := by rw [hW0]; simp
  have r0 : W0.heap[w.heap.size]? = some (trow k n s (.slice a m cap)) := by rw [hW0, Below.heap_alloc _ _ _ (by simp)]; exact heap_new w _ rfl
  have r1 : W0.heap[w.heap.size + 1]? = some (trow 0 0 ByteArray.empty (.slice none 0 0)) := by rw [hW0]; exact heap_new _ _ (by simp)
  have hd0 : Below W0.heap.size W0 W0.drew := Below.drew (Below.refl _ _)
  obtain ⟨l, hbv, hcall⟩ := subOf_any u bs lo h W0.drew (by have := wBs_len bs; omega) ((hv.below hB0).below hd0)
  obtain ⟨au, cu, rfl⟩ := hv.slice
  obtain ⟨r, hr⟩ : ∃ r, r = mapT (findB bs) (fun s => s) t := ⟨_, rfl⟩
  have HAPP := Lib.hid (fun (b : Nat) (W : World) (h1 : TabAt b l W) (h2 : BsV W lo h bs l) (h3 : TermAt W lo2 h0 (tv k n s (.slice a m cap)) t) => appI_any b bs l _ t lo lo2 h h0 W h1 h2 hw h3 hwt)
  rw [← hr] at HAPP ⊢
  have HBV := Lib.hid hbv; have HC := Lib.hid hcall
  have HTM := Lib.hid ((htm.below hB0).below hd0)
  have HB0 := Lib.hid hB0; have HS0 := Lib.hid hs0
  have HR : Hid (∀ w', Below W0.heap.size W0 w' → w'.cell? ⟨w.heap.size, 0, none⟩ = some (.int .i64 k) ∧ w'.cell? ⟨w.heap.size, 1, none⟩ = some (.int .i64 n) ∧ w'.cell? ⟨w.heap.size, 2, none⟩ = some (.string s) ∧ w'.cell? ⟨w.heap.size, 3, none⟩ = some (.slice a m cap) ∧ Below W0.heap.size W0 w') := Lib.hid (fun w' hb => by
    obtain ⟨c0, c1, c2, c3⟩ := (cells_of4 ((hb.block w.heap.size (by omega)).trans r0)).1
    exact ⟨c0, c1, c2, c3, hb⟩)
  have HZ : Hid (∀ w', Below W0.heap.size W0 w' → w'.heap[w.heap.size + 1]? = some (trow 0 0 ByteArray.empty (.slice none 0 0))) := Lib.hid (fun w' hb => (hb.block _ (by omega)).trans r1)
  clear hv htm hbv hcall hB0 hs0 r0 r1 hw hwt hr
  go_enter Try.func16, Try.ntmps16
  go_upto_region 1 with fail
  rw [← hW0]
  clear hW0
  obtain ⟨c0, c1, c2, c3, _⟩ := HR.out _ (Below.refl _ _)
  go_region_law (first
    | (go_simp; go_at_call 60; refine HC.out.mono ?_; rintro e w1 ⟨b, rfl, hbl, htab, hb1⟩; have hB1 : Below W0.heap.size W0 w1 := bel_two hd0 hb1; obtain ⟨d0, d1, d2, d3, _⟩ := HR.out _ hB1; have HT1 := Lib.hid (And.intro htab (And.intro (HBV.out.below hb1) (HTM.out.below hb1))); clear htab hbl)
    | (go_simp; go_at_call 61; refine (HAPP.out b w1 HT1.out.1 HT1.out.2.1 HT1.out.2.2).mono ?_; rintro e w2 ⟨k', n', s', u', xs', rfl, hef, hs', ho, hb2⟩; have hB2 : Below W0.heap.size W0 w2 := bel_two hB1 hb2; have hZ := HZ.out _ hB2; obtain ⟨⟨y0, y1, y2, y3⟩, f0, f1, f2, f3⟩ := cells_of4 hZ; obtain ⟨ua, uc, rfl⟩ := ho.slice))
  all_goals (
    have HF := Lib.hid (fun v0 v1 v2 v3 => copy_fin2 (w := w) (wr := w2) (b := w.heap.size + 1) (B := w1.heap.size) (k := k') (n := n') (v0 := v0) (v1 := v1) (v2 := v2) (v3 := v3) hs' ho (HB0.out.trans (hB2.mono HB0.out.size)) (Nat.le_succ _) (by have := HS0.out; have := hB1.size; omega))
    obtain ⟨m', hm'⟩ : ∃ m', m' = xs'.length := ⟨_, rfl⟩
    rw [← hm'] at HF ⊢
    have HEF := Lib.hid hef
    clear hm' hef ho hb2 hB2 hB1 hb1
    go_wp2
    (try simp only [Exit.inBlock, Exit.then])
    refine bodyPost_ret (v := tv k' n' s' (.slice ua m' uc)) ?_ rfl ?_
    · rw [results_cell (a := 4) (t := 29) (ad := ⟨w.heap.size + 1, 0, none⟩) rfl rfl]
      go_simp
    · rw [HEF.out]
      exact HF.out _ _ _ _)
end Go.Proofs.Yteelakhaaipebaa
