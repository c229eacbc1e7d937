/-
  The method apply of a substitution; impl.ApplySubst.
-/
import Derived.Test.YtidbokheeieifaaGreatDoorQ17
import Derived.Deep.RegionLawGrows
namespace Go.Proofs.YtidbokheeieifaaGreatDoor
open Go.RowKit Go.Maps Go.WideMaps

set_option maxRecDepth 100000 in
set_option maxHeartbeats 1600000 in
theorem appI_any (b : Nat) (bs : List (ByteArray × T)) (l : List (ByteArray × Value)) (v : Value) (t : T) (lo lo2 h h0 : Nat) (w : World) (ht : TabAt b l w) (hbv : BsV w lo h bs l) (hw : wBs bs ≤ 1048576) (htm : TermAt w lo2 h0 v t) (hwt : wT t ≤ 4194303) :
    Calls Tryz.prog 34 #[.agg #[.map (some b)], v] w (CopyR (h0 + h) (mapT (findB bs) (fun s => s) t) w) := by
  have hcf : ∀ (args : Array Value) (W : World), (callFunc 56 args).run Tryz.prog W = .ok (.enter 56 args) W := fun _ _ => by kernel_rfl
  obtain ⟨k, n, s, a, m, cap, rfl⟩ := htm.shape
  obtain ⟨W0, hW0⟩ : ∃ W0, W0 = ((w.alloc (.cells #[.map (some b)] 57)).alloc (.cells #[.int .i64 k, .int .i64 n, .string s, .slice a m cap] 26)).alloc (.cells #[.int .i64 0, .int .i64 0, .string ⟨#[]⟩, .slice none 0 0] 26) := ⟨_, rfl⟩
  have hB0 : Below w.heap.size w W0 := by rw [hW0]; exact (((Below.refl _ _).alloc (Nat.le_refl _) _).alloc (by simp) _).alloc (by simp; omega) _
  have r0 : W0.heap[w.heap.size]? = some (.cells #[.map (some b)] 57 (0, 0)) := by rw [hW0, Below.heap_alloc _ _ _ (by simp; omega), Below.heap_alloc _ _ _ (by simp)]; exact heap_new w _ rfl
  have r2 : W0.heap[w.heap.size + 2]? = some (trow 0 0 ByteArray.empty (.slice none 0 0)) := by rw [hW0]; exact heap_new _ _ (by simp)
  have hs0 : W0.heap.size = w.heap.size + 3 := by rw [hW0]; simp
  have hcs : W0.cell? ⟨w.heap.size, 0, none⟩ = some (.map (some b)) := by have := cell_of_row W0 w.heap.size 0 _ _ _ r0; simpa using this
  have HC := Lib.hid (chg_any _ _ _ _ h _ t lo2 h0 W0 hcf (appC_any b w.heap.size bs l lo h W0 (ht.below hB0) (hbv.below hB0) hw hcs) (htm.below hB0) hwt)
  have HB0 := Lib.hid hB0
  have HR2 := Lib.hid r2
  have HS0 := Lib.hid hs0
  clear hcf ht htm hbv hw hwt hB0 r0 r2 hs0 hcs
  go_enter Tryz.func34, Tryz.ntmps34
  go_wp2_with fail
  rw [← hW0]
  refine HC.out.mono ?_
  rintro e w1 ⟨k', n', s', u', xs', rfl, hef, hs', ho, hb⟩
  obtain ⟨ua, uc, rfl⟩ := ho.slice
  have HEF := Lib.hid hef
  obtain ⟨m', hm'⟩ : ∃ m', m' = xs'.length := ⟨_, rfl⟩
  have q1 : w1.heap[w.heap.size + 2]? = some (trow 0 0 ByteArray.empty (.slice none 0 0)) := (hb.block _ (by have := HS0.out; omega)).trans HR2.out
  obtain ⟨⟨y0, y1, y2, y3⟩, f0, f1, f2, f3⟩ := cells_of4 q1
  have HF := Lib.hid (fun v0 v1 v2 v3 => copy_fin2 (b := w.heap.size + 2) (k := k') (n := n') (v0 := v0) (v1 := v1) (v2 := v2) (v3 := v3) hs' ho (HB0.out.trans (hb.mono HB0.out.size)) (by omega) (by have := HS0.out; omega))
  rw [← hm'] at HF ⊢
  clear q1 ho hb hm' hW0 hef hs'
  go_wp2
  (try simp only [Exit.inBlock, Exit.then])
  refine bodyPost_ret (v := tv k' n' s' (.slice ua m' uc)) ?hr rfl ?_
  case hr =>
    rw [results_cell (a := 4) (t := 26) (ad := ⟨w.heap.size + 2, 0, none⟩) rfl rfl]
    go_simp
  rw [HEF.out]
  exact HF.out _ _ _ _

end Go.Proofs.YtidbokheeieifaaGreatDoor
