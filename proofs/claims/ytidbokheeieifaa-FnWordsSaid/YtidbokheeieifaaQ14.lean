/-
  The draws of spec.DrawReduceWords.
-/
import Derived.Test.YtidbokheeieifaaQ4
import Derived.Test.YtidbokheeieifaaQ6
import Derived.Test.YtidbokheeieifaaQ7
namespace Go.Proofs.Ytidbokheeieifaa
open Go.RowKit

/-- A drawn term in blocks that are new. -/
def DrawnTermR (w : World) (e : Ending) (w' : World) : Prop :=
  ∃ k n s a m cap t h, e = .returned (tv k n s (.slice a m cap)) ∧ TermAt w' w.heap.size h (tv k n s (.slice a m cap)) t ∧ wT t ≤ 2000 ∧ Below w.heap.size w w'
theorem drawnR_fin {w w2 : World} {k n : Int} {s : ByteArray} {a : Option Addr} {m cap : Nat} {t : T} {h : Nat} (ht : TermAt w2 (w.heap.size + 1) h (tv k n s (.slice a m cap)) t) (hw : wT t ≤ 2000) (hb : Below w.heap.size w w2) (v0 v1 v2 v3 : Value) :
    DrawnTermR w (.returned (tv k n s (.slice a m cap))) ((((w2.setCell ⟨w.heap.size, 0, none⟩ v0).setCell ⟨w.heap.size, 1, none⟩ v1).setCell ⟨w.heap.size, 2, none⟩ v2).setCell ⟨w.heap.size, 3, none⟩ v3) := by
  have hg4 : w2.grownBy ((((w2.setCell ⟨w.heap.size, 0, none⟩ v0).setCell ⟨w.heap.size, 1, none⟩ v1).setCell ⟨w.heap.size, 2, none⟩ v2).setCell ⟨w.heap.size, 3, none⟩ v3) (some w.heap.size) :=
    grown_trans (grown_trans (grown_trans (set_grown _ _ _ _) (set_grown _ _ _ _)) (set_grown _ _ _ _)) (set_grown _ _ _ _)
  obtain ⟨k', n', s', u', xs, e1, e2, hs, ha⟩ := ht
  cases e1
  refine ⟨k, n, s, a, m, cap, t, h, rfl, ⟨k, n, s, _, xs, rfl, e2, hs, (ha.grown hg4 (fun j e => by cases e; omega)).low (by omega)⟩, hw, ?_⟩
  exact (((hb.setCell (Nat.le_refl _) _).setCell (Nat.le_refl _) _).setCell (Nat.le_refl _) _).setCell (Nat.le_refl _) _
def redInts : List Int := [1, 4, -1]
def sortTexts : List ByteArray := [⟨#[101]⟩, ⟨#[119, 111, 114, 100]⟩]
abbrev sPlus : ByteArray := ⟨#[112, 108, 117, 115]⟩

set_option maxRecDepth 100000 in
set_option maxHeartbeats 3200000 in
theorem drawReduce_any (cv : Value) (len : Nat) (w : World) (hcode : CodeAt w w.heap.size cv len) :
    Calls Try.prog 11 #[cv] w (DrawnTermR w) := by
  have HB0 : Hid (Below w.heap.size w (boxZ w)) := Lib.hid ((Below.refl _ _).alloc (Nat.le_refl _) _)
  have HC : Hid (CodeAt (boxZ w) (boxZ w).heap.size cv len) := Lib.hid (hcode.below HB0.out)
  clear hcode
  go_enter Try.func11, Try.ntmps11
  go_wp2_with fail
  refine (new_any cv len _ HC.out).mono ?_
  rintro e w1 ⟨rfl, hu1, hb1, _⟩
  have hz : (boxZ w).heap.size = w.heap.size + 1 := by simp
  have hc1 := HC.out.at_new hb1
  have hz1 := hb1.size
  have HG01 : Hid ((boxZ w).grownBy w1 (some (w.heap.size + 1))) := Lib.hid (Below.toGrown hb1 _)
  rw [hz] at hc1 hu1
  have HC1 := Lib.hid hc1; clear hc1
  have HU1 := Lib.hid hu1; clear hu1
  have HB1 := Lib.hid hb1; clear hb1
  have hBl : w.heap.size + 1 < w1.heap.size := HU1.out.lt
  have HBL := Lib.hid hBl
  have HZ := Lib.hid hz; clear hz hz1 hBl
  -- what is left of the world, whenever only the cursor's block has turned
  have HW : Hid (∀ w', w1.grownBy w' (some (w.heap.size + 1)) → Below w.heap.size w w' ∧ (boxZ w).grownBy w' (some (boxZ w).heap.size)) := Lib.hid (fun w' hg => by
    have hg2 : w1.grownBy w' (some (boxZ w).heap.size) := by rw [HZ.out]; exact hg
    exact ⟨HB0.out.trans ((below_own HB1.out hg2).mono HB0.out.size), Below.toGrown (below_own HB1.out hg2) _⟩)
  go_wp2_with fail
  refine (once_any (w.heap.size + 1) cv len 5 _ (by decide) (by decide) HC1.out HU1.out).mono ?_
  rintro e w2 ⟨b2, rfl, hu2, hg2⟩
  have HU2 := Lib.hid hu2; clear hu2
  have HG2 := Lib.hid hg2; clear hg2
  cases b2 with
  | true =>
    go_wp2_with fail
    refine (bent_any (w.heap.size + 1) cv len _ (HC1.out.grown HBL.out HG2.out) HU2.out).mono ?_
    rintro e w3 ⟨v3, t3, h3, rfl, ht3, hw3, hu3, hg3⟩
    obtain ⟨k, n, s, a, m, cap, rfl⟩ := ht3.shape
    have HT3 := Lib.hid (And.intro ht3 hw3)
    have HU3 := Lib.hid hu3
    have HG3 := Lib.hid (grown_trans HG2.out hg3)
    have HZ23 : Hid (w1.heap.size ≤ w2.heap.size ∧ w2.heap.size ≤ w3.heap.size) := Lib.hid ⟨HG2.out.size, hg3.size⟩
    clear ht3 hw3 hu3 hg3
    have c4 := pickInt_any (w.heap.size + 1) w3.heap.size 3 cv len redInts (w3.alloc (.cells (redInts.map (Value.int .i64)).toArray 3)) (by decide) (by decide) (by have := HU3.out.lt; omega) (new_ints w3 redInts _) ((HC1.out.grown HBL.out HG3.out).alloc HU3.out.lt _) (HU3.out.alloc _)
    have HK4 := Lib.hid c4; clear c4
    go_wp2_with fail
    refine HK4.out.mono ?_
    rintro e w4 ⟨v4, hv4, rfl, hu4, hg4⟩
    obtain ⟨z4, hz4, rfl⟩ := List.mem_map.1 hv4
    have HG34 := Lib.hid (grown_trans (World.grownBy_alloc w3 (.cells (redInts.map (Value.int .i64)).toArray 3) (some (w.heap.size + 1))) hg4)
    clear hv4 hz4 hu4 hg4 HK4
    go_wp2_with fail
    refine (l3Word_any z4 _).mono ?_
    rintro e w5 ⟨rfl, hb5⟩
    go_wp2_with fail
    refine (l3Pair_any sPlus k n s _ 3 z4 ByteArray.empty _ _).mono ?_
    rintro e w6 ⟨g6, rfl, hgl6, hgr6, hb6⟩
    have hg36 : w3.grownBy w6 (some (w.heap.size + 1)) := grown_trans HG34.out (grown_trans (Below.toGrown hb5 _) (Below.toGrown hb6 _))
    have hs36 := HG34.out.size
    have hs45 := hb5.size
    obtain ⟨k', n', s', u', xs, e1, e2, hs', ha'⟩ := HT3.out.1
    cases e1
    have hsz : s.size ≤ 1000 ∧ wT (.node k n s xs) ≤ 1000 := by have h1 := HT3.out.2; rw [e2] at h1; refine ⟨?_, h1⟩; rw [wT_node] at h1; omega
    obtain ⟨hra, _⟩ := row2_args hgr6 (lo := w.heap.size + 1) (d := h3) (by have := HZ23.out; have := HBL.out; omega) hsz.1 ((ha'.grown hg36 (fun j e => by cases e; have := HZ23.out; have := HBL.out; omega)).low (by have := HZ23.out; have := HBL.out; omega)) (by decide) (ArgsAt.nil _ _ _ _ _)
    have hwl : wT (.node 2 0 sPlus [.node k n s xs, .node 3 z4 ByteArray.empty []]) ≤ 2000 := by
      have h1 := hsz.2
      rw [wT_node] at h1 ⊢
      have h2 : sPlus.size = 4 := rfl
      simp only [wS, List.map_cons, List.map_nil, List.sum_cons, List.sum_nil, List.length_cons, List.length_nil, wT_node, h2] at h1 ⊢
      have h3 : ByteArray.empty.size = 0 := rfl
      rw [h3]
      omega
    obtain ⟨hbw, hgz⟩ := HW.out w6 (grown_trans HG3.out hg36)
    obtain ⟨⟨z0, z1, z2, z3⟩, y0, y1, y2, y3⟩ := boxZ_cells' hgz
    have HF := Lib.hid (fun v0 v1 v2 v3 => drawnR_fin (w := w) (w2 := w6) (k := 2) (n := 0) (s := sPlus) (a := some ⟨g6, 0, none⟩) (m := 2) (cap := 2) (t := .node 2 0 sPlus [.node k n s xs, .node 3 z4 ByteArray.empty []]) (h := h3 + 1) ⟨2, 0, sPlus, _, _, rfl, rfl, by decide, hra⟩ hwl hbw v0 v1 v2 v3)
    clear hra hwl hbw hgz hsz ha' hs' hg36 hs36 hs45 hb5 hb6 hgr6 hgl6
    go_wp2
    (try simp only [Exit.inBlock, Exit.then])
    refine bodyPost_ret (v := tv 2 0 sPlus (.slice (some ⟨g6, 0, none⟩) 2 2)) ?hr rfl ?_
    case hr =>
      rw [results_cell (a := 2) (t := 26) (ad := ⟨w.heap.size, 0, none⟩) rfl rfl]
      go_simp
    exact HF.out _ _ _ _
  | false =>
    have c4 := pick_any (w.heap.size + 1) w2.heap.size 2 cv len sortTexts (w2.alloc (.cells (sortTexts.map Value.string).toArray 9)) (by decide) (by decide) (by have := HU2.out.lt; omega) (new_strs w2 sortTexts _) ((HC1.out.grown HBL.out HG2.out).alloc HU2.out.lt _) (HU2.out.alloc _)
    have HK4 := Lib.hid c4; clear c4
    go_wp2_with fail
    refine HK4.out.mono ?_
    rintro e w4 ⟨v4, hv4, rfl, hu4, hg4⟩
    obtain ⟨p4, hp4, rfl⟩ := List.mem_map.1 hv4
    have HU4 := Lib.hid hu4
    have HG4 := Lib.hid (grown_trans HG2.out (grown_trans (World.grownBy_alloc w2 (.cells (sortTexts.map Value.string).toArray 9) (some (w.heap.size + 1))) hg4))
    have HP4 := Lib.hid hp4
    clear hv4 hp4 hu4 hg4 HK4
    go_wp2_with fail
    refine (once_any (w.heap.size + 1) cv len 2 _ (by decide) (by decide) (HC1.out.grown HBL.out HG4.out) HU4.out).mono ?_
    rintro e w5 ⟨b5, rfl, hu5, hg5⟩
    have HU5 := Lib.hid hu5
    have HG5 := Lib.hid (grown_trans HG4.out hg5)
    clear hu5 hg5
    have HD : Hid (Calls Try.prog 54 #[.pointer (some ⟨w.heap.size + 1, 0, none⟩), .string p4, .int .i64 4, .bool b5] w5 (DrawnS (16 * 2 ^ 4) (w.heap.size + 1) cv len w5)) := Lib.hid (by
      have hp := HP4.out
      unfold sortTexts at hp
      simp only [List.mem_cons, List.mem_nil_iff, or_false] at hp
      rcases hp with rfl | rfl
      · exact drawE_any 4 (by decide) b5 (w.heap.size + 1) cv len w5 (HC1.out.grown HBL.out HG5.out) HU5.out
      · exact drawW_any 4 (by decide) b5 (w.heap.size + 1) cv len w5 (HC1.out.grown HBL.out HG5.out) HU5.out)
    go_wp2_with fail
    refine HD.out.mono ?_
    rintro e w6 ⟨k, n, s, u, ts, h, rfl, hs, ha, hwt, hu6, hg6⟩
    obtain ⟨a, c, rfl⟩ := ha.slice
    obtain ⟨hbw, hgz⟩ := HW.out w6 (grown_trans HG5.out hg6)
    obtain ⟨⟨z0, z1, z2, z3⟩, y0, y1, y2, y3⟩ := boxZ_cells' hgz
    have HF := Lib.hid (fun v0 v1 v2 v3 => drawnR_fin (w := w) (w2 := w6) (t := .node k n s ts) (h := h) ⟨k, n, s, _, ts, rfl, rfl, by unfold maxLen; omega, ha.low (by have := HG5.out.size; have := HBL.out; omega)⟩ (by omega) hbw v0 v1 v2 v3)
    obtain ⟨m, hm⟩ : ∃ m, m = ts.length := ⟨_, rfl⟩
    rw [← hm] at HF ⊢
    clear hs ha hwt hu6 hg6 hbw hgz hm HD
    go_wp2
    (try simp only [Exit.inBlock, Exit.then])
    refine bodyPost_ret (v := tv k n s (.slice a m c)) ?hr rfl ?_
    case hr =>
      rw [results_cell (a := 2) (t := 26) (ad := ⟨w.heap.size, 0, none⟩) rfl rfl]
      go_simp
    exact HF.out _ _ _ _
end Go.Proofs.Ytidbokheeieifaa
