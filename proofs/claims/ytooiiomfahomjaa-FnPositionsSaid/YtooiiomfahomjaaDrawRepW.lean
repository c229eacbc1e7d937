/-
  spec.DrawReplaceAt: a term, a position, and another term, all drawn: the walk.
-/
import Derived.Test.YtooiiomfahomjaaDrawRep
namespace Go.Proofs.Ytooiiomfahomjaa
open Go.RowKit

set_option maxRecDepth 100000 in
set_option maxHeartbeats 6400000 in
theorem drawRep_any (cv : Value) (len : Nat) (w : World) (hcode : CodeAt w w.heap.size cv len) :
    Calls Try.prog 6 #[cv] w (DrawnRep w) := by
  have hz : (boxZ2 w).heap.size = w.heap.size + 2 := by simp
  have HB0 : Hid (Below w.heap.size w (boxZ2 w)) := Lib.hid (((Below.refl _ _).alloc (Nat.le_refl _) _).alloc (by simp) _)
  have HC : Hid (CodeAt (boxZ2 w) (boxZ2 w).heap.size cv len) := Lib.hid (hcode.below HB0.out)
  have HZ := Lib.hid hz
  clear hcode hz
  go_enter Try.func6, Try.ntmps6
  go_wp2_with fail
  refine (new_any cv len _ HC.out).mono ?_
  rintro e w1 ⟨rfl, hu1, hb1, hlt1⟩
  have hz := HZ.out
  have hc1 := HC.out.at_new hb1
  rw [hz] at hc1 hu1
  have HC1 := Lib.hid hc1; clear hc1
  have HU1 := Lib.hid hu1; clear hu1
  have HB1 := Lib.hid hb1; clear hb1
  have hs1 : w.heap.size + 3 ≤ w1.heap.size := by omega
  clear hz hlt1
  go_wp2_with fail
  refine (bent_any (w.heap.size + 2) cv len _ HC1.out HU1.out).mono ?_
  rintro e w2 ⟨v, t, h, rfl, ht, hw, hu2, hg2⟩
  obtain ⟨k, n, s, a, m, cap, rfl⟩ := ht.shape
  have hs2 : w.heap.size + 3 ≤ w2.heap.size := by have := hg2.size; omega
  have HT2 := Lib.hid (ht.low hs1); clear ht
  have HW := Lib.hid hw; clear hw
  have HG1 : Hid ((boxZ2 w).grownBy w2 (some (w.heap.size + 2))) := Lib.hid (grown_trans (Below.toGrown HB1.out _) hg2)
  have HGC : Hid (w1.grownBy w2 (some (w.heap.size + 2))) := Lib.hid hg2
  clear hg2
  obtain ⟨X, hX⟩ : ∃ X, X = w2.alloc (.cells #[.int .i64 k, .int .i64 n, .string s, .slice a m cap] 26) := ⟨_, rfl⟩
  have HX2 : Hid (w2.grownBy X (some (w.heap.size + 2))) := Lib.hid (by rw [hX]; exact World.grownBy_alloc _ _ _)
  have hXz : X.heap.size = w2.heap.size + 1 := by rw [hX]; simp
  have HUX : Hid (CurAt X (w.heap.size + 2) cv len) := Lib.hid (by rw [hX]; exact hu2.alloc _)
  have HXB : Hid (X.heap[w2.heap.size]? = some (.cells #[.int .i64 k, .int .i64 n, .string s, .slice a m cap] 26 (0, 0))) := Lib.hid (by rw [hX]; exact heap_new w2 _ rfl)
  have HXC : Hid (∀ Y, X.grownBy Y (some (w.heap.size + 2)) → CodeAt Y (w.heap.size + 2) cv len) := Lib.hid (fun Y hY => HC1.out.grown HU1.out.lt (grown_trans HGC.out (grown_trans HX2.out hY)))
  clear hu2
  -- what lies in every world behind, but for the cursor
  have HK : Hid (∀ Y, X.grownBy Y (some (w.heap.size + 2)) → (Y.heap[w2.heap.size]? = some (.cells #[.int .i64 k, .int .i64 n, .string s, .slice a m cap] 26 (0, 0)) ∧ Y.heap[w.heap.size]? = some (.cells #[.int .i64 0, .int .i64 0, .string ⟨#[]⟩, .slice none 0 0] 26 (0, 0)) ∧ Y.heap[w.heap.size + 1]? = some (.cells #[.int .i64 0, .int .i64 0, .string ⟨#[]⟩, .slice none 0 0] 26 (0, 0)) ∧
      TermAt Y (w.heap.size + 3) h (tv k n s (.slice a m cap)) t ∧ Below w.heap.size w Y)) := Lib.hid (fun Y hXY => by
    have h2Y := grown_trans HX2.out hXY
    have hZY := grown_trans HG1.out h2Y
    obtain ⟨z1, z2⟩ := boxZ2_cells hZY (by simp) (by simp)
    refine ⟨(hXY.block _ (Array.getElem?_eq_some_iff.1 HXB.out).1 (fun e => by have := Option.some.inj e; omega)).trans HXB.out, z1, z2, HT2.out.grown h2Y (fun j e => by cases e; omega), ?_⟩
    have hzz := HZ.out
    exact HB0.out.trans ⟨hZY.os, hZY.tape, hZY.output, hZY.size, fun i hi => hZY.block i (by omega) (fun e => by have := Option.some.inj e; omega)⟩)
  have HKS : Hid (∀ Y, X.grownBy Y (some (w.heap.size + 2)) → (Y.cell? ⟨w2.heap.size, 0, none⟩ = some (.int .i64 k) ∧ Y.cell? ⟨w2.heap.size, 1, none⟩ = some (.int .i64 n) ∧ Y.cell? ⟨w2.heap.size, 2, none⟩ = some (.string s) ∧ Y.cell? ⟨w2.heap.size, 3, none⟩ = some (.slice a m cap))) := Lib.hid (fun Y hY => (cells_of4 (HK.out Y hY).1).1)
  have HCP : Hid (∀ Y, X.grownBy Y (some (w.heap.size + 2)) → CurAt Y (w.heap.size + 2) cv len → Calls Try.prog 22 #[.pointer (some ⟨w.heap.size + 2, 0, none⟩), tv k n s (.slice a m cap)] Y (PosDr (w.heap.size + 2) cv len Y)) :=
    Lib.hid (fun Y hY hU => posDraw_any _ cv len _ t _ h Y (HXC.out Y hY) hU (HK.out Y hY).2.2.2.1 HW.out)
  have HCB : Hid (∀ Y, X.grownBy Y (some (w.heap.size + 2)) → CurAt Y (w.heap.size + 2) cv len → Calls Try.prog 21 #[.pointer (some ⟨w.heap.size + 2, 0, none⟩)] Y (BentT (w.heap.size + 2) cv len Y)) :=
    Lib.hid (fun Y hY hU => bent_any _ cv len Y (HXC.out Y hY) hU)
  have hne1 : w.heap.size ≠ w2.heap.size := by omega
  have hne2 : w.heap.size + 1 ≠ w2.heap.size := by omega
  have HN1 := Lib.hid hne1; clear hne1
  have HN2 := Lib.hid hne2; clear hne2
  obtain ⟨p0, p1, p2, p3⟩ := HKS.out _ (grown_refl _ _)
  go_wp2_with fail
  rw [← hX]
  clear hX
  clear HB0 HC HZ HC1 HU1 HB1 HT2 HX2 HG1 HGC HXB HXC
  go_region_with (first
      | (go_at_call 22; refine (HCP.out _ (gr_drew (grown_refl _ _)) HUX.out).mono ?_; rintro e w5 ⟨pv, qs, rfl, hq5, hql5, hqf5, hu5, hg5⟩; have hX5 : X.grownBy w5 (some (w.heap.size + 2)) := grown_trans (gr_drew (grown_refl _ _)) hg5; have hz5 : X.heap.size ≤ w5.heap.size := hg5.size; obtain ⟨r0, r1, r2, r3⟩ := HKS.out _ hX5; have HQ5 := Lib.hid hq5; have HU5 := Lib.hid hu5; have HX5 := Lib.hid hX5; have HF5 := Lib.hid hqf5; have HL5 := Lib.hid hql5; clear hq5 hu5 hX5 hqf5 hg5 hql5)
      | (go_at_call 21; refine (HCB.out _ HX5.out HU5.out).mono ?_; rintro e w6 ⟨v6, t6, h6, rfl, ht6, hw6, hu6, hg6⟩; have hX6 : X.grownBy w6 (some (w.heap.size + 2)) := grown_trans HX5.out hg6; have HG6 := Lib.hid hg6; obtain ⟨k6, n6, s6, a6, m6, c6, rfl⟩ := ht6.shape; obtain ⟨_, q2, q3, _, _⟩ := HK.out _ hX6; obtain ⟨⟨z0, z1, z2, z3⟩, y0, y1, y2, y3⟩ := cells_of4 q2; obtain ⟨⟨x0, x1, x2, x3⟩, f0, f1, f2, f3⟩ := cells_of4 q3; obtain ⟨r0, r1, r2, r3⟩ := HKS.out _ hX6; have HT6 := Lib.hid ht6; have HW6 := Lib.hid hw6; have HX6 := Lib.hid hX6; clear ht6 hw6 hX6 hu6 hg6 q2 q3))
  all_goals (
    obtain ⟨_, _, _, ta, hbw⟩ := HK.out _ HX6.out
    have hq6 : w6.ownsRow (w.heap.size + 2) 3 1 pv qs.length (qs.map iv) := own_low (own_at HQ5.out (fun kk e => by
      have hk := HQ5.out.lt kk e
      have hk1 : X.heap.size ≤ kk := hk.1
      exact HG6.out.block kk hk.2 (fun e2 => by have := Option.some.inj e2; omega))) (by show w.heap.size + 2 ≤ X.heap.size; omega)
    have HF := Lib.hid (rep_fin (ta.low (by omega)) (HT6.out.low (by omega)) HW.out HW6.out hq6 HL5.out hbw)
    clear ta hbw hq6
    go_wp2
    (try simp only [Exit.inBlock, Exit.then])
    refine bodyPost_ret (v := .tuple #[tv k n s (.slice a m cap), pv, tv k6 n6 s6 (.slice a6 m6 c6)]) ?_ rfl ?_
    · refine results_ctc (a := 2) (b := 3) (c := 4) (t := 26) (ad := ⟨w.heap.size, 0, none⟩) (cd := ⟨w.heap.size + 1, 0, none⟩) rfl rfl rfl _ _ ?_ ?_ <;> go_simp
    · exact HF.out _ _ _ _ _ _ _ _)
end Go.Proofs.Ytooiiomfahomjaa
