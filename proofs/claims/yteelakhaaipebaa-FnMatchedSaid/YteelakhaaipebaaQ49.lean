/-
  spec.l22Binds, spec.EqualProof and laws.sameBinds at two readings of one list of Binds.
-/
import Derived.Test.YteelakhaaipebaaQ18
import Derived.Test.YteelakhaaipebaaQ34
import Derived.Deep.RegionHeld3
namespace Go.Proofs.Yteelakhaaipebaa
open Go.RowKit

set_option maxRecDepth 100000 in
set_option maxHeartbeats 1600000 in
theorem l22_any (u v : Value) (bs : List (ByteArray × T)) (lo lo' h : Nat) (w : World) (hl : bs.length ≤ 9223372036854775807) (hwt : ∀ x ∈ bs, wT x.2 ≤ 1048576) (hu : BsAt w lo h u bs) (hv : BsAt w lo' h v bs) :
    Calls Try.prog 117 #[u, v] w (TrueB w) := by
  have HWT := Lib.hid hwt; clear hwt
  have HC := Lib.hid hu
  have HC' := Lib.hid hv
  obtain ⟨a, cap, rfl⟩ := hu.slice
  obtain ⟨a', cap', rfl⟩ := hv.slice
  clear hu hv
  obtain ⟨n, hn⟩ : ∃ n, n = bs.length := ⟨_, rfl⟩
  rw [← hn] at hl HC HC' ⊢
  have HN := Lib.hid hn; clear hn
  go_enter Try.func117, Try.ntmps117
  go_wp2
  go_loopw [5] (fun i wr => ∃ k : Nat, k ≤ n ∧ i = .int .i64 k ∧ Hid (Below w.heap.size w wr)) (fun i _ => n - (intOf i).toNat)
  case atStart => exact ⟨0, Nat.zero_le _, rfl, Lib.hid (Below.refl _ _)⟩
  case round =>
    obtain ⟨k, hk, rfl, HB⟩ := hrel
    by_cases hlt : k < n
    · obtain ⟨y, ht⟩ : ∃ y, bs[k]? = some y := ⟨_, List.getElem?_eq_getElem (by have := HN.out; omega)⟩
      obtain ⟨b, o, c', p, tk', tn, tsn, txs, u1, e, rfl, _, _, hsz, c0, c1, c2, c3, c4, har⟩ := HC.out.at ht
      obtain ⟨b2, o2, c2', _, _, _, _, _, u2, e', e2, _, _, _, d0, d1, d2, d3, d4, har'⟩ := HC'.out.at ht
      cases e2
      obtain ⟨rfl, -, rfl⟩ : a = some ⟨b, o, none⟩ ∧ n = bs.length ∧ cap = c' := by simpa using e
      obtain ⟨rfl, -, rfl⟩ : a' = some ⟨b2, o2, none⟩ ∧ n = bs.length ∧ cap' = c2' := by simpa using e'
      have HK : Hid (∀ w', Below wr.heap.size wr w' → (w'.cell? ⟨b, o + k * 5, none⟩ = some (.string p) ∧ w'.cell? ⟨b, o + k * 5 + 1, none⟩ = some (.int .i64 tk') ∧ w'.cell? ⟨b, o + k * 5 + 2, none⟩ = some (.int .i64 tn) ∧ w'.cell? ⟨b, o + k * 5 + 3, none⟩ = some (.string tsn) ∧ w'.cell? ⟨b, o + k * 5 + 4, none⟩ = some u1 ∧
          w'.cell? ⟨b2, o2 + k * 5, none⟩ = some (.string p) ∧ w'.cell? ⟨b2, o2 + k * 5 + 1, none⟩ = some (.int .i64 tk') ∧ w'.cell? ⟨b2, o2 + k * 5 + 2, none⟩ = some (.int .i64 tn) ∧ w'.cell? ⟨b2, o2 + k * 5 + 3, none⟩ = some (.string tsn) ∧ w'.cell? ⟨b2, o2 + k * 5 + 4, none⟩ = some u2 ∧ Below wr.heap.size wr w')) := Lib.hid (fun w' hb => by
        have hq := HB.out.trans (hb.mono HB.out.size)
        exact ⟨cell_on hq c0, cell_on hq c1, cell_on hq c2, cell_on hq c3, cell_on hq c4, cell_on hq d0, cell_on hq d1, cell_on hq d2, cell_on hq d3, cell_on hq d4, hb⟩)
      have HCALL : Hid (∀ w', Below wr.heap.size wr w' → Calls Try.prog 15 #[tv tk' tn tsn u1, tv tk' tn tsn u2] w' (TrueB w')) := Lib.hid (fun w' hb => by
        have hq := HB.out.trans (hb.mono HB.out.size)
        refine (sSame_any lo lo' h (tv tk' tn tsn u1) (tv tk' tn tsn u2) (.node tk' tn tsn txs) (.node tk' tn tsn txs) w' h ⟨_, _, _, _, txs, rfl, rfl, hsz, har.below hq⟩ ⟨_, _, _, _, txs, rfl, rfl, hsz, har'.below hq⟩ (HWT.out _ (List.mem_iff_getElem?.2 ⟨k, ht⟩))).mono ?_
        rintro e w5 ⟨r, ⟨rfl, hb5⟩, hr⟩
        rw [hr.2 rfl]
        exact ⟨rfl, hb5⟩)
      clear c0 c1 c2 c3 c4 d0 d1 d2 d3 d4 e e' ht har har' hsz
      obtain ⟨c0, c1, c2, c3, c4, d0, d1, d2, d3, d4, hb0⟩ := HK.out _ (Below.refl _ _)
      have e3 : (p.toList == p.toList) = true := by simp
      go_wp2
      go_region_held3 (fun w' => w'.cell? ⟨b, o + k * 5, none⟩ = some (.string p) ∧ w'.cell? ⟨b, o + k * 5 + 1, none⟩ = some (.int .i64 tk') ∧ w'.cell? ⟨b, o + k * 5 + 2, none⟩ = some (.int .i64 tn) ∧ w'.cell? ⟨b, o + k * 5 + 3, none⟩ = some (.string tsn) ∧ w'.cell? ⟨b, o + k * 5 + 4, none⟩ = some u1 ∧
          w'.cell? ⟨b2, o2 + k * 5, none⟩ = some (.string p) ∧ w'.cell? ⟨b2, o2 + k * 5 + 1, none⟩ = some (.int .i64 tk') ∧ w'.cell? ⟨b2, o2 + k * 5 + 2, none⟩ = some (.int .i64 tn) ∧ w'.cell? ⟨b2, o2 + k * 5 + 3, none⟩ = some (.string tsn) ∧ w'.cell? ⟨b2, o2 + k * 5 + 4, none⟩ = some u2 ∧ Below wr.heap.size wr w')
        (first | exact HK.out _ (by assumption) | exact HK.out _ (bel_drew (by assumption)) | exact HK.out _ (Below.drew (by assumption)) | exact HK.out _ (Below.trans (by assumption) (Below.mono (by assumption) (Below.size (by assumption)))) | go_keep)
        (first | (go_at_call 15; refine (HCALL.out _ (by first | assumption | exact Below.drew (by assumption))).mono ?_; rintro e w1 ⟨rfl, hb1⟩))
      have HB2 := Lib.hid (HB.out.trans ((bel_drew hb1).mono HB.out.size)); clear hb1
      go_wp2
      go_roundw
      case rel => exact ⟨k + 1, by omega, by go_num, HB2⟩
      case measure => simp [intOf]; omega
    · go_wp2
      go_ret
      exact ⟨rfl, HB.out⟩

set_option maxRecDepth 100000 in
set_option maxHeartbeats 400000 in
theorem ints_none (w : World) : Calls Try.prog 116 #[.slice none 0 0, .slice none 0 0] w (TrueB w) := by
  have HB : Hid (Below w.heap.size w w) := Lib.hid (Below.refl _ _)
  go_enter Try.func116, Try.ntmps116
  go_wp2
  go_loop [5] (fun i => i = .int .i64 0) (fun _ => 0)
  case atStart => rfl
  case round =>
    subst hrel
    go_wp2
    go_ret
    exact ⟨rfl, HB.out⟩

/-- The cells of a proof's node that holds a list of Binds alone. -/
def NodeAt (w : World) (p : Nat) (u : Value) : Prop := w.heap[p]? = some (.cells #[.int .i64 0, .slice none 0 0, .int .i64 0, u] 91 (0, 0))

set_option maxRecDepth 100000 in
set_option maxHeartbeats 1600000 in
theorem proof_any (p q : Nat) (u v : Value) (bs : List (ByteArray × T)) (lo lo' h : Nat) (w : World) (hl : bs.length ≤ 9223372036854775807) (hwt : ∀ x ∈ bs, wT x.2 ≤ 1048576) (hu : BsAt w lo h u bs) (hv : BsAt w lo' h v bs) (hp : NodeAt w p u) (hq : NodeAt w q v) :
    Calls Try.prog 63 #[.agg #[.slice (some ⟨p, 0, none⟩) 1 1], .agg #[.slice (some ⟨q, 0, none⟩) 1 1]] w (TrueB w) := by
  obtain ⟨a, cap, rfl⟩ := hu.slice
  obtain ⟨a', cap', rfl⟩ := hv.slice
  obtain ⟨n, hn⟩ : ∃ n, n = bs.length := ⟨_, rfl⟩
  have HC : Hid (∀ w', Below w.heap.size w w' → Calls Try.prog 117 #[.slice a bs.length cap, .slice a' bs.length cap'] w' (TrueB w')) := Lib.hid (fun w' hb => l22_any _ _ bs lo lo' h w' hl hwt (hu.below hb) (hv.below hb))
  rw [← hn] at hp hq HC
  obtain ⟨W0, hW0⟩ : ∃ W0, W0 = (w.alloc (.cells #[.slice (some ⟨p, 0, none⟩) 1 1] 94)).alloc (.cells #[.slice (some ⟨q, 0, none⟩) 1 1] 94) := ⟨_, rfl⟩
  have hb0 : Below w.heap.size w W0 := by rw [hW0]; exact ((Below.refl _ _).alloc (Nat.le_refl _) _).alloc (by simp) _
  have hs0 : W0.heap.size = w.heap.size + 2 := by rw [hW0]; simp
  have r0 : W0.heap[w.heap.size]? = some (.cells #[.slice (some ⟨p, 0, none⟩) 1 1] 94 (0, 0)) := by rw [hW0, Below.heap_alloc _ _ _ (by simp)]; exact heap_new _ _ rfl
  have r1 : W0.heap[w.heap.size + 1]? = some (.cells #[.slice (some ⟨q, 0, none⟩) 1 1] 94 (0, 0)) := by rw [hW0]; exact heap_new _ _ (by simp)
  have rp : NodeAt W0 p (.slice a n cap) := (hb0.block p (Array.getElem?_eq_some_iff.1 hp).1).trans hp
  have rq : NodeAt W0 q (.slice a' n cap') := (hb0.block q (Array.getElem?_eq_some_iff.1 hq).1).trans hq
  have HCELL : Hid (∀ w', Below W0.heap.size W0 w' → w'.cell? ⟨w.heap.size, 0, none⟩ = some (.slice (some ⟨p, 0, none⟩) 1 1) ∧ w'.cell? ⟨w.heap.size + 1, 0, none⟩ = some (.slice (some ⟨q, 0, none⟩) 1 1) ∧
      (w'.cell? ⟨p, 0, none⟩ = some (.int .i64 0) ∧ w'.cell? ⟨p, 1, none⟩ = some (.slice none 0 0) ∧ w'.cell? ⟨p, 2, none⟩ = some (.int .i64 0) ∧ w'.cell? ⟨p, 3, none⟩ = some (.slice a n cap)) ∧
      (w'.cell? ⟨q, 0, none⟩ = some (.int .i64 0) ∧ w'.cell? ⟨q, 1, none⟩ = some (.slice none 0 0) ∧ w'.cell? ⟨q, 2, none⟩ = some (.int .i64 0) ∧ w'.cell? ⟨q, 3, none⟩ = some (.slice a' n cap'))) := Lib.hid (fun w' hb => by
    have c0 := cell_on hb (cell_of_row W0 w.heap.size 0 _ _ _ r0)
    have c1 := cell_on hb (cell_of_row W0 (w.heap.size + 1) 0 _ _ _ r1)
    have p0 := cell_on hb (cell_of_row W0 p 0 _ _ _ rp)
    have p1 := cell_on hb (cell_of_row W0 p 1 _ _ _ rp)
    have p2 := cell_on hb (cell_of_row W0 p 2 _ _ _ rp)
    have p3 := cell_on hb (cell_of_row W0 p 3 _ _ _ rp)
    have q0 := cell_on hb (cell_of_row W0 q 0 _ _ _ rq)
    have q1 := cell_on hb (cell_of_row W0 q 1 _ _ _ rq)
    have q2 := cell_on hb (cell_of_row W0 q 2 _ _ _ rq)
    have q3 := cell_on hb (cell_of_row W0 q 3 _ _ _ rq)
    exact ⟨c0, c1, ⟨p0, p1, p2, p3⟩, ⟨q0, q1, q2, q3⟩⟩)
  have HB0 := Lib.hid hb0
  clear hl hwt hu hv hp hq hn hb0 hs0 r0 r1 rp rq
  go_enter Try.func63, Try.ntmps63
  obtain ⟨c0, c1, ⟨p0, p1, p2, p3⟩, ⟨q0, q1, q2, q3⟩⟩ := HCELL.out _ (Below.refl _ _)
  go_upto_region 1 with fail
  rw [← hW0]
  clear hW0
  go_wp2
  clear c0 c1 p0 p1 p2 p3 q0 q1 q2 q3
  go_loopw [5] (fun i wr => ∃ k : Nat, k ≤ 1 ∧ i = .int .i64 k ∧ Hid (Below W0.heap.size W0 wr)) (fun i _ => 1 - (intOf i).toNat)
  case atStart => exact ⟨0, Nat.zero_le _, rfl, Lib.hid (Below.refl _ _)⟩
  case round =>
    obtain ⟨k, hk, rfl, HB⟩ := hrel
    obtain ⟨c0, c1, ⟨p0, p1, p2, p3⟩, ⟨q0, q1, q2, q3⟩⟩ := HCELL.out _ HB.out
    rcases (by omega : k = 0 ∨ k = 1) with rfl | rfl
    · obtain ⟨W1, hW1⟩ : ∃ W1, W1 = wr.alloc (.cells #[.int .i64 0, .slice none 0 0, .int .i64 0, .slice a n cap] 91) := ⟨_, rfl⟩
      have hb1 : Below wr.heap.size wr W1 := by rw [hW1]; exact (Below.refl _ _).alloc (Nat.le_refl _) _
      have r1 : W1.heap[wr.heap.size]? = some (.cells #[.int .i64 0, .slice none 0 0, .int .i64 0, .slice a n cap] 91 (0, 0)) := by rw [hW1]; exact heap_new _ _ rfl
      have hs1 : W1.heap.size = wr.heap.size + 1 := by rw [hW1]; simp
      obtain ⟨W2, hW2⟩ : ∃ W2, W2 = W1.alloc (.cells #[.int .i64 0, .slice none 0 0, .int .i64 0, .slice a' n cap'] 91) := ⟨_, rfl⟩
      have hb2 : Below W1.heap.size W1 W2 := by rw [hW2]; exact (Below.refl _ _).alloc (Nat.le_refl _) _
      have r2 : W2.heap[W1.heap.size]? = some (.cells #[.int .i64 0, .slice none 0 0, .int .i64 0, .slice a' n cap'] 91 (0, 0)) := by rw [hW2]; exact heap_new _ _ rfl
      have r1' := (hb2.block _ (by omega)).trans r1
      have HB2 := Lib.hid (bel_two (bel_two HB.out hb1) hb2)
      have HN : Hid (∀ w', Below W2.heap.size W2 w' → (w'.cell? ⟨wr.heap.size, 0, none⟩ = some (.int .i64 0) ∧ w'.cell? ⟨wr.heap.size, 1, none⟩ = some (.slice none 0 0) ∧ w'.cell? ⟨wr.heap.size, 2, none⟩ = some (.int .i64 0) ∧ w'.cell? ⟨wr.heap.size, 3, none⟩ = some (.slice a n cap)) ∧
          (w'.cell? ⟨W1.heap.size, 0, none⟩ = some (.int .i64 0) ∧ w'.cell? ⟨W1.heap.size, 1, none⟩ = some (.slice none 0 0) ∧ w'.cell? ⟨W1.heap.size, 2, none⟩ = some (.int .i64 0) ∧ w'.cell? ⟨W1.heap.size, 3, none⟩ = some (.slice a' n cap'))) := Lib.hid (fun w' hb => by
        exact ⟨⟨cell_on hb (cell_of_row W2 wr.heap.size 0 _ _ _ r1'), cell_on hb (cell_of_row W2 wr.heap.size 1 _ _ _ r1'), cell_on hb (cell_of_row W2 wr.heap.size 2 _ _ _ r1'), cell_on hb (cell_of_row W2 wr.heap.size 3 _ _ _ r1')⟩,
          ⟨cell_on hb (cell_of_row W2 W1.heap.size 0 _ _ _ r2), cell_on hb (cell_of_row W2 W1.heap.size 1 _ _ _ r2), cell_on hb (cell_of_row W2 W1.heap.size 2 _ _ _ r2), cell_on hb (cell_of_row W2 W1.heap.size 3 _ _ _ r2)⟩⟩)
      have HS1 := Lib.hid hs1
      clear hb2 r1 r2 r1' hs1
      go_upto_region 7 with fail
      rw [← hW1]
      clear hW1
      clear c0 c1 p0 p1 p2 p3 q0 q1 q2 q3
      obtain ⟨c0, c1, ⟨p0, p1, p2, p3⟩, ⟨q0, q1, q2, q3⟩⟩ := HCELL.out _ (bel_two HB.out hb1)
      clear hb1
      go_upto_region 8 with fail
      rw [← hW2]
      clear hW2 c0 c1 p0 p1 p2 p3 q0 q1 q2 q3
      obtain ⟨⟨p0, p1, p2, p3⟩, ⟨q0, q1, q2, q3⟩⟩ := HN.out _ (Below.refl _ _)
      go_wp2_with fail
      refine (ints_none _).mono ?_
      rintro e w3 ⟨rfl, hb3⟩
      clear p0 p1 p2 p3 q0 q1 q2 q3
      obtain ⟨⟨p0, p1, p2, p3⟩, ⟨q0, q1, q2, q3⟩⟩ := HN.out _ hb3
      have HB3 := Lib.hid (bel_two HB2.out hb3)
      clear hb3
      go_wp2_with fail
      refine (HC.out _ (bel_two HB0.out HB3.out)).mono ?_
      rintro e w4 ⟨rfl, hb4⟩
      have HB4 := Lib.hid (bel_two HB3.out hb4)
      clear hb4 p0 p1 p2 p3 q0 q1 q2 q3
      go_wp2
      go_roundw
      case rel => exact ⟨1, by omega, by go_num, HB4⟩
      case measure => simp [intOf]
    · have HBF := Lib.hid (bel_two HB0.out HB.out)
      go_wp2
      go_ret
      exact ⟨rfl, HBF.out⟩

set_option maxRecDepth 100000 in
set_option maxHeartbeats 1600000 in
/-- Two readings of one list of Binds: laws.sameBinds tells that they are the same. -/
theorem sameBs_any (u v : Value) (bs : List (ByteArray × T)) (lo lo' h h' : Nat) (w : World) (hl : bs.length ≤ 9223372036854775807) (hwt : ∀ x ∈ bs, wT x.2 ≤ 1048576) (hu : BsAt w lo h u bs) (hv : BsAt w lo' h' v bs) :
    Calls Try.prog 17 #[u, v] w (TrueB w) := by
  obtain ⟨W2, hW2⟩ : ∃ W2, W2 = (w.alloc (.cells #[.int .i64 0, .slice none 0 0, .int .i64 0, u] 91)).alloc (.cells #[.int .i64 0, .slice none 0 0, .int .i64 0, v] 91) := ⟨_, rfl⟩
  have hb2 : Below w.heap.size w W2 := by rw [hW2]; exact ((Below.refl _ _).alloc (Nat.le_refl _) _).alloc (by simp) _
  have r1 : NodeAt W2 w.heap.size u := by unfold NodeAt; rw [hW2, Below.heap_alloc _ _ _ (by simp)]; exact heap_new _ _ rfl
  have r2 : NodeAt W2 (w.heap.size + 1) v := by unfold NodeAt; rw [hW2]; exact heap_new _ _ (by simp)
  have HC := Lib.hid (proof_any w.heap.size (w.heap.size + 1) u v bs lo lo' (max h h') W2 hl hwt ((hu.two hv).1.below hb2) ((hu.two hv).2.below hb2) r1 r2)
  have HB2 := Lib.hid hb2
  obtain ⟨a, cap, rfl⟩ := hu.slice
  obtain ⟨a', cap', rfl⟩ := hv.slice
  clear hu hv hl hwt r1 r2 hb2
  go_enter Try.func17, Try.ntmps17
  go_wp2_with fail
  rw [← hW2]
  clear hW2
  refine HC.out.mono ?_
  rintro e w3 ⟨rfl, hb3⟩
  have HB3 := Lib.hid (bel_two HB2.out hb3)
  clear hb3
  go_wp2
  go_ret
  exact ⟨rfl, HB3.out⟩
end Go.Proofs.Yteelakhaaipebaa
