/-
  spec.EqualGuard and impl.EqualGuard: two guards are equal.
-/
import Derived.Test.YtidbokheeieifaaQ8
import Derived.Test.YtidbokheeieifaaQ12
import Derived.Test.YtidbokheeieifaaQ21
namespace Go.Proofs.Ytidbokheeieifaa
open Go.RowKit

open Classical in
/-- Two guards are the same. -/
noncomputable def eqGB (g g' : Gd) : Bool := decide (g = g')
theorem eqGB_iff (g g' : Gd) : eqGB g g' = true ↔ g = g' := by unfold eqGB; simp

set_option maxRecDepth 100000 in
set_option maxHeartbeats 1600000 in
theorem sEqG_any (v v' : Value) (g g' : Gd) (lo lo' h h' : Nat) (w : World) (hv : GAt w lo h v g) (hv' : GAt w lo' h' v' g') (hw : wG g ≤ 1048576) :
    Calls Try.prog 46 #[v, v'] w (AnsB (eqGB g g') w) := by
  obtain ⟨k, n, s, u, k', n', s', u', rfl, ht1, ht2⟩ := hv
  obtain ⟨ka, na, sa, ua, kb, nb, sb, ub, rfl, ht3, ht4⟩ := hv'
  obtain ⟨kd, t1, t2⟩ := g
  obtain ⟨ke, t3, t4⟩ := g'
  have hw1 : wT t1 ≤ 1048576 := by unfold wG at hw; simp only at hw; omega
  have hw2 : wT t2 ≤ 1048576 := by unfold wG at hw; simp only at hw; omega
  clear hw
  obtain ⟨W, hW⟩ : ∃ W, W = (w.alloc (.cells #[.int .i64 kd, .int .i64 k, .int .i64 n, .string s, u, .int .i64 k', .int .i64 n', .string s', u'] 31)).alloc (.cells #[.int .i64 ke, .int .i64 ka, .int .i64 na, .string sa, ua, .int .i64 kb, .int .i64 nb, .string sb, ub] 31) := ⟨_, rfl⟩
  have hb0 : Below w.heap.size w W := by rw [hW]; exact ((Below.refl _ _).alloc (Nat.le_refl _) _).alloc (by simp) _
  have r0 : W.heap[w.heap.size]? = some (grow 31 kd k n s u k' n' s' u') := by rw [hW, Below.heap_alloc _ _ _ (by simp)]; exact heap_new _ _ rfl
  have r1 : W.heap[w.heap.size + 1]? = some (grow 31 ke ka na sa ua kb nb sb ub) := by rw [hW]; exact heap_new _ _ (by simp)
  have HR := Lib.hid (And.intro r0 r1); clear r0 r1
  have HT := Lib.hid (And.intro (ht1.below hb0) (ht3.below hb0)); clear ht1 ht3
  have HU := Lib.hid (And.intro (ht2.below hb0) (ht4.below hb0)); clear ht2 ht4
  have HB0 := Lib.hid hb0; clear hb0
  obtain ⟨r, hr⟩ : ∃ r, r = eqGB ⟨kd, t1, t2⟩ ⟨ke, t3, t4⟩ := ⟨_, rfl⟩
  have HE : Hid (r = true ↔ (kd = ke ∧ t1 = t3 ∧ t2 = t4)) := Lib.hid (by rw [hr, eqGB_iff]; simp)
  rw [← hr]
  clear hr
  by_cases hk : kd = ke
  · subst hk
    go_enter Try.func46, Try.ntmps46
    go_wp2_with fail
    rw [← hW]
    clear hW
    refine (sSame_anyK _ _ _ _ _ t1 t3 _ _ HT.out.1 HT.out.2 (by have := cT_le t1; omega)).mono ?_
    rintro e w1 ⟨b1, ⟨rfl, hb1⟩, hq1⟩
    have q0 := (hb1.block _ (Array.getElem?_eq_some_iff.1 HR.out.1).1).trans HR.out.1
    have q1 := (hb1.block _ (Array.getElem?_eq_some_iff.1 HR.out.2).1).trans HR.out.2
    have HU2 := Lib.hid (And.intro (HU.out.1.below hb1) (HU.out.2.below hb1))
    have HB1 := Lib.hid (HB0.out.trans (hb1.mono HB0.out.size)); clear hb1
    have HQ1 := Lib.hid hq1; clear hq1
    obtain ⟨x0, x1, x2, x3, x4, x5, x6, x7, x8⟩ := cells_of9 q0
    obtain ⟨z0, z1, z2, z3, z4, z5, z6, z7, z8⟩ := cells_of9 q1
    clear q0 q1 x0 x1 x2 x3 x4 z0 z1 z2 z3 z4
    cases b1 with
    | false =>
      have hrf : r = false := by
        cases r with
        | false => rfl
        | true => have h1 := HE.out.1 rfl; have h2 := HQ1.out.2 h1.2.1; cases h2
      subst hrf
      go_wp2
      go_ret
      exact ⟨rfl, HB1.out⟩
    | true =>
      go_wp2_with fail
      refine (sSame_anyK _ _ _ _ _ t2 t4 _ _ HU2.out.1 HU2.out.2 (by have := cT_le t2; omega)).mono ?_
      rintro e w2 ⟨b2, ⟨rfl, hb2⟩, hq2⟩
      have HB2 := Lib.hid (HB1.out.trans (hb2.mono HB1.out.size)); clear hb2
      have hrr : r = b2 := by
        have h1 := HE.out
        have h3 := HQ1.out.1 (by first | rfl | trivial)
        cases b2 with
        | false => cases r with
          | false => rfl
          | true => have h2 := hq2.2 (h1.1 rfl).2.2; cases h2
        | true => exact h1.2 ⟨(by first | rfl | trivial), h3, hq2.1 rfl⟩
      subst hrr
      clear hq2
      go_wp2
      go_ret
      exact ⟨rfl, HB2.out⟩
  · have hrf : r = false := by
      cases r with
      | false => rfl
      | true => exact absurd (HE.out.1 rfl).1 hk
    subst hrf
    have hkk : (kd == ke) = false := by simpa using hk
    go_enter Try.func46, Try.ntmps46
    go_wp2
    rw [← hW]
    go_ret
    exact ⟨rfl, HB0.out⟩

set_option maxRecDepth 100000 in
set_option maxHeartbeats 1600000 in
theorem iEqG_any (v v' : Value) (g g' : Gd) (lo lo' h h' : Nat) (w : World) (hv : GAt w lo h v g) (hv' : GAt w lo' h' v' g') (hw : wG g ≤ 1048576) :
    Calls Try.prog 47 #[v, v'] w (AnsB (eqGB g g') w) := by
  obtain ⟨k, n, s, u, k', n', s', u', rfl, ht1, ht2⟩ := hv
  obtain ⟨ka, na, sa, ua, kb, nb, sb, ub, rfl, ht3, ht4⟩ := hv'
  obtain ⟨kd, t1, t2⟩ := g
  obtain ⟨ke, t3, t4⟩ := g'
  have hw1 : wT t1 ≤ 1048576 := by unfold wG at hw; simp only at hw; omega
  have hw2 : wT t2 ≤ 1048576 := by unfold wG at hw; simp only at hw; omega
  clear hw
  obtain ⟨W, hW⟩ : ∃ W, W = (w.alloc (.cells #[.int .i64 kd, .int .i64 k, .int .i64 n, .string s, u, .int .i64 k', .int .i64 n', .string s', u'] 31)).alloc (.cells #[.int .i64 ke, .int .i64 ka, .int .i64 na, .string sa, ua, .int .i64 kb, .int .i64 nb, .string sb, ub] 31) := ⟨_, rfl⟩
  have hb0 : Below w.heap.size w W := by rw [hW]; exact ((Below.refl _ _).alloc (Nat.le_refl _) _).alloc (by simp) _
  have r0 : W.heap[w.heap.size]? = some (grow 31 kd k n s u k' n' s' u') := by rw [hW, Below.heap_alloc _ _ _ (by simp)]; exact heap_new _ _ rfl
  have r1 : W.heap[w.heap.size + 1]? = some (grow 31 ke ka na sa ua kb nb sb ub) := by rw [hW]; exact heap_new _ _ (by simp)
  have HR := Lib.hid (And.intro r0 r1); clear r0 r1
  have HT := Lib.hid (And.intro (ht1.below hb0) (ht3.below hb0)); clear ht1 ht3
  have HU := Lib.hid (And.intro (ht2.below hb0) (ht4.below hb0)); clear ht2 ht4
  have HB0 := Lib.hid hb0; clear hb0
  obtain ⟨r, hr⟩ : ∃ r, r = eqGB ⟨kd, t1, t2⟩ ⟨ke, t3, t4⟩ := ⟨_, rfl⟩
  have HE : Hid (r = true ↔ (kd = ke ∧ t1 = t3 ∧ t2 = t4)) := Lib.hid (by rw [hr, eqGB_iff]; simp)
  rw [← hr]
  clear hr
  by_cases hk : kd = ke
  · subst hk
    go_enter Try.func47, Try.ntmps47
    go_wp2_with fail
    rw [← hW]
    clear hW
    refine (equalTI_anyK _ _ t1 t3 _ _ _ _ _ HT.out.1 HT.out.2 (by have := cT_le t1; omega)).mono ?_
    rintro e w1 ⟨b1, ⟨rfl, hb1⟩, hq1⟩
    have q0 := (hb1.block _ (Array.getElem?_eq_some_iff.1 HR.out.1).1).trans HR.out.1
    have q1 := (hb1.block _ (Array.getElem?_eq_some_iff.1 HR.out.2).1).trans HR.out.2
    have HU2 := Lib.hid (And.intro (HU.out.1.below hb1) (HU.out.2.below hb1))
    have HB1 := Lib.hid (HB0.out.trans (hb1.mono HB0.out.size)); clear hb1
    have HQ1 := Lib.hid hq1; clear hq1
    obtain ⟨x0, x1, x2, x3, x4, x5, x6, x7, x8⟩ := cells_of9 q0
    obtain ⟨z0, z1, z2, z3, z4, z5, z6, z7, z8⟩ := cells_of9 q1
    clear q0 q1 x0 x1 x2 x3 x4 z0 z1 z2 z3 z4
    cases b1 with
    | false =>
      have hrf : r = false := by
        cases r with
        | false => rfl
        | true => have h1 := HE.out.1 rfl; have h2 := HQ1.out.2 h1.2.1; cases h2
      subst hrf
      go_wp2
      go_ret
      exact ⟨rfl, HB1.out⟩
    | true =>
      go_wp2_with fail
      refine (equalTI_anyK _ _ t2 t4 _ _ _ _ _ HU2.out.1 HU2.out.2 (by have := cT_le t2; omega)).mono ?_
      rintro e w2 ⟨b2, ⟨rfl, hb2⟩, hq2⟩
      have HB2 := Lib.hid (HB1.out.trans (hb2.mono HB1.out.size)); clear hb2
      have hrr : r = b2 := by
        have h1 := HE.out
        have h3 := HQ1.out.1 (by first | rfl | trivial)
        cases b2 with
        | false => cases r with
          | false => rfl
          | true => have h2 := hq2.2 (h1.1 rfl).2.2; cases h2
        | true => exact h1.2 ⟨(by first | rfl | trivial), h3, hq2.1 rfl⟩
      subst hrr
      clear hq2
      go_wp2
      go_ret
      exact ⟨rfl, HB2.out⟩
  · have hrf : r = false := by
      cases r with
      | false => rfl
      | true => exact absurd (HE.out.1 rfl).1 hk
    subst hrf
    have hkk : (kd == ke) = false := by simpa using hk
    go_enter Try.func47, Try.ntmps47
    go_wp2
    rw [← hW]
    go_ret
    exact ⟨rfl, HB0.out⟩

end Go.Proofs.Ytidbokheeieifaa
