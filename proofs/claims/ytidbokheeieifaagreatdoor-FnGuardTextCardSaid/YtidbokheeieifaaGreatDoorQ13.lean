/-
  laws.szGuard counts what a guard holds, laws.toGuard copies it into memory of the call's own, laws.eqGuard compares two readings of one guard.
-/
import Derived.Test.YtidbokheeieifaaGreatDoorQ12
import Derived.Deep.RegionHeld3
namespace Go.Proofs.YtidbokheeieifaaGreatDoor
open Go.RowKit

/-- Four cells behind one. -/
theorem set4_heap {W : World} {b : Nat} {x0 x1 x2 x3 x4 x5 x6 x7 x8 : Value} {ty : TypeId} (h : W.heap[b]? = some (.cells #[x0, x1, x2, x3, x4, x5, x6, x7, x8] ty (0, 0))) (y1 y2 y3 y4 : Value) :
    ((((W.setCell ⟨b, 1, none⟩ y1).setCell ⟨b, 2, none⟩ y2).setCell ⟨b, 3, none⟩ y3).setCell ⟨b, 4, none⟩ y4).heap[b]? = some (.cells #[x0, y1, y2, y3, y4, x5, x6, x7, x8] ty (0, 0)) := by
  have h1 := heap_set_atK h 1 y1
  have h2 := heap_set_atK h1 2 y2
  have h3 := heap_set_atK h2 3 y3
  have h4 := heap_set_atK h3 4 y4
  simpa using h4
theorem set4_heap' {W : World} {b : Nat} {x0 x1 x2 x3 x4 x5 x6 x7 x8 : Value} {ty : TypeId} (h : W.heap[b]? = some (.cells #[x0, x1, x2, x3, x4, x5, x6, x7, x8] ty (0, 0))) (y1 y2 y3 y4 : Value) :
    ((((W.setCell ⟨b, 5, none⟩ y1).setCell ⟨b, 6, none⟩ y2).setCell ⟨b, 7, none⟩ y3).setCell ⟨b, 8, none⟩ y4).heap[b]? = some (.cells #[x0, x1, x2, x3, x4, y1, y2, y3, y4] ty (0, 0)) := by
  have h1 := heap_set_atK h 5 y1
  have h2 := heap_set_atK h1 6 y2
  have h3 := heap_set_atK h2 7 y3
  have h4 := heap_set_atK h3 8 y4
  simpa using h4
theorem set9_heap {W : World} {b c : Nat} (hc : c ≠ b) (y0 y1 y2 y3 y4 y5 y6 y7 y8 : Value) :
    (((((((((W.setCell ⟨b, 0, none⟩ y0).setCell ⟨b, 1, none⟩ y1).setCell ⟨b, 2, none⟩ y2).setCell ⟨b, 3, none⟩ y3).setCell ⟨b, 4, none⟩ y4).setCell ⟨b, 5, none⟩ y5).setCell ⟨b, 6, none⟩ y6).setCell ⟨b, 7, none⟩ y7).setCell ⟨b, 8, none⟩ y8).heap[c]? = W.heap[c]? := by
  have st : ∀ (X : World) (j : Nat) (v : Value), (X.setCell ⟨b, j, none⟩ v).heap[c]? = X.heap[c]? := fun X j v => Below.heap_setCell _ _ _ _ (fun e => hc (by simpa using e))
  rw [st, st, st, st, st, st, st, st, st]
theorem set4_other {W : World} {b c j1 j2 j3 j4 : Nat} (hc : c ≠ b) (y1 y2 y3 y4 : Value) :
    ((((W.setCell ⟨b, j1, none⟩ y1).setCell ⟨b, j2, none⟩ y2).setCell ⟨b, j3, none⟩ y3).setCell ⟨b, j4, none⟩ y4).heap[c]? = W.heap[c]? := by
  have st : ∀ (X : World) (j : Nat) (v : Value), (X.setCell ⟨b, j, none⟩ v).heap[c]? = X.heap[c]? := fun X j v => Below.heap_setCell _ _ _ _ (fun e => hc (by simpa using e))
  rw [st, st, st, st]

theorem toG_fin {w w3 : World} {g : Gd} {lo mid h : Nat} {k n : Int} {s : ByteArray} {u : Value} {xs : List T} {k' n' : Int} {s' : ByteArray} {u' : Value} {xs' : List T} (el : g.l = .node k n s xs) (er : g.r = .node k' n' s' xs') (hs : s.size ≤ maxLen ∧ s'.size ≤ maxLen)
    (hlo : w.heap.size + 2 < lo) (hml : lo ≤ mid) (hmid : mid ≤ w3.heap.size) (ha : ArgsAt w3 lo h u xs) (ho : OwnA w3 h lo mid u xs) (ha' : ArgsAt w3 mid h u' xs') (ho' : OwnA w3 h mid w3.heap.size u' xs') (hb : Below w.heap.size w w3) (v1 v2 v3 v4 y0 y1 y2 y3 y4 y5 y6 y7 y8 : Value) :
    CopyGO h g w (.returned (gv g.kd k n s u k' n' s' u'))
      (((((((((((((w3.setCell ⟨w.heap.size + 1 + 1, 5, none⟩ v1).setCell ⟨w.heap.size + 1 + 1, 6, none⟩ v2).setCell ⟨w.heap.size + 1 + 1, 7, none⟩ v3).setCell ⟨w.heap.size + 1 + 1, 8, none⟩ v4).setCell ⟨w.heap.size + 1, 0, none⟩ y0).setCell ⟨w.heap.size + 1, 1, none⟩ y1).setCell ⟨w.heap.size + 1, 2, none⟩ y2).setCell ⟨w.heap.size + 1, 3, none⟩ y3).setCell ⟨w.heap.size + 1, 4, none⟩ y4).setCell ⟨w.heap.size + 1, 5, none⟩ y5).setCell ⟨w.heap.size + 1, 6, none⟩ y6).setCell ⟨w.heap.size + 1, 7, none⟩ y7).setCell ⟨w.heap.size + 1, 8, none⟩ y8) := by
  obtain ⟨X, hX⟩ : ∃ X, X = (((((((((((((w3.setCell ⟨w.heap.size + 1 + 1, 5, none⟩ v1).setCell ⟨w.heap.size + 1 + 1, 6, none⟩ v2).setCell ⟨w.heap.size + 1 + 1, 7, none⟩ v3).setCell ⟨w.heap.size + 1 + 1, 8, none⟩ v4).setCell ⟨w.heap.size + 1, 0, none⟩ y0).setCell ⟨w.heap.size + 1, 1, none⟩ y1).setCell ⟨w.heap.size + 1, 2, none⟩ y2).setCell ⟨w.heap.size + 1, 3, none⟩ y3).setCell ⟨w.heap.size + 1, 4, none⟩ y4).setCell ⟨w.heap.size + 1, 5, none⟩ y5).setCell ⟨w.heap.size + 1, 6, none⟩ y6).setCell ⟨w.heap.size + 1, 7, none⟩ y7).setCell ⟨w.heap.size + 1, 8, none⟩ y8) := ⟨_, rfl⟩
  have hh : ∀ b, lo ≤ b → X.heap[b]? = w3.heap[b]? := fun b hb => by rw [hX, set9_heap (by omega), set4_other (by omega)]
  have hz : X.heap.size = w3.heap.size := by rw [hX]; simp [World.setCell]
  have hbx : Below w.heap.size w X := by
    rw [hX]
    iterate 13 refine Below.setCell ?_ (by simp; try omega) _
    exact hb
  rw [← hX]
  have hsm : Same lo w3.heap.size w3 X := fun b b1 _ => hh b b1
  refine ⟨k, n, s, u, xs, k', n', s', u', xs', rfl, el, er, hs, ⟨(ha.same hsm).low (by omega), (ha'.same fun b b1 _ => hh b (by omega)).low (by omega)⟩, ⟨lo, mid, mid, w3.heap.size, by omega, by omega, by omega, by omega, Or.inl (Nat.le_refl _), ho.same fun b b1 _ => hh b b1, ho'.same fun b b1 _ => hh b (by omega)⟩, hbx⟩

set_option maxRecDepth 100000 in
set_option maxHeartbeats 800000 in
theorem eqG_any (v v' : Value) (g : Gd) (lo lo' h : Nat) (w : World) (hv : GAt w lo h v g) (hv' : GAt w lo' h v' g) :
    Calls Tryz.prog 16 #[v, v'] w (TrueB w) := by
  obtain ⟨k, n, s, u, k', n', s', u', rfl, ht1, ht2⟩ := hv
  obtain ⟨ka, na, sa, ua, kb, nb, sb, ub, rfl, ht3, ht4⟩ := hv'
  obtain ⟨kd, t1, t2⟩ := g
  obtain ⟨W, hW⟩ : ∃ W, W = (w.alloc (.cells #[.int .i64 kd, .int .i64 k, .int .i64 n, .string s, u, .int .i64 k', .int .i64 n', .string s', u'] 28)).alloc (.cells #[.int .i64 kd, .int .i64 ka, .int .i64 na, .string sa, ua, .int .i64 kb, .int .i64 nb, .string sb, ub] 28) := ⟨_, rfl⟩
  have hb0 : Below w.heap.size w W := by rw [hW]; exact ((Below.refl _ _).alloc (Nat.le_refl _) _).alloc (by simp) _
  have r0 : W.heap[w.heap.size]? = some (grow 28 kd k n s u k' n' s' u') := by rw [hW, Below.heap_alloc _ _ _ (by simp)]; exact heap_new _ _ rfl
  have r1 : W.heap[w.heap.size + 1]? = some (grow 28 kd ka na sa ua kb nb sb ub) := by rw [hW]; exact heap_new _ _ (by simp)
  have HR := Lib.hid (And.intro r0 r1); clear r0 r1
  have HT := Lib.hid (And.intro (ht1.below hb0) (ht3.below hb0)); clear ht1 ht3
  have HU := Lib.hid (And.intro (ht2.below hb0) (ht4.below hb0)); clear ht2 ht4
  have HB0 := Lib.hid hb0; clear hb0
  go_enter Tryz.func16, Tryz.ntmps16
  go_wp2_with fail
  rw [← hW]
  clear hW
  refine (eqT_any _ _ t1 lo lo' h _ HT.out.1 HT.out.2).mono ?_
  rintro e w1 ⟨rfl, hb1⟩
  have q0 := (hb1.block _ (Array.getElem?_eq_some_iff.1 HR.out.1).1).trans HR.out.1
  have q1 := (hb1.block _ (Array.getElem?_eq_some_iff.1 HR.out.2).1).trans HR.out.2
  have HU2 := Lib.hid (And.intro (HU.out.1.below hb1) (HU.out.2.below hb1))
  have HB1 := Lib.hid (HB0.out.trans (hb1.mono HB0.out.size)); clear hb1
  obtain ⟨x0, x1, x2, x3, x4, x5, x6, x7, x8⟩ := cells_of9 q0
  obtain ⟨z0, z1, z2, z3, z4, z5, z6, z7, z8⟩ := cells_of9 q1
  clear q0 q1 x0 x1 x2 x3 x4 z0 z1 z2 z3 z4
  go_wp2_with fail
  refine (eqT_any _ _ t2 lo lo' h _ HU2.out.1 HU2.out.2).mono ?_
  rintro e w2 ⟨rfl, hb2⟩
  have HB2 := Lib.hid (HB1.out.trans (hb2.mono HB1.out.size)); clear hb2
  go_wp2
  go_ret
  exact ⟨rfl, HB2.out⟩
theorem eqG_two (v v' : Value) (g : Gd) (lo lo' h h' : Nat) (w : World) (hv : GAt w lo h v g) (hv' : GAt w lo' h' v' g) :
    Calls Tryz.prog 16 #[v, v'] w (TrueB w) :=
  eqG_any v v' g lo lo' (max h h') w (hv.le (Nat.le_max_left _ _)) (hv'.le (Nat.le_max_right _ _))
end Go.Proofs.YtidbokheeieifaaGreatDoor
