/-
  What the laws on guards share: a guard in its box. No walk.
  laws.markGuard writes numbered marks over both sides of a guard that is a call's own; laws.heldGuard reads them.
  What the laws on functions that return a guard share. No walk.
-/
import Derived.Test.YtidbokheeieifaaGreatDoorQ27
import Derived.Test.YtidbokheeieifaaGreatDoorQ16
import Derived.Test.YtidbokheeieifaaGreatDoorQ25
import Derived.Deep.RegionHeld3
namespace Go.Proofs.YtidbokheeieifaaGreatDoor
open Go.RowKit

/-- A world with a guard in a new box. -/
def gboxed (w : World) (kd k n : Int) (s : ByteArray) (u : Value) (k' n' : Int) (s' : ByteArray) (u' : Value) : World :=
  w.alloc (.cells #[.int .i64 kd, .int .i64 k, .int .i64 n, .string s, u, .int .i64 k', .int .i64 n', .string s', u'] 28)
theorem gboxed_below (w : World) (kd k n : Int) (s : ByteArray) (u : Value) (k' n' : Int) (s' : ByteArray) (u' : Value) : Below w.heap.size w (gboxed w kd k n s u k' n' s' u') := (Below.refl _ _).alloc (Nat.le_refl _) _
@[simp] theorem gboxed_size (w : World) (kd k n : Int) (s : ByteArray) (u : Value) (k' n' : Int) (s' : ByteArray) (u' : Value) : (gboxed w kd k n s u k' n' s' u').heap.size = w.heap.size + 1 := by unfold gboxed; simp
theorem gbox_of {w1 W1 : World} {lo h : Nat} {kd k n : Int} {s : ByteArray} {u : Value} {k' n' : Int} {s' : ByteArray} {u' : Value} {xs xs' : List T} (hs : s.size ≤ maxLen ∧ s'.size ≤ maxLen) (ha : ArgsAt w1 lo h u xs) (ha' : ArgsAt w1 lo h u' xs') (ho : OwnG w1 h lo w1.heap.size u u' xs xs')
    (hW : W1 = gboxed w1 kd k n s u k' n' s' u') : GBoxO lo w1.heap.size kd k n s u k' n' s' u' h xs xs' W1 := by
  have hb : Below w1.heap.size w1 W1 := by rw [hW]; exact gboxed_below _ _ _ _ _ _ _ _ _ _
  refine ⟨⟨by rw [hW]; exact heap_new _ _ rfl, ⟨k, n, s, u, k', n', s', u', rfl, ⟨_, _, _, _, xs, rfl, rfl, hs.1, ha.below hb⟩, ⟨_, _, _, _, xs', rfl, rfl, hs.2, ha'.below hb⟩⟩⟩, ho.same fun b _ b2 => hb.block b b2⟩
theorem gd_eq {g : Gd} {l r : T} (el : g.l = l) (er : g.r = r) : g = ⟨g.kd, l, r⟩ := by cases g; simp at *; exact ⟨el, er⟩
end Go.Proofs.YtidbokheeieifaaGreatDoor
namespace Go.Proofs.YtidbokheeieifaaGreatDoor
open Go.RowKit

/-- What the marks leave. -/
def MarkG (lo hi k h : Nat) (u u' : Value) (xs xs' : List T) (w : World) (e : Ending) (w' : World) : Prop :=
  MarkOut lo hi (k + 3 * cS xs + 3 * cS xs') w e w' ∧ ArgsP (In lo hi) w' h u (mkS k xs) ∧ ArgsP (In lo hi) w' h u' (mkS (k + 3 * cS xs) xs')

set_option maxRecDepth 100000 in
set_option maxHeartbeats 1600000 in
theorem markG_any (kd kk nn : Int) (s : ByteArray) (u : Value) (k2 n2 : Int) (s2 : ByteArray) (u' : Value) (xs xs' : List T) (h lo hi k : Nat) (w : World) (ho : OwnG w h lo hi u u' xs xs') (hhi : hi ≤ w.heap.size) (hk : 1 ≤ k) (hkc : k + 3 * cS xs + 3 * cS xs' ≤ 2305843009213693952) :
    Calls Tryz.prog 17 #[gv kd kk nn s u k2 n2 s2 u', .int .i64 k] w (MarkG lo hi k h u u' xs xs' w) := by
  obtain ⟨l, r, l', r', h1, h2, h3, h4, h5, o1, o2⟩ := ho
  obtain ⟨W, hW⟩ : ∃ W, W = w.alloc (.cells #[.int .i64 kd, .int .i64 kk, .int .i64 nn, .string s, u, .int .i64 k2, .int .i64 n2, .string s2, u'] 28) := ⟨_, rfl⟩
  have hb : Below w.heap.size w W := by rw [hW]; exact (Below.refl _ _).alloc (Nat.le_refl _) _
  have hr : W.heap[w.heap.size]? = some (grow 28 kd kk nn s u k2 n2 s2 u') := by rw [hW]; exact heap_new _ _ rfl
  have hws : W.heap.size = w.heap.size + 1 := by rw [hW]; simp
  have HO := Lib.hid (Out.of_below (lo := lo) (hi := hi) hb)
  have HC1 := Lib.hid (markPT_any kk nn s u xs h l r k W (o1.keep fun b _ b2 => hb.block b (by omega)) (by omega) hk (by omega))
  have HC2 := Lib.hid (fun (w1 : World) (ho1 : Out l r W w1) => markPT_any k2 n2 s2 u' xs' h l' r' (k + 3 * cS xs) w1 ((o2.keep fun b _ b2 => hb.block b (by omega)).keep fun b b1 b2 => ho1.2.2.2.2 b (by omega) (by omega)) (by have := ho1.2.2.2.1; omega) (by omega) hkc)
  have HR := Lib.hid hr
  have HB := Lib.hid (And.intro h1 (And.intro h2 (And.intro h3 (And.intro h4 h5))))
  have HN := Lib.hid (And.intro hws hhi)
  obtain ⟨ua, uc, hua⟩ := o1.slice
  obtain ⟨ub, ud, hub⟩ := o2.slice
  obtain ⟨ma, hma⟩ : ∃ m, m = xs.length := ⟨_, rfl⟩
  obtain ⟨mb, hmb⟩ : ∃ m, m = xs'.length := ⟨_, rfl⟩
  rw [← hma] at hua
  rw [← hmb] at hub
  subst hua
  subst hub
  clear o1 o2 hb hr hws h1 h2 h3 h4 h5 hma hmb hk hkc hhi
  go_enter Tryz.func17, Tryz.ntmps17
  go_wp2_with fail
  rw [← hW]
  clear hW
  refine HC1.out.mono ?_
  rintro e w1 ⟨⟨rfl, ho1⟩, hp1⟩
  obtain ⟨x0, x1, x2, x3, x4, x5, x6, x7, x8⟩ := cells_of9 ((ho1.2.2.2.2 w.heap.size (by have := HN.out; omega) (Or.inr (by have := HN.out; have := HB.out; omega))).trans HR.out)
  have HO1 := Lib.hid ho1; clear ho1
  have HP1 := Lib.hid hp1; clear hp1
  clear x0 x1 x2 x3 x4
  go_wp2_with fail
  refine (HC2.out w1 HO1.out).mono ?_
  rintro e w2 ⟨⟨rfl, ho2⟩, hp2⟩
  have HO2 := Lib.hid ho2; clear ho2
  have HP2 := Lib.hid hp2; clear hp2
  clear x5 x6 x7 x8
  go_wp2
  go_ret
  have hB := HB.out
  have hN := HN.out
  have hz1 := HO1.out.2.2.2.1
  refine ⟨⟨rfl, (HO.out.trans (HO1.out.wide hB.1 hB.2.1)).trans (HO2.out.wide hB.2.2.1 hB.2.2.2.1)⟩, ?_, ?_⟩
  · exact (HP1.out.keepB fun b hb hbl => HO2.out.2.2.2.2 b hbl (by have := hb.1; have := hb.2; omega)).imp fun j hj => ⟨by have := hj.1; omega, by have := hj.2; omega⟩
  · exact HP2.out.imp fun j hj => ⟨by have := hj.1; omega, by have := hj.2; omega⟩

set_option maxRecDepth 100000 in
set_option maxHeartbeats 1600000 in
theorem heldG_any (kd kk nn : Int) (s : ByteArray) (u : Value) (k2 n2 : Int) (s2 : ByteArray) (u' : Value) (xs xs' : List T) (lo h k : Nat) (w : World) (ha : ArgsAt w lo h u (mkS k xs)) (ha' : ArgsAt w lo h u' (mkS (k + 3 * cS xs) xs')) (hk : 1 ≤ k) (hkc : k + 3 * cS xs + 3 * cS xs' ≤ 2305843009213693952) :
    Calls Tryz.prog 18 #[gv kd kk nn s u k2 n2 s2 u', .int .i64 k] w (NumB ((k + 3 * cS xs + 3 * cS xs' : Nat) : Int) w) := by
  obtain ⟨W, hW⟩ : ∃ W, W = w.alloc (.cells #[.int .i64 kd, .int .i64 kk, .int .i64 nn, .string s, u, .int .i64 k2, .int .i64 n2, .string s2, u'] 28) := ⟨_, rfl⟩
  have hb : Below w.heap.size w W := by rw [hW]; exact (Below.refl _ _).alloc (Nat.le_refl _) _
  have hr : W.heap[w.heap.size]? = some (grow 28 kd kk nn s u k2 n2 s2 u') := by rw [hW]; exact heap_new _ _ rfl
  have HC1 := Lib.hid (heldT_any kk nn s u xs lo h k W (ha.below hb) hk (by omega))
  have HC2 := Lib.hid (fun (w1 : World) (hb1 : Below W.heap.size W w1) => heldT_any k2 n2 s2 u' xs' lo h (k + 3 * cS xs) w1 ((ha'.below hb).below hb1) (by omega) hkc)
  have HR := Lib.hid hr
  have HB0 := Lib.hid hb
  obtain ⟨ua, uc, hua⟩ := ha.slice
  obtain ⟨ub, ud, hub⟩ := ha'.slice
  obtain ⟨ma, hma⟩ : ∃ m, m = (mkS k xs).length := ⟨_, rfl⟩
  obtain ⟨mb, hmb⟩ : ∃ m, m = (mkS (k + 3 * cS xs) xs').length := ⟨_, rfl⟩
  rw [← hma] at hua
  rw [← hmb] at hub
  subst hua
  subst hub
  have hpos1 : ¬ ((k + 3 * cS xs : Nat) : Int) < 0 := by omega
  have hpos2 : ¬ ((k + 3 * cS xs + 3 * cS xs' : Nat) : Int) < 0 := by omega
  clear ha ha' hb hr hma hmb hk hkc
  go_enter Tryz.func18, Tryz.ntmps18
  go_wp2_with fail
  rw [← hW]
  clear hW
  refine HC1.out.mono ?_
  rintro e w1 ⟨rfl, hb1⟩
  obtain ⟨x0, x1, x2, x3, x4, x5, x6, x7, x8⟩ := cells_of9 ((hb1.block w.heap.size (Array.getElem?_eq_some_iff.1 HR.out).1).trans HR.out)
  have HB1 := Lib.hid hb1; clear hb1
  clear x0 x1 x2 x3 x4
  go_wp2_with fail
  refine (HC2.out w1 HB1.out).mono ?_
  rintro e w2 ⟨rfl, hb2⟩
  have HB2 := Lib.hid (HB0.out.trans ((HB1.out.mono HB0.out.size).trans (hb2.mono (Nat.le_trans HB0.out.size HB1.out.size)))); clear hb2
  clear x5 x6 x7 x8
  go_wp2
  go_ret
  exact ⟨rfl, HB2.out⟩
end Go.Proofs.YtidbokheeieifaaGreatDoor
namespace Go.Proofs.YtidbokheeieifaaGreatDoor
open Go.RowKit

/-- A guard that was returned, for reading. -/
def RGd (r : Gd) (w : World) (e : Ending) (w' : World) : Prop :=
  ∃ H k n s a m c k' n' s' a' m' c', e = .returned (gv r.kd k n s (.slice a m c) k' n' s' (.slice a' m' c')) ∧ GAt w' w.heap.size H (gv r.kd k n s (.slice a m c) k' n' s' (.slice a' m' c')) r ∧ Below w.heap.size w w'
/-- The same, and its rows are the call's own. -/
def CGd (r : Gd) (w : World) (e : Ending) (w' : World) : Prop := ∃ H, CopyGO H r w e w'
theorem ReadGO.rgd {H : Nat} {r : Gd} {w : World} {e : Ending} {w' : World} (q : ReadGO H r w e w') : RGd r w e w' := by
  obtain ⟨v, rfl, hg, hb⟩ := q
  obtain ⟨k, n, s, u, k', n', s', u', rfl, h1, h2⟩ := hg
  have h1' := h1
  have h2' := h2
  obtain ⟨_, _, _, _, xs, e1, _, _, ha⟩ := h1'
  obtain ⟨_, _, _, _, ys, e2, _, _, hb'⟩ := h2'
  cases e1
  cases e2
  obtain ⟨a, c, rfl⟩ := ha.slice
  obtain ⟨a', c', rfl⟩ := hb'.slice
  exact ⟨H, k, n, s, a, _, c, k', n', s', a', _, c', rfl, ⟨k, n, s, _, k', n', s', _, rfl, h1, h2⟩, hb⟩
theorem CGd.rgd {r : Gd} {w : World} {e : Ending} {w' : World} (q : CGd r w e w') : RGd r w e w' := by
  obtain ⟨H, q⟩ := q
  exact q.read.rgd
/-- A guard in a new box, behind a region that makes the box somewhere among its calls. -/
def BoxG (W : World) (r : Gd) (pu : Value) (wc : World) : Prop :=
  ∃ B k n s a m c k' n' s' a' m' c' H, pu = .pointer (some ⟨B, 0, none⟩) ∧ wc.heap[B]? = some (grow 28 r.kd k n s (.slice a m c) k' n' s' (.slice a' m' c')) ∧ GAt wc W.heap.size H (gv r.kd k n s (.slice a m c) k' n' s' (.slice a' m' c')) r ∧ Below W.heap.size W wc ∧ W.heap.size ≤ B
theorem boxG_new {W w1 : World} {B h lo : Nat} {r : Gd} {k n : Int} {s : ByteArray} {a : Option Addr} {m c : Nat} {k' n' : Int} {s' : ByteArray} {a' : Option Addr} {m' c' : Nat} (hB : Below W.heap.size W w1) (ht : GAt w1 lo h (gv r.kd k n s (.slice a m c) k' n' s' (.slice a' m' c')) r) (hlo : W.heap.size ≤ lo) (hb : B = w1.heap.size) :
    BoxG W r (.pointer (some ⟨B, 0, none⟩)) (w1.alloc (.cells #[.int .i64 r.kd, .int .i64 k, .int .i64 n, .string s, .slice a m c, .int .i64 k', .int .i64 n', .string s', .slice a' m' c'] 28)) := by
  subst hb
  have hb1 : Below w1.heap.size w1 (w1.alloc (.cells #[.int .i64 r.kd, .int .i64 k, .int .i64 n, .string s, .slice a m c, .int .i64 k', .int .i64 n', .string s', .slice a' m' c'] 28)) := (Below.refl _ _).alloc (Nat.le_refl _) _
  exact ⟨_, k, n, s, a, m, c, k', n', s', a', m', c', h, rfl, heap_new _ _ rfl, (ht.below hb1).low hlo, hB.trans (hb1.mono hB.size), hB.size⟩
theorem setall9 {W : World} {b : Nat} {x0 x1 x2 x3 x4 x5 x6 x7 x8 : Value} {ty : TypeId} (h : W.heap[b]? = some (.cells #[x0, x1, x2, x3, x4, x5, x6, x7, x8] ty (0, 0))) (y0 y1 y2 y3 y4 y5 y6 y7 y8 : Value) :
    (((((((((W.setCell ⟨b, 0, none⟩ y0).setCell ⟨b, 1, none⟩ y1).setCell ⟨b, 2, none⟩ y2).setCell ⟨b, 3, none⟩ y3).setCell ⟨b, 4, none⟩ y4).setCell ⟨b, 5, none⟩ y5).setCell ⟨b, 6, none⟩ y6).setCell ⟨b, 7, none⟩ y7).setCell ⟨b, 8, none⟩ y8).heap[b]? = some (.cells #[y0, y1, y2, y3, y4, y5, y6, y7, y8] ty (0, 0)) := by
  have h0 := heap_set_atK h 0 y0
  have h1 := heap_set_atK h0 1 y1
  have h2 := heap_set_atK h1 2 y2
  have h3 := heap_set_atK h2 3 y3
  have h4 := heap_set_atK h3 4 y4
  have h5 := heap_set_atK h4 5 y5
  have h6 := heap_set_atK h5 6 y6
  have h7 := heap_set_atK h6 7 y7
  have h8 := heap_set_atK h7 8 y8
  simpa using h8
theorem boxG_set {W w1 : World} {B h lo : Nat} {r : Gd} {x0 x1 x2 x3 x4 x5 x6 x7 x8 : Value} {k n : Int} {s : ByteArray} {a : Option Addr} {m c : Nat} {k' n' : Int} {s' : ByteArray} {a' : Option Addr} {m' c' : Nat} (hB : Below W.heap.size W w1) (ht : GAt w1 lo h (gv r.kd k n s (.slice a m c) k' n' s' (.slice a' m' c')) r)
    (hZ : w1.heap[B]? = some (.cells #[x0, x1, x2, x3, x4, x5, x6, x7, x8] 28 (0, 0))) (hlo : B < lo) (hb : W.heap.size ≤ B) :
    BoxG W r (.pointer (some ⟨B, 0, none⟩)) (((((((((w1.setCell ⟨B, 0, none⟩ (.int .i64 r.kd)).setCell ⟨B, 1, none⟩ (.int .i64 k)).setCell ⟨B, 2, none⟩ (.int .i64 n)).setCell ⟨B, 3, none⟩ (.string s)).setCell ⟨B, 4, none⟩ (.slice a m c)).setCell ⟨B, 5, none⟩ (.int .i64 k')).setCell ⟨B, 6, none⟩ (.int .i64 n')).setCell ⟨B, 7, none⟩ (.string s')).setCell ⟨B, 8, none⟩ (.slice a' m' c')) := by
  obtain ⟨X, hX⟩ : ∃ X, X = (((((((((w1.setCell ⟨B, 0, none⟩ (.int .i64 r.kd)).setCell ⟨B, 1, none⟩ (.int .i64 k)).setCell ⟨B, 2, none⟩ (.int .i64 n)).setCell ⟨B, 3, none⟩ (.string s)).setCell ⟨B, 4, none⟩ (.slice a m c)).setCell ⟨B, 5, none⟩ (.int .i64 k')).setCell ⟨B, 6, none⟩ (.int .i64 n')).setCell ⟨B, 7, none⟩ (.string s')).setCell ⟨B, 8, none⟩ (.slice a' m' c')) := ⟨_, rfl⟩
  have hh : ∀ d, B < d → X.heap[d]? = w1.heap[d]? := fun d hd => by rw [hX, set9_heap (by omega)]
  have hbx : Below W.heap.size W X := by
    rw [hX]
    iterate 9 refine Below.setCell ?_ (by exact hb) _
    exact hB
  have hrow : X.heap[B]? = some (grow 28 r.kd k n s (.slice a m c) k' n' s' (.slice a' m' c')) := by rw [hX]; exact setall9 hZ _ _ _ _ _ _ _ _ _
  rw [← hX]
  exact ⟨_, k, n, s, a, m, c, k', n', s', a', m', c', h, rfl, hrow, (ht.same fun d d1 _ => hh d (by omega)).low (by omega), hbx, hb⟩
theorem zg_new {w w' : World} (hb : Below (w.alloc (.cells #[.int .i64 0, .int .i64 0, .int .i64 0, .string ⟨#[]⟩, .slice none 0 0, .int .i64 0, .int .i64 0, .string ⟨#[]⟩, .slice none 0 0] 28)).heap.size (w.alloc (.cells #[.int .i64 0, .int .i64 0, .int .i64 0, .string ⟨#[]⟩, .slice none 0 0, .int .i64 0, .int .i64 0, .string ⟨#[]⟩, .slice none 0 0] 28)) w') :
    w'.heap[w.heap.size]? = some (grow 28 0 0 0 ⟨#[]⟩ (.slice none 0 0) 0 0 ⟨#[]⟩ (.slice none 0 0)) := (hb.block _ (by simp)).trans (heap_new _ _ rfl)
theorem zg_drew {w w' : World} (hb : Below (w.alloc (.cells #[.int .i64 0, .int .i64 0, .int .i64 0, .string ⟨#[]⟩, .slice none 0 0, .int .i64 0, .int .i64 0, .string ⟨#[]⟩, .slice none 0 0] 28)).drew.heap.size (w.alloc (.cells #[.int .i64 0, .int .i64 0, .int .i64 0, .string ⟨#[]⟩, .slice none 0 0, .int .i64 0, .int .i64 0, .string ⟨#[]⟩, .slice none 0 0] 28)).drew w') :
    w'.heap[w.heap.size]? = some (grow 28 0 0 0 ⟨#[]⟩ (.slice none 0 0) 0 0 ⟨#[]⟩ (.slice none 0 0)) := zg_new (bel_drew hb)
theorem cells_of9g {Y : World} {b : Nat} {x0 x1 x2 x3 x4 x5 x6 x7 x8 : Value} {t : TypeId} (hb : Y.heap[b]? = some (.cells #[x0, x1, x2, x3, x4, x5, x6, x7, x8] t (0, 0))) :
    (Y.cell? ⟨b, 0, none⟩ = some x0 ∧ Y.cell? ⟨b, 1, none⟩ = some x1 ∧ Y.cell? ⟨b, 2, none⟩ = some x2 ∧ Y.cell? ⟨b, 3, none⟩ = some x3 ∧ Y.cell? ⟨b, 4, none⟩ = some x4 ∧ Y.cell? ⟨b, 5, none⟩ = some x5 ∧ Y.cell? ⟨b, 6, none⟩ = some x6 ∧ Y.cell? ⟨b, 7, none⟩ = some x7 ∧ Y.cell? ⟨b, 8, none⟩ = some x8) ∧
    Y.frozen? ⟨b, 0, none⟩ = false ∧ Y.frozen? ⟨b, 1, none⟩ = false ∧ Y.frozen? ⟨b, 2, none⟩ = false ∧ Y.frozen? ⟨b, 3, none⟩ = false ∧ Y.frozen? ⟨b, 4, none⟩ = false ∧ Y.frozen? ⟨b, 5, none⟩ = false ∧ Y.frozen? ⟨b, 6, none⟩ = false ∧ Y.frozen? ⟨b, 7, none⟩ = false ∧ Y.frozen? ⟨b, 8, none⟩ = false :=
  ⟨cells_of9 hb, frozen_of_row Y b 0 _ _ hb, frozen_of_row Y b 1 _ _ hb, frozen_of_row Y b 2 _ _ hb, frozen_of_row Y b 3 _ _ hb, frozen_of_row Y b 4 _ _ hb, frozen_of_row Y b 5 _ _ hb, frozen_of_row Y b 6 _ _ hb, frozen_of_row Y b 7 _ _ hb, frozen_of_row Y b 8 _ _ hb⟩
end Go.Proofs.YtidbokheeieifaaGreatDoor
