/-
  What the laws on guards share: a guard in its box. No walk.
  laws.heldTermS and laws.heldTerm find the marks that were written.
  laws.markGuard writes numbered marks over both sides of a guard that is a call's own; laws.heldGuard reads them.
  What the laws on functions that return a guard share. No walk.
  Lists of Binds: what they hold, whose they are. No walk.
  The first Bind of a name; spec.l7At and spec.FindBind.
-/
import Derived.Test.YtidbokheeieifaaQ10
import Derived.Test.YtidbokheeieifaaQ12
import Derived.Test.YtidbokheeieifaaQ7
import Derived.Test.YtidbokheeieifaaQ8
import Derived.Test.YtidbokheeieifaaQ9
import Derived.Test.YtidbokheeieifaaQ5
import Derived.Deep.RegionHeld3
namespace Go.Proofs.Ytidbokheeieifaa
open Go.RowKit

/-- A world with a guard in a new box. -/
def gboxed (w : World) (kd k n : Int) (s : ByteArray) (u : Value) (k' n' : Int) (s' : ByteArray) (u' : Value) : World :=
  w.alloc (.cells #[.int .i64 kd, .int .i64 k, .int .i64 n, .string s, u, .int .i64 k', .int .i64 n', .string s', u'] 31)
theorem gboxed_below (w : World) (kd k n : Int) (s : ByteArray) (u : Value) (k' n' : Int) (s' : ByteArray) (u' : Value) : Below w.heap.size w (gboxed w kd k n s u k' n' s' u') := (Below.refl _ _).alloc (Nat.le_refl _) _
@[simp] theorem gboxed_size (w : World) (kd k n : Int) (s : ByteArray) (u : Value) (k' n' : Int) (s' : ByteArray) (u' : Value) : (gboxed w kd k n s u k' n' s' u').heap.size = w.heap.size + 1 := by unfold gboxed; simp
theorem gbox_of {w1 W1 : World} {lo h : Nat} {kd k n : Int} {s : ByteArray} {u : Value} {k' n' : Int} {s' : ByteArray} {u' : Value} {xs xs' : List T} (hs : s.size ≤ maxLen ∧ s'.size ≤ maxLen) (ha : ArgsAt w1 lo h u xs) (ha' : ArgsAt w1 lo h u' xs') (ho : OwnG w1 h lo w1.heap.size u u' xs xs')
    (hW : W1 = gboxed w1 kd k n s u k' n' s' u') : GBoxO lo w1.heap.size kd k n s u k' n' s' u' h xs xs' W1 := by
  have hb : Below w1.heap.size w1 W1 := by rw [hW]; exact gboxed_below _ _ _ _ _ _ _ _ _ _
  refine ⟨⟨by rw [hW]; exact heap_new _ _ rfl, ⟨k, n, s, u, k', n', s', u', rfl, ⟨_, _, _, _, xs, rfl, rfl, hs.1, ha.below hb⟩, ⟨_, _, _, _, xs', rfl, rfl, hs.2, ha'.below hb⟩⟩⟩, ho.same fun b _ b2 => hb.block b b2⟩
theorem gd_eq {g : Gd} {l r : T} (el : g.l = l) (er : g.r = r) : g = ⟨g.kd, l, r⟩ := by cases g; simp at *; exact ⟨el, er⟩
end Go.Proofs.Ytidbokheeieifaa
namespace Go.Proofs.Ytidbokheeieifaa
open Go.RowKit

def HeldSAt (h : Nat) : Prop := ∀ (u : Value) (ts : List T) (lo k : Nat) (w : World), ArgsAt w lo h u (mkS k ts) → 1 ≤ k → k + 3 * cS ts ≤ 2305843009213693952 →
  Calls Try.prog 96 #[u, .int .i64 k] w (NumB ((k + 3 * cS ts : Nat) : Int) w)

set_option maxRecDepth 100000 in
set_option maxHeartbeats 1600000 in
theorem heldS_step (h : Nat) (IH : ∀ h', h = h' + 1 → HeldSAt h') : HeldSAt h := by
  intro u ts lo k w ha hk hkc
  obtain ⟨a, cap, rfl⟩ := ha.slice
  rw [mkS_length] at ha ⊢
  have hl : ts.length ≤ 2305843009213693952 := by have := len_cS ts; omega
  have HA := Lib.hid ha; clear ha
  have HIH := Lib.hid IH; clear IH
  have HKC := Lib.hid hkc; clear hkc
  obtain ⟨m, hm⟩ : ∃ m, m = ts.length := ⟨_, rfl⟩
  rw [← hm] at HA hl ⊢
  have HM := Lib.hid hm; clear hm
  go_enter Try.func96, Try.ntmps96
  go_wp2
  go_loopw [1, 5] (fun q i wr => ∃ (j c : Nat), j ≤ m ∧ i = .int .i64 j ∧ q = .int .i64 c ∧ Hid (c = k + 3 * cS (ts.take j)) ∧ Hid (Below w.heap.size w wr)) (fun _ i _ => m - (intOf i).toNat)
  case atStart => exact ⟨0, k, Nat.zero_le _, rfl, rfl, Lib.hid (by simp [cS]), Lib.hid (Below.refl _ _)⟩
  case round =>
    obtain ⟨j, c, hj, rfl, rfl, HC, HB⟩ := hrel
    have hcb : c ≤ 2305843009213693952 := by have := HC.out; have := cS_take ts j; have := HKC.out; omega
    have hc1 : 1 ≤ c := by have := HC.out; omega
    by_cases hlt : j < m
    · obtain ⟨t, ht⟩ : ∃ t, ts[j]? = some t := ⟨_, List.getElem?_eq_getElem (by have := HM.out; omega)⟩
      have hmk := mkS_at ts k j t ht
      obtain ⟨tk1, tn1, ts1, txs⟩ := t
      rw [← HC.out, mkT_node] at hmk
      have hct : cS (ts.take (j + 1)) = cS (ts.take j) + (1 + cS txs) := by rw [tk ts j _ ht, cS_snoc, cT_node]
      have hctl := cS_take ts (j + 1)
      have HCT := Lib.hid hct
      have hcx : c + 3 + 3 * cS txs ≤ 2305843009213693952 := by have := HC.out; have := HKC.out; omega
      obtain ⟨h', b, o, kk, nn, s, xs, u', e, rfl, en, hs, d0, d1, d2, d3, har⟩ := HA.out.at hmk
      cases en
      have c0 := cell_on HB.out d0
      have c1 := cell_on HB.out d1
      have c2 := cell_on HB.out d2
      have c3 := cell_on HB.out d3
      have HAR := Lib.hid (har.below HB.out); clear har d0 d1 d2 d3 hct hctl ht hmk hs
      obtain ⟨ua, uc, rfl⟩ := HAR.out.slice
      have hb0 : Below wr.heap.size wr wr := Below.refl _ _
      have hgw : b < wr.heap.size := World.block_lt_of_cell? wr _ c2
      have hq0 : ((c : Int) != (c : Int)) = false := by simp
      have hq1 : ((c : Int) + 1 != (c : Int) + 1) = false := by simp
      have hq2 : ((mark (c + 2)).toList == (mark (c + 2)).toList) = true := by simp
      have hcall := fun (w' : World) (hb : Below wr.heap.size wr w') => HIH.out h' e _ txs lo (c + 3) w' (HAR.out.below hb) (by omega) hcx
      rw [mkS_length] at hcall c3
      have HCALL := Lib.hid hcall; clear hcall
      have hcast : ((c : Int) + 1 + 1) = ((c + 2 : Nat) : Int) := by omega
      go_wp2
      go_region_held3 (fun w' => w'.cell? ⟨b, o + j * 4 + 2, none⟩ = some (.string (mark (c + 2))) ∧ w'.cell? ⟨b, o + j * 4 + 3, none⟩ = some (.slice ua txs.length uc) ∧ Below wr.heap.size wr w')
        (first | exact ⟨cell_on (bel_drew (by assumption)) c2, cell_on (bel_drew (by assumption)) c3, bel_drew (by assumption)⟩ | exact ⟨c2, c3, Below.drew (Below.refl _ _)⟩ | go_keep)
        (first | (go_at_call 95; refine (markText_int _ (c + 2) _ (by omega) (by omega) (by omega)).mono ?_; rintro e w1 ⟨rfl, hb1⟩))
      have hb2 : Below wr.heap.size wr w1 := bel_drew hb1
      have HB2 := Lib.hid (HB.out.trans (hb2.mono HB.out.size))
      have d3 := cell_on hb2 c3
      have hcall := HCALL.out _ hb2
      have HCX := Lib.hid hcall; clear hcall hb2 hb1 hb0
      go_wp2_with fail
      first | rw [show ((c : Int) + 3) = ((c + 3 : Nat) : Int) by omega] | rw [show ((c : Int) + 2 + 1) = ((c + 3 : Nat) : Int) by omega] | rw [show ((c : Int) + 1 + 1 + 1) = ((c + 3 : Nat) : Int) by omega]
      refine HCX.out.mono ?_
      rintro e w2 ⟨rfl, hb3⟩
      have HB3 := Lib.hid (HB2.out.trans (hb3.mono HB2.out.size)); clear hb3
      have HC4 : Hid (c + 3 + 3 * cS txs = k + 3 * cS (ts.take (j + 1))) := Lib.hid (by have := HC.out; have := HCT.out; omega)
      have hpos : ¬ ((c + 3 + 3 * cS txs : Nat) : Int) < 0 := by omega
      go_wp2
      go_roundw
      case rel => exact ⟨j + 1, c + 3 + 3 * cS txs, by omega, by go_num, rfl, HC4, HB3⟩
      case measure => simp [intOf]; omega
    · have HD : Hid (c = k + 3 * cS ts) := Lib.hid (by
        have hjm : j = ts.length := by have := HM.out; omega
        rw [HC.out, hjm, List.take_length])
      go_wp2
      go_ret
      exact ⟨by rw [← HD.out]; rfl, HB.out⟩

theorem heldS_any (h : Nat) : HeldSAt h := by_height heldS_step h

set_option maxRecDepth 100000 in
set_option maxHeartbeats 800000 in
/-- laws.heldTerm, at a term over whose arguments the marks were written. -/
theorem heldT_any (kk nn : Int) (s : ByteArray) (u : Value) (xs : List T) (lo h k : Nat) (w : World) (ha : ArgsAt w lo h u (mkS k xs)) (hk : 1 ≤ k) (hkc : k + 3 * cS xs ≤ 2305843009213693952) :
    Calls Try.prog 36 #[tv kk nn s u, .int .i64 k] w (NumB ((k + 3 * cS xs : Nat) : Int) w) := by
  have hb0 := boxed_below w kk nn s u
  have hcall := heldS_any h u xs lo k _ (ha.below hb0) hk hkc
  obtain ⟨a, cap, rfl⟩ := ha.slice
  clear ha
  have HCALL := Lib.hid hcall; clear hcall
  have HB0 := Lib.hid hb0; clear hb0
  have hpos : ¬ ((k + 3 * cS xs : Nat) : Int) < 0 := by omega
  go_enter Try.func36, Try.ntmps36
  go_wp2_with fail
  refine HCALL.out.mono ?_
  rintro e w1 ⟨rfl, hb1⟩
  have HB1 := Lib.hid (HB0.out.trans (hb1.mono HB0.out.size)); clear hb1
  go_wp2
  go_ret
  exact ⟨rfl, HB1.out⟩
end Go.Proofs.Ytidbokheeieifaa
namespace Go.Proofs.Ytidbokheeieifaa
open Go.RowKit

/-- What the marks leave. -/
def MarkG (lo hi k h : Nat) (u u' : Value) (xs xs' : List T) (w : World) (e : Ending) (w' : World) : Prop :=
  MarkOut lo hi (k + 3 * cS xs + 3 * cS xs') w e w' ∧ ArgsP (In lo hi) w' h u (mkS k xs) ∧ ArgsP (In lo hi) w' h u' (mkS (k + 3 * cS xs) xs')

set_option maxRecDepth 100000 in
set_option maxHeartbeats 1600000 in
theorem markG_any (kd kk nn : Int) (s : ByteArray) (u : Value) (k2 n2 : Int) (s2 : ByteArray) (u' : Value) (xs xs' : List T) (h lo hi k : Nat) (w : World) (ho : OwnG w h lo hi u u' xs xs') (hhi : hi ≤ w.heap.size) (hk : 1 ≤ k) (hkc : k + 3 * cS xs + 3 * cS xs' ≤ 2305843009213693952) :
    Calls Try.prog 44 #[gv kd kk nn s u k2 n2 s2 u', .int .i64 k] w (MarkG lo hi k h u u' xs xs' w) := by
  obtain ⟨l, r, l', r', h1, h2, h3, h4, h5, o1, o2⟩ := ho
  obtain ⟨W, hW⟩ : ∃ W, W = w.alloc (.cells #[.int .i64 kd, .int .i64 kk, .int .i64 nn, .string s, u, .int .i64 k2, .int .i64 n2, .string s2, u'] 31) := ⟨_, rfl⟩
  have hb : Below w.heap.size w W := by rw [hW]; exact (Below.refl _ _).alloc (Nat.le_refl _) _
  have hr : W.heap[w.heap.size]? = some (grow 31 kd kk nn s u k2 n2 s2 u') := by rw [hW]; exact heap_new _ _ rfl
  have hws : W.heap.size = w.heap.size + 1 := by rw [hW]; simp
  have HO := Lib.hid (Out.of_below (lo := lo) (hi := hi) hb)
  have HC1 := Lib.hid (markPT_any kk nn s u xs h l r k W (o1.keep fun b _ b2 => hb.block b (by omega)) (by omega) hk (by omega))
  have HC2 := Lib.hid (fun (w1 : World) (ho1 : Out l r W w1) => markPT_any k2 n2 s2 u' xs' h l' r' (k + 3 * cS xs) w1 ((o2.keep fun b _ b2 => hb.block b (by omega)).keep fun b b1 b2 => ho1.2.2.2.2 b (by omega) (by omega)) (by have := ho1.2.2.2.1; omega) (by omega) hkc)
  have HR := Lib.hid hr
  have HB := Lib.hid (And.intro h1 (And.intro h2 (And.intro h3 (And.intro h4 h5))))
  have HN := Lib.hid (And.intro hws hhi)
  obtain ⟨ua, uc, hua⟩ := o1.slice
  obtain ⟨ub, ud, hub⟩ := o2.slice
  obtain ⟨ma, hma⟩ : ∃ m, m = xs.length := ⟨_, rfl⟩
  obtain ⟨mb, hmb⟩ : ∃ m, m = xs'.length := ⟨_, rfl⟩
  rw [← hma] at hua
  rw [← hmb] at hub
  subst hua
  subst hub
  clear o1 o2 hb hr hws h1 h2 h3 h4 h5 hma hmb hk hkc hhi
  go_enter Try.func44, Try.ntmps44
  go_wp2_with fail
  rw [← hW]
  clear hW
  refine HC1.out.mono ?_
  rintro e w1 ⟨⟨rfl, ho1⟩, hp1⟩
  obtain ⟨x0, x1, x2, x3, x4, x5, x6, x7, x8⟩ := cells_of9 ((ho1.2.2.2.2 w.heap.size (by have := HN.out; omega) (Or.inr (by have := HN.out; have := HB.out; omega))).trans HR.out)
  have HO1 := Lib.hid ho1; clear ho1
  have HP1 := Lib.hid hp1; clear hp1
  clear x0 x1 x2 x3 x4
  go_wp2_with fail
  refine (HC2.out w1 HO1.out).mono ?_
  rintro e w2 ⟨⟨rfl, ho2⟩, hp2⟩
  have HO2 := Lib.hid ho2; clear ho2
  have HP2 := Lib.hid hp2; clear hp2
  clear x5 x6 x7 x8
  go_wp2
  go_ret
  have hB := HB.out
  have hN := HN.out
  have hz1 := HO1.out.2.2.2.1
  refine ⟨⟨rfl, (HO.out.trans (HO1.out.wide hB.1 hB.2.1)).trans (HO2.out.wide hB.2.2.1 hB.2.2.2.1)⟩, ?_, ?_⟩
  · exact (HP1.out.keepB fun b hb hbl => HO2.out.2.2.2.2 b hbl (by have := hb.1; have := hb.2; omega)).imp fun j hj => ⟨by have := hj.1; omega, by have := hj.2; omega⟩
  · exact HP2.out.imp fun j hj => ⟨by have := hj.1; omega, by have := hj.2; omega⟩

set_option maxRecDepth 100000 in
set_option maxHeartbeats 1600000 in
theorem heldG_any (kd kk nn : Int) (s : ByteArray) (u : Value) (k2 n2 : Int) (s2 : ByteArray) (u' : Value) (xs xs' : List T) (lo h k : Nat) (w : World) (ha : ArgsAt w lo h u (mkS k xs)) (ha' : ArgsAt w lo h u' (mkS (k + 3 * cS xs) xs')) (hk : 1 ≤ k) (hkc : k + 3 * cS xs + 3 * cS xs' ≤ 2305843009213693952) :
    Calls Try.prog 45 #[gv kd kk nn s u k2 n2 s2 u', .int .i64 k] w (NumB ((k + 3 * cS xs + 3 * cS xs' : Nat) : Int) w) := by
  obtain ⟨W, hW⟩ : ∃ W, W = w.alloc (.cells #[.int .i64 kd, .int .i64 kk, .int .i64 nn, .string s, u, .int .i64 k2, .int .i64 n2, .string s2, u'] 31) := ⟨_, rfl⟩
  have hb : Below w.heap.size w W := by rw [hW]; exact (Below.refl _ _).alloc (Nat.le_refl _) _
  have hr : W.heap[w.heap.size]? = some (grow 31 kd kk nn s u k2 n2 s2 u') := by rw [hW]; exact heap_new _ _ rfl
  have HC1 := Lib.hid (heldT_any kk nn s u xs lo h k W (ha.below hb) hk (by omega))
  have HC2 := Lib.hid (fun (w1 : World) (hb1 : Below W.heap.size W w1) => heldT_any k2 n2 s2 u' xs' lo h (k + 3 * cS xs) w1 ((ha'.below hb).below hb1) (by omega) hkc)
  have HR := Lib.hid hr
  have HB0 := Lib.hid hb
  obtain ⟨ua, uc, hua⟩ := ha.slice
  obtain ⟨ub, ud, hub⟩ := ha'.slice
  obtain ⟨ma, hma⟩ : ∃ m, m = (mkS k xs).length := ⟨_, rfl⟩
  obtain ⟨mb, hmb⟩ : ∃ m, m = (mkS (k + 3 * cS xs) xs').length := ⟨_, rfl⟩
  rw [← hma] at hua
  rw [← hmb] at hub
  subst hua
  subst hub
  have hpos1 : ¬ ((k + 3 * cS xs : Nat) : Int) < 0 := by omega
  have hpos2 : ¬ ((k + 3 * cS xs + 3 * cS xs' : Nat) : Int) < 0 := by omega
  clear ha ha' hb hr hma hmb hk hkc
  go_enter Try.func45, Try.ntmps45
  go_wp2_with fail
  rw [← hW]
  clear hW
  refine HC1.out.mono ?_
  rintro e w1 ⟨rfl, hb1⟩
  obtain ⟨x0, x1, x2, x3, x4, x5, x6, x7, x8⟩ := cells_of9 ((hb1.block w.heap.size (Array.getElem?_eq_some_iff.1 HR.out).1).trans HR.out)
  have HB1 := Lib.hid hb1; clear hb1
  clear x0 x1 x2 x3 x4
  go_wp2_with fail
  refine (HC2.out w1 HB1.out).mono ?_
  rintro e w2 ⟨rfl, hb2⟩
  have HB2 := Lib.hid (HB0.out.trans ((HB1.out.mono HB0.out.size).trans (hb2.mono (Nat.le_trans HB0.out.size HB1.out.size)))); clear hb2
  clear x5 x6 x7 x8
  go_wp2
  go_ret
  exact ⟨rfl, HB2.out⟩
end Go.Proofs.Ytidbokheeieifaa
namespace Go.Proofs.Ytidbokheeieifaa
open Go.RowKit

/-- A guard that was returned, for reading. -/
def RGd (r : Gd) (w : World) (e : Ending) (w' : World) : Prop :=
  ∃ H k n s a m c k' n' s' a' m' c', e = .returned (gv r.kd k n s (.slice a m c) k' n' s' (.slice a' m' c')) ∧ GAt w' w.heap.size H (gv r.kd k n s (.slice a m c) k' n' s' (.slice a' m' c')) r ∧ Below w.heap.size w w'
/-- The same, and its rows are the call's own. -/
def CGd (r : Gd) (w : World) (e : Ending) (w' : World) : Prop := ∃ H, CopyGO H r w e w'
theorem ReadGO.rgd {H : Nat} {r : Gd} {w : World} {e : Ending} {w' : World} (q : ReadGO H r w e w') : RGd r w e w' := by
  obtain ⟨v, rfl, hg, hb⟩ := q
  obtain ⟨k, n, s, u, k', n', s', u', rfl, h1, h2⟩ := hg
  have h1' := h1
  have h2' := h2
  obtain ⟨_, _, _, _, xs, e1, _, _, ha⟩ := h1'
  obtain ⟨_, _, _, _, ys, e2, _, _, hb'⟩ := h2'
  cases e1
  cases e2
  obtain ⟨a, c, rfl⟩ := ha.slice
  obtain ⟨a', c', rfl⟩ := hb'.slice
  exact ⟨H, k, n, s, a, _, c, k', n', s', a', _, c', rfl, ⟨k, n, s, _, k', n', s', _, rfl, h1, h2⟩, hb⟩
theorem CGd.rgd {r : Gd} {w : World} {e : Ending} {w' : World} (q : CGd r w e w') : RGd r w e w' := by
  obtain ⟨H, q⟩ := q
  exact q.read.rgd
/-- A guard in a new box, behind a region that makes the box somewhere among its calls. -/
def BoxG (W : World) (r : Gd) (pu : Value) (wc : World) : Prop :=
  ∃ B k n s a m c k' n' s' a' m' c' H, pu = .pointer (some ⟨B, 0, none⟩) ∧ wc.heap[B]? = some (grow 31 r.kd k n s (.slice a m c) k' n' s' (.slice a' m' c')) ∧ GAt wc W.heap.size H (gv r.kd k n s (.slice a m c) k' n' s' (.slice a' m' c')) r ∧ Below W.heap.size W wc ∧ W.heap.size ≤ B
theorem boxG_new {W w1 : World} {B h lo : Nat} {r : Gd} {k n : Int} {s : ByteArray} {a : Option Addr} {m c : Nat} {k' n' : Int} {s' : ByteArray} {a' : Option Addr} {m' c' : Nat} (hB : Below W.heap.size W w1) (ht : GAt w1 lo h (gv r.kd k n s (.slice a m c) k' n' s' (.slice a' m' c')) r) (hlo : W.heap.size ≤ lo) (hb : B = w1.heap.size) :
    BoxG W r (.pointer (some ⟨B, 0, none⟩)) (w1.alloc (.cells #[.int .i64 r.kd, .int .i64 k, .int .i64 n, .string s, .slice a m c, .int .i64 k', .int .i64 n', .string s', .slice a' m' c'] 31)) := by
  subst hb
  have hb1 : Below w1.heap.size w1 (w1.alloc (.cells #[.int .i64 r.kd, .int .i64 k, .int .i64 n, .string s, .slice a m c, .int .i64 k', .int .i64 n', .string s', .slice a' m' c'] 31)) := (Below.refl _ _).alloc (Nat.le_refl _) _
  exact ⟨_, k, n, s, a, m, c, k', n', s', a', m', c', h, rfl, heap_new _ _ rfl, (ht.below hb1).low hlo, hB.trans (hb1.mono hB.size), hB.size⟩
theorem setall9 {W : World} {b : Nat} {x0 x1 x2 x3 x4 x5 x6 x7 x8 : Value} {ty : TypeId} (h : W.heap[b]? = some (.cells #[x0, x1, x2, x3, x4, x5, x6, x7, x8] ty (0, 0))) (y0 y1 y2 y3 y4 y5 y6 y7 y8 : Value) :
    (((((((((W.setCell ⟨b, 0, none⟩ y0).setCell ⟨b, 1, none⟩ y1).setCell ⟨b, 2, none⟩ y2).setCell ⟨b, 3, none⟩ y3).setCell ⟨b, 4, none⟩ y4).setCell ⟨b, 5, none⟩ y5).setCell ⟨b, 6, none⟩ y6).setCell ⟨b, 7, none⟩ y7).setCell ⟨b, 8, none⟩ y8).heap[b]? = some (.cells #[y0, y1, y2, y3, y4, y5, y6, y7, y8] ty (0, 0)) := by
  have h0 := heap_set_atK h 0 y0
  have h1 := heap_set_atK h0 1 y1
  have h2 := heap_set_atK h1 2 y2
  have h3 := heap_set_atK h2 3 y3
  have h4 := heap_set_atK h3 4 y4
  have h5 := heap_set_atK h4 5 y5
  have h6 := heap_set_atK h5 6 y6
  have h7 := heap_set_atK h6 7 y7
  have h8 := heap_set_atK h7 8 y8
  simpa using h8
theorem boxG_set {W w1 : World} {B h lo : Nat} {r : Gd} {x0 x1 x2 x3 x4 x5 x6 x7 x8 : Value} {k n : Int} {s : ByteArray} {a : Option Addr} {m c : Nat} {k' n' : Int} {s' : ByteArray} {a' : Option Addr} {m' c' : Nat} (hB : Below W.heap.size W w1) (ht : GAt w1 lo h (gv r.kd k n s (.slice a m c) k' n' s' (.slice a' m' c')) r)
    (hZ : w1.heap[B]? = some (.cells #[x0, x1, x2, x3, x4, x5, x6, x7, x8] 31 (0, 0))) (hlo : B < lo) (hb : W.heap.size ≤ B) :
    BoxG W r (.pointer (some ⟨B, 0, none⟩)) (((((((((w1.setCell ⟨B, 0, none⟩ (.int .i64 r.kd)).setCell ⟨B, 1, none⟩ (.int .i64 k)).setCell ⟨B, 2, none⟩ (.int .i64 n)).setCell ⟨B, 3, none⟩ (.string s)).setCell ⟨B, 4, none⟩ (.slice a m c)).setCell ⟨B, 5, none⟩ (.int .i64 k')).setCell ⟨B, 6, none⟩ (.int .i64 n')).setCell ⟨B, 7, none⟩ (.string s')).setCell ⟨B, 8, none⟩ (.slice a' m' c')) := by
  obtain ⟨X, hX⟩ : ∃ X, X = (((((((((w1.setCell ⟨B, 0, none⟩ (.int .i64 r.kd)).setCell ⟨B, 1, none⟩ (.int .i64 k)).setCell ⟨B, 2, none⟩ (.int .i64 n)).setCell ⟨B, 3, none⟩ (.string s)).setCell ⟨B, 4, none⟩ (.slice a m c)).setCell ⟨B, 5, none⟩ (.int .i64 k')).setCell ⟨B, 6, none⟩ (.int .i64 n')).setCell ⟨B, 7, none⟩ (.string s')).setCell ⟨B, 8, none⟩ (.slice a' m' c')) := ⟨_, rfl⟩
  have hh : ∀ d, B < d → X.heap[d]? = w1.heap[d]? := fun d hd => by rw [hX, set9_heap (by omega)]
  have hbx : Below W.heap.size W X := by
    rw [hX]
    iterate 9 refine Below.setCell ?_ (by exact hb) _
    exact hB
  have hrow : X.heap[B]? = some (grow 31 r.kd k n s (.slice a m c) k' n' s' (.slice a' m' c')) := by rw [hX]; exact setall9 hZ _ _ _ _ _ _ _ _ _
  rw [← hX]
  exact ⟨_, k, n, s, a, m, c, k', n', s', a', m', c', h, rfl, hrow, (ht.same fun d d1 _ => hh d (by omega)).low (by omega), hbx, hb⟩
theorem zg_new {w w' : World} (hb : Below (w.alloc (.cells #[.int .i64 0, .int .i64 0, .int .i64 0, .string ⟨#[]⟩, .slice none 0 0, .int .i64 0, .int .i64 0, .string ⟨#[]⟩, .slice none 0 0] 31)).heap.size (w.alloc (.cells #[.int .i64 0, .int .i64 0, .int .i64 0, .string ⟨#[]⟩, .slice none 0 0, .int .i64 0, .int .i64 0, .string ⟨#[]⟩, .slice none 0 0] 31)) w') :
    w'.heap[w.heap.size]? = some (grow 31 0 0 0 ⟨#[]⟩ (.slice none 0 0) 0 0 ⟨#[]⟩ (.slice none 0 0)) := (hb.block _ (by simp)).trans (heap_new _ _ rfl)
theorem zg_drew {w w' : World} (hb : Below (w.alloc (.cells #[.int .i64 0, .int .i64 0, .int .i64 0, .string ⟨#[]⟩, .slice none 0 0, .int .i64 0, .int .i64 0, .string ⟨#[]⟩, .slice none 0 0] 31)).drew.heap.size (w.alloc (.cells #[.int .i64 0, .int .i64 0, .int .i64 0, .string ⟨#[]⟩, .slice none 0 0, .int .i64 0, .int .i64 0, .string ⟨#[]⟩, .slice none 0 0] 31)).drew w') :
    w'.heap[w.heap.size]? = some (grow 31 0 0 0 ⟨#[]⟩ (.slice none 0 0) 0 0 ⟨#[]⟩ (.slice none 0 0)) := zg_new (bel_drew hb)
theorem cells_of9g {Y : World} {b : Nat} {x0 x1 x2 x3 x4 x5 x6 x7 x8 : Value} {t : TypeId} (hb : Y.heap[b]? = some (.cells #[x0, x1, x2, x3, x4, x5, x6, x7, x8] t (0, 0))) :
    (Y.cell? ⟨b, 0, none⟩ = some x0 ∧ Y.cell? ⟨b, 1, none⟩ = some x1 ∧ Y.cell? ⟨b, 2, none⟩ = some x2 ∧ Y.cell? ⟨b, 3, none⟩ = some x3 ∧ Y.cell? ⟨b, 4, none⟩ = some x4 ∧ Y.cell? ⟨b, 5, none⟩ = some x5 ∧ Y.cell? ⟨b, 6, none⟩ = some x6 ∧ Y.cell? ⟨b, 7, none⟩ = some x7 ∧ Y.cell? ⟨b, 8, none⟩ = some x8) ∧
    Y.frozen? ⟨b, 0, none⟩ = false ∧ Y.frozen? ⟨b, 1, none⟩ = false ∧ Y.frozen? ⟨b, 2, none⟩ = false ∧ Y.frozen? ⟨b, 3, none⟩ = false ∧ Y.frozen? ⟨b, 4, none⟩ = false ∧ Y.frozen? ⟨b, 5, none⟩ = false ∧ Y.frozen? ⟨b, 6, none⟩ = false ∧ Y.frozen? ⟨b, 7, none⟩ = false ∧ Y.frozen? ⟨b, 8, none⟩ = false :=
  ⟨cells_of9 hb, frozen_of_row Y b 0 _ _ hb, frozen_of_row Y b 1 _ _ hb, frozen_of_row Y b 2 _ _ hb, frozen_of_row Y b 3 _ _ hb, frozen_of_row Y b 4 _ _ hb, frozen_of_row Y b 5 _ _ hb, frozen_of_row Y b 6 _ _ hb, frozen_of_row Y b 7 _ _ hb, frozen_of_row Y b 8 _ _ hb⟩
end Go.Proofs.Ytidbokheeieifaa
namespace Go.Proofs.Ytidbokheeieifaa
open Go.RowKit

/-- The slice value u holds the Binds bs, the rows below of a depth of at most h, in blocks from lo on. -/
def BsAt (w : World) (lo h : Nat) (u : Value) (bs : List (ByteArray × T)) : Prop :=
  ∃ a cap, u = .slice a bs.length cap ∧ bs.length ≤ maxLen ∧ (bs = [] ∨ ∃ b o, a = some ⟨b, o, none⟩ ∧ lo ≤ b ∧ ∀ i p k n s xs, bs[i]? = some (p, T.node k n s xs) → p.size ≤ maxLen ∧ s.size ≤ maxLen ∧ ∃ u', w.cell? ⟨b, o + i * 5, none⟩ = some (.string p) ∧
    w.cell? ⟨b, o + i * 5 + 1, none⟩ = some (.int .i64 k) ∧ w.cell? ⟨b, o + i * 5 + 2, none⟩ = some (.int .i64 n) ∧ w.cell? ⟨b, o + i * 5 + 3, none⟩ = some (.string s) ∧ w.cell? ⟨b, o + i * 5 + 4, none⟩ = some u' ∧ ArgsAt w lo h u' xs)
theorem BsAt.slice {w : World} {lo h : Nat} {u : Value} {bs : List (ByteArray × T)} (k : BsAt w lo h u bs) : ∃ a cap, u = .slice a bs.length cap := by
  obtain ⟨a, cap, e, _⟩ := k; exact ⟨a, cap, e⟩
theorem BsAt.len {w : World} {lo h : Nat} {u : Value} {bs : List (ByteArray × T)} (k : BsAt w lo h u bs) : bs.length ≤ maxLen := by
  obtain ⟨_, _, _, hl, _⟩ := k; exact hl
theorem BsAt.keep {w w' : World} {lo h : Nat} {u : Value} {bs : List (ByteArray × T)} (hk : ∀ (ad : Addr) v, lo ≤ ad.block → w.cell? ad = some v → w'.cell? ad = some v) (k : BsAt w lo h u bs) : BsAt w' lo h u bs := by
  obtain ⟨a, cap, e, hl, hc⟩ := k
  refine ⟨a, cap, e, hl, ?_⟩
  rcases hc with hc | ⟨b, o, ea, hb, hc⟩
  · exact Or.inl hc
  · refine Or.inr ⟨b, o, ea, hb, fun i p k n s xs hi => ?_⟩
    obtain ⟨hp, hs, u', c0, c1, c2, c3, c4, hr⟩ := hc i p k n s xs hi
    exact ⟨hp, hs, u', hk _ _ hb c0, hk _ _ hb c1, hk _ _ hb c2, hk _ _ hb c3, hk _ _ hb c4, hr.keep hk⟩
theorem BsAt.below {w w' : World} {lo h : Nat} {u : Value} {bs : List (ByteArray × T)} (k : BsAt w lo h u bs) (hb : Below w.heap.size w w') : BsAt w' lo h u bs :=
  k.keep fun ad v _ hv => by rw [hb.cell (World.block_lt_of_cell? w _ hv)]; exact hv
theorem BsAt.same {w w' : World} {lo h : Nat} {u : Value} {bs : List (ByteArray × T)} (k : BsAt w lo h u bs) (hs : Same lo w.heap.size w w') : BsAt w' lo h u bs :=
  k.keep fun ad v hlo hv => by
    have hl := World.block_lt_of_cell? w _ hv
    unfold World.cell? at *
    rw [hs ad.block hlo hl]; exact hv
theorem BsAt.kept {w : World} {lo h : Nat} {u : Value} {bs : List (ByteArray × T)} (k : BsAt w lo h u bs) : Kept lo w.heap.size (fun w' => BsAt w' lo h u bs) w := ⟨Nat.le_refl _, fun _ hs => k.same hs⟩
theorem BsAt.le {w : World} {lo h h' : Nat} {u : Value} {bs : List (ByteArray × T)} (k : BsAt w lo h u bs) (hle : h ≤ h') : BsAt w lo h' u bs := by
  obtain ⟨a, cap, e, hl, hc⟩ := k
  refine ⟨a, cap, e, hl, ?_⟩
  rcases hc with hc | ⟨b, o, ea, hb, hc⟩
  · exact Or.inl hc
  · refine Or.inr ⟨b, o, ea, hb, fun i p k n s xs hi => ?_⟩
    obtain ⟨hp, hs, u', c0, c1, c2, c3, c4, hr⟩ := hc i p k n s xs hi
    exact ⟨hp, hs, u', c0, c1, c2, c3, c4, hr.le hle⟩
theorem BsAt.low {w : World} {lo lo' h : Nat} {u : Value} {bs : List (ByteArray × T)} (k : BsAt w lo h u bs) (hlo : lo' ≤ lo) : BsAt w lo' h u bs := by
  obtain ⟨a, cap, e, hl, hc⟩ := k
  refine ⟨a, cap, e, hl, ?_⟩
  rcases hc with hc | ⟨b, o, ea, hb, hc⟩
  · exact Or.inl hc
  · refine Or.inr ⟨b, o, ea, Nat.le_trans hlo hb, fun i p k n s xs hi => ?_⟩
    obtain ⟨hp, hs, u', c0, c1, c2, c3, c4, hr⟩ := hc i p k n s xs hi
    exact ⟨hp, hs, u', c0, c1, c2, c3, c4, hr.low hlo⟩
/-- What a loop over the Binds sees. -/
theorem BsAt.at {w : World} {lo h : Nat} {u : Value} {bs : List (ByteArray × T)} (q : BsAt w lo h u bs) {i : Nat} {x : ByteArray × T} (hx : bs[i]? = some x) :
    ∃ b o cap p k n s xs u', u = .slice (some ⟨b, o, none⟩) bs.length cap ∧ x = (p, T.node k n s xs) ∧ lo ≤ b ∧ p.size ≤ maxLen ∧ s.size ≤ maxLen ∧ w.cell? ⟨b, o + i * 5, none⟩ = some (.string p) ∧
    w.cell? ⟨b, o + i * 5 + 1, none⟩ = some (.int .i64 k) ∧ w.cell? ⟨b, o + i * 5 + 2, none⟩ = some (.int .i64 n) ∧ w.cell? ⟨b, o + i * 5 + 3, none⟩ = some (.string s) ∧ w.cell? ⟨b, o + i * 5 + 4, none⟩ = some u' ∧ ArgsAt w lo h u' xs := by
  obtain ⟨a, cap, rfl, hl, hc⟩ := q
  obtain ⟨p, k, n, s, xs⟩ := x
  rcases hc with rfl | ⟨b, o, rfl, hb, hc⟩
  · simp at hx
  · obtain ⟨hp, hs, u', c0, c1, c2, c3, c4, hr⟩ := hc i p k n s xs hx
    exact ⟨b, o, cap, p, k, n, s, xs, u', rfl, rfl, hb, hp, hs, c0, c1, c2, c3, c4, hr⟩

/-- The Binds' row and the rows below are owned, lie in blocks from lo to hi, and lie apart. -/
def OwnBs (w : World) (h lo hi : Nat) (u : Value) (bs : List (ByteArray × T)) : Prop :=
  ∃ a cap, u = .slice a bs.length cap ∧ (bs = [] ∨ ∃ (g : Nat) (xs : List Value) (U : Nat → Value) (L R : Nat → Nat), a = some ⟨g, 0, none⟩ ∧ lo ≤ g ∧ g < hi ∧ w.ownsRow g 148 5 u bs.length xs ∧
    (∀ i p k n s txs, bs[i]? = some (p, T.node k n s txs) → xs[i * 5 + 4]? = some (U i) ∧ lo ≤ L i ∧ R i ≤ hi ∧ (g < L i ∨ R i ≤ g) ∧ OwnA w h (L i) (R i) (U i) txs) ∧
    (∀ i j, i < j → j < bs.length → R i ≤ L j ∨ R j ≤ L i))
theorem OwnBs.same {w w' : World} {h lo hi : Nat} {u : Value} {bs : List (ByteArray × T)} (k : OwnBs w h lo hi u bs) (hs : Same lo hi w w') : OwnBs w' h lo hi u bs := by
  obtain ⟨a, cap, e, hc⟩ := k
  refine ⟨a, cap, e, ?_⟩
  rcases hc with hc | ⟨g, xs, U, L, R, rfl, h1, h2, ho, hx, hd⟩
  · exact Or.inl hc
  · subst e
    refine Or.inr ⟨g, xs, U, L, R, rfl, h1, h2, row_keep ho (hs g h1 h2), fun i p k n s txs hi => ?_, hd⟩
    obtain ⟨x3, l1, l2, l3, hr⟩ := hx i p k n s txs hi
    exact ⟨x3, l1, l2, l3, hr.keep fun b b1 b2 => hs b (by omega) (by omega)⟩
theorem OwnBs.wide {w : World} {h lo hi lo' hi' : Nat} {u : Value} {bs : List (ByteArray × T)} (k : OwnBs w h lo hi u bs) (h1 : lo' ≤ lo) (h2 : hi ≤ hi') : OwnBs w h lo' hi' u bs := by
  obtain ⟨a, cap, e, hc⟩ := k
  refine ⟨a, cap, e, ?_⟩
  rcases hc with hc | ⟨g, xs, U, L, R, ea, g1, g2, ho, hx, hd⟩
  · exact Or.inl hc
  · refine Or.inr ⟨g, xs, U, L, R, ea, by omega, by omega, ho, fun i p k n s txs hi => ?_, hd⟩
    obtain ⟨x3, l1, l2, l3, hr⟩ := hx i p k n s txs hi
    exact ⟨x3, by omega, by omega, l3, hr⟩
/-- A list of Binds, its row and those below, in blocks from lo to hi. -/
def BsObj (lo hi h : Nat) (u : Value) (bs : List (ByteArray × T)) (w : World) : Prop := BsAt w lo h u bs ∧ OwnBs w h lo hi u bs
theorem BsObj.kept {lo h : Nat} {u : Value} {bs : List (ByteArray × T)} {w : World} (x : BsObj lo w.heap.size h u bs w) : Kept lo w.heap.size (BsObj lo w.heap.size h u bs) w :=
  ⟨Nat.le_refl _, fun _ hs => ⟨x.1.same hs, x.2.same hs⟩⟩

/-- How much the Binds hold. -/
def wBs (bs : List (ByteArray × T)) : Nat := bs.length + (bs.map fun x => x.1.size + wT x.2).sum
/-- How many marks they take. -/
def mBs (bs : List (ByteArray × T)) : Nat := (bs.map fun x => 1 + 3 * cT x.2).sum
theorem wBs_len (bs : List (ByteArray × T)) : bs.length ≤ wBs bs := Nat.le_add_right _ _
theorem mBs_le (bs : List (ByteArray × T)) : mBs bs ≤ 4 * wBs bs := by
  unfold mBs wBs
  induction bs with
  | nil => simp
  | cons x r ih =>
    have := cT_le x.2
    simp only [List.map_cons, List.sum_cons, List.length_cons] at *
    omega
theorem mBs_snoc (bs : List (ByteArray × T)) (x : ByteArray × T) : mBs (bs ++ [x]) = mBs bs + (1 + 3 * cT x.2) := by simp [mBs]
theorem wBs_snoc (bs : List (ByteArray × T)) (x : ByteArray × T) : wBs (bs ++ [x]) = wBs bs + (1 + x.1.size + wT x.2) := by simp [wBs]; omega
theorem mBs_take (bs : List (ByteArray × T)) (k : Nat) : mBs (bs.take k) ≤ mBs bs := by
  have h : mBs bs = mBs (bs.take k) + mBs (bs.drop k) := by
    unfold mBs
    rw [← List.sum_append, ← List.map_append, List.take_append_drop]
  omega
theorem wBs_take (bs : List (ByteArray × T)) (k : Nat) : wBs (bs.take k) ≤ wBs bs := by
  have h : wBs bs = wBs (bs.take k) + wBs (bs.drop k) := by
    have e := List.take_append_drop k bs
    conv => lhs; rw [← e]
    unfold wBs
    rw [List.map_append, List.sum_append, List.length_append]; omega
  omega
theorem wBs_mem {bs : List (ByteArray × T)} {k : Nat} {x : ByteArray × T} (h : bs[k]? = some x) : 1 + x.1.size + wT x.2 ≤ wBs bs := by
  have h1 := wBs_take bs (k + 1)
  rw [tk bs k x h, wBs_snoc] at h1
  omega
theorem len_mBs (bs : List (ByteArray × T)) : bs.length ≤ mBs bs := by
  unfold mBs
  induction bs with
  | nil => simp
  | cons x r ih => simp only [List.map_cons, List.sum_cons, List.length_cons] at *; omega
/-- The value of a Bind. -/
abbrev bv (p : ByteArray) (k n : Int) (s : ByteArray) (u : Value) : Value := .agg #[.string p, .int .i64 k, .int .i64 n, .string s, u]
end Go.Proofs.Ytidbokheeieifaa
namespace Go.Proofs.Ytidbokheeieifaa
open Go.RowKit

/-- The term of the first Bind of a name. -/
def findB (bs : List (ByteArray × T)) (nm : ByteArray) : Option T := (bs.find? (fun x => x.1.toList == nm.toList)).map Prod.snd
theorem findB_at {bs : List (ByteArray × T)} {nm : ByteArray} {k : Nat} {x : ByteArray × T} (hn : ∀ y ∈ bs.take k, (y.1.toList == nm.toList) = false) (hk : bs[k]? = some x) (hp : (x.1.toList == nm.toList) = true) : findB bs nm = some x.2 := by
  have e : bs = bs.take k ++ x :: bs.drop (k + 1) := by
    obtain ⟨_, h⟩ := List.getElem?_eq_some_iff.1 hk
    rw [← h, List.getElem_cons_drop, List.take_append_drop]
  unfold findB
  rw [e, List.find?_append, List.find?_eq_none.2 (fun y hy => by simpa using hn y hy)]
  simp [hp]
theorem findB_none {bs : List (ByteArray × T)} {nm : ByteArray} (hn : ∀ y ∈ bs, (y.1.toList == nm.toList) = false) : findB bs nm = none := by
  unfold findB
  rw [List.find?_eq_none.2 (fun y hy => by simpa using hn y hy)]; rfl
theorem findB_w {bs : List (ByteArray × T)} {nm : ByteArray} {t : T} (h : findB bs nm = some t) : wT t ≤ wBs bs := by
  unfold findB at h
  obtain ⟨x, hx, rfl⟩ := Option.map_eq_some_iff.1 h
  obtain ⟨k, hk⟩ := List.mem_iff_getElem?.1 (List.mem_of_find?_eq_some hx)
  have := wBs_mem hk
  omega

theorem findB_w1 {bs : List (ByteArray × T)} {nm : ByteArray} {t : T} (h : findB bs nm = some t) : 1 + wT t ≤ wBs bs := by
  unfold findB at h
  obtain ⟨x, hx, rfl⟩ := Option.map_eq_some_iff.1 h
  obtain ⟨k, hk⟩ := List.mem_iff_getElem?.1 (List.mem_of_find?_eq_some hx)
  have := wBs_mem hk
  omega

/-- Where the first Bind of a name stands. -/
def AtE (bs : List (ByteArray × T)) (nm : ByteArray) (w : World) (e : Ending) (w' : World) : Prop :=
  w' = w ∧ ((findB bs nm = none ∧ e = .returned (.int .i64 (-1))) ∨ ∃ (k : Nat) (x : ByteArray × T), e = .returned (.int .i64 k) ∧ bs[k]? = some x ∧ findB bs nm = some x.2)

set_option maxRecDepth 100000 in
set_option maxHeartbeats 1600000 in
theorem sAt7_any (u : Value) (nm : ByteArray) (bs : List (ByteArray × T)) (lo h : Nat) (w : World) (hl : bs.length ≤ 4294967296) (hv : BsAt w lo h u bs) :
    Calls Try.prog 149 #[u, .string nm] w (AtE bs nm w) := by
  have HV := Lib.hid hv
  obtain ⟨a, cap, rfl⟩ := hv.slice
  clear hv
  obtain ⟨n, hn⟩ : ∃ n, n = bs.length := ⟨_, rfl⟩
  rw [← hn] at HV hl ⊢
  have HN := Lib.hid hn; clear hn
  go_enter Try.func149, Try.ntmps149
  go_wp2
  go_loop [5] (fun i => ∃ k : Nat, k ≤ n ∧ i = .int .i64 k ∧ Hid (∀ x ∈ bs.take k, (x.1.toList == nm.toList) = false)) (fun i => n - (intOf i).toNat)
  case atStart => exact ⟨0, Nat.zero_le _, rfl, Lib.hid (by simp)⟩
  case round =>
    obtain ⟨k, hk, rfl, HF⟩ := hrel
    by_cases hlt : k < n
    · obtain ⟨x, hx⟩ : ∃ x, bs[k]? = some x := ⟨_, List.getElem?_eq_getElem (by have := HN.out; omega)⟩
      obtain ⟨b, o, c', p, tk', tn, tsn, txs, u', e, rfl, _, _, _, c0, c1, c2, c3, c4, _⟩ := HV.out.at hx
      obtain ⟨rfl, -, rfl⟩ : a = some ⟨b, o, none⟩ ∧ n = bs.length ∧ cap = c' := by simpa using e
      have HX := Lib.hid hx; clear hx e
      by_cases hq : (p.toList == nm.toList) = true
      · have HE := Lib.hid (findB_at HF.out HX.out hq)
        go_wp2
        go_ret
        exact ⟨rfl, Or.inr ⟨k, _, rfl, HX.out, HE.out⟩⟩
      · have hq2 : (p.toList == nm.toList) = false := by simpa using hq
        clear hq
        have HF2 : Hid (∀ x ∈ bs.take (k + 1), (x.1.toList == nm.toList) = false) := Lib.hid (fun x hx => by
          rw [List.take_add_one, HX.out] at hx
          rcases List.mem_append.1 hx with h | h
          · exact HF.out x h
          · simp at h; subst h; exact hq2)
        go_wp2
        go_round
        case rel => exact ⟨k + 1, by omega, by go_num, HF2⟩
        case measure => simp [intOf]; omega
    · have HE : Hid (findB bs nm = none) := Lib.hid (findB_none (by
        have h := HF.out
        rw [List.take_of_length_le (by have := HN.out; omega)] at h
        exact h))
      go_wp2
      go_ret
      exact ⟨rfl, Or.inl ⟨HE.out, rfl⟩⟩

/-- An answer that is a term of a depth of at most h, and a word. -/
def ResTH (h : Nat) (ok : Bool) (r : T) (w : World) (e : Ending) (w' : World) : Prop :=
  ∃ k n s a m c, e = .returned (.tuple #[tv k n s (.slice a m c), .bool ok]) ∧ TermAt w' w.heap.size h (tv k n s (.slice a m c)) r ∧ Below w.heap.size w w'
theorem resT_fin {w wr : World} {b B : Nat} {ok : Bool} {k n : Int} {s : ByteArray} {a : Option Addr} {m c h : Nat} {r : T} (ht : TermAt wr B h (tv k n s (.slice a m c)) r) (hb : Below w.heap.size w wr) (h1 : w.heap.size ≤ b) (h2 : b < B) (v0 v1 v2 v3 : Value) :
    ResTH h ok r w (.returned (.tuple #[tv k n s (.slice a m c), .bool ok])) ((((wr.setCell ⟨b, 0, none⟩ v0).setCell ⟨b, 1, none⟩ v1).setCell ⟨b, 2, none⟩ v2).setCell ⟨b, 3, none⟩ v3) := by
  have st : ∀ (W : World) (j : Nat) (v : Value), TermAt W B h (tv k n s (.slice a m c)) r → TermAt (W.setCell ⟨b, j, none⟩ v) B h (tv k n s (.slice a m c)) r := fun W j v q => by
    obtain ⟨k, n, s, u, xs, e1, e2, hs, ha⟩ := q
    exact ⟨k, n, s, u, xs, e1, e2, hs, ha.grown (set_grown W b j v) (fun i e => by cases e; exact h2)⟩
  exact ⟨k, n, s, a, m, c, rfl, (st _ _ _ (st _ _ _ (st _ _ _ (st _ _ _ ht)))).low (by omega), (((hb.setCell h1 _).setCell h1 _).setCell h1 _).setCell h1 _⟩

/-- Few binds, and each term has few nodes, however long its names are. -/
def FewB (bs : List (ByteArray × T)) : Prop := bs.length ≤ 4294967296 ∧ ∀ x ∈ bs, cT x.2 ≤ 1048578
theorem few_of_w {bs : List (ByteArray × T)} (h : wBs bs ≤ 1048577) : FewB bs := ⟨by have := wBs_len bs; omega, fun x hx => by
  obtain ⟨i, hi⟩ := List.mem_iff_getElem?.1 hx
  have h1 := wBs_mem hi
  have h2 := cT_le x.2
  omega⟩

set_option maxRecDepth 100000 in
set_option maxHeartbeats 1600000 in
theorem sFindB_anyF (u : Value) (nm : ByteArray) (bs : List (ByteArray × T)) (lo h : Nat) (w : World) (hw : FewB bs) (hv : BsAt w lo h u bs) :
    Calls Try.prog 126 #[u, .string nm] w (ResTH h (findB bs nm).isSome ((findB bs nm).getD zT) w) := by
  obtain ⟨W0, hW0⟩ : ∃ W0, W0 = w.alloc (.cells #[.int .i64 0, .int .i64 0, .string ⟨#[]⟩, .slice none 0 0] 26) := ⟨_, rfl⟩
  have hB0 : Below w.heap.size w W0 := by rw [hW0]; exact (Below.refl _ _).alloc (Nat.le_refl _) _
  have hs0 : W0.heap.size = w.heap.size + 1 := by rw [hW0]; simp
  have r0 : W0.heap[w.heap.size]? = some (trow 0 0 ByteArray.empty (.slice none 0 0)) := by rw [hW0]; exact heap_new _ _ rfl
  have hl : bs.length ≤ 4294967296 := hw.1
  have HV := Lib.hid (hv.below hB0)
  have HC := Lib.hid (sAt7_any u nm bs lo h W0 hl (hv.below hB0))
  obtain ⟨a, cap, rfl⟩ := hv.slice
  clear hv
  obtain ⟨n, hn⟩ : ∃ n, n = bs.length := ⟨_, rfl⟩
  rw [← hn] at HV hl HC ⊢
  have HN := Lib.hid hn; clear hn
  have HB0 := Lib.hid hB0; have HS0 := Lib.hid hs0; have HR0 := Lib.hid r0; have HW := Lib.hid hw
  clear hB0 hs0 r0 hw
  go_enter Try.func126, Try.ntmps126
  go_wp2_with fail
  rw [← hW0]
  clear hW0
  refine HC.out.mono ?_
  rintro e w1 ⟨rfl, hat⟩
  obtain ⟨⟨y0, y1, y2, y3⟩, f0, f1, f2, f3⟩ := cells_of4 HR0.out
  rcases hat with ⟨hno, rfl⟩ | ⟨k, x, rfl, hx, hyes⟩
  · have HF : Hid (∀ v0 v1 v2 v3, ResTH h (findB bs nm).isSome ((findB bs nm).getD zT) w (.returned (.tuple #[tv 0 0 ByteArray.empty (.slice none 0 0), .bool false])) ((((w1.setCell ⟨w.heap.size, 0, none⟩ v0).setCell ⟨w.heap.size, 1, none⟩ v1).setCell ⟨w.heap.size, 2, none⟩ v2).setCell ⟨w.heap.size, 3, none⟩ v3)) := Lib.hid (fun v0 v1 v2 v3 => by
      rw [hno]
      exact resT_fin (B := w.heap.size + 1) (h := h) (ok := false) ⟨_, _, _, _, [], rfl, rfl, by simp [maxLen], ArgsAt.nil _ _ _ _ _⟩ HB0.out (Nat.le_refl _) (Nat.lt_succ_self _) _ _ _ _)
    clear hno HC
    go_wp2
    (try simp only [Exit.inBlock, Exit.then])
    refine bodyPost_ret (v := .tuple #[tv 0 0 ByteArray.empty (.slice none 0 0), .bool false]) ?_ rfl ?_
    · refine results_ct (a := 4) (b := 5) (t := 26) (ad := ⟨w.heap.size, 0, none⟩) rfl rfl _ _ ?_
      go_simp
      try rfl
    · exact HF.out _ _ _ _
  · obtain ⟨b, o, c', p, tk', tn, tsn, txs, u', e, rfl, _, hps, hsz, c0, c1, c2, c3, c4, har⟩ := HV.out.at hx
    obtain ⟨rfl, -, rfl⟩ : a = some ⟨b, o, none⟩ ∧ n = bs.length ∧ cap = c' := by simpa using e
    have hkl : k < n := by have := (List.getElem?_eq_some_iff.1 hx).1; have := HN.out; omega
    have hwx := HW.out.2 _ (List.mem_of_getElem? hx)
    have HCP := Lib.hid (lcopy_anyK h (tv tk' tn tsn u') (.node tk' tn tsn txs) lo w1 ⟨_, _, _, _, txs, rfl, rfl, hsz, har⟩ (by simp only at hwx; omega))
    have HY := Lib.hid hyes
    clear hyes hwx hx e har HC
    go_wp2_with fail
    refine HCP.out.mono ?_
    rintro e w5 ⟨k5, n5, s5, a5, m5, c5, rfl, ht5, hb5⟩
    have q1 : w5.heap[w.heap.size]? = some (trow 0 0 ByteArray.empty (.slice none 0 0)) := (hb5.block _ (by have := HS0.out; omega)).trans HR0.out
    clear y0 y1 y2 y3 f0 f1 f2 f3
    obtain ⟨⟨y0, y1, y2, y3⟩, f0, f1, f2, f3⟩ := cells_of4 q1
    have HF : Hid (∀ v0 v1 v2 v3, ResTH h (findB bs nm).isSome ((findB bs nm).getD zT) w (.returned (.tuple #[tv k5 n5 s5 (.slice a5 m5 c5), .bool true])) ((((w5.setCell ⟨w.heap.size, 0, none⟩ v0).setCell ⟨w.heap.size, 1, none⟩ v1).setCell ⟨w.heap.size, 2, none⟩ v2).setCell ⟨w.heap.size, 3, none⟩ v3)) := Lib.hid (fun v0 v1 v2 v3 => by
      rw [HY.out]
      exact resT_fin (B := w1.heap.size) (ok := true) ht5 (HB0.out.trans (hb5.mono HB0.out.size)) (Nat.le_refl _) (by have := HS0.out; omega) _ _ _ _)
    clear c0 c1 c2 c3 c4 hsz hps ht5 hb5 q1
    go_wp2
    (try simp only [Exit.inBlock, Exit.then])
    refine bodyPost_ret (v := .tuple #[tv k5 n5 s5 (.slice a5 m5 c5), .bool true]) ?_ rfl ?_
    · refine results_ct (a := 4) (b := 5) (t := 26) (ad := ⟨w.heap.size, 0, none⟩) rfl rfl _ _ ?_
      go_simp
    · exact HF.out _ _ _ _
theorem sFindB_anyK (u : Value) (nm : ByteArray) (bs : List (ByteArray × T)) (lo h : Nat) (w : World) (hw : wBs bs ≤ 1048577) (hv : BsAt w lo h u bs) :
    Calls Try.prog 126 #[u, .string nm] w (ResTH h (findB bs nm).isSome ((findB bs nm).getD zT) w) := sFindB_anyF u nm bs lo h w (few_of_w hw) hv
theorem sFindB_anyH (u : Value) (nm : ByteArray) (bs : List (ByteArray × T)) (lo h : Nat) (w : World) (hw : wBs bs ≤ 1048576) (hv : BsAt w lo h u bs) :
    Calls Try.prog 126 #[u, .string nm] w (ResTH h (findB bs nm).isSome ((findB bs nm).getD zT) w) := sFindB_anyK u nm bs lo h w (by omega) hv
theorem sFindB_any (u : Value) (nm : ByteArray) (bs : List (ByteArray × T)) (lo h : Nat) (w : World) (hw : wBs bs ≤ 1048576) (hv : BsAt w lo h u bs) :
    Calls Try.prog 126 #[u, .string nm] w (ResT (findB bs nm).isSome ((findB bs nm).getD zT) w) :=
  (sFindB_anyH u nm bs lo h w hw hv).mono fun _ _ ⟨k, n, s, a, m, c, q⟩ => ⟨k, n, s, a, m, c, h, q⟩
end Go.Proofs.Ytidbokheeieifaa
