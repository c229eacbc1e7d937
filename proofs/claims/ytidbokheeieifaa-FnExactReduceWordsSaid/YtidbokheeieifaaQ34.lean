/-
  laws.szTerm and laws.szTermS count what a term holds.
  laws.heldTermS and laws.heldTerm find the marks that were written.
  A term that is a call's own, its rows in blocks that lie in any order: what the laws keep of it. No walk.
  The law on ReduceWords answers true at every term.
  A term that came in, as the walks take it. No walk.
-/
import Derived.Test.YtidbokheeieifaaQ1
import Derived.Test.YtidbokheeieifaaQ7
import Derived.Test.YtidbokheeieifaaQ8
import Derived.Test.YtidbokheeieifaaQ30
import Derived.Test.YtidbokheeieifaaQ33
import Derived.Test.YtidbokheeieifaaQ10
import Derived.Test.YtidbokheeieifaaQ2
import Derived.WalkLawsBesides
import Derived.BigQuiet
import Derived.Deep.QuietTactic
import Derived.ProofKit
namespace Go.Proofs.Ytidbokheeieifaa
open Go.RowKit

/-- What the count says. -/
def TSz (m : Nat) (left : Int) (w : World) (e : Ending) (w' : World) : Prop :=
  ∃ r : Int, e = .returned (.int .i64 r) ∧ Below w.heap.size w w' ∧ -1 ≤ r ∧ (0 ≤ r → r + m ≤ left)

def SzSAt (lo h : Nat) : Prop := ∀ (u : Value) (ts : List T) (left : Int) (w : World), ArgsAt w lo h u ts → 0 ≤ left → left ≤ 1048576 →
  Calls Try.prog 70 #[u, .int .i64 left] w (TSz (ts.length + wS ts) left w)

set_option maxRecDepth 100000 in
set_option maxHeartbeats 800000 in
theorem szT_of {lo h : Nat} (hS : SzSAt lo h) (k n : Int) (s : ByteArray) (u : Value) (xs : List T) (left : Int) (w : World) (hs : s.size ≤ maxLen) (ha : ArgsAt w lo h u xs) (h0 : 0 ≤ left) (h1 : left ≤ 1048576) :
    Calls Try.prog 20 #[tv k n s u, .int .i64 left] w (TSz (wT (.node k n s xs)) left w) := by
  have hs2 : s.size ≤ 9223372036854775807 := by unfold maxLen at hs; omega
  have hb0 : Below w.heap.size w (w.alloc (.cells #[.int .i64 k, .int .i64 n, .string s, u] 41)) := (Below.refl _ _).alloc (Nat.le_refl _) _
  have HA := Lib.hid (ha.below hb0); clear ha hs
  have HB0 := Lib.hid hb0; clear hb0
  have HW := Lib.hid (wT_node k n s xs)
  by_cases hneg : left - (s.size : Int) < 0
  · go_enter Try.func20, Try.ntmps20
    go_wp2
    go_ret
    exact ⟨-1, rfl, HB0.out, by omega, fun h => by omega⟩
  · go_enter Try.func20, Try.ntmps20
    go_wp2_with fail
    refine (hS u xs (left - (s.size : Int)) _ HA.out (by omega) (by omega)).mono ?_
    rintro e w1 ⟨r, rfl, hb1, hr1, hr2⟩
    have HR := Lib.hid hr2; clear hr2
    have HB1 := Lib.hid (HB0.out.trans (hb1.mono HB0.out.size)); clear hb1
    by_cases hr : r < 0
    · go_wp2
      go_ret
      exact ⟨-1, rfl, HB1.out, by omega, fun h => by omega⟩
    · go_wp2
      go_ret
      refine ⟨r, rfl, HB1.out, by omega, fun h => ?_⟩
      have h2 := HR.out (by omega)
      rw [HW.out]
      omega

set_option maxRecDepth 100000 in
set_option maxHeartbeats 400000 in
theorem szS_empty (left : Int) (a : Option Addr) (cap : Nat) (w : World) (h0 : 0 ≤ left) (h1 : left ≤ 1048576) :
    Calls Try.prog 70 #[.slice a 0 cap, .int .i64 left] w (TSz 0 left w) := by
  have hd : decide (left < 0) = false := by simp; omega
  go_enter Try.func70, Try.ntmps70
  go_wp2
  refine wp_loop_rounds 1 ?_
  rw [rounds_succ]
  go_wp2
  go_ret
  exact ⟨left, rfl, Below.refl _ _, by omega, fun _ => by omega⟩

set_option maxRecDepth 100000 in
set_option maxHeartbeats 1600000 in
theorem szS_some {lo h : Nat} (hS : SzSAt lo h) (b o cap : Nat) (ts : List T) (left : Int) (w : World) (h0 : 0 ≤ left) (h1 : left ≤ 1048576) (hl : ts.length ≤ maxLen)
    (hc : RowAt w lo h b o ts) :
    Calls Try.prog 70 #[.slice (some ⟨b, o, none⟩) ts.length cap, .int .i64 left] w (TSz (ts.length + wS ts) left w) := by
  have HC := Lib.hid hc; clear hc
  have HSS := Lib.hid hS; clear hS
  obtain ⟨n, hn⟩ : ∃ n, n = ts.length := ⟨_, rfl⟩
  have hl2 : ts.length ≤ 9223372036854775807 := by unfold maxLen at hl; omega
  clear hl
  rw [← hn] at hl2 ⊢
  have HN := Lib.hid hn; clear hn
  by_cases hbig : left < n
  · have hd : decide (left - (n : Int) < 0) = true := by simp; omega
    go_enter Try.func70, Try.ntmps70
    go_wp2
    go_ret
    exact ⟨-1, rfl, Below.refl _ _, by omega, fun h => by omega⟩
  · have hd : decide (left - (n : Int) < 0) = false := by simp; omega
    go_enter Try.func70, Try.ntmps70
    go_wp2
    go_loopw [1, 5] (fun q i wr => ∃ (k : Nat) (x : Int), k ≤ n ∧ i = .int .i64 k ∧ q = .int .i64 x ∧ 0 ≤ x ∧ x ≤ left ∧ Hid (x + n + wS (ts.take k) ≤ left) ∧ Below w.heap.size w wr) (fun _ i _ => n - (intOf i).toNat)
    case atStart => exact ⟨0, left - n, Nat.zero_le _, rfl, rfl, by omega, by omega, Lib.hid (by simp [wS]), Below.refl _ _⟩
    case round =>
      obtain ⟨k, x, hk, rfl, rfl, hx0, hx1, HX, hb⟩ := hrel
      have HB := Lib.hid hb; clear hb
      by_cases hlt : k < n
      · obtain ⟨t, ht⟩ : ∃ t, ts[k]? = some t := ⟨_, List.getElem?_eq_getElem (by have := HN.out; omega)⟩
        obtain ⟨tk', tn, tsn, txs⟩ := t
        obtain ⟨hsz, u', c0, c1, c2, c3, har⟩ := HC.out k _ _ _ _ ht
        have keep : ∀ {ad : Addr} {v : Value}, w.cell? ad = some v → wr.cell? ad = some v := fun {ad} {v} hv => by rw [HB.out.cell (World.block_lt_of_cell? w _ hv)]; exact hv
        have d0 := keep c0
        have d1 := keep c1
        have d2 := keep c2
        have d3 := keep c3
        clear c0 c1 c2 c3 keep
        have HAR := Lib.hid (har.below HB.out); clear har
        have HT := Lib.hid (tk ts k _ ht)
        have HSZ := Lib.hid hsz; clear hsz ht
        go_wp2_with fail
        refine (szT_of HSS.out tk' tn tsn u' txs x _ HSZ.out HAR.out hx0 (by omega)).mono ?_
        rintro e w1 ⟨r, rfl, hb1, hr1, hr2⟩
        have HR := Lib.hid hr2; clear hr2
        have HB1 := Lib.hid (HB.out.trans (hb1.mono HB.out.size)); clear hb1
        by_cases hr : r < 0
        · go_wp2
          go_ret
          exact ⟨-1, rfl, HB1.out, by omega, fun h => by omega⟩
        · have hx := HR.out (by omega)
          have HX2 : Hid (r + n + wS (ts.take (k + 1)) ≤ left) := Lib.hid (by rw [HT.out, wS_snoc]; have := HX.out; omega)
          clear hx
          have hrl : r ≤ left := by have := HX2.out; omega
          go_wp2
          go_roundw
          case rel => exact ⟨k + 1, r, by omega, by go_num, rfl, by omega, hrl, HX2, HB1.out⟩
          case measure => simp [intOf]; omega
      · have hkn : k = n := by omega
        have HD : Hid (x + n + wS ts ≤ left) := Lib.hid (by
          have h2 := HX.out
          rw [hkn, HN.out, List.take_length] at h2
          have := HN.out; omega)
        clear hkn
        go_wp2
        go_ret
        exact ⟨x, rfl, HB.out, by omega, fun _ => by have := HD.out; omega⟩

theorem szS_any (lo : Nat) : ∀ h, SzSAt lo h
  | 0 => fun u ts left w ha h0 h1 => by
    obtain ⟨rfl, a, cap, rfl⟩ := ha
    have := szS_empty left a cap w h0 h1
    simpa [wS] using this
  | h + 1 => fun u ts left w ha h0 h1 => by
    rcases ha.cases with ⟨rfl, a, cap, rfl⟩ | ⟨h', b, o, cap, e, rfl, hl, _, hc⟩
    · have := szS_empty left a cap w h0 h1
      simpa [wS] using this
    · obtain rfl : h = h' := by omega
      exact szS_some (szS_any lo h) b o cap ts left w h0 h1 hl hc

theorem szT_any (v : Value) (t : T) (lo h : Nat) (left : Int) (w : World) (ht : TermAt w lo h v t) (h0 : 0 ≤ left) (h1 : left ≤ 1048576) :
    Calls Try.prog 20 #[v, .int .i64 left] w (TSz (wT t) left w) := by
  obtain ⟨k, n, s, u, xs, rfl, rfl, hs, ha⟩ := ht
  exact szT_of (szS_any lo h) k n s u xs left w hs ha h0 h1
end Go.Proofs.Ytidbokheeieifaa
namespace Go.Proofs.Ytidbokheeieifaa
open Go.RowKit

def HeldSAt (h : Nat) : Prop := ∀ (u : Value) (ts : List T) (lo k : Nat) (w : World), ArgsAt w lo h u (mkS k ts) → 1 ≤ k → k + 3 * cS ts ≤ 2305843009213693952 →
  Calls Try.prog 96 #[u, .int .i64 k] w (NumB ((k + 3 * cS ts : Nat) : Int) w)

set_option maxRecDepth 100000 in
set_option maxHeartbeats 1600000 in
theorem heldS_step (h : Nat) (IH : ∀ h', h = h' + 1 → HeldSAt h') : HeldSAt h := by
  intro u ts lo k w ha hk hkc
  obtain ⟨a, cap, rfl⟩ := ha.slice
  rw [mkS_length] at ha ⊢
  have hl : ts.length ≤ 2305843009213693952 := by have := len_cS ts; omega
  have HA := Lib.hid ha; clear ha
  have HIH := Lib.hid IH; clear IH
  have HKC := Lib.hid hkc; clear hkc
  obtain ⟨m, hm⟩ : ∃ m, m = ts.length := ⟨_, rfl⟩
  rw [← hm] at HA hl ⊢
  have HM := Lib.hid hm; clear hm
  go_enter Try.func96, Try.ntmps96
  go_wp2
  go_loopw [1, 5] (fun q i wr => ∃ (j c : Nat), j ≤ m ∧ i = .int .i64 j ∧ q = .int .i64 c ∧ Hid (c = k + 3 * cS (ts.take j)) ∧ Hid (Below w.heap.size w wr)) (fun _ i _ => m - (intOf i).toNat)
  case atStart => exact ⟨0, k, Nat.zero_le _, rfl, rfl, Lib.hid (by simp [cS]), Lib.hid (Below.refl _ _)⟩
  case round =>
    obtain ⟨j, c, hj, rfl, rfl, HC, HB⟩ := hrel
    have hcb : c ≤ 2305843009213693952 := by have := HC.out; have := cS_take ts j; have := HKC.out; omega
    have hc1 : 1 ≤ c := by have := HC.out; omega
    by_cases hlt : j < m
    · obtain ⟨t, ht⟩ : ∃ t, ts[j]? = some t := ⟨_, List.getElem?_eq_getElem (by have := HM.out; omega)⟩
      have hmk := mkS_at ts k j t ht
      obtain ⟨tk1, tn1, ts1, txs⟩ := t
      rw [← HC.out, mkT_node] at hmk
      have hct : cS (ts.take (j + 1)) = cS (ts.take j) + (1 + cS txs) := by rw [tk ts j _ ht, cS_snoc, cT_node]
      have hctl := cS_take ts (j + 1)
      have HCT := Lib.hid hct
      have hcx : c + 3 + 3 * cS txs ≤ 2305843009213693952 := by have := HC.out; have := HKC.out; omega
      obtain ⟨h', b, o, kk, nn, s, xs, u', e, rfl, en, hs, d0, d1, d2, d3, har⟩ := HA.out.at hmk
      cases en
      have c0 := cell_on HB.out d0
      have c1 := cell_on HB.out d1
      have c2 := cell_on HB.out d2
      have c3 := cell_on HB.out d3
      have HAR := Lib.hid (har.below HB.out); clear har d0 d1 d2 d3 hct hctl ht hmk hs
      obtain ⟨ua, uc, rfl⟩ := HAR.out.slice
      have hb0 : Below wr.heap.size wr wr := Below.refl _ _
      have hgw : b < wr.heap.size := World.block_lt_of_cell? wr _ c2
      have hq0 : ((c : Int) != (c : Int)) = false := by simp
      have hq1 : ((c : Int) + 1 != (c : Int) + 1) = false := by simp
      have hq2 : ((mark (c + 2)).toList == (mark (c + 2)).toList) = true := by simp
      have hcall := fun (w' : World) (hb : Below wr.heap.size wr w') => HIH.out h' e _ txs lo (c + 3) w' (HAR.out.below hb) (by omega) hcx
      rw [mkS_length] at hcall c3
      have HCALL := Lib.hid hcall; clear hcall
      have hcast : ((c : Int) + 1 + 1) = ((c + 2 : Nat) : Int) := by omega
      go_wp2
      go_region_held3 (fun w' => w'.cell? ⟨b, o + j * 4 + 2, none⟩ = some (.string (mark (c + 2))) ∧ w'.cell? ⟨b, o + j * 4 + 3, none⟩ = some (.slice ua txs.length uc) ∧ Below wr.heap.size wr w')
        (first | exact ⟨cell_on (bel_drew (by assumption)) c2, cell_on (bel_drew (by assumption)) c3, bel_drew (by assumption)⟩ | exact ⟨c2, c3, Below.drew (Below.refl _ _)⟩ | go_keep)
        (first | (go_at_call 95; refine (markText_int _ (c + 2) _ (by omega) (by omega) (by omega)).mono ?_; rintro e w1 ⟨rfl, hb1⟩))
      have hb2 : Below wr.heap.size wr w1 := bel_drew hb1
      have HB2 := Lib.hid (HB.out.trans (hb2.mono HB.out.size))
      have d3 := cell_on hb2 c3
      have hcall := HCALL.out _ hb2
      have HCX := Lib.hid hcall; clear hcall hb2 hb1 hb0
      go_wp2_with fail
      first | rw [show ((c : Int) + 3) = ((c + 3 : Nat) : Int) by omega] | rw [show ((c : Int) + 2 + 1) = ((c + 3 : Nat) : Int) by omega] | rw [show ((c : Int) + 1 + 1 + 1) = ((c + 3 : Nat) : Int) by omega]
      refine HCX.out.mono ?_
      rintro e w2 ⟨rfl, hb3⟩
      have HB3 := Lib.hid (HB2.out.trans (hb3.mono HB2.out.size)); clear hb3
      have HC4 : Hid (c + 3 + 3 * cS txs = k + 3 * cS (ts.take (j + 1))) := Lib.hid (by have := HC.out; have := HCT.out; omega)
      have hpos : ¬ ((c + 3 + 3 * cS txs : Nat) : Int) < 0 := by omega
      go_wp2
      go_roundw
      case rel => exact ⟨j + 1, c + 3 + 3 * cS txs, by omega, by go_num, rfl, HC4, HB3⟩
      case measure => simp [intOf]; omega
    · have HD : Hid (c = k + 3 * cS ts) := Lib.hid (by
        have hjm : j = ts.length := by have := HM.out; omega
        rw [HC.out, hjm, List.take_length])
      go_wp2
      go_ret
      exact ⟨by rw [← HD.out]; rfl, HB.out⟩

theorem heldS_any (h : Nat) : HeldSAt h := by_height heldS_step h

set_option maxRecDepth 100000 in
set_option maxHeartbeats 800000 in
/-- laws.heldTerm, at a term over whose arguments the marks were written. -/
theorem heldT_any (kk nn : Int) (s : ByteArray) (u : Value) (xs : List T) (lo h k : Nat) (w : World) (ha : ArgsAt w lo h u (mkS k xs)) (hk : 1 ≤ k) (hkc : k + 3 * cS xs ≤ 2305843009213693952) :
    Calls Try.prog 36 #[tv kk nn s u, .int .i64 k] w (NumB ((k + 3 * cS xs : Nat) : Int) w) := by
  have hb0 := boxed_below w kk nn s u
  have hcall := heldS_any h u xs lo k _ (ha.below hb0) hk hkc
  obtain ⟨a, cap, rfl⟩ := ha.slice
  clear ha
  have HCALL := Lib.hid hcall; clear hcall
  have HB0 := Lib.hid hb0; clear hb0
  have hpos : ¬ ((k + 3 * cS xs : Nat) : Int) < 0 := by omega
  go_enter Try.func36, Try.ntmps36
  go_wp2_with fail
  refine HCALL.out.mono ?_
  rintro e w1 ⟨rfl, hb1⟩
  have HB1 := Lib.hid (HB0.out.trans (hb1.mono HB0.out.size)); clear hb1
  go_wp2
  go_ret
  exact ⟨rfl, HB1.out⟩
end Go.Proofs.Ytidbokheeieifaa
namespace Go.Proofs.Ytidbokheeieifaa
open Go.RowKit

/-- The arguments, to be read and owned. -/
structure OwnQ (w : World) (h lo hi : Nat) (u : Value) (xs : List T) : Prop where
  rd : ArgsAt w lo h u xs
  own : OwnX w h lo hi u xs
theorem OwnQ.slice {w : World} {h lo hi : Nat} {u : Value} {xs : List T} (q : OwnQ w h lo hi u xs) : ∃ a cap, u = .slice a xs.length cap := q.own.slice
/-- A term of a call's own, of whatever height. -/
def CopyX (r : T) (w : World) (e : Ending) (w' : World) : Prop :=
  ∃ H k n s u xs, e = .returned (tv k n s u) ∧ r = .node k n s xs ∧ s.size ≤ maxLen ∧ OwnQ w' H w.heap.size w'.heap.size u xs ∧ Below w.heap.size w w'
theorem ReadX.copy {r : T} {w : World} {e : Ending} {w' : World} (q : ReadX r w e w') : CopyX r w e w' := by
  obtain ⟨H, k, n, s, a, m, c, he, ht, hb, ho⟩ := q
  obtain ⟨k', n', s', u', xs, ev, er, hs, ha⟩ := ht
  simp only [tv, Value.agg.injEq, Array.mk.injEq, List.cons.injEq, Value.int.injEq, Value.string.injEq, and_true, true_and] at ev
  obtain ⟨rfl, rfl, rfl, rfl⟩ := ev
  have hx : kT r = xs := by rw [er]; rfl
  rw [hx] at ho
  exact ⟨H, k, n, s, _, xs, he, er, hs, ⟨ha, ho⟩, hb⟩
/-- In its box. -/
def TBoxX (lo b : Nat) (k n : Int) (s : ByteArray) (u : Value) (h : Nat) (xs : List T) (w : World) : Prop := TBox lo b k n s u h (.node k n s xs) w ∧ OwnX w h lo b u xs
theorem TBoxX.kept {lo b h : Nat} {k n : Int} {s : ByteArray} {u : Value} {xs : List T} {w : World} (x : TBoxX lo b k n s u h xs w) (hb : lo ≤ b) : Kept lo w.heap.size (TBoxX lo b k n s u h xs) w := by
  have hl := (Array.getElem?_eq_some_iff.1 x.1.1).1
  exact ⟨Nat.le_refl _, fun w' hs => ⟨(x.1.kept hb).2 w' hs, x.2.keep fun c c1 c2 => hs c c1 (by omega)⟩⟩
theorem tbox_ofX {w1 W1 : World} {lo h : Nat} {k n : Int} {s : ByteArray} {u : Value} {xs : List T} (hs : s.size ≤ maxLen) (ha : ArgsAt w1 lo h u xs) (ho : OwnX w1 h lo w1.heap.size u xs) (hW : W1 = boxed w1 k n s u) : TBoxX lo w1.heap.size k n s u h xs W1 := by
  have hb : Below w1.heap.size w1 W1 := by rw [hW]; exact boxed_below _ _ _ _ _
  exact ⟨⟨by rw [hW]; exact heap_new _ _ rfl, ⟨_, _, _, _, xs, rfl, rfl, hs, ha.below hb⟩⟩, ho.keep fun b _ b2 => hb.block b b2⟩
end Go.Proofs.Ytidbokheeieifaa
namespace Go.Proofs.Ytidbokheeieifaa
open Go.RowKit

set_option maxRecDepth 100000 in
set_option maxHeartbeats 3200000 in
theorem exRed_any (v0 : Value) (t0 : T) (h0 : Nat) (w : World) (ht0 : TermAt w 0 h0 v0 t0) :
    Calls Try.prog 6 #[v0] w (TrueI w) := by
  obtain ⟨k0, n0, s0, u0, rfl⟩ := ht0.form
  obtain ⟨WB, hWB⟩ : ∃ WB, WB = (w.alloc (.cells #[.int .i64 k0, .int .i64 n0, .string s0, u0] 41)) := ⟨_, rfl⟩
  have hb0 : Below w.heap.size w WB := by rw [hWB]; exact ((Below.refl _ _).alloc (by simp; try omega) _)
  have HB_0 := Lib.hid hb0
  have hzb := hb0.size
  have HA0_0 := Lib.hid (TArg.kept (⟨by rw [hWB]; exact heap_new _ _ (by simp), ht0.below hb0⟩ : TArg (w.heap.size) k0 n0 s0 u0 h0 t0 WB))
  clear hb0 ht0
  go_enter Try.func6, Try.ntmps6
  go_wp2_with fail
  rw [← hWB]
  clear hWB
  refine (szT_any _ t0 0 h0 1048576 _ HA0_0.out.now.2 (by omega) (by omega)).mono ?_
  rintro e wz0 ⟨r0, rfl, hb, hr0a, hr0⟩
  have HR0 := Lib.hid hr0; clear hr0
  have HA0_1 := Lib.hid (HA0_0.out.below hb)
  have HB_1 := Lib.hid (HB_0.out.trans (hb.mono HB_0.out.size))
  have hz0 := hb.size
  clear hb HB_0 HA0_0
  by_cases hr : r0 < 0
  · go_wp2
    go_ret
    exact ⟨rfl, HB_1.out⟩
  have HRN0 : Hid (0 ≤ r0) := Lib.hid (by omega)
  clear hr
  have hr00 : 0 ≤ r0 := HRN0.out
  have HW0 : Hid (wT t0 ≤ 1048576) := Lib.hid (by have q0 := HR0.out HRN0.out; omega)
  obtain ⟨r0, hr0⟩ : ∃ r0, r0 = redT t0 := ⟨_, rfl⟩
  have HCT : Hid (cT t0 ≤ 4294967296) := Lib.hid (by have h1 := cT_le t0; have h2 := HW0.out; omega)
  have HSP : Hid (∀ (v : Value) {lo : Nat} (w : World), TermAt w lo h0 v t0 → Calls Try.prog 14 #[v] w (ReadE r0 w)) := Lib.hid (fun v lo w h1 => by
    rw [hr0]; exact (sRed_any h0 v t0 lo w h1 HCT.out).mono fun _ _ q => CopyE.read ⟨_, q⟩)
  have HIM : Hid (∀ (v : Value) {lo : Nat} (w : World), TermAt w lo h0 v t0 → Calls Try.prog 12 #[v] w (CopyX r0 w)) := Lib.hid (fun v lo w h1 => by
    rw [hr0]; exact (iRed_own v t0 lo h0 w h1 HCT.out).mono fun _ _ q => q.copy)
  have HRW : Hid (cT r0 ≤ 2199023255552) := Lib.hid (by
    rw [hr0]
    have h1 := cT_red t0
    have h2 := HCT.out
    omega)
  clear hr0
  obtain ⟨c0, c1, c2, c3⟩ := cells_of4L HA0_1.out.now.1
  go_wp2_with fail
  refine (toT_any _ t0 0 h0 _ HA0_1.out.now.2 HW0.out).mono ?_
  rintro e wc2 ⟨V0, rfl, ht, hb⟩
  clear c0 c1 c2 c3
  have HA0_2 := Lib.hid (HA0_1.out.below hb)
  have HB_2 := Lib.hid (HB_1.out.trans (hb.mono HB_1.out.size))
  have hz1 := hb.size
  clear hb HB_1 HA0_1
  have HV0_2 := Lib.hid (ht.kept)
  clear ht
  go_wp2_with fail
  refine (HSP.out _ _ HV0_2.out.now).mono ?_
  rintro e wm ⟨Hw, kw, nw, sw, aaw, mmw, ccw, rfl, htr, hb⟩
  have HA0_3 := Lib.hid (HA0_2.out.below hb)
  have HV0_3 := Lib.hid (HV0_2.out.below hb)
  have HB_3 := Lib.hid (HB_2.out.trans (hb.mono HB_2.out.size))
  have hz2 := hb.size
  clear hb HB_2 HA0_2 HV0_2
  obtain ⟨W4, hW4⟩ : ∃ W4, W4 = boxed wm kw nw sw (.slice aaw mmw ccw) := ⟨_, rfl⟩
  have hbb : Below wm.heap.size wm W4 := by rw [hW4]; exact boxed_below _ _ _ _ _
  have hzz4 : W4.heap.size = wm.heap.size + 1 := by rw [hW4]; simp
  have hto := tread_of htr hW4
  have HA0_4 := Lib.hid (HA0_3.out.below hbb)
  have HV0_4 := Lib.hid (HV0_3.out.below hbb)
  have HB_4 := Lib.hid (HB_3.out.trans (hbb.mono HB_3.out.size))
  have hz3 := hbb.size
  clear hbb HB_3 HA0_3 HV0_3
  have HOw_4 := Lib.hid (hto.kept (by omega))
  clear hto htr
  unfold boxed at hW4
  clear HV0_4
  clear HSP
  obtain ⟨c0, c1, c2, c3⟩ := cells_of4L HA0_4.out.now.1
  rw [hW4] at c0 c1 c2 c3
  go_wp2_with fail
  rw [← hW4] at c0 c1 c2 c3 ⊢
  clear hW4
  refine (toT_own _ t0 0 h0 _ HA0_4.out.now.2 HW0.out).mono ?_
  rintro e wx0 ⟨kx0, nx0, sx0, ux0, xsx0, rfl, etx, hsx, ⟨hax, hox⟩, hb⟩
  obtain ⟨ax0, cx0, rfl⟩ := hax.slice
  obtain ⟨mx0, hmx⟩ : ∃ m, m = xsx0.length := ⟨_, rfl⟩
  rw [← hmx] at hax hox ⊢
  have HCX0 : Hid (cS xsx0 ≤ 1048576) := Lib.hid (by have hw := HW0.out; rw [etx, wT_node] at hw; have := cS_le xsx0; omega)
  clear c0 c1 c2 c3
  have HA0_5 := Lib.hid (HA0_4.out.below hb)
  have HOw_5 := Lib.hid (HOw_4.out.below hb)
  have HB_5 := Lib.hid (HB_4.out.trans (hb.mono HB_4.out.size))
  have hz4 := hb.size
  clear hb HB_4 HA0_4 HOw_4
  obtain ⟨W6, hW6⟩ : ∃ W6, W6 = boxed wx0 kx0 nx0 sx0 (.slice ax0 mx0 cx0) := ⟨_, rfl⟩
  have hbb : Below wx0.heap.size wx0 W6 := by rw [hW6]; exact boxed_below _ _ _ _ _
  have hzz6 : W6.heap.size = wx0.heap.size + 1 := by rw [hW6]; simp
  have hto := tbox_of hsx hax hox hW6
  have HA0_6 := Lib.hid (HA0_5.out.below hbb)
  have HOw_6 := Lib.hid (HOw_5.out.below hbb)
  have HB_6 := Lib.hid (HB_5.out.trans (hbb.mono HB_5.out.size))
  have hz5 := hbb.size
  clear hbb HB_5 HA0_5 HOw_5
  have HX0_6 := Lib.hid (hto.kept (by omega))
  have HEX0 : Hid (t0 = .node kx0 nx0 sx0 xsx0) := Lib.hid etx
  clear hto hax hox hsx etx hmx
  unfold boxed at hW6
  obtain ⟨p0x0, p0x1, p0x2, p0x3⟩ := cells_of4L HX0_6.out.now.1.1
  rw [hW6] at p0x0 p0x1 p0x2 p0x3
  go_wp2_with fail
  rw [← hW6] at p0x0 p0x1 p0x2 p0x3 ⊢
  clear hW6
  refine (HIM.out _ _ (by have h := HX0_6.out.now.1.2; rw [← HEX0.out] at h; exact h)).mono ?_
  rintro e wg ⟨Hg, kg, ng, sg, uug, xsg, rfl, eg, hsg, hog, hb⟩
  obtain ⟨aag, ccg, rfl⟩ := hog.slice
  obtain ⟨mmg, hmmg⟩ : ∃ m, m = xsg.length := ⟨_, rfl⟩
  rw [← hmmg] at hog ⊢
  have HCg : Hid (1 + 3 * cS xsg ≤ 1152921504606846976) := Lib.hid (by have h1 := HRW.out; rw [eg, cT_node] at h1; omega)
  have HA0_7 := Lib.hid (HA0_6.out.below hb)
  have HOw_7 := Lib.hid (HOw_6.out.below hb)
  have HX0_7 := Lib.hid (HX0_6.out.below hb)
  have HB_7 := Lib.hid (HB_6.out.trans (hb.mono HB_6.out.size))
  have hz6 := hb.size
  clear hb HB_6 HA0_6 HOw_6 HX0_6
  obtain ⟨W8, hW8⟩ : ∃ W8, W8 = boxed wg kg ng sg (.slice aag mmg ccg) := ⟨_, rfl⟩
  have hbb : Below wg.heap.size wg W8 := by rw [hW8]; exact boxed_below _ _ _ _ _
  have hzz8 : W8.heap.size = wg.heap.size + 1 := by rw [hW8]; simp
  have hto := tbox_ofX hsg hog.rd hog.own hW8
  have HA0_8 := Lib.hid (HA0_7.out.below hbb)
  have HOw_8 := Lib.hid (HOw_7.out.below hbb)
  have HX0_8 := Lib.hid (HX0_7.out.below hbb)
  have HB_8 := Lib.hid (HB_7.out.trans (hbb.mono HB_7.out.size))
  have hz7 := hbb.size
  clear hbb HB_7 HA0_7 HOw_7 HX0_7
  have HOg_8 := Lib.hid (hto.kept (by omega))
  have HEg := Lib.hid eg
  clear hto hsg hog eg hmmg
  unfold boxed at hW8
  clear p0x0 p0x1 p0x2 p0x3
  obtain ⟨y0, y1, y2, y3⟩ := cells_of4L HOg_8.out.now.1.1
  obtain ⟨z0, z1, z2, z3⟩ := cells_of4L HOw_8.out.now.1
  rw [hW8] at y0 y1 y2 y3 z0 z1 z2 z3
  go_wp2_with fail
  rw [← hW8] at y0 y1 y2 y3 z0 z1 z2 z3 ⊢
  clear hW8
  refine (eqT_two _ _ r0 _ _ _ _ _ (by have h := HOg_8.out.now.1.2; rw [← HEg.out] at h; exact h) HOw_8.out.now.2).mono ?_
  rintro e wa ⟨rfl, hb⟩
  clear y0 y1 y2 y3 z0 z1 z2 z3
  have HA0_9 := Lib.hid (HA0_8.out.below hb)
  have HOw_9 := Lib.hid (HOw_8.out.below hb)
  have HX0_9 := Lib.hid (HX0_8.out.below hb)
  have HOg_9 := Lib.hid (HOg_8.out.below hb)
  have HB_9 := Lib.hid (HB_8.out.trans (hb.mono HB_8.out.size))
  have hz8 := hb.size
  clear hb HB_8 HA0_8 HOw_8 HX0_8 HOg_8
  have HK : Hid (∀ w', Below wa.heap.size wa w' → (w'.cell? ⟨wx0.heap.size, 0, none⟩ = some (.int .i64 kx0) ∧ w'.cell? ⟨wx0.heap.size, 1, none⟩ = some (.int .i64 nx0) ∧ w'.cell? ⟨wx0.heap.size, 2, none⟩ = some (.string sx0) ∧ w'.cell? ⟨wx0.heap.size, 3, none⟩ = some (.slice ax0 mx0 cx0) ∧ w'.cell? ⟨w.heap.size, 0, none⟩ = some (.int .i64 k0) ∧ w'.cell? ⟨w.heap.size, 1, none⟩ = some (.int .i64 n0) ∧ w'.cell? ⟨w.heap.size, 2, none⟩ = some (.string s0) ∧ w'.cell? ⟨w.heap.size, 3, none⟩ = some (u0) ∧ Below wa.heap.size wa w')) := Lib.hid (fun w' hb => by
    obtain ⟨p0, p1, p2, p3⟩ := cells_of4L (HX0_9.out.below hb).now.1.1
    obtain ⟨b0, b1, b2, b3⟩ := cells_of4L (HA0_9.out.below hb).now.1
    exact ⟨p0, p1, p2, p3, b0, b1, b2, b3, hb⟩)
  obtain ⟨p0, p1, p2, p3, b0, b1, b2, b3, hb0⟩ := HK.out _ (Below.refl _ _)
  have HT5 : Hid (∀ w', Below wa.heap.size wa w' → TermAt w' 0 h0 (tv k0 n0 s0 u0) t0) := Lib.hid (fun w' hb => (HA0_9.out.below hb).now.2)
  have HX5 : Hid (∀ w', Below wa.heap.size wa w' → TermAt w' W4.heap.size h0 (tv kx0 nx0 sx0 (.slice ax0 mx0 cx0)) t0) := Lib.hid (fun w' hb => by have h := (HX0_9.out.below hb).now.1.2; rw [← HEX0.out] at h; exact h)
  go_wp2
  go_region_held3 (fun w' => w'.cell? ⟨wx0.heap.size, 0, none⟩ = some (.int .i64 kx0) ∧ w'.cell? ⟨wx0.heap.size, 1, none⟩ = some (.int .i64 nx0) ∧ w'.cell? ⟨wx0.heap.size, 2, none⟩ = some (.string sx0) ∧ w'.cell? ⟨wx0.heap.size, 3, none⟩ = some (.slice ax0 mx0 cx0) ∧ w'.cell? ⟨w.heap.size, 0, none⟩ = some (.int .i64 k0) ∧ w'.cell? ⟨w.heap.size, 1, none⟩ = some (.int .i64 n0) ∧ w'.cell? ⟨w.heap.size, 2, none⟩ = some (.string s0) ∧ w'.cell? ⟨w.heap.size, 3, none⟩ = some (u0) ∧ Below wa.heap.size wa w')
    (first | exact HK.out _ (by assumption) | exact HK.out _ (bel_drew (by assumption)) | exact HK.out _ (Below.drew (by assumption)) | exact HK.out _ (bel_two (bel_drew (by assumption)) (by assumption)) | go_keep)
    (first
      | (go_at_call 24; refine (toT_any _ t0 0 h0 _ (HT5.out _ (by first | assumption | exact Below.drew (by assumption))) HW0.out).mono ?_; rintro e we0 ⟨v3, rfl, ht9, hb9⟩)
      | (go_at_call 28; refine (eqT_any _ v3 t0 _ _ h0 _ (HX5.out _ (by first | assumption | exact bel_drew (by assumption) | exact Below.drew (by assumption))) (by first | exact ht9 | exact ht9.below (Below.drew (Below.refl _ _)))).mono ?_; rintro e wf0 ⟨rfl, hb10⟩))
  have hbq : Below wa.heap.size wa wf0 := bel_two (bel_drew hb9) hb10
  clear HX5 HT5 HK p0 p1 p2 p3 b0 b1 b2 b3 hb0 hb9 hb10 ht9
  have HA0_10 := Lib.hid (HA0_9.out.below hbq)
  have HOw_10 := Lib.hid (HOw_9.out.below hbq)
  have HX0_10 := Lib.hid (HX0_9.out.below hbq)
  have HOg_10 := Lib.hid (HOg_9.out.below hbq)
  have HB_10 := Lib.hid (HB_9.out.trans (hbq.mono HB_9.out.size))
  have hz9 := hbq.size
  clear hbq HB_9 HA0_9 HOw_9 HX0_9 HOg_9
  obtain ⟨p0, p1, p2, p3⟩ := cells_of4L HX0_10.out.now.1.1
  go_wp2_with fail
  refine (markPT_any kx0 nx0 sx0 _ xsx0 h0 W4.heap.size wx0.heap.size (1) _ HX0_10.out.now.2 (by omega) (by omega) (by have := HCX0.out; omega)).mono ?_
  rintro e wk0 ⟨⟨rfl, ho⟩, _⟩
  clear p0 p1 p2 p3
  clear HX0_10
  have HA0_11 := Lib.hid (HA0_10.out.out ho (by omega))
  have HOw_11 := Lib.hid (HOw_10.out.out ho (by omega))
  have HOg_11 := Lib.hid (HOg_10.out.out ho (by omega))
  have HB_11 := Lib.hid (HB_10.out.trans ((ho.under (B := w.heap.size) (by omega) (by omega))))
  have hz10 := ho.2.2.2.1
  clear HB_10 HA0_10 HOw_10 HOg_10
  clear ho
  have hpos : ¬ ((1 + 3 * cS xsx0 : Nat) : Int) < 0 := by omega
  obtain ⟨y0, y1, y2, y3⟩ := cells_of4L HOg_11.out.now.1.1
  obtain ⟨z0, z1, z2, z3⟩ := cells_of4L HOw_11.out.now.1
  go_wp2_with fail
  refine (eqT_two _ _ r0 _ _ _ _ _ (by have h := HOg_11.out.now.1.2; rw [← HEg.out] at h; exact h) HOw_11.out.now.2).mono ?_
  rintro e wb ⟨rfl, hb⟩
  clear y0 y1 y2 y3 z0 z1 z2 z3
  have HA0_12 := Lib.hid (HA0_11.out.below hb)
  have HOw_12 := Lib.hid (HOw_11.out.below hb)
  have HOg_12 := Lib.hid (HOg_11.out.below hb)
  have HB_12 := Lib.hid (HB_11.out.trans (hb.mono HB_11.out.size))
  have hz11 := hb.size
  clear hb HB_11 HA0_11 HOw_11 HOg_11
  obtain ⟨g0, g1, g2, g3⟩ := cells_of4L HOg_12.out.now.1.1
  go_wp2_with fail
  refine (markXT_any kg ng sg _ xsg Hg W6.heap.size wg.heap.size 1 _ HOg_12.out.now.2 (by omega) (by omega) (by have := HCg.out; omega)).mono ?_
  rintro e wgm ⟨⟨rfl, ho⟩, ha⟩
  clear g0 g1 g2 g3
  have hrow : wgm.heap[wg.heap.size]? = some (trow kg ng sg (.slice aag mmg ccg)) := (ho.2.2.2.2 _ (by omega) (Or.inr (Nat.le_refl _))).trans HOg_12.out.now.1.1
  clear HOg_12
  have HA0_13 := Lib.hid (HA0_12.out.out ho (by omega))
  have HOw_13 := Lib.hid (HOw_12.out.out ho (by omega))
  have HB_13 := Lib.hid (HB_12.out.trans ((ho.under (B := w.heap.size) (by omega) (by omega))))
  have hz12 := ho.2.2.2.1
  clear HB_12 HA0_12 HOw_12
  clear ho
  have HGM_13 := Lib.hid ((show Kept 0 wgm.heap.size (fun w' => w'.heap[wg.heap.size]? = some (trow kg ng sg (.slice aag mmg ccg)) ∧ ArgsAt w' 0 Hg (.slice aag mmg ccg) (mkS 1 xsg)) wgm from ⟨Nat.le_refl _, fun w' hs => ⟨(hs _ (Nat.zero_le _) (Array.getElem?_eq_some_iff.1 hrow).1).trans hrow, (ha.args (fun _ _ => Nat.zero_le _)).same hs⟩⟩))
  clear ha hrow
  obtain ⟨g0, g1, g2, g3⟩ := cells_of4L HGM_13.out.now.1
  go_wp2_with fail
  refine (heldT_any kg ng sg _ xsg 0 Hg 1 _ HGM_13.out.now.2 (by omega) (by have := HCg.out; omega)).mono ?_
  rintro e wh1 ⟨rfl, hb⟩
  clear g0 g1 g2 g3
  have HA0_14 := Lib.hid (HA0_13.out.below hb)
  have HOw_14 := Lib.hid (HOw_13.out.below hb)
  have HGM_14 := Lib.hid (HGM_13.out.below hb)
  have HB_14 := Lib.hid (HB_13.out.trans (hb.mono HB_13.out.size))
  have hz13 := hb.size
  clear hb HB_13 HA0_13 HOw_13 HGM_13
  have hpos2 : ¬ ((1 + 3 * cS xsg : Nat) : Int) < 0 := by omega
  have heq2 : (((1 + 3 * cS xsg : Nat) : Int) != ((1 + 3 * cS xsg : Nat) : Int)) = false := by simp
  obtain ⟨c0, c1, c2, c3⟩ := cells_of4L HA0_14.out.now.1
  go_wp2_with fail
  refine (toT_any _ t0 0 h0 _ HA0_14.out.now.2 HW0.out).mono ?_
  rintro e wc15 ⟨Z0, rfl, ht, hb⟩
  clear c0 c1 c2 c3
  have HA0_15 := Lib.hid (HA0_14.out.below hb)
  have HOw_15 := Lib.hid (HOw_14.out.below hb)
  have HGM_15 := Lib.hid (HGM_14.out.below hb)
  have HB_15 := Lib.hid (HB_14.out.trans (hb.mono HB_14.out.size))
  have hz14 := hb.size
  clear hb HB_14 HA0_14 HOw_14 HGM_14
  have HZ0_15 := Lib.hid (ht.kept)
  clear ht
  go_wp2_with fail
  refine (HIM.out _ _ HZ0_15.out.now).mono ?_
  rintro e wh2 ⟨Hh, kh, nh, sh, uuh, xsh, rfl, eh, hsh, hoh, hb⟩
  obtain ⟨aah, cch, rfl⟩ := hoh.slice
  obtain ⟨mmh, hmmh⟩ : ∃ m, m = xsh.length := ⟨_, rfl⟩
  rw [← hmmh] at hoh ⊢
  have HCh : Hid (1 + 3 * cS xsh ≤ 1152921504606846976) := Lib.hid (by have h1 := HRW.out; rw [eh, cT_node] at h1; omega)
  have HA0_16 := Lib.hid (HA0_15.out.below hb)
  have HOw_16 := Lib.hid (HOw_15.out.below hb)
  have HGM_16 := Lib.hid (HGM_15.out.below hb)
  have HZ0_16 := Lib.hid (HZ0_15.out.below hb)
  have HB_16 := Lib.hid (HB_15.out.trans (hb.mono HB_15.out.size))
  have hz15 := hb.size
  clear hb HB_15 HA0_15 HOw_15 HGM_15 HZ0_15
  obtain ⟨W17, hW17⟩ : ∃ W17, W17 = boxed wh2 kh nh sh (.slice aah mmh cch) := ⟨_, rfl⟩
  have hbb : Below wh2.heap.size wh2 W17 := by rw [hW17]; exact boxed_below _ _ _ _ _
  have hzz17 : W17.heap.size = wh2.heap.size + 1 := by rw [hW17]; simp
  have hto := tbox_ofX hsh hoh.rd hoh.own hW17
  have HA0_17 := Lib.hid (HA0_16.out.below hbb)
  have HOw_17 := Lib.hid (HOw_16.out.below hbb)
  have HGM_17 := Lib.hid (HGM_16.out.below hbb)
  have HZ0_17 := Lib.hid (HZ0_16.out.below hbb)
  have HB_17 := Lib.hid (HB_16.out.trans (hbb.mono HB_16.out.size))
  have hz16 := hbb.size
  clear hbb HB_16 HA0_16 HOw_16 HGM_16 HZ0_16
  have HOh_17 := Lib.hid (hto.kept (by omega))
  have HEh := Lib.hid eh
  clear hto hsh hoh eh hmmh
  unfold boxed at hW17
  clear HZ0_17
  obtain ⟨y0, y1, y2, y3⟩ := cells_of4L HOh_17.out.now.1.1
  obtain ⟨z0, z1, z2, z3⟩ := cells_of4L HOw_17.out.now.1
  rw [hW17] at y0 y1 y2 y3 z0 z1 z2 z3
  go_wp2_with fail
  rw [← hW17] at y0 y1 y2 y3 z0 z1 z2 z3 ⊢
  clear hW17
  refine (eqT_two _ _ r0 _ _ _ _ _ (by have h := HOh_17.out.now.1.2; rw [← HEh.out] at h; exact h) HOw_17.out.now.2).mono ?_
  rintro e wh3 ⟨rfl, hb⟩
  clear y0 y1 y2 y3 z0 z1 z2 z3
  have HA0_18 := Lib.hid (HA0_17.out.below hb)
  have HOw_18 := Lib.hid (HOw_17.out.below hb)
  have HGM_18 := Lib.hid (HGM_17.out.below hb)
  have HOh_18 := Lib.hid (HOh_17.out.below hb)
  have HB_18 := Lib.hid (HB_17.out.trans (hb.mono HB_17.out.size))
  have hz17 := hb.size
  clear hb HB_17 HA0_17 HOw_17 HGM_17 HOh_17
  clear HOh_18
  clear HOw_18
  obtain ⟨g0, g1, g2, g3⟩ := cells_of4L HGM_18.out.now.1
  go_wp2_with fail
  refine (heldT_any kg ng sg _ xsg 0 Hg 1 _ HGM_18.out.now.2 (by omega) (by have := HCg.out; omega)).mono ?_
  rintro e wh4 ⟨rfl, hb⟩
  clear g0 g1 g2 g3
  have HA0_19 := Lib.hid (HA0_18.out.below hb)
  have HGM_19 := Lib.hid (HGM_18.out.below hb)
  have HB_19 := Lib.hid (HB_18.out.trans (hb.mono HB_18.out.size))
  have hz18 := hb.size
  clear hb HB_18 HA0_18 HGM_18
  go_wp2
  go_ret
  exact ⟨rfl, HB_19.out⟩
end Go.Proofs.Ytidbokheeieifaa
namespace Go.Proofs.Ytidbokheeieifaa
open Go.RowKit Go.ChangeShapes Go.WideShapes

theorem cLT : Try.prog.cellsOf 41 = 4 := by kernel_rfl
theorem cStr' : Try.prog.cellsOf 9 = 1 := by kernel_rfl
theorem cInt' : Try.prog.cellsOf 3 = 1 := by kernel_rfl
theorem cLS : Try.prog.cellsOf 39 = 1 := by kernel_rfl

theorem cells4 {W : World} {a : Addr} {cs : List Value} (h : W.cells? 0 a 4 = some cs) : ∃ v0 v1 v2 v3, cs = [v0, v1, v2, v3] ∧ W.cell? (a.add 0) = some v0 ∧ W.cell? (a.add 1) = some v1 ∧ W.cell? (a.add 2) = some v2 ∧ W.cell? (a.add 3) = some v3 := by
  unfold World.cells? at h
  rw [if_pos (Nat.zero_le _)] at h
  have e : List.range 4 = [0, 1, 2, 3] := rfl
  rw [e] at h
  simp only [List.mapM_cons, List.mapM_nil, Option.bind_eq_bind, Option.pure_def, Option.bind_eq_some_iff] at h
  obtain ⟨v0, h0, r0, ⟨v1, h1, r1, ⟨v2, h2, r2, ⟨v3, h3, r3, e3, e2⟩, e1⟩, e0⟩, ee⟩ := h
  simp at e3 e2 e1 e0 ee
  subst e3; subst e2; subst e1; subst e0; subst ee
  exact ⟨v0, v1, v2, v3, rfl, h0, h1, h2, h3⟩

theorem bound_all (f : Nat → Nat) (n : Nat) : ∃ m, ∀ i, i < n → f i ≤ m := by
  induction n with
  | zero => exact ⟨0, fun i hi => by omega⟩
  | succ n ih =>
    obtain ⟨m, hm⟩ := ih
    refine ⟨max m (f n), fun i hi => ?_⟩
    by_cases e : i = n
    · subst e; omega
    · have := hm i (by omega); omega

section
variable {H : Type} {enc : TypeId × Value → H} {W : World} {spare : Nat → Bool} {held : Bool}

theorem spot_add {a : Addr} {i : Nat} {v : Value} (h : W.cell? (a.add i) = some v) (hs : a.spot = none) : W.cell? ⟨a.block, a.off + i, none⟩ = some v := by
  obtain ⟨b, o, sp⟩ := a
  simp at hs; subst hs
  have e : (⟨b, o, none⟩ : Addr).add i = ⟨b, o + i, none⟩ := by
    unfold Addr.add
    split
    · rename_i h; subst h; rfl
    · rfl
  rw [e] at h
  exact h

set_option maxRecDepth 100000 in
/-- The reading of a struct of a term and of a slice of such. -/
theorem term_of_trod : ∀ fuel : Nat,
    (∀ (cs : List Value) (x : DataW H × List MemPlace), DataW.trod enc Try.prog W 0 spare held fuel 41 cs = some x → ∃ k n s u xs h, cs = [.int .i64 k, .int .i64 n, .string s, u] ∧ s.size ≤ maxLen ∧ ArgsAt W 0 h u xs) ∧
    (∀ (cs : List Value) (x : DataW H × List MemPlace), DataW.trod enc Try.prog W 0 spare held fuel 39 cs = some x → ∃ u xs h, cs = [u] ∧ ArgsAt W 0 h u xs) := by
  intro fuel
  induction fuel with
  | zero => exact ⟨fun cs x h => by simp [DataW.trod] at h, fun cs x h => by simp [DataW.trod] at h⟩
  | succ f ih =>
    obtain ⟨ih1, ih2⟩ := ih
    refine ⟨fun cs x h => ?_, fun cs x h => ?_⟩
    · obtain ⟨xs, n, hn, _, hl, hlen, hf⟩ := DataW.trod_struct Try.underlying41 h
      obtain rfl : f = n := by omega
      rw [cLT] at hl
      match cs, hl with
      | [v0, v1, v2, v3], _ =>
        have h0 : DataW.trod enc Try.prog W 0 spare held f 3 (([v0, v1, v2, v3].drop 0).take (Try.prog.cellsOf 3)) = xs[0]? := hf 0 _ rfl
        have h1 : DataW.trod enc Try.prog W 0 spare held f 3 (([v0, v1, v2, v3].drop 1).take (Try.prog.cellsOf 3)) = xs[1]? := hf 1 _ rfl
        have h2 : DataW.trod enc Try.prog W 0 spare held f 9 (([v0, v1, v2, v3].drop 2).take (Try.prog.cellsOf 9)) = xs[2]? := hf 2 _ rfl
        have h3 : DataW.trod enc Try.prog W 0 spare held f 39 (([v0, v1, v2, v3].drop 3).take (Try.prog.cellsOf 39)) = xs[3]? := hf 3 _ rfl
        have hl4 : xs.length = 4 := hlen
        rw [cInt'] at h0 h1
        rw [cStr'] at h2
        rw [cLS] at h3
        obtain ⟨y0, e0⟩ : ∃ y, xs[0]? = some y := ⟨_, List.getElem?_eq_getElem (by omega)⟩
        obtain ⟨y1, e1⟩ : ∃ y, xs[1]? = some y := ⟨_, List.getElem?_eq_getElem (by omega)⟩
        obtain ⟨y2, e2⟩ : ∃ y, xs[2]? = some y := ⟨_, List.getElem?_eq_getElem (by omega)⟩
        obtain ⟨y3, e3⟩ : ∃ y, xs[3]? = some y := ⟨_, List.getElem?_eq_getElem (by omega)⟩
        rw [e0] at h0; rw [e1] at h1; rw [e2] at h2; rw [e3] at h3
        (try simp at h0); (try simp at h1); (try simp at h2); (try simp at h3)
        obtain ⟨k, hk, _⟩ := DataW.trod_int Try.underlying3 h0
        obtain ⟨n, hn, _⟩ := DataW.trod_int Try.underlying3 h1
        obtain ⟨s, hs, _, hsz⟩ := DataW.trod_string Try.underlying9 h2
        obtain ⟨u, ts, hgt, hu, ha⟩ := ih2 _ _ h3
        simp at hk hn hs hu
        subst hk; subst hn; subst hs; subst hu
        exact ⟨k, n, s, _, ts, hgt, rfl, hsz, ha⟩
    · rcases DataW.trod_slice Try.underlying39 h with ⟨rfl, _⟩ | ⟨a, len, cap, elems, rest, n, hn, rfl, _, _, hlc, hcm, hlen, hel, _, _⟩
      · exact ⟨_, [], 0, rfl, ArgsAt.nil W 0 0 none 0⟩
      · obtain rfl : f = n := by omega
        have each : ∀ i, i < len → ∃ k n s u xs h, W.cells? 0 (a.add (i * 4)) 4 = some [.int .i64 k, .int .i64 n, .string s, u] ∧ s.size ≤ maxLen ∧ ArgsAt W 0 h u xs := by
          intro i hi
          have h1 := hel i hi
          rw [cLT] at h1
          obtain ⟨y, hy⟩ : ∃ y, elems[i]? = some y := ⟨_, List.getElem?_eq_getElem (by omega)⟩
          rw [hy, Option.bind_eq_some_iff] at h1
          obtain ⟨cs, hcs, ht⟩ := h1
          obtain ⟨k, n, s, u, xs, h, rfl, hsz, ha⟩ := ih1 cs _ ht
          exact ⟨k, n, s, u, xs, h, hcs, hsz, ha⟩
        by_cases h0 : len = 0
        · subst h0
          exact ⟨_, [], 0, rfl, ArgsAt.nil W 0 0 (some a) cap⟩
        · -- the elements, chosen once
          have hch : ∃ (K N : Nat → Int) (S : Nat → ByteArray) (U : Nat → Value) (X : Nat → List T) (Hh : Nat → Nat), ∀ i, i < len → W.cells? 0 (a.add (i * 4)) 4 = some [.int .i64 (K i), .int .i64 (N i), .string (S i), U i] ∧ (S i).size ≤ maxLen ∧ ArgsAt W 0 (Hh i) (U i) (X i) := by
            have hc2 : ∀ i, ∃ (k n : Int) (s : ByteArray) (u : Value) (xs : List T) (h : Nat), i < len → W.cells? 0 (a.add (i * 4)) 4 = some [.int .i64 k, .int .i64 n, .string s, u] ∧ s.size ≤ maxLen ∧ ArgsAt W 0 h u xs := by
              intro i
              by_cases hi : i < len
              · obtain ⟨k, n, s, u, xs, h, q⟩ := each i hi
                exact ⟨k, n, s, u, xs, h, fun _ => q⟩
              · exact ⟨0, 0, ByteArray.empty, .slice none 0 0, [], 0, fun h => absurd h hi⟩
            exact ⟨fun i => (hc2 i).choose, fun i => (hc2 i).choose_spec.choose, fun i => (hc2 i).choose_spec.choose_spec.choose, fun i => (hc2 i).choose_spec.choose_spec.choose_spec.choose,
              fun i => (hc2 i).choose_spec.choose_spec.choose_spec.choose_spec.choose, fun i => (hc2 i).choose_spec.choose_spec.choose_spec.choose_spec.choose_spec.choose, fun i hi => (hc2 i).choose_spec.choose_spec.choose_spec.choose_spec.choose_spec.choose_spec hi⟩
          obtain ⟨K, N, S, U, X, Hh, hall⟩ := hch
          -- one height for all
          have hmax := bound_all Hh len
          obtain ⟨hm, hle⟩ := hmax
          have hspot : a.spot = none := by
            obtain ⟨v0, _, _, _, _, c0, _⟩ := cells4 (hall 0 (by omega)).1
            have := World.cell?_spot c0
            obtain ⟨b, o, sp⟩ := a
            simpa [Addr.add] using this
          refine ⟨_, (List.range len).map fun i => T.node (K i) (N i) (S i) (X i), hm + 1, rfl, some a, cap, by simp, by simp; omega, Or.inr ⟨a.block, a.off, ?_, Nat.zero_le _, fun i k n s xs hi => ?_⟩⟩
          · obtain ⟨b, o, sp⟩ := a
            simp at hspot; subst hspot; rfl
          · have hil : i < len := by have := (List.getElem?_eq_some_iff.1 hi).1; simpa using this
            simp [hil] at hi
            obtain ⟨rfl, rfl, rfl, rfl⟩ := hi
            obtain ⟨hcs, hsz, ha⟩ := hall i hil
            obtain ⟨v0, v1, v2, v3, e, c0, c1, c2, c3⟩ := cells4 hcs
            simp at e
            obtain ⟨rfl, rfl, rfl, rfl⟩ := e
            have sp : (a.add (i * 4)).spot = none := by
              obtain ⟨b, o, sp⟩ := a
              simp at hspot; subst hspot
              unfold Addr.add
              split <;> rfl
            have eb : (a.add (i * 4)).block = a.block ∧ (a.add (i * 4)).off = a.off + i * 4 := by
              obtain ⟨b, o, sp⟩ := a
              simp at hspot; subst hspot
              unfold Addr.add
              split
              · rename_i h; rw [h]; exact ⟨rfl, rfl⟩
              · exact ⟨rfl, rfl⟩
            have d0 := spot_add c0 sp
            have d1 := spot_add c1 sp
            have d2 := spot_add c2 sp
            have d3 := spot_add c3 sp
            rw [eb.1, eb.2] at d0 d1 d2 d3
            exact ⟨hsz, _, d0, d1, d2, d3, ha.le (hle i hil)⟩
end

set_option maxRecDepth 100000 in
/-- A term that came in. -/
theorem term_came {H : Type} {enc : TypeId × Value → H} {W : World} {base : Nat} {v : Value} {d : DataW H} {p : List MemPlace} (hv : Value.okWide Try.prog W .any base 41 v)
    (h : DataW.Trod enc Try.prog W 0 (fun _ => true) true 41 v d p) : ∃ g t, TermAt W 0 g v t := by
  obtain ⟨cs, rfl, hsz⟩ := okWide_struct Try.underlying41 hv
  obtain ⟨fuel, hf⟩ := h
  obtain ⟨k, n, s, u, xs, g, e, hs, ha⟩ := (term_of_trod fuel).1 _ _ hf
  have ec : cs = #[.int .i64 k, .int .i64 n, .string s, u] := by
    have : cs.toList = [.int .i64 k, .int .i64 n, .string s, u] := e
    rw [← Array.toArray_toList (xs := cs), this]
  subst ec
  exact ⟨g, _, k, n, s, u, xs, rfl, rfl, hs, ha⟩
end Go.Proofs.Ytidbokheeieifaa
