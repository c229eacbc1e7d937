/-
  The law on replaced subterms answers true at every draw: its walk.
-/
import Derived.Test.YtooiiomfahomjaaDrawRepW
import Derived.Test.YtooiiomfahomjaaRepI
import Derived.Test.YtooiiomfahomjaaTermEqS
import Derived.Test.YtooiiomfahomjaaBig
namespace Go.Proofs.Ytooiiomfahomjaa
open Go.RowKit

/-- A term in a box. -/
def Bx (w : World) (b : Nat) (k n : Int) (s : ByteArray) (a : Option Addr) (m c : Nat) (t : T) : Prop := w.heap[b]? = some (trow k n s (.slice a m c)) ∧ ∃ h, TermAt w 0 h (tv k n s (.slice a m c)) t
theorem Bx.below {w w' : World} {b : Nat} {k n : Int} {s : ByteArray} {a : Option Addr} {m c : Nat} {t : T} (h : Bx w b k n s a m c t) (hb : Below w.heap.size w w') : Bx w' b k n s a m c t := by
  obtain ⟨h1, hh, h2⟩ := h
  exact ⟨(hb.block _ (Array.getElem?_eq_some_iff.1 h1).1).trans h1, hh, h2.below hb⟩
theorem Bx.at {w : World} {b : Nat} {k n : Int} {s : ByteArray} {a : Option Addr} {m c : Nat} {t : T} (h : Bx w b k n s a m c t) : TermAt w 0 h.2.choose (tv k n s (.slice a m c)) t := h.2.choose_spec
theorem Bx.cells {w : World} {b : Nat} {k n : Int} {s : ByteArray} {a : Option Addr} {m c : Nat} {t : T} (h : Bx w b k n s a m c t) : w.cell? ⟨b, 0, none⟩ = some (.int .i64 k) ∧ w.cell? ⟨b, 1, none⟩ = some (.int .i64 n) ∧ w.cell? ⟨b, 2, none⟩ = some (.string s) ∧ w.cell? ⟨b, 3, none⟩ = some (.slice a m c) := (cells_of4 h.1).1
theorem bx_new {w W : World} {lo h : Nat} {k n : Int} {s : ByteArray} {a : Option Addr} {m c : Nat} {t : T} (hW : W = boxed w k n s (.slice a m c)) (ht : TermAt w lo h (tv k n s (.slice a m c)) t) : Bx W w.heap.size k n s a m c t := by
  rw [hW]; exact ⟨heap_new _ _ rfl, h, (ht.low (Nat.zero_le _)).below (boxed_below _ _ _ _ _)⟩
theorem bel_new {w0 w W : World} {k n : Int} {s : ByteArray} {u : Value} (hW : W = boxed w k n s u) (hb : Below w0.heap.size w0 w) : Below w0.heap.size w0 W := by
  rw [hW]; exact bel_two hb (boxed_below _ _ _ _ _)
theorem bx_two {w W : World} {lo lo2 h h2 : Nat} {k n : Int} {s : ByteArray} {a : Option Addr} {m c : Nat} {t : T} {k2 n2 : Int} {s2 : ByteArray} {a2 : Option Addr} {m2 c2 : Nat} {u : T} (hW : W = boxed2 w k n s (.slice a m c) k2 n2 s2 (.slice a2 m2 c2))
    (ht : TermAt w lo h (tv k n s (.slice a m c)) t) (hu : TermAt w lo2 h2 (tv k2 n2 s2 (.slice a2 m2 c2)) u) : Bx W w.heap.size k n s a m c t ∧ Bx W (w.heap.size + 1) k2 n2 s2 a2 m2 c2 u ∧ Below w.heap.size w W := by
  have hb := boxed2_below w k n s (.slice a m c) k2 n2 s2 (.slice a2 m2 c2)
  rw [hW]
  exact ⟨⟨heap_mid _ _ _ rfl, h, (ht.low (Nat.zero_le _)).below hb⟩, ⟨heap_new _ _ (by simp), h2, (hu.low (Nat.zero_le _)).below hb⟩, hb⟩
theorem resO_T {ok : Bool} {r : T} {w : World} {e : Ending} {w' : World} (q : ResO ok r w e w') : ResT ok r w e w' := by
  obtain ⟨k, n, s, a, m, c, hh, xs, e1, e2, hs, ho, hb⟩ := q
  exact ⟨k, n, s, a, m, c, hh, e1, ⟨_, _, _, _, xs, rfl, e2, hs, ho.args (Nat.le_refl _)⟩, hb⟩


set_option maxRecDepth 100000 in
set_option maxHeartbeats 3200000 in
theorem positions_any (a : Option Addr) (len cap : Nat) (w : World) (hcode : len ≤ 1048576 → CodeAt w w.heap.size (.slice a len cap) len) :
    Calls Try.prog 3 #[.slice a len cap] w (TrueAt w) := by
  have HC := Lib.hid hcode; clear hcode
  by_cases hbig : 1048576 < len
  · have hd : decide (1048576 < len) = true := by simpa using hbig
    have HK := Lib.hid (big_any a len cap w)
    rw [hd] at HK
    go_enter Try.func3, Try.ntmps3
    go_wp2_with fail
    refine HK.out.mono ?_
    rintro e w1 ⟨rfl, rfl⟩
    go_wp2
    go_ret
    exact ⟨rfl, Below.refl _ _⟩
  have hd : decide (1048576 < len) = false := by simpa using hbig
  have HK := Lib.hid (big_any a len cap w)
  rw [hd] at HK
  have HC1 := Lib.hid (HC.out (by omega))
  go_enter Try.func3, Try.ntmps3
  go_wp2_with fail
  refine HK.out.mono ?_
  rintro e w0 ⟨rfl, rfl⟩
  go_wp2_with fail
  refine (drawRep_any _ len _ HC1.out).mono ?_
  rintro e w1 ⟨kt, nt, st, at', mt, ct, ku, nu, su, au, mu, cu, t, u, ht, hu, pv, ps, rfl, htt, hut, hwt, hwu, hps, hpl, hb1⟩
  obtain ⟨pa, pc, rfl⟩ := hps.slice
  obtain ⟨pm, hpm⟩ : ∃ pm, pm = ps.length := ⟨_, rfl⟩
  rw [← hpm] at hps ⊢
  obtain ⟨W1, hW1⟩ : ∃ W1, W1 = boxed2 w1 kt nt st (.slice at' mt ct) ku nu su (.slice au mu cu) := ⟨_, rfl⟩
  obtain ⟨hT, hU, hbw⟩ := bx_two hW1 htt hut
  have HT := Lib.hid hT
  have HU := Lib.hid hU
  have HP : Hid (IntsAt W1 (.slice pa pm pc) ps) := Lib.hid (hps.below hbw)
  have HB := Lib.hid (hb1.trans (hbw.mono hb1.size))
  have HL : Hid (ps.length ≤ 4194304) := Lib.hid (by omega)
  have HWT : Hid (wT t ≤ 1048576) := Lib.hid (by omega)
  have HWU : Hid (wT u ≤ 1048576) := Lib.hid (by omega)
  have HWS : Hid (wT t ≤ 1000 ∧ wT u ≤ 1000) := Lib.hid ⟨hwt, hwu⟩
  clear htt hut hps hb1 hbw hT hU hpm hwt hwu hpl HC1 HC
  have HIR : Hid (∀ (v p x : Value) (y : T) (lo lo2 h h2 : Nat) (w : World), TermAt w lo h v t → IntsAt w p ps → TermAt w lo2 h2 x y → wT y ≤ 1048576 → Calls Try.prog 7 #[v, p, x] w (ResT (subT ps t).isSome (repT ps t y) w)) :=
    Lib.hid (fun v p x y lo lo2 h h2 w h1 h3 h4 h5 => (iRep_any v p x t y ps lo lo2 h h2 w h1 h3 h4 HWT.out h5 HL.out).mono fun e w2 q => resO_T q)
  have HSR : Hid (∀ (v p x : Value) (lo lo2 h h2 : Nat) (w : World), TermAt w lo h v t → IntsAt w p ps → TermAt w lo2 h2 x u → Calls Try.prog 8 #[v, p, x] w (ResT (subT ps t).isSome (repT ps t u) w)) :=
    Lib.hid (fun v p x lo lo2 h h2 w h1 h3 h4 => sRep_any v p x t u ps lo lo2 h h2 w h1 h3 h4 HWT.out HWU.out HL.out)
  have HIA : Hid (∀ (v p : Value) (y : T) (lo h : Nat) (w : World), TermAt w lo h v y → IntsAt w p ps → wT y ≤ 4194303 → Calls Try.prog 10 #[v, p] w (ResT (subT ps y).isSome ((subT ps y).getD zT) w)) :=
    Lib.hid (fun v p y lo h w h1 h3 h5 => (iAt_any v p y ps lo h w h1 h3 h5 HL.out).mono fun e w2 q => resO_T q)
  have HEQ : Hid (∀ (v v' : Value) (y : T) (lo lo' h h' : Nat) (w : World), TermAt w lo h v y → TermAt w lo' h' v' y → wT y ≤ 1048576 → Calls Try.prog 9 #[v, v'] w (AnsB true w)) :=
    Lib.hid (fun v v' y lo lo' h h' w h1 h2 h3 => (sSame_any lo lo' h v v' y y w h' h1 h2 h3).mono fun e w2 q => by
      obtain ⟨b, hb, hq⟩ := q
      have : b = true := hq.2 rfl
      rw [this] at hb; exact hb)
  obtain ⟨r0, hr0⟩ : ∃ r0, r0 = repT ps t u := ⟨_, rfl⟩
  have HRW : Hid (wT r0 ≤ 1048576) := Lib.hid (by
    rw [hr0]
    unfold repT
    cases e : subT ps t with
    | none => simp; have := HWT.out; omega
    | some x => simp; have := putT_w ps t u x e; have := HWS.out; omega)
  have HRU : Hid (∀ (v p x : Value) (lo lo2 h h2 : Nat) (w : World), TermAt w lo h v t → IntsAt w p ps → TermAt w lo2 h2 x u → Calls Try.prog 7 #[v, p, x] w (ResT (subT ps t).isSome r0 w)) :=
    Lib.hid (fun v p x lo lo2 h h2 w h1 h3 h4 => by rw [hr0]; exact HIR.out v p x u lo lo2 h h2 w h1 h3 h4 HWU.out)
  rw [← hr0] at HSR
  have HR0 := Lib.hid hr0; clear hr0

  unfold boxed2 boxed at hW1
  go_wp2_with fail
  rw [← hW1]
  clear hW1
  refine (HRU.out _ _ _ _ _ _ _ _ HT.out.at HP.out HU.out.at).mono ?_
  rintro e w2 ⟨k2, n2, s2, a2, m2, c2, h2, rfl, ht2, hb2⟩
  obtain ⟨W2, hW2⟩ : ∃ W, W = boxed w2 k2 n2 s2 (.slice a2 m2 c2) := ⟨_, rfl⟩
  have hbn := bel_new hW2 hb2
  have HO := Lib.hid (bx_new hW2 ht2)
  have HT2 := Lib.hid (HT.out.below hbn)
  have HU2 := Lib.hid (HU.out.below hbn)
  have HP2 := Lib.hid (HP.out.below hbn)
  have HB2 := Lib.hid (HB.out.trans (hbn.mono HB.out.size))
  clear hbn ht2 hb2
  obtain ⟨x0, x1, x2, x3⟩ := HT2.out.cells
  obtain ⟨y0, y1, y2, y3⟩ := HU2.out.cells
  unfold boxed at hW2
  rw [hW2] at x0 x1 x2 x3 y0 y1 y2 y3
  go_wp2_with fail
  rw [← hW2] at x0 x1 x2 x3 y0 y1 y2 y3 ⊢
  clear hW2 x0 x1 x2 x3 y0 y1 y2 y3
  refine (HSR.out _ _ _ _ _ _ _ _ HT2.out.at HP2.out HU2.out.at).mono ?_
  rintro e w3 ⟨k3, n3, s3, a3, m3, c3, h3, rfl, ht3, hb3⟩
  obtain ⟨W3, hW3⟩ : ∃ W, W = boxed w3 k3 n3 s3 (.slice a3 m3 c3) := ⟨_, rfl⟩
  have hbn := bel_new hW3 hb3
  have HN := Lib.hid (bx_new hW3 ht3)
  have HT3 := Lib.hid (HT2.out.below hbn)
  have HU3 := Lib.hid (HU2.out.below hbn)
  have HP3 := Lib.hid (HP2.out.below hbn)
  have HO3 := Lib.hid (HO.out.below hbn)
  have HB3 := Lib.hid (HB2.out.trans (hbn.mono HB2.out.size))
  clear hbn ht3 hb3
  cases hsub : subT ps t with
  | none =>
    have HS := Lib.hid hsub
    have hr1 : r0 = t := by rw [HR0.out]; unfold repT; rw [hsub]; rfl
    subst hr1
    clear hsub
    have hbb : (false != false) = false := rfl
    simp only [HS.out, Option.isSome_none] at HRU HSR HIR ⊢
    obtain ⟨x0, x1, x2, x3⟩ := HO3.out.cells
    unfold boxed at hW3
    rw [hW3] at x0 x1 x2 x3
    go_wp2_with fail
    rw [← hW3] at x0 x1 x2 x3 ⊢
    clear hW3 x0 x1 x2 x3
    refine (HEQ.out _ _ r0 _ _ _ _ _ HO3.out.at HN.out.at HRW.out).mono ?_
    rintro e w4 ⟨rfl, hb4⟩
    have HT4 := Lib.hid (HT3.out.below hb4)
    have HP4 := Lib.hid (HP3.out.below hb4)
    have HO4 := Lib.hid (HO3.out.below hb4)
    have HB4 := Lib.hid (HB3.out.trans (hb4.mono HB3.out.size))
    clear hb4
    obtain ⟨x0, x1, x2, x3⟩ := HT4.out.cells
    go_wp2_with fail
    clear x0 x1 x2 x3
    have hia := HIA.out (tv kt nt st (.slice at' mt ct)) (.slice pa pm pc) r0 _ _ _ HT4.out.at HP4.out (by have := HWT.out; omega)
    rw [HS.out] at hia
    refine (hia).mono ?_
    rintro e w5 ⟨k5, n5, s5, a5, m5, c5, h5, rfl, ht5, hb5⟩
    obtain ⟨W5, hW5⟩ : ∃ W, W = boxed w5 k5 n5 s5 (.slice a5 m5 c5) := ⟨_, rfl⟩
    have hbn := bel_new hW5 hb5
    have HZ := Lib.hid (bx_new hW5 ht5)
    have HT5 := Lib.hid (HT4.out.below hbn)
    have HO5 := Lib.hid (HO4.out.below hbn)
    have HB5 := Lib.hid (HB4.out.trans (hbn.mono HB4.out.size))
    clear hbn ht5 hb5
    clear hia
    obtain ⟨x0, x1, x2, x3⟩ := HO5.out.cells
    obtain ⟨y0, y1, y2, y3⟩ := HT5.out.cells
    unfold boxed at hW5
    rw [hW5] at x0 x1 x2 x3 y0 y1 y2 y3
    go_wp2_with fail
    rw [← hW5] at x0 x1 x2 x3 y0 y1 y2 y3 ⊢
    clear hW5 x0 x1 x2 x3 y0 y1 y2 y3
    refine (HEQ.out _ _ r0 _ _ _ _ _ HO5.out.at HT5.out.at HRW.out).mono ?_
    rintro e w6 ⟨rfl, hb6⟩
    have HB6 := Lib.hid (HB5.out.trans (hb6.mono HB5.out.size))
    clear hb6
    go_wp2
    go_ret
    exact ⟨rfl, HB6.out⟩
  | some z =>
    have HS := Lib.hid hsub
    have HS2 : Hid (subT ps r0 = some u ∧ wT z ≤ 1048576 ∧ repT ps t z = t) := Lib.hid (by
      rw [HR0.out]
      refine ⟨?_, Nat.le_trans (subT_w ps t z hsub) HWT.out, ?_⟩
      · unfold repT; rw [hsub]; exact subT_put ps t z u hsub
      · unfold repT; rw [hsub]; exact putT_self ps t z hsub)
    clear hsub
    simp only [HS.out, Option.isSome_some] at HRU HSR HIR ⊢
    obtain ⟨x0, x1, x2, x3⟩ := HO3.out.cells
    unfold boxed at hW3
    rw [hW3] at x0 x1 x2 x3
    go_wp2_with fail
    rw [← hW3] at x0 x1 x2 x3 ⊢
    clear hW3 x0 x1 x2 x3
    refine (HEQ.out _ _ r0 _ _ _ _ _ HO3.out.at HN.out.at HRW.out).mono ?_
    rintro e w4 ⟨rfl, hb4⟩
    have HT4 := Lib.hid (HT3.out.below hb4)
    have HU4 := Lib.hid (HU3.out.below hb4)
    have HP4 := Lib.hid (HP3.out.below hb4)
    have HO4 := Lib.hid (HO3.out.below hb4)
    have HB4 := Lib.hid (HB3.out.trans (hb4.mono HB3.out.size))
    clear hb4
    obtain ⟨x0, x1, x2, x3⟩ := HO4.out.cells
    go_wp2_with fail
    clear x0 x1 x2 x3
    have hia := HIA.out (tv k2 n2 s2 (.slice a2 m2 c2)) (.slice pa pm pc) r0 _ _ _ HO4.out.at HP4.out (by have := HRW.out; omega)
    rw [HS2.out.1] at hia
    refine (hia).mono ?_
    rintro e w5 ⟨k5, n5, s5, a5, m5, c5, h5, rfl, ht5, hb5⟩
    obtain ⟨W5, hW5⟩ : ∃ W, W = boxed w5 k5 n5 s5 (.slice a5 m5 c5) := ⟨_, rfl⟩
    have hbn := bel_new hW5 hb5
    have HX := Lib.hid (bx_new hW5 ht5)
    have HT5 := Lib.hid (HT4.out.below hbn)
    have HU5 := Lib.hid (HU4.out.below hbn)
    have HP5 := Lib.hid (HP4.out.below hbn)
    have HB5 := Lib.hid (HB4.out.trans (hbn.mono HB4.out.size))
    clear hbn ht5 hb5
    clear hia
    obtain ⟨x0, x1, x2, x3⟩ := HT5.out.cells
    unfold boxed at hW5
    rw [hW5] at x0 x1 x2 x3
    go_wp2_with fail
    rw [← hW5] at x0 x1 x2 x3 ⊢
    clear hW5 x0 x1 x2 x3
    have hia := HIA.out (tv kt nt st (.slice at' mt ct)) (.slice pa pm pc) t _ _ _ HT5.out.at HP5.out (by have := HWT.out; omega)
    rw [HS.out] at hia
    refine (hia).mono ?_
    rintro e w6 ⟨k6, n6, s6, a6, m6, c6, h6, rfl, ht6, hb6⟩
    obtain ⟨W6, hW6⟩ : ∃ W, W = boxed w6 k6 n6 s6 (.slice a6 m6 c6) := ⟨_, rfl⟩
    have hbn := bel_new hW6 hb6
    have HZ := Lib.hid (bx_new hW6 ht6)
    have HT6 := Lib.hid (HT5.out.below hbn)
    have HU6 := Lib.hid (HU5.out.below hbn)
    have HP6 := Lib.hid (HP5.out.below hbn)
    have HX6 := Lib.hid (HX.out.below hbn)
    have HB6 := Lib.hid (HB5.out.trans (hbn.mono HB5.out.size))
    clear hbn ht6 hb6
    clear hia
    obtain ⟨x0, x1, x2, x3⟩ := HT6.out.cells
    unfold boxed at hW6
    rw [hW6] at x0 x1 x2 x3
    go_wp2_with fail
    rw [← hW6] at x0 x1 x2 x3 ⊢
    clear hW6 x0 x1 x2 x3
    have hia := HIR.out (tv kt nt st (.slice at' mt ct)) (.slice pa pm pc) (tv k6 n6 s6 (.slice a6 m6 c6)) z _ _ _ _ _ HT6.out.at HP6.out HZ.out.at HS2.out.2.1
    rw [HS2.out.2.2] at hia
    refine (hia).mono ?_
    rintro e w7 ⟨k7, n7, s7, a7, m7, c7, h7, rfl, ht7, hb7⟩
    obtain ⟨W7, hW7⟩ : ∃ W, W = boxed w7 k7 n7 s7 (.slice a7 m7 c7) := ⟨_, rfl⟩
    have hbn := bel_new hW7 hb7
    have HY := Lib.hid (bx_new hW7 ht7)
    have HT7 := Lib.hid (HT6.out.below hbn)
    have HU7 := Lib.hid (HU6.out.below hbn)
    have HX7 := Lib.hid (HX6.out.below hbn)
    have HB7 := Lib.hid (HB6.out.trans (hbn.mono HB6.out.size))
    clear hbn ht7 hb7
    clear hia
    obtain ⟨x0, x1, x2, x3⟩ := HX7.out.cells
    obtain ⟨y0, y1, y2, y3⟩ := HU7.out.cells
    unfold boxed at hW7
    rw [hW7] at x0 x1 x2 x3 y0 y1 y2 y3
    go_wp2_with fail
    rw [← hW7] at x0 x1 x2 x3 y0 y1 y2 y3 ⊢
    clear hW7 x0 x1 x2 x3 y0 y1 y2 y3
    refine (HEQ.out _ _ u _ _ _ _ _ HX7.out.at HU7.out.at HWU.out).mono ?_
    rintro e w8 ⟨rfl, hb8⟩
    have HT8 := Lib.hid (HT7.out.below hb8)
    have HY8 := Lib.hid (HY.out.below hb8)
    have HB8 := Lib.hid (HB7.out.trans (hb8.mono HB7.out.size))
    clear hb8
    obtain ⟨x0, x1, x2, x3⟩ := HT8.out.cells
    obtain ⟨y0, y1, y2, y3⟩ := HY8.out.cells
    go_wp2_with fail
    clear x0 x1 x2 x3 y0 y1 y2 y3
    refine (HEQ.out _ _ t _ _ _ _ _ HY8.out.at HT8.out.at HWT.out).mono ?_
    rintro e w9 ⟨rfl, hb9⟩
    have HB9 := Lib.hid (HB8.out.trans (hb9.mono HB8.out.size))
    clear hb9
    go_wp2
    go_ret
    exact ⟨rfl, HB9.out⟩
end Go.Proofs.Ytooiiomfahomjaa
