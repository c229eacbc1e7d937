/-
  The law on texts answers true at every draw: its walk.
  A slice of bytes that came in, as the draws take it.
  What the library's table of powers of ten holds when the call begins.
  What the listed package-level variables hold when the call begins, and one start in which they do.
-/
import Derived.Test.YtooiiomfahomjaaGreatDoorQ22
import Derived.Test.YtooiiomfahomjaaGreatDoorQ28
import Derived.Test.YtooiiomfahomjaaGreatDoorQ31
import Derived.Test.YtooiiomfahomjaaGreatDoorQ32
import Derived.Test.YtooiiomfahomjaaGreatDoorQ24
import Derived.Test.YtooiiomfahomjaaGreatDoorQ12
import Derived.Test.YtooiiomfahomjaaGreatDoorQ13
import Derived.Deep.CutBlock
import Derived.ProofKit
import Derived.SizedLaws
import Derived.LaidMore
import Derived.OpenShut
import Derived.Stop.Joined
import Derived.Stop.LaidErr
import Derived.LaidHandle
import Derived.MakeChecks
namespace Go.Proofs.YtooiiomfahomjaaGreatDoor
open Go.RowKit

theorem bel_twoT {w a b : World} (h : Below w.heap.size w a) (k : Below a.heap.size a b) : Below w.heap.size w b := h.trans (k.mono h.size)

/-- What a parsing gives, of the program or of its model. -/
def PRes (L : List UInt8) (w : World) (e : Ending) (w' : World) : Prop :=
  ∃ k n nm a m c q t h, e = .returned (.tuple #[tv k n nm (.slice a m c), .bool q]) ∧ TermAt w' 0 h (tv k n nm (.slice a m c)) t ∧ wT t ≤ 4000 ∧ (q = true → ValidT t ∧ textL t = L ∧ L.length ≤ 600) ∧ (q = false → 600 < L.length ∨ ∀ t, ValidT t → textL t ≠ L) ∧ Below w.heap.size w w'
theorem pRes_no {L : List UInt8} {w w' : World} (h : 600 < L.length ∨ ∀ t, ValidT t → textL t ≠ L) (hb : Below w.heap.size w w') : PRes L w (.returned (.tuple #[tv 0 0 ByteArray.empty (.slice none 0 0), .bool false])) w' :=
  ⟨0, 0, ByteArray.empty, none, 0, 0, false, .node 0 0 ByteArray.empty [], 0, rfl, ⟨0, 0, ByteArray.empty, _, [], rfl, rfl, Nat.zero_le _, rfl, _, _, rfl⟩, by rw [wT_node]; simp [wS], fun e => (by cases e), fun _ => h, hb⟩
theorem pRes_i {L : List UInt8} {w w' : World} {e : Ending} (h : ParseEnd L w e w') : PRes L w e w' := by
  obtain ⟨hb, ⟨t, k, n, nm, a, m, c, xs, H, rfl, rfl, hv, hw, hnm, ho⟩ | ⟨rfl, hno⟩⟩ := h
  · exact ⟨k, n, nm, a, m, c, true, _, H, rfl, ⟨k, n, nm, _, xs, rfl, rfl, hnm, ho.args (Nat.zero_le _)⟩, hw, fun _ => hv, fun e => (by cases e), hb⟩
  · exact pRes_no hno hb
theorem pRes_s {L : List UInt8} {w w' : World} {e : Ending} (h : ParseSEnd L w e w') : PRes L w e w' := by
  obtain ⟨hb, ⟨k, n, nm, a, c, xs, H, rfl, hv, hw, hnm, ho⟩ | ⟨rfl, hno⟩⟩ := h
  · exact ⟨k, n, nm, a, xs.length, c, true, _, H, rfl, ⟨k, n, nm, _, xs, rfl, rfl, hnm, ho.args (Nat.zero_le _)⟩, hw, fun _ => hv, fun e => (by cases e), hb⟩
  · exact pRes_no hno hb

set_option maxRecDepth 100000 in
set_option maxHeartbeats 3200000 in
theorem textLaw_any (a : Option Addr) (len cap : Nat) (w : World) (hcode : len ≤ 1048576 → CodeAt w w.heap.size (.slice a len cap) len) (ht : TabsAt w) :
    Calls Tryz.prog 3 #[.slice a len cap] w (TrueAt w) := by
  have HC := Lib.hid hcode; clear hcode
  have HT := Lib.hid ht; clear ht
  by_cases hbig : 1048576 < len
  · have hd : decide (1048576 < len) = true := by simpa using hbig
    have HK := Lib.hid (big_any a len cap w)
    rw [hd] at HK
    go_enter Tryz.func3, Tryz.ntmps3
    go_wp2_with fail
    refine HK.out.mono ?_
    rintro e w1 ⟨rfl, rfl⟩
    go_wp2
    go_ret
    exact ⟨rfl, Below.refl _ _⟩
  have hd : decide (1048576 < len) = false := by simpa using hbig
  have HK := Lib.hid (big_any a len cap w)
  rw [hd] at HK
  have HC1 := Lib.hid (HC.out (by omega))
  clear hbig hd HC
  go_enter Tryz.func3, Tryz.ntmps3
  go_wp2_with fail
  refine HK.out.mono ?_
  rintro e w0 ⟨rfl, rfl⟩
  clear HK
  go_wp2_with fail
  refine (drawFmt_any _ len _ HC1.out).mono ?_
  rintro e w1 ⟨k, n, nm, ta, m, c, t, h, rfl, ht1, hw, hb1⟩
  have HW : Hid (wT t ≤ 1048576) := Lib.hid (by omega)
  obtain ⟨W1, hW1⟩ : ∃ W1, W1 = boxed w1 k n nm (.slice ta m c) := ⟨_, rfl⟩
  have hbb : Below w1.heap.size w1 W1 := by rw [hW1]; exact boxed_below _ _ _ _ _
  have HB1 := Lib.hid (bel_twoT hb1 hbb)
  have HTA := Lib.hid (ht1.below hbb)
  have HK1 : Hid (∀ w', Below W1.heap.size W1 w' → w'.cell? ⟨w1.heap.size, 0, none⟩ = some (.int .i64 k) ∧ w'.cell? ⟨w1.heap.size, 1, none⟩ = some (.int .i64 n) ∧ w'.cell? ⟨w1.heap.size, 2, none⟩ = some (.string nm) ∧ w'.cell? ⟨w1.heap.size, 3, none⟩ = some (.slice ta m c)) := Lib.hid (fun w' hb => boxed_cells (by rw [← hW1]; exact hb))
  have HT1 := Lib.hid (HT.out.below HB1.out HT.out.low)
  clear hw hb1 hbb ht1
  unfold boxed at hW1
  go_wp2_with fail
  rw [← hW1]
  clear hW1
  refine (iFmtT_any _ t _ h W1 HTA.out HW.out HT1.out.1 HT1.out.low).mono ?_
  rintro e w2 ⟨rfl, hb2⟩
  have HB2 := Lib.hid hb2
  have HT2 := Lib.hid (HT1.out.below hb2 HT1.out.low)
  clear hb2
  have hfs := fmtT_size t
  obtain ⟨ft, hft⟩ : ∃ ft, ft = fmtT t := ⟨_, rfl⟩
  rw [← hft] at hfs ⊢
  have HFT := Lib.hid hft
  clear hft
  go_wp2_with fail
  refine ((parseI_any ft w2 (by omega) HT2.out).mono fun _ _ h => pRes_i h).mono ?_
  rintro e w3 ⟨kx, nx, sx, ax, mx, cx, q, x, hx, rfl, htx, hwx, hyes, hno, hb3⟩
  obtain ⟨W3, hW3⟩ : ∃ W3, W3 = boxed w3 kx nx sx (.slice ax mx cx) := ⟨_, rfl⟩
  have hbb : Below w3.heap.size w3 W3 := by rw [hW3]; exact boxed_below _ _ _ _ _
  have HB3 := Lib.hid (bel_twoT HB2.out (bel_twoT hb3 hbb))
  have HTX := Lib.hid (htx.below hbb)
  have HWX : Hid (wT x ≤ 1048576) := Lib.hid (by omega)
  have HK3 : Hid (∀ w', Below W3.heap.size W3 w' → w'.cell? ⟨w3.heap.size, 0, none⟩ = some (.int .i64 kx) ∧ w'.cell? ⟨w3.heap.size, 1, none⟩ = some (.int .i64 nx) ∧ w'.cell? ⟨w3.heap.size, 2, none⟩ = some (.string sx) ∧ w'.cell? ⟨w3.heap.size, 3, none⟩ = some (.slice ax mx cx)) := Lib.hid (fun w' hb => boxed_cells (by rw [← hW3]; exact hb))
  have HQ := Lib.hid (And.intro hyes hno)
  clear hyes hno hb3 hbb htx hwx
  unfold boxed at hW3
  go_upto_region 6 with fail
  rw [← hW3]
  clear hW3
  go_cut [52] (fun c wc => c = .bool false ∧ Hid (Below w.heap.size w wc))
  case first =>
    have HSF : Hid (∀ w', Below W3.heap.size W3 w' → Calls Tryz.prog 8 #[tv k n nm (.slice ta m c)] w' (fun e w2 => e = .returned (.string ft) ∧ Below w'.heap.size w' w2)) := Lib.hid (fun w' hb => by
      rw [HFT.out]; exact sFmtT_any _ t _ h w' (HTA.out.below (bel_twoT HB3.out hb)) HW.out)
    have HCL : Hid (∀ w', Below W3.heap.size W3 w' → (w'.cell? ⟨w1.heap.size, 0, none⟩ = some (.int .i64 k) ∧ w'.cell? ⟨w1.heap.size, 1, none⟩ = some (.int .i64 n) ∧ w'.cell? ⟨w1.heap.size, 2, none⟩ = some (.string nm) ∧ w'.cell? ⟨w1.heap.size, 3, none⟩ = some (.slice ta m c)) ∧
        (w'.cell? ⟨w3.heap.size, 0, none⟩ = some (.int .i64 kx) ∧ w'.cell? ⟨w3.heap.size, 1, none⟩ = some (.int .i64 nx) ∧ w'.cell? ⟨w3.heap.size, 2, none⟩ = some (.string sx) ∧ w'.cell? ⟨w3.heap.size, 3, none⟩ = some (.slice ax mx cx)) ∧ Below w.heap.size w w') := Lib.hid (fun w' hb => ⟨HK1.out _ (bel_twoT HB3.out hb), HK3.out _ hb, bel_twoT (bel_twoT HB1.out HB3.out) hb⟩)
    obtain ⟨⟨c0, c1, c2, c3⟩, _⟩ := HCL.out _ (Below.refl _ _)
    have hff : (!(ft.toList == ft.toList)) = false := by simp
    by_cases hv : ValidT t
    · have hL : ft.data.toList = textL t := by rw [HFT.out, fmtT_ok hv, strT_list]
      have h0 : ft.size ≠ 0 := fun e => by
        have h1 := empty_text hv
        rw [← hL] at h1
        exact h1 (List.eq_nil_of_length_eq_zero (by simpa using e))
      obtain ⟨hne, hne2⟩ := some_byte ft h0
      have hlen : ft.data.toList.length = ft.size := by simp
      have HVV : Hid (∀ w', Below W3.heap.size W3 w' → Calls Tryz.prog 9 #[tv k n nm (.slice ta m c)] w' (fun e w2 => e = .returned (.bool true) ∧ Below w'.heap.size w' w2)) := Lib.hid (fun w' hb =>
        (sValid_any _ t _ h w' (HTA.out.below (bel_twoT HB3.out hb)) HW.out).mono fun e w2 ⟨b, h1, h2, h3⟩ => ⟨by cases b with | false => have := h2.2 hv; simp at this | true => exact h1, h3⟩)
      by_cases hl : ft.size ≤ 600
      · have hq : q = true := by
          cases q with
          | true => rfl
          | false =>
            rcases HQ.out.2 rfl with h1 | h1
            · rw [hlen] at h1; omega
            · exact absurd hL.symm (h1 t hv)
        have hxt : x = t := by
          have h1 := HQ.out.1 hq
          exact text_inj h1.1.2.2 hv.2.2 (by rw [h1.2.1, hL])
        have HEQ : Hid (∀ w', Below W3.heap.size W3 w' → Calls Tryz.prog 10 #[tv kx nx sx (.slice ax mx cx), tv k n nm (.slice ta m c)] w' (fun e w2 => e = .returned (.bool true) ∧ Below w'.heap.size w' w2)) := Lib.hid (fun w' hb =>
          (sSame_any _ _ _ _ _ x t w' h (HTX.out.below hb) (HTA.out.below (bel_twoT HB3.out hb)) HWX.out).mono fun e w2 ⟨b, ⟨h1, h3⟩, h2⟩ => ⟨by cases b with | false => have := h2.2 hxt; simp at this | true => exact h1, h3⟩)
        subst hq
        clear HFT hfs HQ hv hL h0 hlen hxt
        go_wp2_with fail
        refine (HSF.out _ (Below.refl _ _)).mono ?_
        rintro e w4 ⟨rfl, hb4⟩
        obtain ⟨⟨e0, e1, e2, e3⟩, _⟩ := HCL.out _ hb4
        clear c0 c1 c2 c3
        go_wp2_with fail
        refine (HVV.out _ hb4).mono ?_
        rintro e w5 ⟨rfl, hb5⟩
        have hb45 := bel_twoT hb4 hb5
        obtain ⟨⟨c0, c1, c2, c3⟩, ⟨d0, d1, d2, d3⟩, _⟩ := HCL.out _ hb45
        clear e0 e1 e2 e3 hb4 hb5
        go_wp2_with fail
        refine (HEQ.out _ hb45).mono ?_
        rintro e w6 ⟨rfl, hb6⟩
        have HEND := Lib.hid (HCL.out _ (bel_twoT hb45 hb6)).2.2
        clear hb45 hb6 c0 c1 c2 c3 d0 d1 d2 d3
        go_wp2
        go_meet
        exact ⟨rfl, HEND⟩
      · have hl6 : decide ((ft.size : Int) ≤ 600) = false := by rw [decide_eq_false_iff_not]; omega
        clear HFT hfs HQ hv hL h0 hlen hl
        go_wp2_with fail
        refine (HSF.out _ (Below.refl _ _)).mono ?_
        rintro e w4 ⟨rfl, hb4⟩
        obtain ⟨⟨e0, e1, e2, e3⟩, _⟩ := HCL.out _ hb4
        clear c0 c1 c2 c3
        go_wp2_with fail
        refine (HVV.out _ hb4).mono ?_
        rintro e w5 ⟨rfl, hb5⟩
        have HEND := Lib.hid (HCL.out _ (bel_twoT hb4 hb5)).2.2
        clear hb4 hb5 e0 e1 e2 e3
        go_wp2
        go_meet
        exact ⟨rfl, HEND⟩
    · have hfe : ft = ⟨#[]⟩ := by rw [HFT.out, fmtT_no hv]; rfl
      have hq : q = false := by
        cases q with
        | true => exact absurd (by rw [hfe] at HQ; exact (HQ.out.1 rfl).2.1) (empty_text (HQ.out.1 rfl).1)
        | false => rfl
      have HVV : Hid (∀ w', Below W3.heap.size W3 w' → Calls Tryz.prog 9 #[tv k n nm (.slice ta m c)] w' (fun e w2 => e = .returned (.bool false) ∧ Below w'.heap.size w' w2)) := Lib.hid (fun w' hb =>
        (sValid_any _ t _ h w' (HTA.out.below (bel_twoT HB3.out hb)) HW.out).mono fun e w2 ⟨b, h1, h2, h3⟩ => ⟨by cases b with | true => exact absurd (h2.1 rfl) hv | false => exact h1, h3⟩)
      subst hq
      clear HFT hfs HQ hv hff
      subst hfe
      go_wp2_with fail
      refine (HSF.out _ (Below.refl _ _)).mono ?_
      rintro e w4 ⟨rfl, hb4⟩
      obtain ⟨⟨e0, e1, e2, e3⟩, _⟩ := HCL.out _ hb4
      clear c0 c1 c2 c3
      go_wp2_with fail
      refine (HVV.out _ hb4).mono ?_
      rintro e w5 ⟨rfl, hb5⟩
      have HEND := Lib.hid (HCL.out _ (bel_twoT hb4 hb5)).2.2
      clear hb4 hb5 e0 e1 e2 e3
      go_wp2
      go_meet
      exact ⟨rfl, HEND⟩
  obtain ⟨rfl, HBC⟩ := hcut
  clear HTX HWX HK3 HQ HFT HTA HW HK1 HB1 HT1 HB2 HT2 HB3
  have HCC := Lib.hid (HC1.out.below HBC.out)
  go_wp2_with fail
  refine (drawTx_any _ len _ HCC.out).mono ?_
  rintro e w5 ⟨u, rfl, hus, hb5⟩
  have HB5 := Lib.hid (bel_twoT HBC.out hb5)
  have HT5 := Lib.hid (HT.out.below HB5.out HT.out.low)
  clear hb5
  go_wp2_with fail
  refine ((parseI_any u w5 (by omega) HT5.out).mono fun _ _ h => pRes_i h).mono ?_
  rintro e w6 ⟨ky, ny, sy, ay, my, cy, fine, y, hy, rfl, hty, hwy, hyes, hno, hb6⟩
  obtain ⟨W6, hW6⟩ : ∃ W6, W6 = boxed w6 ky ny sy (.slice ay my cy) := ⟨_, rfl⟩
  have hbb : Below w6.heap.size w6 W6 := by rw [hW6]; exact boxed_below _ _ _ _ _
  have HB6 := Lib.hid (bel_twoT HB5.out (bel_twoT hb6 hbb))
  have HTY := Lib.hid (hty.below hbb)
  have HWY : Hid (wT y ≤ 1048576) := Lib.hid (by omega)
  have HK6 : Hid (∀ w', Below W6.heap.size W6 w' → w'.cell? ⟨w6.heap.size, 0, none⟩ = some (.int .i64 ky) ∧ w'.cell? ⟨w6.heap.size, 1, none⟩ = some (.int .i64 ny) ∧ w'.cell? ⟨w6.heap.size, 2, none⟩ = some (.string sy) ∧ w'.cell? ⟨w6.heap.size, 3, none⟩ = some (.slice ay my cy)) := Lib.hid (fun w' hb => boxed_cells (by rw [← hW6]; exact hb))
  have HQ := Lib.hid (And.intro hyes hno)
  clear hyes hno hb6 hbb hty hwy
  unfold boxed at hW6
  go_wp2_with fail
  rw [← hW6]
  clear hW6
  refine ((sParse_any u W6 (by omega)).mono fun _ _ h => pRes_s h).mono ?_
  rintro e w7 ⟨kz, nz, sz, az, mz, cz, want, z, hz, rfl, _, _, hyes, hno, hb7⟩
  have hfw : want = fine := by
    cases want with
    | true =>
      cases fine with
      | true => rfl
      | false =>
        have h1 := hyes rfl
        rcases HQ.out.2 rfl with h2 | h2
        · omega
        · exact absurd h1.2.1 (h2 z h1.1)
    | false =>
      cases fine with
      | false => rfl
      | true =>
        have h1 := HQ.out.1 rfl
        rcases hno rfl with h2 | h2
        · omega
        · exact absurd h1.2.1 (h2 y h1.1)
  subst hfw
  obtain ⟨W7, hW7⟩ : ∃ W7, W7 = boxed w7 kz nz sz (.slice az mz cz) := ⟨_, rfl⟩
  have hbb : Below w7.heap.size w7 W7 := by rw [hW7]; exact boxed_below _ _ _ _ _
  have hb77 := bel_twoT hb7 hbb
  have HB7 := Lib.hid (bel_twoT HB6.out hb77)
  obtain ⟨d0, d1, d2, d3⟩ := HK6.out _ hb77
  have HTY7 := Lib.hid (HTY.out.below hb77)
  clear hyes hno hb7 hbb hb77
  unfold boxed at hW7
  rw [hW7] at d0 d1 d2 d3
  cases want with
  | false =>
    go_wp2
    rw [← hW7]
    go_ret
    exact ⟨rfl, HB7.out⟩
  | true =>
    obtain ⟨hvy, hly, _⟩ := HQ.out.1 rfl
    have hfu : fmtT y = u := by rw [fmtT_ok hvy]; unfold strT; rw [hly, mk_data]
    have HT7 := Lib.hid (HT.out.below HB7.out HT.out.low)
    have huu : (u.toList == u.toList) = true := by simp
    clear hvy hly HQ
    go_wp2_with fail
    rw [← hW7] at d0 d1 d2 d3 ⊢
    clear hW7
    refine (iFmtT_any _ y _ hy W7 HTY7.out HWY.out HT7.out.1 HT7.out.low).mono ?_
    rintro e w8 ⟨rfl, hb8⟩
    have HB8 := Lib.hid (bel_twoT HB7.out hb8)
    rw [hfu]
    clear hb8 d0 d1 d2 d3 hfu
    go_wp2
    go_ret
    exact ⟨rfl, HB8.out⟩
end Go.Proofs.YtooiiomfahomjaaGreatDoor
namespace Go.Proofs.YtooiiomfahomjaaGreatDoor
open Go.RowKit Go.ChangeShapes Go.WideShapes

theorem cByte : Tryz.prog.cellsOf 5 = 1 := by kernel_rfl
theorem codeAt_nil (W : World) (c : Nat) : CodeAt W W.heap.size (.slice none 0 c) 0 := ⟨by decide, none, c, rfl, Or.inl rfl⟩
theorem codeAt_of_open {W : World} {a : Addr} {len cap : Nat} {zs : List Int} (hl : len ≤ zs.length) (hlen : len ≤ 1048576)
    (hcell : ∀ i, i < zs.length → W.cell? (a.add i) = some (.int .u8 (zs.getD i 0))) (hwf : ∀ n ∈ zs, (Lit.int .u8 n).wf = true) : CodeAt W W.heap.size (.slice (some a) len cap) len := by
  refine ⟨hlen, some a, cap, rfl, ?_⟩
  by_cases h0 : len = 0
  · exact Or.inl h0
  · right
    have h := hcell 0 (by omega)
    have hs := World.cell?_spot h
    have hlt := World.block_lt_of_cell? W _ h
    obtain ⟨b, o, sp⟩ := a
    have hsp : sp = none := by simpa [Addr.add] using hs
    subst hsp
    refine ⟨b, o, rfl, by simpa [Addr.add] using hlt, fun j hj => ?_⟩
    have hx := hcell j (by omega)
    have e : (⟨b, o, none⟩ : Addr).add j = ⟨b, o + j, none⟩ := by
      unfold Addr.add
      split
      · rename_i h; subst h; rfl
      · rfl
    rw [e] at hx
    have hw := hwf (zs.getD j 0) (by
      have hj2 : j < zs.length := by omega
      simp only [List.getD_eq_getElem?_getD, List.getElem?_eq_getElem hj2, Option.getD_some]
      exact List.getElem_mem _)
    have hb : 0 ≤ zs.getD j 0 ∧ zs.getD j 0 ≤ 255 := by simpa [Lit.wf, IntKind.min, IntKind.max, IntKind.signed, IntKind.bits] using hw
    exact ⟨_, hb.1, hb.2, hx⟩
end Go.Proofs.YtooiiomfahomjaaGreatDoor
namespace Go.Proofs.YtooiiomfahomjaaGreatDoor
open Go.ChangeShapes Go.WideShapes Go.RowKit

theorem own : ownKnob Tryz.prog.godebug = none := by kernel_rfl
theorem tPow : (Tryz.prog.globals[0]?).map (·.type) = some 109 := by kernel_rfl
theorem cU64 : Tryz.prog.cellsOf 99 = 1 := by kernel_rfl
theorem cPow : Tryz.prog.cellsOf 109 = 20 := by kernel_rfl
theorem powData : (Rows.laid_internal_strconv_uint64pow10 : DataW Unit) = Lib.tabData .u64 Lib.pow10Tab := by kernel_rfl

/-- From the three tables' list. -/
theorem pow_of_laid {W : World} {r : List (String × DataW Unit)} (h : laidMet Tryz.prog ((powName, Rows.laid_internal_strconv_uint64pow10) :: r) W) : PowTab W := by
  rw [powData] at h
  exact Lib.tabIs_of_head gPow tPow Tryz.underlying109 Tryz.underlying99 cU64 cPow h

theorem PowTab.low {W : World} (h : PowTab W) : 0 < W.heap.size := by
  have h1 := World.var?_cell gPow h 0
  have h2 : ((Lib.pow10Tab.map fun z => Value.int .u64 z).toArray)[0]? = some (.int .u64 1) := by simp [Lib.pow10Tab]
  rw [h2] at h1
  exact World.block_lt_of_cell? W _ h1

end Go.Proofs.YtooiiomfahomjaaGreatDoor
namespace Go.Proofs.YtooiiomfahomjaaGreatDoor
open Go.ChangeShapes Go.WideShapes Go.RowKit

theorem var_low {P : Program} {w : World} {n : String} {g : Nat} {cs : Array Value} (hg : P.globalNamed n = some g) (h : w.var? P n = some cs) : g < w.heap.size := by
  unfold World.var? at h
  rw [hg] at h
  simp only [Option.bind_some] at h
  rcases Nat.lt_or_ge g w.heap.size with hl | hl
  · exact hl
  · rw [Array.getElem?_eq_none hl] at h
    simp at h

theorem gBru : Tryz.prog.globalNamed bruName = some 3 := by kernel_rfl
theorem low_of_laid {W : World} {d : DataW Unit} {r : List (String × DataW Unit)} (h : laidMet Tryz.prog ((bruName, d) :: r) W) : 3 < W.heap.size := by
  obtain ⟨ps, ⟨g', t', cs, fuel, p, q, hg', ht', hvar, hd, _, _⟩, _⟩ := h
  exact var_low gBru hvar

theorem tSyn : (Tryz.prog.globals[4]?).map (·.type) = some 89 := by kernel_rfl
theorem tRng : (Tryz.prog.globals[5]?).map (·.type) = some 89 := by kernel_rfl
theorem cErr : Tryz.prog.cellsOf 133 = 1 := by kernel_rfl
theorem cStr : Tryz.prog.cellsOf 9 = 1 := by kernel_rfl
theorem star : "*" ++ "errors.errorString" = "*errors.errorString" := by decide
theorem rowErr (u : TypeId) (h : Tryz.prog.typeName? 3 u = some "*errors.errorString") : u = 131 :=
  typeName_ptr_named (nm := "errors.errorString") (by rw [star]; kernel_rfl) (by kernel_rfl) (by decide) u (by rw [star]; exact h)
theorem errs_of_laid {W : World} {r : List (String × DataW Unit)} (h : laidMet Tryz.prog ((rngName, Rows.laid_strconv_ErrRange) :: (synName, Rows.laid_strconv_ErrSyntax) :: r) W) : ErrVars W := by
  obtain ⟨a0, s0, hv0, -, -, -⟩ := laid_sentinel h gRng tRng Tryz.underlying89 rowErr Tryz.underlying131 Tryz.underlying133 rfl rfl Tryz.underlying9 cErr cStr
  obtain ⟨a1, s1, hv1, -, -, -⟩ := laid_sentinel h.tail gSyn tSyn Tryz.underlying89 rowErr Tryz.underlying131 Tryz.underlying133 rfl rfl Tryz.underlying9 cErr cStr
  exact ⟨⟨_, _, hv1⟩, _, _, hv0⟩

/-- A string that came in takes less than 2^48 bytes. -/
theorem string_short {H : Type} {P : Program} {ts : List TypeId} {ds : List (DataW H)} {s : ByteArray} {j t : Nat}
    (hsz : (DataW.weightsEach P ts ds).all (· ≤ reachBytes) = true) (ht : ts[j]? = some t) (hd : ds[j]? = some (.lit (.string s.data.toList))) : s.size ≤ 281474976710656 := by
  have h1 := sized_string hsz (j := j) (t := t) ht hd
  have h2 := reachBytes_lt
  have e1 : s.size = s.data.size := rfl
  have e2 : s.data.toList.length = s.data.size := Array.length_toList
  have e3 : (2 : Nat) ^ 47 = 140737488355328 := by decide
  omega
end Go.Proofs.YtooiiomfahomjaaGreatDoor
