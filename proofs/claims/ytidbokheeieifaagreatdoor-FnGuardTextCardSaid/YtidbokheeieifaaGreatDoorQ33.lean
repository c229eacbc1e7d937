/-
  spec.ParseTerm: the valid term whose representation the text is, and true; else the zero term and false.
  laws.heldTermS and laws.heldTerm find the marks that were written.
  The law on ParseTerm answers true at every string.
  What the laws on guards share: a guard in its box. No walk.
  laws.markGuard writes numbered marks over both sides of a guard that is a call's own; laws.heldGuard reads them.
  What the laws on functions that return a guard share. No walk.
-/
import Derived.Test.YtidbokheeieifaaGreatDoorQ32
import Derived.Test.YtidbokheeieifaaGreatDoorQ22
import Derived.Test.YtidbokheeieifaaGreatDoorQ29
import Derived.Test.YtidbokheeieifaaGreatDoorQ11
import Derived.Test.YtidbokheeieifaaGreatDoorQ31
import Derived.Test.YtidbokheeieifaaGreatDoorQ13
import Derived.Deep.RegionHeld3
namespace Go.Proofs.YtidbokheeieifaaGreatDoor
open Go.RowKit

/-- What the model's parsing gives. -/
def ParseSEnd (L : List UInt8) (w : World) (e : Ending) (w' : World) : Prop :=
  Below w.heap.size w w' ∧ ((∃ k n nm a c xs H, e = .returned (.tuple #[tv k n nm (.slice a (xs : List T).length c), .bool true]) ∧ (ValidT (.node k n nm xs) ∧ textL (.node k n nm xs) = L ∧ L.length ≤ 600) ∧ wT (.node k n nm xs) ≤ 4000 ∧ nm.size ≤ maxLen ∧ OwnR (fun _ => True) w' H (w.heap.size + 1) w'.heap.size (.slice a xs.length c) xs) ∨
    (e = .returned (.tuple #[tv 0 0 ByteArray.empty (.slice none 0 0), .bool false]) ∧ (600 < L.length ∨ ∀ t, ValidT t → textL t ≠ L)))

theorem empty_text {t : T} (h : ValidT t) : textL t ≠ [] := by
  intro e
  have h1 := read_text t h.2.2
  rw [e] at h1
  unfold readR runR endR at h1
  simp [addS] at h1

/-- A text that the reader took for another term, or met an error in, is no representation. -/
theorem read_wrong {L : List UInt8} {t : T} {at2 : Nat} {bad : Bool} (hr : ReadsT L 1 0 t at2 bad) (h : bad = true ∨ fmtT t ≠ ⟨L.toArray⟩) : ∀ t0, ValidT t0 → textL t0 ≠ L := by
  intro t0 hv e
  obtain ⟨rfl, _, hb⟩ := hr t0 [] hv.2.2 (by have := hv.2.1; omega) hv.1 (by rw [e]; simp) (Or.inl rfl)
  rcases h with h | h
  · rw [hb] at h; cases h
  · apply h
    rw [fmtT_ok hv]
    unfold strT
    rw [e]
theorem pS_none {L : List UInt8} {w w' : World} (h : 600 < L.length ∨ ∀ t, ValidT t → textL t ≠ L) (hb : Below w.heap.size w w') : ParseSEnd L w (.returned (.tuple #[tv 0 0 ByteArray.empty (.slice none 0 0), .bool false])) w' := ⟨hb, Or.inr ⟨rfl, h⟩⟩
theorem pS_some {L : List UInt8} {w w' : World} {k n : Int} {nm : ByteArray} {a : Option Addr} {c H lo : Nat} {xs : List T} (h : ValidT (.node k n nm xs) ∧ textL (.node k n nm xs) = L ∧ L.length ≤ 600) (hw : wT (.node k n nm xs) ≤ 4000) (hnm : nm.size ≤ maxLen) (ho : OwnR (fun _ => True) w' H lo w'.heap.size (.slice a xs.length c) xs) (hlo : w.heap.size + 1 ≤ lo) (hb : Below w.heap.size w w') (v0 v1 v2 v3 : Value) :
    ParseSEnd L w (.returned (.tuple #[tv k n nm (.slice a xs.length c), .bool true])) ((((w'.setCell ⟨w.heap.size, 0, none⟩ v0).setCell ⟨w.heap.size, 1, none⟩ v1).setCell ⟨w.heap.size, 2, none⟩ v2).setCell ⟨w.heap.size, 3, none⟩ v3) := by
  have st : ∀ (W : World) (j : Nat) (v : Value), OwnR (fun _ => True) W H lo w'.heap.size (.slice a xs.length c) xs → OwnR (fun _ => True) (W.setCell ⟨w.heap.size, j, none⟩ v) H lo w'.heap.size (.slice a xs.length c) xs := fun W j v o =>
    o.keep fun b _ h1 _ => ⟨Below.heap_setCell _ _ _ _ (fun e => by simp at e; omega), trivial⟩
  exact ⟨leaf_below hb _ _ _ _, Or.inl ⟨k, n, nm, a, c, xs, H, rfl, h, hw, hnm, (st _ _ _ (st _ _ _ (st _ _ _ (st _ _ _ ho)))).wide hlo (by simp [World.setCell])⟩⟩

set_option maxRecDepth 100000 in
set_option maxHeartbeats 1600000 in
theorem sParse_any (s : ByteArray) (w : World) (hs : s.size ≤ 281474976710656) : Calls Tryz.prog 27 #[.string s] w (ParseSEnd s.data.toList w) := by
  have hsl : s.data.toList.length = s.size := by simp
  have HSL := Lib.hid hsl; clear hsl
  have hbz : Below w.heap.size w (w.alloc zRow) := bel_al _ _
  have HBZ := Lib.hid hbz; clear hbz
  by_cases hlen : 600 < s.size
  · have HF : Hid (ParseSEnd s.data.toList w (.returned (.tuple #[tv 0 0 ByteArray.empty (.slice none 0 0), .bool false])) (w.alloc zRow)) := Lib.hid (pS_none (Or.inl (by rw [HSL.out]; exact hlen)) HBZ.out)
    obtain ⟨⟨x0, x1, x2, x3⟩, f0, f1, f2, f3⟩ := cells4r (heap_new w zRow rfl)
    go_enter Tryz.func27, Tryz.ntmps27
    go_wp2
    (try simp only [Exit.inBlock, Exit.then])
    refine bodyPost_ret (v := .tuple #[tv 0 0 ByteArray.empty (.slice none 0 0), .bool false]) ?_ rfl ?_
    · refine results_ctR (a := 2) (b := 3) (t := 26) (ad := ⟨w.heap.size, 0, none⟩) rfl rfl _ _ ?_
      go_simp
      rfl
    · exact HF.out
  · go_enter Tryz.func27, Tryz.ntmps27
    have HCALL : Hid (Calls Tryz.prog 46 #[.pointer (some ⟨w.heap.size + 1, 0, none⟩), .int .i64 1] ((w.alloc zRow).alloc (RB s 0 false)) (TermEnd s 1 (w.heap.size + 1) 0 ((w.alloc zRow).alloc (RB s 0 false)))) :=
      Lib.hid (sTerm_any s (by omega) 1 (by omega) (w.heap.size + 1) 0 _ (heap_new (w.alloc zRow) (RB s 0 false) (by simp)) (Nat.zero_le _))
    have HB0 : Hid (Below w.heap.size w ((w.alloc zRow).alloc (RB s 0 false))) := Lib.hid (HBZ.out.alloc HBZ.out.size _)
    go_wp2_with fail
    refine HCALL.out.mono ?_
    rintro e w1 ⟨k, n, nm, a, c, xs, H, at2, bad, rfl, hr, hg, hrt, hpos, hwt, hown⟩
    have hgz : (w.alloc zRow).heap.size = w.heap.size + 1 := by simp
    have hgz2 : ((w.alloc zRow).alloc (RB s 0 false)).heap.size = w.heap.size + 2 := by simp
    have hb1 : Below w.heap.size w w1 := HB0.out.grown hg HB0.out.size (fun j e => by cases e; omega)
    have HB1 := Lib.hid hb1
    have HZR : Hid (w1.heap[w.heap.size]? = some zRow) := Lib.hid ((hg.block w.heap.size (by omega) (fun e => by have := Option.some.inj e; omega)).trans ((Below.heap_alloc _ _ _ (by simp)).trans (heap_new w zRow rfl)))
    have hs1 : w.heap.size + 2 ≤ w1.heap.size := by have := hg.size; omega
    rw [hgz2] at hown
    have HRW := Lib.hid (fun h t0 hv => read_wrong (L := s.data.toList) hrt h t0 hv); clear hrt
    have HRD := Lib.hid hr; clear hr
    have HWT : Hid (wT (.node k n nm xs) ≤ 4000 ∧ nm.size ≤ maxLen) := Lib.hid (by have h := hpos.2.2; have h2 := hwt; refine ⟨by omega, ?_⟩; rw [wT_node] at h2; unfold maxLen; omega)
    have HO := Lib.hid hown
    have HS1 := Lib.hid hs1
    clear hb1 hown hwt hpos hg hgz hgz2 hs1
    obtain ⟨⟨x0, x1, x2, x3⟩, f0, f1, f2, f3⟩ := cells4r HZR.out
    obtain ⟨⟨c0, c1, c2⟩, _⟩ := cells3r HRD.out
    have hz1 : w.heap.size + 1 < w1.heap.size := by have := HS1.out; omega
    have hz0 : w.heap.size < w1.heap.size := by omega
    obtain ⟨W2, hW2⟩ : ∃ W2, W2 = boxed w1 k n nm (.slice a xs.length c) := ⟨_, rfl⟩
    have hb2 : Below w1.heap.size w1 W2 := by rw [hW2]; exact boxed_below _ _ _ _ _
    have HO2 : Hid (∀ w3, Below W2.heap.size W2 w3 → OwnR (fun _ => True) w3 H (w.heap.size + 2) w3.heap.size (.slice a xs.length c) xs ∧ Below w.heap.size w w3 ∧ w3.heap[w.heap.size]? = some zRow ∧ w3.heap[w.heap.size + 1]? = some (RB s at2 bad) ∧
        (w3.cell? ⟨w1.heap.size, 0, none⟩ = some (.int .i64 k) ∧ w3.cell? ⟨w1.heap.size, 1, none⟩ = some (.int .i64 n) ∧ w3.cell? ⟨w1.heap.size, 2, none⟩ = some (.string nm) ∧ w3.cell? ⟨w1.heap.size, 3, none⟩ = some (.slice a xs.length c))) := Lib.hid (fun w3 hb3 => by
      have h13 : Below w1.heap.size w1 w3 := hb2.trans (hb3.mono hb2.size)
      refine ⟨(OwnR.keep (Q := fun _ => True) (w := w1) (fun b _ _ h2 => ⟨h13.block b h2, trivial⟩) HO.out).wide (Nat.le_refl _) h13.size, HB1.out.trans (h13.mono HB1.out.size), (h13.block _ hz0).trans HZR.out, (h13.block _ hz1).trans HRD.out, boxed_cells (by rw [← hW2]; exact hb3)⟩)
    cases bad with
    | true =>
      have HF : Hid (600 < s.data.toList.length ∨ ∀ t, ValidT t → textL t ≠ s.data.toList) := Lib.hid (Or.inr (HRW.out (Or.inl rfl)))
      clear hW2 hb2
      go_wp2
      (try simp only [Exit.inBlock, Exit.then])
      refine bodyPost_ret (v := .tuple #[tv 0 0 ByteArray.empty (.slice none 0 0), .bool false]) ?_ rfl ?_
      · refine results_ctR (a := 2) (b := 3) (t := 26) (ad := ⟨w.heap.size, 0, none⟩) rfl rfl _ _ ?_
        go_simp
        rfl
      · exact pS_none HF.out ((leaf_below HB1.out _ _ _ _).alloc (leaf_below HB1.out _ _ _ _).size _)
    | false =>
      by_cases h0 : s.size = 0
      · have HF : Hid (600 < s.data.toList.length ∨ ∀ t, ValidT t → textL t ≠ s.data.toList) := Lib.hid (Or.inr (fun t hv e => empty_text hv (by rw [e]; exact List.eq_nil_of_length_eq_zero (by rw [HSL.out]; exact h0))))
        obtain rfl := no_empty s h0
        clear hW2 hb2 h0
        go_wp2
        (try simp only [Exit.inBlock, Exit.then])
        refine bodyPost_ret (v := .tuple #[tv 0 0 ByteArray.empty (.slice none 0 0), .bool false]) ?_ rfl ?_
        · refine results_ctR (a := 2) (b := 3) (t := 26) (ad := ⟨w.heap.size, 0, none⟩) rfl rfl _ _ ?_
          go_simp
          rfl
        · exact pS_none HF.out ((leaf_below HB1.out _ _ _ _).alloc (leaf_below HB1.out _ _ _ _).size _)
      · obtain ⟨hne, hne2⟩ := some_byte s h0
        clear h0
        obtain ⟨hO2, hB2, hz2, hr2, d0, d1, d2, d3⟩ := HO2.out _ (Below.refl _ _)
        have HTA : Hid (TermAt W2 0 H (tv k n nm (.slice a xs.length c)) (.node k n nm xs)) := Lib.hid ⟨k, n, nm, _, xs, rfl, rfl, HWT.out.2, hO2.args (Nat.zero_le _)⟩
        obtain ⟨⟨e0, e1, e2⟩, _⟩ := cells3r hr2
        clear hO2 hB2 hz2 hr2 hb2
        unfold boxed at hW2
        go_wp2_with fail
        rw [← hW2]
        clear hW2
        refine (sFmtT_any _ (.node k n nm xs) 0 H W2 HTA.out (by have := HWT.out.1; omega)).mono ?_
        rintro e w3 ⟨rfl, hb3⟩
        obtain ⟨hO3, hB3, hz3, hr3, d0, d1, d2, d3⟩ := HO2.out _ hb3
        clear x0 x1 x2 x3 f0 f1 f2 f3
        obtain ⟨⟨x0, x1, x2, x3⟩, f0, f1, f2, f3⟩ := cells4r hz3
        have HB3 := Lib.hid hB3
        have HO3 := Lib.hid hO3
        obtain ⟨ft, hft⟩ : ∃ ft, ft = fmtT (.node k n nm xs) := ⟨_, rfl⟩
        rw [← hft]
        by_cases hf : ft = s
        · have hv : ValidT (.node k n nm xs) := by
            by_cases hv : ValidT (.node k n nm xs)
            · exact hv
            · rw [fmtT_no hv] at hft
              rw [hft] at hf
              rw [← hf] at hne
              simp at hne
          have htx : textL (.node k n nm xs) = s.data.toList := by
            rw [fmtT_ok hv] at hft
            rw [← hf, hft, strT_list]
          have HF := Lib.hid (pS_some ⟨hv, htx, by rw [HSL.out]; omega⟩ HWT.out.1 HWT.out.2 HO3.out (by omega) HB3.out)
          clear hv htx hft hO3 hB3 hb3 hz3 hr3 c0 c1 c2
          subst hf
          go_wp2
          (try simp only [Exit.inBlock, Exit.then])
          refine bodyPost_ret (v := .tuple #[tv k n nm (.slice a xs.length c), .bool true]) ?_ rfl ?_
          · refine results_ctR (a := 2) (b := 3) (t := 26) (ad := ⟨w.heap.size, 0, none⟩) rfl rfl _ _ ?_
            go_simp
          · exact HF.out _ _ _ _
        · have HF : Hid (600 < s.data.toList.length ∨ ∀ t, ValidT t → textL t ≠ s.data.toList) := Lib.hid (Or.inr (HRW.out (Or.inr (fun e => hf (by rw [hft, e, mk_data])))))
          have hnb : (!(ft.toList == s.toList)) = true := by
            cases h : (ft.toList == s.toList) with
            | true => exact absurd ((same_iff ft s).1 h) hf
            | false => rfl
          clear hft hO3 hB3 hb3 hz3 hr3 c0 c1 c2 hf
          go_wp2
          (try simp only [Exit.inBlock, Exit.then])
          refine bodyPost_ret (v := .tuple #[tv 0 0 ByteArray.empty (.slice none 0 0), .bool false]) ?_ rfl ?_
          · refine results_ctR (a := 2) (b := 3) (t := 26) (ad := ⟨w.heap.size, 0, none⟩) rfl rfl _ _ ?_
            go_simp
            rfl
          · exact pS_none HF.out (leaf_below HB3.out _ _ _ _)
end Go.Proofs.YtidbokheeieifaaGreatDoor
namespace Go.Proofs.YtidbokheeieifaaGreatDoor
open Go.RowKit

def HeldSAt (h : Nat) : Prop := ∀ (u : Value) (ts : List T) (lo k : Nat) (w : World), ArgsAt w lo h u (mkS k ts) → 1 ≤ k → k + 3 * cS ts ≤ 2305843009213693952 →
  Calls Tryz.prog 61 #[u, .int .i64 k] w (NumB ((k + 3 * cS ts : Nat) : Int) w)

set_option maxRecDepth 100000 in
set_option maxHeartbeats 1600000 in
theorem heldS_step (h : Nat) (IH : ∀ h', h = h' + 1 → HeldSAt h') : HeldSAt h := by
  intro u ts lo k w ha hk hkc
  obtain ⟨a, cap, rfl⟩ := ha.slice
  rw [mkS_length] at ha ⊢
  have hl : ts.length ≤ 2305843009213693952 := by have := len_cS ts; omega
  have HA := Lib.hid ha; clear ha
  have HIH := Lib.hid IH; clear IH
  have HKC := Lib.hid hkc; clear hkc
  obtain ⟨m, hm⟩ : ∃ m, m = ts.length := ⟨_, rfl⟩
  rw [← hm] at HA hl ⊢
  have HM := Lib.hid hm; clear hm
  go_enter Tryz.func61, Tryz.ntmps61
  go_wp2
  go_loopw [1, 5] (fun q i wr => ∃ (j c : Nat), j ≤ m ∧ i = .int .i64 j ∧ q = .int .i64 c ∧ Hid (c = k + 3 * cS (ts.take j)) ∧ Hid (Below w.heap.size w wr)) (fun _ i _ => m - (intOf i).toNat)
  case atStart => exact ⟨0, k, Nat.zero_le _, rfl, rfl, Lib.hid (by simp [cS]), Lib.hid (Below.refl _ _)⟩
  case round =>
    obtain ⟨j, c, hj, rfl, rfl, HC, HB⟩ := hrel
    have hcb : c ≤ 2305843009213693952 := by have := HC.out; have := cS_take ts j; have := HKC.out; omega
    have hc1 : 1 ≤ c := by have := HC.out; omega
    by_cases hlt : j < m
    · obtain ⟨t, ht⟩ : ∃ t, ts[j]? = some t := ⟨_, List.getElem?_eq_getElem (by have := HM.out; omega)⟩
      have hmk := mkS_at ts k j t ht
      obtain ⟨tk1, tn1, ts1, txs⟩ := t
      rw [← HC.out, mkT_node] at hmk
      have hct : cS (ts.take (j + 1)) = cS (ts.take j) + (1 + cS txs) := by rw [tk ts j _ ht, cS_snoc, cT_node]
      have hctl := cS_take ts (j + 1)
      have HCT := Lib.hid hct
      have hcx : c + 3 + 3 * cS txs ≤ 2305843009213693952 := by have := HC.out; have := HKC.out; omega
      obtain ⟨h', b, o, kk, nn, s, xs, u', e, rfl, en, hs, d0, d1, d2, d3, har⟩ := HA.out.at hmk
      cases en
      have c0 := cell_on HB.out d0
      have c1 := cell_on HB.out d1
      have c2 := cell_on HB.out d2
      have c3 := cell_on HB.out d3
      have HAR := Lib.hid (har.below HB.out); clear har d0 d1 d2 d3 hct hctl ht hmk hs
      obtain ⟨ua, uc, rfl⟩ := HAR.out.slice
      have hb0 : Below wr.heap.size wr wr := Below.refl _ _
      have hgw : b < wr.heap.size := World.block_lt_of_cell? wr _ c2
      have hq0 : ((c : Int) != (c : Int)) = false := by simp
      have hq1 : ((c : Int) + 1 != (c : Int) + 1) = false := by simp
      have hq2 : ((mark (c + 2)).toList == (mark (c + 2)).toList) = true := by simp
      have hcall := fun (w' : World) (hb : Below wr.heap.size wr w') => HIH.out h' e _ txs lo (c + 3) w' (HAR.out.below hb) (by omega) hcx
      rw [mkS_length] at hcall c3
      have HCALL := Lib.hid hcall; clear hcall
      have hcast : ((c : Int) + 1 + 1) = ((c + 2 : Nat) : Int) := by omega
      go_wp2
      go_region_held3 (fun w' => w'.cell? ⟨b, o + j * 4 + 2, none⟩ = some (.string (mark (c + 2))) ∧ w'.cell? ⟨b, o + j * 4 + 3, none⟩ = some (.slice ua txs.length uc) ∧ Below wr.heap.size wr w')
        (first | exact ⟨cell_on (bel_drew (by assumption)) c2, cell_on (bel_drew (by assumption)) c3, bel_drew (by assumption)⟩ | exact ⟨c2, c3, Below.drew (Below.refl _ _)⟩ | go_keep)
        (first | (go_at_call 90; refine (markText_int _ (c + 2) _ (by omega) (by omega) (by omega)).mono ?_; rintro e w1 ⟨rfl, hb1⟩))
      have hb2 : Below wr.heap.size wr w1 := bel_drew hb1
      have HB2 := Lib.hid (HB.out.trans (hb2.mono HB.out.size))
      have d3 := cell_on hb2 c3
      have hcall := HCALL.out _ hb2
      have HCX := Lib.hid hcall; clear hcall hb2 hb1 hb0
      go_wp2_with fail
      first | rw [show ((c : Int) + 3) = ((c + 3 : Nat) : Int) by omega] | rw [show ((c : Int) + 2 + 1) = ((c + 3 : Nat) : Int) by omega] | rw [show ((c : Int) + 1 + 1 + 1) = ((c + 3 : Nat) : Int) by omega]
      refine HCX.out.mono ?_
      rintro e w2 ⟨rfl, hb3⟩
      have HB3 := Lib.hid (HB2.out.trans (hb3.mono HB2.out.size)); clear hb3
      have HC4 : Hid (c + 3 + 3 * cS txs = k + 3 * cS (ts.take (j + 1))) := Lib.hid (by have := HC.out; have := HCT.out; omega)
      have hpos : ¬ ((c + 3 + 3 * cS txs : Nat) : Int) < 0 := by omega
      go_wp2
      go_roundw
      case rel => exact ⟨j + 1, c + 3 + 3 * cS txs, by omega, by go_num, rfl, HC4, HB3⟩
      case measure => simp [intOf]; omega
    · have HD : Hid (c = k + 3 * cS ts) := Lib.hid (by
        have hjm : j = ts.length := by have := HM.out; omega
        rw [HC.out, hjm, List.take_length])
      go_wp2
      go_ret
      exact ⟨by rw [← HD.out]; rfl, HB.out⟩

theorem heldS_any (h : Nat) : HeldSAt h := by_height heldS_step h

set_option maxRecDepth 100000 in
set_option maxHeartbeats 800000 in
/-- laws.heldTerm, at a term over whose arguments the marks were written. -/
theorem heldT_any (kk nn : Int) (s : ByteArray) (u : Value) (xs : List T) (lo h k : Nat) (w : World) (ha : ArgsAt w lo h u (mkS k xs)) (hk : 1 ≤ k) (hkc : k + 3 * cS xs ≤ 2305843009213693952) :
    Calls Tryz.prog 38 #[tv kk nn s u, .int .i64 k] w (NumB ((k + 3 * cS xs : Nat) : Int) w) := by
  have hb0 := boxed_below w kk nn s u
  have hcall := heldS_any h u xs lo k _ (ha.below hb0) hk hkc
  obtain ⟨a, cap, rfl⟩ := ha.slice
  clear ha
  have HCALL := Lib.hid hcall; clear hcall
  have HB0 := Lib.hid hb0; clear hb0
  have hpos : ¬ ((k + 3 * cS xs : Nat) : Int) < 0 := by omega
  go_enter Tryz.func38, Tryz.ntmps38
  go_wp2_with fail
  refine HCALL.out.mono ?_
  rintro e w1 ⟨rfl, hb1⟩
  have HB1 := Lib.hid (HB0.out.trans (hb1.mono HB0.out.size)); clear hb1
  go_wp2
  go_ret
  exact ⟨rfl, HB1.out⟩
end Go.Proofs.YtidbokheeieifaaGreatDoor
namespace Go.Proofs.YtidbokheeieifaaGreatDoor
open Go.RowKit

open Classical in
/-- The valid term whose representation the text is. -/
noncomputable def parT (L : List UInt8) : Option T := if h : L.length ≤ 600 ∧ ∃ t, ValidT t ∧ textL t = L then some h.2.choose else none
theorem parT_some {L : List UInt8} {t : T} (h : ValidT t ∧ textL t = L ∧ L.length ≤ 600) : parT L = some t := by
  have hx : L.length ≤ 600 ∧ ∃ t, ValidT t ∧ textL t = L := ⟨h.2.2, t, h.1, h.2.1⟩
  unfold parT
  rw [dif_pos hx]
  exact congrArg some (text_inj hx.2.choose_spec.1.2.2 h.1.2.2 (hx.2.choose_spec.2.trans h.2.1.symm))
theorem parT_none {L : List UInt8} (h : 600 < L.length ∨ ∀ t, ValidT t → textL t ≠ L) : parT L = none := by
  unfold parT
  rw [dif_neg]
  rintro ⟨h1, t, h2, h3⟩
  rcases h with h | h
  · omega
  · exact h t h2 h3
/-- What parsing gives, of the program and of its model. -/
def ResP (L : List UInt8) (w : World) (e : Ending) (w' : World) : Prop := ResO (parT L).isSome ((parT L).getD zT) w e w' ∧ wT ((parT L).getD zT) ≤ 4000
theorem zT_w : wT zT ≤ 4000 := by rw [wT_node]; simp [wS]
theorem resP_no {L : List UInt8} {w w' : World} (h : 600 < L.length ∨ ∀ t, ValidT t → textL t ≠ L) (hb : Below w.heap.size w w') : ResP L w (.returned (.tuple #[tv 0 0 ByteArray.empty (.slice none 0 0), .bool false])) w' := by
  unfold ResP
  rw [parT_none h]
  exact ⟨⟨0, 0, ByteArray.empty, none, 0, 0, 0, [], rfl, rfl, Nat.zero_le _, OwnR.nil _ _ _ _ _ _ _, hb⟩, zT_w⟩
theorem resP_yes {L : List UInt8} {w w' : World} {k n : Int} {nm : ByteArray} {a : Option Addr} {m c H : Nat} {xs : List T} (h : ValidT (.node k n nm xs) ∧ textL (.node k n nm xs) = L ∧ L.length ≤ 600) (hw : wT (.node k n nm xs) ≤ 4000) (hnm : nm.size ≤ maxLen) (ho : OwnR (fun _ => True) w' H (w.heap.size + 1) w'.heap.size (.slice a m c) xs) (hb : Below w.heap.size w w') :
    ResP L w (.returned (.tuple #[tv k n nm (.slice a m c), .bool true])) w' := by
  unfold ResP
  rw [parT_some h]
  exact ⟨⟨k, n, nm, a, m, c, H, xs, rfl, rfl, hnm, ho.wide (by omega) (Nat.le_refl _), hb⟩, hw⟩
theorem resP_s {L : List UInt8} {w w' : World} {e : Ending} (h : ParseSEnd L w e w') : ResP L w e w' := by
  obtain ⟨hb, ⟨k, n, nm, a, c, xs, H, rfl, hv, hw, hnm, ho⟩ | ⟨rfl, hno⟩⟩ := h
  · exact resP_yes hv hw hnm ho hb
  · exact resP_no hno hb
theorem resP_i {L : List UInt8} {w w' : World} {e : Ending} (h : ParseEnd L w e w') : ResP L w e w' := by
  obtain ⟨hb, ⟨t, k, n, nm, a, m, c, xs, H, rfl, rfl, hv, hw, hnm, ho⟩ | ⟨rfl, hno⟩⟩ := h
  · exact resP_yes hv hw hnm ho hb
  · exact resP_no hno hb

/-- laws.eqTerm, whatever the heights of the readings. -/
theorem eqT_twoP (v v' : Value) (t : T) (lo lo' h h' : Nat) (w : World) (ht : TermAt w lo h v t) (ht' : TermAt w lo' h' v' t) : Calls Tryz.prog 36 #[v, v'] w (TrueB w) :=
  eqT_any v v' t lo lo' (max h h') w (ht.le (Nat.le_max_left _ _)) (ht'.le (Nat.le_max_right _ _))

end Go.Proofs.YtidbokheeieifaaGreatDoor
namespace Go.Proofs.YtidbokheeieifaaGreatDoor
open Go.RowKit

/-- A world with a guard in a new box. -/
def gboxed (w : World) (kd k n : Int) (s : ByteArray) (u : Value) (k' n' : Int) (s' : ByteArray) (u' : Value) : World :=
  w.alloc (.cells #[.int .i64 kd, .int .i64 k, .int .i64 n, .string s, u, .int .i64 k', .int .i64 n', .string s', u'] 28)
theorem gboxed_below (w : World) (kd k n : Int) (s : ByteArray) (u : Value) (k' n' : Int) (s' : ByteArray) (u' : Value) : Below w.heap.size w (gboxed w kd k n s u k' n' s' u') := (Below.refl _ _).alloc (Nat.le_refl _) _
@[simp] theorem gboxed_size (w : World) (kd k n : Int) (s : ByteArray) (u : Value) (k' n' : Int) (s' : ByteArray) (u' : Value) : (gboxed w kd k n s u k' n' s' u').heap.size = w.heap.size + 1 := by unfold gboxed; simp
theorem gbox_of {w1 W1 : World} {lo h : Nat} {kd k n : Int} {s : ByteArray} {u : Value} {k' n' : Int} {s' : ByteArray} {u' : Value} {xs xs' : List T} (hs : s.size ≤ maxLen ∧ s'.size ≤ maxLen) (ha : ArgsAt w1 lo h u xs) (ha' : ArgsAt w1 lo h u' xs') (ho : OwnG w1 h lo w1.heap.size u u' xs xs')
    (hW : W1 = gboxed w1 kd k n s u k' n' s' u') : GBoxO lo w1.heap.size kd k n s u k' n' s' u' h xs xs' W1 := by
  have hb : Below w1.heap.size w1 W1 := by rw [hW]; exact gboxed_below _ _ _ _ _ _ _ _ _ _
  refine ⟨⟨by rw [hW]; exact heap_new _ _ rfl, ⟨k, n, s, u, k', n', s', u', rfl, ⟨_, _, _, _, xs, rfl, rfl, hs.1, ha.below hb⟩, ⟨_, _, _, _, xs', rfl, rfl, hs.2, ha'.below hb⟩⟩⟩, ho.same fun b _ b2 => hb.block b b2⟩
theorem gd_eq {g : Gd} {l r : T} (el : g.l = l) (er : g.r = r) : g = ⟨g.kd, l, r⟩ := by cases g; simp at *; exact ⟨el, er⟩
end Go.Proofs.YtidbokheeieifaaGreatDoor
namespace Go.Proofs.YtidbokheeieifaaGreatDoor
open Go.RowKit

/-- What the marks leave. -/
def MarkG (lo hi k h : Nat) (u u' : Value) (xs xs' : List T) (w : World) (e : Ending) (w' : World) : Prop :=
  MarkOut lo hi (k + 3 * cS xs + 3 * cS xs') w e w' ∧ ArgsP (In lo hi) w' h u (mkS k xs) ∧ ArgsP (In lo hi) w' h u' (mkS (k + 3 * cS xs) xs')

set_option maxRecDepth 100000 in
set_option maxHeartbeats 1600000 in
theorem markG_any (kd kk nn : Int) (s : ByteArray) (u : Value) (k2 n2 : Int) (s2 : ByteArray) (u' : Value) (xs xs' : List T) (h lo hi k : Nat) (w : World) (ho : OwnG w h lo hi u u' xs xs') (hhi : hi ≤ w.heap.size) (hk : 1 ≤ k) (hkc : k + 3 * cS xs + 3 * cS xs' ≤ 2305843009213693952) :
    Calls Tryz.prog 17 #[gv kd kk nn s u k2 n2 s2 u', .int .i64 k] w (MarkG lo hi k h u u' xs xs' w) := by
  obtain ⟨l, r, l', r', h1, h2, h3, h4, h5, o1, o2⟩ := ho
  obtain ⟨W, hW⟩ : ∃ W, W = w.alloc (.cells #[.int .i64 kd, .int .i64 kk, .int .i64 nn, .string s, u, .int .i64 k2, .int .i64 n2, .string s2, u'] 28) := ⟨_, rfl⟩
  have hb : Below w.heap.size w W := by rw [hW]; exact (Below.refl _ _).alloc (Nat.le_refl _) _
  have hr : W.heap[w.heap.size]? = some (grow 28 kd kk nn s u k2 n2 s2 u') := by rw [hW]; exact heap_new _ _ rfl
  have hws : W.heap.size = w.heap.size + 1 := by rw [hW]; simp
  have HO := Lib.hid (Out.of_below (lo := lo) (hi := hi) hb)
  have HC1 := Lib.hid (markPT_any kk nn s u xs h l r k W (o1.keep fun b _ b2 => hb.block b (by omega)) (by omega) hk (by omega))
  have HC2 := Lib.hid (fun (w1 : World) (ho1 : Out l r W w1) => markPT_any k2 n2 s2 u' xs' h l' r' (k + 3 * cS xs) w1 ((o2.keep fun b _ b2 => hb.block b (by omega)).keep fun b b1 b2 => ho1.2.2.2.2 b (by omega) (by omega)) (by have := ho1.2.2.2.1; omega) (by omega) hkc)
  have HR := Lib.hid hr
  have HB := Lib.hid (And.intro h1 (And.intro h2 (And.intro h3 (And.intro h4 h5))))
  have HN := Lib.hid (And.intro hws hhi)
  obtain ⟨ua, uc, hua⟩ := o1.slice
  obtain ⟨ub, ud, hub⟩ := o2.slice
  obtain ⟨ma, hma⟩ : ∃ m, m = xs.length := ⟨_, rfl⟩
  obtain ⟨mb, hmb⟩ : ∃ m, m = xs'.length := ⟨_, rfl⟩
  rw [← hma] at hua
  rw [← hmb] at hub
  subst hua
  subst hub
  clear o1 o2 hb hr hws h1 h2 h3 h4 h5 hma hmb hk hkc hhi
  go_enter Tryz.func17, Tryz.ntmps17
  go_wp2_with fail
  rw [← hW]
  clear hW
  refine HC1.out.mono ?_
  rintro e w1 ⟨⟨rfl, ho1⟩, hp1⟩
  obtain ⟨x0, x1, x2, x3, x4, x5, x6, x7, x8⟩ := cells_of9 ((ho1.2.2.2.2 w.heap.size (by have := HN.out; omega) (Or.inr (by have := HN.out; have := HB.out; omega))).trans HR.out)
  have HO1 := Lib.hid ho1; clear ho1
  have HP1 := Lib.hid hp1; clear hp1
  clear x0 x1 x2 x3 x4
  go_wp2_with fail
  refine (HC2.out w1 HO1.out).mono ?_
  rintro e w2 ⟨⟨rfl, ho2⟩, hp2⟩
  have HO2 := Lib.hid ho2; clear ho2
  have HP2 := Lib.hid hp2; clear hp2
  clear x5 x6 x7 x8
  go_wp2
  go_ret
  have hB := HB.out
  have hN := HN.out
  have hz1 := HO1.out.2.2.2.1
  refine ⟨⟨rfl, (HO.out.trans (HO1.out.wide hB.1 hB.2.1)).trans (HO2.out.wide hB.2.2.1 hB.2.2.2.1)⟩, ?_, ?_⟩
  · exact (HP1.out.keepB fun b hb hbl => HO2.out.2.2.2.2 b hbl (by have := hb.1; have := hb.2; omega)).imp fun j hj => ⟨by have := hj.1; omega, by have := hj.2; omega⟩
  · exact HP2.out.imp fun j hj => ⟨by have := hj.1; omega, by have := hj.2; omega⟩

set_option maxRecDepth 100000 in
set_option maxHeartbeats 1600000 in
theorem heldG_any (kd kk nn : Int) (s : ByteArray) (u : Value) (k2 n2 : Int) (s2 : ByteArray) (u' : Value) (xs xs' : List T) (lo h k : Nat) (w : World) (ha : ArgsAt w lo h u (mkS k xs)) (ha' : ArgsAt w lo h u' (mkS (k + 3 * cS xs) xs')) (hk : 1 ≤ k) (hkc : k + 3 * cS xs + 3 * cS xs' ≤ 2305843009213693952) :
    Calls Tryz.prog 18 #[gv kd kk nn s u k2 n2 s2 u', .int .i64 k] w (NumB ((k + 3 * cS xs + 3 * cS xs' : Nat) : Int) w) := by
  obtain ⟨W, hW⟩ : ∃ W, W = w.alloc (.cells #[.int .i64 kd, .int .i64 kk, .int .i64 nn, .string s, u, .int .i64 k2, .int .i64 n2, .string s2, u'] 28) := ⟨_, rfl⟩
  have hb : Below w.heap.size w W := by rw [hW]; exact (Below.refl _ _).alloc (Nat.le_refl _) _
  have hr : W.heap[w.heap.size]? = some (grow 28 kd kk nn s u k2 n2 s2 u') := by rw [hW]; exact heap_new _ _ rfl
  have HC1 := Lib.hid (heldT_any kk nn s u xs lo h k W (ha.below hb) hk (by omega))
  have HC2 := Lib.hid (fun (w1 : World) (hb1 : Below W.heap.size W w1) => heldT_any k2 n2 s2 u' xs' lo h (k + 3 * cS xs) w1 ((ha'.below hb).below hb1) (by omega) hkc)
  have HR := Lib.hid hr
  have HB0 := Lib.hid hb
  obtain ⟨ua, uc, hua⟩ := ha.slice
  obtain ⟨ub, ud, hub⟩ := ha'.slice
  obtain ⟨ma, hma⟩ : ∃ m, m = (mkS k xs).length := ⟨_, rfl⟩
  obtain ⟨mb, hmb⟩ : ∃ m, m = (mkS (k + 3 * cS xs) xs').length := ⟨_, rfl⟩
  rw [← hma] at hua
  rw [← hmb] at hub
  subst hua
  subst hub
  have hpos1 : ¬ ((k + 3 * cS xs : Nat) : Int) < 0 := by omega
  have hpos2 : ¬ ((k + 3 * cS xs + 3 * cS xs' : Nat) : Int) < 0 := by omega
  clear ha ha' hb hr hma hmb hk hkc
  go_enter Tryz.func18, Tryz.ntmps18
  go_wp2_with fail
  rw [← hW]
  clear hW
  refine HC1.out.mono ?_
  rintro e w1 ⟨rfl, hb1⟩
  obtain ⟨x0, x1, x2, x3, x4, x5, x6, x7, x8⟩ := cells_of9 ((hb1.block w.heap.size (Array.getElem?_eq_some_iff.1 HR.out).1).trans HR.out)
  have HB1 := Lib.hid hb1; clear hb1
  clear x0 x1 x2 x3 x4
  go_wp2_with fail
  refine (HC2.out w1 HB1.out).mono ?_
  rintro e w2 ⟨rfl, hb2⟩
  have HB2 := Lib.hid (HB0.out.trans ((HB1.out.mono HB0.out.size).trans (hb2.mono (Nat.le_trans HB0.out.size HB1.out.size)))); clear hb2
  clear x5 x6 x7 x8
  go_wp2
  go_ret
  exact ⟨rfl, HB2.out⟩
end Go.Proofs.YtidbokheeieifaaGreatDoor
namespace Go.Proofs.YtidbokheeieifaaGreatDoor
open Go.RowKit

/-- A guard that was returned, for reading. -/
def RGd (r : Gd) (w : World) (e : Ending) (w' : World) : Prop :=
  ∃ H k n s a m c k' n' s' a' m' c', e = .returned (gv r.kd k n s (.slice a m c) k' n' s' (.slice a' m' c')) ∧ GAt w' w.heap.size H (gv r.kd k n s (.slice a m c) k' n' s' (.slice a' m' c')) r ∧ Below w.heap.size w w'
/-- The same, and its rows are the call's own. -/
def CGd (r : Gd) (w : World) (e : Ending) (w' : World) : Prop := ∃ H, CopyGO H r w e w'
theorem ReadGO.rgd {H : Nat} {r : Gd} {w : World} {e : Ending} {w' : World} (q : ReadGO H r w e w') : RGd r w e w' := by
  obtain ⟨v, rfl, hg, hb⟩ := q
  obtain ⟨k, n, s, u, k', n', s', u', rfl, h1, h2⟩ := hg
  have h1' := h1
  have h2' := h2
  obtain ⟨_, _, _, _, xs, e1, _, _, ha⟩ := h1'
  obtain ⟨_, _, _, _, ys, e2, _, _, hb'⟩ := h2'
  cases e1
  cases e2
  obtain ⟨a, c, rfl⟩ := ha.slice
  obtain ⟨a', c', rfl⟩ := hb'.slice
  exact ⟨H, k, n, s, a, _, c, k', n', s', a', _, c', rfl, ⟨k, n, s, _, k', n', s', _, rfl, h1, h2⟩, hb⟩
theorem CGd.rgd {r : Gd} {w : World} {e : Ending} {w' : World} (q : CGd r w e w') : RGd r w e w' := by
  obtain ⟨H, q⟩ := q
  exact q.read.rgd
/-- A guard in a new box, behind a region that makes the box somewhere among its calls. -/
def BoxG (W : World) (r : Gd) (pu : Value) (wc : World) : Prop :=
  ∃ B k n s a m c k' n' s' a' m' c' H, pu = .pointer (some ⟨B, 0, none⟩) ∧ wc.heap[B]? = some (grow 28 r.kd k n s (.slice a m c) k' n' s' (.slice a' m' c')) ∧ GAt wc W.heap.size H (gv r.kd k n s (.slice a m c) k' n' s' (.slice a' m' c')) r ∧ Below W.heap.size W wc ∧ W.heap.size ≤ B
theorem boxG_new {W w1 : World} {B h lo : Nat} {r : Gd} {k n : Int} {s : ByteArray} {a : Option Addr} {m c : Nat} {k' n' : Int} {s' : ByteArray} {a' : Option Addr} {m' c' : Nat} (hB : Below W.heap.size W w1) (ht : GAt w1 lo h (gv r.kd k n s (.slice a m c) k' n' s' (.slice a' m' c')) r) (hlo : W.heap.size ≤ lo) (hb : B = w1.heap.size) :
    BoxG W r (.pointer (some ⟨B, 0, none⟩)) (w1.alloc (.cells #[.int .i64 r.kd, .int .i64 k, .int .i64 n, .string s, .slice a m c, .int .i64 k', .int .i64 n', .string s', .slice a' m' c'] 28)) := by
  subst hb
  have hb1 : Below w1.heap.size w1 (w1.alloc (.cells #[.int .i64 r.kd, .int .i64 k, .int .i64 n, .string s, .slice a m c, .int .i64 k', .int .i64 n', .string s', .slice a' m' c'] 28)) := (Below.refl _ _).alloc (Nat.le_refl _) _
  exact ⟨_, k, n, s, a, m, c, k', n', s', a', m', c', h, rfl, heap_new _ _ rfl, (ht.below hb1).low hlo, hB.trans (hb1.mono hB.size), hB.size⟩
theorem setall9 {W : World} {b : Nat} {x0 x1 x2 x3 x4 x5 x6 x7 x8 : Value} {ty : TypeId} (h : W.heap[b]? = some (.cells #[x0, x1, x2, x3, x4, x5, x6, x7, x8] ty (0, 0))) (y0 y1 y2 y3 y4 y5 y6 y7 y8 : Value) :
    (((((((((W.setCell ⟨b, 0, none⟩ y0).setCell ⟨b, 1, none⟩ y1).setCell ⟨b, 2, none⟩ y2).setCell ⟨b, 3, none⟩ y3).setCell ⟨b, 4, none⟩ y4).setCell ⟨b, 5, none⟩ y5).setCell ⟨b, 6, none⟩ y6).setCell ⟨b, 7, none⟩ y7).setCell ⟨b, 8, none⟩ y8).heap[b]? = some (.cells #[y0, y1, y2, y3, y4, y5, y6, y7, y8] ty (0, 0)) := by
  have h0 := heap_set_atK h 0 y0
  have h1 := heap_set_atK h0 1 y1
  have h2 := heap_set_atK h1 2 y2
  have h3 := heap_set_atK h2 3 y3
  have h4 := heap_set_atK h3 4 y4
  have h5 := heap_set_atK h4 5 y5
  have h6 := heap_set_atK h5 6 y6
  have h7 := heap_set_atK h6 7 y7
  have h8 := heap_set_atK h7 8 y8
  simpa using h8
theorem boxG_set {W w1 : World} {B h lo : Nat} {r : Gd} {x0 x1 x2 x3 x4 x5 x6 x7 x8 : Value} {k n : Int} {s : ByteArray} {a : Option Addr} {m c : Nat} {k' n' : Int} {s' : ByteArray} {a' : Option Addr} {m' c' : Nat} (hB : Below W.heap.size W w1) (ht : GAt w1 lo h (gv r.kd k n s (.slice a m c) k' n' s' (.slice a' m' c')) r)
    (hZ : w1.heap[B]? = some (.cells #[x0, x1, x2, x3, x4, x5, x6, x7, x8] 28 (0, 0))) (hlo : B < lo) (hb : W.heap.size ≤ B) :
    BoxG W r (.pointer (some ⟨B, 0, none⟩)) (((((((((w1.setCell ⟨B, 0, none⟩ (.int .i64 r.kd)).setCell ⟨B, 1, none⟩ (.int .i64 k)).setCell ⟨B, 2, none⟩ (.int .i64 n)).setCell ⟨B, 3, none⟩ (.string s)).setCell ⟨B, 4, none⟩ (.slice a m c)).setCell ⟨B, 5, none⟩ (.int .i64 k')).setCell ⟨B, 6, none⟩ (.int .i64 n')).setCell ⟨B, 7, none⟩ (.string s')).setCell ⟨B, 8, none⟩ (.slice a' m' c')) := by
  obtain ⟨X, hX⟩ : ∃ X, X = (((((((((w1.setCell ⟨B, 0, none⟩ (.int .i64 r.kd)).setCell ⟨B, 1, none⟩ (.int .i64 k)).setCell ⟨B, 2, none⟩ (.int .i64 n)).setCell ⟨B, 3, none⟩ (.string s)).setCell ⟨B, 4, none⟩ (.slice a m c)).setCell ⟨B, 5, none⟩ (.int .i64 k')).setCell ⟨B, 6, none⟩ (.int .i64 n')).setCell ⟨B, 7, none⟩ (.string s')).setCell ⟨B, 8, none⟩ (.slice a' m' c')) := ⟨_, rfl⟩
  have hh : ∀ d, B < d → X.heap[d]? = w1.heap[d]? := fun d hd => by rw [hX, set9_heap (by omega)]
  have hbx : Below W.heap.size W X := by
    rw [hX]
    iterate 9 refine Below.setCell ?_ (by exact hb) _
    exact hB
  have hrow : X.heap[B]? = some (grow 28 r.kd k n s (.slice a m c) k' n' s' (.slice a' m' c')) := by rw [hX]; exact setall9 hZ _ _ _ _ _ _ _ _ _
  rw [← hX]
  exact ⟨_, k, n, s, a, m, c, k', n', s', a', m', c', h, rfl, hrow, (ht.same fun d d1 _ => hh d (by omega)).low (by omega), hbx, hb⟩
theorem zg_new {w w' : World} (hb : Below (w.alloc (.cells #[.int .i64 0, .int .i64 0, .int .i64 0, .string ⟨#[]⟩, .slice none 0 0, .int .i64 0, .int .i64 0, .string ⟨#[]⟩, .slice none 0 0] 28)).heap.size (w.alloc (.cells #[.int .i64 0, .int .i64 0, .int .i64 0, .string ⟨#[]⟩, .slice none 0 0, .int .i64 0, .int .i64 0, .string ⟨#[]⟩, .slice none 0 0] 28)) w') :
    w'.heap[w.heap.size]? = some (grow 28 0 0 0 ⟨#[]⟩ (.slice none 0 0) 0 0 ⟨#[]⟩ (.slice none 0 0)) := (hb.block _ (by simp)).trans (heap_new _ _ rfl)
theorem zg_drew {w w' : World} (hb : Below (w.alloc (.cells #[.int .i64 0, .int .i64 0, .int .i64 0, .string ⟨#[]⟩, .slice none 0 0, .int .i64 0, .int .i64 0, .string ⟨#[]⟩, .slice none 0 0] 28)).drew.heap.size (w.alloc (.cells #[.int .i64 0, .int .i64 0, .int .i64 0, .string ⟨#[]⟩, .slice none 0 0, .int .i64 0, .int .i64 0, .string ⟨#[]⟩, .slice none 0 0] 28)).drew w') :
    w'.heap[w.heap.size]? = some (grow 28 0 0 0 ⟨#[]⟩ (.slice none 0 0) 0 0 ⟨#[]⟩ (.slice none 0 0)) := zg_new (bel_drew hb)
theorem cells_of9g {Y : World} {b : Nat} {x0 x1 x2 x3 x4 x5 x6 x7 x8 : Value} {t : TypeId} (hb : Y.heap[b]? = some (.cells #[x0, x1, x2, x3, x4, x5, x6, x7, x8] t (0, 0))) :
    (Y.cell? ⟨b, 0, none⟩ = some x0 ∧ Y.cell? ⟨b, 1, none⟩ = some x1 ∧ Y.cell? ⟨b, 2, none⟩ = some x2 ∧ Y.cell? ⟨b, 3, none⟩ = some x3 ∧ Y.cell? ⟨b, 4, none⟩ = some x4 ∧ Y.cell? ⟨b, 5, none⟩ = some x5 ∧ Y.cell? ⟨b, 6, none⟩ = some x6 ∧ Y.cell? ⟨b, 7, none⟩ = some x7 ∧ Y.cell? ⟨b, 8, none⟩ = some x8) ∧
    Y.frozen? ⟨b, 0, none⟩ = false ∧ Y.frozen? ⟨b, 1, none⟩ = false ∧ Y.frozen? ⟨b, 2, none⟩ = false ∧ Y.frozen? ⟨b, 3, none⟩ = false ∧ Y.frozen? ⟨b, 4, none⟩ = false ∧ Y.frozen? ⟨b, 5, none⟩ = false ∧ Y.frozen? ⟨b, 6, none⟩ = false ∧ Y.frozen? ⟨b, 7, none⟩ = false ∧ Y.frozen? ⟨b, 8, none⟩ = false :=
  ⟨cells_of9 hb, frozen_of_row Y b 0 _ _ hb, frozen_of_row Y b 1 _ _ hb, frozen_of_row Y b 2 _ _ hb, frozen_of_row Y b 3 _ _ hb, frozen_of_row Y b 4 _ _ hb, frozen_of_row Y b 5 _ _ hb, frozen_of_row Y b 6 _ _ hb, frozen_of_row Y b 7 _ _ hb, frozen_of_row Y b 8 _ _ hb⟩
end Go.Proofs.YtidbokheeieifaaGreatDoor
