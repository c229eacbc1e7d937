/-
  spec.ParseTerm: the valid term whose representation the text is, and true; else the zero term and false.
  laws.heldTermS and laws.heldTerm find the marks that were written.
  The law on ParseTerm answers true at every string.
  laws.szTerm and laws.szTermS count what a term holds.
-/
import Derived.Test.YtidbokheeieifaaGreatDoorQ24
import Derived.Test.YtidbokheeieifaaGreatDoorQ6
import Derived.Test.YtidbokheeieifaaGreatDoorQ21
import Derived.Test.YtidbokheeieifaaGreatDoorQ16
import Derived.Test.YtidbokheeieifaaGreatDoorQ23
import Derived.Test.YtidbokheeieifaaGreatDoorQ14
import Derived.Test.YtidbokheeieifaaGreatDoorQ5
import Derived.WalkLawsBesides
import Derived.BigQuiet
import Derived.Deep.QuietTactic
namespace Go.Proofs.YtidbokheeieifaaGreatDoor
open Go.RowKit

/-- What the model's parsing gives. -/
def ParseSEnd (L : List UInt8) (w : World) (e : Ending) (w' : World) : Prop :=
  Below w.heap.size w w' ∧ ((∃ k n nm a c xs H, e = .returned (.tuple #[tv k n nm (.slice a (xs : List T).length c), .bool true]) ∧ (ValidT (.node k n nm xs) ∧ textL (.node k n nm xs) = L ∧ L.length ≤ 600) ∧ wT (.node k n nm xs) ≤ 4000 ∧ nm.size ≤ maxLen ∧ OwnR (fun _ => True) w' H (w.heap.size + 1) w'.heap.size (.slice a xs.length c) xs) ∨
    (e = .returned (.tuple #[tv 0 0 ByteArray.empty (.slice none 0 0), .bool false]) ∧ (600 < L.length ∨ ∀ t, ValidT t → textL t ≠ L)))

theorem empty_text {t : T} (h : ValidT t) : textL t ≠ [] := by
  intro e
  have h1 := read_text t h.2.2
  rw [e] at h1
  unfold readR runR endR at h1
  simp [addS] at h1

/-- A text that the reader took for another term, or met an error in, is no representation. -/
theorem read_wrong {L : List UInt8} {t : T} {at2 : Nat} {bad : Bool} (hr : ReadsT L 1 0 t at2 bad) (h : bad = true ∨ fmtT t ≠ ⟨L.toArray⟩) : ∀ t0, ValidT t0 → textL t0 ≠ L := by
  intro t0 hv e
  obtain ⟨rfl, _, hb⟩ := hr t0 [] hv.2.2 (by have := hv.2.1; omega) hv.1 (by rw [e]; simp) (Or.inl rfl)
  rcases h with h | h
  · rw [hb] at h; cases h
  · apply h
    rw [fmtT_ok hv]
    unfold strT
    rw [e]
theorem pS_none {L : List UInt8} {w w' : World} (h : 600 < L.length ∨ ∀ t, ValidT t → textL t ≠ L) (hb : Below w.heap.size w w') : ParseSEnd L w (.returned (.tuple #[tv 0 0 ByteArray.empty (.slice none 0 0), .bool false])) w' := ⟨hb, Or.inr ⟨rfl, h⟩⟩
theorem pS_some {L : List UInt8} {w w' : World} {k n : Int} {nm : ByteArray} {a : Option Addr} {c H lo : Nat} {xs : List T} (h : ValidT (.node k n nm xs) ∧ textL (.node k n nm xs) = L ∧ L.length ≤ 600) (hw : wT (.node k n nm xs) ≤ 4000) (hnm : nm.size ≤ maxLen) (ho : OwnR (fun _ => True) w' H lo w'.heap.size (.slice a xs.length c) xs) (hlo : w.heap.size + 1 ≤ lo) (hb : Below w.heap.size w w') (v0 v1 v2 v3 : Value) :
    ParseSEnd L w (.returned (.tuple #[tv k n nm (.slice a xs.length c), .bool true])) ((((w'.setCell ⟨w.heap.size, 0, none⟩ v0).setCell ⟨w.heap.size, 1, none⟩ v1).setCell ⟨w.heap.size, 2, none⟩ v2).setCell ⟨w.heap.size, 3, none⟩ v3) := by
  have st : ∀ (W : World) (j : Nat) (v : Value), OwnR (fun _ => True) W H lo w'.heap.size (.slice a xs.length c) xs → OwnR (fun _ => True) (W.setCell ⟨w.heap.size, j, none⟩ v) H lo w'.heap.size (.slice a xs.length c) xs := fun W j v o =>
    o.keep fun b _ h1 _ => ⟨Below.heap_setCell _ _ _ _ (fun e => by simp at e; omega), trivial⟩
  exact ⟨leaf_below hb _ _ _ _, Or.inl ⟨k, n, nm, a, c, xs, H, rfl, h, hw, hnm, (st _ _ _ (st _ _ _ (st _ _ _ (st _ _ _ ho)))).wide hlo (by simp [World.setCell])⟩⟩

set_option maxRecDepth 100000 in
set_option maxHeartbeats 1600000 in
theorem sParse_any (s : ByteArray) (w : World) (hs : s.size ≤ 281474976710656) : Calls Tryz.prog 27 #[.string s] w (ParseSEnd s.data.toList w) := by
  have hsl : s.data.toList.length = s.size := by simp
  have HSL := Lib.hid hsl; clear hsl
  have hbz : Below w.heap.size w (w.alloc zRow) := bel_al _ _
  have HBZ := Lib.hid hbz; clear hbz
  by_cases hlen : 600 < s.size
  · have HF : Hid (ParseSEnd s.data.toList w (.returned (.tuple #[tv 0 0 ByteArray.empty (.slice none 0 0), .bool false])) (w.alloc zRow)) := Lib.hid (pS_none (Or.inl (by rw [HSL.out]; exact hlen)) HBZ.out)
    obtain ⟨⟨x0, x1, x2, x3⟩, f0, f1, f2, f3⟩ := cells4r (heap_new w zRow rfl)
    go_enter Tryz.func27, Tryz.ntmps27
    go_wp2
    (try simp only [Exit.inBlock, Exit.then])
    refine bodyPost_ret (v := .tuple #[tv 0 0 ByteArray.empty (.slice none 0 0), .bool false]) ?_ rfl ?_
    · refine results_ctR (a := 2) (b := 3) (t := 26) (ad := ⟨w.heap.size, 0, none⟩) rfl rfl _ _ ?_
      go_simp
      rfl
    · exact HF.out
  · go_enter Tryz.func27, Tryz.ntmps27
    have HCALL : Hid (Calls Tryz.prog 46 #[.pointer (some ⟨w.heap.size + 1, 0, none⟩), .int .i64 1] ((w.alloc zRow).alloc (RB s 0 false)) (TermEnd s 1 (w.heap.size + 1) 0 ((w.alloc zRow).alloc (RB s 0 false)))) :=
      Lib.hid (sTerm_any s (by omega) 1 (by omega) (w.heap.size + 1) 0 _ (heap_new (w.alloc zRow) (RB s 0 false) (by simp)) (Nat.zero_le _))
    have HB0 : Hid (Below w.heap.size w ((w.alloc zRow).alloc (RB s 0 false))) := Lib.hid (HBZ.out.alloc HBZ.out.size _)
    go_wp2_with fail
    refine HCALL.out.mono ?_
    rintro e w1 ⟨k, n, nm, a, c, xs, H, at2, bad, rfl, hr, hg, hrt, hpos, hwt, hown⟩
    have hgz : (w.alloc zRow).heap.size = w.heap.size + 1 := by simp
    have hgz2 : ((w.alloc zRow).alloc (RB s 0 false)).heap.size = w.heap.size + 2 := by simp
    have hb1 : Below w.heap.size w w1 := HB0.out.grown hg HB0.out.size (fun j e => by cases e; omega)
    have HB1 := Lib.hid hb1
    have HZR : Hid (w1.heap[w.heap.size]? = some zRow) := Lib.hid ((hg.block w.heap.size (by omega) (fun e => by have := Option.some.inj e; omega)).trans ((Below.heap_alloc _ _ _ (by simp)).trans (heap_new w zRow rfl)))
    have hs1 : w.heap.size + 2 ≤ w1.heap.size := by have := hg.size; omega
    rw [hgz2] at hown
    have HRW := Lib.hid (fun h t0 hv => read_wrong (L := s.data.toList) hrt h t0 hv); clear hrt
    have HRD := Lib.hid hr; clear hr
    have HWT : Hid (wT (.node k n nm xs) ≤ 4000 ∧ nm.size ≤ maxLen) := Lib.hid (by have h := hpos.2.2; have h2 := hwt; refine ⟨by omega, ?_⟩; rw [wT_node] at h2; unfold maxLen; omega)
    have HO := Lib.hid hown
    have HS1 := Lib.hid hs1
    clear hb1 hown hwt hpos hg hgz hgz2 hs1
    obtain ⟨⟨x0, x1, x2, x3⟩, f0, f1, f2, f3⟩ := cells4r HZR.out
    obtain ⟨⟨c0, c1, c2⟩, _⟩ := cells3r HRD.out
    have hz1 : w.heap.size + 1 < w1.heap.size := by have := HS1.out; omega
    have hz0 : w.heap.size < w1.heap.size := by omega
    obtain ⟨W2, hW2⟩ : ∃ W2, W2 = boxed w1 k n nm (.slice a xs.length c) := ⟨_, rfl⟩
    have hb2 : Below w1.heap.size w1 W2 := by rw [hW2]; exact boxed_below _ _ _ _ _
    have HO2 : Hid (∀ w3, Below W2.heap.size W2 w3 → OwnR (fun _ => True) w3 H (w.heap.size + 2) w3.heap.size (.slice a xs.length c) xs ∧ Below w.heap.size w w3 ∧ w3.heap[w.heap.size]? = some zRow ∧ w3.heap[w.heap.size + 1]? = some (RB s at2 bad) ∧
        (w3.cell? ⟨w1.heap.size, 0, none⟩ = some (.int .i64 k) ∧ w3.cell? ⟨w1.heap.size, 1, none⟩ = some (.int .i64 n) ∧ w3.cell? ⟨w1.heap.size, 2, none⟩ = some (.string nm) ∧ w3.cell? ⟨w1.heap.size, 3, none⟩ = some (.slice a xs.length c))) := Lib.hid (fun w3 hb3 => by
      have h13 : Below w1.heap.size w1 w3 := hb2.trans (hb3.mono hb2.size)
      refine ⟨(OwnR.keep (Q := fun _ => True) (w := w1) (fun b _ _ h2 => ⟨h13.block b h2, trivial⟩) HO.out).wide (Nat.le_refl _) h13.size, HB1.out.trans (h13.mono HB1.out.size), (h13.block _ hz0).trans HZR.out, (h13.block _ hz1).trans HRD.out, boxed_cells (by rw [← hW2]; exact hb3)⟩)
    cases bad with
    | true =>
      have HF : Hid (600 < s.data.toList.length ∨ ∀ t, ValidT t → textL t ≠ s.data.toList) := Lib.hid (Or.inr (HRW.out (Or.inl rfl)))
      clear hW2 hb2
      go_wp2
      (try simp only [Exit.inBlock, Exit.then])
      refine bodyPost_ret (v := .tuple #[tv 0 0 ByteArray.empty (.slice none 0 0), .bool false]) ?_ rfl ?_
      · refine results_ctR (a := 2) (b := 3) (t := 26) (ad := ⟨w.heap.size, 0, none⟩) rfl rfl _ _ ?_
        go_simp
        rfl
      · exact pS_none HF.out ((leaf_below HB1.out _ _ _ _).alloc (leaf_below HB1.out _ _ _ _).size _)
    | false =>
      by_cases h0 : s.size = 0
      · have HF : Hid (600 < s.data.toList.length ∨ ∀ t, ValidT t → textL t ≠ s.data.toList) := Lib.hid (Or.inr (fun t hv e => empty_text hv (by rw [e]; exact List.eq_nil_of_length_eq_zero (by rw [HSL.out]; exact h0))))
        obtain rfl := no_empty s h0
        clear hW2 hb2 h0
        go_wp2
        (try simp only [Exit.inBlock, Exit.then])
        refine bodyPost_ret (v := .tuple #[tv 0 0 ByteArray.empty (.slice none 0 0), .bool false]) ?_ rfl ?_
        · refine results_ctR (a := 2) (b := 3) (t := 26) (ad := ⟨w.heap.size, 0, none⟩) rfl rfl _ _ ?_
          go_simp
          rfl
        · exact pS_none HF.out ((leaf_below HB1.out _ _ _ _).alloc (leaf_below HB1.out _ _ _ _).size _)
      · obtain ⟨hne, hne2⟩ := some_byte s h0
        clear h0
        obtain ⟨hO2, hB2, hz2, hr2, d0, d1, d2, d3⟩ := HO2.out _ (Below.refl _ _)
        have HTA : Hid (TermAt W2 0 H (tv k n nm (.slice a xs.length c)) (.node k n nm xs)) := Lib.hid ⟨k, n, nm, _, xs, rfl, rfl, HWT.out.2, hO2.args (Nat.zero_le _)⟩
        obtain ⟨⟨e0, e1, e2⟩, _⟩ := cells3r hr2
        clear hO2 hB2 hz2 hr2 hb2
        unfold boxed at hW2
        go_wp2_with fail
        rw [← hW2]
        clear hW2
        refine (sFmtT_any _ (.node k n nm xs) 0 H W2 HTA.out (by have := HWT.out.1; omega)).mono ?_
        rintro e w3 ⟨rfl, hb3⟩
        obtain ⟨hO3, hB3, hz3, hr3, d0, d1, d2, d3⟩ := HO2.out _ hb3
        clear x0 x1 x2 x3 f0 f1 f2 f3
        obtain ⟨⟨x0, x1, x2, x3⟩, f0, f1, f2, f3⟩ := cells4r hz3
        have HB3 := Lib.hid hB3
        have HO3 := Lib.hid hO3
        obtain ⟨ft, hft⟩ : ∃ ft, ft = fmtT (.node k n nm xs) := ⟨_, rfl⟩
        rw [← hft]
        by_cases hf : ft = s
        · have hv : ValidT (.node k n nm xs) := by
            by_cases hv : ValidT (.node k n nm xs)
            · exact hv
            · rw [fmtT_no hv] at hft
              rw [hft] at hf
              rw [← hf] at hne
              simp at hne
          have htx : textL (.node k n nm xs) = s.data.toList := by
            rw [fmtT_ok hv] at hft
            rw [← hf, hft, strT_list]
          have HF := Lib.hid (pS_some ⟨hv, htx, by rw [HSL.out]; omega⟩ HWT.out.1 HWT.out.2 HO3.out (by omega) HB3.out)
          clear hv htx hft hO3 hB3 hb3 hz3 hr3 c0 c1 c2
          subst hf
          go_wp2
          (try simp only [Exit.inBlock, Exit.then])
          refine bodyPost_ret (v := .tuple #[tv k n nm (.slice a xs.length c), .bool true]) ?_ rfl ?_
          · refine results_ctR (a := 2) (b := 3) (t := 26) (ad := ⟨w.heap.size, 0, none⟩) rfl rfl _ _ ?_
            go_simp
          · exact HF.out _ _ _ _
        · have HF : Hid (600 < s.data.toList.length ∨ ∀ t, ValidT t → textL t ≠ s.data.toList) := Lib.hid (Or.inr (HRW.out (Or.inr (fun e => hf (by rw [hft, e, mk_data])))))
          have hnb : (!(ft.toList == s.toList)) = true := by
            cases h : (ft.toList == s.toList) with
            | true => exact absurd ((same_iff ft s).1 h) hf
            | false => rfl
          clear hft hO3 hB3 hb3 hz3 hr3 c0 c1 c2 hf
          go_wp2
          (try simp only [Exit.inBlock, Exit.then])
          refine bodyPost_ret (v := .tuple #[tv 0 0 ByteArray.empty (.slice none 0 0), .bool false]) ?_ rfl ?_
          · refine results_ctR (a := 2) (b := 3) (t := 26) (ad := ⟨w.heap.size, 0, none⟩) rfl rfl _ _ ?_
            go_simp
            rfl
          · exact pS_none HF.out (leaf_below HB3.out _ _ _ _)
end Go.Proofs.YtidbokheeieifaaGreatDoor
namespace Go.Proofs.YtidbokheeieifaaGreatDoor
open Go.RowKit

def HeldSAt (h : Nat) : Prop := ∀ (u : Value) (ts : List T) (lo k : Nat) (w : World), ArgsAt w lo h u (mkS k ts) → 1 ≤ k → k + 3 * cS ts ≤ 2305843009213693952 →
  Calls Tryz.prog 61 #[u, .int .i64 k] w (NumB ((k + 3 * cS ts : Nat) : Int) w)

set_option maxRecDepth 100000 in
set_option maxHeartbeats 1600000 in
theorem heldS_step (h : Nat) (IH : ∀ h', h = h' + 1 → HeldSAt h') : HeldSAt h := by
  intro u ts lo k w ha hk hkc
  obtain ⟨a, cap, rfl⟩ := ha.slice
  rw [mkS_length] at ha ⊢
  have hl : ts.length ≤ 2305843009213693952 := by have := len_cS ts; omega
  have HA := Lib.hid ha; clear ha
  have HIH := Lib.hid IH; clear IH
  have HKC := Lib.hid hkc; clear hkc
  obtain ⟨m, hm⟩ : ∃ m, m = ts.length := ⟨_, rfl⟩
  rw [← hm] at HA hl ⊢
  have HM := Lib.hid hm; clear hm
  go_enter Tryz.func61, Tryz.ntmps61
  go_wp2
  go_loopw [1, 5] (fun q i wr => ∃ (j c : Nat), j ≤ m ∧ i = .int .i64 j ∧ q = .int .i64 c ∧ Hid (c = k + 3 * cS (ts.take j)) ∧ Hid (Below w.heap.size w wr)) (fun _ i _ => m - (intOf i).toNat)
  case atStart => exact ⟨0, k, Nat.zero_le _, rfl, rfl, Lib.hid (by simp [cS]), Lib.hid (Below.refl _ _)⟩
  case round =>
    obtain ⟨j, c, hj, rfl, rfl, HC, HB⟩ := hrel
    have hcb : c ≤ 2305843009213693952 := by have := HC.out; have := cS_take ts j; have := HKC.out; omega
    have hc1 : 1 ≤ c := by have := HC.out; omega
    by_cases hlt : j < m
    · obtain ⟨t, ht⟩ : ∃ t, ts[j]? = some t := ⟨_, List.getElem?_eq_getElem (by have := HM.out; omega)⟩
      have hmk := mkS_at ts k j t ht
      obtain ⟨tk1, tn1, ts1, txs⟩ := t
      rw [← HC.out, mkT_node] at hmk
      have hct : cS (ts.take (j + 1)) = cS (ts.take j) + (1 + cS txs) := by rw [tk ts j _ ht, cS_snoc, cT_node]
      have hctl := cS_take ts (j + 1)
      have HCT := Lib.hid hct
      have hcx : c + 3 + 3 * cS txs ≤ 2305843009213693952 := by have := HC.out; have := HKC.out; omega
      obtain ⟨h', b, o, kk, nn, s, xs, u', e, rfl, en, hs, d0, d1, d2, d3, har⟩ := HA.out.at hmk
      cases en
      have c0 := cell_on HB.out d0
      have c1 := cell_on HB.out d1
      have c2 := cell_on HB.out d2
      have c3 := cell_on HB.out d3
      have HAR := Lib.hid (har.below HB.out); clear har d0 d1 d2 d3 hct hctl ht hmk hs
      obtain ⟨ua, uc, rfl⟩ := HAR.out.slice
      have hb0 : Below wr.heap.size wr wr := Below.refl _ _
      have hgw : b < wr.heap.size := World.block_lt_of_cell? wr _ c2
      have hq0 : ((c : Int) != (c : Int)) = false := by simp
      have hq1 : ((c : Int) + 1 != (c : Int) + 1) = false := by simp
      have hq2 : ((mark (c + 2)).toList == (mark (c + 2)).toList) = true := by simp
      have hcall := fun (w' : World) (hb : Below wr.heap.size wr w') => HIH.out h' e _ txs lo (c + 3) w' (HAR.out.below hb) (by omega) hcx
      rw [mkS_length] at hcall c3
      have HCALL := Lib.hid hcall; clear hcall
      have hcast : ((c : Int) + 1 + 1) = ((c + 2 : Nat) : Int) := by omega
      go_wp2
      go_region_held3 (fun w' => w'.cell? ⟨b, o + j * 4 + 2, none⟩ = some (.string (mark (c + 2))) ∧ w'.cell? ⟨b, o + j * 4 + 3, none⟩ = some (.slice ua txs.length uc) ∧ Below wr.heap.size wr w')
        (first | exact ⟨cell_on (bel_drew (by assumption)) c2, cell_on (bel_drew (by assumption)) c3, bel_drew (by assumption)⟩ | exact ⟨c2, c3, Below.drew (Below.refl _ _)⟩ | go_keep)
        (first | (go_at_call 90; refine (markText_int _ (c + 2) _ (by omega) (by omega) (by omega)).mono ?_; rintro e w1 ⟨rfl, hb1⟩))
      have hb2 : Below wr.heap.size wr w1 := bel_drew hb1
      have HB2 := Lib.hid (HB.out.trans (hb2.mono HB.out.size))
      have d3 := cell_on hb2 c3
      have hcall := HCALL.out _ hb2
      have HCX := Lib.hid hcall; clear hcall hb2 hb1 hb0
      go_wp2_with fail
      first | rw [show ((c : Int) + 3) = ((c + 3 : Nat) : Int) by omega] | rw [show ((c : Int) + 2 + 1) = ((c + 3 : Nat) : Int) by omega] | rw [show ((c : Int) + 1 + 1 + 1) = ((c + 3 : Nat) : Int) by omega]
      refine HCX.out.mono ?_
      rintro e w2 ⟨rfl, hb3⟩
      have HB3 := Lib.hid (HB2.out.trans (hb3.mono HB2.out.size)); clear hb3
      have HC4 : Hid (c + 3 + 3 * cS txs = k + 3 * cS (ts.take (j + 1))) := Lib.hid (by have := HC.out; have := HCT.out; omega)
      have hpos : ¬ ((c + 3 + 3 * cS txs : Nat) : Int) < 0 := by omega
      go_wp2
      go_roundw
      case rel => exact ⟨j + 1, c + 3 + 3 * cS txs, by omega, by go_num, rfl, HC4, HB3⟩
      case measure => simp [intOf]; omega
    · have HD : Hid (c = k + 3 * cS ts) := Lib.hid (by
        have hjm : j = ts.length := by have := HM.out; omega
        rw [HC.out, hjm, List.take_length])
      go_wp2
      go_ret
      exact ⟨by rw [← HD.out]; rfl, HB.out⟩

theorem heldS_any (h : Nat) : HeldSAt h := by_height heldS_step h

set_option maxRecDepth 100000 in
set_option maxHeartbeats 800000 in
/-- laws.heldTerm, at a term over whose arguments the marks were written. -/
theorem heldT_any (kk nn : Int) (s : ByteArray) (u : Value) (xs : List T) (lo h k : Nat) (w : World) (ha : ArgsAt w lo h u (mkS k xs)) (hk : 1 ≤ k) (hkc : k + 3 * cS xs ≤ 2305843009213693952) :
    Calls Tryz.prog 38 #[tv kk nn s u, .int .i64 k] w (NumB ((k + 3 * cS xs : Nat) : Int) w) := by
  have hb0 := boxed_below w kk nn s u
  have hcall := heldS_any h u xs lo k _ (ha.below hb0) hk hkc
  obtain ⟨a, cap, rfl⟩ := ha.slice
  clear ha
  have HCALL := Lib.hid hcall; clear hcall
  have HB0 := Lib.hid hb0; clear hb0
  have hpos : ¬ ((k + 3 * cS xs : Nat) : Int) < 0 := by omega
  go_enter Tryz.func38, Tryz.ntmps38
  go_wp2_with fail
  refine HCALL.out.mono ?_
  rintro e w1 ⟨rfl, hb1⟩
  have HB1 := Lib.hid (HB0.out.trans (hb1.mono HB0.out.size)); clear hb1
  go_wp2
  go_ret
  exact ⟨rfl, HB1.out⟩
end Go.Proofs.YtidbokheeieifaaGreatDoor
namespace Go.Proofs.YtidbokheeieifaaGreatDoor
open Go.RowKit

open Classical in
/-- The valid term whose representation the text is. -/
noncomputable def parT (L : List UInt8) : Option T := if h : L.length ≤ 600 ∧ ∃ t, ValidT t ∧ textL t = L then some h.2.choose else none
theorem parT_some {L : List UInt8} {t : T} (h : ValidT t ∧ textL t = L ∧ L.length ≤ 600) : parT L = some t := by
  have hx : L.length ≤ 600 ∧ ∃ t, ValidT t ∧ textL t = L := ⟨h.2.2, t, h.1, h.2.1⟩
  unfold parT
  rw [dif_pos hx]
  exact congrArg some (text_inj hx.2.choose_spec.1.2.2 h.1.2.2 (hx.2.choose_spec.2.trans h.2.1.symm))
theorem parT_none {L : List UInt8} (h : 600 < L.length ∨ ∀ t, ValidT t → textL t ≠ L) : parT L = none := by
  unfold parT
  rw [dif_neg]
  rintro ⟨h1, t, h2, h3⟩
  rcases h with h | h
  · omega
  · exact h t h2 h3
/-- What parsing gives, of the program and of its model. -/
def ResP (L : List UInt8) (w : World) (e : Ending) (w' : World) : Prop := ResO (parT L).isSome ((parT L).getD zT) w e w' ∧ wT ((parT L).getD zT) ≤ 4000
theorem zT_w : wT zT ≤ 4000 := by rw [wT_node]; simp [wS]
theorem resP_no {L : List UInt8} {w w' : World} (h : 600 < L.length ∨ ∀ t, ValidT t → textL t ≠ L) (hb : Below w.heap.size w w') : ResP L w (.returned (.tuple #[tv 0 0 ByteArray.empty (.slice none 0 0), .bool false])) w' := by
  unfold ResP
  rw [parT_none h]
  exact ⟨⟨0, 0, ByteArray.empty, none, 0, 0, 0, [], rfl, rfl, Nat.zero_le _, OwnR.nil _ _ _ _ _ _ _, hb⟩, zT_w⟩
theorem resP_yes {L : List UInt8} {w w' : World} {k n : Int} {nm : ByteArray} {a : Option Addr} {m c H : Nat} {xs : List T} (h : ValidT (.node k n nm xs) ∧ textL (.node k n nm xs) = L ∧ L.length ≤ 600) (hw : wT (.node k n nm xs) ≤ 4000) (hnm : nm.size ≤ maxLen) (ho : OwnR (fun _ => True) w' H (w.heap.size + 1) w'.heap.size (.slice a m c) xs) (hb : Below w.heap.size w w') :
    ResP L w (.returned (.tuple #[tv k n nm (.slice a m c), .bool true])) w' := by
  unfold ResP
  rw [parT_some h]
  exact ⟨⟨k, n, nm, a, m, c, H, xs, rfl, rfl, hnm, ho.wide (by omega) (Nat.le_refl _), hb⟩, hw⟩
theorem resP_s {L : List UInt8} {w w' : World} {e : Ending} (h : ParseSEnd L w e w') : ResP L w e w' := by
  obtain ⟨hb, ⟨k, n, nm, a, c, xs, H, rfl, hv, hw, hnm, ho⟩ | ⟨rfl, hno⟩⟩ := h
  · exact resP_yes hv hw hnm ho hb
  · exact resP_no hno hb
theorem resP_i {L : List UInt8} {w w' : World} {e : Ending} (h : ParseEnd L w e w') : ResP L w e w' := by
  obtain ⟨hb, ⟨t, k, n, nm, a, m, c, xs, H, rfl, rfl, hv, hw, hnm, ho⟩ | ⟨rfl, hno⟩⟩ := h
  · exact resP_yes hv hw hnm ho hb
  · exact resP_no hno hb

/-- laws.eqTerm, whatever the heights of the readings. -/
theorem eqT_twoP (v v' : Value) (t : T) (lo lo' h h' : Nat) (w : World) (ht : TermAt w lo h v t) (ht' : TermAt w lo' h' v' t) : Calls Tryz.prog 36 #[v, v'] w (TrueB w) :=
  eqT_any v v' t lo lo' (max h h') w (ht.le (Nat.le_max_left _ _)) (ht'.le (Nat.le_max_right _ _))

end Go.Proofs.YtidbokheeieifaaGreatDoor
namespace Go.Proofs.YtidbokheeieifaaGreatDoor
open Go.RowKit

/-- What the count says. -/
def TSz (m : Nat) (left : Int) (w : World) (e : Ending) (w' : World) : Prop :=
  ∃ r : Int, e = .returned (.int .i64 r) ∧ Below w.heap.size w w' ∧ -1 ≤ r ∧ (0 ≤ r → r + m ≤ left)

end Go.Proofs.YtidbokheeieifaaGreatDoor
