/-
  spec.ParseTerm: the valid term whose representation the text is, and true; else the zero term and false.
-/
import Derived.Test.YtooiiomfahomjaaGreatDoorQ27
import Derived.Test.YtooiiomfahomjaaGreatDoorQ17
import Derived.Test.YtooiiomfahomjaaGreatDoorQ15
namespace Go.Proofs.YtooiiomfahomjaaGreatDoor
open Go.RowKit

/-- What the model's parsing gives. -/
def ParseSEnd (L : List UInt8) (w : World) (e : Ending) (w' : World) : Prop :=
  Below w.heap.size w w' ∧ ((∃ k n nm a c xs H, e = .returned (.tuple #[tv k n nm (.slice a (xs : List T).length c), .bool true]) ∧ (ValidT (.node k n nm xs) ∧ textL (.node k n nm xs) = L ∧ L.length ≤ 600) ∧ wT (.node k n nm xs) ≤ 4000 ∧ nm.size ≤ maxLen ∧ OwnR (fun _ => True) w' H (w.heap.size + 1) w'.heap.size (.slice a xs.length c) xs) ∨
    (e = .returned (.tuple #[tv 0 0 ByteArray.empty (.slice none 0 0), .bool false]) ∧ (600 < L.length ∨ ∀ t, ValidT t → textL t ≠ L)))

theorem empty_text {t : T} (h : ValidT t) : textL t ≠ [] := by
  intro e
  have h1 := read_text t h.2.2
  rw [e] at h1
  unfold readR runR endR at h1
  simp [addS] at h1

/-- A text that the reader took for another term, or met an error in, is no representation. -/
theorem read_wrong {L : List UInt8} {t : T} {at2 : Nat} {bad : Bool} (hr : ReadsT L 1 0 t at2 bad) (h : bad = true ∨ fmtT t ≠ ⟨L.toArray⟩) : ∀ t0, ValidT t0 → textL t0 ≠ L := by
  intro t0 hv e
  obtain ⟨rfl, _, hb⟩ := hr t0 [] hv.2.2 (by have := hv.2.1; omega) hv.1 (by rw [e]; simp) (Or.inl rfl)
  rcases h with h | h
  · rw [hb] at h; cases h
  · apply h
    rw [fmtT_ok hv]
    unfold strT
    rw [e]
theorem pS_none {L : List UInt8} {w w' : World} (h : 600 < L.length ∨ ∀ t, ValidT t → textL t ≠ L) (hb : Below w.heap.size w w') : ParseSEnd L w (.returned (.tuple #[tv 0 0 ByteArray.empty (.slice none 0 0), .bool false])) w' := ⟨hb, Or.inr ⟨rfl, h⟩⟩
theorem pS_some {L : List UInt8} {w w' : World} {k n : Int} {nm : ByteArray} {a : Option Addr} {c H lo : Nat} {xs : List T} (h : ValidT (.node k n nm xs) ∧ textL (.node k n nm xs) = L ∧ L.length ≤ 600) (hw : wT (.node k n nm xs) ≤ 4000) (hnm : nm.size ≤ maxLen) (ho : OwnR (fun _ => True) w' H lo w'.heap.size (.slice a xs.length c) xs) (hlo : w.heap.size + 1 ≤ lo) (hb : Below w.heap.size w w') (v0 v1 v2 v3 : Value) :
    ParseSEnd L w (.returned (.tuple #[tv k n nm (.slice a xs.length c), .bool true])) ((((w'.setCell ⟨w.heap.size, 0, none⟩ v0).setCell ⟨w.heap.size, 1, none⟩ v1).setCell ⟨w.heap.size, 2, none⟩ v2).setCell ⟨w.heap.size, 3, none⟩ v3) := by
  have st : ∀ (W : World) (j : Nat) (v : Value), OwnR (fun _ => True) W H lo w'.heap.size (.slice a xs.length c) xs → OwnR (fun _ => True) (W.setCell ⟨w.heap.size, j, none⟩ v) H lo w'.heap.size (.slice a xs.length c) xs := fun W j v o =>
    o.keep fun b _ h1 _ => ⟨Below.heap_setCell _ _ _ _ (fun e => by simp at e; omega), trivial⟩
  exact ⟨leaf_below hb _ _ _ _, Or.inl ⟨k, n, nm, a, c, xs, H, rfl, h, hw, hnm, (st _ _ _ (st _ _ _ (st _ _ _ (st _ _ _ ho)))).wide hlo (by simp [World.setCell])⟩⟩

set_option maxRecDepth 100000 in
set_option maxHeartbeats 1600000 in
theorem sParse_any (s : ByteArray) (w : World) (hs : s.size ≤ 281474976710656) : Calls Tryz.prog 12 #[.string s] w (ParseSEnd s.data.toList w) := by
  have hsl : s.data.toList.length = s.size := by simp
  have HSL := Lib.hid hsl; clear hsl
  have hbz : Below w.heap.size w (w.alloc zRow) := bel_al _ _
  have HBZ := Lib.hid hbz; clear hbz
  by_cases hlen : 600 < s.size
  · have HF : Hid (ParseSEnd s.data.toList w (.returned (.tuple #[tv 0 0 ByteArray.empty (.slice none 0 0), .bool false])) (w.alloc zRow)) := Lib.hid (pS_none (Or.inl (by rw [HSL.out]; exact hlen)) HBZ.out)
    obtain ⟨⟨x0, x1, x2, x3⟩, f0, f1, f2, f3⟩ := cells4r (heap_new w zRow rfl)
    go_enter Tryz.func12, Tryz.ntmps12
    go_wp2
    (try simp only [Exit.inBlock, Exit.then])
    refine bodyPost_ret (v := .tuple #[tv 0 0 ByteArray.empty (.slice none 0 0), .bool false]) ?_ rfl ?_
    · refine results_ctR (a := 2) (b := 3) (t := 26) (ad := ⟨w.heap.size, 0, none⟩) rfl rfl _ _ ?_
      go_simp
      rfl
    · exact HF.out
  · go_enter Tryz.func12, Tryz.ntmps12
    have HCALL : Hid (Calls Tryz.prog 25 #[.pointer (some ⟨w.heap.size + 1, 0, none⟩), .int .i64 1] ((w.alloc zRow).alloc (RB s 0 false)) (TermEnd s 1 (w.heap.size + 1) 0 ((w.alloc zRow).alloc (RB s 0 false)))) :=
      Lib.hid (sTerm_any s (by omega) 1 (by omega) (w.heap.size + 1) 0 _ (heap_new (w.alloc zRow) (RB s 0 false) (by simp)) (Nat.zero_le _))
    have HB0 : Hid (Below w.heap.size w ((w.alloc zRow).alloc (RB s 0 false))) := Lib.hid (HBZ.out.alloc HBZ.out.size _)
    go_wp2_with fail
    refine HCALL.out.mono ?_
    rintro e w1 ⟨k, n, nm, a, c, xs, H, at2, bad, rfl, hr, hg, hrt, hpos, hwt, hown⟩
    have hgz : (w.alloc zRow).heap.size = w.heap.size + 1 := by simp
    have hgz2 : ((w.alloc zRow).alloc (RB s 0 false)).heap.size = w.heap.size + 2 := by simp
    have hb1 : Below w.heap.size w w1 := HB0.out.grown hg HB0.out.size (fun j e => by cases e; omega)
    have HB1 := Lib.hid hb1
    have HZR : Hid (w1.heap[w.heap.size]? = some zRow) := Lib.hid ((hg.block w.heap.size (by omega) (fun e => by have := Option.some.inj e; omega)).trans ((Below.heap_alloc _ _ _ (by simp)).trans (heap_new w zRow rfl)))
    have hs1 : w.heap.size + 2 ≤ w1.heap.size := by have := hg.size; omega
    rw [hgz2] at hown
    have HRW := Lib.hid (fun h t0 hv => read_wrong (L := s.data.toList) hrt h t0 hv); clear hrt
    have HRD := Lib.hid hr; clear hr
    have HWT : Hid (wT (.node k n nm xs) ≤ 4000 ∧ nm.size ≤ maxLen) := Lib.hid (by have h := hpos.2.2; have h2 := hwt; refine ⟨by omega, ?_⟩; rw [wT_node] at h2; unfold maxLen; omega)
    have HO := Lib.hid hown
    have HS1 := Lib.hid hs1
    clear hb1 hown hwt hpos hg hgz hgz2 hs1
    obtain ⟨⟨x0, x1, x2, x3⟩, f0, f1, f2, f3⟩ := cells4r HZR.out
    obtain ⟨⟨c0, c1, c2⟩, _⟩ := cells3r HRD.out
    have hz1 : w.heap.size + 1 < w1.heap.size := by have := HS1.out; omega
    have hz0 : w.heap.size < w1.heap.size := by omega
    obtain ⟨W2, hW2⟩ : ∃ W2, W2 = boxed w1 k n nm (.slice a xs.length c) := ⟨_, rfl⟩
    have hb2 : Below w1.heap.size w1 W2 := by rw [hW2]; exact boxed_below _ _ _ _ _
    have HO2 : Hid (∀ w3, Below W2.heap.size W2 w3 → OwnR (fun _ => True) w3 H (w.heap.size + 2) w3.heap.size (.slice a xs.length c) xs ∧ Below w.heap.size w w3 ∧ w3.heap[w.heap.size]? = some zRow ∧ w3.heap[w.heap.size + 1]? = some (RB s at2 bad) ∧
        (w3.cell? ⟨w1.heap.size, 0, none⟩ = some (.int .i64 k) ∧ w3.cell? ⟨w1.heap.size, 1, none⟩ = some (.int .i64 n) ∧ w3.cell? ⟨w1.heap.size, 2, none⟩ = some (.string nm) ∧ w3.cell? ⟨w1.heap.size, 3, none⟩ = some (.slice a xs.length c))) := Lib.hid (fun w3 hb3 => by
      have h13 : Below w1.heap.size w1 w3 := hb2.trans (hb3.mono hb2.size)
      refine ⟨(OwnR.keep (Q := fun _ => True) (w := w1) (fun b _ _ h2 => ⟨h13.block b h2, trivial⟩) HO.out).wide (Nat.le_refl _) h13.size, HB1.out.trans (h13.mono HB1.out.size), (h13.block _ hz0).trans HZR.out, (h13.block _ hz1).trans HRD.out, boxed_cells (by rw [← hW2]; exact hb3)⟩)
    cases bad with
    | true =>
      have HF : Hid (600 < s.data.toList.length ∨ ∀ t, ValidT t → textL t ≠ s.data.toList) := Lib.hid (Or.inr (HRW.out (Or.inl rfl)))
      clear hW2 hb2
      go_wp2
      (try simp only [Exit.inBlock, Exit.then])
      refine bodyPost_ret (v := .tuple #[tv 0 0 ByteArray.empty (.slice none 0 0), .bool false]) ?_ rfl ?_
      · refine results_ctR (a := 2) (b := 3) (t := 26) (ad := ⟨w.heap.size, 0, none⟩) rfl rfl _ _ ?_
        go_simp
        rfl
      · exact pS_none HF.out ((leaf_below HB1.out _ _ _ _).alloc (leaf_below HB1.out _ _ _ _).size _)
    | false =>
      by_cases h0 : s.size = 0
      · have HF : Hid (600 < s.data.toList.length ∨ ∀ t, ValidT t → textL t ≠ s.data.toList) := Lib.hid (Or.inr (fun t hv e => empty_text hv (by rw [e]; exact List.eq_nil_of_length_eq_zero (by rw [HSL.out]; exact h0))))
        obtain rfl := no_empty s h0
        clear hW2 hb2 h0
        go_wp2
        (try simp only [Exit.inBlock, Exit.then])
        refine bodyPost_ret (v := .tuple #[tv 0 0 ByteArray.empty (.slice none 0 0), .bool false]) ?_ rfl ?_
        · refine results_ctR (a := 2) (b := 3) (t := 26) (ad := ⟨w.heap.size, 0, none⟩) rfl rfl _ _ ?_
          go_simp
          rfl
        · exact pS_none HF.out ((leaf_below HB1.out _ _ _ _).alloc (leaf_below HB1.out _ _ _ _).size _)
      · obtain ⟨hne, hne2⟩ := some_byte s h0
        clear h0
        obtain ⟨hO2, hB2, hz2, hr2, d0, d1, d2, d3⟩ := HO2.out _ (Below.refl _ _)
        have HTA : Hid (TermAt W2 0 H (tv k n nm (.slice a xs.length c)) (.node k n nm xs)) := Lib.hid ⟨k, n, nm, _, xs, rfl, rfl, HWT.out.2, hO2.args (Nat.zero_le _)⟩
        obtain ⟨⟨e0, e1, e2⟩, _⟩ := cells3r hr2
        clear hO2 hB2 hz2 hr2 hb2
        unfold boxed at hW2
        go_wp2_with fail
        rw [← hW2]
        clear hW2
        refine (sFmtT_any _ (.node k n nm xs) 0 H W2 HTA.out (by have := HWT.out.1; omega)).mono ?_
        rintro e w3 ⟨rfl, hb3⟩
        obtain ⟨hO3, hB3, hz3, hr3, d0, d1, d2, d3⟩ := HO2.out _ hb3
        clear x0 x1 x2 x3 f0 f1 f2 f3
        obtain ⟨⟨x0, x1, x2, x3⟩, f0, f1, f2, f3⟩ := cells4r hz3
        have HB3 := Lib.hid hB3
        have HO3 := Lib.hid hO3
        obtain ⟨ft, hft⟩ : ∃ ft, ft = fmtT (.node k n nm xs) := ⟨_, rfl⟩
        rw [← hft]
        by_cases hf : ft = s
        · have hv : ValidT (.node k n nm xs) := by
            by_cases hv : ValidT (.node k n nm xs)
            · exact hv
            · rw [fmtT_no hv] at hft
              rw [hft] at hf
              rw [← hf] at hne
              simp at hne
          have htx : textL (.node k n nm xs) = s.data.toList := by
            rw [fmtT_ok hv] at hft
            rw [← hf, hft, strT_list]
          have HF := Lib.hid (pS_some ⟨hv, htx, by rw [HSL.out]; omega⟩ HWT.out.1 HWT.out.2 HO3.out (by omega) HB3.out)
          clear hv htx hft hO3 hB3 hb3 hz3 hr3 c0 c1 c2
          subst hf
          go_wp2
          (try simp only [Exit.inBlock, Exit.then])
          refine bodyPost_ret (v := .tuple #[tv k n nm (.slice a xs.length c), .bool true]) ?_ rfl ?_
          · refine results_ctR (a := 2) (b := 3) (t := 26) (ad := ⟨w.heap.size, 0, none⟩) rfl rfl _ _ ?_
            go_simp
          · exact HF.out _ _ _ _
        · have HF : Hid (600 < s.data.toList.length ∨ ∀ t, ValidT t → textL t ≠ s.data.toList) := Lib.hid (Or.inr (HRW.out (Or.inr (fun e => hf (by rw [hft, e, mk_data])))))
          have hnb : (!(ft.toList == s.toList)) = true := by
            cases h : (ft.toList == s.toList) with
            | true => exact absurd ((same_iff ft s).1 h) hf
            | false => rfl
          clear hft hO3 hB3 hb3 hz3 hr3 c0 c1 c2 hf
          go_wp2
          (try simp only [Exit.inBlock, Exit.then])
          refine bodyPost_ret (v := .tuple #[tv 0 0 ByteArray.empty (.slice none 0 0), .bool false]) ?_ rfl ?_
          · refine results_ctR (a := 2) (b := 3) (t := 26) (ad := ⟨w.heap.size, 0, none⟩) rfl rfl _ _ ?_
            go_simp
            rfl
          · exact pS_none HF.out (leaf_below HB3.out _ _ _ _)
end Go.Proofs.YtooiiomfahomjaaGreatDoor
