/-
  spec.ParseTerm: the valid term whose representation the text is, and true; else the zero term and false.
  laws.eqTerm and laws.eqTermS answer true at two terms that are one tree.
-/
import Derived.Test.YtooiiomfahomjaaDoorQ28
import Derived.Test.YtooiiomfahomjaaDoorQ19
import Derived.Test.YtooiiomfahomjaaDoorQ17
import Derived.Test.YtooiiomfahomjaaDoorQ4
import Derived.WalkLawsBesides
import Derived.BigQuiet
import Derived.Deep.QuietTactic
import Derived.Deep.RegionHeld3
namespace Go.Proofs.YtooiiomfahomjaaDoor
open Go.RowKit

/-- What the model's parsing gives. -/
def ParseSEnd (L : List UInt8) (w : World) (e : Ending) (w' : World) : Prop :=
  Below w.heap.size w w' ∧ ((∃ k n nm a c xs H, e = .returned (.tuple #[tv k n nm (.slice a (xs : List T).length c), .bool true]) ∧ (ValidT (.node k n nm xs) ∧ textL (.node k n nm xs) = L ∧ L.length ≤ 600) ∧ wT (.node k n nm xs) ≤ 4000 ∧ nm.size ≤ maxLen ∧ OwnR (fun _ => True) w' H (w.heap.size + 1) w'.heap.size (.slice a xs.length c) xs) ∨
    (e = .returned (.tuple #[tv 0 0 ByteArray.empty (.slice none 0 0), .bool false]) ∧ (600 < L.length ∨ ∀ t, ValidT t → textL t ≠ L)))

theorem empty_text {t : T} (h : ValidT t) : textL t ≠ [] := by
  intro e
  have h1 := read_text t h.2.2
  rw [e] at h1
  unfold readR runR endR at h1
  simp [addS] at h1

/-- A text that the reader took for another term, or met an error in, is no representation. -/
theorem read_wrong {L : List UInt8} {t : T} {at2 : Nat} {bad : Bool} (hr : ReadsT L 1 0 t at2 bad) (h : bad = true ∨ fmtT t ≠ ⟨L.toArray⟩) : ∀ t0, ValidT t0 → textL t0 ≠ L := by
  intro t0 hv e
  obtain ⟨rfl, _, hb⟩ := hr t0 [] hv.2.2 (by have := hv.2.1; omega) hv.1 (by rw [e]; simp) (Or.inl rfl)
  rcases h with h | h
  · rw [hb] at h; cases h
  · apply h
    rw [fmtT_ok hv]
    unfold strT
    rw [e]
theorem pS_none {L : List UInt8} {w w' : World} (h : 600 < L.length ∨ ∀ t, ValidT t → textL t ≠ L) (hb : Below w.heap.size w w') : ParseSEnd L w (.returned (.tuple #[tv 0 0 ByteArray.empty (.slice none 0 0), .bool false])) w' := ⟨hb, Or.inr ⟨rfl, h⟩⟩
theorem pS_some {L : List UInt8} {w w' : World} {k n : Int} {nm : ByteArray} {a : Option Addr} {c H lo : Nat} {xs : List T} (h : ValidT (.node k n nm xs) ∧ textL (.node k n nm xs) = L ∧ L.length ≤ 600) (hw : wT (.node k n nm xs) ≤ 4000) (hnm : nm.size ≤ maxLen) (ho : OwnR (fun _ => True) w' H lo w'.heap.size (.slice a xs.length c) xs) (hlo : w.heap.size + 1 ≤ lo) (hb : Below w.heap.size w w') (v0 v1 v2 v3 : Value) :
    ParseSEnd L w (.returned (.tuple #[tv k n nm (.slice a xs.length c), .bool true])) ((((w'.setCell ⟨w.heap.size, 0, none⟩ v0).setCell ⟨w.heap.size, 1, none⟩ v1).setCell ⟨w.heap.size, 2, none⟩ v2).setCell ⟨w.heap.size, 3, none⟩ v3) := by
  have st : ∀ (W : World) (j : Nat) (v : Value), OwnR (fun _ => True) W H lo w'.heap.size (.slice a xs.length c) xs → OwnR (fun _ => True) (W.setCell ⟨w.heap.size, j, none⟩ v) H lo w'.heap.size (.slice a xs.length c) xs := fun W j v o =>
    o.keep fun b _ h1 _ => ⟨Below.heap_setCell _ _ _ _ (fun e => by simp at e; omega), trivial⟩
  exact ⟨leaf_below hb _ _ _ _, Or.inl ⟨k, n, nm, a, c, xs, H, rfl, h, hw, hnm, (st _ _ _ (st _ _ _ (st _ _ _ (st _ _ _ ho)))).wide hlo (by simp [World.setCell])⟩⟩

set_option maxRecDepth 100000 in
set_option maxHeartbeats 1600000 in
theorem sParse_any (s : ByteArray) (w : World) (hs : s.size ≤ 281474976710656) : Calls Tryd.prog 21 #[.string s] w (ParseSEnd s.data.toList w) := by
  have hsl : s.data.toList.length = s.size := by simp
  have HSL := Lib.hid hsl; clear hsl
  have hbz : Below w.heap.size w (w.alloc zRow) := bel_al _ _
  have HBZ := Lib.hid hbz; clear hbz
  by_cases hlen : 600 < s.size
  · have HF : Hid (ParseSEnd s.data.toList w (.returned (.tuple #[tv 0 0 ByteArray.empty (.slice none 0 0), .bool false])) (w.alloc zRow)) := Lib.hid (pS_none (Or.inl (by rw [HSL.out]; exact hlen)) HBZ.out)
    obtain ⟨⟨x0, x1, x2, x3⟩, f0, f1, f2, f3⟩ := cells4r (heap_new w zRow rfl)
    go_enter Tryd.func21, Tryd.ntmps21
    go_wp2
    (try simp only [Exit.inBlock, Exit.then])
    refine bodyPost_ret (v := .tuple #[tv 0 0 ByteArray.empty (.slice none 0 0), .bool false]) ?_ rfl ?_
    · refine results_ctR (a := 2) (b := 3) (t := 26) (ad := ⟨w.heap.size, 0, none⟩) rfl rfl _ _ ?_
      go_simp
      rfl
    · exact HF.out
  · go_enter Tryd.func21, Tryd.ntmps21
    have HCALL : Hid (Calls Tryd.prog 44 #[.pointer (some ⟨w.heap.size + 1, 0, none⟩), .int .i64 1] ((w.alloc zRow).alloc (RB s 0 false)) (TermEnd s 1 (w.heap.size + 1) 0 ((w.alloc zRow).alloc (RB s 0 false)))) :=
      Lib.hid (sTerm_any s (by omega) 1 (by omega) (w.heap.size + 1) 0 _ (heap_new (w.alloc zRow) (RB s 0 false) (by simp)) (Nat.zero_le _))
    have HB0 : Hid (Below w.heap.size w ((w.alloc zRow).alloc (RB s 0 false))) := Lib.hid (HBZ.out.alloc HBZ.out.size _)
    go_wp2_with fail
    refine HCALL.out.mono ?_
    rintro e w1 ⟨k, n, nm, a, c, xs, H, at2, bad, rfl, hr, hg, hrt, hpos, hwt, hown⟩
    have hgz : (w.alloc zRow).heap.size = w.heap.size + 1 := by simp
    have hgz2 : ((w.alloc zRow).alloc (RB s 0 false)).heap.size = w.heap.size + 2 := by simp
    have hb1 : Below w.heap.size w w1 := HB0.out.grown hg HB0.out.size (fun j e => by cases e; omega)
    have HB1 := Lib.hid hb1
    have HZR : Hid (w1.heap[w.heap.size]? = some zRow) := Lib.hid ((hg.block w.heap.size (by omega) (fun e => by have := Option.some.inj e; omega)).trans ((Below.heap_alloc _ _ _ (by simp)).trans (heap_new w zRow rfl)))
    have hs1 : w.heap.size + 2 ≤ w1.heap.size := by have := hg.size; omega
    rw [hgz2] at hown
    have HRW := Lib.hid (fun h t0 hv => read_wrong (L := s.data.toList) hrt h t0 hv); clear hrt
    have HRD := Lib.hid hr; clear hr
    have HWT : Hid (wT (.node k n nm xs) ≤ 4000 ∧ nm.size ≤ maxLen) := Lib.hid (by have h := hpos.2.2; have h2 := hwt; refine ⟨by omega, ?_⟩; rw [wT_node] at h2; unfold maxLen; omega)
    have HO := Lib.hid hown
    have HS1 := Lib.hid hs1
    clear hb1 hown hwt hpos hg hgz hgz2 hs1
    obtain ⟨⟨x0, x1, x2, x3⟩, f0, f1, f2, f3⟩ := cells4r HZR.out
    obtain ⟨⟨c0, c1, c2⟩, _⟩ := cells3r HRD.out
    have hz1 : w.heap.size + 1 < w1.heap.size := by have := HS1.out; omega
    have hz0 : w.heap.size < w1.heap.size := by omega
    obtain ⟨W2, hW2⟩ : ∃ W2, W2 = boxed w1 k n nm (.slice a xs.length c) := ⟨_, rfl⟩
    have hb2 : Below w1.heap.size w1 W2 := by rw [hW2]; exact boxed_below _ _ _ _ _
    have HO2 : Hid (∀ w3, Below W2.heap.size W2 w3 → OwnR (fun _ => True) w3 H (w.heap.size + 2) w3.heap.size (.slice a xs.length c) xs ∧ Below w.heap.size w w3 ∧ w3.heap[w.heap.size]? = some zRow ∧ w3.heap[w.heap.size + 1]? = some (RB s at2 bad) ∧
        (w3.cell? ⟨w1.heap.size, 0, none⟩ = some (.int .i64 k) ∧ w3.cell? ⟨w1.heap.size, 1, none⟩ = some (.int .i64 n) ∧ w3.cell? ⟨w1.heap.size, 2, none⟩ = some (.string nm) ∧ w3.cell? ⟨w1.heap.size, 3, none⟩ = some (.slice a xs.length c))) := Lib.hid (fun w3 hb3 => by
      have h13 : Below w1.heap.size w1 w3 := hb2.trans (hb3.mono hb2.size)
      refine ⟨(OwnR.keep (Q := fun _ => True) (w := w1) (fun b _ _ h2 => ⟨h13.block b h2, trivial⟩) HO.out).wide (Nat.le_refl _) h13.size, HB1.out.trans (h13.mono HB1.out.size), (h13.block _ hz0).trans HZR.out, (h13.block _ hz1).trans HRD.out, boxed_cells (by rw [← hW2]; exact hb3)⟩)
    cases bad with
    | true =>
      have HF : Hid (600 < s.data.toList.length ∨ ∀ t, ValidT t → textL t ≠ s.data.toList) := Lib.hid (Or.inr (HRW.out (Or.inl rfl)))
      clear hW2 hb2
      go_wp2
      (try simp only [Exit.inBlock, Exit.then])
      refine bodyPost_ret (v := .tuple #[tv 0 0 ByteArray.empty (.slice none 0 0), .bool false]) ?_ rfl ?_
      · refine results_ctR (a := 2) (b := 3) (t := 26) (ad := ⟨w.heap.size, 0, none⟩) rfl rfl _ _ ?_
        go_simp
        rfl
      · exact pS_none HF.out ((leaf_below HB1.out _ _ _ _).alloc (leaf_below HB1.out _ _ _ _).size _)
    | false =>
      by_cases h0 : s.size = 0
      · have HF : Hid (600 < s.data.toList.length ∨ ∀ t, ValidT t → textL t ≠ s.data.toList) := Lib.hid (Or.inr (fun t hv e => empty_text hv (by rw [e]; exact List.eq_nil_of_length_eq_zero (by rw [HSL.out]; exact h0))))
        obtain rfl := no_empty s h0
        clear hW2 hb2 h0
        go_wp2
        (try simp only [Exit.inBlock, Exit.then])
        refine bodyPost_ret (v := .tuple #[tv 0 0 ByteArray.empty (.slice none 0 0), .bool false]) ?_ rfl ?_
        · refine results_ctR (a := 2) (b := 3) (t := 26) (ad := ⟨w.heap.size, 0, none⟩) rfl rfl _ _ ?_
          go_simp
          rfl
        · exact pS_none HF.out ((leaf_below HB1.out _ _ _ _).alloc (leaf_below HB1.out _ _ _ _).size _)
      · obtain ⟨hne, hne2⟩ := some_byte s h0
        clear h0
        obtain ⟨hO2, hB2, hz2, hr2, d0, d1, d2, d3⟩ := HO2.out _ (Below.refl _ _)
        have HTA : Hid (TermAt W2 0 H (tv k n nm (.slice a xs.length c)) (.node k n nm xs)) := Lib.hid ⟨k, n, nm, _, xs, rfl, rfl, HWT.out.2, hO2.args (Nat.zero_le _)⟩
        obtain ⟨⟨e0, e1, e2⟩, _⟩ := cells3r hr2
        clear hO2 hB2 hz2 hr2 hb2
        unfold boxed at hW2
        go_wp2_with fail
        rw [← hW2]
        clear hW2
        refine (sFmtT_any _ (.node k n nm xs) 0 H W2 HTA.out (by have := HWT.out.1; omega)).mono ?_
        rintro e w3 ⟨rfl, hb3⟩
        obtain ⟨hO3, hB3, hz3, hr3, d0, d1, d2, d3⟩ := HO2.out _ hb3
        clear x0 x1 x2 x3 f0 f1 f2 f3
        obtain ⟨⟨x0, x1, x2, x3⟩, f0, f1, f2, f3⟩ := cells4r hz3
        have HB3 := Lib.hid hB3
        have HO3 := Lib.hid hO3
        obtain ⟨ft, hft⟩ : ∃ ft, ft = fmtT (.node k n nm xs) := ⟨_, rfl⟩
        rw [← hft]
        by_cases hf : ft = s
        · have hv : ValidT (.node k n nm xs) := by
            by_cases hv : ValidT (.node k n nm xs)
            · exact hv
            · rw [fmtT_no hv] at hft
              rw [hft] at hf
              rw [← hf] at hne
              simp at hne
          have htx : textL (.node k n nm xs) = s.data.toList := by
            rw [fmtT_ok hv] at hft
            rw [← hf, hft, strT_list]
          have HF := Lib.hid (pS_some ⟨hv, htx, by rw [HSL.out]; omega⟩ HWT.out.1 HWT.out.2 HO3.out (by omega) HB3.out)
          clear hv htx hft hO3 hB3 hb3 hz3 hr3 c0 c1 c2
          subst hf
          go_wp2
          (try simp only [Exit.inBlock, Exit.then])
          refine bodyPost_ret (v := .tuple #[tv k n nm (.slice a xs.length c), .bool true]) ?_ rfl ?_
          · refine results_ctR (a := 2) (b := 3) (t := 26) (ad := ⟨w.heap.size, 0, none⟩) rfl rfl _ _ ?_
            go_simp
          · exact HF.out _ _ _ _
        · have HF : Hid (600 < s.data.toList.length ∨ ∀ t, ValidT t → textL t ≠ s.data.toList) := Lib.hid (Or.inr (HRW.out (Or.inr (fun e => hf (by rw [hft, e, mk_data])))))
          have hnb : (!(ft.toList == s.toList)) = true := by
            cases h : (ft.toList == s.toList) with
            | true => exact absurd ((same_iff ft s).1 h) hf
            | false => rfl
          clear hft hO3 hB3 hb3 hz3 hr3 c0 c1 c2 hf
          go_wp2
          (try simp only [Exit.inBlock, Exit.then])
          refine bodyPost_ret (v := .tuple #[tv 0 0 ByteArray.empty (.slice none 0 0), .bool false]) ?_ rfl ?_
          · refine results_ctR (a := 2) (b := 3) (t := 26) (ad := ⟨w.heap.size, 0, none⟩) rfl rfl _ _ ?_
            go_simp
            rfl
          · exact pS_none HF.out (leaf_below HB3.out _ _ _ _)
end Go.Proofs.YtooiiomfahomjaaDoor
namespace Go.Proofs.YtooiiomfahomjaaDoor
open Go.RowKit

/-- The eight cells of two structs, and that what was there is there. -/
def Cells8 (wr : World) (b o b' o' : Nat) (k n : Int) (s : ByteArray) (u u' : Value) (w' : World) : Prop :=
  w'.cell? ⟨b, o, none⟩ = some (.int .i64 k) ∧ w'.cell? ⟨b, o + 1, none⟩ = some (.int .i64 n) ∧ w'.cell? ⟨b, o + 2, none⟩ = some (.string s) ∧ w'.cell? ⟨b, o + 3, none⟩ = some u ∧
  w'.cell? ⟨b', o', none⟩ = some (.int .i64 k) ∧ w'.cell? ⟨b', o' + 1, none⟩ = some (.int .i64 n) ∧ w'.cell? ⟨b', o' + 2, none⟩ = some (.string s) ∧ w'.cell? ⟨b', o' + 3, none⟩ = some u' ∧ Below wr.heap.size wr w'

theorem Cells8.on {wr w' : World} {b o b' o' : Nat} {k n : Int} {s : ByteArray} {u u' : Value} (h : Cells8 wr b o b' o' k n s u u' wr) (hb : Below wr.heap.size wr w') : Cells8 wr b o b' o' k n s u u' w' := by
  obtain ⟨c0, c1, c2, c3, d0, d1, d2, d3, _⟩ := h
  have keep : ∀ {ad : Addr} {v : Value}, wr.cell? ad = some v → w'.cell? ad = some v := fun {ad} {v} hv => by rw [hb.cell (World.block_lt_of_cell? wr _ hv)]; exact hv
  exact ⟨keep c0, keep c1, keep c2, keep c3, keep d0, keep d1, keep d2, keep d3, hb⟩

theorem bel_drew {wr w1 : World} (hb : Below wr.drew.heap.size wr.drew w1) : Below wr.heap.size wr w1 := ((Below.refl _ _).drew).trans hb

def TrueB (w : World) (e : Ending) (w' : World) : Prop := e = .returned (.bool true) ∧ Below w.heap.size w w'

def EqSAt (lo lo' h : Nat) : Prop := ∀ (u u' : Value) (ts : List T) (w : World), ArgsAt w lo h u ts → ArgsAt w lo' h u' ts →
  Calls Tryd.prog 43 #[u, u'] w (TrueB w)

set_option maxRecDepth 100000 in
set_option maxHeartbeats 800000 in
theorem eqT_of {lo lo' h : Nat} (hS : EqSAt lo lo' h) (k n : Int) (s : ByteArray) (u u' : Value) (xs : List T) (w : World) (ha : ArgsAt w lo h u xs) (ha' : ArgsAt w lo' h u' xs) :
    Calls Tryd.prog 20 #[tv k n s u, tv k n s u'] w (TrueB w) := by
  have hb0 : Below w.heap.size w ((w.alloc (.cells #[.int .i64 k, .int .i64 n, .string s, u] 26)).alloc (.cells #[.int .i64 k, .int .i64 n, .string s, u'] 26)) := ((Below.refl _ _).alloc (Nat.le_refl _) _).alloc (by simp) _
  have hc := hS u u' xs _ (ha.below hb0) (ha'.below hb0)
  have HC := Lib.hid hc; clear hc ha ha'
  have HB0 := Lib.hid hb0; clear hb0
  have e1 : (k != k) = false := by simp
  have e2 : (n != n) = false := by simp
  have e3 : (s.toList == s.toList) = true := by simp
  go_enter Tryd.func20, Tryd.ntmps20
  go_wp2_with fail
  refine HC.out.mono ?_
  rintro e w1 ⟨rfl, hb1⟩
  have HB1 := Lib.hid (HB0.out.trans (hb1.mono HB0.out.size)); clear hb1
  go_wp2
  go_ret
  exact ⟨rfl, HB1.out⟩

set_option maxRecDepth 100000 in
set_option maxHeartbeats 400000 in
theorem eqS_empty (a b : Option Addr) (c d : Nat) (w : World) :
    Calls Tryd.prog 43 #[.slice a 0 c, .slice b 0 d] w (TrueB w) := by
  go_enter Tryd.func43, Tryd.ntmps43
  go_wp2
  refine wp_loop_rounds 1 ?_
  rw [rounds_succ]
  go_wp2
  go_ret
  exact ⟨rfl, Below.refl _ _⟩

set_option maxRecDepth 100000 in
set_option maxHeartbeats 1600000 in
theorem eqS_some {lo lo' h : Nat} (hS : EqSAt lo lo' h) (b o cap b' o' cap' : Nat) (ts : List T) (w : World) (hl : ts.length ≤ maxLen) (hc : RowAt w lo h b o ts) (hc' : RowAt w lo' h b' o' ts) :
    Calls Tryd.prog 43 #[.slice (some ⟨b, o, none⟩) ts.length cap, .slice (some ⟨b', o', none⟩) ts.length cap'] w (TrueB w) := by
  have HC := Lib.hid hc; clear hc
  have HC' := Lib.hid hc'; clear hc'
  have HSS := Lib.hid hS; clear hS
  obtain ⟨n, hn⟩ : ∃ n, n = ts.length := ⟨_, rfl⟩
  have hl2 : ts.length ≤ 9223372036854775807 := by unfold maxLen at hl; omega
  clear hl
  rw [← hn] at hl2 ⊢
  have HN := Lib.hid hn; clear hn
  go_enter Tryd.func43, Tryd.ntmps43
  go_wp2
  go_loopw [5] (fun i wr => ∃ k : Nat, k ≤ n ∧ i = .int .i64 k ∧ Hid (Below w.heap.size w wr)) (fun i _ => n - (intOf i).toNat)
  case atStart => exact ⟨0, Nat.zero_le _, rfl, Lib.hid (Below.refl _ _)⟩
  case round =>
    obtain ⟨k, hk, rfl, HB⟩ := hrel
    by_cases hlt : k < n
    · obtain ⟨t, ht⟩ : ∃ t, ts[k]? = some t := ⟨_, List.getElem?_eq_getElem (by have := HN.out; omega)⟩
      obtain ⟨tk', tn, tsn, txs⟩ := t
      obtain ⟨_, u1, c0, c1, c2, c3, har⟩ := HC.out k _ _ _ _ ht
      obtain ⟨_, u2, d0, d1, d2, d3, har'⟩ := HC'.out k _ _ _ _ ht
      have keep : ∀ {ad : Addr} {v : Value}, w.cell? ad = some v → wr.cell? ad = some v := fun {ad} {v} hv => by rw [HB.out.cell (World.block_lt_of_cell? w _ hv)]; exact hv
      have h8 : Cells8 wr b (o + k * 4) b' (o' + k * 4) tk' tn tsn u1 u2 wr := ⟨keep c0, keep c1, keep c2, keep c3, keep d0, keep d1, keep d2, keep d3, Below.refl _ _⟩
      have HAR := Lib.hid (har.below HB.out); clear har
      have HAR' := Lib.hid (har'.below HB.out); clear har'
      clear c0 c1 c2 c3 d0 d1 d2 d3 keep ht
      have HK : Hid (∀ w', Below wr.heap.size wr w' → Cells8 wr b (o + k * 4) b' (o' + k * 4) tk' tn tsn u1 u2 w') := Lib.hid (fun w' hb => h8.on hb)
      have HCALL : Hid (∀ w', Below wr.heap.size wr w' → Calls Tryd.prog 20 #[tv tk' tn tsn u1, tv tk' tn tsn u2] w' (TrueB w')) := Lib.hid (fun w' hb => eqT_of HSS.out tk' tn tsn u1 u2 txs w' (HAR.out.below hb) (HAR'.out.below hb))
      obtain ⟨c0, c1, c2, c3, d0, d1, d2, d3, hb0⟩ := h8
      go_wp2
      go_region_held3 (fun w' => w'.cell? ⟨b, o + k * 4, none⟩ = some (.int .i64 tk') ∧ w'.cell? ⟨b, o + k * 4 + 1, none⟩ = some (.int .i64 tn) ∧ w'.cell? ⟨b, o + k * 4 + 2, none⟩ = some (.string tsn) ∧ w'.cell? ⟨b, o + k * 4 + 3, none⟩ = some u1 ∧
          w'.cell? ⟨b', o' + k * 4, none⟩ = some (.int .i64 tk') ∧ w'.cell? ⟨b', o' + k * 4 + 1, none⟩ = some (.int .i64 tn) ∧ w'.cell? ⟨b', o' + k * 4 + 2, none⟩ = some (.string tsn) ∧ w'.cell? ⟨b', o' + k * 4 + 3, none⟩ = some u2 ∧ Below wr.heap.size wr w')
        (first | exact HK.out _ (by assumption) | exact HK.out _ (bel_drew (by assumption)) | exact HK.out _ (Below.drew (by assumption)) | exact HK.out _ (Below.trans (by assumption) (Below.mono (by assumption) (Below.size (by assumption)))) | go_keep)
        (first | (go_at_call 20; refine (HCALL.out _ (by first | assumption | exact Below.drew (by assumption))).mono ?_; rintro e w1 ⟨rfl, hb1⟩))
      have HB2 := Lib.hid (HB.out.trans ((bel_drew hb1).mono HB.out.size)); clear hb1
      go_wp2
      go_roundw
      case rel => exact ⟨k + 1, by omega, by go_num, HB2⟩
      case measure => simp [intOf]; omega
    · go_wp2
      go_ret
      exact ⟨rfl, HB.out⟩

theorem eqS_any (lo lo' : Nat) : ∀ h, EqSAt lo lo' h
  | 0 => fun u u' ts w ha ha' => by
    obtain ⟨rfl, a, cap, rfl⟩ := ha
    obtain ⟨_, a', cap', rfl⟩ := ha'
    exact eqS_empty a a' cap cap' w
  | h + 1 => fun u u' ts w ha ha' => by
    rcases ha.cases with ⟨rfl, a, cap, rfl⟩ | ⟨h1, b, o, cap, e, rfl, hl, _, hc⟩
    · obtain ⟨a', cap', rfl⟩ := ha'.slice
      exact eqS_empty a a' cap cap' w
    · obtain rfl : h = h1 := by omega
      rcases ha'.cases with ⟨rfl, a', cap', rfl⟩ | ⟨h2, b', o', cap', e2, rfl, _, _, hc'⟩
      · exact eqS_empty _ a' cap cap' w
      · obtain rfl : h = h2 := by omega
        exact eqS_some (eqS_any lo lo' h) b o cap b' o' cap' ts w hl hc hc'

/-- laws.eqTerm, at two readings of one tree. -/
theorem eqT_any (v v' : Value) (t : T) (lo lo' h : Nat) (w : World) (ht : TermAt w lo h v t) (ht' : TermAt w lo' h v' t) :
    Calls Tryd.prog 20 #[v, v'] w (TrueB w) := by
  obtain ⟨k, n, s, u, xs, rfl, rfl, hs, ha⟩ := ht
  obtain ⟨k', n', s', u', xs', rfl, e, hs', ha'⟩ := ht'
  cases e
  exact eqT_of (eqS_any lo lo' h) k n s u u' xs w ha ha'
end Go.Proofs.YtooiiomfahomjaaDoor
