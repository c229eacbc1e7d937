/-
  impl.IsValidSignature tells the signatures that are valid.
  laws.eqTerm and laws.eqTermS answer true at two terms that are one tree.
-/
import Derived.Test.YtcmhiindjponcaaQ12
import Derived.Test.YtcmhiindjponcaaQ8
import Derived.WalkLawsBesides
import Derived.BigQuiet
import Derived.Deep.QuietTactic
import Derived.Deep.RegionHeld3
namespace Go.Proofs.Ytcmhiindjponcaa
open Go.RowKit

set_option maxRecDepth 100000 in
set_option maxHeartbeats 3200000 in
theorem iValid_any (x : Value) (ps : List ByteArray) (ds : List OpD) (w : World) (h : SmallSig ps ds) (hv : SigAt w x ps ds) :
    Calls Try.prog 17 #[x] w (TellsB (ValidSig ps ds) w) := by
  obtain ⟨i0, hi, hz0, hz1, hz2⟩ := info_parts infoStr'
  have HI := Lib.hid hi; clear hi
  have HZ0 := Lib.hid hz0; clear hz0
  have HZ1 := Lib.hid hz1; clear hz1
  have HZ2 := Lib.hid hz2; clear hz2
  obtain ⟨s, t, rfl, hs, ht⟩ := hv
  have HS := Lib.hid hs
  have HT := Lib.hid ht
  obtain ⟨sa, sc, rfl⟩ := hs.slice
  obtain ⟨ta, tc, rfl⟩ := ht.slice
  clear hs ht
  have HSM := Lib.hid h
  have HPS := Lib.hid (small_ps h)
  have hpl : ps.length ≤ 1048576 := small_len h
  have hdl : ds.length ≤ 1048576 := h.2.1
  clear h
  have HX : Hid (ValidSig ps ds ↔ (ps.length ≤ 4 ∧ ps.Nodup ∧ ds.length ≤ 16 ∧ (ds.map OpD.name).Nodup ∧ (∀ p ∈ ps, SortName p) ∧ ∀ d ∈ ds, ValidOp ps d)) := Lib.hid Iff.rfl
  obtain ⟨X, hX⟩ : ∃ X, X = ValidSig ps ds := ⟨_, rfl⟩
  rw [← hX] at HX ⊢
  clear hX
  obtain ⟨m, hm⟩ : ∃ m, m = ps.length := ⟨_, rfl⟩
  obtain ⟨n, hn⟩ : ∃ n, n = ds.length := ⟨_, rfl⟩
  rw [← hm] at hpl HS HX ⊢
  rw [← hn] at hdl HT HX ⊢
  obtain ⟨W, hW⟩ : ∃ W, W = w.alloc (.cells #[.slice sa m sc, .slice ta n tc] 27) := ⟨_, rfl⟩
  have hbW : Below w.heap.size w W := by rw [hW]; exact (Below.refl _ _).alloc (Nat.le_refl _) _
  have r0 : W.heap[w.heap.size]? = some (.cells #[.slice sa m sc, .slice ta n tc] 27 (0, 0)) := by rw [hW]; exact heap_new _ _ rfl
  have hWs : w.heap.size < W.heap.size := by rw [hW]; simp
  have HCS : Hid (∀ w', Below W.heap.size W w' → w'.cell? ⟨w.heap.size, 0, none⟩ = some (.slice sa m sc) ∧ w'.cell? ⟨w.heap.size, 1, none⟩ = some (.slice ta n tc)) := Lib.hid (fun w' hb => by
    have q0 := (hb.block w.heap.size hWs).trans r0
    refine ⟨?_, ?_⟩
    · rw [cell_of_row w' _ 0 _ _ _ q0]; rfl
    · rw [cell_of_row w' _ 1 _ _ _ q0]; rfl)
  have HBW := Lib.hid hbW; clear hbW r0
  have HSW : Hid (∀ w', Below W.heap.size W w' → StrsAt w' (.slice sa m sc) ps) := Lib.hid (fun w' hb => (HS.out.below HBW.out).below hb)
  have HTW : Hid (∀ w', Below W.heap.size W w' → OpsAt w' (.slice ta n tc) ds) := Lib.hid (fun w' hb => (HT.out.below HBW.out).below hb)
  have HM := Lib.hid hm; clear hm
  have HN := Lib.hid hn; clear hn
  obtain ⟨c0, c1⟩ := HCS.out W (Below.refl _ _)
  by_cases h4 : m ≤ 4
  · go_enter Try.func17, Try.ntmps17
    go_wp2_with fail
    rw [← hW]
    clear hW
    refine (contS_any _ ps _ (by have := HM.out; omega) HPS.out (HSW.out _ (Below.refl _ _))).mono ?_
    rintro e w1 ⟨b1, rfl, hq1, hw1⟩
    obtain ⟨W, hWW⟩ : ∃ W, W = w1 := ⟨_, rfl⟩
    subst hw1
    subst hWW
    have HQ1 := Lib.hid hq1; clear hq1
    cases b1 with
    | true =>
      go_wp2
      go_ret
      exact ⟨false, rfl, ⟨fun h => by simp at h, fun hx => by obtain ⟨p, hp, hno⟩ := HQ1.out.1 (by simp); exact absurd ((HX.out.1 hx).2.2.2.2.1 p hp) hno⟩, HBW.out⟩
    | false =>
      have HFS : Hid (∀ p ∈ ps, SortName p) := Lib.hid (fun p hp => Classical.byContradiction fun hno => by have := HQ1.out.2 ⟨p, hp, hno⟩; simp at this)
      clear HQ1
      by_cases h16 : n ≤ 16
      · go_wp2_with fail
        clear c0 c1
        go_loopw [3, 24] (fun v i wr => ∃ k : Nat, k ≤ n ∧ i = .int .i64 k ∧ Hid (wr.ownsRow W.heap.size 9 1 v k (((ds.take k).map OpD.name).map Value.string)) ∧ Hid (∀ d ∈ ds.take k, ValidOp ps d) ∧ Hid (Below W.heap.size W wr)) (fun _ i _ => n - (intOf i).toNat)
        case atStart => exact ⟨0, Nat.zero_le _, rfl, Lib.hid ⟨rfl, Or.inl ⟨rfl, rfl⟩⟩, Lib.hid (fun d hd => by simp at hd), Lib.hid (Below.refl _ _)⟩
        case round =>
          obtain ⟨k2, hk2, rfl, HO2, HV2, HB2⟩ := hrel
          obtain ⟨c0, c1⟩ := HCS.out _ HB2.out
          obtain ⟨na, nc, rfl⟩ := own_formK' HO2.out
          by_cases hlt : k2 < n
          · obtain ⟨d, hd⟩ : ∃ d, ds[k2]? = some d := ⟨_, List.getElem?_eq_getElem (by have := HN.out; omega)⟩
            have HT1 := Lib.hid (take_next ds k2 d hd)
            have HDM := Lib.hid (List.mem_of_getElem? hd)
            obtain ⟨g, o, cc, a', n', c', ee, e0, e1, e2, hst⟩ := (HTW.out _ HB2.out).at hd
            clear hd
            simp only [Value.slice.injEq] at ee
            obtain ⟨rfl, -, rfl⟩ := ee
            have HSD := Lib.hid (HSM.out.2.2 d HDM.out)
            obtain ⟨W3, hW3⟩ : ∃ W3, W3 = wr.alloc (.cells #[.string d.name, .slice a' n' c', .string d.res] 47) := ⟨_, rfl⟩
            have hb3 : Below wr.heap.size wr W3 := by rw [hW3]; exact (Below.refl _ _).alloc (Nat.le_refl _) _
            have r3 : W3.heap[wr.heap.size]? = some (.cells #[.string d.name, .slice a' n' c', .string d.res] 47 (0, 0)) := by rw [hW3]; exact heap_new _ _ rfl
            have hs3 : wr.heap.size < W3.heap.size := by rw [hW3]; simp
            have HST := Lib.hid (hst.below hb3); clear hst
            have HB3 := Lib.hid (HB2.out.trans (hb3.mono HB2.out.size))
            have HO3 := Lib.hid (keep_own HO2.out hb3)
            obtain ⟨x0, x1⟩ := HCS.out W3 HB3.out
            rw [hW3] at x0 x1
            go_wp2_with fail
            rw [← hW3]
            clear x0 x1
            refine (iOp_any _ _ ps d W3 (by have := HM.out; omega) (by have := HSD.out.2.1; omega) HSD.out.1 (HSW.out _ HB3.out) HST.out).mono ?_
            rintro e w4 ⟨bq, rfl, hbq, hb4⟩
            have HQ := Lib.hid hbq; clear hbq
            have q3 := (hb4.block wr.heap.size hs3).trans r3
            have n0 : w4.cell? ⟨wr.heap.size, 0, none⟩ = some (.string d.name) := by rw [cell_of_row w4 _ 0 _ _ _ q3]; rfl
            have HB4 := Lib.hid (HB3.out.trans (hb4.mono HB3.out.size))
            have HO4 := Lib.hid (keep_own HO3.out hb4)
            clear hW3 hb3 r3 hs3 q3 hb4 c0 c1 e0 e1 e2
            obtain ⟨c0, c1⟩ := HCS.out _ HB4.out
            cases bq with
            | false =>
              go_wp2
              go_ret
              exact ⟨false, rfl, ⟨fun h => by simp at h, fun hx => by have := HQ.out.2 ((HX.out.1 hx).2.2.2.2.2 d HDM.out); simp at this⟩, HBW.out.trans (HB4.out.mono HBW.out.size)⟩
            | true =>
              have HVX : Hid (∀ d ∈ ds.take (k2 + 1), ValidOp ps d) := Lib.hid (fun s hs => by
                rw [HT1.out] at hs
                rcases List.mem_append.1 hs with h | h
                · exact HV2.out s h
                · simp at h; subst h; exact HQ.out.1 (by simp))
              have hsz1 : W.heap.size ≤ w4.heap.size := HB4.out.size
              go_wp2_with (first | (at_builtin; refine wpList_append_own _ rfl (.tmp 33) (.tmp 36) 24 rfl W.heap.size 9 i0 (.string ByteArray.empty) 1 16 Try.underlying24 HI.out HZ0.out HZ1.out HZ2.out rfl (by decide) _ _ _ rfl (HO4.out.alloc _) ⟨w4.heap.size, 0, none⟩ 1 1 [.string d.name] rfl rfl ?c1 ?c2 ?c3 ?c4 ?c5 ?_))
              case c1 => exact cell_one_new _ _ _
              case c2 => first | rfl | (intro u hu; simp at hu; subst hu; rfl)
              case c3 => unfold maxLen; omega
              case c4 => omega
              case c5 => first | omega | (simp; omega)
              intro v' w2 hown' hgrow _
              have hb2 : Below W.heap.size W w2 := (HB4.out.alloc HB4.out.size _).grown hgrow (by have := HB4.out.size; simp; omega) (fun j hj => by have := (HO4.out.lt j hj).1; omega)
              have hown2 : w2.ownsRow W.heap.size 9 1 v' (k2 + 1) (((ds.take (k2 + 1)).map OpD.name).map Value.string) := by rw [HT1.out]; simpa using hown'
              have HO5 := Lib.hid hown2; clear hown2 hown' hgrow
              have HB5 := Lib.hid hb2; clear hb2
              go_wp2
              go_roundw
              case rel => exact ⟨k2 + 1, by omega, by go_num, HO5, HVX, HB5⟩
              case measure => simp [intOf]; omega
          · have hkn : k2 = n := by omega
            subst hkn
            have hnm : (ds.take k2).map OpD.name = ds.map OpD.name := by rw [HN.out, List.take_length]
            have HFO : Hid (∀ d ∈ ds, ValidOp ps d) := Lib.hid (fun d hd => HV2.out d (by rw [HN.out, List.take_length]; exact hd))
            have HO3 : Hid (wr.ownsRow W.heap.size 9 1 (.slice na k2 nc) (ds.map OpD.name).length ((ds.map OpD.name).map Value.string)) := Lib.hid (by
              have h := HO2.out
              rw [hnm] at h
              rw [List.length_map, ← HN.out]; exact h)
            have HNL : Hid ((ds.map OpD.name).length ≤ 1048576 ∧ ∀ p ∈ ds.map OpD.name, p.size ≤ maxLen) := Lib.hid ⟨by rw [List.length_map]; have := HN.out; omega, fun p hp => by
              obtain ⟨d, hd, rfl⟩ := List.mem_map.1 hp
              have := (HSM.out.2.2 d hd).1; unfold maxLen; omega⟩
            have HPM : Hid (∀ p ∈ ps, p.size ≤ maxLen) := Lib.hid (fun p hp => by have := HPS.out p hp; unfold maxLen; omega)
            clear hnm HO2 HV2
            have HBF := Lib.hid (HBW.out.trans (HB2.out.mono HBW.out.size))
            go_wp2_with fail
            refine (iDistinct_any _ ps _ (by have := HM.out; omega) HPM.out (HSW.out _ HB2.out)).mono ?_
            rintro e w3 ⟨b1, rfl, hq1, hb3⟩
            have HQ1 := Lib.hid hq1; clear hq1
            have HO4 := Lib.hid (keep_own HO3.out hb3)
            have HBF2 := Lib.hid (HBF.out.trans (hb3.mono HBF.out.size)); clear hb3 c0 c1
            cases b1 with
            | false =>
              go_wp2
              go_ret
              exact ⟨false, rfl, ⟨fun h => by simp at h, fun hx => by have := HQ1.out.2 (HX.out.1 hx).2.1; simp at this⟩, HBF2.out⟩
            | true =>
              go_wp2_with fail
              refine (iDistinct_any _ (ds.map OpD.name) _ HNL.out.1 HNL.out.2 (StrsAt.of_owns HO4.out)).mono ?_
              rintro e w4 ⟨b2, rfl, hq2, hb4⟩
              have HQ2 := Lib.hid hq2; clear hq2
              have HBF3 := Lib.hid (HBF2.out.trans (hb4.mono HBF2.out.size)); clear hb4
              go_wp2
              go_ret
              refine ⟨b2, rfl, ⟨fun h => HX.out.2 ⟨h4, HQ1.out.1 (by simp), h16, HQ2.out.1 h, HFS.out, HFO.out⟩, fun hx => HQ2.out.2 (HX.out.1 hx).2.2.2.1⟩, HBF3.out⟩
      · go_wp2
        go_ret
        exact ⟨false, rfl, ⟨fun h => by simp at h, fun hx => absurd (HX.out.1 hx).2.2.1 h16⟩, HBW.out⟩
  · go_enter Try.func17, Try.ntmps17
    go_wp2_with fail
    rw [← hW]
    clear hW
    go_wp2
    go_ret
    exact ⟨false, rfl, ⟨fun h => by simp at h, fun hx => absurd (HX.out.1 hx).1 h4⟩, HBW.out⟩
end Go.Proofs.Ytcmhiindjponcaa
namespace Go.Proofs.Ytcmhiindjponcaa
open Go.RowKit

/-- The eight cells of two structs, and that what was there is there. -/
def Cells8 (wr : World) (b o b' o' : Nat) (k n : Int) (s : ByteArray) (u u' : Value) (w' : World) : Prop :=
  w'.cell? ⟨b, o, none⟩ = some (.int .i64 k) ∧ w'.cell? ⟨b, o + 1, none⟩ = some (.int .i64 n) ∧ w'.cell? ⟨b, o + 2, none⟩ = some (.string s) ∧ w'.cell? ⟨b, o + 3, none⟩ = some u ∧
  w'.cell? ⟨b', o', none⟩ = some (.int .i64 k) ∧ w'.cell? ⟨b', o' + 1, none⟩ = some (.int .i64 n) ∧ w'.cell? ⟨b', o' + 2, none⟩ = some (.string s) ∧ w'.cell? ⟨b', o' + 3, none⟩ = some u' ∧ Below wr.heap.size wr w'

theorem Cells8.on {wr w' : World} {b o b' o' : Nat} {k n : Int} {s : ByteArray} {u u' : Value} (h : Cells8 wr b o b' o' k n s u u' wr) (hb : Below wr.heap.size wr w') : Cells8 wr b o b' o' k n s u u' w' := by
  obtain ⟨c0, c1, c2, c3, d0, d1, d2, d3, _⟩ := h
  have keep : ∀ {ad : Addr} {v : Value}, wr.cell? ad = some v → w'.cell? ad = some v := fun {ad} {v} hv => by rw [hb.cell (World.block_lt_of_cell? wr _ hv)]; exact hv
  exact ⟨keep c0, keep c1, keep c2, keep c3, keep d0, keep d1, keep d2, keep d3, hb⟩

def TrueB (w : World) (e : Ending) (w' : World) : Prop := e = .returned (.bool true) ∧ Below w.heap.size w w'

def EqSAt (lo lo' h : Nat) : Prop := ∀ (u u' : Value) (ts : List T) (w : World), ArgsAt w lo h u ts → ArgsAt w lo' h u' ts →
  Calls Try.prog 83 #[u, u'] w (TrueB w)

set_option maxRecDepth 100000 in
set_option maxHeartbeats 800000 in
theorem eqT_of {lo lo' h : Nat} (hS : EqSAt lo lo' h) (k n : Int) (s : ByteArray) (u u' : Value) (xs : List T) (w : World) (ha : ArgsAt w lo h u xs) (ha' : ArgsAt w lo' h u' xs) :
    Calls Try.prog 39 #[tv k n s u, tv k n s u'] w (TrueB w) := by
  have hb0 : Below w.heap.size w ((w.alloc (.cells #[.int .i64 k, .int .i64 n, .string s, u] 30)).alloc (.cells #[.int .i64 k, .int .i64 n, .string s, u'] 30)) := ((Below.refl _ _).alloc (Nat.le_refl _) _).alloc (by simp) _
  have hc := hS u u' xs _ (ha.below hb0) (ha'.below hb0)
  have HC := Lib.hid hc; clear hc ha ha'
  have HB0 := Lib.hid hb0; clear hb0
  have e1 : (k != k) = false := by simp
  have e2 : (n != n) = false := by simp
  have e3 : (s.toList == s.toList) = true := by simp
  go_enter Try.func39, Try.ntmps39
  go_wp2_with fail
  refine HC.out.mono ?_
  rintro e w1 ⟨rfl, hb1⟩
  have HB1 := Lib.hid (HB0.out.trans (hb1.mono HB0.out.size)); clear hb1
  go_wp2
  go_ret
  exact ⟨rfl, HB1.out⟩

set_option maxRecDepth 100000 in
set_option maxHeartbeats 400000 in
theorem eqS_empty (a b : Option Addr) (c d : Nat) (w : World) :
    Calls Try.prog 83 #[.slice a 0 c, .slice b 0 d] w (TrueB w) := by
  go_enter Try.func83, Try.ntmps83
  go_wp2
  refine wp_loop_rounds 1 ?_
  rw [rounds_succ]
  go_wp2
  go_ret
  exact ⟨rfl, Below.refl _ _⟩

set_option maxRecDepth 100000 in
set_option maxHeartbeats 1600000 in
theorem eqS_some {lo lo' h : Nat} (hS : EqSAt lo lo' h) (b o cap b' o' cap' : Nat) (ts : List T) (w : World) (hl : ts.length ≤ maxLen) (hc : RowAt w lo h b o ts) (hc' : RowAt w lo' h b' o' ts) :
    Calls Try.prog 83 #[.slice (some ⟨b, o, none⟩) ts.length cap, .slice (some ⟨b', o', none⟩) ts.length cap'] w (TrueB w) := by
  have HC := Lib.hid hc; clear hc
  have HC' := Lib.hid hc'; clear hc'
  have HSS := Lib.hid hS; clear hS
  obtain ⟨n, hn⟩ : ∃ n, n = ts.length := ⟨_, rfl⟩
  have hl2 : ts.length ≤ 9223372036854775807 := by unfold maxLen at hl; omega
  clear hl
  rw [← hn] at hl2 ⊢
  have HN := Lib.hid hn; clear hn
  go_enter Try.func83, Try.ntmps83
  go_wp2
  go_loopw [5] (fun i wr => ∃ k : Nat, k ≤ n ∧ i = .int .i64 k ∧ Hid (Below w.heap.size w wr)) (fun i _ => n - (intOf i).toNat)
  case atStart => exact ⟨0, Nat.zero_le _, rfl, Lib.hid (Below.refl _ _)⟩
  case round =>
    obtain ⟨k, hk, rfl, HB⟩ := hrel
    by_cases hlt : k < n
    · obtain ⟨t, ht⟩ : ∃ t, ts[k]? = some t := ⟨_, List.getElem?_eq_getElem (by have := HN.out; omega)⟩
      obtain ⟨tk', tn, tsn, txs⟩ := t
      obtain ⟨_, u1, c0, c1, c2, c3, har⟩ := HC.out k _ _ _ _ ht
      obtain ⟨_, u2, d0, d1, d2, d3, har'⟩ := HC'.out k _ _ _ _ ht
      have keep : ∀ {ad : Addr} {v : Value}, w.cell? ad = some v → wr.cell? ad = some v := fun {ad} {v} hv => by rw [HB.out.cell (World.block_lt_of_cell? w _ hv)]; exact hv
      have h8 : Cells8 wr b (o + k * 4) b' (o' + k * 4) tk' tn tsn u1 u2 wr := ⟨keep c0, keep c1, keep c2, keep c3, keep d0, keep d1, keep d2, keep d3, Below.refl _ _⟩
      have HAR := Lib.hid (har.below HB.out); clear har
      have HAR' := Lib.hid (har'.below HB.out); clear har'
      clear c0 c1 c2 c3 d0 d1 d2 d3 keep ht
      have HK : Hid (∀ w', Below wr.heap.size wr w' → Cells8 wr b (o + k * 4) b' (o' + k * 4) tk' tn tsn u1 u2 w') := Lib.hid (fun w' hb => h8.on hb)
      have HCALL : Hid (∀ w', Below wr.heap.size wr w' → Calls Try.prog 39 #[tv tk' tn tsn u1, tv tk' tn tsn u2] w' (TrueB w')) := Lib.hid (fun w' hb => eqT_of HSS.out tk' tn tsn u1 u2 txs w' (HAR.out.below hb) (HAR'.out.below hb))
      obtain ⟨c0, c1, c2, c3, d0, d1, d2, d3, hb0⟩ := h8
      go_wp2
      go_region_held3 (fun w' => w'.cell? ⟨b, o + k * 4, none⟩ = some (.int .i64 tk') ∧ w'.cell? ⟨b, o + k * 4 + 1, none⟩ = some (.int .i64 tn) ∧ w'.cell? ⟨b, o + k * 4 + 2, none⟩ = some (.string tsn) ∧ w'.cell? ⟨b, o + k * 4 + 3, none⟩ = some u1 ∧
          w'.cell? ⟨b', o' + k * 4, none⟩ = some (.int .i64 tk') ∧ w'.cell? ⟨b', o' + k * 4 + 1, none⟩ = some (.int .i64 tn) ∧ w'.cell? ⟨b', o' + k * 4 + 2, none⟩ = some (.string tsn) ∧ w'.cell? ⟨b', o' + k * 4 + 3, none⟩ = some u2 ∧ Below wr.heap.size wr w')
        (first | exact HK.out _ (by assumption) | exact HK.out _ (bel_drew (by assumption)) | exact HK.out _ (Below.drew (by assumption)) | exact HK.out _ (Below.trans (by assumption) (Below.mono (by assumption) (Below.size (by assumption)))) | go_keep)
        (first | (go_at_call 39; refine (HCALL.out _ (by first | assumption | exact Below.drew (by assumption))).mono ?_; rintro e w1 ⟨rfl, hb1⟩))
      have HB2 := Lib.hid (HB.out.trans ((bel_drew hb1).mono HB.out.size)); clear hb1
      go_wp2
      go_roundw
      case rel => exact ⟨k + 1, by omega, by go_num, HB2⟩
      case measure => simp [intOf]; omega
    · go_wp2
      go_ret
      exact ⟨rfl, HB.out⟩

theorem eqS_any (lo lo' : Nat) : ∀ h, EqSAt lo lo' h
  | 0 => fun u u' ts w ha ha' => by
    obtain ⟨rfl, a, cap, rfl⟩ := ha
    obtain ⟨_, a', cap', rfl⟩ := ha'
    exact eqS_empty a a' cap cap' w
  | h + 1 => fun u u' ts w ha ha' => by
    rcases ha.cases with ⟨rfl, a, cap, rfl⟩ | ⟨h1, b, o, cap, e, rfl, hl, _, hc⟩
    · obtain ⟨a', cap', rfl⟩ := ha'.slice
      exact eqS_empty a a' cap cap' w
    · obtain rfl : h = h1 := by omega
      rcases ha'.cases with ⟨rfl, a', cap', rfl⟩ | ⟨h2, b', o', cap', e2, rfl, _, _, hc'⟩
      · exact eqS_empty _ a' cap cap' w
      · obtain rfl : h = h2 := by omega
        exact eqS_some (eqS_any lo lo' h) b o cap b' o' cap' ts w hl hc hc'

/-- laws.eqTerm, at two readings of one tree. -/
theorem eqT_any (v v' : Value) (t : T) (lo lo' h : Nat) (w : World) (ht : TermAt w lo h v t) (ht' : TermAt w lo' h v' t) :
    Calls Try.prog 39 #[v, v'] w (TrueB w) := by
  obtain ⟨k, n, s, u, xs, rfl, rfl, hs, ha⟩ := ht
  obtain ⟨k', n', s', u', xs', rfl, e, hs', ha'⟩ := ht'
  cases e
  exact eqT_of (eqS_any lo lo' h) k n s u u' xs w ha ha'
end Go.Proofs.Ytcmhiindjponcaa
