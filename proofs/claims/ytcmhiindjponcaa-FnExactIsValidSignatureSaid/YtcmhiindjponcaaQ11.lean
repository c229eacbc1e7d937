/-
  spec.IsValidSignature tells the signatures that are valid.
  slices.Clone over strings: the same strings in a row of the call's own.
-/
import Derived.Test.YtcmhiindjponcaaQ8
import Derived.Test.YtcmhiindjponcaaQ10
import Derived.Test.YtcmhiindjponcaaQ4
import Derived.OwnWalk
import Derived.Laws.AppendOwn
namespace Go.Proofs.Ytcmhiindjponcaa
open Go.RowKit

theorem small_ps {ps : List ByteArray} {ds : List OpD} (h : SmallSig ps ds) : ∀ p ∈ ps, p.size ≤ 1048576 := size_of_total h.1
theorem small_len {ps : List ByteArray} {ds : List OpD} (h : SmallSig ps ds) : ps.length ≤ 1048576 := by have := h.1; omega
theorem small_args {ps : List ByteArray} {ds : List OpD} (h : SmallSig ps ds) : ∀ d ∈ ds, d.args.length ≤ 1048576 := fun d hd => by have := (h.2.2 d hd).2.1; omega

theorem own_formK' {w : World} {B n size : Nat} {e : TypeId} {v : Value} {xs : List Value} (h : w.ownsRow B e size v n xs) : ∃ a c, v = .slice a n c := by
  rcases h.2 with ⟨rfl, h0⟩ | ⟨g, cap, cur, rfl, _⟩
  · exact ⟨none, 0, by rw [h0]⟩
  · exact ⟨_, _, rfl⟩

set_option maxRecDepth 100000 in
set_option maxHeartbeats 3200000 in
theorem sValid_any (x : Value) (ps : List ByteArray) (ds : List OpD) (w : World) (h : SmallSig ps ds) (hv : SigAt w x ps ds) :
    Calls Try.prog 18 #[x] w (TellsB (ValidSig ps ds) w) := by
  obtain ⟨i0, hi, hz0, hz1, hz2⟩ := info_parts infoStr'
  have HI := Lib.hid hi; clear hi
  have HZ0 := Lib.hid hz0; clear hz0
  have HZ1 := Lib.hid hz1; clear hz1
  have HZ2 := Lib.hid hz2; clear hz2
  obtain ⟨s, t, rfl, hs, ht⟩ := hv
  have HS := Lib.hid hs
  have HT := Lib.hid ht
  obtain ⟨sa, sc, rfl⟩ := hs.slice
  obtain ⟨ta, tc, rfl⟩ := ht.slice
  clear hs ht
  have HSM := Lib.hid h
  have HPS := Lib.hid (small_ps h)
  have hpl : ps.length ≤ 1048576 := small_len h
  have hdl : ds.length ≤ 1048576 := h.2.1
  clear h
  have HX : Hid (ValidSig ps ds ↔ (ps.length ≤ 4 ∧ ps.Nodup ∧ ds.length ≤ 16 ∧ (ds.map OpD.name).Nodup ∧ (∀ p ∈ ps, SortName p) ∧ ∀ d ∈ ds, ValidOp ps d)) := Lib.hid Iff.rfl
  obtain ⟨X, hX⟩ : ∃ X, X = ValidSig ps ds := ⟨_, rfl⟩
  rw [← hX] at HX ⊢
  clear hX
  obtain ⟨m, hm⟩ : ∃ m, m = ps.length := ⟨_, rfl⟩
  obtain ⟨n, hn⟩ : ∃ n, n = ds.length := ⟨_, rfl⟩
  rw [← hm] at hpl HS HX ⊢
  rw [← hn] at hdl HT HX ⊢
  obtain ⟨W, hW⟩ : ∃ W, W = w.alloc (.cells #[.slice sa m sc, .slice ta n tc] 27) := ⟨_, rfl⟩
  have hbW : Below w.heap.size w W := by rw [hW]; exact (Below.refl _ _).alloc (Nat.le_refl _) _
  have r0 : W.heap[w.heap.size]? = some (.cells #[.slice sa m sc, .slice ta n tc] 27 (0, 0)) := by rw [hW]; exact heap_new _ _ rfl
  have hWs : w.heap.size < W.heap.size := by rw [hW]; simp
  have HCS : Hid (∀ w', Below W.heap.size W w' → w'.cell? ⟨w.heap.size, 0, none⟩ = some (.slice sa m sc) ∧ w'.cell? ⟨w.heap.size, 1, none⟩ = some (.slice ta n tc)) := Lib.hid (fun w' hb => by
    have q0 := (hb.block w.heap.size hWs).trans r0
    refine ⟨?_, ?_⟩
    · rw [cell_of_row w' _ 0 _ _ _ q0]; rfl
    · rw [cell_of_row w' _ 1 _ _ _ q0]; rfl)
  have HBW := Lib.hid hbW; clear hbW r0
  have HSW : Hid (∀ w', Below W.heap.size W w' → StrsAt w' (.slice sa m sc) ps) := Lib.hid (fun w' hb => (HS.out.below HBW.out).below hb)
  have HTW : Hid (∀ w', Below W.heap.size W w' → OpsAt w' (.slice ta n tc) ds) := Lib.hid (fun w' hb => (HT.out.below HBW.out).below hb)
  have hown0 := World.ownsRow_lit (base := W.heap.size) (size := 1) (e := 9) W #[] 0 (Nat.le_refl _) (by decide) rfl
  have hWe : W.heap.size = w.heap.size + 1 := by rw [hW]; simp
  rw [hWe] at hown0
  have HOW := Lib.hid hown0; clear hown0
  have HM := Lib.hid hm; clear hm
  have HN := Lib.hid hn; clear hn
  obtain ⟨W0, hW0⟩ : ∃ W0, W0 = W.alloc (.cells #[] 9) := ⟨_, rfl⟩
  have hb0 : Below W.heap.size W W0 := by rw [hW0]; exact (Below.refl _ _).alloc (Nat.le_refl _) _
  obtain ⟨c0, c1⟩ := HCS.out W (Below.refl _ _)
  go_enter Try.func18, Try.ntmps18
  go_wp2_with fail
  rw [← hW]
  rw [← hW0] at HOW ⊢
  clear hW hW0 c0 c1
  have HB0 := Lib.hid hb0; clear hb0
  -- the sorts
  go_loopw [4] (fun i wr => ∃ k : Nat, k ≤ m ∧ i = .int .i64 k ∧ Hid (∀ p ∈ ps.take k, SortName p) ∧ Hid (Below W.heap.size W wr ∧ wr.ownsRow (w.heap.size + 1) 9 1 (.slice (some ⟨w.heap.size + 1, 0, none⟩) 0 0) 0 [])) (fun i _ => m - (intOf i).toNat)
  case atStart => exact ⟨0, Nat.zero_le _, rfl, Lib.hid (fun p hp => by simp at hp), Lib.hid ⟨HB0.out, HOW.out⟩⟩
  case round =>
    obtain ⟨k, hk, rfl, HO, HR⟩ := hrel
    obtain ⟨c0, c1⟩ := HCS.out _ HR.out.1
    by_cases hlt : k < m
    · obtain ⟨p, hp⟩ : ∃ p, ps[k]? = some p := ⟨_, List.getElem?_eq_getElem (by have := HM.out; omega)⟩
      have HT1 := Lib.hid (take_next ps k p hp)
      have HPM := Lib.hid (List.mem_of_getElem? hp)
      obtain ⟨g, o, cc, ee, hc⟩ := (HSW.out _ HR.out.1).at hp
      clear hp
      simp only [Value.slice.injEq] at ee
      obtain ⟨rfl, -, rfl⟩ := ee
      have hsz := HPS.out p HPM.out
      go_wp2_with fail
      refine (sName_any p _ (by omega)).mono ?_
      rintro e w1 ⟨b1, rfl, hq1, rfl⟩
      have HQ1 := Lib.hid hq1; clear hq1
      cases b1 with
      | false =>
        go_wp2
        go_ret
        exact ⟨false, rfl, ⟨fun h => by simp at h, fun hx => by have := HQ1.out.2 ((HX.out.1 hx).2.2.2.2.1 p HPM.out).1; simp at this⟩, HBW.out.trans (HR.out.1.mono HBW.out.size)⟩
      | true =>
        rcases word_ways p with ⟨h1, h2⟩ | ⟨h1, h2⟩
        · have H1 := Lib.hid h1; clear h1
          go_wp2
          go_ret
          exact ⟨false, rfl, ⟨fun h => by simp at h, fun hx => absurd H1.out ((HX.out.1 hx).2.2.2.2.1 p HPM.out).2⟩, HBW.out.trans (HR.out.1.mono HBW.out.size)⟩
        · have H1 := Lib.hid h1; clear h1
          have HNX : Hid (∀ p ∈ ps.take (k + 1), SortName p) := Lib.hid (fun s hs => by
            rw [HT1.out] at hs
            rcases List.mem_append.1 hs with h | h
            · exact HO.out s h
            · simp at h; subst h; exact ⟨HQ1.out.1 (by simp), H1.out⟩)
          go_wp2
          go_roundw
          case rel => first | exact ⟨k + 1, by omega, by go_num, HNX, HR⟩ | exact ⟨k + 1, by have := HM.out; omega, by omega, HNX⟩ | (trace_state; sorry)
          case measure => simp [intOf]; omega
    · have hkm : k = m := by omega
      have HFS : Hid (∀ p ∈ ps, SortName p) := Lib.hid (fun p hp => HO.out p (by rw [hkm, HM.out, List.take_length]; exact hp))
      have HBW0 := Lib.hid HR.out.1
      have HOW0 := Lib.hid HR.out.2
      clear HO hkm HR hk
      go_wp2_with fail
      clear c0 c1 hlt
      go_loopw [3, 5] (fun v i wr => ∃ k : Nat, k ≤ n ∧ i = .int .i64 k ∧ Hid (wr.ownsRow (w.heap.size + 1) 9 1 v k (((ds.take k).map OpD.name).map Value.string)) ∧ Hid (∀ d ∈ ds.take k, ValidOp ps d) ∧ Hid (Below W.heap.size W wr)) (fun _ i _ => n - (intOf i).toNat)
      case atStart => exact ⟨0, Nat.zero_le _, rfl, Lib.hid (by simpa using HOW0.out), Lib.hid (fun d hd => by simp at hd), HBW0⟩
      case round =>
        obtain ⟨k2, hk2, rfl, HO2, HV2, HB2⟩ := hrel
        obtain ⟨c0, c1⟩ := HCS.out _ HB2.out
        obtain ⟨na, nc, rfl⟩ := own_formK' HO2.out
        by_cases hlt : k2 < n
        · obtain ⟨d, hd⟩ : ∃ d, ds[k2]? = some d := ⟨_, List.getElem?_eq_getElem (by have := HN.out; omega)⟩
          have HT1 := Lib.hid (take_next ds k2 d hd)
          have HDM := Lib.hid (List.mem_of_getElem? hd)
          obtain ⟨g, o, cc, a', n', c', ee, e0, e1, e2, hst⟩ := (HTW.out _ HB2.out).at hd
          clear hd
          simp only [Value.slice.injEq] at ee
          obtain ⟨rfl, -, rfl⟩ := ee
          have HSD := Lib.hid (HSM.out.2.2 d HDM.out)
          have HST := Lib.hid hst; clear hst
          have hsub : (w.heap.size : Nat) < wr.heap.size := Nat.lt_of_lt_of_le hWs HB2.out.size
          have HSUB := Lib.hid hsub; clear hsub
          have HK : Hid (∀ w', Below wr.heap.size wr w' → w'.cell? ⟨w.heap.size, 0, none⟩ = some (.slice sa m sc) ∧ w'.cell? ⟨w.heap.size, 1, none⟩ = some (.slice (some ⟨g, o, none⟩) n tc) ∧ w'.cell? ⟨g, o + k2 * 3, none⟩ = some (.string d.name) ∧ w'.cell? ⟨g, o + k2 * 3 + 1, none⟩ = some (.slice a' n' c') ∧ w'.cell? ⟨g, o + k2 * 3 + 2, none⟩ = some (.string d.res) ∧ Below wr.heap.size wr w') := Lib.hid (fun w' hb => by
            have keep : ∀ {ad : Addr} {v : Value}, wr.cell? ad = some v → w'.cell? ad = some v := fun {ad} {v} hv => by rw [hb.cell (World.block_lt_of_cell? wr _ hv)]; exact hv
            exact ⟨keep c0, keep c1, keep e0, keep e1, keep e2, hb⟩)
          have HCALL : Hid (∀ w', Below wr.heap.size wr w' → Calls Try.prog 60 #[sv (.slice sa m sc) (.slice (some ⟨g, o, none⟩) n tc), ov d.name (.slice a' n' c') d.res] w' (TellsB (ValidOp ps d) w')) := Lib.hid (fun w' hb =>
            sOp_any _ _ _ _ _ ps d w' (by have := HM.out; omega) (by have := HSD.out.2.1; omega) HSD.out.1 (HSW.out w' (HB2.out.trans (hb.mono HB2.out.size))) (HST.out.below hb))
          have hb0 : Below wr.heap.size wr wr := Below.refl _ _
          go_wp2
          go_region_held3 (fun w' => w'.cell? ⟨w.heap.size, 0, none⟩ = some (.slice sa m sc) ∧ w'.cell? ⟨w.heap.size, 1, none⟩ = some (.slice (some ⟨g, o, none⟩) n tc) ∧ w'.cell? ⟨g, o + k2 * 3, none⟩ = some (.string d.name) ∧ w'.cell? ⟨g, o + k2 * 3 + 1, none⟩ = some (.slice a' n' c') ∧ w'.cell? ⟨g, o + k2 * 3 + 2, none⟩ = some (.string d.res) ∧ Below wr.heap.size wr w')
            (first | exact HK.out _ (by assumption) | exact HK.out _ (bel_drew (by assumption)) | exact HK.out _ (Below.drew (by assumption)) | exact HK.out _ (Below.trans (by assumption) (Below.mono (by assumption) (Below.size (by assumption)))) | go_keep)
            (first | (go_at_call 60; refine (HCALL.out _ (by first | assumption | exact Below.drew (by assumption))).mono ?_; rintro e w1 ⟨bq, rfl, hbq, hb1⟩))
          have HQ := Lib.hid hbq; clear hbq
          have HB1 := Lib.hid (bel_drew hb1); clear hb1
          clear c0 c1 e0 e1 e2
          obtain ⟨c0, c1, e0, e1, e2, _⟩ := HK.out w1 HB1.out
          have HB3 := Lib.hid (HB2.out.trans (HB1.out.mono HB2.out.size))
          cases bq with
          | false =>
            go_wp2
            go_ret
            exact ⟨false, rfl, ⟨fun h => by simp at h, fun hx => by have := HQ.out.2 ((HX.out.1 hx).2.2.2.2.2 d HDM.out); simp at this⟩, HBW.out.trans (HB3.out.mono HBW.out.size)⟩
          | true =>
            have HO3 := Lib.hid (keep_own HO2.out HB1.out)
            have HVX : Hid (∀ d ∈ ds.take (k2 + 1), ValidOp ps d) := Lib.hid (fun s hs => by
              rw [HT1.out] at hs
              rcases List.mem_append.1 hs with h | h
              · exact HV2.out s h
              · simp at h; subst h; exact HQ.out.1 (by simp))
            have hsz1 : w.heap.size + 1 ≤ w1.heap.size := by have := HSUB.out; have := HB1.out.size; omega
            go_wp2_with (first | (at_builtin; refine wpList_append_own _ rfl (.tmp 44) (.tmp 51) 24 rfl (w.heap.size + 1) 9 i0 (.string ByteArray.empty) 1 16 Try.underlying24 HI.out HZ0.out HZ1.out HZ2.out rfl (by decide) _ _ _ rfl (HO3.out.alloc _) ⟨w1.heap.size, 0, none⟩ 1 1 [.string d.name] rfl rfl ?c1 ?c2 ?c3 ?c4 ?c5 ?_))
            case c2 => first | rfl | (intro u hu; simp at hu; subst hu; rfl)
            case c3 => unfold maxLen; omega
            case c4 => omega
            case c5 => first | omega | (simp; omega)
            intro v' w2 hown' hgrow _
            have hb2 : Below W.heap.size W w2 := (HB3.out.alloc HB3.out.size _).grown hgrow (by have := HB3.out.size; simp; omega) (fun j hj => by have := (HO3.out.lt j hj).1; omega)
            have hown2 : w2.ownsRow (w.heap.size + 1) 9 1 v' (k2 + 1) (((ds.take (k2 + 1)).map OpD.name).map Value.string) := by rw [HT1.out]; simpa using hown'
            have HO4 := Lib.hid hown2; clear hown2 hown' hgrow
            have HB4 := Lib.hid hb2; clear hb2
            go_wp2
            go_roundw
            case rel => exact ⟨k2 + 1, by omega, by go_num, HO4, HVX, HB4⟩
            case measure => simp [intOf]; omega
        · have hkn : k2 = n := by omega
          subst hkn
          have hnm : (ds.take k2).map OpD.name = ds.map OpD.name := by rw [HN.out, List.take_length]
          have HFO : Hid (∀ d ∈ ds, ValidOp ps d) := Lib.hid (fun d hd => HV2.out d (by rw [HN.out, List.take_length]; exact hd))
          have HO3 : Hid (wr.ownsRow (w.heap.size + 1) 9 1 (.slice na k2 nc) (ds.map OpD.name).length ((ds.map OpD.name).map Value.string)) := Lib.hid (by
            have h := HO2.out
            rw [hnm] at h
            rw [List.length_map, ← HN.out]; exact h)
          have HNL : Hid ((ds.map OpD.name).length ≤ 1048576) := Lib.hid (by rw [List.length_map]; have := HN.out; omega)
          clear hnm HO2 HV2
          have HBF := Lib.hid (HBW.out.trans (HB2.out.mono HBW.out.size))
          by_cases h4 : m ≤ 4
          · go_wp2_with fail
            refine (sDistinct_any _ ps _ (by have := HM.out; omega) (HSW.out _ HB2.out)).mono ?_
            rintro e w3 ⟨b1, rfl, hq1, hb3⟩
            have HQ1 := Lib.hid hq1; clear hq1
            have HO4 := Lib.hid (keep_own HO3.out hb3)
            have HB5 := Lib.hid (HB2.out.trans (hb3.mono HB2.out.size))
            have HBF2 := Lib.hid (HBF.out.trans (hb3.mono HBF.out.size)); clear hb3 c0 c1
            obtain ⟨c0, c1⟩ := HCS.out _ HB5.out
            cases b1 with
            | false =>
              go_wp2
              go_ret
              exact ⟨false, rfl, ⟨fun h => by simp at h, fun hx => by have := HQ1.out.2 (HX.out.1 hx).2.1; simp at this⟩, HBF2.out⟩
            | true =>
              by_cases h16 : k2 ≤ 16
              · go_wp2_with fail
                refine (sDistinct_any _ (ds.map OpD.name) _ (by have := HNL.out; omega) (StrsAt.of_owns HO4.out)).mono ?_
                rintro e w4 ⟨b2, rfl, hq2, hb4⟩
                have HQ2 := Lib.hid hq2; clear hq2
                have HBF3 := Lib.hid (HBF2.out.trans (hb4.mono HBF2.out.size)); clear hb4
                go_wp2
                go_ret
                refine ⟨b2, rfl, ⟨fun h => HX.out.2 ⟨h4, HQ1.out.1 (by simp), h16, HQ2.out.1 h, HFS.out, HFO.out⟩, fun hx => HQ2.out.2 (HX.out.1 hx).2.2.2.1⟩, HBF3.out⟩
              · go_wp2
                go_ret
                exact ⟨false, rfl, ⟨fun h => by simp at h, fun hx => absurd (HX.out.1 hx).2.2.1 h16⟩, HBF2.out⟩
          · go_wp2
            go_ret
            exact ⟨false, rfl, ⟨fun h => by simp at h, fun hx => absurd (HX.out.1 hx).1 h4⟩, HBF.out⟩
end Go.Proofs.Ytcmhiindjponcaa
namespace Go.Proofs.Ytcmhiindjponcaa
open Go.RowKit

set_option maxRecDepth 100000 in
set_option maxHeartbeats 800000 in
theorem cloneS_none (cap : Nat) (w : World) : Calls Try.prog 69 #[.slice none 0 cap] w (CopyEnd [] w) := by
  have q22 : ∀ (w : World) (a : Option Addr) (n c n' c' : Nat), (binOp .eql 24 (.slice a n c) (.slice none n' c')).run Try.prog w = .ok (.bool a.isNone) w := fun w a n c n' c' => Lib.run_eql_slice_nil w _ _ a n c n' c' Try.underlying24
  go_enter Try.func69, Try.ntmps69
  go_wp2
  go_ret
  exact ⟨_, rfl, ⟨rfl, Or.inl ⟨rfl, rfl⟩⟩, Below.refl _ _⟩

set_option maxRecDepth 100000 in
set_option maxHeartbeats 800000 in
theorem cloneS_some (ad : Addr) (cap : Nat) (ps : List ByteArray) (w : World) (hl : ps.length ≤ 1048576) (hc : ∀ j p, ps[j]? = some p → w.cell? (ad.add j) = some (.string p)) :
    Calls Try.prog 69 #[.slice (some ad) ps.length cap] w (CopyEnd ps w) := by
  have q22 : ∀ (w : World) (a : Option Addr) (n c n' c' : Nat), (binOp .eql 24 (.slice a n c) (.slice none n' c')).run Try.prog w = .ok (.bool a.isNone) w := fun w a n c n' c' => Lib.run_eql_slice_nil w _ _ a n c n' c' Try.underlying24
  obtain ⟨i0, hi, hz0, hz1, hz2⟩ := info_parts infoStr'
  have HI := Lib.hid hi; clear hi
  have HZ0 := Lib.hid hz0; clear hz0
  have HZ1 := Lib.hid hz1; clear hz1
  have HZ2 := Lib.hid hz2; clear hz2
  have HC := Lib.hid hc; clear hc
  obtain ⟨m, hm⟩ : ∃ m, m = ps.length := ⟨_, rfl⟩
  rw [← hm] at hl ⊢
  have HM := Lib.hid hm; clear hm
  go_enter Try.func69, Try.ntmps69
  go_wp2_with (first | (at_builtin; refine wpList_append_own _ rfl (.tmp 5) (.tmp 6) 24 rfl w.heap.size 9 i0 (.string ByteArray.empty) 1 16 Try.underlying24 HI.out HZ0.out HZ1.out HZ2.out rfl (by decide) _ _ _ rfl (World.ownsRow_lit w #[] 0 (Nat.le_refl _) (by decide) rfl) ad m cap (ps.map Value.string) rfl (by simp [HM.out]) ?c1 ?c2 ?c3 ?c4 ?c5 ?_))
  case c1 =>
    intro j u hj
    rw [List.getElem?_map, Option.map_eq_some_iff] at hj
    obtain ⟨p, hp, rfl⟩ := hj
    exact Lib.cell?_alloc_some _ (HC.out j p hp)
  case c2 =>
    intro u hu
    obtain ⟨p, _, rfl⟩ := List.mem_map.1 hu
    rfl
  case c3 => unfold maxLen; omega
  case c4 => omega
  case c5 => simp
  intro v' w1 hown hgrow _
  have hb : Below w.heap.size w w1 := ((Below.refl _ _).alloc (Nat.le_refl _) _).grown hgrow (by simp) (fun k hk => by simp [Value.ownBlock] at hk; omega)
  have HO := Lib.hid hown; clear hown hgrow
  have HB := Lib.hid hb; clear hb
  go_wp2
  go_ret
  exact ⟨_, rfl, by rw [← HM.out]; simpa using HO.out, HB.out⟩

theorem cloneS_any (v : Value) (ps : List ByteArray) (w : World) (hl : ps.length ≤ 1048576) (hv : StrsAt w v ps) :
    Calls Try.prog 69 #[v] w (CopyEnd ps w) := by
  obtain ⟨a, cap, rfl, hv⟩ := hv
  rcases hv with rfl | ⟨b, o, rfl, hv⟩
  · cases a with
    | none =>
      exact cloneS_none cap w
    | some ad => exact cloneS_some ad cap [] w hl (fun j p hp => by simp at hp)
  · refine cloneS_some ⟨b, o, none⟩ cap ps w hl (fun j p hp => ?_)
    have e : (⟨b, o, none⟩ : Addr).add j = ⟨b, o + j, none⟩ := by
      unfold Addr.add
      split
      · rename_i h; subst h; rfl
      · rfl
    rw [e]; exact hv j p hp
end Go.Proofs.Ytcmhiindjponcaa
