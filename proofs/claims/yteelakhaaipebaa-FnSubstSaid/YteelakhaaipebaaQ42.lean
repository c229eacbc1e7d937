/-
  spec.ComposeSubst: the Binds of the first list, with the second applied, and those of the second that are not hidden.
  laws.big tells whether a draw has more than 1048576 bytes.
  laws.eqStringS returns true for two slices of the same strings; it changes nothing.
  laws.szStringS counts what a slice of strings holds; laws.toStringS copies it into a slice of the call's own.
  laws.markStringS writes these texts into a slice of the call's own; laws.heldStringS finds them there.
  Lists of strings as a law's facts: they hold as long as their blocks stay.
-/
import Derived.Test.YteelakhaaipebaaQ40
import Derived.Test.YteelakhaaipebaaQ33
import Derived.Test.YteelakhaaipebaaQ2
import Derived.Test.YteelakhaaipebaaQ36
import Derived.Test.YteelakhaaipebaaQ6
import Derived.Test.YteelakhaaipebaaQ9
import Derived.WalkLawsBesides
import Derived.Lib.Hide
import Derived.Deep.RegionHeld3
namespace Go.Proofs.Yteelakhaaipebaa
open Go.RowKit Go.Maps Go.WideMaps

set_option maxRecDepth 100000 in
set_option maxHeartbeats 3200000 in
theorem compS_any (u v : Value) (a b : List (ByteArray × T)) (lo lo2 ha hb : Nat) (w : World) (hwa : wBs a ≤ 1048576) (hwb : wBs b ≤ 1048576) (hu : BsAt w lo ha u a) (hv : BsAt w lo2 hb v b) :
    Calls Try.prog 18 #[u, v] w (ReadBE (compB a b) w) := by
  obtain ⟨i0, hi, hz0, hz1, hz2⟩ := info_parts infoBind
  have HI := Lib.hid hi; clear hi
  have HZ0 := Lib.hid hz0; clear hz0
  have HZ1 := Lib.hid hz1; clear hz1
  have HZ2 := Lib.hid hz2; clear hz2
  have hla := wBs_len a
  have hlb := wBs_len b
  have HUA := Lib.hid hu
  have HVB := Lib.hid hv
  obtain ⟨aa, ac', rfl⟩ := hu.slice
  obtain ⟨ab, bc', rfl⟩ := hv.slice
  obtain ⟨na, hna⟩ : ∃ n, n = a.length := ⟨_, rfl⟩
  obtain ⟨nb, hnb⟩ : ∃ n, n = b.length := ⟨_, rfl⟩
  rw [← hna] at HUA hla ⊢
  rw [← hnb] at HVB hlb ⊢
  have hlna : na ≤ 1048576 := by omega
  have hlnb : nb ≤ 1048576 := by omega
  have HNA := Lib.hid hna; have HNB := Lib.hid hnb
  have HWA := Lib.hid hwa; have HWB := Lib.hid hwb
  clear hna hnb hu hv hwa hwb hla hlb
  obtain ⟨W0, hW0⟩ : ∃ W0, W0 = w.alloc (.cells #[] 86) := ⟨_, rfl⟩
  have HB0 : Hid (Below w.heap.size w W0) := Lib.hid (by rw [hW0]; exact (Below.refl _ _).alloc (Nat.le_refl _) _)
  have HS0 : Hid (W0.heap.size = w.heap.size + 1) := Lib.hid (by rw [hW0]; simp)
  have HG0 : Hid (GrowB false (ha + hb + 1) w.heap.size (.slice (some ⟨w.heap.size, 0, none⟩) 0 0) [] W0) := Lib.hid (by rw [hW0]; exact GrowB.lit _ _ _ _ (Nat.le_refl _))
  go_enter Try.func18, Try.ntmps18
  go_wp2
  rw [← hW0]
  clear hW0
  go_loopw [5, 6] (fun v i wr => ∃ (j : Nat) (ua : Option Addr) (uc : Nat), j ≤ na ∧ i = .int .i64 j ∧ v = .slice ua j uc ∧ Hid (GrowB false (ha + hb + 1) w.heap.size (.slice ua j uc) ((a.take j).map (fun x => (x.1, mapT (findB b) (fun s => s) x.2))) wr) ∧ Hid (Below w.heap.size w wr)) (fun _ i _ => na - (intOf i).toNat)
  case atStart => exact ⟨0, _, _, Nat.zero_le _, rfl, rfl, HG0, HB0⟩
  case round =>
    clear HG0 HB0 HS0
    obtain ⟨j, ua, uc, hj, rfl, rfl, HG, HB⟩ := hrel
    have hbw := HB.out
    by_cases hlt : j < na
    · obtain ⟨x, hx⟩ : ∃ x, a[j]? = some x := ⟨_, List.getElem?_eq_getElem (by have := HNA.out; omega)⟩
      obtain ⟨bk, o, c', p, tk', tn, tsn, txs, u', e, rfl, _, hps, hszn, c0, c1, c2, c3, c4, har⟩ := HUA.out.at hx
      obtain ⟨rfl, -, rfl⟩ : aa = some ⟨bk, o, none⟩ ∧ na = a.length ∧ ac' = c' := by simpa using e
      obtain ⟨va, vc, rfl⟩ := har.slice
      obtain ⟨ml, hml⟩ : ∃ m, m = txs.length := ⟨_, rfl⟩
      rw [← hml] at c4
      have HRB : Hid (∀ w', Below wr.heap.size wr w' → w'.cell? ⟨bk, o + j * 5, none⟩ = some (.string p) ∧ w'.cell? ⟨bk, o + j * 5 + 1, none⟩ = some (.int .i64 tk') ∧ w'.cell? ⟨bk, o + j * 5 + 2, none⟩ = some (.int .i64 tn) ∧ w'.cell? ⟨bk, o + j * 5 + 3, none⟩ = some (.string tsn) ∧ w'.cell? ⟨bk, o + j * 5 + 4, none⟩ = some (.slice va ml vc)) := Lib.hid (fun w' hb' => by
        have q := bel_two HB.out hb'
        exact ⟨cell_on q c0, cell_on q c1, cell_on q c2, cell_on q c3, cell_on q c4⟩)
      have hwtm := wBs_mem hx
      have HCALL := Lib.hid (sApp_any b HWB.out hb ha (.slice ab nb bc') (tv tk' tn tsn (.slice va ml vc)) (.node tk' tn tsn txs) lo2 lo wr.drew (HVB.out.below hbw.drew) ⟨_, _, _, _, txs, rfl, rfl, hszn, (by rw [hml]; exact har.below hbw.drew)⟩ (by have := HWA.out; simp only at hwtm; omega))
      have hlw : w.heap.size ≤ wr.heap.size := hbw.size
      have HLW := Lib.hid hlw
      have HAFT := Lib.hid (fun (e' : Ending) (w1 : World) (q : LCopyT (ha + hb + 1) (mapT (findB b) (fun s => s) (.node tk' tn tsn txs)) wr.drew e' w1) => gotB_read (bB := 0) HG.out (by rw [List.length_map, List.length_take]; have := HNA.out; omega) hlw hps (Nat.le_refl _) q)
      have HTK : Hid ((a.take (j + 1)).map (fun x => (x.1, mapT (findB b) (fun s => s) x.2)) = (a.take j).map (fun x => (x.1, mapT (findB b) (fun s => s) x.2)) ++ [(p, mapT (findB b) (fun s => s) (.node tk' tn tsn txs))]) := Lib.hid (by rw [tk a j _ hx, List.map_append]; rfl)
      have HML : Hid (j + 1 ≤ 2097152) := Lib.hid (by omega)
      obtain ⟨b0, b1, b2, b3, b4⟩ := HRB.out _ (Below.refl _ _)
      clear c0 c1 c2 c3 c4 har hszn hps hx e hml hlw hwtm hbw
      go_wp2
      go_region_law (first
          | (refine step_append_lies _ rfl (.tmp 15) (.tmp 29) 24 rfl (w.heap.size) 86 i0 (.agg #[.string ByteArray.empty, .int .i64 0, .int .i64 0, .string ByteArray.empty, .slice none 0 0]) 5 72 Try.underlying24 HI.out HZ0.out HZ1.out HZ2.out rfl (by decide) (.slice ua j uc) j ys rfl HYS.out ⟨w1.heap.size, 0, none⟩ 1 1 [.string p, .int .i64 kc, .int .i64 nc, .string nmc, .slice ac mc cc] rfl rfl HNEW.out (by intro u hu; simp at hu; rcases hu with rfl | rfl | rfl | rfl | rfl <;> rfl) (by decide) (by have := HML.out; unfold maxLen; omega) (by have := HML.out; omega) HLO.out _ rfl ?_; intro g3 c3' w3 ho3 hg3 ha3 hl3; have HGOT3 := Lib.hid (HGOT.out g3 c3' w3 ho3 hg3 ha3); clear ho3 hg3 ha3 hl3)
          | (go_simp; go_at_call 64; refine HCALL.out.mono ?_; intro e' w1 hte; obtain ⟨kc, nc, nmc, ac, mc, cc, ys, rfl, hbc, hys, hgot⟩ := HAFT.out e' w1 hte; clear hte; obtain ⟨x0, x1, x2, x3, x4⟩ := HRB.out _ hbc; have HYS := Lib.hid (hys.alloc (.cells #[.string p, .int .i64 kc, .int .i64 nc, .string nmc, .slice ac mc cc] 86)); have HGOT := Lib.hid hgot; have HLO : Hid (w.heap.size ≤ (w1.alloc (.cells #[.string p, .int .i64 kc, .int .i64 nc, .string nmc, .slice ac mc cc] 86)).heap.size) := Lib.hid (by have h1 := hbc.size; have h2 := HLW.out; simp; omega); have HNEW := Lib.hid (news5 w1 (.string p) (.int .i64 kc) (.int .i64 nc) (.string nmc) (.slice ac mc cc) 86 rfl); clear hys hgot hbc))
      all_goals go_wp2
      all_goals go_roundw
      all_goals first
        | exact ⟨j + 1, _, _, by omega, by go_num, rfl, by rw [HTK.out]; exact Lib.hid HGOT3.out.1, Lib.hid (HB.out.trans HGOT3.out.2)⟩
        | (simp [intOf]; omega)
    · have hjn : j = na := by omega
      subst hjn
      have HT : Hid (a.take j = a) := Lib.hid (List.take_of_length_le (by have := HNA.out; omega))
      rw [HT.out] at HG
      have HG1 : Hid (GrowB false (ha + hb + 1) w.heap.size (.slice ua j uc) (a.map (fun x => (x.1, mapT (findB b) (fun s => s) x.2)) ++ (b.take 0).filter (fun x => (findB a x.1).isNone)) wr) := Lib.hid (by simpa using HG.out)
      obtain ⟨m0, hm0⟩ : ∃ m, m = j := ⟨_, rfl⟩
      have HM0 := Lib.hid hm0
      clear hbw HG
      go_wp2
      go_loopw [5, 7] (fun v i wr => ∃ (j q : Nat) (ua : Option Addr) (uc : Nat), j ≤ nb ∧ i = .int .i64 j ∧ v = .slice ua q uc ∧ q ≤ m0 + j ∧ Hid (q = (a.map (fun x => (x.1, mapT (findB b) (fun s => s) x.2)) ++ (b.take j).filter (fun x => (findB a x.1).isNone)).length) ∧
        Hid (GrowB false (ha + hb + 1) w.heap.size (.slice ua q uc) (a.map (fun x => (x.1, mapT (findB b) (fun s => s) x.2)) ++ (b.take j).filter (fun x => (findB a x.1).isNone)) wr) ∧ Hid (Below w.heap.size w wr)) (fun _ i _ => nb - (intOf i).toNat)
      case atStart => exact ⟨0, j, ua, uc, Nat.zero_le _, rfl, rfl, by omega, Lib.hid (by simp; exact HNA.out), HG1, HB⟩
      case round =>
        clear HB HG1 HT
        obtain ⟨i, q, ua, uc, hi, rfl, rfl, hq, HQ, HG, HB⟩ := hrel
        have hbw := HB.out
        by_cases hlt : i < nb
        · obtain ⟨x, hx⟩ : ∃ x, b[i]? = some x := ⟨_, List.getElem?_eq_getElem (by have := HNB.out; omega)⟩
          obtain ⟨bk, o, c', p, tk', tn, tsn, txs, u', e, rfl, _, hps, hszn, c0, c1, c2, c3, c4, har⟩ := HVB.out.at hx
          obtain ⟨rfl, -, rfl⟩ : ab = some ⟨bk, o, none⟩ ∧ nb = b.length ∧ bc' = c' := by simpa using e
          obtain ⟨va, vc, rfl⟩ := har.slice
          obtain ⟨ml, hml⟩ : ∃ m, m = txs.length := ⟨_, rfl⟩
          rw [← hml] at c4
          have HRB : Hid (∀ w', Below wr.heap.size wr w' → w'.cell? ⟨bk, o + i * 5, none⟩ = some (.string p) ∧ w'.cell? ⟨bk, o + i * 5 + 1, none⟩ = some (.int .i64 tk') ∧ w'.cell? ⟨bk, o + i * 5 + 2, none⟩ = some (.int .i64 tn) ∧ w'.cell? ⟨bk, o + i * 5 + 3, none⟩ = some (.string tsn) ∧ w'.cell? ⟨bk, o + i * 5 + 4, none⟩ = some (.slice va ml vc)) := Lib.hid (fun w' hb' => by
            have q := bel_two HB.out hb'
            exact ⟨cell_on q c0, cell_on q c1, cell_on q c2, cell_on q c3, cell_on q c4⟩)
          have HX := Lib.hid hx
          have HPS := Lib.hid hps
          have hwtm := wBs_mem hx
          have HCALL := Lib.hid (lcopy_any hb (tv tk' tn tsn (.slice va ml vc)) (.node tk' tn tsn txs) lo2 wr.drew ⟨_, _, _, _, txs, rfl, rfl, hszn, by rw [hml]; exact har.below hbw.drew⟩ (by have := HWB.out; simp only at hwtm; omega))
          have HATC := Lib.hid (sAt7_any (.slice aa j ac') p a lo ha wr (by have := HNA.out; omega) (HUA.out.below hbw))
          have hlw : w.heap.size ≤ wr.heap.size := hbw.size
          have HLW := Lib.hid hlw
          have HAFT := Lib.hid (fun (e' : Ending) (w1 : World) (qq : LCopyT hb (.node tk' tn tsn txs) wr.drew e' w1) => gotB_read (bB := 0) HG.out HQ.out hlw HPS.out (show hb ≤ ha + hb + 1 by omega) qq)
          have HML : Hid (q + 1 ≤ 2097153) := Lib.hid (by have := HM0.out; omega)
          obtain ⟨b0, b1, b2, b3, b4⟩ := HRB.out _ (Below.refl _ _)
          clear c0 c1 c2 c3 c4 har hszn hps hx e hml hwtm hlw hbw
          go_wp2_with fail
          refine HATC.out.mono ?_
          rintro e w9 ⟨rfl, hat⟩
          rcases hat with ⟨hno, rfl⟩ | ⟨k7, x7, rfl, _, hyes⟩
          · have HFS : Hid ((b.take (i + 1)).filter (fun x => (findB a x.1).isNone) = (b.take i).filter (fun x => (findB a x.1).isNone) ++ [(p, .node tk' tn tsn txs)]) := Lib.hid (by rw [filt_snoc HX.out]; simp [hno])
            clear hno HATC
            go_wp2
            go_region_law (first
          | (refine step_append_lies _ rfl (.tmp 45) (.tmp 58) 24 rfl (w.heap.size) 86 i0 (.agg #[.string ByteArray.empty, .int .i64 0, .int .i64 0, .string ByteArray.empty, .slice none 0 0]) 5 72 Try.underlying24 HI.out HZ0.out HZ1.out HZ2.out rfl (by decide) (.slice ua q uc) q ys rfl HYS.out ⟨w1.heap.size, 0, none⟩ 1 1 [.string p, .int .i64 kc, .int .i64 nc, .string nmc, .slice ac mc cc] rfl rfl HNEW.out (by intro u hu; simp at hu; rcases hu with rfl | rfl | rfl | rfl | rfl <;> rfl) (by decide) (by have := HML.out; unfold maxLen; omega) (by have := HML.out; omega) HLO.out _ rfl ?_; intro g3 c3' w3 ho3 hg3 ha3 hl3; have HGOT3 := Lib.hid (HGOT.out g3 c3' w3 ho3 hg3 ha3); clear ho3 hg3 ha3 hl3)
          | (go_simp; go_at_call 66; refine HCALL.out.mono ?_; intro e' w1 hte; obtain ⟨kc, nc, nmc, ac, mc, cc, ys, rfl, hbc, hys, hgot⟩ := HAFT.out e' w1 hte; clear hte; obtain ⟨x0, x1, x2, x3, x4⟩ := HRB.out _ hbc; have HYS := Lib.hid (hys.alloc (.cells #[.string p, .int .i64 kc, .int .i64 nc, .string nmc, .slice ac mc cc] 86)); have HGOT := Lib.hid hgot; have HLO : Hid (w.heap.size ≤ (w1.alloc (.cells #[.string p, .int .i64 kc, .int .i64 nc, .string nmc, .slice ac mc cc] 86)).heap.size) := Lib.hid (by have h1 := hbc.size; have h2 := HLW.out; simp; omega); have HNEW := Lib.hid (news5 w1 (.string p) (.int .i64 kc) (.int .i64 nc) (.string nmc) (.slice ac mc cc) 86 rfl); clear hys hgot hbc))
            all_goals go_wp2
            all_goals go_roundw
            all_goals first
              | exact ⟨i + 1, q + 1, _, _, by omega, by go_num, rfl, by omega, Lib.hid (by rw [HFS.out, ← List.append_assoc, List.length_append, List.length_singleton, ← HQ.out]), by rw [HFS.out, ← List.append_assoc]; exact Lib.hid HGOT3.out.1, Lib.hid (HB.out.trans HGOT3.out.2)⟩
              | (simp [intOf]; omega)
          · have HFS : Hid ((b.take (i + 1)).filter (fun x => (findB a x.1).isNone) = (b.take i).filter (fun x => (findB a x.1).isNone)) := Lib.hid (by rw [filt_snoc HX.out]; simp [hyes])
            clear hyes HATC HCALL HAFT
            have hk7 : ¬ ((k7 : Int) < 0) := by omega
            go_wp2
            go_roundw
            case rel => exact ⟨i + 1, q, ua, uc, by omega, by go_num, rfl, by omega, by rw [HFS.out]; exact HQ, by rw [HFS.out]; exact HG, HB⟩
            case measure => simp [intOf]; omega
        · have hjn : i = nb := by omega
          subst hjn
          have HT : Hid (b.take i = b) := Lib.hid (List.take_of_length_le (by have := HNB.out; omega))
          have HF : Hid (ReadBE (compB a b) w (.returned (.slice ua q uc)) wr) := Lib.hid (by
            have hg := HG.out
            rw [HT.out] at hg
            have hq' := HQ.out
            rw [HT.out] at hq'
            exact ⟨_, ha + hb + 1, rfl, hg.at (by rw [← hq']; have := HM0.out; unfold maxLen; omega), hbw⟩)
          clear hbw
          go_wp2
          go_ret
          exact HF.out
end Go.Proofs.Yteelakhaaipebaa
namespace Go.Proofs.Yteelakhaaipebaa
open Go.RowKit

def TrueAt (w : World) (e : Ending) (w' : World) : Prop := e = .returned (.bool true) ∧ Below w.heap.size w w'

set_option maxRecDepth 100000 in
set_option maxHeartbeats 400000 in
theorem big_any (a : Option Addr) (len cap : Nat) (w : World) :
    Calls Try.prog 11 #[.slice a len cap] w fun e w' => e = .returned (.bool (decide (1048576 < len))) ∧ w = w' := by
  go_enter Try.func11, Try.ntmps11
  go_wp2
  go_ret
  refine ⟨?_, rfl⟩
  rw [show decide (1048576 < len) = decide ((1048576 : Int) < (len : Int)) from decide_eq_decide.2 (by omega)]
  rfl
end Go.Proofs.Yteelakhaaipebaa
namespace Go.Proofs.Yteelakhaaipebaa
open Go.RowKit

set_option maxRecDepth 100000 in
set_option maxHeartbeats 400000 in
theorem eqStrs_empty (a b : Option Addr) (c d : Nat) (w : World) :
    Calls Try.prog 95 #[.slice a 0 c, .slice b 0 d] w fun e w' => e = .returned (.bool true) ∧ ∃ n, w' = w.drewN n := by
  go_enter Try.func95, Try.ntmps95
  go_wp2
  refine wp_loop_rounds 1 ?_
  rw [rounds_succ]
  go_wp2
  go_ret
  exact ⟨rfl, 0, rfl⟩

set_option maxRecDepth 100000 in
set_option maxHeartbeats 800000 in
theorem eqStrs_some (b o c b' o' c' : Nat) (ps qs : List ByteArray) (w : World) (hl : ps.length ≤ 9223372036854775807)
    (h1 : ∀ i p, ps[i]? = some p → w.cell? ⟨b, o + i, none⟩ = some (.string p)) (h2 : ∀ i p, qs[i]? = some p → w.cell? ⟨b', o' + i, none⟩ = some (.string p))
    (h : ps.map (·.data.toList) = qs.map (·.data.toList)) :
    Calls Try.prog 95 #[.slice (some ⟨b, o, none⟩) ps.length c, .slice (some ⟨b', o', none⟩) qs.length c'] w fun e w' => e = .returned (.bool true) ∧ ∃ n, w' = w.drewN n := by
  have hlq : qs.length = ps.length := by have := congrArg List.length h; simpa using this.symm
  have H1 := Lib.hid h1; clear h1
  have H2 := Lib.hid h2; clear h2
  have HH := Lib.hid h; clear h
  rw [hlq]
  have HLQ := Lib.hid hlq; clear hlq
  obtain ⟨n, hn⟩ : ∃ n, n = ps.length := ⟨_, rfl⟩
  rw [← hn] at hl ⊢
  have HN := Lib.hid hn; clear hn
  go_enter Try.func95, Try.ntmps95
  go_wp2
  go_loopw [5] (fun i wr => ∃ k q : Nat, k ≤ n ∧ i = .int .i64 k ∧ wr = w.drewN q) (fun i _ => n - (intOf i).toNat)
  case atStart => exact ⟨0, 0, Nat.zero_le _, rfl, rfl⟩
  case round =>
    obtain ⟨k, q, hk, rfl, rfl⟩ := hrel
    by_cases hlt : k < n
    · obtain ⟨x, hx⟩ : ∃ x, ps[k]? = some x := ⟨_, List.getElem?_eq_getElem (by have := HN.out; omega)⟩
      obtain ⟨y, hy⟩ : ∃ y, qs[k]? = some y := ⟨_, List.getElem?_eq_getElem (by have := HN.out; have := HLQ.out; omega)⟩
      have hc1 := H1.out k x hx
      have hc2 := H2.out k y hy
      have hxy : (x.toList == y.toList) = true := by
        have e := congrArg (·[k]?) HH.out
        simp only [List.getElem?_map, hx, hy, Option.map_some, Option.some.injEq] at e
        rw [ByteArray.toList_eq, ByteArray.toList_eq, e]; simp
      clear hx hy
      go_wp2
      go_quiet (fail)
      go_wp2
      go_roundw
      case rel => exact ⟨k + 1, _, by omega, by go_num, rfl⟩
      case measure => simp [intOf]; omega
    · go_wp2
      go_ret
      exact ⟨rfl, q, rfl⟩

/-- Two slices of the same strings are found equal. -/
theorem eqStrs_any (v u : Value) (ps qs : List ByteArray) (w : World) (hl : ps.length ≤ 9223372036854775807) (h1 : StrsAt w v ps) (h2 : StrsAt w u qs)
    (h : ps.map (·.data.toList) = qs.map (·.data.toList)) :
    Calls Try.prog 95 #[v, u] w fun e w' => e = .returned (.bool true) ∧ ∃ n, w' = w.drewN n := by
  have hlq : qs.length = ps.length := by have := congrArg List.length h; simpa using this.symm
  obtain ⟨a, c, rfl, h1⟩ := h1
  obtain ⟨a', c', rfl, h2⟩ := h2
  rcases h1 with rfl | ⟨b, o, rfl, h1⟩
  · have hq : qs = [] := List.eq_nil_of_length_eq_zero (by simpa using hlq)
    subst hq
    exact eqStrs_empty _ _ _ _ w
  · rcases h2 with rfl | ⟨b', o', rfl, h2⟩
    · have hp : ps = [] := List.eq_nil_of_length_eq_zero (by simpa using hlq.symm)
      subst hp
      exact eqStrs_empty _ _ _ _ w
    · exact eqStrs_some b o c b' o' c' ps qs w hl h1 h2 h
end Go.Proofs.Yteelakhaaipebaa
namespace Go.Proofs.Yteelakhaaipebaa
open Go.RowKit

/-- What the count says. -/
def SzEnd (left : Int) (ps : List ByteArray) (w : World) (e : Ending) (w' : World) : Prop :=
  ∃ r : Int, e = .returned (.int .i64 r) ∧ w' = w ∧ -1 ≤ r ∧ (0 ≤ r → (ps.length : Int) + total ps ≤ left ∧ r ≤ left)

set_option maxRecDepth 100000 in
set_option maxHeartbeats 400000 in
theorem sz_empty (left : Int) (a : Option Addr) (cap : Nat) (w : World) (h0 : 0 ≤ left) (h1 : left ≤ 1048576) :
    Calls Try.prog 83 #[.slice a 0 cap, .int .i64 left] w (SzEnd left [] w) := by
  have hd : decide (left < 0) = false := by simp; omega
  go_enter Try.func83, Try.ntmps83
  go_wp2
  refine wp_loop_rounds 1 ?_
  rw [rounds_succ]
  go_wp2
  go_ret
  exact ⟨left, rfl, rfl, by omega, fun _ => ⟨by simpa [total] using h0, Int.le_refl _⟩⟩

set_option maxRecDepth 100000 in
set_option maxHeartbeats 400000 in
theorem sz_some (left : Int) (b o cap : Nat) (ps : List ByteArray) (w : World) (h0 : 0 ≤ left) (h1 : left ≤ 1048576) (hl : ps.length ≤ 9223372036854775807) (hs : ∀ p ∈ ps, p.size ≤ 9223372036854775807)
    (hc : ∀ i p, ps[i]? = some p → w.cell? ⟨b, o + i, none⟩ = some (.string p)) :
    Calls Try.prog 83 #[.slice (some ⟨b, o, none⟩) ps.length cap, .int .i64 left] w (SzEnd left ps w) := by
  have HC := Lib.hid hc; clear hc
  have HS := Lib.hid hs; clear hs
  obtain ⟨n, hn⟩ : ∃ n, n = ps.length := ⟨_, rfl⟩
  rw [← hn] at hl ⊢
  have HN := Lib.hid hn; clear hn
  by_cases hbig : left < n
  · have hd : decide (left - (n : Int) < 0) = true := by simp; omega
    go_enter Try.func83, Try.ntmps83
    go_wp2
    go_ret
    exact ⟨-1, rfl, rfl, by omega, fun h => by omega⟩
  · have hd : decide (left - (n : Int) < 0) = false := by simp; omega
    go_enter Try.func83, Try.ntmps83
    go_wp2
    go_loop [1, 5] (fun q i => ∃ (k : Nat) (x : Int), k ≤ n ∧ i = .int .i64 k ∧ q = .int .i64 x ∧ 0 ≤ x ∧ x ≤ left ∧ x = left - (n : Int) - total (ps.take k)) (fun _ i => n - (intOf i).toNat)
    case atStart => exact ⟨0, left - n, Nat.zero_le _, rfl, rfl, by omega, by omega, by simp [total]⟩
    case round =>
      obtain ⟨k, x, hk, rfl, rfl, hx0, hx1, hx⟩ := hrel
      have HX := Lib.hid hx; clear hx
      by_cases hlt : k < n
      · obtain ⟨p, hp⟩ : ∃ p, ps[k]? = some p := ⟨_, List.getElem?_eq_getElem (by have := HN.out; omega)⟩
        have hcell := HC.out k p hp
        have hps := HS.out p (List.mem_of_getElem? hp)
        have HT := Lib.hid (take_next ps k p hp); clear hp
        by_cases hneg : x - (p.size : Int) < 0
        · go_wp2
          go_ret
          exact ⟨-1, rfl, rfl, by omega, fun h => by omega⟩
        · go_wp2
          go_round
          case rel => exact ⟨k + 1, x - p.size, by omega, by go_num, rfl, by omega, by omega, by rw [HT.out, total_snoc]; have := HX.out; omega⟩
          case measure => simp [intOf]; omega
      · have hkn : k = n := by omega
        go_wp2
        go_ret
        refine ⟨x, rfl, rfl, by omega, fun _ => ?_⟩
        have h2 := HX.out
        rw [hkn, HN.out, List.take_length] at h2
        omega

theorem sz_any (left : Int) (v : Value) (ps : List ByteArray) (w : World) (h0 : 0 ≤ left) (h1 : left ≤ 1048576) (hl : ps.length ≤ 9223372036854775807) (hs : ∀ p ∈ ps, p.size ≤ 9223372036854775807) (hv : StrsAt w v ps) :
    Calls Try.prog 83 #[v, .int .i64 left] w (SzEnd left ps w) := by
  obtain ⟨a, cap, rfl, hv⟩ := hv
  rcases hv with rfl | ⟨b, o, rfl, hv⟩
  · exact sz_empty left a cap w h0 h1
  · exact sz_some left b o cap ps w h0 h1 hl hs hv

/-- A copy of the strings, in a slice of the call's own. -/
def CopyEnd (ps : List ByteArray) (w : World) (e : Ending) (w' : World) : Prop :=
  ∃ v, e = .returned v ∧ w'.ownsRow w.heap.size 9 1 v ps.length (ps.map Value.string) ∧ Below w.heap.size w w'

theorem copy_set (ps : List ByteArray) (ys : List Value) (k : Nat) (p : ByteArray) (hp : ps[k]? = some p) (hy : k < ys.length) :
    ((ps.take k).map Value.string ++ ys.drop k).set k (.string p) = (ps.take (k + 1)).map Value.string ++ ys.drop (k + 1) := by
  have hk : k < ps.length := (List.getElem?_eq_some_iff.1 hp).1
  have hl : ((ps.take k).map Value.string).length = k := by simp; omega
  rw [List.set_append_right _ _ (by omega), hl, Nat.sub_self, take_next ps k p hp, List.drop_eq_getElem_cons hy, List.set_cons_zero, List.map_append, List.append_assoc]
  rfl

set_option maxRecDepth 100000 in
set_option maxHeartbeats 400000 in
theorem copy_empty (a : Option Addr) (cap : Nat) (w : World) :
    Calls Try.prog 89 #[.slice a 0 cap] w (CopyEnd [] w) := by
  obtain ⟨i0, hi, hz0, hz1, hz2⟩ := info_parts infoStr'
  have HI := Lib.hid hi; clear hi
  have HZ0 := Lib.hid hz0; clear hz0
  have HZ1 := Lib.hid hz1; clear hz1
  have HZ2 := Lib.hid hz2; clear hz2
  go_enter Try.func89, Try.ntmps89
  go_wp2_with (first | (at_make; refine wpList_make_full _ rfl (.tmp 6) (.tmp 6) 36 rfl w.heap.size 9 i0 (.string ByteArray.empty) 1 Try.underlying36 HI.out HZ0.out HZ1.out _ _ _ _ 0 rfl rfl rfl rfl ?m1 ?m2 ?m3 ?_))
  case m1 => simp
  case m2 => decide
  case m3 => exact Nat.le_refl _
  intro w1 hown hgrow
  have hb : Below w.heap.size w w1 := (Below.refl _ _).grown hgrow (Nat.le_refl _) (fun k hk => by cases hk)
  have HO := Lib.hid hown; clear hown hgrow
  go_wp2
  refine wp_loop_rounds 1 ?_
  rw [rounds_succ]
  go_wp2
  go_ret
  exact ⟨_, rfl, by simpa [madeCells] using HO.out, hb⟩

set_option maxRecDepth 100000 in
set_option maxHeartbeats 800000 in
theorem copy_some (b o cap : Nat) (ps : List ByteArray) (w : World) (hl : ps.length ≤ 1048576)
    (hc : ∀ i p, ps[i]? = some p → w.cell? ⟨b, o + i, none⟩ = some (.string p)) :
    Calls Try.prog 89 #[.slice (some ⟨b, o, none⟩) ps.length cap] w (CopyEnd ps w) := by
  obtain ⟨i0, hi, hz0, hz1, hz2⟩ := info_parts infoStr'
  have HI := Lib.hid hi; clear hi
  have HZ0 := Lib.hid hz0; clear hz0
  have HZ1 := Lib.hid hz1; clear hz1
  have HZ2 := Lib.hid hz2; clear hz2
  have HC := Lib.hid hc; clear hc
  obtain ⟨n, hn⟩ : ∃ n, n = ps.length := ⟨_, rfl⟩
  rw [← hn] at hl ⊢
  have HN := Lib.hid hn; clear hn
  go_enter Try.func89, Try.ntmps89
  go_wp2_with (first | (at_make; refine wpList_make_full _ rfl (.tmp 6) (.tmp 6) 36 rfl w.heap.size 9 i0 (.string ByteArray.empty) 1 Try.underlying36 HI.out HZ0.out HZ1.out _ _ _ _ n rfl rfl rfl rfl ?m1 ?m2 ?m3 ?_))
  case m1 => rw [HZ2.out]; omega
  case m2 => unfold maxLen; omega
  case m3 => exact Nat.le_refl _
  intro w1 hown hgrow
  have hb : Below w.heap.size w w1 := (Below.refl _ _).grown hgrow (Nat.le_refl _) (fun k hk => by cases hk)
  obtain ⟨ys, hys⟩ : ∃ ys, ys = (madeCells #[Value.string ByteArray.empty] n).toList := ⟨_, rfl⟩
  rw [← hys] at hown
  clear hys
  have hyl : ys.length = n := by simpa using hown.1
  have HYL := Lib.hid hyl; clear hyl
  have HO := Lib.hid hown; clear hown hgrow
  have HB := Lib.hid hb; clear hb
  go_wp2
  go_loopw [4] (fun i wr => ∃ k : Nat, k ≤ n ∧ i = .int .i64 k ∧ wr.ownsRow w.heap.size 9 1 (.slice (some ⟨w.heap.size, 0, none⟩) n n) n ((ps.take k).map Value.string ++ ys.drop k) ∧ Below w.heap.size w wr) (fun i _ => n - (intOf i).toNat)
  case atStart => exact ⟨0, Nat.zero_le _, rfl, by simpa using HO.out, HB.out⟩
  case round =>
    obtain ⟨k, hk, rfl, ho, hb⟩ := hrel
    have HO1 := Lib.hid ho; clear ho
    have HB1 := Lib.hid hb; clear hb
    by_cases hlt : k < n
    · obtain ⟨p, hp⟩ : ∃ p, ps[k]? = some p := ⟨_, List.getElem?_eq_getElem (by have := HN.out; omega)⟩
      have hc0 := HC.out k p hp
      have hcell : wr.cell? ⟨b, o + k, none⟩ = some (.string p) := by rw [HB1.out.cell (World.block_lt_of_cell? w _ hc0)]; exact hc0
      clear hc0
      obtain ⟨u, hu⟩ : ∃ u, ((ps.take k).map Value.string ++ ys.drop k)[k]? = some u := ⟨_, List.getElem?_eq_getElem (by simp; have := HYL.out; have := HN.out; omega)⟩
      have hold : wr.cell? ⟨w.heap.size, k, none⟩ = some u := by rw [HO1.out.cellAt k (by omega), hu]
      have hfrz : wr.frozen? ⟨w.heap.size, k, none⟩ = false := HO1.out.frozenAt k
      have hst := HO1.out.stored k (.string p)
      rw [copy_set ps ys k p hp (by have := HYL.out; omega)] at hst
      have HS := Lib.hid hst.1; clear hst hu hp
      go_wp2
      go_roundw
      case rel => exact ⟨k + 1, by omega, by go_num, HS.out, HB1.out.setCell (Nat.le_refl _) _⟩
      case measure => simp [intOf]; omega
    · have hkn : k = n := by omega
      go_wp2
      go_ret
      refine ⟨_, rfl, ?_, HB1.out⟩
      have h2 := HO1.out
      rw [hkn, List.drop_eq_nil_of_le (by have := HYL.out; omega), List.append_nil, HN.out, List.take_length] at h2
      rw [HN.out]
      exact h2

theorem copy_any (v : Value) (ps : List ByteArray) (w : World) (hl : ps.length ≤ 1048576) (hv : StrsAt w v ps) :
    Calls Try.prog 89 #[v] w (CopyEnd ps w) := by
  obtain ⟨a, cap, rfl, hv⟩ := hv
  rcases hv with rfl | ⟨b, o, rfl, hv⟩
  · exact copy_empty a cap w
  · exact copy_some b o cap ps w hl hv
end Go.Proofs.Yteelakhaaipebaa
namespace Go.Proofs.Yteelakhaaipebaa
open Go.RowKit

/-- The marks k, k + 1, .., n of them. -/
def marks (k n : Nat) : List ByteArray := (List.range n).map fun i => mark (k + i)
theorem marks_length (k n : Nat) : (marks k n).length = n := by simp [marks]
theorem marks_succ (k n : Nat) : marks k (n + 1) = marks k n ++ [mark (k + n)] := by simp [marks, List.range_succ]
theorem marks_at (k n i : Nat) (h : i < n) : (marks k n)[i]? = some (mark (k + i)) := by simp [marks, h]

theorem marks_set (k j : Nat) (xs : List Value) (h : j < xs.length) : ((marks k j).map Value.string ++ xs.drop j).set j (.string (mark (k + j))) = (marks k (j + 1)).map Value.string ++ xs.drop (j + 1) := by
  have hl : ((marks k j).map Value.string).length = j := by simp [marks_length]
  rw [List.set_append_right _ _ (by omega), hl, Nat.sub_self, marks_succ, List.drop_eq_getElem_cons h, List.set_cons_zero, List.map_append, List.append_assoc]
  rfl

def MarksEnd (B : Nat) (v : Value) (k n : Nat) (w : World) (e : Ending) (w' : World) : Prop :=
  e = .returned (.int .i64 ((k : Int) + n)) ∧ w'.ownsRow B 9 1 v n ((marks k n).map Value.string) ∧ w.grownBy w' v.ownBlock

def HeldEnd (k n : Nat) (w : World) (e : Ending) (w' : World) : Prop := e = .returned (.int .i64 ((k : Int) + n)) ∧ Below w.heap.size w w'

end Go.Proofs.Yteelakhaaipebaa
namespace Go.Proofs.Yteelakhaaipebaa
open Go.RowKit

theorem StrsAt.sliceK {w : World} {u : Value} {ps : List ByteArray} (h : StrsAt w u ps) : ∃ a cap, u = .slice a ps.length cap := by
  obtain ⟨a, cap, e, _⟩ := h; exact ⟨a, cap, e⟩
theorem StrsAt.same {w w' : World} {v : Value} {ps : List ByteArray} (h : StrsAt w v ps) (hs : Same 0 w.heap.size w w') : StrsAt w' v ps := by
  obtain ⟨a, cap, rfl, h⟩ := h
  refine ⟨a, cap, rfl, ?_⟩
  rcases h with h | ⟨b, o, rfl, h⟩
  · exact Or.inl h
  · refine Or.inr ⟨b, o, rfl, fun i p hp => ?_⟩
    have hv := h i p hp
    have hl := World.block_lt_of_cell? w _ hv
    unfold World.cell? at *
    rw [hs _ (Nat.zero_le _) hl]; exact hv
theorem StrsAt.kept {w : World} {v : Value} {ps : List ByteArray} (h : StrsAt w v ps) : Kept 0 w.heap.size (fun w' => StrsAt w' v ps) w := ⟨Nat.le_refl _, fun _ hs => h.same hs⟩

/-- A list of strings in a row of its own. -/
def StrsObj (lo hi : Nat) (v : Value) (b : List ByteArray) (w : World) : Prop := w.ownsRow lo 9 1 v b.length (b.map Value.string) ∧ ∀ g, v.ownBlock = some g → lo ≤ g ∧ g < hi
theorem StrsObj.kept {lo : Nat} {v : Value} {b : List ByteArray} {w : World} (h : w.ownsRow lo 9 1 v b.length (b.map Value.string)) : Kept lo w.heap.size (StrsObj lo w.heap.size v b) w :=
  ⟨Nat.le_refl _, fun _ hs => ⟨keep_at h (fun k hk => hs k (h.lt k hk).1 (h.lt k hk).2), fun g hg => h.lt g hg⟩⟩

theorem eqStrs_same (v u : Value) (ps : List ByteArray) (w : World) (hl : ps.length ≤ 9223372036854775807) (h1 : StrsAt w v ps) (h2 : StrsAt w u ps) :
    Calls Try.prog 95 #[v, u] w (fun e w' => e = .returned (.bool true) ∧ Below w.heap.size w w') :=
  (eqStrs_any v u ps ps w hl h1 h2 rfl).mono fun _ _ ⟨h, n, hn⟩ => ⟨h, by rw [hn]; exact below_q w n⟩
end Go.Proofs.Yteelakhaaipebaa
