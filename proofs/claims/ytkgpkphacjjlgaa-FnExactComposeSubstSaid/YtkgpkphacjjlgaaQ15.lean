/-
  spec.ComposeSubst: the Binds of the first list, with the second applied, and those of the second that are not hidden.
-/
import Derived.Test.YtkgpkphacjjlgaaQ9
import Derived.Test.YtkgpkphacjjlgaaQ14
namespace Go.Proofs.Ytkgpkphacjjlgaa
open Go.RowKit Go.Maps Go.WideMaps

set_option maxRecDepth 100000 in
set_option maxHeartbeats 3200000 in
theorem compS_any (u v : Value) (a b : List (ByteArray × T)) (lo lo2 ha hb : Nat) (w : World) (hwa : wBs a ≤ 1048576) (hwb : wBs b ≤ 1048576) (hu : BsAt w lo ha u a) (hv : BsAt w lo2 hb v b) :
    Calls Try.prog 18 #[u, v] w (ReadBE (compB a b) w) := by
  obtain ⟨i0, hi, hz0, hz1, hz2⟩ := info_parts infoBind
  have HI := Lib.hid hi; clear hi
  have HZ0 := Lib.hid hz0; clear hz0
  have HZ1 := Lib.hid hz1; clear hz1
  have HZ2 := Lib.hid hz2; clear hz2
  have hla := wBs_len a
  have hlb := wBs_len b
  have HUA := Lib.hid hu
  have HVB := Lib.hid hv
  obtain ⟨aa, ac', rfl⟩ := hu.slice
  obtain ⟨ab, bc', rfl⟩ := hv.slice
  obtain ⟨na, hna⟩ : ∃ n, n = a.length := ⟨_, rfl⟩
  obtain ⟨nb, hnb⟩ : ∃ n, n = b.length := ⟨_, rfl⟩
  rw [← hna] at HUA hla ⊢
  rw [← hnb] at HVB hlb ⊢
  have hlna : na ≤ 1048576 := by omega
  have hlnb : nb ≤ 1048576 := by omega
  have HNA := Lib.hid hna; have HNB := Lib.hid hnb
  have HWA := Lib.hid hwa; have HWB := Lib.hid hwb
  clear hna hnb hu hv hwa hwb hla hlb
  obtain ⟨W0, hW0⟩ : ∃ W0, W0 = w.alloc (.cells #[] 87) := ⟨_, rfl⟩
  have HB0 : Hid (Below w.heap.size w W0) := Lib.hid (by rw [hW0]; exact (Below.refl _ _).alloc (Nat.le_refl _) _)
  have HS0 : Hid (W0.heap.size = w.heap.size + 1) := Lib.hid (by rw [hW0]; simp)
  have HG0 : Hid (GrowB false (ha + hb + 1) w.heap.size (.slice (some ⟨w.heap.size, 0, none⟩) 0 0) [] W0) := Lib.hid (by rw [hW0]; exact GrowB.lit _ _ _ _ (Nat.le_refl _))
  go_enter Try.func18, Try.ntmps18
  go_wp2
  rw [← hW0]
  clear hW0
  go_loopw [5, 6] (fun v i wr => ∃ (j : Nat) (ua : Option Addr) (uc : Nat), j ≤ na ∧ i = .int .i64 j ∧ v = .slice ua j uc ∧ Hid (GrowB false (ha + hb + 1) w.heap.size (.slice ua j uc) ((a.take j).map (fun x => (x.1, mapT (findB b) (fun s => s) x.2))) wr) ∧ Hid (Below w.heap.size w wr)) (fun _ i _ => na - (intOf i).toNat)
  case atStart => exact ⟨0, _, _, Nat.zero_le _, rfl, rfl, HG0, HB0⟩
  case round =>
    clear HG0 HB0 HS0
    obtain ⟨j, ua, uc, hj, rfl, rfl, HG, HB⟩ := hrel
    have hbw := HB.out
    by_cases hlt : j < na
    · obtain ⟨x, hx⟩ : ∃ x, a[j]? = some x := ⟨_, List.getElem?_eq_getElem (by have := HNA.out; omega)⟩
      obtain ⟨bk, o, c', p, tk', tn, tsn, txs, u', e, rfl, _, hps, hszn, c0, c1, c2, c3, c4, har⟩ := HUA.out.at hx
      obtain ⟨rfl, -, rfl⟩ : aa = some ⟨bk, o, none⟩ ∧ na = a.length ∧ ac' = c' := by simpa using e
      obtain ⟨va, vc, rfl⟩ := har.slice
      obtain ⟨ml, hml⟩ : ∃ m, m = txs.length := ⟨_, rfl⟩
      rw [← hml] at c4
      have HRB : Hid (∀ w', Below wr.heap.size wr w' → w'.cell? ⟨bk, o + j * 5, none⟩ = some (.string p) ∧ w'.cell? ⟨bk, o + j * 5 + 1, none⟩ = some (.int .i64 tk') ∧ w'.cell? ⟨bk, o + j * 5 + 2, none⟩ = some (.int .i64 tn) ∧ w'.cell? ⟨bk, o + j * 5 + 3, none⟩ = some (.string tsn) ∧ w'.cell? ⟨bk, o + j * 5 + 4, none⟩ = some (.slice va ml vc)) := Lib.hid (fun w' hb' => by
        have q := bel_two HB.out hb'
        exact ⟨cell_on q c0, cell_on q c1, cell_on q c2, cell_on q c3, cell_on q c4⟩)
      have hwtm := wBs_mem hx
      have HCALL := Lib.hid (sApp_any b HWB.out hb ha (.slice ab nb bc') (tv tk' tn tsn (.slice va ml vc)) (.node tk' tn tsn txs) lo2 lo wr.drew (HVB.out.below hbw.drew) ⟨_, _, _, _, txs, rfl, rfl, hszn, (by rw [hml]; exact har.below hbw.drew)⟩ (by have := HWA.out; simp only at hwtm; omega))
      have hlw : w.heap.size ≤ wr.heap.size := hbw.size
      have HLW := Lib.hid hlw
      have HAFT := Lib.hid (fun (e' : Ending) (w1 : World) (q : LCopyT (ha + hb + 1) (mapT (findB b) (fun s => s) (.node tk' tn tsn txs)) wr.drew e' w1) => gotB_read (bB := 0) HG.out (by rw [List.length_map, List.length_take]; have := HNA.out; omega) hlw hps (Nat.le_refl _) q)
      have HTK : Hid ((a.take (j + 1)).map (fun x => (x.1, mapT (findB b) (fun s => s) x.2)) = (a.take j).map (fun x => (x.1, mapT (findB b) (fun s => s) x.2)) ++ [(p, mapT (findB b) (fun s => s) (.node tk' tn tsn txs))]) := Lib.hid (by rw [tk a j _ hx, List.map_append]; rfl)
      have HML : Hid (j + 1 ≤ 2097152) := Lib.hid (by omega)
      obtain ⟨b0, b1, b2, b3, b4⟩ := HRB.out _ (Below.refl _ _)
      clear c0 c1 c2 c3 c4 har hszn hps hx e hml hlw hwtm hbw
      go_wp2
      go_region_law (first
          | (refine step_append_lies _ rfl (.tmp 15) (.tmp 29) 24 rfl (w.heap.size) 87 i0 (.agg #[.string ByteArray.empty, .int .i64 0, .int .i64 0, .string ByteArray.empty, .slice none 0 0]) 5 72 Try.underlying24 HI.out HZ0.out HZ1.out HZ2.out rfl (by decide) (.slice ua j uc) j ys rfl HYS.out ⟨w1.heap.size, 0, none⟩ 1 1 [.string p, .int .i64 kc, .int .i64 nc, .string nmc, .slice ac mc cc] rfl rfl HNEW.out (by intro u hu; simp at hu; rcases hu with rfl | rfl | rfl | rfl | rfl <;> rfl) (by decide) (by have := HML.out; unfold maxLen; omega) (by have := HML.out; omega) HLO.out _ rfl ?_; intro g3 c3' w3 ho3 hg3 ha3 hl3; have HGOT3 := Lib.hid (HGOT.out g3 c3' w3 ho3 hg3 ha3); clear ho3 hg3 ha3 hl3)
          | (go_simp; go_at_call 44; refine HCALL.out.mono ?_; intro e' w1 hte; obtain ⟨kc, nc, nmc, ac, mc, cc, ys, rfl, hbc, hys, hgot⟩ := HAFT.out e' w1 hte; clear hte; obtain ⟨x0, x1, x2, x3, x4⟩ := HRB.out _ hbc; have HYS := Lib.hid (hys.alloc (.cells #[.string p, .int .i64 kc, .int .i64 nc, .string nmc, .slice ac mc cc] 87)); have HGOT := Lib.hid hgot; have HLO : Hid (w.heap.size ≤ (w1.alloc (.cells #[.string p, .int .i64 kc, .int .i64 nc, .string nmc, .slice ac mc cc] 87)).heap.size) := Lib.hid (by have h1 := hbc.size; have h2 := HLW.out; simp; omega); have HNEW := Lib.hid (news5 w1 (.string p) (.int .i64 kc) (.int .i64 nc) (.string nmc) (.slice ac mc cc) 87 rfl); clear hys hgot hbc))
      all_goals go_wp2
      all_goals go_roundw
      all_goals first
        | exact ⟨j + 1, _, _, by omega, by go_num, rfl, by rw [HTK.out]; exact Lib.hid HGOT3.out.1, Lib.hid (HB.out.trans HGOT3.out.2)⟩
        | (simp [intOf]; omega)
    · have hjn : j = na := by omega
      subst hjn
      have HT : Hid (a.take j = a) := Lib.hid (List.take_of_length_le (by have := HNA.out; omega))
      rw [HT.out] at HG
      have HG1 : Hid (GrowB false (ha + hb + 1) w.heap.size (.slice ua j uc) (a.map (fun x => (x.1, mapT (findB b) (fun s => s) x.2)) ++ (b.take 0).filter (fun x => (findB a x.1).isNone)) wr) := Lib.hid (by simpa using HG.out)
      obtain ⟨m0, hm0⟩ : ∃ m, m = j := ⟨_, rfl⟩
      have HM0 := Lib.hid hm0
      clear hbw HG
      go_wp2
      go_loopw [5, 7] (fun v i wr => ∃ (j q : Nat) (ua : Option Addr) (uc : Nat), j ≤ nb ∧ i = .int .i64 j ∧ v = .slice ua q uc ∧ q ≤ m0 + j ∧ Hid (q = (a.map (fun x => (x.1, mapT (findB b) (fun s => s) x.2)) ++ (b.take j).filter (fun x => (findB a x.1).isNone)).length) ∧
        Hid (GrowB false (ha + hb + 1) w.heap.size (.slice ua q uc) (a.map (fun x => (x.1, mapT (findB b) (fun s => s) x.2)) ++ (b.take j).filter (fun x => (findB a x.1).isNone)) wr) ∧ Hid (Below w.heap.size w wr)) (fun _ i _ => nb - (intOf i).toNat)
      case atStart => exact ⟨0, j, ua, uc, Nat.zero_le _, rfl, rfl, by omega, Lib.hid (by simp; exact HNA.out), HG1, HB⟩
      case round =>
        clear HB HG1 HT
        obtain ⟨i, q, ua, uc, hi, rfl, rfl, hq, HQ, HG, HB⟩ := hrel
        have hbw := HB.out
        by_cases hlt : i < nb
        · obtain ⟨x, hx⟩ : ∃ x, b[i]? = some x := ⟨_, List.getElem?_eq_getElem (by have := HNB.out; omega)⟩
          obtain ⟨bk, o, c', p, tk', tn, tsn, txs, u', e, rfl, _, hps, hszn, c0, c1, c2, c3, c4, har⟩ := HVB.out.at hx
          obtain ⟨rfl, -, rfl⟩ : ab = some ⟨bk, o, none⟩ ∧ nb = b.length ∧ bc' = c' := by simpa using e
          obtain ⟨va, vc, rfl⟩ := har.slice
          obtain ⟨ml, hml⟩ : ∃ m, m = txs.length := ⟨_, rfl⟩
          rw [← hml] at c4
          have HRB : Hid (∀ w', Below wr.heap.size wr w' → w'.cell? ⟨bk, o + i * 5, none⟩ = some (.string p) ∧ w'.cell? ⟨bk, o + i * 5 + 1, none⟩ = some (.int .i64 tk') ∧ w'.cell? ⟨bk, o + i * 5 + 2, none⟩ = some (.int .i64 tn) ∧ w'.cell? ⟨bk, o + i * 5 + 3, none⟩ = some (.string tsn) ∧ w'.cell? ⟨bk, o + i * 5 + 4, none⟩ = some (.slice va ml vc)) := Lib.hid (fun w' hb' => by
            have q := bel_two HB.out hb'
            exact ⟨cell_on q c0, cell_on q c1, cell_on q c2, cell_on q c3, cell_on q c4⟩)
          have HX := Lib.hid hx
          have HPS := Lib.hid hps
          have hwtm := wBs_mem hx
          have HCALL := Lib.hid (lcopy_any hb (tv tk' tn tsn (.slice va ml vc)) (.node tk' tn tsn txs) lo2 wr.drew ⟨_, _, _, _, txs, rfl, rfl, hszn, by rw [hml]; exact har.below hbw.drew⟩ (by have := HWB.out; simp only at hwtm; omega))
          have HATC := Lib.hid (sAt7_any (.slice aa j ac') p a lo ha wr (by have := HNA.out; omega) (HUA.out.below hbw))
          have hlw : w.heap.size ≤ wr.heap.size := hbw.size
          have HLW := Lib.hid hlw
          have HAFT := Lib.hid (fun (e' : Ending) (w1 : World) (qq : LCopyT hb (.node tk' tn tsn txs) wr.drew e' w1) => gotB_read (bB := 0) HG.out HQ.out hlw HPS.out (show hb ≤ ha + hb + 1 by omega) qq)
          have HML : Hid (q + 1 ≤ 2097153) := Lib.hid (by have := HM0.out; omega)
          obtain ⟨b0, b1, b2, b3, b4⟩ := HRB.out _ (Below.refl _ _)
          clear c0 c1 c2 c3 c4 har hszn hps hx e hml hwtm hlw hbw
          go_wp2_with fail
          refine HATC.out.mono ?_
          rintro e w9 ⟨rfl, hat⟩
          rcases hat with ⟨hno, rfl⟩ | ⟨k7, x7, rfl, _, hyes⟩
          · have HFS : Hid ((b.take (i + 1)).filter (fun x => (findB a x.1).isNone) = (b.take i).filter (fun x => (findB a x.1).isNone) ++ [(p, .node tk' tn tsn txs)]) := Lib.hid (by rw [filt_snoc HX.out]; simp [hno])
            clear hno HATC
            go_wp2
            go_region_law (first
          | (refine step_append_lies _ rfl (.tmp 45) (.tmp 58) 24 rfl (w.heap.size) 87 i0 (.agg #[.string ByteArray.empty, .int .i64 0, .int .i64 0, .string ByteArray.empty, .slice none 0 0]) 5 72 Try.underlying24 HI.out HZ0.out HZ1.out HZ2.out rfl (by decide) (.slice ua q uc) q ys rfl HYS.out ⟨w1.heap.size, 0, none⟩ 1 1 [.string p, .int .i64 kc, .int .i64 nc, .string nmc, .slice ac mc cc] rfl rfl HNEW.out (by intro u hu; simp at hu; rcases hu with rfl | rfl | rfl | rfl | rfl <;> rfl) (by decide) (by have := HML.out; unfold maxLen; omega) (by have := HML.out; omega) HLO.out _ rfl ?_; intro g3 c3' w3 ho3 hg3 ha3 hl3; have HGOT3 := Lib.hid (HGOT.out g3 c3' w3 ho3 hg3 ha3); clear ho3 hg3 ha3 hl3)
          | (go_simp; go_at_call 60; refine HCALL.out.mono ?_; intro e' w1 hte; obtain ⟨kc, nc, nmc, ac, mc, cc, ys, rfl, hbc, hys, hgot⟩ := HAFT.out e' w1 hte; clear hte; obtain ⟨x0, x1, x2, x3, x4⟩ := HRB.out _ hbc; have HYS := Lib.hid (hys.alloc (.cells #[.string p, .int .i64 kc, .int .i64 nc, .string nmc, .slice ac mc cc] 87)); have HGOT := Lib.hid hgot; have HLO : Hid (w.heap.size ≤ (w1.alloc (.cells #[.string p, .int .i64 kc, .int .i64 nc, .string nmc, .slice ac mc cc] 87)).heap.size) := Lib.hid (by have h1 := hbc.size; have h2 := HLW.out; simp; omega); have HNEW := Lib.hid (news5 w1 (.string p) (.int .i64 kc) (.int .i64 nc) (.string nmc) (.slice ac mc cc) 87 rfl); clear hys hgot hbc))
            all_goals go_wp2
            all_goals go_roundw
            all_goals first
              | exact ⟨i + 1, q + 1, _, _, by omega, by go_num, rfl, by omega, Lib.hid (by rw [HFS.out, ← List.append_assoc, List.length_append, List.length_singleton, ← HQ.out]), by rw [HFS.out, ← List.append_assoc]; exact Lib.hid HGOT3.out.1, Lib.hid (HB.out.trans HGOT3.out.2)⟩
              | (simp [intOf]; omega)
          · have HFS : Hid ((b.take (i + 1)).filter (fun x => (findB a x.1).isNone) = (b.take i).filter (fun x => (findB a x.1).isNone)) := Lib.hid (by rw [filt_snoc HX.out]; simp [hyes])
            clear hyes HATC HCALL HAFT
            have hk7 : ¬ ((k7 : Int) < 0) := by omega
            go_wp2
            go_roundw
            case rel => exact ⟨i + 1, q, ua, uc, by omega, by go_num, rfl, by omega, by rw [HFS.out]; exact HQ, by rw [HFS.out]; exact HG, HB⟩
            case measure => simp [intOf]; omega
        · have hjn : i = nb := by omega
          subst hjn
          have HT : Hid (b.take i = b) := Lib.hid (List.take_of_length_le (by have := HNB.out; omega))
          have HF : Hid (ReadBE (compB a b) w (.returned (.slice ua q uc)) wr) := Lib.hid (by
            have hg := HG.out
            rw [HT.out] at hg
            have hq' := HQ.out
            rw [HT.out] at hq'
            exact ⟨_, ha + hb + 1, rfl, hg.at (by rw [← hq']; have := HM0.out; unfold maxLen; omega), hbw⟩)
          clear hbw
          go_wp2
          go_ret
          exact HF.out
end Go.Proofs.Ytkgpkphacjjlgaa
