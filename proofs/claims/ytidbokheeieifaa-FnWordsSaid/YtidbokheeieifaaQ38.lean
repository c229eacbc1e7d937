/-
  spec.ReduceWords: the built-in operators are evaluated from the inside out.
-/
import Derived.Test.YtidbokheeieifaaQ37
import Derived.Test.YtidbokheeieifaaQ7
namespace Go.Proofs.Ytidbokheeieifaa
open Go.RowKit

theorem sL3Word_any (n : Int) (w : World) : Calls Try.prog 52 #[.int .i64 n] w (fun e w' => e = .returned (tv 3 n ByteArray.empty (.slice none 0 0)) ∧ Below w.heap.size w w') := by
  have r1 : (w.alloc (.cells #[.int .i64 0, .int .i64 0, .string ⟨#[]⟩, .slice none 0 0] 26)).heap[w.heap.size]? = some (trow 0 0 ByteArray.empty (.slice none 0 0)) := heap_new _ _ rfl
  obtain ⟨⟨z0, z1, z2, z3⟩, y0, y1, y2, y3⟩ := cells_of4 r1
  clear r1
  go_enter Try.func52, Try.ntmps52
  go_wp2
  (try simp only [Exit.inBlock, Exit.then])
  refine bodyPost_ret (v := tv 3 n ByteArray.empty (.slice none 0 0)) ?hr rfl ?_
  case hr =>
    rw [results_cell (a := 2) (t := 26) (ad := ⟨w.heap.size, 0, none⟩) rfl rfl]
    go_simp
    try rfl
  exact ⟨rfl, (Below.refl _ _).alloc (Nat.le_refl _) _⟩

/-- The node in the making, later on. -/
theorem OutR.later {B tb H : Nat} {K N : Int} {S : ByteArray} {ua : Option Addr} {m uc : Nat} {txs : List T} {base wr w' : World} (o : OutR B tb H K N S ua m uc txs base wr) (hB : B ≤ wr.heap.size) (hb : Below wr.heap.size wr w') : OutR B tb H K N S ua m uc txs base w' :=
  ⟨(hb.block _ (Array.getElem?_eq_some_iff.1 o.box).1).trans o.box, (o.row.keep fun b _ _ b2 => ⟨hb.block b b2, trivial⟩).wide (Nat.le_refl _) hb.size, o.nil, o.len, o.bel.trans (hb.mono hB)⟩
/-- What a row of the call's own holds. -/
theorem OutR.cells {B tb H : Nat} {K N : Int} {S : ByteArray} {ua : Option Addr} {m uc : Nat} {txs : List T} {base wr : World} (o : OutR B tb H K N S ua m uc txs base wr) (hm : txs ≠ []) : ∃ g, ua = some ⟨g, 0, none⟩ ∧ ∀ i k n s xs, txs[i]? = some (T.node k n s xs) →
    ∃ a m' c, xs.length = m' ∧ wr.cell? ⟨g, i * 4, none⟩ = some (.int .i64 k) ∧ wr.cell? ⟨g, i * 4 + 1, none⟩ = some (.int .i64 n) ∧ wr.cell? ⟨g, i * 4 + 2, none⟩ = some (.string s) ∧ wr.cell? ⟨g, i * 4 + 3, none⟩ = some (.slice a m' c) := by
  have h := o.row
  cases H with
  | zero => exact absurd h.1 hm
  | succ H =>
    obtain ⟨a, cap, e, _, hc⟩ := h
    rcases hc with hc | ⟨g, xs, U, L, R, ea, _, h1, h2, ho, hx, hd⟩
    · exact absurd hc hm
    · cases e
      subst ea
      refine ⟨g, rfl, fun i k n s ys hi => ?_⟩
      obtain ⟨⟨_, x0, x1, x2⟩, x3, l1, l2, l3, hr⟩ := hx i k n s ys hi
      obtain ⟨a', c', e3⟩ := hr.slice
      have hil : i < txs.length := (List.getElem?_eq_some_iff.1 hi).1
      have hl := ho.1
      rw [e3] at x3
      exact ⟨a', _, c', rfl, by rw [ho.cellAt (i * 4) (by omega), x0], by rw [ho.cellAt (i * 4 + 1) (by omega), x1], by rw [ho.cellAt (i * 4 + 2) (by omega), x2], by rw [ho.cellAt (i * 4 + 3) (by omega), x3]⟩

def RedAt (h : Nat) : Prop := ∀ (v : Value) (t : T) (lo : Nat) (w : World), TermAt w lo h v t → cT t ≤ 4294967296 → Calls Try.prog 14 #[v] w (CopyR h (redT t) w)

set_option maxRecDepth 100000 in
set_option maxHeartbeats 6400000 in
theorem red_step (h : Nat) (IH : ∀ h', h = h' + 1 → RedAt h') : RedAt h := by
  intro v t lo w ht hw
  obtain ⟨k, n, s, u, xs, rfl, rfl, hs, ha⟩ := ht
  obtain ⟨a, cap, rfl⟩ := ha.slice
  obtain ⟨i0, hi, hz0, hz1, hz2⟩ := info_parts infoTermD
  have HI := Lib.hid hi; clear hi
  have HZ0 := Lib.hid hz0; clear hz0
  have HZ1 := Lib.hid hz1; clear hz1
  have HZ2 := Lib.hid hz2; clear hz2
  have HA := Lib.hid ha; clear ha
  have HW : Hid (1 + cS xs ≤ 4294967296 ∧ xs.length ≤ cS xs) := Lib.hid ⟨by rw [cT_node] at hw; exact hw, len_cSc xs⟩
  have HIH := Lib.hid IH; clear IH hw
  have HSS := Lib.hid hs; clear hs
  obtain ⟨m, hm⟩ : ∃ m, m = xs.length := ⟨_, rfl⟩
  have hml : m ≤ 4294967296 := by have := HW.out; omega
  rw [← hm] at HA ⊢
  have HM := Lib.hid hm; clear hm
  obtain ⟨W0, hW0⟩ : ∃ W0, W0 = ((boxed w k n s (.slice a m cap)).alloc (.cells #[.int .i64 0, .int .i64 0, .string ⟨#[]⟩, .slice none 0 0] 26)).alloc (.cells #[.int .i64 k, .int .i64 n, .string s, .slice none 0 0] 26) := ⟨_, rfl⟩
  have HBW0 : Hid (Below w.heap.size w W0) := Lib.hid (by rw [hW0]; exact ((boxed_below w k n s _).alloc (by simp) _).alloc (by simp; omega) _)
  have HRR : Hid (W0.heap[w.heap.size]? = some (.cells #[.int .i64 k, .int .i64 n, .string s, .slice a m cap] 26 (0, 0)) ∧ W0.heap[w.heap.size + 1]? = some (trow 0 0 ByteArray.empty (.slice none 0 0))) := Lib.hid ⟨by
    rw [hW0, Below.heap_alloc _ _ _ (by simp; omega), Below.heap_alloc _ _ _ (by simp)]; exact heap_new w _ rfl, by
    rw [hW0, Below.heap_alloc _ _ _ (by simp)]; exact heap_new _ _ (by simp)⟩
  have HRB : Hid (W0.heap[w.heap.size + 2]? = some (trow k n s (.slice none 0 0))) := Lib.hid (by rw [hW0]; exact heap_new _ _ (by simp))
  unfold boxed at hW0
  go_enter Try.func14, Try.ntmps14
  go_upto_region 2 with fail
  have hs0 : W0.heap.size = w.heap.size + 2 + 1 := by rw [hW0]; simp
  have hB0 : Below w.heap.size w W0 := HBW0.out
  have HB0 := Lib.hid hB0
  have HS0 := Lib.hid hs0
  have HR0 : Hid (OutR (w.heap.size + 2) (w.heap.size + 2) (h) k n s none 0 0 [] W0 W0) := Lib.hid ⟨HRB.out, OwnR.nil _ _ _ _ _ _ _, fun _ => rfl, rfl, Below.refl _ _⟩
  clear hs0 hB0
  rw [← hW0]
  clear hW0
  go_wp2
  go_loopw [4] (fun i wr => ∃ (j : Nat) (ua : Option Addr) (uc : Nat), j ≤ m ∧ i = .int .i64 j ∧ Hid (OutR (w.heap.size + 2) (w.heap.size + 2) (h) k n s ua j uc ((xs.take j).map redT) W0 wr)) (fun i _ => m - (intOf i).toNat)
  case atStart => exact ⟨0, none, 0, Nat.zero_le _, rfl, HR0⟩
  case round =>
    clear HR0
    obtain ⟨j, ua, uc, hj, rfl, HO⟩ := hrel
    have hbl := HO.out.bel
    have q0 := (hbl.block (w.heap.size) (by omega)).trans HRR.out.1
    have q1 := (hbl.block (w.heap.size + 1) (by omega)).trans HRR.out.2
    obtain ⟨⟨c0, c1, c2, c3⟩, _⟩ := cells_of4 q0
    obtain ⟨⟨t0, t1, t2, t3⟩, p0, p1, p2, p3⟩ := cells_of4 HO.out.box
    have hzr : w.heap.size + 2 < wr.heap.size := (Array.getElem?_eq_some_iff.1 HO.out.box).1
    have HQ := Lib.hid (And.intro q0 q1); clear q0 q1
    by_cases hlt : j < m
    · obtain ⟨y, hy⟩ : ∃ y, xs[j]? = some y := ⟨_, List.getElem?_eq_getElem (by have := HM.out; omega)⟩
      obtain ⟨h', b, o, tk', tn, tsn, txs, u', e, rfl, rfl, hszy, e0, e1, e2, e3, har⟩ := HA.out.at hy
      obtain ⟨va, vc, rfl⟩ := har.slice
      have hbw : Below w.heap.size w wr := HB0.out.trans (hbl.mono (by omega))
      have d0 := cell_on hbw e0
      have d1 := cell_on hbw e1
      have d2 := cell_on hbw e2
      have d3 := cell_on hbw e3
      have hwt := cT_atc xs j _ hy
      have HCALL := Lib.hid (HIH.out h' e _ _ lo wr.drew ⟨tk', tn, tsn, _, txs, rfl, rfl, hszy, har.below hbw.drew⟩ (by have := HW.out; omega))
      have hml1 : j + 1 ≤ maxLen := by unfold maxLen; omega
      have HAFT := Lib.hid (fun (e' : Ending) (w1 : World) (q : CopyR _ (redT (.node tk' tn tsn txs)) wr.drew e' w1) => got_e e HO.out (Nat.le_refl _) hml1 q)
      have HTK : Hid ((xs.take (j + 1)).map redT = (xs.take j).map redT ++ [redT (.node tk' tn tsn txs)]) := Lib.hid (by rw [tk xs j _ hy, List.map_append]; rfl)
      have HML : Hid (j + 1 ≤ 8589934592) := Lib.hid (by omega)
      clear hwt har hszy e e0 e1 e2 e3 hy hbw hml1
      go_wp2
      go_region_law (first
        | (refine step_append_lies _ rfl (.tmp 20) (.tmp 27) 24 rfl (w.heap.size + 2 + 1) 26 i0 (.agg #[.int .i64 0, .int .i64 0, .string ByteArray.empty, .slice none 0 0]) 4 56 Try.underlying24 HI.out HZ0.out HZ1.out HZ2.out rfl (by decide) (.slice ua j uc) j ys rfl HYS.out ⟨w1.heap.size, 0, none⟩ 1 1 [.int .i64 kc, .int .i64 nc, .string nmc, .slice ac mc cc] rfl rfl HNEW.out (by intro u hu; simp at hu; rcases hu with rfl | rfl | rfl | rfl <;> rfl) (by decide) (by have := HML.out; unfold maxLen; omega) (by have := HML.out; omega) HLO.out _ rfl ?_; intro g3 c3' w3 ho3 hg3 ha3 hl3; obtain ⟨htb3, hgot3⟩ := HGOT.out g3 c3' w3 ho3 hg3 ha3; obtain ⟨⟨q0', q1', q2', q3'⟩, r0', r1', r2', r3'⟩ := cells_of4 htb3; have HGOT3 := Lib.hid hgot3; clear ho3 hg3 ha3 hl3 htb3 hgot3)
        | (go_simp; go_at_call 14; refine HCALL.out.mono ?_; intro e' w1 hte; obtain ⟨kc, nc, nmc, ac, mc, cc, ys, rfl, hkt, hbc, hys, hgot⟩ := HAFT.out e' w1 hte; clear hte; obtain ⟨⟨q0, q1, q2, q3⟩, r0, r1, r2, r3⟩ := cells_of4 hkt; have q3a := cell_on ((Below.refl _ _).alloc (Nat.le_refl w1.heap.size) (.cells #[.int .i64 kc, .int .i64 nc, .string nmc, .slice ac mc cc] 26)) q3; have HYS := Lib.hid (hys.alloc (.cells #[.int .i64 kc, .int .i64 nc, .string nmc, .slice ac mc cc] 26)); have HGOT := Lib.hid hgot; have HLO : Hid (w.heap.size + 2 + 1 ≤ (w1.alloc (.cells #[.int .i64 kc, .int .i64 nc, .string nmc, .slice ac mc cc] 26)).heap.size) := Lib.hid (by have h1 := hbc.size; have h2 := HS0.out; simp; omega); have HNEW := Lib.hid (news4' w1 (.int .i64 kc) (.int .i64 nc) (.string nmc) (.slice ac mc cc) 26 rfl); clear hkt hys hgot hbc))
      all_goals go_wp2
      all_goals go_roundw
      all_goals first
        | exact ⟨j + 1, _, _, by omega, by go_num, by rw [HTK.out]; exact HGOT3⟩
        | (simp [intOf]; omega)
    · have hjm : j = m := by omega
      subst hjm
      have HT : Hid ((xs.take j).map redT = xs.map redT) := Lib.hid (by rw [List.take_of_length_le (by have := HM.out; omega)])
      rw [HT.out] at HO
      have hzl : (xs.map redT).length = j := by rw [List.length_map]; exact HM.out.symm
      have HYL := Lib.hid hzl; clear hzl
      obtain ⟨ys, hys⟩ : ∃ ys, ys = xs.map redT := ⟨_, rfl⟩
      have HF : Hid (redT (.node k n s xs) = red1 k n s ys) := Lib.hid (by rw [redT_node, hys])
      rw [← hys] at HO HYL
      clear hys HT hlt
      by_cases hk : k = 2
      rotate_left
      · have hkb : (k == 2) = false := by simpa using hk
        have HNO : Hid (goesB k n s ys = false) := Lib.hid (by unfold goesB; rw [hkb]; rfl)
        clear hk
        have HFI := Lib.hid (fun v0 v1 v2 v3 => copy_fin2 (b := w.heap.size + 1) (k := k) (n := n) (v0 := v0) (v1 := v1) (v2 := v2) (v3 := v3) HSS.out HO.out.row (HB0.out.trans (HO.out.bel.mono (by omega))) (by omega) (by omega))
        obtain ⟨⟨z0, z1, z2, z3⟩, y0, y1, y2, y3⟩ := cells_of4 HQ.out.2
        have HFF : Hid (redT (.node k n s xs) = .node k n s ys) := Lib.hid (by rw [HF.out, red1_no HNO.out])
        go_wp2
        (try simp only [Exit.inBlock, Exit.then])
        refine bodyPost_ret (v := tv k n s (.slice ua j uc)) ?hrAA rfl ?_
        case hrAA =>
          rw [results_cell (a := 2) (t := 26) (ad := ⟨w.heap.size + 1, 0, none⟩) rfl rfl]
          go_simp
        rw [HFF.out]
        exact HFI.out _ _ _ _
      subst hk
      have hkb : ((2 : Int) == 2) = true := rfl
      by_cases hn : n = 0
      rotate_left
      · have hnb : (n == 0) = false := by simpa using hn
        have HNO : Hid (goesB 2 n s ys = false) := Lib.hid (by unfold goesB; rw [hnb]; rfl)
        clear hn
        have HFI := Lib.hid (fun v0 v1 v2 v3 => copy_fin2 (b := w.heap.size + 1) (k := 2) (n := n) (v0 := v0) (v1 := v1) (v2 := v2) (v3 := v3) HSS.out HO.out.row (HB0.out.trans (HO.out.bel.mono (by omega))) (by omega) (by omega))
        obtain ⟨⟨z0, z1, z2, z3⟩, y0, y1, y2, y3⟩ := cells_of4 HQ.out.2
        have HFF : Hid (redT (.node 2 n s xs) = .node 2 n s ys) := Lib.hid (by rw [HF.out, red1_no HNO.out])
        go_wp2
        (try simp only [Exit.inBlock, Exit.then])
        refine bodyPost_ret (v := tv 2 n s (.slice ua j uc)) ?hrAB rfl ?_
        case hrAB =>
          rw [results_cell (a := 2) (t := 26) (ad := ⟨w.heap.size + 1, 0, none⟩) rfl rfl]
          go_simp
        rw [HFF.out]
        exact HFI.out _ _ _ _
      subst hn
      have HSB := Lib.hid (fun w' => sBuiltin_any s w')
      go_wp2_with fail
      refine (HSB.out _).mono ?_
      rintro e w9 ⟨rfl, hw9⟩
      rw [hw9]
      clear hw9
      cases hbs : builtinB s with
      | false =>
        have HNO : Hid (goesB 2 0 s ys = false) := Lib.hid (by unfold goesB; rw [hbs]; rfl)
        clear hbs
        have HFI := Lib.hid (fun v0 v1 v2 v3 => copy_fin2 (b := w.heap.size + 1) (k := 2) (n := 0) (v0 := v0) (v1 := v1) (v2 := v2) (v3 := v3) HSS.out HO.out.row (HB0.out.trans (HO.out.bel.mono (by omega))) (by omega) (by omega))
        obtain ⟨⟨z0, z1, z2, z3⟩, y0, y1, y2, y3⟩ := cells_of4 HQ.out.2
        have HFF : Hid (redT (.node 2 0 s xs) = .node 2 0 s ys) := Lib.hid (by rw [HF.out, red1_no HNO.out])
        go_wp2
        (try simp only [Exit.inBlock, Exit.then])
        refine bodyPost_ret (v := tv 2 0 s (.slice ua j uc)) ?hrAC rfl ?_
        case hrAC =>
          rw [results_cell (a := 2) (t := 26) (ad := ⟨w.heap.size + 1, 0, none⟩) rfl rfl]
          go_simp
        rw [HFF.out]
        exact HFI.out _ _ _ _
      | true =>
      by_cases hj2 : j = 2
      rotate_left
      · have hjb : ((j : Int) == 2) = false := by simp; omega
        have HNO : Hid (goesB 2 0 s ys = false) := Lib.hid (by unfold goesB; rw [HYL.out]; simp [hj2])
        clear hj2 hbs
        have HFI := Lib.hid (fun v0 v1 v2 v3 => copy_fin2 (b := w.heap.size + 1) (k := 2) (n := 0) (v0 := v0) (v1 := v1) (v2 := v2) (v3 := v3) HSS.out HO.out.row (HB0.out.trans (HO.out.bel.mono (by omega))) (by omega) (by omega))
        obtain ⟨⟨z0, z1, z2, z3⟩, y0, y1, y2, y3⟩ := cells_of4 HQ.out.2
        have HFF : Hid (redT (.node 2 0 s xs) = .node 2 0 s ys) := Lib.hid (by rw [HF.out, red1_no HNO.out])
        go_wp2
        (try simp only [Exit.inBlock, Exit.then])
        refine bodyPost_ret (v := tv 2 0 s (.slice ua j uc)) ?hrAD rfl ?_
        case hrAD =>
          rw [results_cell (a := 2) (t := 26) (ad := ⟨w.heap.size + 1, 0, none⟩) rfl rfl]
          go_simp
        rw [HFF.out]
        exact HFI.out _ _ _ _
      subst hj2
      have HBS := Lib.hid hbs; clear hbs
      obtain ⟨y0', hy0⟩ : ∃ y, ys[0]? = some y := ⟨_, List.getElem?_eq_getElem (by have := HYL.out; omega)⟩
      obtain ⟨y1', hy1⟩ : ∃ y, ys[1]? = some y := ⟨_, List.getElem?_eq_getElem (by have := HYL.out; omega)⟩
      obtain ⟨ka, na, sa, xa⟩ := y0'
      obtain ⟨kb, nb, sb, xb⟩ := y1'
      obtain ⟨g, rfl, hcs⟩ := HO.out.cells (fun e => by rw [e] at hy0; simp at hy0)
      obtain ⟨aa, ma, ca, hma, a0, a1, a2, a3⟩ := hcs 0 _ _ _ _ hy0
      obtain ⟨ab, mb, cb, hmb, b0, b1, b2, b3⟩ := hcs 1 _ _ _ _ hy1
      simp only [Nat.zero_mul, Nat.one_mul, Nat.zero_add, Nat.reduceAdd] at a0 a1 a2 a3 b0 b1 b2 b3
      have HY : Hid ((ys[0]?).map wordB = some (wordV ka na sa ma) ∧ (ys[1]?).map wordB = some (wordV kb nb sb mb) ∧ (ys[0]?).map numT = some na ∧ (ys[1]?).map numT = some nb) := Lib.hid (by rw [hy0, hy1, ← hma, ← hmb]; exact ⟨rfl, rfl, rfl, rfl⟩)
      have HGO : Hid (goesB 2 0 s ys = (wordV ka na sa ma && wordV kb nb sb mb)) := Lib.hid (by unfold goesB; rw [HYL.out, HBS.out, HY.out.1, HY.out.2.1]; rfl)
      clear hy0 hy1 hcs hma hmb
      have hzr2 : w.heap.size + 2 ≤ wr.heap.size := by omega
      have HSW := Lib.hid (fun w' => sWord_any ka na sa aa ma ca w')
      go_wp2_with fail
      refine (HSW.out _).mono ?_
      rintro e w3 ⟨rfl, hb3⟩
      have HO3 := Lib.hid (HO.out.later hzr2 hb3)
      have HQ3 := Lib.hid (And.intro ((hb3.block _ (Array.getElem?_eq_some_iff.1 HQ.out.1).1).trans HQ.out.1) ((hb3.block _ (Array.getElem?_eq_some_iff.1 HQ.out.2).1).trans HQ.out.2))
      have e0 := cell_on hb3 b0
      have e1 := cell_on hb3 b1
      have e2 := cell_on hb3 b2
      have e3 := cell_on hb3 b3
      have f1 := cell_on hb3 a1
      obtain ⟨⟨c0', c1', c2', c3'⟩, _⟩ := cells_of4 HQ3.out.1
      obtain ⟨⟨t0', t1', t2', t3'⟩, _⟩ := cells_of4 HO3.out.box
      have hzs := hb3.size
      clear hb3 a0 a1 a2 a3 b0 b1 b2 b3 t0 t1 t2 t3 c0 c1 c2 c3 p0 p1 p2 p3 HO HQ hbl
      have HO := HO3; clear HO3
      have HQ := HQ3; clear HQ3
      cases hwa : wordV ka na sa ma with
      | false =>
        have HNO : Hid (goesB 2 0 s ys = false) := Lib.hid (by rw [HGO.out, hwa]; rfl)
        clear hwa
        have HFI := Lib.hid (fun v0 v1 v2 v3 => copy_fin2 (b := w.heap.size + 1) (k := 2) (n := 0) (v0 := v0) (v1 := v1) (v2 := v2) (v3 := v3) HSS.out HO.out.row (HB0.out.trans (HO.out.bel.mono (by omega))) (by omega) (by omega))
        obtain ⟨⟨z0, z1, z2, z3⟩, y0, y1, y2, y3⟩ := cells_of4 HQ.out.2
        have HFF : Hid (redT (.node 2 0 s xs) = .node 2 0 s ys) := Lib.hid (by rw [HF.out, red1_no HNO.out])
        go_wp2
        (try simp only [Exit.inBlock, Exit.then])
        refine bodyPost_ret (v := tv 2 0 s (.slice (some ⟨g, 0, none⟩) 2 uc)) ?hrAE rfl ?_
        case hrAE =>
          rw [results_cell (a := 2) (t := 26) (ad := ⟨w.heap.size + 1, 0, none⟩) rfl rfl]
          go_simp
        rw [HFF.out]
        exact HFI.out _ _ _ _
      | true =>
      have HSW2 := Lib.hid (fun w' => sWord_any kb nb sb ab mb cb w')
      go_wp2_with fail
      refine (HSW2.out _).mono ?_
      rintro e w4 ⟨rfl, hb4⟩
      have HO3 := Lib.hid (HO.out.later (by omega) hb4)
      have HQ3 := Lib.hid (And.intro ((hb4.block _ (Array.getElem?_eq_some_iff.1 HQ.out.1).1).trans HQ.out.1) ((hb4.block _ (Array.getElem?_eq_some_iff.1 HQ.out.2).1).trans HQ.out.2))
      have g1 := cell_on hb4 e1
      have g0 := cell_on hb4 f1
      obtain ⟨⟨c0, c1, c2, c3⟩, _⟩ := cells_of4 HQ3.out.1
      obtain ⟨⟨t0, t1, t2, t3⟩, _⟩ := cells_of4 HO3.out.box
      have hzs2 := hb4.size
      clear hb4 e0 e1 e2 e3 f1 c0' c1' c2' c3' t0' t1' t2' t3' HO HQ
      have HO := HO3; clear HO3
      have HQ := HQ3; clear HQ3
      cases hwb : wordV kb nb sb mb with
      | false =>
        have HNO : Hid (goesB 2 0 s ys = false) := Lib.hid (by rw [HGO.out, hwa, hwb]; rfl)
        clear hwa hwb
        have HFI := Lib.hid (fun v0 v1 v2 v3 => copy_fin2 (b := w.heap.size + 1) (k := 2) (n := 0) (v0 := v0) (v1 := v1) (v2 := v2) (v3 := v3) HSS.out HO.out.row (HB0.out.trans (HO.out.bel.mono (by omega))) (by omega) (by omega))
        obtain ⟨⟨z0, z1, z2, z3⟩, y0, y1, y2, y3⟩ := cells_of4 HQ.out.2
        have HFF : Hid (redT (.node 2 0 s xs) = .node 2 0 s ys) := Lib.hid (by rw [HF.out, red1_no HNO.out])
        go_wp2
        (try simp only [Exit.inBlock, Exit.then])
        refine bodyPost_ret (v := tv 2 0 s (.slice (some ⟨g, 0, none⟩) 2 uc)) ?hrAF rfl ?_
        case hrAF =>
          rw [results_cell (a := 2) (t := 26) (ad := ⟨w.heap.size + 1, 0, none⟩) rfl rfl]
          go_simp
        rw [HFF.out]
        exact HFI.out _ _ _ _
      | true =>
      have HYES : Hid (redT (.node 2 0 s xs) = .node 3 (opW s na nb) ByteArray.empty []) := Lib.hid (by rw [HF.out, red1_yes (by rw [HGO.out, hwa, hwb]; rfl), HY.out.2.2.1, HY.out.2.2.2]; rfl)
      have hna := (wordV_iff _ _ _ _).1 hwa
      have hnb := (wordV_iff _ _ _ _).1 hwb
      have HOP := Lib.hid (fun w' => sOp_any s na nb w' hna.2.1 hna.2.2.1 hnb.2.1 hnb.2.2.1)
      have HLW := Lib.hid (fun w' => sL3Word_any (opW s na nb) w')
      have HD4 := Lib.hid (Below.drew (Below.refl w4.heap.size w4))
      clear hwa hwb hna hnb
      go_wp2
      go_region_law (first
        | (go_simp; go_at_call 62; refine (HOP.out _).mono ?_; rintro e' w5 ⟨rfl, rfl⟩)
        | (go_simp; go_at_call 52; refine (HLW.out _).mono ?_; rintro e' w6 ⟨rfl, hb6⟩; have hb7 : Below w4.heap.size w4 w6 := bel_two HD4.out hb6; obtain ⟨⟨z0, z1, z2, z3⟩, y0, y1, y2, y3⟩ := cells_of4 ((hb7.block _ (Array.getElem?_eq_some_iff.1 HQ.out.2).1).trans HQ.out.2); have HB7 := Lib.hid hb7; clear hb6 hb7))
      all_goals
        have HFI := Lib.hid (fun v0 v1 v2 v3 => copy_fin2 (b := w.heap.size + 1) (B := w.heap.size + 2) (k := 3) (n := opW s na nb) (s := ByteArray.empty) (u := .slice none 0 0) (h := h) (xs := []) (v0 := v0) (v1 := v1) (v2 := v2) (v3 := v3) (by decide) (OwnR.nil _ _ _ _ _ _ _) (HB0.out.trans ((HO.out.bel.trans (HB7.out.mono (by omega))).mono (by omega))) (by omega) (by omega))
        go_wp2
        (try simp only [Exit.inBlock, Exit.then])
        refine bodyPost_ret (v := tv 3 (opW s na nb) ByteArray.empty (.slice none 0 0)) ?_ rfl ?_
        · rw [results_cell (a := 2) (t := 26) (ad := ⟨w.heap.size + 1, 0, none⟩) rfl rfl]
          go_simp
        rw [HYES.out]
        exact HFI.out _ _ _ _

theorem sRed_any (h : Nat) : RedAt h := by_height red_step h
end Go.Proofs.Ytidbokheeieifaa
