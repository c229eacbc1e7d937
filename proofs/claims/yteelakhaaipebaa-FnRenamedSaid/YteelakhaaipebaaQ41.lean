/-
  spec.l8Match extends a list of Binds by what makes a pattern equal to a term.
-/
import Derived.Test.YteelakhaaipebaaQ27
import Derived.Test.YteelakhaaipebaaQ20
import Derived.Test.YteelakhaaipebaaQ34
import Derived.Test.YteelakhaaipebaaQ5
import Derived.Deep.RegionLawGrows
namespace Go.Proofs.Yteelakhaaipebaa
open Go.RowKit

/-- The list lies where it lay, or in memory that is new and d blocks further. -/
def ReachN (d : Nat) (u : Value) (w : World) (c : Value) : Prop := c.ownBlock = u.ownBlock ∨ ∃ j, c.ownBlock = some j ∧ w.heap.size + d ≤ j
theorem ReachN.next {d : Nat} {u c c' : Value} {w wr : World} (h : ReachN d u w c) (k : ReachN 0 c wr c') (hw : w.heap.size + d ≤ wr.heap.size) : ReachN d u w c' := by
  rcases k with k | ⟨j, k1, k2⟩
  · rcases h with h | ⟨i, h1, h2⟩
    · exact Or.inl (k.trans h)
    · exact Or.inr ⟨i, k.trans h1, h2⟩
  · exact Or.inr ⟨j, k1, by omega⟩
theorem ReachN.off {d i : Nat} {u c : Value} {w : World} (h : ReachN d u w c) (hu : ∀ j, u.ownBlock = some j → j < w.heap.size) (h1 : w.heap.size ≤ i) (h2 : i < w.heap.size + d) : some i ≠ c.ownBlock := by
  intro e
  rcases h with h | ⟨j, q1, q2⟩
  · have := hu i (by rw [← h, ← e]); omega
  · rw [q1] at e; cases e; omega
theorem ReachN.row {d : Nat} {u c : Value} {w : World} (h : ReachN d u w c) : c.ownBlock = u.ownBlock ∨ ∃ j, c.ownBlock = some j ∧ w.heap.size ≤ j := h.imp id (fun ⟨j, h1, h2⟩ => ⟨j, h1, by omega⟩)

def MatE (H B : Nat) (u : Value) (r : Option (List (ByteArray × T))) (w : World) (e : Ending) (w' : World) : Prop :=
  ∃ a m c, e = .returned (.tuple #[.slice a m c, .bool r.isSome]) ∧ w.grownBy w' u.ownBlock ∧ ReachN 0 u w (.slice a m c) ∧ ∀ acc', r = some acc' → m = acc'.length ∧ GrowB false H B (.slice a m c) acc' w'
def MatAt (lo h : Nat) : Prop := ∀ (v v' : Value) (p t : T) (h2 B H : Nat) (u : Value) (acc : List (ByteArray × T)) (w0 w : World), TermAt w0 lo h v p → TermAt w0 lo h2 v' t → h2 ≤ H → wT p ≤ 1048576 → wT t ≤ 1048576 → wBs acc + (1 + wT p + wT t) ≤ 1048577 →
  GrowB false H B u acc w → w0.heap.size ≤ B → Below w0.heap.size w0 w → B ≤ w.heap.size → Calls Try.prog 81 #[v, v', u] w (MatE H B u (matT p t acc) w)

theorem GrowB.row {own : Bool} {H lo : Nat} {v : Value} {bs : List (ByteArray × T)} {w : World} (g : GrowB own H lo v bs w) : ∀ j, v.ownBlock = some j → lo ≤ j ∧ j < w.heap.size := by
  obtain ⟨vs, _, _, _, ho, _⟩ := g
  exact ho.lt
theorem grow_own {w W w3 : World} {a b : Option Nat} (h : w.grownBy W a) (k : W.grownBy w3 b) (hb : b = a ∨ ∃ j, b = some j ∧ w.heap.size ≤ j) : w.grownBy w3 a := grown_comp h k hb

set_option maxRecDepth 100000 in
set_option maxHeartbeats 6400000 in
theorem match_step (lo h : Nat) (IH : ∀ h', h = h' + 1 → MatAt lo h') : MatAt lo h := by
  intro v v' p t h2 B H u acc w0 w hp ht hH hwp hwt hsum hg hB hbw hBw
  obtain ⟨i0, hi, hz0, hz1, hz2⟩ := info_parts infoBind
  have HI := Lib.hid hi; clear hi
  have HZ0 := Lib.hid hz0; clear hz0
  have HZ1 := Lib.hid hz1; clear hz1
  have HZ2 := Lib.hid hz2; clear hz2
  obtain ⟨k, n, s, pu, ps, rfl, rfl, hs, hap⟩ := hp
  obtain ⟨k', n', s', tu, ts, rfl, rfl, hs', hat⟩ := ht
  obtain ⟨pa, pc, rfl⟩ := hap.slice
  obtain ⟨ta, tc, rfl⟩ := hat.slice
  obtain ⟨ua, uc, rfl⟩ := hg.slice
  obtain ⟨q, hq⟩ : ∃ q, q = acc.length := ⟨_, rfl⟩
  rw [← hq] at hg ⊢
  have hql : q ≤ 1048577 := by have := wBs_len acc; omega
  obtain ⟨m, hm⟩ : ∃ m, m = ps.length := ⟨_, rfl⟩
  obtain ⟨m2, hm2⟩ : ∃ m, m = ts.length := ⟨_, rfl⟩
  have hml : m ≤ 1048576 := by rw [wT_node] at hwp; omega
  have hml2 : m2 ≤ 1048576 := by rw [wT_node] at hwt; omega
  rw [← hm] at hap ⊢
  rw [← hm2] at hat ⊢
  have HG := Lib.hid hg
  have HP := Lib.hid hap
  have HT := Lib.hid hat
  have HBW := Lib.hid (And.intro hB (And.intro hbw hBw))
  have HS := Lib.hid (And.intro hs hs')
  have HW := Lib.hid (And.intro hwp (And.intro hwt hsum))
  have HM := Lib.hid (And.intro hm hm2)
  have HQ := Lib.hid hq
  have HH := Lib.hid hH
  have hu := hg.row
  have HU := Lib.hid hu
  obtain ⟨W2, hW2⟩ : ∃ W2, W2 = (w.alloc (.cells #[.int .i64 k, .int .i64 n, .string s, .slice pa m pc] 29)).alloc (.cells #[.int .i64 k', .int .i64 n', .string s', .slice ta m2 tc] 29) := ⟨_, rfl⟩
  have hz2' : W2.heap.size = w.heap.size + 2 := by rw [hW2]; simp
  have rA : W2.heap[w.heap.size]? = some (trow k n s (.slice pa m pc)) := by rw [hW2, Below.heap_alloc _ _ _ (by simp)]; exact heap_new _ _ rfl
  have rB : W2.heap[w.heap.size + 1]? = some (trow k' n' s' (.slice ta m2 tc)) := by rw [hW2]; exact heap_new _ _ (by simp)
  have hb2 : Below w.heap.size w W2 := by rw [hW2]; exact ((Below.refl _ _).alloc (Nat.le_refl _) _).alloc (by simp) _
  have HR := Lib.hid (And.intro hz2' (And.intro rA rB))
  have HB02 := Lib.hid hb2
  have HG2 := Lib.hid (hg.below hb2)
  clear hap hat hg hbw hs hs' hwp hwt hsum hm hm2 hq hH hb2 hu hB hBw hz2' rA rB
  by_cases hk1 : k = 1
  · subst hk1
    rw [matT_var]
    obtain ⟨ok, hok⟩ : ∃ ok, ok = (findB acc s).isSome := ⟨_, rfl⟩
    obtain ⟨r, hr⟩ : ∃ r, r = (findB acc s).getD zT := ⟨_, rfl⟩
    have HFC := Lib.hid (sFindB_anyK (.slice ua q uc) s acc B H W2 (by have := HW.out.2.2; omega) (HG2.out.at (by rw [← HQ.out]; unfold maxLen; omega)))
    rw [← hok, ← hr] at HFC
    have HOK := Lib.hid (And.intro hok hr)
    clear hok hr
    go_enter Try.func81, Try.ntmps81
    go_upto_region 2 with fail
    rw [← hW2]
    clear hW2
    obtain ⟨⟨y0, y1, y2, y3⟩, _⟩ := cells_of4 HR.out.2.1
    go_wp2_with fail
    refine HFC.out.mono ?_
    rintro e w3 ⟨k9, n9, s9, a9, m9, c9, rfl, ht9, hb3⟩
    obtain ⟨W4, hW4⟩ : ∃ W4, W4 = w3.alloc (.cells #[.int .i64 k9, .int .i64 n9, .string s9, .slice a9 m9 c9] 29) := ⟨_, rfl⟩
    have hb34 : Below w3.heap.size w3 W4 := by rw [hW4]; exact (Below.refl _ _).alloc (Nat.le_refl _) _
    have r4 : W4.heap[w3.heap.size]? = some (trow k9 n9 s9 (.slice a9 m9 c9)) := by rw [hW4]; exact heap_new _ _ rfl
    have hb24 := bel_two hb3 hb34
    have HB4 := Lib.hid (bel_two HB02.out hb24)
    have HT9 := Lib.hid (ht9.below hb34)
    have HB24 := Lib.hid hb24
    have rA := (hb24.block _ (by have := HR.out.1; omega)).trans HR.out.2.1
    have rB := (hb24.block _ (by have := HR.out.1; omega)).trans HR.out.2.2
    obtain ⟨⟨z0, z1, z2, z3⟩, _⟩ := cells_of4 rA
    obtain ⟨⟨v0, v1, v2, v3⟩, _⟩ := cells_of4 rB
    obtain ⟨⟨o0, o1, o2, o3⟩, _⟩ := cells_of4 r4
    have HRA := Lib.hid (And.intro rA (And.intro rB r4))
    clear ht9 hb3 hb34 hb24 rA rB r4 y0 y1 y2 y3 HFC
    go_upto_region 3 with fail
    rw [← hW4]
    clear hW4
    cases ok with
    | true =>
      obtain ⟨old, hold⟩ : ∃ old, findB acc s = some old := by
        have := HOK.out.1
        cases e : findB acc s with
        | none => rw [e] at this; cases this
        | some o => exact ⟨o, rfl⟩
      obtain rfl : r = old := by have := HOK.out.2; rw [hold] at this; exact this
      have HEQ := Lib.hid (sSame_any _ lo H _ _ _ (.node k' n' s' ts) W4 h2 HT9.out ⟨_, _, _, _, ts, rfl, rfl, HS.out.2, HT.out.below (bel_two HBW.out.2.1 HB4.out)⟩ (by have := findB_w1 hold; have := HW.out.2.2; omega))
      have HOLD := Lib.hid hold
      clear hold
      go_wp2_with fail
      refine HEQ.out.mono ?_
      rintro e w5 ⟨b, ⟨rfl, hb5⟩, hiff⟩
      have HF : Hid (MatE H B (.slice ua q uc) (meetV acc s (.node k' n' s' ts)) w (.returned (.tuple #[.slice ua q uc, .bool b])) w5) := Lib.hid (by
        have hbb := bel_two HB4.out hb5
        have hm : meetV acc s (.node k' n' s' ts) = if b = true then some acc else none := by
          unfold meetV
          rw [HOLD.out]
          by_cases hb : b = true
          · rw [if_pos hb]; simp only; rw [if_pos (hiff.1 hb)]
          · rw [if_neg hb]; simp only; rw [if_neg (fun h => hb (hiff.2 h))]
        refine ⟨ua, q, uc, ?_, Below.toGrown hbb _, Or.inl rfl, fun acc' he => ?_⟩
        · rw [hm]; cases b <;> rfl
        · rw [hm] at he
          split at he
          · cases he; exact ⟨HQ.out, HG.out.below hbb⟩
          · cases he)
      clear hb5 hiff
      go_wp2
      go_ret2
      exact HF.out
    | false =>
      have hnone : findB acc s = none := by
        have := HOK.out.1
        cases e : findB acc s with
        | none => rfl
        | some o => rw [e] at this; cases this
      have HMV : Hid (meetV acc s (.node k' n' s' ts) = some (acc ++ [(s, .node k' n' s' ts)])) := Lib.hid (by unfold meetV; rw [hnone])
      have HCALL := Lib.hid (lcopy_any h2 (tv k' n' s' (.slice ta m2 tc)) (.node k' n' s' ts) lo W4.drew ⟨_, _, _, _, ts, rfl, rfl, HS.out.2, (HT.out.below (bel_two HBW.out.2.1 HB4.out)).below (Below.drew (Below.refl _ _))⟩ HW.out.2.1)
      have hlw : B ≤ W4.heap.size := by have := HBW.out.2.2; have := HB4.out.size; omega
      have HLW := Lib.hid hlw
      have HAFT := Lib.hid (fun (e' : Ending) (w1 : World) (qq : LCopyT h2 (.node k' n' s' ts) W4.drew e' w1) => gotB_read (bB := 0) (HG.out.below HB4.out) HQ.out hlw HS.out.1 HH.out qq)
      have HQL : Hid (q ≤ 1048577) := Lib.hid hql
      have HZA : Hid (∀ w1, Below W4.heap.size W4 w1 → w1.cell? ⟨w.heap.size, 2, none⟩ = some (.string s)) := Lib.hid (fun w1 hb => cell_on hb z2)
      have HGW : Hid (w.grownBy W4 (Value.slice ua q uc).ownBlock ∧ w.heap.size ≤ W4.heap.size) := Lib.hid ⟨Below.toGrown HB4.out _, HB4.out.size⟩
      clear hlw hnone o0 o1 o2 o3
      go_wp2
      go_region_law (first
          | (refine step_append_lies _ rfl (.tmp 28) (.tmp 34) 24 rfl B 86 i0 (.agg #[.string ByteArray.empty, .int .i64 0, .int .i64 0, .string ByteArray.empty, .slice none 0 0]) 5 72 Try.underlying24 HI.out HZ0.out HZ1.out HZ2.out rfl (by decide) (.slice ua q uc) q ys rfl HYS.out ⟨w1.heap.size, 0, none⟩ 1 1 [.string s, .int .i64 kc, .int .i64 nc, .string nmc, .slice ac mc cc] rfl rfl HNEW.out (by intro u hu; simp at hu; rcases hu with rfl | rfl | rfl | rfl | rfl <;> rfl) (by decide) (by have := HQL.out; unfold maxLen; omega) (by have := HQL.out; omega) HLO.out _ rfl ?_; intro g3 c3' w3 ho3 hg3 ha3 hl3; have HGOT3 := Lib.hid (HGOT.out g3 c3' w3 ho3 hg3 ha3); have HG3 := Lib.hid hg3; have HA3 := Lib.hid ha3; clear ho3 hg3 ha3 hl3)
          | (go_simp; go_at_call 66; refine HCALL.out.mono ?_; intro e' w1 hte; obtain ⟨kc, nc, nmc, ac, mc, cc, ys, rfl, hbc, hys, hgot⟩ := HAFT.out e' w1 hte; clear hte; have x2 := HZA.out _ hbc; have HYS := Lib.hid (hys.alloc (.cells #[.string s, .int .i64 kc, .int .i64 nc, .string nmc, .slice ac mc cc] 86)); have HGOT := Lib.hid hgot; have HBC := Lib.hid hbc; have HLO : Hid (B ≤ (w1.alloc (.cells #[.string s, .int .i64 kc, .int .i64 nc, .string nmc, .slice ac mc cc] 86)).heap.size) := Lib.hid (by have h1 := hbc.size; have h2 := HLW.out; simp; omega); have HNEW := Lib.hid (news5 w1 (.string s) (.int .i64 kc) (.int .i64 nc) (.string nmc) (.slice ac mc cc) 86 rfl); clear hys hgot hbc))
      all_goals (
        have HF : Hid (MatE H B (.slice ua q uc) (meetV acc s (.node k' n' s' ts)) w (.returned (.tuple #[.slice (some ⟨g3, 0, none⟩) (q + 1) c3', .bool true])) w3) := Lib.hid (by
          rw [HMV.out]
          refine ⟨_, _, _, rfl, grown_trans (grown_trans (grown_trans HGW.out.1 (Below.toGrown HBC.out _)) (World.grownBy_alloc _ _ _)) HG3.out, ?_, fun acc' he => ?_⟩
          · rcases HA3.out with h | h
            · exact Or.inl (by rw [h]; rfl)
            · refine Or.inr ⟨g3, rfl, ?_⟩
              have := HGW.out.2
              have := HBC.out.size
              rw [h]; simp; omega
          · cases he
            exact ⟨by rw [List.length_append, List.length_singleton, ← HQ.out], HGOT3.out.1⟩)
        go_wp2
        go_ret2
        exact HF.out)
  · have hk1' : (k == 1) = false := by rw [beq_eq_false_iff_ne]; exact hk1
    have HK1 := Lib.hid hk1
    by_cases hd : k = k' ∧ n = n' ∧ s = s' ∧ m = m2
    · obtain ⟨rfl, rfl, rfl, rfl⟩ := hd
      have HLE : Hid (ps.length = ts.length) := Lib.hid (by have := HM.out.1; have := HM.out.2; omega)
      have HMT : Hid (matT (.node k n s ps) (.node k n s ts) acc = runM (ps.zip ts) acc) := Lib.hid (matT_node hk1 HLE.out)
      have hWP : wBs acc + wP (ps.zip ts) ≤ 1048577 := by have h1 := wP_zip ps ts; have h2 := HW.out.2.2; simp only [wT_node] at h2; omega
      have HWP := Lib.hid hWP
      have HIH := Lib.hid IH; clear IH
      have q1 : (k != k) = false := by simp
      have q2 : (n != n) = false := by simp
      have q3 : (s.toList == s.toList) = true := by simp
      have q4 : ((m : Int) != (m : Int)) = false := by simp
      clear hWP hk1
      go_enter Try.func81, Try.ntmps81
      go_upto_region 9 with fail
      rw [← hW2]
      clear hW2
      go_wp2
      go_loopw [2, 10] (fun cv i wr => ∃ (j qj : Nat) (ca : Option Addr) (cc : Nat) (accj : List (ByteArray × T)), j ≤ m ∧ i = .int .i64 j ∧ cv = .slice ca qj cc ∧ Hid (qj = accj.length) ∧ Hid (runM ((ps.zip ts).take j) acc = some accj) ∧ Hid (GrowB false H B (.slice ca qj cc) accj wr) ∧ Hid (w.grownBy wr (Value.slice ua q uc).ownBlock) ∧ Hid (ReachN 2 (.slice ua q uc) w (.slice ca qj cc)) ∧ Hid (wr.heap[w.heap.size]? = some (trow k n s (.slice pa m pc)) ∧ wr.heap[w.heap.size + 1]? = some (trow k n s (.slice ta m tc)) ∧ w.heap.size + 2 ≤ wr.heap.size)) (fun _ i _ => m - (intOf i).toNat)
      case atStart => exact ⟨0, q, ua, uc, acc, Nat.zero_le _, rfl, rfl, HQ, Lib.hid (by rw [List.take_zero, runM_nil]), HG2, Lib.hid (Below.toGrown HB02.out _), Lib.hid (Or.inl rfl), Lib.hid ⟨HR.out.2.1, HR.out.2.2, by rw [HR.out.1]; exact Nat.le_refl _⟩⟩
      case round =>
        obtain ⟨j, qj, ca, cc, accj, hj, rfl, rfl, HQJ, HRUN, HGJ, HGW, HRE, HBX⟩ := hrel
        obtain ⟨⟨z0, z1, z2, z3⟩, _⟩ := cells_of4 HBX.out.1
        obtain ⟨⟨v0, v1, v2, v3⟩, _⟩ := cells_of4 HBX.out.2.1
        by_cases hlt : j < m
        · obtain ⟨x, hx⟩ : ∃ x, ps[j]? = some x := ⟨_, List.getElem?_eq_getElem (by have := HM.out.1; omega)⟩
          obtain ⟨y, hy⟩ : ∃ y, ts[j]? = some y := ⟨_, List.getElem?_eq_getElem (by have := HM.out.2; omega)⟩
          have hbr : Below w0.heap.size w0 wr := HBW.out.2.1.grown HGW.out HBW.out.2.1.size (fun i hi => Nat.le_trans HBW.out.1 (HU.out i hi).1)
          have hwx := wT_at ps j _ hx
          have hwy := wT_at ts j _ hy
          have hw1 : wT x ≤ 1048576 := by have h := HW.out.1; simp only [wT_node] at h; omega
          have hw2 : wT y ≤ 1048576 := by have h := HW.out.2.1; simp only [wT_node] at h; omega
          have hz : (ps.zip ts)[j]? = some (x, y) := by rw [List.getElem?_zip_eq_some]; exact ⟨hx, hy⟩
          have hwp := wP_take _ _ _ hz
          have hwr := run_w _ _ _ HRUN.out
          have hw3 : wBs accj + (1 + wT x + wT y) ≤ 1048577 := by have := HWP.out; simp only at hwp; omega
          have HX := Lib.hid (And.intro hx hy)
          obtain ⟨g1, b, o, tk1, tn1, ts1, tx1, u1, e1, rfl, rfl, hz1, c0, c1, c2, c3, har⟩ := HP.out.at hx
          obtain ⟨g2, b', o', tk2, tn2, ts2, tx2, u2, e2, rfl, rfl, hz2, d0, d1, d2, d3, har'⟩ := HT.out.at hy
          have HCALL := Lib.hid (HIH.out g1 e1 _ _ _ _ g2 B H (.slice ca qj cc) accj w0 wr.drew ⟨tk1, tn1, ts1, u1, tx1, rfl, rfl, hz1, har⟩ ⟨tk2, tn2, ts2, u2, tx2, rfl, rfl, hz2, har'⟩ (by have := HH.out; omega) hw1 hw2 hw3 (HGJ.out.below (Below.drew (Below.refl _ _))) HBW.out.1 (Below.drew hbr) (by have := HBW.out.2.2; have := HGW.out.size; simp; omega))
          have c0 := cell_on hbr c0
          have c1 := cell_on hbr c1
          have c2 := cell_on hbr c2
          have c3 := cell_on hbr c3
          have d0 := cell_on hbr d0
          have d1 := cell_on hbr d1
          have d2 := cell_on hbr d2
          have d3 := cell_on hbr d3
          clear hx hy hz har har' hz1 hz2 e1 e2 hwx hwy hw1 hw2 hwp hwr hw3 hbr
          go_wp2
          go_region_with (go_at_call 81; refine HCALL.out.mono ?_; rintro e w5 ⟨na, nm, nc, rfl, hg5, hr5, hsome⟩)
          all_goals (
            have HG5 := Lib.hid (grow_own HGW.out (grown_trans (Below.toGrown (Below.drew (Below.refl wr.heap.size wr)) _) hg5) (HRE.out.row))
            have HR5 := Lib.hid (HRE.out.next (hr5 : ReachN 0 _ wr _) HBX.out.2.2)
            have HB5 : Hid (w5.heap[w.heap.size]? = some (trow k n s (.slice (some ⟨b, o, none⟩) m pc)) ∧ w5.heap[w.heap.size + 1]? = some (trow k n s (.slice (some ⟨b', o', none⟩) m tc)) ∧ w.heap.size + 2 ≤ w5.heap.size) := Lib.hid (by
              have h := HBX.out
              have hlow : ∀ i, (Value.slice ua q uc).ownBlock = some i → i < w.heap.size := fun i hi => (HU.out i hi).2
              refine ⟨(hg5.block _ (by have := h.2.2; simp; omega) (HRE.out.off hlow (Nat.le_refl _) (by omega))).trans h.1, (hg5.block _ (by have := h.2.2; simp; omega) (HRE.out.off hlow (Nat.le_succ _) (by omega))).trans h.2.1, Nat.le_trans h.2.2 ?_⟩
              have := hg5.size; simpa using this)
            have HS5 := Lib.hid hsome
            clear hg5 hr5 hsome z0 z1 z2 z3 v0 v1 v2 v3 c0 c1 c2 c3 d0 d1 d2 d3
            cases hm5 : matT (.node tk1 tn1 ts1 tx1) (.node tk2 tn2 ts2 tx2) accj with
            | none =>
              simp only [Option.isSome_none]
              have HF : Hid (MatE H B (.slice ua q uc) (matT (.node k n s ps) (.node k n s ts) acc) w (.returned (.tuple #[.slice ca qj cc, .bool false])) w5) := Lib.hid (by
                rw [HMT.out, run_stop HX.out.1 HX.out.2 HRUN.out hm5]
                exact ⟨ca, qj, cc, rfl, HG5.out, HRE.out.row.imp id (fun ⟨i, h1, h2⟩ => ⟨i, h1, by omega⟩), fun acc' he => by cases he⟩)
              clear hm5
              go_wp2
              go_ret2
              exact HF.out
            | some accn =>
              simp only [Option.isSome_some]
              have HN5 : Hid (nm = accn.length ∧ GrowB false H B (.slice na nm nc) accn w5) := Lib.hid (HS5.out accn hm5)
              have HRN : Hid (runM ((ps.zip ts).take (j + 1)) acc = some accn) := Lib.hid (by rw [run_more HX.out.1 HX.out.2 HRUN.out, hm5])
              clear hm5
              go_wp2
              go_roundw
              case rel => exact ⟨j + 1, nm, na, nc, accn, by omega, by go_num, rfl, Lib.hid HN5.out.1, HRN, Lib.hid HN5.out.2, HG5, HR5, HB5⟩
              case measure => simp [intOf]; omega)
        · have hjm : j = m := by omega
          have HF : Hid (MatE H B (.slice ua q uc) (matT (.node k n s ps) (.node k n s ts) acc) w (.returned (.tuple #[.slice ca qj cc, .bool true])) wr) := Lib.hid (by
            have h := HRUN.out
            rw [List.take_of_length_le (by rw [List.length_zip]; have := HM.out.1; omega)] at h
            rw [HMT.out, h]
            exact ⟨ca, qj, cc, rfl, HGW.out, HRE.out.row.imp id (fun ⟨i, h1, h2⟩ => ⟨i, h1, by omega⟩), fun acc' he => by cases he; exact ⟨HQJ.out, HGJ.out⟩⟩)
          clear hjm
          go_wp2
          go_ret2
          exact HF.out
    · have HF : Hid (MatE H B (.slice ua q uc) (matT (.node k n s ps) (.node k' n' s' ts) acc) w (.returned (.tuple #[.slice ua q uc, .bool false])) W2) := Lib.hid (by
        rw [matT_no hk1 (fun h => hd ⟨h.1, h.2.1, h.2.2.1, by have := HM.out.1; have := HM.out.2; omega⟩)]
        exact ⟨ua, q, uc, rfl, Below.toGrown HB02.out _, Or.inl rfl, fun acc' he => by cases he⟩)
      rw [hW2] at HF
      clear hk1
      by_cases e1 : k = k'
      · subst e1
        have q1 : (k != k) = false := by simp
        by_cases e2 : n = n'
        · subst e2
          have q2 : (n != n) = false := by simp
          by_cases e3 : s = s'
          · subst e3
            have q3 : (s.toList == s.toList) = true := by simp
            have e4 : m ≠ m2 := fun h => hd ⟨rfl, rfl, rfl, h⟩
            have q4 : ((m : Int) != (m2 : Int)) = true := by simp; omega
            clear e4 hd
            go_enter Try.func81, Try.ntmps81
            go_wp2
            go_ret2
            exact HF.out
          · have q3 := texts_ne e3
            clear e3 hd
            go_enter Try.func81, Try.ntmps81
            go_wp2
            go_ret2
            exact HF.out
        · have q2 : (n != n') = true := by simpa using e2
          clear e2 hd
          go_enter Try.func81, Try.ntmps81
          go_wp2
          go_ret2
          exact HF.out
      · have q1 : (k != k') = true := by simpa using e1
        clear e1 hd
        go_enter Try.func81, Try.ntmps81
        go_wp2
        go_ret2
        exact HF.out
theorem l8Match_any (lo h : Nat) : MatAt lo h := by_height (match_step lo) h
end Go.Proofs.Yteelakhaaipebaa
