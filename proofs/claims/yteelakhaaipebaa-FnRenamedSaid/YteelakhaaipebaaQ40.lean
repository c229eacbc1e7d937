/-
  The method sortedBinds of a substitution: its Binds in the names' order, in memory of their own.
-/
import Derived.Test.YteelakhaaipebaaQ39
import Derived.Test.YteelakhaaipebaaQ24
namespace Go.Proofs.Yteelakhaaipebaa
open Go.RowKit Go.Maps Go.WideMaps

theorem BsV.names {w : World} {lo h : Nat} {bs : List (ByteArray × T)} {l : List (ByteArray × Value)} (q : BsV w lo h bs l) : l.map Prod.fst = bs.map Prod.fst := by
  apply List.ext_getElem?
  intro i
  rw [List.getElem?_map, List.getElem?_map]
  cases hx : bs[i]? with
  | none =>
    have : bs.length ≤ i := List.getElem?_eq_none_iff.1 hx
    rw [List.getElem?_eq_none (by rw [q.1]; exact this)]; rfl
  | some x =>
    obtain ⟨p, t⟩ := x
    obtain ⟨v, hv, _⟩ := q.2 i p t hx
    rw [hv]; rfl
theorem findB_in {bs : List (ByteArray × T)} {nm : ByteArray} (h : nm ∈ bs.map Prod.fst) : ∃ t, findB bs nm = some t := by
  obtain ⟨x, hx, rfl⟩ := List.mem_map.1 h
  cases e : findB bs x.1 with
  | some t => exact ⟨t, rfl⟩
  | none =>
    unfold findB at e
    have e2 : bs.find? (fun y => y.1.toList == x.1.toList) = none := by
      cases e3 : bs.find? (fun y => y.1.toList == x.1.toList) with
      | none => rfl
      | some y => rw [e3] at e; cases e
    have := List.find?_eq_none.1 e2 x hx
    simp at this

set_option maxRecDepth 100000 in
set_option maxHeartbeats 3200000 in
theorem sortB_any (ba : Nat) (la : List (ByteArray × Value)) (a : List (ByteArray × T)) (rs : List ByteArray) (lo ha : Nat) (w : World) (hta : TabAt ba la w) (hba : BsV w lo ha a la) (hwa : wBs a ≤ 1048577) (hrs : SortedOf (a.map Prod.fst) rs) :
    Calls Try.prog 80 #[.agg #[.map (some ba)]] w (CopyBE (restB a rs) w) := by
  obtain ⟨i0, hi, hz0, hz1, hz2⟩ := info_parts infoBind
  have HI := Lib.hid hi; clear hi
  have HZ0 := Lib.hid hz0; clear hz0
  have HZ1 := Lib.hid hz1; clear hz1
  have HZ2 := Lib.hid hz2; clear hz2
  have hla := wBs_len a
  have hll : la.length ≤ 1048577 := by rw [hba.1]; omega
  have HLL := Lib.hid (And.intro hla hll)
  have HNM := Lib.hid hba.names
  obtain ⟨W0, hW0⟩ : ∃ W0, W0 = w.alloc (.cells #[.map (some ba)] 83) := ⟨_, rfl⟩
  have h10 : Below w.heap.size w W0 := by rw [hW0]; exact (Below.refl _ _).alloc (Nat.le_refl _) _
  have HB0 := Lib.hid h10
  have r0 : W0.heap[w.heap.size]? = some (.cells #[.map (some ba)] 83 (0, 0)) := by rw [hW0]; exact heap_new _ _ rfl
  have hs0 : W0.heap.size = w.heap.size + 1 := by rw [hW0]; simp
  have c0 := cell_of_row W0 w.heap.size 0 _ _ _ r0
  simp at c0
  have HTA0 := Lib.hid (hta.below h10)
  have HBA := Lib.hid (hba.below h10)
  have HSO := Lib.hid (sortedT_any ba la W0 (hta.below h10) (by omega))
  have HR0 := Lib.hid (And.intro r0 hs0)
  have HWA := Lib.hid hwa
  have HRS := Lib.hid hrs
  clear hba hwa hrs hla r0 hs0 hta h10 hll
  go_enter Try.func80, Try.ntmps80
  go_upto_region 2 with fail
  rw [← hW0]
  clear hW0
  go_wp2_with fail
  refine (mapKeysT_any (some ba) _).mono ?_
  rintro e w1 ⟨rfl, rfl⟩
  go_wp2_with fail
  refine HSO.out.mono ?_
  rintro e w2 ⟨uv, rs', rfl, hso, hrl, hro, hb2⟩
  rw [HNM.out] at hso hrl
  obtain rfl : rs = rs' := HRS.out.unique hso
  obtain ⟨n, hn⟩ : ∃ n, n = rs.length := ⟨_, rfl⟩
  rw [← hn] at hro hrl
  have hnl : n ≤ 1048577 := by have := HLL.out.1; have := HWA.out; rw [List.length_map] at hrl; omega
  have HNN : Hid (∀ x ∈ rs, x.size ≤ maxLen ∧ ∃ t, findB a x = some t) := Lib.hid (fun x hx => by
    have hm := (HRS.out.2 x).1 hx
    refine ⟨?_, findB_in hm⟩
    obtain ⟨y, hy, rfl⟩ := List.mem_map.1 hm
    obtain ⟨i, hi⟩ := List.mem_iff_getElem?.1 hy
    have := wBs_mem hi
    have := HWA.out
    unfold maxLen; omega)
  have HN : Hid (n = rs.length) := Lib.hid hn
  have HRO := Lib.hid hro
  obtain ⟨ra, rc, rfl⟩ := own_formR hro
  have HB2 := Lib.hid (bel_two HB0.out hb2)
  have HTA2 := Lib.hid (HTA0.out.below hb2)
  have HBA2 := Lib.hid (HBA.out.below hb2)
  have r2 : w2.heap[w.heap.size]? = some (.cells #[.map (some ba)] 83 (0, 0)) := (hb2.block _ (by have := HR0.out.2; omega)).trans HR0.out.1
  have c2 := cell_of_row w2 w.heap.size 0 _ _ _ r2
  simp at c2
  have HC2 := Lib.hid c2
  have hg0 : GrowB true (ha + 1) w2.heap.size (.slice none 0 0) [] w2 := GrowB.nil _ _ _ _
  have HG0 := Lib.hid hg0
  clear hso hrl hro hn hb2 r2 c2 c0 hg0 HBA HTA0 HR0 HSO
  go_wp2
  go_loopw [13, 3] (fun i v wr => ∃ (j q : Nat) (ua : Option Addr) (uc : Nat), j ≤ n ∧ i = .int .i64 j ∧ v = .slice ua q uc ∧ q ≤ j ∧ Hid (q = (restB a (rs.take j)).length) ∧ Hid (GrowB true (ha + 1) w2.heap.size (.slice ua q uc) (restB a (rs.take j)) wr) ∧ Hid (Below w2.heap.size w2 wr)) (fun i _ _ => n - (intOf i).toNat)
  case atStart => exact ⟨0, 0, none, 0, Nat.zero_le _, rfl, rfl, Nat.le_refl _, Lib.hid rfl, HG0, Lib.hid (Below.refl _ _)⟩
  case round =>
    clear HG0
    obtain ⟨j, q, ua, uc, hj, rfl, rfl, hq, HQ, HG, HB⟩ := hrel
    by_cases hlt : j < n
    · obtain ⟨x, hx⟩ : ∃ x, rs[j]? = some x := ⟨_, List.getElem?_eq_getElem (by have := HN.out; omega)⟩
      obtain ⟨g, c', e, cx0⟩ := row_at HRO.out HN.out hx
      obtain ⟨rfl, rfl⟩ : ra = some ⟨g, 0, none⟩ ∧ rc = c' := by simpa using e
      have cx := cell_on HB.out cx0
      have cs := cell_on HB.out HC2.out
      obtain ⟨hxs, t, hfx⟩ := HNN.out x (List.mem_iff_getElem?.2 ⟨j, hx⟩)
      have HFC := Lib.hid (find_anyK ba x a la lo ha wr (HTA2.out.below HB.out) (HBA2.out.below HB.out) hxs HWA.out)
      have HX := Lib.hid (And.intro hx hxs)
      clear cx0 e hx hxs
      go_wp2_with fail
      refine HFC.out.mono ?_
      rintro e w3 ⟨k9, n9, s9, a9, m9, c9, xs9, rfl, hr9, hs9, ho9, hb3⟩
      obtain ⟨W4, hW4⟩ : ∃ W4, W4 = w3.alloc (.cells #[.int .i64 k9, .int .i64 n9, .string s9, .slice a9 m9 c9] 29) := ⟨_, rfl⟩
      have hb34 : Below w3.heap.size w3 W4 := by rw [hW4]; exact (Below.refl _ _).alloc (Nat.le_refl _) _
      have hz4 : W4.heap.size = w3.heap.size + 1 := by rw [hW4]; simp
      have r4 : W4.heap[w3.heap.size]? = some (trow k9 n9 s9 (.slice a9 m9 c9)) := by rw [hW4]; exact heap_new _ _ rfl
      have hb4 : Below wr.heap.size wr W4 := bel_two hb3 hb34
      have HB4 := Lib.hid (HB.out.trans (hb4.mono HB.out.size))
      rw [hfx] at hr9
      simp only [Option.getD_some] at hr9
      have HTS : Hid (restB a (rs.take (j + 1)) = restB a (rs.take j) ++ [(x, t)]) := Lib.hid (by rw [tk1 HX.out.1, restB_app]; simp [restB, hfx])
      have hkt : Kept wr.heap.size W4.heap.size (KArgs true (ha + 1) wr.heap.size W4.heap.size (.slice a9 m9 c9) xs9) W4 := kargs_own ((ho9.keep (fun b _ h1 h2 => ⟨hb34.block b h2, trivial⟩)).wide (Nat.le_refl _) hb34.size) (Nat.le_succ _)
      obtain ⟨ys, hys, hnx⟩ := HG.out.next HQ.out HB.out.size hb4
      have HYS := Lib.hid (hys.alloc (.cells #[.string x, .int .i64 k9, .int .i64 n9, .string s9, .slice a9 m9 c9] 86))
      have HNX := Lib.hid (hnx x k9 n9 s9 _ xs9 HX.out.2 hs9 hkt)
      have HHR := Lib.hid hr9
      have HLO : Hid (w2.heap.size ≤ (W4.alloc (.cells #[.string x, .int .i64 k9, .int .i64 n9, .string s9, .slice a9 m9 c9] 86)).heap.size) := Lib.hid (by have := HB4.out.size; simp; omega)
      have HNEW := Lib.hid (news5 W4 (.string x) (.int .i64 k9) (.int .i64 n9) (.string s9) (.slice a9 m9 c9) 86 rfl)
      obtain ⟨⟨y0, y1, y2, y3⟩, _⟩ := cells_of4 r4
      clear hr9 hs9 ho9 hb3 hb34 hz4 r4 hfx HFC cs cx hkt hys hnx
      go_upto_region 6 with fail
      rw [← hW4]
      clear hW4
      go_wp2_with (first | (at_builtin; refine wpList_append_lies _ rfl (.tmp 23) (.tmp 27) 24 rfl (w2.heap.size) 86 i0 (.agg #[.string ByteArray.empty, .int .i64 0, .int .i64 0, .string ByteArray.empty, .slice none 0 0]) 5 72 Try.underlying24 HI.out HZ0.out HZ1.out HZ2.out rfl (by decide) (.slice ua q uc) q ys rfl HYS.out ⟨W4.heap.size, 0, none⟩ 1 1 [.string x, .int .i64 k9, .int .i64 n9, .string s9, .slice a9 m9 c9] rfl rfl HNEW.out (by intro u hu; simp at hu; rcases hu with rfl | rfl | rfl | rfl | rfl <;> rfl) (by decide) (by unfold maxLen; omega) (by omega) HLO.out _ rfl ?_; intro g3 c3' w5 ho3 hg3 ha3 hl3; have HGOT3 := Lib.hid (HNX.out g3 c3' w5 ho3 hg3 ha3); clear ho3 hg3 ha3 hl3))
      go_roundw
      case rel => exact ⟨j + 1, q + 1, _, _, by omega, by go_num, rfl, by omega, by rw [HTS.out, List.length_append]; exact Lib.hid (by have := HQ.out; simp; omega), by rw [HTS.out, HHR.out]; exact Lib.hid HGOT3.out.1, Lib.hid (HB.out.trans (HGOT3.out.2.mono (Nat.le_refl _)))⟩
      case measure => simp [intOf]; omega
    · have hjn : j = n := by omega
      subst hjn
      have HT : Hid (rs.take j = rs) := Lib.hid (List.take_of_length_le (by have := HN.out; omega))
      rw [HT.out] at HG HQ
      have HRET : Hid (CopyBE (restB a rs) w (.returned (.slice ua q uc)) wr) := Lib.hid (by
        have hob := HG.out.obj (by have := HQ.out; unfold maxLen; omega)
        exact ⟨_, ha + 1, rfl, ⟨hob.1.low HB2.out.size, hob.2.wide HB2.out.size (Nat.le_refl _)⟩, bel_two HB2.out HB.out⟩)
      go_wp2
      go_ret
      exact HRET.out

set_option maxRecDepth 100000 in
set_option maxHeartbeats 1600000 in
theorem sortB_nil (w : World) :
    Calls Try.prog 80 #[.agg #[.map none]] w (CopyBE [] w) := by
  obtain ⟨W0, hW0⟩ : ∃ W0, W0 = w.alloc (.cells #[.map none] 83) := ⟨_, rfl⟩
  have h10 : Below w.heap.size w W0 := by rw [hW0]; exact (Below.refl _ _).alloc (Nat.le_refl _) _
  have HB0 := Lib.hid h10
  have r0 : W0.heap[w.heap.size]? = some (.cells #[.map none] 83 (0, 0)) := by rw [hW0]; exact heap_new _ _ rfl
  have c0 := cell_of_row W0 w.heap.size 0 _ _ _ r0
  simp at c0
  have HSO := Lib.hid (sortedT_nil W0)
  clear r0 h10
  go_enter Try.func80, Try.ntmps80
  go_upto_region 2 with fail
  rw [← hW0]
  clear hW0
  go_wp2_with fail
  refine (mapKeysT_any none _).mono ?_
  rintro e w1 ⟨rfl, rfl⟩
  go_wp2_with fail
  refine HSO.out.mono ?_
  rintro e w2 ⟨uv, rs', rfl, hso, hrl, hro, hb2⟩
  obtain ⟨ra, rc, rfl⟩ := own_formR hro
  have h0 : rs'.length = 0 := by simpa using hrl
  rw [h0]
  have HRET : Hid (CopyBE [] w (.returned (.slice none 0 0)) w2) := Lib.hid ⟨_, 0, rfl, ⟨⟨none, 0, rfl, Nat.zero_le _, Or.inl rfl⟩, ⟨none, 0, rfl, Or.inl rfl⟩⟩, bel_two HB0.out hb2⟩
  clear hso hrl hro hb2 h0 c0 HSO
  go_wp2
  refine wp_loop_rounds 1 ?_
  rw [rounds_succ]
  go_wp2
  go_ret
  exact HRET.out
end Go.Proofs.Yteelakhaaipebaa
