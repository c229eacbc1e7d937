/-
  spec.RestrictSubst.
-/
import Derived.Test.YteelakhaaipebaaQ24
import Derived.Test.YteelakhaaipebaaQ9
import Derived.Test.YteelakhaaipebaaQ26
import Derived.Deep.RegionLawGrows
namespace Go.Proofs.Yteelakhaaipebaa
open Go.RowKit Go.Maps Go.WideMaps

set_option maxRecDepth 100000 in
set_option maxHeartbeats 3200000 in
theorem restS_anyK (u v : Value) (a : List (ByteArray × T)) (ps rs : List ByteArray) (lo ha : Nat) (w : World) (hwa : wBs a ≤ 1048577) (hu : BsAt w lo ha u a) (hl : ps.length ≤ 1048577) (hs : ∀ p ∈ ps, p.size ≤ maxLen) (hv : StrsAt w v ps) (hrs : SortedOf ps rs) :
    Calls Try.prog 22 #[u, v] w (ReadBE (restB a rs) w) := by
  obtain ⟨i0, hi, hz0, hz1, hz2⟩ := info_parts infoBind
  have HI := Lib.hid hi; clear hi
  have HZ0 := Lib.hid hz0; clear hz0
  have HZ1 := Lib.hid hz1; clear hz1
  have HZ2 := Lib.hid hz2; clear hz2
  have HU := Lib.hid hu
  have HWA := Lib.hid hwa
  have HV := Lib.hid hv
  have HL := Lib.hid (And.intro hl hs)
  have HRS := Lib.hid hrs
  obtain ⟨W0, hW0⟩ : ∃ W0, W0 = w.alloc (.cells #[] 86) := ⟨_, rfl⟩
  have HB0 : Hid (Below w.heap.size w W0) := Lib.hid (by rw [hW0]; exact (Below.refl _ _).alloc (Nat.le_refl _) _)
  have HS0 : Hid (W0.heap.size = w.heap.size + 1) := Lib.hid (by rw [hW0]; simp)
  have hg0 : GrowB false (ha + 1) w.heap.size (.slice (some ⟨w.heap.size, 0, none⟩) 0 0) [] W0 := by rw [hW0]; exact GrowB.lit _ _ _ _ (Nat.le_refl _)
  have HG00 := Lib.hid hg0
  clear hwa hv hl hs hrs hu hg0
  go_enter Try.func22, Try.ntmps22
  go_upto_region 2 with fail
  rw [← hW0]
  clear hW0
  go_wp2_with fail
  refine (sSort_any v ps W0 (by have := HL.out.1; omega) (HV.out.below HB0.out)).mono ?_
  rintro e w2 ⟨uv, rs', rfl, hso, hrl, hro, hb2⟩
  obtain rfl : rs = rs' := HRS.out.unique hso
  obtain ⟨n, hn⟩ : ∃ n, n = rs.length := ⟨_, rfl⟩
  rw [← hn] at hro hrl
  have hnl : n ≤ 1048577 := by have := HL.out.1; omega
  have HN : Hid (n = rs.length ∧ ∀ x ∈ rs, x.size ≤ maxLen) := Lib.hid ⟨hn, fun x hx => HL.out.2 x ((HRS.out.2 x).1 hx)⟩
  have HRO := Lib.hid hro
  obtain ⟨ra, rc, rfl⟩ := own_formR hro
  have HB2 := Lib.hid (bel_two HB0.out hb2)
  have HG0 := Lib.hid (HG00.out.below hb2)
  clear hso hrl hro hn hb2 HV HG00
  go_wp2
  go_loopw [5, 7] (fun v i wr => ∃ (j q : Nat) (ua : Option Addr) (uc : Nat), j ≤ n ∧ i = .int .i64 j ∧ v = .slice ua q uc ∧ q ≤ j ∧ Hid (q = (restB a (rs.take j)).length) ∧ Hid (GrowB false (ha + 1) w.heap.size (.slice ua q uc) (restB a (rs.take j)) wr) ∧ Hid (Below w.heap.size w wr) ∧ Hid (w2.grownBy wr (some w.heap.size)) ∧ Hid (∀ b, (Value.slice ua q uc).ownBlock = some b → b = w.heap.size ∨ w2.heap.size ≤ b)) (fun _ i _ => n - (intOf i).toNat)
  case atStart => exact ⟨0, 0, _, 0, Nat.zero_le _, rfl, rfl, Nat.le_refl _, Lib.hid rfl, HG0, HB2, Lib.hid (World.grownBy.refl _ _), Lib.hid (fun b h => Or.inl (by simp [Value.ownBlock] at h; exact h.symm))⟩
  case round =>
    clear HG0
    obtain ⟨j, q, ua, uc, hj, rfl, rfl, hq, HQ, HG, HB, HSG, HOB⟩ := hrel
    by_cases hlt : j < n
    · obtain ⟨x, hx⟩ : ∃ x, rs[j]? = some x := ⟨_, List.getElem?_eq_getElem (by have := HN.out.1; omega)⟩
      obtain ⟨g, c', e, cx0⟩ := row_at HRO.out HN.out.1 hx
      obtain ⟨rfl, rfl⟩ : ra = some ⟨g, 0, none⟩ ∧ rc = c' := by simpa using e
      have hgl := (HRO.out.lt g rfl).1
      have hgn : some g ≠ some w.heap.size := fun h => by have := HS0.out; simp at h; omega
      have cx := HSG.out.cell cx0 hgn
      have hxs : x.size ≤ maxLen := HN.out.2 x (List.mem_iff_getElem?.2 ⟨j, hx⟩)
      have HFC := Lib.hid (sFindB_anyK u x a lo ha wr HWA.out (HU.out.below HB.out))
      have HX := Lib.hid (And.intro hx hxs)
      have HCX := Lib.hid cx
      clear cx0 e hx hxs hgl hgn
      go_wp2_with fail
      refine HFC.out.mono ?_
      rintro e w3 ⟨k9, n9, s9, a9, m9, c9, rfl, ht9, hb3⟩
      obtain ⟨W4, hW4⟩ : ∃ W4, W4 = w3.alloc (.cells #[.int .i64 k9, .int .i64 n9, .string s9, .slice a9 m9 c9] 29) := ⟨_, rfl⟩
      have hb34 : Below w3.heap.size w3 W4 := by rw [hW4]; exact (Below.refl _ _).alloc (Nat.le_refl _) _
      have hz4 : W4.heap.size = w3.heap.size + 1 := by rw [hW4]; simp
      have r4 : W4.heap[w3.heap.size]? = some (trow k9 n9 s9 (.slice a9 m9 c9)) := by rw [hW4]; exact heap_new _ _ rfl
      have hb4 : Below wr.heap.size wr W4 := bel_two hb3 hb34
      have HB4 := Lib.hid (HB.out.trans (hb4.mono HB.out.size))
      have HS4 := Lib.hid (HSG.out.andThen (Below.toGrown hb4 none) (fun j h => by cases h))
      cases hfx : findB a x with
      | none =>
        simp only [Option.isSome_none]
        have HTS : Hid (restB a (rs.take (j + 1)) = restB a (rs.take j)) := Lib.hid (by rw [tk1 HX.out.1, restB_app]; simp [restB, hfx])
        have HG4 := Lib.hid (HG.out.below hb4)
        clear ht9 hb3 hb34 hz4 r4 hb4 hfx HFC cx
        go_upto_region 7 with fail
        rw [← hW4]
        clear hW4
        go_wp2
        go_roundw
        case rel => exact ⟨j + 1, q, ua, uc, by omega, by go_num, rfl, by omega, by rw [HTS.out]; exact HQ, by rw [HTS.out]; exact HG4, HB4, HS4, HOB⟩
        case measure => simp [intOf]; omega
      | some t =>
        rw [hfx] at ht9
        simp only [Option.getD_some] at ht9
        simp only [Option.isSome_some]
        obtain ⟨_, _, _, _, xs9, e9, rfl, hs9, har9⟩ := ht9
        cases e9
        have HTS : Hid (restB a (rs.take (j + 1)) = restB a (rs.take j) ++ [(x, .node k9 n9 s9 xs9)]) := Lib.hid (by rw [tk1 HX.out.1, restB_app]; simp [restB, hfx])
        have hkt : Kept wr.heap.size W4.heap.size (KArgs false (ha + 1) wr.heap.size W4.heap.size (.slice a9 m9 c9) xs9) W4 := kargs_read (har9.below hb34) (Nat.le_succ _)
        have hb4d : Below wr.heap.size wr W4.drew := hb4.drew
        obtain ⟨ys, hys, hnx⟩ := HG.out.next HQ.out HB.out.size hb4d
        have HYS := Lib.hid (hys.alloc (.cells #[.string x, .int .i64 k9, .int .i64 n9, .string s9, .slice a9 m9 c9] 86))
        have HNX := Lib.hid (hnx x k9 n9 s9 _ xs9 HX.out.2 hs9 hkt)
        have HLO : Hid (w.heap.size ≤ (W4.drew.alloc (.cells #[.string x, .int .i64 k9, .int .i64 n9, .string s9, .slice a9 m9 c9] 86)).heap.size) := Lib.hid (by have := HB4.out.size; simp; omega)
        have HNEW := Lib.hid (news5 W4.drew (.string x) (.int .i64 k9) (.int .i64 n9) (.string s9) (.slice a9 m9 c9) 86 rfl)
        have cx4 := cell_on hb4 HCX.out
        have HS5 := Lib.hid ((HS4.out.andThen (Below.toGrown (Below.drew (Below.refl W4.heap.size W4)) none) (fun j h => by cases h)).andThen (World.grownBy_alloc W4.drew (.cells #[.string x, .int .i64 k9, .int .i64 n9, .string s9, .slice a9 m9 c9] 86) none) (fun j h => by cases h))
        obtain ⟨⟨y0, y1, y2, y3⟩, _⟩ := cells_of4 r4
        clear hs9 har9 hb3 hb34 hz4 r4 hfx HFC cx hkt hys hnx hb4d
        go_upto_region 7 with fail
        rw [← hW4]
        clear hW4
        go_upto_region 8 with fail
        go_region_law (first
          | (refine step_append_lies _ rfl (.tmp 29) (.tmp 36) 24 rfl (w.heap.size) 86 i0 (.agg #[.string ByteArray.empty, .int .i64 0, .int .i64 0, .string ByteArray.empty, .slice none 0 0]) 5 72 Try.underlying24 HI.out HZ0.out HZ1.out HZ2.out rfl (by decide) (.slice ua q uc) q ys rfl HYS.out ⟨W4.heap.size, 0, none⟩ 1 1 [.string x, .int .i64 k9, .int .i64 n9, .string s9, .slice a9 m9 c9] rfl rfl HNEW.out (by intro u hu; simp at hu; rcases hu with rfl | rfl | rfl | rfl | rfl <;> rfl) (by decide) (by unfold maxLen; omega) (by omega) HLO.out _ rfl ?_; intro g3 c3' w5 ho3 hg3 ha3 hl3; have HGOT3 := Lib.hid (HNX.out g3 c3' w5 ho3 hg3 ha3); have HFIN : Hid (w2.grownBy w5 (some w.heap.size) ∧ ∀ b, (Value.slice (some ⟨g3, 0, none⟩) (q + 1) c3').ownBlock = some b → b = w.heap.size ∨ w2.heap.size ≤ b) := Lib.hid ⟨HS5.out.andThen hg3 (fun j h => (HOB.out j h).symm.imp id (fun h => by rw [h])), fun b h => by (have h2 : g3 = b := by simpa [Value.ownBlock] using h); (rcases ha3 with h3 | h3); (exact HOB.out b (h2 ▸ h3)); (right; rw [← h2, h3]; exact HS5.out.size)⟩; clear ho3 hg3 ha3 hl3))
        all_goals go_wp2
        all_goals go_roundw
        all_goals first
          | exact ⟨j + 1, q + 1, _, _, by omega, by go_num, rfl, by omega, by rw [HTS.out, List.length_append]; exact Lib.hid (by have := HQ.out; simp; omega), by rw [HTS.out]; exact Lib.hid HGOT3.out.1, Lib.hid (HB.out.trans HGOT3.out.2), Lib.hid HFIN.out.1, Lib.hid HFIN.out.2⟩
          | (simp [intOf]; omega)
    · have hjn : j = n := by omega
      subst hjn
      have HT : Hid (rs.take j = rs) := Lib.hid (List.take_of_length_le (by have := HN.out.1; omega))
      rw [HT.out] at HG HQ
      have HRET : Hid (ReadBE (restB a rs) w (.returned (.slice ua q uc)) wr) := Lib.hid ⟨_, ha + 1, rfl, HG.out.at (by have := HQ.out; unfold maxLen; omega), HB.out⟩
      go_wp2
      go_ret
      exact HRET.out
theorem restS_any (u v : Value) (a : List (ByteArray × T)) (ps rs : List ByteArray) (lo ha : Nat) (w : World) (hwa : wBs a ≤ 1048576) (hu : BsAt w lo ha u a) (hl : ps.length ≤ 1048576) (hs : ∀ p ∈ ps, p.size ≤ maxLen) (hv : StrsAt w v ps) (hrs : SortedOf ps rs) :
    Calls Try.prog 22 #[u, v] w (ReadBE (restB a rs) w) := restS_anyK u v a ps rs lo ha w (by omega) hu (by omega) hs hv hrs
end Go.Proofs.Yteelakhaaipebaa
