/-
  impl.RestrictSubst: the Binds of the names of a list, in the names' order.
-/
import Derived.Test.YteelakhaaipebaaQ20
import Derived.Test.YteelakhaaipebaaQ23
import Derived.Test.YteelakhaaipebaaQ21
namespace Go.Proofs.Yteelakhaaipebaa
open Go.RowKit Go.Maps Go.WideMaps

/-- The Binds of the names rs, in that order. -/
def restB (a : List (ByteArray × T)) (rs : List ByteArray) : List (ByteArray × T) := rs.filterMap (fun nm => (findB a nm).map (fun t => (nm, t)))
theorem restB_app (a : List (ByteArray × T)) (r s : List ByteArray) : restB a (r ++ s) = restB a r ++ restB a s := by simp [restB]
theorem restB_len (a : List (ByteArray × T)) (rs : List ByteArray) : (restB a rs).length ≤ rs.length := by unfold restB; exact List.length_filterMap_le _ _
theorem restB_m (a : List (ByteArray × T)) (rs : List ByteArray) (hw : wBs a ≤ 1048576) : mBs (restB a rs) ≤ rs.length * 12582916 := by
  induction rs with
  | nil => simp [restB, mBs]
  | cons x r ih =>
    have h1 : restB a (x :: r) = restB a [x] ++ restB a r := restB_app a [x] r
    rw [h1, mBs_app, List.length_cons, Nat.add_mul]
    have h2 : mBs (restB a [x]) ≤ 12582916 := by
      unfold restB
      cases e : findB a x with
      | none => simp [e, mBs]
      | some t => have h4 := findB_w e; have h5 := cT_le t; simp [e, mBs]; omega
    omega
theorem own_formR {w : World} {B n size : Nat} {e : TypeId} {v : Value} {xs : List Value} (h : w.ownsRow B e size v n xs) : ∃ a c, v = .slice a n c := by
  rcases h.2 with ⟨rfl, h0⟩ | ⟨g, cap, cur, rfl, _⟩
  · exact ⟨none, 0, by rw [h0]⟩
  · exact ⟨_, _, rfl⟩
theorem tk1 {rs : List ByteArray} {k : Nat} {x : ByteArray} (h : rs[k]? = some x) : rs.take (k + 1) = rs.take k ++ [x] := by rw [List.take_add_one, h]; rfl
theorem row_at {w : World} {B n : Nat} {v : Value} {rs : List ByteArray} (ho : w.ownsRow B 9 1 v n (rs.map Value.string)) (hn : n = rs.length) {k : Nat} {x : ByteArray} (hx : rs[k]? = some x) : ∃ g c, v = .slice (some ⟨g, 0, none⟩) n c ∧ w.cell? ⟨g, k, none⟩ = some (.string x) := by
  rcases ho.2 with ⟨_, h0⟩ | ⟨g, cap, cur, e, _⟩
  · have := (List.getElem?_eq_some_iff.1 hx).1; omega
  · refine ⟨g, cap, e, ?_⟩
    have h := ho.cells (g := g) (by rw [e]; rfl) k (.string x) (by simp [hx])
    have e2 : (⟨g, 0, none⟩ : Addr).add k = ⟨g, k, none⟩ := by
      unfold Addr.add
      split
      · rename_i h0; rw [h0]
      · simp
    rw [e2] at h; exact h

set_option maxRecDepth 100000 in
set_option maxHeartbeats 3200000 in
theorem restI_any (u v : Value) (a : List (ByteArray × T)) (ps rs : List ByteArray) (lo ha : Nat) (w : World) (hwa : wBs a ≤ 1048576) (hu : BsAt w lo ha u a) (hl : ps.length ≤ 1048576) (hs : ∀ p ∈ ps, p.size ≤ maxLen) (hv : StrsAt w v ps) (hrs : SortedOf ps rs) :
    Calls Try.prog 20 #[u, v] w (CopyBE (restB a rs) w) := by
  obtain ⟨i0, hi, hz0, hz1, hz2⟩ := info_parts infoBind
  have HI := Lib.hid hi; clear hi
  have HZ0 := Lib.hid hz0; clear hz0
  have HZ1 := Lib.hid hz1; clear hz1
  have HZ2 := Lib.hid hz2; clear hz2
  have hla := wBs_len a
  obtain ⟨la, hba, hc1⟩ := subOf_any u a lo ha w (by omega) hu
  have HC1 := Lib.hid hc1
  have HBA := Lib.hid hba
  have HWA := Lib.hid hwa
  have HV := Lib.hid hv
  have HL := Lib.hid (And.intro hl hs)
  have HRS := Lib.hid hrs
  clear hc1 hba hwa hv hl hs hrs hu hla
  go_enter Try.func20, Try.ntmps20
  go_wp2_with fail
  refine HC1.out.mono ?_
  rintro e w1 ⟨ba, rfl, hbal, hta, hb1⟩
  obtain ⟨W0, hW0⟩ : ∃ W0, W0 = w1.alloc (.cells #[.map (some ba)] 83) := ⟨_, rfl⟩
  have h10 : Below w1.heap.size w1 W0 := by rw [hW0]; exact (Below.refl _ _).alloc (Nat.le_refl _) _
  have HB0 := Lib.hid (bel_two hb1 h10)
  have r0 : W0.heap[w1.heap.size]? = some (.cells #[.map (some ba)] 83 (0, 0)) := by rw [hW0]; exact heap_new _ _ rfl
  have hs0 : W0.heap.size = w1.heap.size + 1 := by rw [hW0]; simp
  have HTA0 := Lib.hid (hta.below h10)
  have HR0 := Lib.hid (And.intro r0 hs0)
  clear r0 hs0 hta hb1 h10 hbal HC1
  go_upto_region 2 with fail
  rw [← hW0]
  clear hW0
  go_wp2_with fail
  refine (iSort_any v ps W0 (by have := HL.out.1; omega) HL.out.2 (HV.out.below HB0.out)).mono ?_
  rintro e w2 ⟨uv, rs', rfl, hso, hrl, hro, hb2⟩
  obtain rfl : rs = rs' := HRS.out.unique hso
  obtain ⟨n, hn⟩ : ∃ n, n = rs.length := ⟨_, rfl⟩
  rw [← hn] at hro hrl
  have hnl : n ≤ 1048576 := by have := HL.out.1; omega
  have HN : Hid (n = rs.length ∧ ∀ x ∈ rs, x.size ≤ maxLen) := Lib.hid ⟨hn, fun x hx => HL.out.2 x ((HRS.out.2 x).1 hx)⟩
  have HRO := Lib.hid hro
  obtain ⟨ra, rc, rfl⟩ := own_formR hro
  have HB2 := Lib.hid (bel_two HB0.out hb2)
  have HTA2 := Lib.hid (HTA0.out.below hb2)
  have HBA2 := Lib.hid (HBA.out.below HB2.out)
  have r2 : w2.heap[w1.heap.size]? = some (.cells #[.map (some ba)] 83 (0, 0)) := (hb2.block _ (by have := HR0.out.2; omega)).trans HR0.out.1
  have c2 := cell_of_row w2 w1.heap.size 0 _ _ _ r2
  simp at c2
  have HC2 := Lib.hid c2
  have hg0 : GrowB true (ha + 1) w2.heap.size (.slice none 0 0) [] w2 := GrowB.nil _ _ _ _
  have HG0 := Lib.hid hg0
  clear hso hrl hro hn hb2 r2 c2 hg0 HV HBA HTA0 HR0
  go_wp2
  go_loopw [16, 6] (fun i v wr => ∃ (j q : Nat) (ua : Option Addr) (uc : Nat), j ≤ n ∧ i = .int .i64 j ∧ v = .slice ua q uc ∧ q ≤ j ∧ Hid (q = (restB a (rs.take j)).length) ∧ Hid (GrowB true (ha + 1) w2.heap.size (.slice ua q uc) (restB a (rs.take j)) wr) ∧ Hid (Below w2.heap.size w2 wr)) (fun i _ _ => n - (intOf i).toNat)
  case atStart => exact ⟨0, 0, none, 0, Nat.zero_le _, rfl, rfl, Nat.le_refl _, Lib.hid rfl, HG0, Lib.hid (Below.refl _ _)⟩
  case round =>
    clear HG0
    obtain ⟨j, q, ua, uc, hj, rfl, rfl, hq, HQ, HG, HB⟩ := hrel
    by_cases hlt : j < n
    · obtain ⟨x, hx⟩ : ∃ x, rs[j]? = some x := ⟨_, List.getElem?_eq_getElem (by have := HN.out.1; omega)⟩
      obtain ⟨g, c', e, cx0⟩ := row_at HRO.out HN.out.1 hx
      obtain ⟨rfl, rfl⟩ : ra = some ⟨g, 0, none⟩ ∧ rc = c' := by simpa using e
      have cx := cell_on HB.out cx0
      have cs := cell_on HB.out HC2.out
      have hxs : x.size ≤ maxLen := HN.out.2 x (List.mem_iff_getElem?.2 ⟨j, hx⟩)
      have HFC := Lib.hid (find_anyH ba x a la lo ha wr (HTA2.out.below HB.out) (HBA2.out.below HB.out) hxs HWA.out)
      have HX := Lib.hid (And.intro hx hxs)
      clear cx0 e hx hxs
      go_wp2_with fail
      refine HFC.out.mono ?_
      rintro e w3 ⟨k9, n9, s9, a9, m9, c9, xs9, rfl, hr9, hs9, ho9, hb3⟩
      obtain ⟨W4, hW4⟩ : ∃ W4, W4 = w3.alloc (.cells #[.int .i64 k9, .int .i64 n9, .string s9, .slice a9 m9 c9] 29) := ⟨_, rfl⟩
      have hb34 : Below w3.heap.size w3 W4 := by rw [hW4]; exact (Below.refl _ _).alloc (Nat.le_refl _) _
      have hz4 : W4.heap.size = w3.heap.size + 1 := by rw [hW4]; simp
      have r4 : W4.heap[w3.heap.size]? = some (trow k9 n9 s9 (.slice a9 m9 c9)) := by rw [hW4]; exact heap_new _ _ rfl
      have hb4 : Below wr.heap.size wr W4 := bel_two hb3 hb34
      have HB4 := Lib.hid (HB.out.trans (hb4.mono HB.out.size))
      cases hfx : findB a x with
      | none =>
        simp only [Option.isSome_none]
        have HTS : Hid (restB a (rs.take (j + 1)) = restB a (rs.take j)) := Lib.hid (by rw [tk1 HX.out.1, restB_app]; simp [restB, hfx])
        have HG4 := Lib.hid (HG.out.below hb4)
        clear hr9 hs9 ho9 hb3 hb34 hz4 r4 hb4 hfx HFC cs cx
        go_upto_region 7 with fail
        rw [← hW4]
        clear hW4
        go_wp2
        go_roundw
        case rel => exact ⟨j + 1, q, ua, uc, by omega, by go_num, rfl, by omega, by rw [HTS.out]; exact HQ, by rw [HTS.out]; exact HG4, HB4⟩
        case measure => simp [intOf]; omega
      | some t =>
        rw [hfx] at hr9
        simp only [Option.getD_some] at hr9
        simp only [Option.isSome_some]
        have HTS : Hid (restB a (rs.take (j + 1)) = restB a (rs.take j) ++ [(x, t)]) := Lib.hid (by rw [tk1 HX.out.1, restB_app]; simp [restB, hfx])
        have hkt : Kept wr.heap.size W4.heap.size (KArgs true (ha + 1) wr.heap.size W4.heap.size (.slice a9 m9 c9) xs9) W4 := kargs_own ((ho9.keep (fun b _ h1 h2 => ⟨hb34.block b h2, trivial⟩)).wide (Nat.le_refl _) hb34.size) (Nat.le_succ _)
        obtain ⟨ys, hys, hnx⟩ := HG.out.next HQ.out HB.out.size hb4
        have HYS := Lib.hid (hys.alloc (.cells #[.string x, .int .i64 k9, .int .i64 n9, .string s9, .slice a9 m9 c9] 86))
        have HNX := Lib.hid (hnx x k9 n9 s9 _ xs9 HX.out.2 hs9 hkt)
        have HHR := Lib.hid hr9
        have HLO : Hid (w2.heap.size ≤ (W4.alloc (.cells #[.string x, .int .i64 k9, .int .i64 n9, .string s9, .slice a9 m9 c9] 86)).heap.size) := Lib.hid (by have := HB4.out.size; simp; omega)
        have HNEW := Lib.hid (news5 W4 (.string x) (.int .i64 k9) (.int .i64 n9) (.string s9) (.slice a9 m9 c9) 86 rfl)
        have HBR := Lib.hid HB.out
        obtain ⟨⟨y0, y1, y2, y3⟩, _⟩ := cells_of4 r4
        clear hr9 hs9 ho9 hb3 hb34 hz4 r4 hfx HFC cs cx hkt hys hnx
        go_upto_region 7 with fail
        rw [← hW4]
        clear hW4
        go_wp2_with (first | (at_builtin; refine wpList_append_lies _ rfl (.tmp 27) (.tmp 31) 24 rfl (w2.heap.size) 86 i0 (.agg #[.string ByteArray.empty, .int .i64 0, .int .i64 0, .string ByteArray.empty, .slice none 0 0]) 5 72 Try.underlying24 HI.out HZ0.out HZ1.out HZ2.out rfl (by decide) (.slice ua q uc) q ys rfl HYS.out ⟨W4.heap.size, 0, none⟩ 1 1 [.string x, .int .i64 k9, .int .i64 n9, .string s9, .slice a9 m9 c9] rfl rfl HNEW.out (by intro u hu; simp at hu; rcases hu with rfl | rfl | rfl | rfl | rfl <;> rfl) (by decide) (by unfold maxLen; omega) (by omega) HLO.out _ rfl ?_; intro g3 c3' w5 ho3 hg3 ha3 hl3; have HGOT3 := Lib.hid (HNX.out g3 c3' w5 ho3 hg3 ha3); clear ho3 hg3 ha3 hl3))
        go_roundw
        case rel => exact ⟨j + 1, q + 1, _, _, by omega, by go_num, rfl, by omega, by rw [HTS.out, List.length_append]; exact Lib.hid (by have := HQ.out; simp; omega), by rw [HTS.out, HHR.out]; exact Lib.hid HGOT3.out.1, Lib.hid (HB.out.trans (HGOT3.out.2.mono (Nat.le_refl _)))⟩
        case measure => simp [intOf]; omega
    · have hjn : j = n := by omega
      subst hjn
      have HT : Hid (rs.take j = rs) := Lib.hid (List.take_of_length_le (by have := HN.out.1; omega))
      rw [HT.out] at HG HQ
      have HRET : Hid (CopyBE (restB a rs) w (.returned (.slice ua q uc)) wr) := Lib.hid (by
        have hob := HG.out.obj (by have := HQ.out; unfold maxLen; omega)
        exact ⟨_, ha + 1, rfl, ⟨hob.1.low HB2.out.size, hob.2.wide HB2.out.size (Nat.le_refl _)⟩, bel_two HB2.out HB.out⟩)
      go_wp2
      go_ret
      exact HRET.out
end Go.Proofs.Yteelakhaaipebaa
