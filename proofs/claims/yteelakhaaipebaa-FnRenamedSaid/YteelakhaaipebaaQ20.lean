/-
  impl.ComposeSubst: the Binds of the first list, with the second applied, and those of the second that are not hidden.
-/
import Derived.Test.YteelakhaaipebaaQ17
import Derived.Test.YteelakhaaipebaaQ19
namespace Go.Proofs.Yteelakhaaipebaa
open Go.RowKit Go.Maps Go.WideMaps

/-- The composition of two lists of Binds. -/
def compB (a b : List (ByteArray × T)) : List (ByteArray × T) := a.map (fun x => (x.1, mapT (findB b) (fun s => s) x.2)) ++ b.filter (fun x => (findB a x.1).isNone)
theorem filt_snoc {a b : List (ByteArray × T)} {j : Nat} {x : ByteArray × T} (h : b[j]? = some x) : (b.take (j + 1)).filter (fun x => (findB a x.1).isNone) = if (findB a x.1).isNone then (b.take j).filter (fun x => (findB a x.1).isNone) ++ [x] else (b.take j).filter (fun x => (findB a x.1).isNone) := by
  rw [tk b j x h, List.filter_append]
  by_cases e : (findB a x.1).isNone <;> simp [e]
theorem compB_len (a b : List (ByteArray × T)) (j : Nat) : (a.map (fun x => (x.1, mapT (findB b) (fun s => s) x.2)) ++ (b.take j).filter (fun x => (findB a x.1).isNone)).length ≤ a.length + j := by
  have h1 := List.length_filter_le (fun x : ByteArray × T => (findB a x.1).isNone) (b.take j)
  rw [List.length_append, List.length_map]
  rw [List.length_take] at h1
  omega

theorem mBs_app (a b : List (ByteArray × T)) : mBs (a ++ b) = mBs a + mBs b := by simp [mBs]
theorem mBs_map (f : T → T) (M : Nat) (a : List (ByteArray × T)) (h : ∀ t, cT (f t) ≤ cT t * M) (hM : 1 ≤ M) : mBs (a.map (fun x => (x.1, f x.2))) ≤ mBs a * M := by
  induction a with
  | nil => simp [mBs]
  | cons x r ih =>
    have h1 := h x.2
    have h2 : mBs (x :: r) = (1 + 3 * cT x.2) + mBs r := by simp [mBs]
    have h3 : mBs ((x :: r).map (fun x => (x.1, f x.2))) = (1 + 3 * cT (f x.2)) + mBs (r.map (fun x => (x.1, f x.2))) := by simp [mBs]
    rw [h2, h3, Nat.add_mul, Nat.add_mul, Nat.mul_assoc]
    omega
theorem mBs_filter (q : ByteArray × T → Bool) (b : List (ByteArray × T)) : mBs (b.filter q) ≤ mBs b := by
  induction b with
  | nil => simp
  | cons x r ih =>
    have h2 : mBs (x :: r) = (1 + 3 * cT x.2) + mBs r := by simp [mBs]
    by_cases hq : q x
    · rw [List.filter_cons_of_pos hq]
      have h3 : mBs (x :: r.filter q) = (1 + 3 * cT x.2) + mBs (r.filter q) := by simp [mBs]
      omega
    · rw [List.filter_cons_of_neg hq]; omega
theorem compB_m (a b : List (ByteArray × T)) (ha : wBs a ≤ 1048576) (hb : wBs b ≤ 1048576) : mBs (compB a b) ≤ 1152921504606846976 ∧ (compB a b).length ≤ 4194304 := by
  have h1 := mBs_map (mapT (findB b) (fun s => s)) 1048577 a (fun t => cT_map (findB b) (fun s => s) 1048577 (fun s u e => by have h4 := findB_w e; have h5 := cT_le u; omega) (by omega) t) (by omega)
  have h2 := mBs_filter (fun x => (findB a x.1).isNone) b
  have h3 := mBs_le a
  have h4 := mBs_le b
  have h5 : mBs a * 1048577 ≤ 4194304 * 1048577 := Nat.mul_le_mul_right _ (by omega)
  have h6 := List.length_filter_le (fun x : ByteArray × T => (findB a x.1).isNone) b
  have h7 := wBs_len a
  have h8 := wBs_len b
  unfold compB
  rw [mBs_app, List.length_append, List.length_map]
  omega

/-- A Bind with a new term, to be appended. -/
def GotB (own : Bool) (H lo : Nat) (ua : Option Addr) (m uc : Nat) (bs : List (ByteArray × T)) (p : ByteArray) (t : T) (bB : Nat) (Wb : World) (e : Ending) (w1 : World) : Prop :=
  ∃ kc nc nmc ac mc cc ys, e = .returned (tv kc nc nmc (.slice ac mc cc)) ∧ Below Wb.heap.size Wb w1 ∧ w1.ownsRow lo 86 5 (.slice ua m uc) m ys ∧
    ∀ g3 c3 w3, w3.ownsRow lo 86 5 (.slice (some ⟨g3, 0, none⟩) (m + 1) c3) (m + 1) (ys ++ [.string p, .int .i64 kc, .int .i64 nc, .string nmc, .slice ac mc cc]) → (w1.alloc (.cells #[.string p, .int .i64 kc, .int .i64 nc, .string nmc, .slice ac mc cc] 86)).grownBy w3 (Value.slice ua m uc).ownBlock →
      ((Value.slice ua m uc).ownBlock = some g3 ∨ g3 = (w1.alloc (.cells #[.string p, .int .i64 kc, .int .i64 nc, .string nmc, .slice ac mc cc] 86)).heap.size) → GrowB own H lo (.slice (some ⟨g3, 0, none⟩) (m + 1) c3) (bs ++ [(p, t)]) w3 ∧ Below lo Wb w3
theorem gotB_own {H H1 lo m uc bB : Nat} {ua : Option Addr} {bs : List (ByteArray × T)} {p : ByteArray} {t : T} {Wb w1 : World} {e : Ending} (g : GrowB true H1 lo (.slice ua m uc) bs Wb) (hm : m = bs.length) (hlo : lo ≤ Wb.heap.size) (hp : p.size ≤ maxLen) (hH : H ≤ H1) (h : CopyR H t Wb.drew e w1) : GotB true H1 lo ua m uc bs p t bB Wb e w1 := by
  obtain ⟨kc, nc, nmc, u, xc, rfl, rfl, hsz, hoc, hb0⟩ := h
  obtain ⟨ac, cc, rfl⟩ := hoc.slice
  have hb1 : Below Wb.heap.size Wb w1 := bel_drew hb0
  obtain ⟨ys, hys, hn⟩ := g.next hm hlo hb1
  exact ⟨kc, nc, nmc, ac, _, cc, ys, rfl, hb1, hys, fun g3 c3 w3 h1 h2 h3 => hn p kc nc nmc _ xc hp hsz (kargs_own hoc hH) g3 c3 w3 h1 h2 h3⟩
theorem gotB_read {H H1 lo m uc bB : Nat} {ua : Option Addr} {bs : List (ByteArray × T)} {p : ByteArray} {t : T} {Wb w1 : World} {e : Ending} (g : GrowB false H1 lo (.slice ua m uc) bs Wb) (hm : m = bs.length) (hlo : lo ≤ Wb.heap.size) (hp : p.size ≤ maxLen) (hH : H ≤ H1) (h : LCopyT H t Wb.drew e w1) : GotB false H1 lo ua m uc bs p t bB Wb e w1 := by
  obtain ⟨kc, nc, nmc, ac, mc, cc, rfl, ht, hb0⟩ := h
  obtain ⟨_, _, _, _, xc, e1, rfl, hsz, har⟩ := ht
  cases e1
  have hb1 : Below Wb.heap.size Wb w1 := bel_drew hb0
  obtain ⟨ys, hys, hn⟩ := g.next hm hlo hb1
  exact ⟨kc, nc, nmc, ac, mc, cc, ys, rfl, hb1, hys, fun g3 c3 w3 h1 h2 h3 => hn p kc nc nmc _ xc hp hsz (kargs_read har hH) g3 c3 w3 h1 h2 h3⟩
theorem news5 (w : World) (x0 x1 x2 x3 x4 : Value) (t : TypeId) {n : Nat} (h : n = w.heap.size) : ∀ (j : Nat) (u : Value), [x0, x1, x2, x3, x4][j]? = some u → (w.alloc (.cells #[x0, x1, x2, x3, x4] t)).cell? (Addr.add ⟨n, 0, none⟩ j) = some u := by
  subst h
  intro j u hj
  have e := fun j => World.cell?_alloc_mark w #[x0, x1, x2, x3, x4] t (0, 0) j
  match j, hj with
  | 0, hj => simp at hj; subst hj; exact e 0
  | 1, hj => simp at hj; subst hj; exact e 1
  | 2, hj => simp at hj; subst hj; exact e 2
  | 3, hj => simp at hj; subst hj; exact e 3
  | 4, hj => simp at hj; subst hj; exact e 4
  | j + 5, hj => simp at hj
/-- A list of Binds, its rows the call's own. -/
def CopyBE (r : List (ByteArray × T)) (w : World) (e : Ending) (w' : World) : Prop := ∃ v H, e = .returned v ∧ BsObj w.heap.size w'.heap.size H v r w' ∧ Below w.heap.size w w'
/-- The same, read alone. -/
def ReadBE (r : List (ByteArray × T)) (w : World) (e : Ending) (w' : World) : Prop := ∃ v H, e = .returned v ∧ BsAt w' w.heap.size H v r ∧ Below w.heap.size w w'

set_option maxRecDepth 100000 in
set_option maxHeartbeats 3200000 in
theorem compI_any (u v : Value) (a b : List (ByteArray × T)) (lo lo2 ha hb : Nat) (w : World) (hwa : wBs a ≤ 1048576) (hwb : wBs b ≤ 1048576) (hu : BsAt w lo ha u a) (hv : BsAt w lo2 hb v b) :
    Calls Try.prog 14 #[u, v] w (CopyBE (compB a b) w) := by
  obtain ⟨i0, hi, hz0, hz1, hz2⟩ := info_parts infoBind
  have HI := Lib.hid hi; clear hi
  have HZ0 := Lib.hid hz0; clear hz0
  have HZ1 := Lib.hid hz1; clear hz1
  have HZ2 := Lib.hid hz2; clear hz2
  have hla := wBs_len a
  have hlb := wBs_len b
  obtain ⟨la, hba, hc1⟩ := subOf_any u a lo ha w (by omega) hu
  have HSB : Hid (∀ w1, Below w.heap.size w w1 → ∃ l, BsV w1 lo2 hb b l ∧ Calls Try.prog 60 #[v] w1 (SubE l w1)) := Lib.hid (fun w1 h => subOf_any v b lo2 hb w1 (by omega) (hv.below h))
  have HUA := Lib.hid hu
  have HVB := Lib.hid hv
  obtain ⟨aa, ac', rfl⟩ := hu.slice
  obtain ⟨ab, bc', rfl⟩ := hv.slice
  obtain ⟨na, hna⟩ : ∃ n, n = a.length := ⟨_, rfl⟩
  obtain ⟨nb, hnb⟩ : ∃ n, n = b.length := ⟨_, rfl⟩
  rw [← hna] at HUA hla ⊢
  rw [← hnb] at HVB hlb ⊢
  rw [← hna] at hc1
  rw [← hnb] at HSB
  have hlna : na ≤ 1048576 := by omega
  have hlnb : nb ≤ 1048576 := by omega
  have HNA := Lib.hid hna; have HNB := Lib.hid hnb
  have HBA := Lib.hid hba; have HC1 := Lib.hid hc1
  have HWA := Lib.hid hwa; have HWB := Lib.hid hwb
  clear hna hnb hba hc1 hu hv hwa hwb hla hlb
  go_enter Try.func14, Try.ntmps14
  go_wp2_with fail
  refine HC1.out.mono ?_
  rintro e w1 ⟨ba, rfl, hbal, hta, hb1⟩
  obtain ⟨lb, hbb, hc2⟩ := HSB.out w1 hb1
  have HC2 := Lib.hid hc2; have HBB := Lib.hid hbb
  have HTA := Lib.hid hta; have HB1 := Lib.hid hb1
  clear hc2 hbb hta hb1 HSB HC1
  go_wp2_with fail
  refine HC2.out.mono ?_
  rintro e w2 ⟨bb, rfl, hbbl, htb, hb2⟩
  obtain ⟨W0, hW0⟩ : ∃ W0, W0 = (w2.alloc (.cells #[.map (some ba)] 83)).alloc (.cells #[.map (some bb)] 83) := ⟨_, rfl⟩
  have h20 : Below w2.heap.size w2 W0 := by rw [hW0]; exact ((Below.refl _ _).alloc (Nat.le_refl _) _).alloc (by simp) _
  have hs0 : W0.heap.size = w2.heap.size + 2 := by rw [hW0]; simp
  have hb20 := bel_two HB1.out hb2
  have HB0 := Lib.hid (bel_two hb20 h20)
  have HTA0 := Lib.hid ((HTA.out.below hb2).below h20)
  have HTB0 := Lib.hid (htb.below h20)
  have HBA0 := Lib.hid (HBA.out.below HB0.out)
  have HBB0 := Lib.hid ((HBB.out.below hb2).below h20)
  have HR0 : Hid (W0.heap[w2.heap.size]? = some (.cells #[.map (some ba)] 83 (0, 0)) ∧ W0.heap[w2.heap.size + 1]? = some (.cells #[.map (some bb)] 83 (0, 0)) ∧ W0.heap.size = w2.heap.size + 2) := Lib.hid ⟨by
    rw [hW0, Below.heap_alloc _ _ _ (by simp)]; exact heap_new _ _ rfl, by rw [hW0]; exact heap_new _ _ (by simp), hs0⟩
  clear hbal hbbl htb hb2 hb20 h20 hs0 HTA HB1 HC2 HBA HBB
  go_upto_region 2 with fail
  rw [← hW0]
  clear hW0
  go_wp2
  have hg0 : GrowB true (ha + hb) W0.heap.size (.slice none 0 0) [] W0 := GrowB.nil _ _ _ _
  have HG0 := Lib.hid hg0; clear hg0
  go_loopw [20, 7] (fun i v wr => ∃ (j : Nat) (ua : Option Addr) (uc : Nat), j ≤ na ∧ i = .int .i64 j ∧ v = .slice ua j uc ∧ Hid (GrowB true (ha + hb) W0.heap.size (.slice ua j uc) ((a.take j).map (fun x => (x.1, mapT (findB b) (fun s => s) x.2))) wr) ∧ Hid (Below W0.heap.size W0 wr)) (fun i _ _ => na - (intOf i).toNat)
  case atStart => exact ⟨0, none, 0, Nat.zero_le _, rfl, rfl, HG0, Lib.hid (Below.refl _ _)⟩
  case round =>
    obtain ⟨j, ua, uc, hj, rfl, rfl, HG, HB⟩ := hrel
    have hbw := bel_two HB0.out HB.out
    have q5 : wr.heap[w2.heap.size]? = some (.cells #[.map (some ba)] 83 (0, 0)) := (HB.out.block _ (by have := HR0.out.2.2; omega)).trans HR0.out.1
    have q6 : wr.heap[w2.heap.size + 1]? = some (.cells #[.map (some bb)] 83 (0, 0)) := (HB.out.block _ (by have := HR0.out.2.2; omega)).trans HR0.out.2.1
    by_cases hlt : j < na
    · obtain ⟨x, hx⟩ : ∃ x, a[j]? = some x := ⟨_, List.getElem?_eq_getElem (by have := HNA.out; omega)⟩
      obtain ⟨bk, o, c', p, tk', tn, tsn, txs, u', e, rfl, _, hps, hszn, c0, c1, c2, c3, c4, har⟩ := HUA.out.at hx
      obtain ⟨rfl, -, rfl⟩ : aa = some ⟨bk, o, none⟩ ∧ na = a.length ∧ ac' = c' := by simpa using e
      obtain ⟨va, vc, rfl⟩ := har.slice
      obtain ⟨ml, hml⟩ : ∃ m, m = txs.length := ⟨_, rfl⟩
      rw [← hml] at c4
      have d0 := cell_on hbw c0
      have d1 := cell_on hbw c1
      have d2 := cell_on hbw c2
      have d3 := cell_on hbw c3
      have d4 := cell_on hbw c4
      obtain ⟨Wb, hWb⟩ : ∃ Wb, Wb = wr.alloc (.cells #[.string p, .int .i64 tk', .int .i64 tn, .string tsn, .slice va ml vc] 86) := ⟨_, rfl⟩
      have hbb : Below wr.heap.size wr Wb := by rw [hWb]; exact (Below.refl _ _).alloc (Nat.le_refl _) _
      have hzb : Wb.heap.size = wr.heap.size + 1 := by rw [hWb]; simp
      have rB : Wb.heap[wr.heap.size]? = some (.cells #[.string p, .int .i64 tk', .int .i64 tn, .string tsn, .slice va ml vc] 86 (0, 0)) := by rw [hWb]; exact heap_new _ _ rfl
      have HRB : Hid (∀ w', Below Wb.heap.size Wb w' → w'.cell? ⟨wr.heap.size, 0, none⟩ = some (.string p) ∧ w'.cell? ⟨wr.heap.size, 1, none⟩ = some (.int .i64 tk') ∧ w'.cell? ⟨wr.heap.size, 2, none⟩ = some (.int .i64 tn) ∧ w'.cell? ⟨wr.heap.size, 3, none⟩ = some (.string tsn) ∧ w'.cell? ⟨wr.heap.size, 4, none⟩ = some (.slice va ml vc)) := Lib.hid (fun w' hb => by
        have q := (hb.block _ (by omega)).trans rB
        have h0 := cell_of_row w' wr.heap.size 0 _ _ _ q
        have h1 := cell_of_row w' wr.heap.size 1 _ _ _ q
        have h2 := cell_of_row w' wr.heap.size 2 _ _ _ q
        have h3 := cell_of_row w' wr.heap.size 3 _ _ _ q
        have h4 := cell_of_row w' wr.heap.size 4 _ _ _ q
        simp at h0 h1 h2 h3 h4
        exact ⟨h0, h1, h2, h3, h4⟩)
      have HBWb := Lib.hid (HB.out.trans (hbb.mono HB.out.size))
      have hdd : Below W0.heap.size W0 Wb.drew := HBWb.out.drew
      have hwtm := wBs_mem hx
      have HCALL := Lib.hid (appI_any bb b lb (tv tk' tn tsn (.slice va ml vc)) (.node tk' tn tsn txs) lo2 lo hb ha Wb.drew (HTB0.out.below hdd) (HBB0.out.below hdd) HWB.out ⟨_, _, _, _, txs, rfl, rfl, hszn, (by rw [hml]; exact har.below (bel_two HB0.out hdd))⟩ (by have := HWA.out; simp only at hwtm; omega))
      have hlw : W0.heap.size ≤ Wb.heap.size := HBWb.out.size
      have HLW := Lib.hid hlw
      have hgb := HG.out.below hbb
      have HAFT := Lib.hid (fun (e' : Ending) (w1 : World) (q : CopyR (ha + hb) (mapT (findB b) (fun s => s) (.node tk' tn tsn txs)) Wb.drew e' w1) => gotB_own (bB := wr.heap.size) hgb (by rw [List.length_map, List.length_take]; have := HNA.out; omega) hlw hps (Nat.le_refl _) q)
      have HTK : Hid ((a.take (j + 1)).map (fun x => (x.1, mapT (findB b) (fun s => s) x.2)) = (a.take j).map (fun x => (x.1, mapT (findB b) (fun s => s) x.2)) ++ [(p, mapT (findB b) (fun s => s) (.node tk' tn tsn txs))]) := Lib.hid (by rw [tk a j _ hx, List.map_append]; rfl)
      have HML : Hid (j + 1 ≤ 2097152) := Lib.hid (by omega)
      have q6b : Wb.heap[w2.heap.size + 1]? = some (.cells #[.map (some bb)] 83 (0, 0)) := (hbb.block _ (Array.getElem?_eq_some_iff.1 q6).1).trans q6
      have e6 := cell_of_row Wb (w2.heap.size + 1) 0 _ _ _ q6b
      simp at e6
      clear c0 c1 c2 c3 c4 har hszn hps hx e hml q5 q6 q6b rB hgb hlw hwtm hdd hzb
      go_upto_region 6 with fail
      rw [← hWb]
      clear hWb d0 d1 d2 d3 d4
      obtain ⟨b0, b1, b2, b3, b4⟩ := HRB.out _ (Below.refl _ _)
      go_region_law (first
          | (refine step_append_lies _ rfl (.tmp 24) (.tmp 32) 24 rfl (W0.heap.size) 86 i0 (.agg #[.string ByteArray.empty, .int .i64 0, .int .i64 0, .string ByteArray.empty, .slice none 0 0]) 5 72 Try.underlying24 HI.out HZ0.out HZ1.out HZ2.out rfl (by decide) (.slice ua j uc) j ys rfl HYS.out ⟨w1.heap.size, 0, none⟩ 1 1 [.string p, .int .i64 kc, .int .i64 nc, .string nmc, .slice ac mc cc] rfl rfl HNEW.out (by intro u hu; simp at hu; rcases hu with rfl | rfl | rfl | rfl | rfl <;> rfl) (by decide) (by have := HML.out; unfold maxLen; omega) (by have := HML.out; omega) HLO.out _ rfl ?_; intro g3 c3' w3 ho3 hg3 ha3 hl3; have HGOT3 := Lib.hid (HGOT.out g3 c3' w3 ho3 hg3 ha3); clear ho3 hg3 ha3 hl3)
          | (go_simp; go_at_call 61; refine HCALL.out.mono ?_; intro e' w1 hte; obtain ⟨kc, nc, nmc, ac, mc, cc, ys, rfl, hbc, hys, hgot⟩ := HAFT.out e' w1 hte; clear hte; obtain ⟨x0, x1, x2, x3, x4⟩ := HRB.out _ hbc; have HYS := Lib.hid (hys.alloc (.cells #[.string p, .int .i64 kc, .int .i64 nc, .string nmc, .slice ac mc cc] 86)); have HGOT := Lib.hid hgot; have HLO : Hid (W0.heap.size ≤ (w1.alloc (.cells #[.string p, .int .i64 kc, .int .i64 nc, .string nmc, .slice ac mc cc] 86)).heap.size) := Lib.hid (by have h1 := hbc.size; have h2 := HLW.out; simp; omega); have HNEW := Lib.hid (news5 w1 (.string p) (.int .i64 kc) (.int .i64 nc) (.string nmc) (.slice ac mc cc) 86 rfl); clear hys hgot hbc))
      all_goals go_wp2
      all_goals go_roundw
      all_goals first
        | exact ⟨j + 1, _, _, by omega, by go_num, rfl, by rw [HTK.out]; exact Lib.hid HGOT3.out.1, Lib.hid (HBWb.out.trans HGOT3.out.2)⟩
        | (simp [intOf]; omega)
    · have hjn : j = na := by omega
      subst hjn
      have HT : Hid (a.take j = a) := Lib.hid (List.take_of_length_le (by have := HNA.out; omega))
      rw [HT.out] at HG
      have HG1 : Hid (GrowB true (ha + hb) W0.heap.size (.slice ua j uc) (a.map (fun x => (x.1, mapT (findB b) (fun s => s) x.2)) ++ (b.take 0).filter (fun x => (findB a x.1).isNone)) wr) := Lib.hid (by simpa using HG.out)
      obtain ⟨m0, hm0⟩ : ∃ m, m = j := ⟨_, rfl⟩
      have HM0 := Lib.hid hm0
      clear q5 q6 hbw HG
      go_wp2
      go_loopw [37, 7] (fun i v wr => ∃ (j q : Nat) (ua : Option Addr) (uc : Nat), j ≤ nb ∧ i = .int .i64 j ∧ v = .slice ua q uc ∧ q ≤ m0 + j ∧ Hid (q = (a.map (fun x => (x.1, mapT (findB b) (fun s => s) x.2)) ++ (b.take j).filter (fun x => (findB a x.1).isNone)).length) ∧
        Hid (GrowB true (ha + hb) W0.heap.size (.slice ua q uc) (a.map (fun x => (x.1, mapT (findB b) (fun s => s) x.2)) ++ (b.take j).filter (fun x => (findB a x.1).isNone)) wr) ∧ Hid (Below W0.heap.size W0 wr)) (fun i _ _ => nb - (intOf i).toNat)
      case atStart => exact ⟨0, j, ua, uc, Nat.zero_le _, rfl, rfl, by omega, Lib.hid (by simp; exact HNA.out), HG1, HB⟩
      case round =>
        clear HB HG1 HT
        obtain ⟨i, q, ua, uc, hi, rfl, rfl, hq, HQ, HG, HB⟩ := hrel
        have hbw := bel_two HB0.out HB.out
        have q5 : wr.heap[w2.heap.size]? = some (.cells #[.map (some ba)] 83 (0, 0)) := (HB.out.block _ (by have := HR0.out.2.2; omega)).trans HR0.out.1
        by_cases hlt : i < nb
        · obtain ⟨x, hx⟩ : ∃ x, b[i]? = some x := ⟨_, List.getElem?_eq_getElem (by have := HNB.out; omega)⟩
          obtain ⟨bk, o, c', p, tk', tn, tsn, txs, u', e, rfl, _, hps, hszn, c0, c1, c2, c3, c4, har⟩ := HVB.out.at hx
          obtain ⟨rfl, -, rfl⟩ : ab = some ⟨bk, o, none⟩ ∧ nb = b.length ∧ bc' = c' := by simpa using e
          obtain ⟨va, vc, rfl⟩ := har.slice
          obtain ⟨ml, hml⟩ : ∃ m, m = txs.length := ⟨_, rfl⟩
          rw [← hml] at c4
          have d0 := cell_on hbw c0
          have d1 := cell_on hbw c1
          have d2 := cell_on hbw c2
          have d3 := cell_on hbw c3
          have d4 := cell_on hbw c4
          obtain ⟨Wb, hWb⟩ : ∃ Wb, Wb = wr.alloc (.cells #[.string p, .int .i64 tk', .int .i64 tn, .string tsn, .slice va ml vc] 86) := ⟨_, rfl⟩
          have hbb : Below wr.heap.size wr Wb := by rw [hWb]; exact (Below.refl _ _).alloc (Nat.le_refl _) _
          have hzb : Wb.heap.size = wr.heap.size + 1 := by rw [hWb]; simp
          have rB : Wb.heap[wr.heap.size]? = some (.cells #[.string p, .int .i64 tk', .int .i64 tn, .string tsn, .slice va ml vc] 86 (0, 0)) := by rw [hWb]; exact heap_new _ _ rfl
          have HRB : Hid (∀ w', Below Wb.heap.size Wb w' → w'.cell? ⟨wr.heap.size, 0, none⟩ = some (.string p) ∧ w'.cell? ⟨wr.heap.size, 1, none⟩ = some (.int .i64 tk') ∧ w'.cell? ⟨wr.heap.size, 2, none⟩ = some (.int .i64 tn) ∧ w'.cell? ⟨wr.heap.size, 3, none⟩ = some (.string tsn) ∧ w'.cell? ⟨wr.heap.size, 4, none⟩ = some (.slice va ml vc)) := Lib.hid (fun w' hb => by
            have q := (hb.block _ (by omega)).trans rB
            have h0 := cell_of_row w' wr.heap.size 0 _ _ _ q
            have h1 := cell_of_row w' wr.heap.size 1 _ _ _ q
            have h2 := cell_of_row w' wr.heap.size 2 _ _ _ q
            have h3 := cell_of_row w' wr.heap.size 3 _ _ _ q
            have h4 := cell_of_row w' wr.heap.size 4 _ _ _ q
            simp at h0 h1 h2 h3 h4
            exact ⟨h0, h1, h2, h3, h4⟩)
          have HBWb := Lib.hid (HB.out.trans (hbb.mono HB.out.size))
          have hlook := (HTA0.out.below HBWb.out).look hps
          have q5b : Wb.heap[w2.heap.size]? = some (.cells #[.map (some ba)] 83 (0, 0)) := (hbb.block _ (Array.getElem?_eq_some_iff.1 q5).1).trans q5
          have e5 := cell_of_row Wb w2.heap.size 0 _ _ _ q5b
          simp at e5
          have HBBs := Lib.hid hbb
          have HX := Lib.hid hx
          have HTRM : Hid (∀ w', Below Wb.heap.size Wb w' → TermAt w' lo2 hb (tv tk' tn tsn (.slice va ml vc)) (.node tk' tn tsn txs)) := Lib.hid (fun w' hb' => ⟨_, _, _, _, txs, rfl, rfl, hszn, by rw [hml]; exact har.below (bel_two (bel_two HB0.out HBWb.out) hb')⟩)
          have HPS := Lib.hid hps
          have hwtm := wBs_mem hx
          have HWTM : Hid (wT (.node tk' tn tsn txs) ≤ 4194303) := Lib.hid (by have := HWB.out; simp only at hwtm; omega)
          obtain ⟨b0, b1, b2, b3, b4⟩ := HRB.out _ (Below.refl _ _)
          clear c0 c1 c2 c3 c4 har hszn hps hx e hml q5 q5b rB hwtm hzb hbb
          obtain ⟨f1, f2⟩ := HBA0.out.first p
          cases hfa : findB a p with
          | some t =>
            obtain ⟨v, e2, hvt⟩ := f2 t hfa
            obtain ⟨k9, n9, s9, a9, m9, c9, rfl⟩ := hvt.shape
            rw [e2] at hlook
            simp only [Option.getD_some, Option.isSome_some] at hlook
            have HFS : Hid ((b.take (i + 1)).filter (fun x => (findB a x.1).isNone) = (b.take i).filter (fun x => (findB a x.1).isNone)) := Lib.hid (by rw [filt_snoc HX.out]; simp [hfa])
            have hb3 : Below wr.heap.size wr (Wb.alloc (.cells #[.int .i64 k9, .int .i64 n9, .string s9, .slice a9 m9 c9] 29)) := HBBs.out.alloc HBBs.out.size _
            have HG3 := Lib.hid (HG.out.below hb3)
            have HB3 := Lib.hid (HB.out.trans (hb3.mono HB.out.size))
            clear f1 f2 e2 hvt hfa hb3 hbw
            go_upto_region 11 with fail
            rw [← hWb]
            clear hWb d0 d1 d2 d3 d4
            go_wp2
            go_roundw
            case rel => exact ⟨i + 1, q, ua, uc, by omega, by go_num, rfl, by omega, by rw [HFS.out]; exact HQ, by rw [HFS.out]; exact HG3, HB3⟩
            case measure => simp [intOf]; omega
          | none =>
            rw [f1 hfa] at hlook
            simp only [Option.getD_none, Option.isSome_none] at hlook
            have HFS : Hid ((b.take (i + 1)).filter (fun x => (findB a x.1).isNone) = (b.take i).filter (fun x => (findB a x.1).isNone) ++ [(p, .node tk' tn tsn txs)]) := Lib.hid (by rw [filt_snoc HX.out]; simp [hfa])
            obtain ⟨Wz, hWz⟩ : ∃ Wz, Wz = Wb.alloc (.cells #[.int .i64 0, .int .i64 0, .string ByteArray.empty, .slice none 0 0] 29) := ⟨_, rfl⟩
            have hbz : Below Wb.heap.size Wb Wz := by rw [hWz]; exact (Below.refl _ _).alloc (Nat.le_refl _) _
            have HBZ := Lib.hid hbz
            have HBWz := Lib.hid (HBWb.out.trans (hbz.mono HBWb.out.size))
            have HCALL := Lib.hid (copyI_any (tv tk' tn tsn (.slice va ml vc)) (.node tk' tn tsn txs) lo2 hb Wz.drew (HTRM.out _ hbz.drew) HWTM.out)
            have hlw : W0.heap.size ≤ Wz.heap.size := HBWz.out.size
            have HLW := Lib.hid hlw
            have hgz := HG.out.below (bel_two HBBs.out hbz)
            have HAFT := Lib.hid (fun (e' : Ending) (w1 : World) (qq : CopyR hb (.node tk' tn tsn txs) Wz.drew e' w1) => gotB_own (bB := wr.heap.size) hgz HQ.out hlw HPS.out (Nat.le_add_left _ _) qq)
            have HRZ : Hid (∀ w', Below Wz.heap.size Wz w' → w'.cell? ⟨wr.heap.size, 0, none⟩ = some (.string p) ∧ w'.cell? ⟨wr.heap.size, 1, none⟩ = some (.int .i64 tk') ∧ w'.cell? ⟨wr.heap.size, 2, none⟩ = some (.int .i64 tn) ∧ w'.cell? ⟨wr.heap.size, 3, none⟩ = some (.string tsn) ∧ w'.cell? ⟨wr.heap.size, 4, none⟩ = some (.slice va ml vc)) := Lib.hid (fun w' hb' => HRB.out _ (bel_two HBZ.out hb'))
            have HML : Hid (q + 1 ≤ 2097153) := Lib.hid (by have := HM0.out; omega)
            clear f1 f2 hfa hlw hgz hbw hbz
            go_upto_region 11 with fail
            rw [← hWb]
            clear hWb d0 d1 d2 d3 d4
            go_upto_region 13 with fail
            rw [← hWz]
            clear hWz b0 b1 b2 b3 b4 hlook e5
            obtain ⟨b0, b1, b2, b3, b4⟩ := HRZ.out _ (Below.refl _ _)
            go_region_law (first
          | (refine step_append_lies _ rfl (.tmp 51) (.tmp 58) 24 rfl (W0.heap.size) 86 i0 (.agg #[.string ByteArray.empty, .int .i64 0, .int .i64 0, .string ByteArray.empty, .slice none 0 0]) 5 72 Try.underlying24 HI.out HZ0.out HZ1.out HZ2.out rfl (by decide) (.slice ua q uc) q ys rfl HYS.out ⟨w1.heap.size, 0, none⟩ 1 1 [.string p, .int .i64 kc, .int .i64 nc, .string nmc, .slice ac mc cc] rfl rfl HNEW.out (by intro u hu; simp at hu; rcases hu with rfl | rfl | rfl | rfl | rfl <;> rfl) (by decide) (by have := HML.out; unfold maxLen; omega) (by have := HML.out; omega) HLO.out _ rfl ?_; intro g3 c3' w3 ho3 hg3 ha3 hl3; have HGOT3 := Lib.hid (HGOT.out g3 c3' w3 ho3 hg3 ha3); clear ho3 hg3 ha3 hl3)
          | (go_simp; go_at_call 62; refine HCALL.out.mono ?_; intro e' w1 hte; obtain ⟨kc, nc, nmc, ac, mc, cc, ys, rfl, hbc, hys, hgot⟩ := HAFT.out e' w1 hte; clear hte; obtain ⟨x0, x1, x2, x3, x4⟩ := HRZ.out _ hbc; have HYS := Lib.hid (hys.alloc (.cells #[.string p, .int .i64 kc, .int .i64 nc, .string nmc, .slice ac mc cc] 86)); have HGOT := Lib.hid hgot; have HLO : Hid (W0.heap.size ≤ (w1.alloc (.cells #[.string p, .int .i64 kc, .int .i64 nc, .string nmc, .slice ac mc cc] 86)).heap.size) := Lib.hid (by have h1 := hbc.size; have h2 := HLW.out; simp; omega); have HNEW := Lib.hid (news5 w1 (.string p) (.int .i64 kc) (.int .i64 nc) (.string nmc) (.slice ac mc cc) 86 rfl); clear hys hgot hbc))
            all_goals go_wp2
            all_goals go_roundw
            all_goals first
              | exact ⟨i + 1, q + 1, _, _, by omega, by go_num, rfl, by omega, Lib.hid (by rw [HFS.out, ← List.append_assoc, List.length_append, List.length_singleton, ← HQ.out]), by rw [HFS.out, ← List.append_assoc]; exact Lib.hid HGOT3.out.1, Lib.hid (HBWz.out.trans HGOT3.out.2)⟩
              | (simp [intOf]; omega)
        · have hjn : i = nb := by omega
          subst hjn
          have HT : Hid (b.take i = b) := Lib.hid (List.take_of_length_le (by have := HNB.out; omega))
          have HF : Hid (CopyBE (compB a b) w (.returned (.slice ua q uc)) wr) := Lib.hid (by
            have hg := HG.out
            rw [HT.out] at hg
            have hq' := HQ.out
            rw [HT.out] at hq'
            exact ⟨_, ha + hb, rfl, ⟨(hg.obj (by rw [← hq']; have := HM0.out; unfold maxLen; omega)).1.low HB0.out.size, (hg.obj (by rw [← hq']; have := HM0.out; unfold maxLen; omega)).2.wide HB0.out.size (Nat.le_refl _)⟩, hbw⟩)
          clear hbw q5
          go_wp2
          go_ret
          exact HF.out
end Go.Proofs.Yteelakhaaipebaa
