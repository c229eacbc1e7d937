/-
  The model's terms with changed variables, read alone: spec.ApplySubst.
-/
import Derived.Test.YtidbokheeieifaaGreatDoorQ15
import Derived.Test.YtidbokheeieifaaGreatDoorQ16
namespace Go.Proofs.YtidbokheeieifaaGreatDoor
open Go.RowKit

/-- The changed node in the making lies in block tb; its row lies behind. -/
structure OutP (B tb H : Nat) (K N : Int) (S : ByteArray) (ua : Option Addr) (m uc : Nat) (txs : List T) (base wr : World) : Prop where
  box : wr.heap[tb]? = some (trow K N S (.slice ua m uc))
  row : ∃ vs, wr.ownsRow (tb + 1) 26 4 (.slice ua m uc) m vs ∧ RowP (fun j => tb + 1 ≤ j ∧ some j ≠ (Value.slice ua m uc).ownBlock ∧ j < wr.heap.size) wr H txs vs
  len : m = txs.length
  bel : Below B base wr

/-- One changed argument more. -/
def GotP (B tb H : Nat) (K N : Int) (S : ByteArray) (ua : Option Addr) (m uc : Nat) (txs : List T) (t : T) (base : World) (e : Ending) (w1 : World) : Prop :=
  ∃ kc nc nmc ac mc cc ys, e = .returned (tv kc nc nmc (.slice ac mc cc)) ∧ w1.heap[tb]? = some (trow K N S (.slice ua m uc)) ∧ Below B base w1 ∧ w1.ownsRow (tb + 1) 26 4 (.slice ua m uc) m ys ∧
    ∀ g3 c3 w3, w3.ownsRow (tb + 1) 26 4 (.slice (some ⟨g3, 0, none⟩) (m + 1) c3) (m + 1) (ys ++ [.int .i64 kc, .int .i64 nc, .string nmc, .slice ac mc cc]) →
      (w1.alloc (.cells #[.int .i64 kc, .int .i64 nc, .string nmc, .slice ac mc cc] 26)).grownBy w3 (Value.slice ua m uc).ownBlock → ((Value.slice ua m uc).ownBlock = some g3 ∨ g3 = (w1.alloc (.cells #[.int .i64 kc, .int .i64 nc, .string nmc, .slice ac mc cc] 26)).heap.size) →
      w3.heap[tb]? = some (trow K N S (.slice ua m uc)) ∧ OutP B tb H K N S (some ⟨g3, 0, none⟩) (m + 1) c3 (txs ++ [t]) base (w3.setCell ⟨tb, 3, none⟩ (.slice (some ⟨g3, 0, none⟩) (m + 1) c3))

theorem got_p {B tb H H1 : Nat} {K N : Int} {S : ByteArray} {ua : Option Addr} {m uc : Nat} {txs : List T} {t : T} {base wr w1 : World} {e : Ending} (hH : H1 = H) (o : OutP B tb H1 K N S ua m uc txs base wr) (hB : B ≤ tb) (h : LCopyT H t wr.drew e w1) : GotP B tb H1 K N S ua m uc txs t base e w1 := by
  subst hH
  obtain ⟨kc, nc, nmc, ac, mc, cc, rfl, ht, hb0⟩ := h
  obtain ⟨_, _, _, _, xc, e1, rfl, hsz, har⟩ := ht
  cases e1
  have hb1 : Below wr.heap.size wr w1 := bel_drew hb0
  have htb : tb < wr.heap.size := (Array.getElem?_eq_some_iff.1 o.box).1
  have hz1 := hb1.size
  have hBr : B ≤ wr.heap.size := by omega
  obtain ⟨ys, hys0, hrow⟩ := o.row
  have hys := keep_own hys0 hb1
  have hyl := hys0.lt
  have hBw : Below B base w1 := o.bel.trans (hb1.mono hBr)
  refine ⟨kc, nc, nmc, ac, mc, cc, ys, rfl, (hb1.block tb htb).trans o.box, hBw, hys, fun g3 c3 w3 ho3 hg3 ha3 => ?_⟩
  have hza : (w1.alloc (.cells #[.int .i64 kc, .int .i64 nc, .string nmc, .slice ac mc cc] 26)).heap.size = w1.heap.size + 1 := by simp
  have hgz := hg3.size
  rw [hza] at hgz ha3
  have hne : some tb ≠ (Value.slice ua m uc).ownBlock := fun e => by have := (hyl tb e.symm).1; omega
  have hbx3 : w3.heap[tb]? = some (trow K N S (.slice ua m uc)) := (hg3.block tb (by omega) hne).trans ((Below.heap_alloc _ _ _ (by omega)).trans ((hb1.block tb htb).trans o.box))
  refine ⟨hbx3, ?_⟩
  have hc3 : ∀ (ad : Addr) v, some ad.block ≠ (Value.slice ua m uc).ownBlock → w1.cell? ad = some v → w3.cell? ad = some v := fun ad v hno hv => hg3.cell (cell_on ((Below.refl _ _).alloc (Nat.le_refl _) _) hv) hno
  have hset : ∀ (ad : Addr) v, tb + 1 ≤ ad.block → w3.cell? ad = some v → (w3.setCell ⟨tb, 3, none⟩ (.slice (some ⟨g3, 0, none⟩) (m + 1) c3)).cell? ad = some v := fun ad v hlo hv => (World.cell?_setCell_other _ _ _ _ (fun e => by rw [← e] at hlo; simp at hlo; omega)).trans hv
  have hnew : ∀ j, j < w1.heap.size → some j ≠ (Value.slice ua m uc).ownBlock → some j ≠ (Value.slice (some ⟨g3, 0, none⟩) (m + 1) c3).ownBlock := fun j hj hno e => by
    have e2 : j = g3 := by simpa [Value.ownBlock] using e
    rcases ha3 with h2 | h2
    · exact hno (by rw [h2, e2])
    · omega
  refine ⟨heap_set_at' hbx3 3 _, ⟨_, keep_at ho3 (fun k hk => Below.heap_setCell _ _ _ _ (fun e => ?_)), RowP.snoc hsz ?_ (((hrow.keep (fun ad v hP hv => hset ad v hP.1 (hc3 ad v hP.2.1 (cell_on hb1 hv)))).imp (fun i hP => ⟨hP.1, hnew i (by omega) hP.2.1, by simp [World.setCell]; omega⟩)))⟩, by rw [List.length_append, List.length_singleton, o.len], ?_⟩
  · have hk1 := (ho3.lt k hk).1
    simp at e; omega
  · have h1 : ArgsP (fun i => wr.heap.size ≤ i ∧ i < w1.heap.size) w1 H1 (.slice ac mc cc) xc := ArgsP.of (fun i h1 h2 => ⟨h1, h2⟩) har
    refine (h1.keep (fun ad v hP hv => hset ad v (by omega) (hc3 ad v (fun e => ?_) hv))).imp (fun i hP => ⟨by omega, hnew i hP.2 (fun e => ?_), by simp [World.setCell]; omega⟩)
    · have := (hyl _ e.symm).2; omega
    · have := (hyl _ e.symm).2; omega
  · exact Below.setCell ((hBw.alloc (by omega) _).grown hg3 (by omega) (fun k hk => by have := (hyl k hk).1; omega)) hB _

/-- The changed node, put into the result's box. -/
theorem out_fin {w wr : World} {b tb H : Nat} {K N : Int} {S : ByteArray} {ua : Option Addr} {m uc : Nat} {txs : List T} {base : World} (o : OutP tb tb H K N S ua m uc txs base wr) (hS : S.size ≤ maxLen) (hm : m ≤ maxLen) (hb : Below w.heap.size w wr) (h1 : w.heap.size ≤ b) (h2 : b ≤ tb) (v0 v1 v2 v3 : Value) :
    LCopyT (H + 1) (.node K N S txs) w (.returned (tv K N S (.slice ua m uc))) ((((wr.setCell ⟨b, 0, none⟩ v0).setCell ⟨b, 1, none⟩ v1).setCell ⟨b, 2, none⟩ v2).setCell ⟨b, 3, none⟩ v3) := by
  obtain ⟨vs, ho, hr⟩ := o.row
  have ha : ArgsAt wr (tb + 1) (H + 1) (.slice ua m uc) txs := hr.args (by rw [← o.len]; exact ho) rfl (by rw [← o.len]; exact hm) (fun j hj => hj.1) (Nat.le_refl _)
  have st : ∀ (X : World) (j : Nat) (v : Value), ArgsAt X (tb + 1) (H + 1) (.slice ua m uc) txs → ArgsAt (X.setCell ⟨b, j, none⟩ v) (tb + 1) (H + 1) (.slice ua m uc) txs := fun X j v q => q.grown (set_grown X b j v) (fun i e => by cases e; omega)
  exact ⟨K, N, S, ua, m, uc, rfl, ⟨_, _, _, _, txs, rfl, rfl, hS, (st _ _ _ (st _ _ _ (st _ _ _ (st _ _ _ ha)))).low (by omega)⟩, (((hb.setCell h1 _).setCell h1 _).setCell h1 _).setCell h1 _⟩

theorem lcopy_set {w wr : World} {b B h : Nat} {k n : Int} {s : ByteArray} {a : Option Addr} {m c : Nat} {r : T} (ht : TermAt wr B h (tv k n s (.slice a m c)) r) (hb : Below w.heap.size w wr) (h1 : w.heap.size ≤ b) (h2 : b < B) (v0 v1 v2 v3 : Value) :
    LCopyT h r w (.returned (tv k n s (.slice a m c))) ((((wr.setCell ⟨b, 0, none⟩ v0).setCell ⟨b, 1, none⟩ v1).setCell ⟨b, 2, none⟩ v2).setCell ⟨b, 3, none⟩ v3) := by
  obtain ⟨_, _, _, _, _, _, e, q, hb'⟩ := resT_fin (ok := true) ht hb h1 h2 v0 v1 v2 v3
  simp only [Ending.returned.injEq, Value.tuple.injEq] at e
  exact ⟨k, n, s, a, m, c, rfl, by
    have e2 := congrArg (fun (x : Array Value) => x[0]?) e
    simp at e2
    obtain ⟨rfl, rfl, rfl, rfl, rfl, rfl⟩ := e2
    exact q, hb'⟩

def AppAtF (bs : List (ByteArray × T)) (D h : Nat) : Prop := ∀ (u v : Value) (t : T) (lo lo2 : Nat) (w : World), BsAt w lo D u bs → TermAt w lo2 h v t → cT t ≤ 4294967296 → Calls Tryz.prog 35 #[u, v] w (LCopyT (h + D + 1) (mapT (findB bs) (fun s => s) t) w)

set_option maxRecDepth 100000 in
set_option maxHeartbeats 3200000 in
theorem app_step (bs : List (ByteArray × T)) (hbw : FewB bs) (D h : Nat) (IH : ∀ h', h = h' + 1 → AppAtF bs D h') : AppAtF bs D h := by
  intro u0 v t lo lo2 w hbs ht hw
  obtain ⟨k, n, s, u, xs, rfl, rfl, hs, ha⟩ := ht
  obtain ⟨a, cap, rfl⟩ := ha.slice
  obtain ⟨ba, bc, rfl⟩ := hbs.slice
  obtain ⟨bm, hbm⟩ : ∃ bm, bm = bs.length := ⟨_, rfl⟩
  rw [← hbm] at hbs ⊢
  clear hbm
  obtain ⟨i0, hi, hz0, hz1, hz2⟩ := info_parts infoTermD
  have HI := Lib.hid hi; clear hi
  have HZ0 := Lib.hid hz0; clear hz0
  have HZ1 := Lib.hid hz1; clear hz1
  have HZ2 := Lib.hid hz2; clear hz2
  have HA := Lib.hid ha; clear ha
  have HBS := Lib.hid hbs; clear hbs
  have HW : Hid (1 + cS xs ≤ 4294967296 ∧ xs.length ≤ cS xs) := Lib.hid ⟨by rw [cT_node] at hw; exact hw, len_cSc xs⟩
  have HIH := Lib.hid IH; clear IH hw
  have HSS := Lib.hid hs; clear hs
  obtain ⟨m, hm⟩ : ∃ m, m = xs.length := ⟨_, rfl⟩
  have hml : m ≤ 4294967296 := by have := HW.out; omega
  rw [← hm] at HA ⊢
  have HM := Lib.hid hm; clear hm
  by_cases hk1 : k = 1
  · subst hk1
    obtain ⟨W1, hW1⟩ : ∃ W1, W1 = (boxed w 1 n s (.slice a m cap)).alloc (.cells #[.int .i64 0, .int .i64 0, .string ⟨#[]⟩, .slice none 0 0] 26) := ⟨_, rfl⟩
    have hB1 : Below w.heap.size w W1 := by rw [hW1]; exact (boxed_below w 1 n s _).alloc (by simp) _
    have hs1 : W1.heap.size = w.heap.size + 2 := by rw [hW1]; simp
    have r0 : W1.heap[w.heap.size]? = some (.cells #[.int .i64 1, .int .i64 n, .string s, .slice a m cap] 26 (0, 0)) := by rw [hW1, Below.heap_alloc _ _ _ (by simp)]; exact heap_new w _ rfl
    have r1 : W1.heap[w.heap.size + 1]? = some (trow 0 0 ByteArray.empty (.slice none 0 0)) := by rw [hW1]; exact heap_new _ _ (by simp)
    have HFD := Lib.hid (sFindB_anyF (.slice ba bm bc) s bs lo D W1 hbw (HBS.out.below hB1))
    have HB1 := Lib.hid hB1; have HS1 := Lib.hid hs1; have HR1 := Lib.hid (And.intro r0 r1)
    clear hB1 hs1 r0 r1
    unfold boxed at hW1
    cases hfb : findB bs s with
    | some t' =>
      have HF : Hid (mapT (findB bs) (fun s => s) (.node 1 n s xs) = t') := Lib.hid (by rw [mapT_node, if_pos rfl, hfb])
      rw [hfb] at HFD
      simp only [Option.isSome_some, Option.getD_some] at HFD
      clear hfb
      go_enter Tryz.func35, Tryz.ntmps35
      go_wp2_with fail
      rw [← hW1]
      clear hW1
      refine HFD.out.mono ?_
      rintro e w2 ⟨k2, n2, s2, a2, m2, c2, rfl, ht2, hb2⟩
      have hwz := hb2.size
      obtain ⟨W3, hW3⟩ : ∃ W3, W3 = boxed w2 k2 n2 s2 (.slice a2 m2 c2) := ⟨_, rfl⟩
      have hB3 : Below w2.heap.size w2 W3 := by rw [hW3]; exact boxed_below _ _ _ _ _
      have q1 : W3.heap[w.heap.size + 1]? = some (trow 0 0 ByteArray.empty (.slice none 0 0)) := (hB3.block _ (by have := HS1.out; omega)).trans ((hb2.block _ (by have := HS1.out; omega)).trans HR1.out.2)
      obtain ⟨⟨y0, y1, y2, y3⟩, f0, f1, f2, f3⟩ := cells_of4 q1
      have HFI := Lib.hid (fun v0 v1 v2 v3 => lcopy_set (w := w) (b := w.heap.size + 1) (v0 := v0) (v1 := v1) (v2 := v2) (v3 := v3) (ht2.below hB3) (HB1.out.trans ((hb2.trans (hB3.mono hwz)).mono HB1.out.size)) (Nat.le_succ _) (by have := HS1.out; omega))
      unfold boxed at hW3
      rw [hW3] at y0 y1 y2 y3 f0 f1 f2 f3 HFI
      clear q1 hB3 ht2 hb2 hW3
      go_wp2
      (try simp only [Exit.inBlock, Exit.then])
      refine bodyPost_ret (v := tv k2 n2 s2 (.slice a2 m2 c2)) ?hr0 rfl ?_
      case hr0 =>
        rw [results_cell (a := 4) (t := 26) (ad := ⟨w.heap.size + 1, 0, none⟩) rfl rfl]
        go_simp
      rw [HF.out]
      obtain ⟨k5, n5, s5, a5, m5, c5, e5, ht5, hb5⟩ := HFI.out (.int .i64 k2) (.int .i64 n2) (.string s2) (.slice a2 m2 c2)
      obtain ⟨k6, n6, s6, u6, xs6, e6, e7, hs6, ha6⟩ := ht5
      exact ⟨k5, n5, s5, a5, m5, c5, e5, ⟨k6, n6, s6, u6, xs6, e6, e7, hs6, ha6.le (by omega)⟩, hb5⟩
    | none =>
      have HF : Hid (mapT (findB bs) (fun s => s) (.node 1 n s xs) = .node 1 n s (xs.map (mapT (findB bs) (fun s => s)))) := Lib.hid (by rw [mapT_node, if_pos rfl, hfb])
      rw [hfb] at HFD
      simp only [Option.isSome_none, Option.getD_none] at HFD
      clear hfb
      go_enter Tryz.func35, Tryz.ntmps35
      go_wp2_with fail
      rw [← hW1]
      clear hW1
      refine HFD.out.mono ?_
      rintro e w2 ⟨k2, n2, s2, a2, m2, c2, rfl, ht2, hb2⟩
      have hwz := hb2.size
      have hs1 := HS1.out
      have q0 : w2.heap[w.heap.size]? = some (.cells #[.int .i64 1, .int .i64 n, .string s, .slice a m cap] 26 (0, 0)) := (hb2.block _ (by omega)).trans HR1.out.1
      obtain ⟨W0, hW0⟩ : ∃ W0, W0 = (w2.alloc (.cells #[.int .i64 k2, .int .i64 n2, .string s2, .slice a2 m2 c2] 26)).alloc (.cells #[.int .i64 1, .int .i64 n, .string s, .slice none 0 0] 26) := ⟨_, rfl⟩
      have hbb : Below w2.heap.size w2 W0 := by rw [hW0]; exact ((Below.refl _ _).alloc (Nat.le_refl _) _).alloc (by simp) _
      have HB0 : Hid (Below w.heap.size w W0) := Lib.hid (HB1.out.trans ((hb2.trans (hbb.mono hwz)).mono HB1.out.size))
      have HS0 : Hid (W0.heap.size = w2.heap.size + 1 + 1 ∧ w.heap.size + 2 ≤ w2.heap.size) := Lib.hid ⟨by rw [hW0]; simp, by omega⟩
      have HRR : Hid (W0.heap[w.heap.size]? = some (.cells #[.int .i64 1, .int .i64 n, .string s, .slice a m cap] 26 (0, 0)) ∧ W0.heap[w.heap.size + 1]? = some (trow 0 0 ByteArray.empty (.slice none 0 0))) := Lib.hid ⟨(hbb.block _ (by omega)).trans q0, (hbb.block _ (by omega)).trans ((hb2.block _ (by omega)).trans HR1.out.2)⟩
      have HRB : Hid (W0.heap[w2.heap.size + 1]? = some (trow 1 n s (.slice none 0 0))) := Lib.hid (by rw [hW0]; exact heap_new _ _ (by simp))
      obtain ⟨⟨b0, b1, b2, b3⟩, _, _, _, _⟩ := cells_of4 q0
      have e0 : ∀ o, (w2.alloc o).cell? ⟨w.heap.size, 0, none⟩ = some (.int .i64 1) := fun o => cell_on ((Below.refl _ _).alloc (Nat.le_refl _) o) b0
      have e1 : ∀ o, (w2.alloc o).cell? ⟨w.heap.size, 1, none⟩ = some (.int .i64 n) := fun o => cell_on ((Below.refl _ _).alloc (Nat.le_refl _) o) b1
      have e2 : ∀ o, (w2.alloc o).cell? ⟨w.heap.size, 2, none⟩ = some (.string s) := fun o => cell_on ((Below.refl _ _).alloc (Nat.le_refl _) o) b2
      clear ht2 hbb HB1 HS1 HR1 HFD
      go_upto_region 6 with fail
      have HR0 : Hid (OutP (w2.heap.size + 1) (w2.heap.size + 1) (h + D) 1 n s none 0 0 [] W0 W0) := Lib.hid ⟨HRB.out, ⟨[], World.ownsRow_nil _ _ _ _, rfl⟩, rfl, Below.refl _ _⟩
      have hs0 := HS0.out
      rw [← hW0]
      clear hW0 b0 b1 b2 b3 e0 e1 e2 q0 hb2 hwz hs1
      go_wp2
      go_loopw [8] (fun i wr => ∃ (j : Nat) (ua : Option Addr) (uc : Nat), j ≤ m ∧ i = .int .i64 j ∧ Hid (OutP (w2.heap.size + 1) (w2.heap.size + 1) (h + D) 1 n s ua j uc ((xs.take j).map (mapT (findB bs) (fun s => s))) W0 wr)) (fun i _ => m - (intOf i).toNat)
      case atStart => exact ⟨0, none, 0, Nat.zero_le _, rfl, HR0⟩
      case round =>
        clear HR0
        obtain ⟨j, ua, uc, hj, rfl, HO⟩ := hrel
        have hbl := HO.out.bel
        have q0 := (hbl.block w.heap.size (by omega)).trans HRR.out.1
        have q1 := (hbl.block (w.heap.size + 1) (by omega)).trans HRR.out.2
        have c3 := cell_of_row wr w.heap.size 3 _ _ _ q0
        simp at c3
        obtain ⟨⟨t0, t1, t2, t3⟩, p0, p1, p2, p3⟩ := cells_of4 HO.out.box
        have hzr : w2.heap.size + 1 < wr.heap.size := (Array.getElem?_eq_some_iff.1 HO.out.box).1
        have HQ := Lib.hid (And.intro q0 q1); clear q0 q1
        by_cases hlt : j < m
        · obtain ⟨y, hy⟩ : ∃ y, xs[j]? = some y := ⟨_, List.getElem?_eq_getElem (by have := HM.out; omega)⟩
          obtain ⟨h', b, o, tk', tn, tsn, txs, u', e, rfl, rfl, hszy, e0, e1, e2, e3, har⟩ := HA.out.at hy
          obtain ⟨va, vc, rfl⟩ := har.slice
          have hbw : Below w.heap.size w wr := HB0.out.trans (hbl.mono (by omega))
          have d0 := cell_on hbw e0
          have d1 := cell_on hbw e1
          have d2 := cell_on hbw e2
          have d3 := cell_on hbw e3
          have hwt := cT_atc xs j _ hy
          have HCALL := Lib.hid (HIH.out h' e _ _ _ lo lo2 wr.drew (HBS.out.below hbw.drew) ⟨tk', tn, tsn, _, txs, rfl, rfl, hszy, har.below hbw.drew⟩ (by have := HW.out; omega))
          have HAFT := Lib.hid (fun (e' : Ending) (w1 : World) (q : LCopyT _ ((mapT (findB bs) (fun s => s)) (.node tk' tn tsn txs)) wr.drew e' w1) => got_p (show h + D = h' + D + 1 by omega) HO.out (Nat.le_refl _) q)
          have HTK : Hid ((xs.take (j + 1)).map (mapT (findB bs) (fun s => s)) = (xs.take j).map (mapT (findB bs) (fun s => s)) ++ [(mapT (findB bs) (fun s => s)) (.node tk' tn tsn txs)]) := Lib.hid (by rw [tk xs j _ hy, List.map_append]; rfl)
          have HML : Hid (j + 1 ≤ 4294967297) := Lib.hid (by omega)
          clear hwt har hszy e e0 e1 e2 e3 hy hbw
          go_wp2
          go_region_law (first
            | (refine step_append_lies _ rfl (.tmp 36) (.tmp 44) 24 rfl (w2.heap.size + 1 + 1) 26 i0 (.agg #[.int .i64 0, .int .i64 0, .string ByteArray.empty, .slice none 0 0]) 4 56 Tryz.underlying24 HI.out HZ0.out HZ1.out HZ2.out rfl (by decide) (.slice ua j uc) j ys rfl HYS.out ⟨w1.heap.size, 0, none⟩ 1 1 [.int .i64 kc, .int .i64 nc, .string nmc, .slice ac mc cc] rfl rfl HNEW.out (by intro u hu; simp at hu; rcases hu with rfl | rfl | rfl | rfl <;> rfl) (by decide) (by have := HML.out; unfold maxLen; omega) (by have := HML.out; omega) HLO.out _ rfl ?_; intro g3 c3' w3 ho3 hg3 ha3 hl3; obtain ⟨htb3, hgot3⟩ := HGOT.out g3 c3' w3 ho3 hg3 ha3; obtain ⟨⟨q0', q1', q2', q3'⟩, r0', r1', r2', r3'⟩ := cells_of4 htb3; have HGOT3 := Lib.hid hgot3; clear ho3 hg3 ha3 hl3 htb3 hgot3)
            | (go_simp; go_at_call 35; refine HCALL.out.mono ?_; intro e' w1 hte; obtain ⟨kc, nc, nmc, ac, mc, cc, ys, rfl, hkt, hbc, hys, hgot⟩ := HAFT.out e' w1 hte; clear hte; obtain ⟨⟨q0, q1, q2, q3⟩, r0, r1, r2, r3⟩ := cells_of4 hkt; have q3a := cell_on ((Below.refl _ _).alloc (Nat.le_refl w1.heap.size) (.cells #[.int .i64 kc, .int .i64 nc, .string nmc, .slice ac mc cc] 26)) q3; have HYS := Lib.hid (hys.alloc (.cells #[.int .i64 kc, .int .i64 nc, .string nmc, .slice ac mc cc] 26)); have HGOT := Lib.hid hgot; have HLO : Hid (w2.heap.size + 1 + 1 ≤ (w1.alloc (.cells #[.int .i64 kc, .int .i64 nc, .string nmc, .slice ac mc cc] 26)).heap.size) := Lib.hid (by have h1 := hbc.size; have h2 := HS0.out; simp; omega); have HNEW := Lib.hid (news4' w1 (.int .i64 kc) (.int .i64 nc) (.string nmc) (.slice ac mc cc) 26 rfl); clear hkt hys hgot hbc))
          all_goals go_wp2
          all_goals go_roundw
          all_goals first
            | exact ⟨j + 1, _, _, by omega, by go_num, by rw [HTK.out]; exact HGOT3⟩
            | (simp [intOf]; omega)
        · have hjm : j = m := by omega
          subst hjm
          obtain ⟨⟨z0, z1, z2, z3⟩, y0, y1, y2, y3⟩ := cells_of4 HQ.out.2
          have HFI := Lib.hid (fun v0 v1 v2 v3 => out_fin (w := w) (b := w.heap.size + 1) (v0 := v0) (v1 := v1) (v2 := v2) (v3 := v3) HO.out HSS.out (by unfold maxLen; omega) (HB0.out.trans (HO.out.bel.mono (by omega))) (by omega) (by omega))
          have HT : Hid (xs.take j = xs) := Lib.hid (List.take_of_length_le (by have := HM.out; omega))
          rw [HT.out] at HFI
          clear hlt
          go_wp2
          (try simp only [Exit.inBlock, Exit.then])
          refine bodyPost_ret (v := tv 1 n s (.slice ua j uc)) ?hr1 rfl ?_
          case hr1 =>
            rw [results_cell (a := 4) (t := 26) (ad := ⟨w.heap.size + 1, 0, none⟩) rfl rfl]
            go_simp
          rw [HF.out]
          exact HFI.out _ _ _ _

  · have hkb : (k == 1) = false := by simpa using hk1
    have HF : Hid (mapT (findB bs) (fun s => s) (.node k n s xs) = .node k n s (xs.map (mapT (findB bs) (fun s => s)))) := Lib.hid (by rw [mapT_node, if_neg hk1])
    clear hk1
    obtain ⟨W0, hW0⟩ : ∃ W0, W0 = ((boxed w k n s (.slice a m cap)).alloc (.cells #[.int .i64 0, .int .i64 0, .string ⟨#[]⟩, .slice none 0 0] 26)).alloc (.cells #[.int .i64 k, .int .i64 n, .string s, .slice none 0 0] 26) := ⟨_, rfl⟩
    have HB0 : Hid (Below w.heap.size w W0) := Lib.hid (by rw [hW0]; exact ((boxed_below w k n s _).alloc (by simp) _).alloc (by simp; omega) _)
    have HS0 : Hid (W0.heap.size = w.heap.size + 2 + 1 ∧ w.heap.size + 2 ≤ w.heap.size + 2) := Lib.hid ⟨by rw [hW0]; simp, Nat.le_refl _⟩
    have HRR : Hid (W0.heap[w.heap.size]? = some (.cells #[.int .i64 k, .int .i64 n, .string s, .slice a m cap] 26 (0, 0)) ∧ W0.heap[w.heap.size + 1]? = some (trow 0 0 ByteArray.empty (.slice none 0 0))) := Lib.hid ⟨by
      rw [hW0, Below.heap_alloc _ _ _ (by simp; omega), Below.heap_alloc _ _ _ (by simp)]; exact heap_new w _ rfl, by
      rw [hW0, Below.heap_alloc _ _ _ (by simp)]; exact heap_new _ _ (by simp)⟩
    have HRB : Hid (W0.heap[w.heap.size + 2]? = some (trow k n s (.slice none 0 0))) := Lib.hid (by rw [hW0]; exact heap_new _ _ (by simp))
    unfold boxed at hW0
    go_enter Tryz.func35, Tryz.ntmps35
    go_upto_region 6 with fail
    have HR0 : Hid (OutP (w.heap.size + 2) (w.heap.size + 2) (h + D) k n s none 0 0 [] W0 W0) := Lib.hid ⟨HRB.out, ⟨[], World.ownsRow_nil _ _ _ _, rfl⟩, rfl, Below.refl _ _⟩
    have hs0 := HS0.out
    rw [← hW0]
    clear hW0
    go_wp2
    go_loopw [8] (fun i wr => ∃ (j : Nat) (ua : Option Addr) (uc : Nat), j ≤ m ∧ i = .int .i64 j ∧ Hid (OutP (w.heap.size + 2) (w.heap.size + 2) (h + D) k n s ua j uc ((xs.take j).map (mapT (findB bs) (fun s => s))) W0 wr)) (fun i _ => m - (intOf i).toNat)
    case atStart => exact ⟨0, none, 0, Nat.zero_le _, rfl, HR0⟩
    case round =>
      clear HR0
      obtain ⟨j, ua, uc, hj, rfl, HO⟩ := hrel
      have hbl := HO.out.bel
      have q0 := (hbl.block w.heap.size (by omega)).trans HRR.out.1
      have q1 := (hbl.block (w.heap.size + 1) (by omega)).trans HRR.out.2
      have c3 := cell_of_row wr w.heap.size 3 _ _ _ q0
      simp at c3
      obtain ⟨⟨t0, t1, t2, t3⟩, p0, p1, p2, p3⟩ := cells_of4 HO.out.box
      have hzr : w.heap.size + 2 < wr.heap.size := (Array.getElem?_eq_some_iff.1 HO.out.box).1
      have HQ := Lib.hid (And.intro q0 q1); clear q0 q1
      by_cases hlt : j < m
      · obtain ⟨y, hy⟩ : ∃ y, xs[j]? = some y := ⟨_, List.getElem?_eq_getElem (by have := HM.out; omega)⟩
        obtain ⟨h', b, o, tk', tn, tsn, txs, u', e, rfl, rfl, hszy, e0, e1, e2, e3, har⟩ := HA.out.at hy
        obtain ⟨va, vc, rfl⟩ := har.slice
        have hbw : Below w.heap.size w wr := HB0.out.trans (hbl.mono (by omega))
        have d0 := cell_on hbw e0
        have d1 := cell_on hbw e1
        have d2 := cell_on hbw e2
        have d3 := cell_on hbw e3
        have hwt := cT_atc xs j _ hy
        have HCALL := Lib.hid (HIH.out h' e _ _ _ lo lo2 wr.drew (HBS.out.below hbw.drew) ⟨tk', tn, tsn, _, txs, rfl, rfl, hszy, har.below hbw.drew⟩ (by have := HW.out; omega))
        have HAFT := Lib.hid (fun (e' : Ending) (w1 : World) (q : LCopyT _ ((mapT (findB bs) (fun s => s)) (.node tk' tn tsn txs)) wr.drew e' w1) => got_p (show h + D = h' + D + 1 by omega) HO.out (Nat.le_refl _) q)
        have HTK : Hid ((xs.take (j + 1)).map (mapT (findB bs) (fun s => s)) = (xs.take j).map (mapT (findB bs) (fun s => s)) ++ [(mapT (findB bs) (fun s => s)) (.node tk' tn tsn txs)]) := Lib.hid (by rw [tk xs j _ hy, List.map_append]; rfl)
        have HML : Hid (j + 1 ≤ 4294967297) := Lib.hid (by omega)
        clear hwt har hszy e e0 e1 e2 e3 hy hbw
        go_wp2
        go_region_law (first
          | (refine step_append_lies _ rfl (.tmp 36) (.tmp 44) 24 rfl (w.heap.size + 2 + 1) 26 i0 (.agg #[.int .i64 0, .int .i64 0, .string ByteArray.empty, .slice none 0 0]) 4 56 Tryz.underlying24 HI.out HZ0.out HZ1.out HZ2.out rfl (by decide) (.slice ua j uc) j ys rfl HYS.out ⟨w1.heap.size, 0, none⟩ 1 1 [.int .i64 kc, .int .i64 nc, .string nmc, .slice ac mc cc] rfl rfl HNEW.out (by intro u hu; simp at hu; rcases hu with rfl | rfl | rfl | rfl <;> rfl) (by decide) (by have := HML.out; unfold maxLen; omega) (by have := HML.out; omega) HLO.out _ rfl ?_; intro g3 c3' w3 ho3 hg3 ha3 hl3; obtain ⟨htb3, hgot3⟩ := HGOT.out g3 c3' w3 ho3 hg3 ha3; obtain ⟨⟨q0', q1', q2', q3'⟩, r0', r1', r2', r3'⟩ := cells_of4 htb3; have HGOT3 := Lib.hid hgot3; clear ho3 hg3 ha3 hl3 htb3 hgot3)
          | (go_simp; go_at_call 35; refine HCALL.out.mono ?_; intro e' w1 hte; obtain ⟨kc, nc, nmc, ac, mc, cc, ys, rfl, hkt, hbc, hys, hgot⟩ := HAFT.out e' w1 hte; clear hte; obtain ⟨⟨q0, q1, q2, q3⟩, r0, r1, r2, r3⟩ := cells_of4 hkt; have q3a := cell_on ((Below.refl _ _).alloc (Nat.le_refl w1.heap.size) (.cells #[.int .i64 kc, .int .i64 nc, .string nmc, .slice ac mc cc] 26)) q3; have HYS := Lib.hid (hys.alloc (.cells #[.int .i64 kc, .int .i64 nc, .string nmc, .slice ac mc cc] 26)); have HGOT := Lib.hid hgot; have HLO : Hid (w.heap.size + 2 + 1 ≤ (w1.alloc (.cells #[.int .i64 kc, .int .i64 nc, .string nmc, .slice ac mc cc] 26)).heap.size) := Lib.hid (by have h1 := hbc.size; have h2 := HS0.out; simp; omega); have HNEW := Lib.hid (news4' w1 (.int .i64 kc) (.int .i64 nc) (.string nmc) (.slice ac mc cc) 26 rfl); clear hkt hys hgot hbc))
        all_goals go_wp2
        all_goals go_roundw
        all_goals first
          | exact ⟨j + 1, _, _, by omega, by go_num, by rw [HTK.out]; exact HGOT3⟩
          | (simp [intOf]; omega)
      · have hjm : j = m := by omega
        subst hjm
        obtain ⟨⟨z0, z1, z2, z3⟩, y0, y1, y2, y3⟩ := cells_of4 HQ.out.2
        have HFI := Lib.hid (fun v0 v1 v2 v3 => out_fin (w := w) (b := w.heap.size + 1) (v0 := v0) (v1 := v1) (v2 := v2) (v3 := v3) HO.out HSS.out (by unfold maxLen; omega) (HB0.out.trans (HO.out.bel.mono (by omega))) (by omega) (by omega))
        have HT : Hid (xs.take j = xs) := Lib.hid (List.take_of_length_le (by have := HM.out; omega))
        rw [HT.out] at HFI
        clear hlt
        go_wp2
        (try simp only [Exit.inBlock, Exit.then])
        refine bodyPost_ret (v := tv k n s (.slice ua j uc)) ?hr2 rfl ?_
        case hr2 =>
          rw [results_cell (a := 4) (t := 26) (ad := ⟨w.heap.size + 1, 0, none⟩) rfl rfl]
          go_simp
        rw [HF.out]
        exact HFI.out _ _ _ _

theorem sApp_anyF (bs : List (ByteArray × T)) (hbw : FewB bs) (D h : Nat) : AppAtF bs D h := by_height (app_step bs hbw D) h
def AppAt (bs : List (ByteArray × T)) (D h : Nat) : Prop := ∀ (u v : Value) (t : T) (lo lo2 : Nat) (w : World), BsAt w lo D u bs → TermAt w lo2 h v t → wT t ≤ 1048576 → Calls Tryz.prog 35 #[u, v] w (LCopyT (h + D + 1) (mapT (findB bs) (fun s => s) t) w)
theorem sApp_any (bs : List (ByteArray × T)) (hbw : wBs bs ≤ 1048576) (D h : Nat) : AppAt bs D h := fun u v t lo lo2 w a b c => sApp_anyF bs (few_of_w (by omega)) D h u v t lo lo2 w a b (by have := cT_le t; omega)
end Go.Proofs.YtidbokheeieifaaGreatDoor
