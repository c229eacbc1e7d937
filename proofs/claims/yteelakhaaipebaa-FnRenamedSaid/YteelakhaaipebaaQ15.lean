/-
  The model's terms with changed variables: the rows grow by one changed argument a round. spec.RenameVars.
-/
import Derived.Test.YteelakhaaipebaaQ7
import Derived.Deep.AppendLies
import Derived.Deep.RegionLawGrows
namespace Go.Proofs.Yteelakhaaipebaa
open Go.RowKit

theorem heap_set_at' {w : World} {b : Nat} {cs : Array Value} {e : TypeId} (h : w.heap[b]? = some (.cells cs e (0, 0))) (j : Nat) (v : Value) : (w.setCell ⟨b, j, none⟩ v).heap[b]? = some (.cells (cs.setIfInBounds j v) e (0, 0)) := by
  unfold World.setCell
  simp [Array.getElem?_modify, h]

/-- The changed node in the making lies in block tb; its row lies behind. -/
structure OutR (B tb H : Nat) (K N : Int) (S : ByteArray) (ua : Option Addr) (m uc : Nat) (txs : List T) (base wr : World) : Prop where
  box : wr.heap[tb]? = some (trow K N S (.slice ua m uc))
  row : OwnR (fun _ => True) wr H (tb + 1) wr.heap.size (.slice ua m uc) txs
  nil : txs = [] → Value.slice ua m uc = .slice none 0 0
  len : m = txs.length
  bel : Below B base wr

/-- One changed argument more. -/
def GotE (B tb H : Nat) (K N : Int) (S : ByteArray) (ua : Option Addr) (m uc : Nat) (txs : List T) (t : T) (base : World) (e : Ending) (w1 : World) : Prop :=
  ∃ kc nc nmc ac mc cc ys, e = .returned (tv kc nc nmc (.slice ac mc cc)) ∧ w1.heap[tb]? = some (trow K N S (.slice ua m uc)) ∧ Below B base w1 ∧ w1.ownsRow (tb + 1) 29 4 (.slice ua m uc) m ys ∧
    ∀ g3 c3 w3, w3.ownsRow (tb + 1) 29 4 (.slice (some ⟨g3, 0, none⟩) (m + 1) c3) (m + 1) (ys ++ [.int .i64 kc, .int .i64 nc, .string nmc, .slice ac mc cc]) →
      (w1.alloc (.cells #[.int .i64 kc, .int .i64 nc, .string nmc, .slice ac mc cc] 29)).grownBy w3 (Value.slice ua m uc).ownBlock → ((Value.slice ua m uc).ownBlock = some g3 ∨ g3 = (w1.alloc (.cells #[.int .i64 kc, .int .i64 nc, .string nmc, .slice ac mc cc] 29)).heap.size) →
      w3.heap[tb]? = some (trow K N S (.slice ua m uc)) ∧ OutR B tb H K N S (some ⟨g3, 0, none⟩) (m + 1) c3 (txs ++ [t]) base (w3.setCell ⟨tb, 3, none⟩ (.slice (some ⟨g3, 0, none⟩) (m + 1) c3))

theorem got_e {B tb H H1 : Nat} {K N : Int} {S : ByteArray} {ua : Option Addr} {m uc : Nat} {txs : List T} {t : T} {base wr w1 : World} {e : Ending} (hH : H1 = H + 1) (o : OutR B tb H1 K N S ua m uc txs base wr) (hB : B ≤ tb) (hml : m + 1 ≤ maxLen) (h : CopyR H t wr.drew e w1) : GotE B tb H1 K N S ua m uc txs t base e w1 := by
  subst hH
  obtain ⟨kc, nc, nmc, u, xc, rfl, rfl, hsz, hoc, hb0⟩ := h
  obtain ⟨ac, cc, rfl⟩ := hoc.slice
  have hb1 : Below wr.heap.size wr w1 := bel_drew hb0
  have htb : tb < wr.heap.size := (Array.getElem?_eq_some_iff.1 o.box).1
  have hz1 := hb1.size
  have hBr : B ≤ wr.heap.size := by omega
  have ho1 : OwnR (fun _ => True) w1 (H + 1) (tb + 1) wr.heap.size (.slice ua m uc) txs := o.row.keep fun b _ _ b2 => ⟨hb1.block b b2, trivial⟩
  obtain ⟨ys, hys, hyl, hstep⟩ := ho1.row (Nat.le_refl _) o.nil hz1 (by omega) (by rw [← o.len]; exact hml)
  rw [← o.len] at hys hstep
  have hBw : Below B base w1 := o.bel.trans (hb1.mono hBr)
  refine ⟨kc, nc, nmc, ac, xc.length, cc, ys, rfl, (hb1.block tb htb).trans o.box, hBw, hys, fun g3 c3 w3 ho3 hg3 ha3 => ?_⟩
  have hza : (w1.alloc (.cells #[.int .i64 kc, .int .i64 nc, .string nmc, .slice ac xc.length cc] 29)).heap.size = w1.heap.size + 1 := by simp
  have hgz := hg3.size
  rw [hza] at hgz ha3
  have hne : some tb ≠ (Value.slice ua m uc).ownBlock := fun e => by have := (hyl tb e.symm).1; omega
  have hbx3 : w3.heap[tb]? = some (trow K N S (.slice ua m uc)) := (hg3.block tb (by omega) hne).trans ((Below.heap_alloc _ _ _ (by omega)).trans ((hb1.block tb htb).trans o.box))
  refine ⟨hbx3, ?_⟩
  have hsn : Snoc (tb + 1) w1 (.slice ua m uc) m ys [.int .i64 kc, .int .i64 nc, .string nmc, .slice ac xc.length cc] w3 (.slice (some ⟨g3, 0, none⟩) (m + 1) c3) := by
    refine ⟨by omega, fun b hb hno => (hg3.block b (by omega) hno).trans (Below.heap_alloc _ _ _ hb), ho3, ?_⟩
    rcases ha3 with h | h
    · exact Or.inl (by rw [h]; rfl)
    · exact Or.inr ⟨g3, rfl, by omega⟩
  have hrow := hstep w3 _ kc nc nmc (.slice ac xc.length cc) xc wr.heap.size w1.heap.size hsn hsz (by omega) (Nat.le_refl _) (Nat.le_refl _) hoc
  refine ⟨?_, ?_, fun e => by simp at e, by rw [List.length_append, List.length_singleton, o.len], ?_⟩
  · exact heap_set_at' hbx3 3 _
  · have hz : (w3.setCell ⟨tb, 3, none⟩ (.slice (some ⟨g3, 0, none⟩) (m + 1) c3)).heap.size = w3.heap.size := by simp [World.setCell]
    rw [hz]
    exact hrow.keep fun b _ h1 _ => ⟨Below.heap_setCell _ _ _ _ (fun e => by simp at e; omega), trivial⟩
  · exact Below.setCell ((hBw.alloc (by omega) _).grown hg3 (by omega) (fun k hk => by have := (hyl k hk).1; omega)) hB _

/-- A copy, put into the result's box b. -/
theorem copy_fin2 {w wr : World} {b B : Nat} {k n : Int} {s : ByteArray} {u : Value} {h : Nat} {xs : List T} (hs : s.size ≤ maxLen) (ho : OwnR (fun _ => True) wr h B wr.heap.size u xs) (hb : Below w.heap.size w wr) (h1 : w.heap.size ≤ b) (h2 : b < B) (v0 v1 v2 v3 : Value) :
    CopyR h (.node k n s xs) w (.returned (tv k n s u)) ((((wr.setCell ⟨b, 0, none⟩ v0).setCell ⟨b, 1, none⟩ v1).setCell ⟨b, 2, none⟩ v2).setCell ⟨b, 3, none⟩ v3) := by
  have st : ∀ (W : World) (j : Nat) (v : Value), OwnR (fun _ => True) W h B wr.heap.size u xs → OwnR (fun _ => True) (W.setCell ⟨b, j, none⟩ v) h B wr.heap.size u xs := fun W j v o =>
    o.keep fun b' _ h1 _ => ⟨Below.heap_setCell _ _ _ _ (fun e => by simp at e; omega), trivial⟩
  refine ⟨k, n, s, u, xs, rfl, rfl, hs, (st _ _ _ (st _ _ _ (st _ _ _ (st _ _ _ ho)))).wide (by omega) (by simp [World.setCell]), ?_⟩
  exact (((hb.setCell h1 _).setCell h1 _).setCell h1 _).setCell h1 _

def RenAt (x : ByteArray) (h : Nat) : Prop := ∀ (v : Value) (t : T) (lo : Nat) (w : World), TermAt w lo h v t → wT t ≤ 1048576 → Calls Try.prog 27 #[v, .string x] w (CopyR h (mapT (fun _ => none) (fun s => s ++ x) t) w)

set_option maxRecDepth 100000 in
set_option maxHeartbeats 3200000 in
theorem ren_step (x : ByteArray) (hx : x.size ≤ 1048576) (h : Nat) (IH : ∀ h', h = h' + 1 → RenAt x h') : RenAt x h := by
  intro v t lo w ht hw
  obtain ⟨k, n, s, u, xs, rfl, rfl, hs, ha⟩ := ht
  obtain ⟨a, cap, rfl⟩ := ha.slice
  obtain ⟨i0, hi, hz0, hz1, hz2⟩ := info_parts infoTermD
  have HI := Lib.hid hi; clear hi
  have HZ0 := Lib.hid hz0; clear hz0
  have HZ1 := Lib.hid hz1; clear hz1
  have HZ2 := Lib.hid hz2; clear hz2
  have HA := Lib.hid ha; clear ha
  have HW : Hid (xs.length + wS xs ≤ 1048576) := Lib.hid (by rw [wT_node] at hw; omega)
  have hsz : s.size ≤ 1048576 := by rw [wT_node] at hw; omega
  have hzz : ¬ 9223372036854775807 < s.size + x.size := by omega
  have HIH := Lib.hid IH; clear IH hw hs
  obtain ⟨m, hm⟩ : ∃ m, m = xs.length := ⟨_, rfl⟩
  have hml : m ≤ 1048576 := by have := HW.out; omega
  rw [← hm] at HA ⊢
  have HM := Lib.hid hm; clear hm
  by_cases hk1 : k = 1
  · subst hk1
    have HF : Hid (mapT (fun _ => none) (fun s => s ++ x) (.node 1 n s xs) = .node 1 n (s ++ x) (xs.map (mapT (fun _ => none) (fun s => s ++ x)))) := Lib.hid (by rw [mapT_node, if_pos rfl])
    have HSS : Hid ((s ++ x).size ≤ maxLen) := Lib.hid (by simp [maxLen]; omega)
    obtain ⟨W0, hW0⟩ : ∃ W0, W0 = ((boxed w 1 n s (.slice a m cap)).alloc (.cells #[.int .i64 0, .int .i64 0, .string ⟨#[]⟩, .slice none 0 0] 29)).alloc (.cells #[.int .i64 1, .int .i64 n, .string (s ++ x), .slice none 0 0] 29) := ⟨_, rfl⟩
    have HBW0 : Hid (Below w.heap.size w W0) := Lib.hid (by rw [hW0]; exact ((boxed_below w 1 n s _).alloc (by simp) _).alloc (by simp; omega) _)
    have HRR : Hid (W0.heap[w.heap.size + 0]? = some (.cells #[.int .i64 1, .int .i64 n, .string s, .slice a m cap] 29 (0, 0)) ∧ W0.heap[w.heap.size + 1]? = some (trow 0 0 ByteArray.empty (.slice none 0 0))) := Lib.hid ⟨by
      rw [hW0, Below.heap_alloc _ _ _ (by simp; omega), Below.heap_alloc _ _ _ (by simp)]; exact heap_new w _ rfl, by
      rw [hW0, Below.heap_alloc _ _ _ (by simp)]; exact heap_new _ _ (by simp)⟩
    have HRB : Hid (W0.heap[w.heap.size + 2]? = some (trow 1 n (s ++ x) (.slice none 0 0))) := Lib.hid (by rw [hW0]; exact heap_new _ _ (by simp))
    unfold boxed at hW0
    go_enter Try.func27, Try.ntmps27
    go_upto_region 4 with fail
    have hs0 : W0.heap.size = w.heap.size + 2 + 1 := by rw [hW0]; simp
    have hB0 : Below w.heap.size w W0 := HBW0.out
    have HB0 := Lib.hid hB0
    have HS0 := Lib.hid hs0
    have HR0 : Hid (OutR (w.heap.size + 2) (w.heap.size + 2) (h) 1 n (s ++ x) none 0 0 [] W0 W0) := Lib.hid ⟨HRB.out, OwnR.nil _ _ _ _ _ _ _, fun _ => rfl, rfl, Below.refl _ _⟩
    clear hs0 hB0
    rw [← hW0]
    clear hW0
    go_wp2
    go_loopw [6] (fun i wr => ∃ (j : Nat) (ua : Option Addr) (uc : Nat), j ≤ m ∧ i = .int .i64 j ∧ Hid (OutR (w.heap.size + 2) (w.heap.size + 2) (h) 1 n (s ++ x) ua j uc ((xs.take j).map (mapT (fun _ => none) (fun s => s ++ x))) W0 wr)) (fun i _ => m - (intOf i).toNat)
    case atStart => exact ⟨0, none, 0, Nat.zero_le _, rfl, HR0⟩
    case round =>
      clear HR0
      obtain ⟨j, ua, uc, hj, rfl, HO⟩ := hrel
      have hbl := HO.out.bel
      have q0 := (hbl.block (w.heap.size + 0) (by omega)).trans HRR.out.1
      have q1 := (hbl.block (w.heap.size + 1) (by omega)).trans HRR.out.2
      have c3 := cell_of_row wr (w.heap.size + 0) 3 _ _ _ q0
      simp at c3
      obtain ⟨⟨t0, t1, t2, t3⟩, p0, p1, p2, p3⟩ := cells_of4 HO.out.box
      have hzr : w.heap.size + 2 < wr.heap.size := (Array.getElem?_eq_some_iff.1 HO.out.box).1
      have HQ := Lib.hid (And.intro q0 q1); clear q0 q1
      by_cases hlt : j < m
      · obtain ⟨y, hy⟩ : ∃ y, xs[j]? = some y := ⟨_, List.getElem?_eq_getElem (by have := HM.out; omega)⟩
        obtain ⟨h', b, o, tk', tn, tsn, txs, u', e, rfl, rfl, hszy, e0, e1, e2, e3, har⟩ := HA.out.at hy
        obtain ⟨va, vc, rfl⟩ := har.slice
        have hbw : Below w.heap.size w wr := HB0.out.trans (hbl.mono (by omega))
        have d0 := cell_on hbw e0
        have d1 := cell_on hbw e1
        have d2 := cell_on hbw e2
        have d3 := cell_on hbw e3
        have hwt := wT_at xs j _ hy
        have HCALL := Lib.hid (HIH.out h' e _ _ lo wr.drew ⟨tk', tn, tsn, _, txs, rfl, rfl, hszy, har.below hbw.drew⟩ (by have := HW.out; omega))
        have hml1 : j + 1 ≤ maxLen := by unfold maxLen; omega
        have HAFT := Lib.hid (fun (e' : Ending) (w1 : World) (q : CopyR _ ((mapT (fun _ => none) (fun s => s ++ x)) (.node tk' tn tsn txs)) wr.drew e' w1) => got_e e HO.out (Nat.le_refl _) hml1 q)
        have HTK : Hid ((xs.take (j + 1)).map (mapT (fun _ => none) (fun s => s ++ x)) = (xs.take j).map (mapT (fun _ => none) (fun s => s ++ x)) ++ [(mapT (fun _ => none) (fun s => s ++ x)) (.node tk' tn tsn txs)]) := Lib.hid (by rw [tk xs j _ hy, List.map_append]; rfl)
        have HML : Hid (j + 1 ≤ 2097152) := Lib.hid (by omega)
        clear hwt har hszy e e0 e1 e2 e3 hy hbw hml1
        go_wp2
        go_region_law (first
          | (refine step_append_lies _ rfl (.tmp 30) (.tmp 38) 27 rfl (w.heap.size + 2 + 1) 29 i0 (.agg #[.int .i64 0, .int .i64 0, .string ByteArray.empty, .slice none 0 0]) 4 56 Try.underlying27 HI.out HZ0.out HZ1.out HZ2.out rfl (by decide) (.slice ua j uc) j ys rfl HYS.out ⟨w1.heap.size, 0, none⟩ 1 1 [.int .i64 kc, .int .i64 nc, .string nmc, .slice ac mc cc] rfl rfl HNEW.out (by intro u hu; simp at hu; rcases hu with rfl | rfl | rfl | rfl <;> rfl) (by decide) (by have := HML.out; unfold maxLen; omega) (by have := HML.out; omega) HLO.out _ rfl ?_; intro g3 c3' w3 ho3 hg3 ha3 hl3; obtain ⟨htb3, hgot3⟩ := HGOT.out g3 c3' w3 ho3 hg3 ha3; obtain ⟨⟨q0', q1', q2', q3'⟩, r0', r1', r2', r3'⟩ := cells_of4 htb3; have HGOT3 := Lib.hid hgot3; clear ho3 hg3 ha3 hl3 htb3 hgot3)
          | (go_simp; go_at_call 27; refine HCALL.out.mono ?_; intro e' w1 hte; obtain ⟨kc, nc, nmc, ac, mc, cc, ys, rfl, hkt, hbc, hys, hgot⟩ := HAFT.out e' w1 hte; clear hte; obtain ⟨⟨q0, q1, q2, q3⟩, r0, r1, r2, r3⟩ := cells_of4 hkt; have q3a := cell_on ((Below.refl _ _).alloc (Nat.le_refl w1.heap.size) (.cells #[.int .i64 kc, .int .i64 nc, .string nmc, .slice ac mc cc] 29)) q3; have HYS := Lib.hid (hys.alloc (.cells #[.int .i64 kc, .int .i64 nc, .string nmc, .slice ac mc cc] 29)); have HGOT := Lib.hid hgot; have HLO : Hid (w.heap.size + 2 + 1 ≤ (w1.alloc (.cells #[.int .i64 kc, .int .i64 nc, .string nmc, .slice ac mc cc] 29)).heap.size) := Lib.hid (by have h1 := hbc.size; have h2 := HS0.out; simp; omega); have HNEW := Lib.hid (news4' w1 (.int .i64 kc) (.int .i64 nc) (.string nmc) (.slice ac mc cc) 29 rfl); clear hkt hys hgot hbc))
        all_goals go_wp2
        all_goals go_roundw
        all_goals first
          | exact ⟨j + 1, _, _, by omega, by go_num, by rw [HTK.out]; exact HGOT3⟩
          | (simp [intOf]; omega)
      · have hjm : j = m := by omega
        subst hjm
        obtain ⟨⟨z0, z1, z2, z3⟩, y0, y1, y2, y3⟩ := cells_of4 HQ.out.2
        have HFI := Lib.hid (fun v0 v1 v2 v3 => copy_fin2 (b := w.heap.size + 1) (k := 1) (n := n) (v0 := v0) (v1 := v1) (v2 := v2) (v3 := v3) HSS.out HO.out.row (HB0.out.trans (HO.out.bel.mono (by omega))) (by omega) (by omega))
        have HT : Hid (xs.take j = xs) := Lib.hid (List.take_of_length_le (by have := HM.out; omega))
        rw [HT.out] at HFI
        clear hlt
        go_wp2
        (try simp only [Exit.inBlock, Exit.then])
        refine bodyPost_ret (v := tv 1 n (s ++ x) (.slice ua j uc)) ?hr2Rs rfl ?_
        case hr2Rs =>
          rw [results_cell (a := 4) (t := 29) (ad := ⟨w.heap.size + 1, 0, none⟩) rfl rfl]
          go_simp
        rw [HF.out]
        exact HFI.out _ _ _ _
  · have hkb : (k == 1) = false := by simpa using hk1
    have HF : Hid (mapT (fun _ => none) (fun s => s ++ x) (.node k n s xs) = .node k n s (xs.map (mapT (fun _ => none) (fun s => s ++ x)))) := Lib.hid (by rw [mapT_node, if_neg hk1])
    have HSS : Hid (s.size ≤ maxLen) := Lib.hid (by unfold maxLen; omega)
    clear hk1
    obtain ⟨W0, hW0⟩ : ∃ W0, W0 = ((boxed w k n s (.slice a m cap)).alloc (.cells #[.int .i64 0, .int .i64 0, .string ⟨#[]⟩, .slice none 0 0] 29)).alloc (.cells #[.int .i64 k, .int .i64 n, .string s, .slice none 0 0] 29) := ⟨_, rfl⟩
    have HBW0 : Hid (Below w.heap.size w W0) := Lib.hid (by rw [hW0]; exact ((boxed_below w k n s _).alloc (by simp) _).alloc (by simp; omega) _)
    have HRR : Hid (W0.heap[w.heap.size + 0]? = some (.cells #[.int .i64 k, .int .i64 n, .string s, .slice a m cap] 29 (0, 0)) ∧ W0.heap[w.heap.size + 1]? = some (trow 0 0 ByteArray.empty (.slice none 0 0))) := Lib.hid ⟨by
      rw [hW0, Below.heap_alloc _ _ _ (by simp; omega), Below.heap_alloc _ _ _ (by simp)]; exact heap_new w _ rfl, by
      rw [hW0, Below.heap_alloc _ _ _ (by simp)]; exact heap_new _ _ (by simp)⟩
    have HRB : Hid (W0.heap[w.heap.size + 2]? = some (trow k n s (.slice none 0 0))) := Lib.hid (by rw [hW0]; exact heap_new _ _ (by simp))
    unfold boxed at hW0
    go_enter Try.func27, Try.ntmps27
    go_upto_region 4 with fail
    have hs0 : W0.heap.size = w.heap.size + 2 + 1 := by rw [hW0]; simp
    have hB0 : Below w.heap.size w W0 := HBW0.out
    have HB0 := Lib.hid hB0
    have HS0 := Lib.hid hs0
    have HR0 : Hid (OutR (w.heap.size + 2) (w.heap.size + 2) (h) k n s none 0 0 [] W0 W0) := Lib.hid ⟨HRB.out, OwnR.nil _ _ _ _ _ _ _, fun _ => rfl, rfl, Below.refl _ _⟩
    clear hs0 hB0
    rw [← hW0]
    clear hW0
    go_wp2
    go_loopw [6] (fun i wr => ∃ (j : Nat) (ua : Option Addr) (uc : Nat), j ≤ m ∧ i = .int .i64 j ∧ Hid (OutR (w.heap.size + 2) (w.heap.size + 2) (h) k n s ua j uc ((xs.take j).map (mapT (fun _ => none) (fun s => s ++ x))) W0 wr)) (fun i _ => m - (intOf i).toNat)
    case atStart => exact ⟨0, none, 0, Nat.zero_le _, rfl, HR0⟩
    case round =>
      clear HR0
      obtain ⟨j, ua, uc, hj, rfl, HO⟩ := hrel
      have hbl := HO.out.bel
      have q0 := (hbl.block (w.heap.size + 0) (by omega)).trans HRR.out.1
      have q1 := (hbl.block (w.heap.size + 1) (by omega)).trans HRR.out.2
      have c3 := cell_of_row wr (w.heap.size + 0) 3 _ _ _ q0
      simp at c3
      obtain ⟨⟨t0, t1, t2, t3⟩, p0, p1, p2, p3⟩ := cells_of4 HO.out.box
      have hzr : w.heap.size + 2 < wr.heap.size := (Array.getElem?_eq_some_iff.1 HO.out.box).1
      have HQ := Lib.hid (And.intro q0 q1); clear q0 q1
      by_cases hlt : j < m
      · obtain ⟨y, hy⟩ : ∃ y, xs[j]? = some y := ⟨_, List.getElem?_eq_getElem (by have := HM.out; omega)⟩
        obtain ⟨h', b, o, tk', tn, tsn, txs, u', e, rfl, rfl, hszy, e0, e1, e2, e3, har⟩ := HA.out.at hy
        obtain ⟨va, vc, rfl⟩ := har.slice
        have hbw : Below w.heap.size w wr := HB0.out.trans (hbl.mono (by omega))
        have d0 := cell_on hbw e0
        have d1 := cell_on hbw e1
        have d2 := cell_on hbw e2
        have d3 := cell_on hbw e3
        have hwt := wT_at xs j _ hy
        have HCALL := Lib.hid (HIH.out h' e _ _ lo wr.drew ⟨tk', tn, tsn, _, txs, rfl, rfl, hszy, har.below hbw.drew⟩ (by have := HW.out; omega))
        have hml1 : j + 1 ≤ maxLen := by unfold maxLen; omega
        have HAFT := Lib.hid (fun (e' : Ending) (w1 : World) (q : CopyR _ ((mapT (fun _ => none) (fun s => s ++ x)) (.node tk' tn tsn txs)) wr.drew e' w1) => got_e e HO.out (Nat.le_refl _) hml1 q)
        have HTK : Hid ((xs.take (j + 1)).map (mapT (fun _ => none) (fun s => s ++ x)) = (xs.take j).map (mapT (fun _ => none) (fun s => s ++ x)) ++ [(mapT (fun _ => none) (fun s => s ++ x)) (.node tk' tn tsn txs)]) := Lib.hid (by rw [tk xs j _ hy, List.map_append]; rfl)
        have HML : Hid (j + 1 ≤ 2097152) := Lib.hid (by omega)
        clear hwt har hszy e e0 e1 e2 e3 hy hbw hml1
        go_wp2
        go_region_law (first
          | (refine step_append_lies _ rfl (.tmp 30) (.tmp 38) 27 rfl (w.heap.size + 2 + 1) 29 i0 (.agg #[.int .i64 0, .int .i64 0, .string ByteArray.empty, .slice none 0 0]) 4 56 Try.underlying27 HI.out HZ0.out HZ1.out HZ2.out rfl (by decide) (.slice ua j uc) j ys rfl HYS.out ⟨w1.heap.size, 0, none⟩ 1 1 [.int .i64 kc, .int .i64 nc, .string nmc, .slice ac mc cc] rfl rfl HNEW.out (by intro u hu; simp at hu; rcases hu with rfl | rfl | rfl | rfl <;> rfl) (by decide) (by have := HML.out; unfold maxLen; omega) (by have := HML.out; omega) HLO.out _ rfl ?_; intro g3 c3' w3 ho3 hg3 ha3 hl3; obtain ⟨htb3, hgot3⟩ := HGOT.out g3 c3' w3 ho3 hg3 ha3; obtain ⟨⟨q0', q1', q2', q3'⟩, r0', r1', r2', r3'⟩ := cells_of4 htb3; have HGOT3 := Lib.hid hgot3; clear ho3 hg3 ha3 hl3 htb3 hgot3)
          | (go_simp; go_at_call 27; refine HCALL.out.mono ?_; intro e' w1 hte; obtain ⟨kc, nc, nmc, ac, mc, cc, ys, rfl, hkt, hbc, hys, hgot⟩ := HAFT.out e' w1 hte; clear hte; obtain ⟨⟨q0, q1, q2, q3⟩, r0, r1, r2, r3⟩ := cells_of4 hkt; have q3a := cell_on ((Below.refl _ _).alloc (Nat.le_refl w1.heap.size) (.cells #[.int .i64 kc, .int .i64 nc, .string nmc, .slice ac mc cc] 29)) q3; have HYS := Lib.hid (hys.alloc (.cells #[.int .i64 kc, .int .i64 nc, .string nmc, .slice ac mc cc] 29)); have HGOT := Lib.hid hgot; have HLO : Hid (w.heap.size + 2 + 1 ≤ (w1.alloc (.cells #[.int .i64 kc, .int .i64 nc, .string nmc, .slice ac mc cc] 29)).heap.size) := Lib.hid (by have h1 := hbc.size; have h2 := HS0.out; simp; omega); have HNEW := Lib.hid (news4' w1 (.int .i64 kc) (.int .i64 nc) (.string nmc) (.slice ac mc cc) 29 rfl); clear hkt hys hgot hbc))
        all_goals go_wp2
        all_goals go_roundw
        all_goals first
          | exact ⟨j + 1, _, _, by omega, by go_num, by rw [HTK.out]; exact HGOT3⟩
          | (simp [intOf]; omega)
      · have hjm : j = m := by omega
        subst hjm
        obtain ⟨⟨z0, z1, z2, z3⟩, y0, y1, y2, y3⟩ := cells_of4 HQ.out.2
        have HFI := Lib.hid (fun v0 v1 v2 v3 => copy_fin2 (b := w.heap.size + 1) (k := k) (n := n) (v0 := v0) (v1 := v1) (v2 := v2) (v3 := v3) HSS.out HO.out.row (HB0.out.trans (HO.out.bel.mono (by omega))) (by omega) (by omega))
        have HT : Hid (xs.take j = xs) := Lib.hid (List.take_of_length_le (by have := HM.out; omega))
        rw [HT.out] at HFI
        clear hlt
        go_wp2
        (try simp only [Exit.inBlock, Exit.then])
        refine bodyPost_ret (v := tv k n s (.slice ua j uc)) ?hr2Rn rfl ?_
        case hr2Rn =>
          rw [results_cell (a := 4) (t := 29) (ad := ⟨w.heap.size + 1, 0, none⟩) rfl rfl]
          go_simp
        rw [HF.out]
        exact HFI.out _ _ _ _

theorem sRen_any (x : ByteArray) (hx : x.size ≤ 1048576) (h : Nat) : RenAt x h := by_height (ren_step x hx) h
end Go.Proofs.Yteelakhaaipebaa
