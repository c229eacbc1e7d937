/-
  impl.ownNodes gives every node below a term a row of the call's own, and lists the nodes level by level.
-/
import Derived.Test.YtidbokheeieifaaQ18
import Derived.Test.YtidbokheeieifaaQ7
namespace Go.Proofs.Ytidbokheeieifaa
open Go.RowKit

/-- What ownNodes leaves. -/
def NodesE (w0 : World) (h b0 : Nat) (t : T) (w : World) (e : Ending) (w' : World) : Prop :=
  ∃ (L : Lay) (N : Nat) (v : Value), e = .returned v ∧ LayAt w0 h w0.heap.size L N N w' ∧ (1 ≤ N ∧ N ≤ cT t) ∧ (L.b 0 = b0 ∧ L.o 0 = 0 ∧ L.V 0 = t) ∧ w'.ownsRow w.heap.size 94 1 v N (ptrs L N) ∧ (∀ i, i < N → NotOwn v (L.b i)) ∧
    (∀ b, b < w.heap.size → b ≠ b0 → w'.heap[b]? = w.heap[b]?) ∧ (∀ i, 0 < i → i < N → w.heap.size ≤ L.b i) ∧ Below w0.heap.size w w' ∧ LayOwn w.heap.size L N N w'

theorem start_lay {w0 w : World} {b0 B h : Nat} {t : T} {u : Value} (hn : NodeAt w b0 0 t u) (hB : B ≤ b0) (ha : ArgsAt w0 0 h u (kT t)) (o : Obj) :
    LayAt w0 h B ⟨fun _ => b0, fun _ => 0, fun _ => t, fun _ => 0, fun _ => 0, fun _ => u⟩ 1 0 (w.alloc o) :=
  ⟨fun i hi => ⟨hn.keep (Below.heap_alloc _ _ _ hn.lt), hB⟩, fun i hi => by omega, fun i _ _ => ha, fun i hi => by omega, fun i j h1 h2 => by omega⟩

set_option maxRecDepth 100000 in
set_option maxHeartbeats 6400000 in
theorem ownNodes_any (b0 h : Nat) (t : T) (u : Value) (w0 w : World) (hn : NodeAt w b0 0 t u) (hB : w0.heap.size ≤ b0) (hbw : Below w0.heap.size w0 w) (ha : ArgsAt w0 0 h u (kT t)) (hw : cT t ≤ 4294967296) :
    Calls Try.prog 58 #[.pointer (some ⟨b0, 0, none⟩)] w (NodesE w0 h b0 t w) := by
  obtain ⟨i0, hi, hz0, hz1, hz2⟩ := info_parts infoPtr
  have HI := Lib.hid hi; clear hi
  have HZ0 := Lib.hid hz0; clear hz0
  have HZ1 := Lib.hid hz1; clear hz1
  have HZ2 := Lib.hid hz2; clear hz2
  have hbl := hn.lt
  obtain ⟨W0, hW0⟩ : ∃ W0, W0 = w.alloc (.cells #[.pointer (some ⟨b0, 0, none⟩)] 94) := ⟨_, rfl⟩
  obtain ⟨L0, hL0⟩ : ∃ L : Lay, L = ⟨fun _ => b0, fun _ => 0, fun _ => t, fun _ => 0, fun _ => 0, fun _ => u⟩ := ⟨_, rfl⟩
  have hlay : LayAt w0 h w0.heap.size L0 1 0 W0 := by rw [hW0, hL0]; exact start_lay hn hB ha _
  have ho0 : W0.ownsRow w.heap.size 94 1 (.slice (some ⟨w.heap.size, 0, none⟩) 1 1) 1 (ptrs L0 1) := by
    rw [hW0, hL0]
    exact World.ownsRow_lit (base := w.heap.size) (size := 1) (e := 94) w #[.pointer (some ⟨b0, 0, none⟩)] 1 (Nat.le_refl _) (by decide) rfl
  have HST : Hid (LayAt w0 h w0.heap.size L0 1 0 W0 ∧ (L0.b 0 = b0 ∧ L0.o 0 = 0 ∧ L0.V 0 = t) ∧ W0.ownsRow w.heap.size 94 1 (.slice (some ⟨w.heap.size, 0, none⟩) 1 1) 1 (ptrs L0 1) ∧ (∀ i, i < 1 → NotOwn (.slice (some ⟨w.heap.size, 0, none⟩) 1 1) (L0.b i)) ∧
      (∀ b, b < w.heap.size → b ≠ b0 → W0.heap[b]? = w.heap[b]?) ∧ (∀ i, 0 < i → i < 1 → w.heap.size ≤ L0.b i) ∧ Below w0.heap.size w W0 ∧ 0 + remS L0.V 0 1 = cT t) := Lib.hid ⟨hlay, by rw [hL0]; exact ⟨rfl, rfl, rfl⟩, ho0, fun i hi e => by
        rw [hL0] at e; simp [Value.ownBlock] at e; omega, fun b hb _ => by rw [hW0]; exact Below.heap_alloc _ _ _ hb, fun i h1 h2 => by omega, by rw [hW0]; exact (Below.refl _ _).alloc (by omega) _, by rw [hL0]; simp [remS]⟩
  have HWT := Lib.hid hw
  have HBL := Lib.hid (And.intro hbl (And.intro hB hbw))
  have hzz : W0.heap.size = w.heap.size + 1 := by rw [hW0]; simp
  have HZZ := Lib.hid hzz
  clear hn hB hbw ha hw hbl hlay ho0 hL0 hzz
  go_enter Try.func58, Try.ntmps58
  go_wp2
  rw [← hW0]
  clear hW0
  go_loopw [3, 4] (fun v i wr => ∃ (L : Lay) (N q : Nat), q ≤ N ∧ i = .int .i64 q ∧ Hid (LayAt w0 h w0.heap.size L N q wr) ∧ Hid (L.b 0 = b0 ∧ L.o 0 = 0 ∧ L.V 0 = t ∧ 1 ≤ N) ∧ Hid (wr.ownsRow w.heap.size 94 1 v N (ptrs L N)) ∧ Hid (∀ i, i < N → NotOwn v (L.b i)) ∧
    Hid (∀ b, b < w.heap.size → b ≠ b0 → wr.heap[b]? = w.heap[b]?) ∧ Hid (∀ i, 0 < i → i < N → w.heap.size ≤ L.b i) ∧ Hid (Below w0.heap.size w wr ∧ w.heap.size + 1 ≤ wr.heap.size) ∧ Hid (q + remS L.V q (N - q) = cT t) ∧ Hid (LayOwn w.heap.size L N q wr)) (fun _ i _ => cT t - (intOf i).toNat)
  case atStart => exact ⟨L0, 1, 0, by omega, rfl, Lib.hid HST.out.1, Lib.hid ⟨HST.out.2.1.1, HST.out.2.1.2.1, HST.out.2.1.2.2, Nat.le_refl _⟩, Lib.hid HST.out.2.2.1, Lib.hid HST.out.2.2.2.1, Lib.hid HST.out.2.2.2.2.1, Lib.hid HST.out.2.2.2.2.2.1, Lib.hid ⟨HST.out.2.2.2.2.2.2.1, by rw [HZZ.out]; exact Nat.le_refl _⟩, Lib.hid HST.out.2.2.2.2.2.2.2, Lib.hid (LayOwn.start _ _ _)⟩
  case round =>
    clear HST HZZ
    obtain ⟨L, N, q, hqN, rfl, HL, HS, HO, HNO, HOLD, HGE, HB, HREM, HLO⟩ := hrel
    obtain ⟨wo, rfl⟩ : ∃ x, x = wr := ⟨wr, rfl⟩
    have hvl := HO.out.lt
    obtain ⟨av, cv, rfl⟩ := own_formK HO.out
    by_cases hlt : q < N
    · have hrge := remS_ge L.V q (N - q)
      have hN32 : N ≤ 4294967296 := by have := HREM.out; have := HWT.out; omega
      obtain ⟨gv0, rfl, hcv⟩ : ∃ g, av = some ⟨g, 0, none⟩ ∧ N ≤ cv := by
        rcases HO.out.2 with ⟨e1, h0⟩ | ⟨g, c, cur, e1, hb, hg, hc, _⟩
        · omega
        · cases e1; exact ⟨g, rfl, hc⟩
      have hcp : wo.cell? ⟨gv0, q, none⟩ = some (.pointer (some ⟨L.b q, L.o q, none⟩)) := by
        rw [HO.out.cellAt q (by omega)]; exact ptrs_at L N q hlt
      obtain ⟨⟨k, n, s, xs, hV, hs, e0, e1, e2, e3, f0, f1, f2, f3⟩, hBq⟩ := HL.out.at_ q hlt
      have hold := HL.out.old q (Nat.le_refl _) hlt
      have hkV : kT (L.V q) = xs := by rw [hV]; rfl
      rw [hkV] at hold
      obtain ⟨pa, pc, hsl⟩ := hold.slice
      rw [hsl] at e3 hold
      obtain ⟨vs, hrow, hnone, hcells, hh0⟩ := args_row hold
      have hvs := hrow.len
      have hone := hrow.one
      have hremq : remS L.V q (N - q) = 1 + cS xs + remS L.V (q + 1) (N - (q + 1)) := by
        rw [show N - q = (N - (q + 1)) + 1 by omega, remS_first, hV, cT_node]
      have hcx := len_le_cS xs
      have hxl : xs.length ≤ 4294967296 := by have := HREM.out; have := HWT.out; omega
      have hBW : Below w0.heap.size w0 wo := HBL.out.2.2.trans HB.out.1
      have hql := HL.out.lt hlt
      have HCALL := Lib.hid (ownArgs_anyK (L.b q) (L.o q) pa xs.length pc vs wo hvs hxl hnone (fun ad e j u hu => by
        have h1 := hcells ad e j u hu
        rw [hBW.cell (World.block_lt_of_cell? w0 _ h1)]; exact h1) hone e3 f3)
      have HNX := Lib.hid (fun (wc : World) (a1 : Option Addr) (c1 g1 : Nat) (hb : Below wo.heap.size wo wc) (ho : wc.ownsRow wo.heap.size 26 4 (.slice a1 xs.length c1) xs.length vs) (hg : xs.length = 0 ∨ a1 = some ⟨g1, 0, none⟩) => HL.out.next hlt hV hb ho hg hrow (by have := hBW.size; omega))
      have HNY := Lib.hid (fun (wc : World) (a1 : Option Addr) (c1 g1 : Nat) (hb : Below wo.heap.size wo wc) (ho : wc.ownsRow wo.heap.size 26 4 (.slice a1 xs.length c1) xs.length vs) (hg : xs.length = 0 ∨ a1 = some ⟨g1, 0, none⟩) => HLO.out.next HL.out hlt hV hb ho hg (by have := HB.out.2; omega))
      obtain ⟨m, hm⟩ : ∃ m, m = xs.length := ⟨_, rfl⟩
      have HREM2 : Hid (q + (1 + cS xs + remS L.V (q + 1) (N - (q + 1))) = cT t) := Lib.hid (by rw [← hremq]; exact HREM.out)
      have HKQ := Lib.hid hkV
      rw [← hm] at HCALL HNX HNY e3 hxl hcx
      have HM := Lib.hid hm
      have HVL := Lib.hid hvl
      have HCX := Lib.hid hcx
      have HBQ := Lib.hid (And.intro hBq hql)
      have HHE := Lib.hid (And.intro e3 f3)
      have hN64 : N + m ≤ 8589934592 := by omega
      clear hm hrow hnone hcells hh0 hvs hone hold hV hs e0 e1 e2 f0 f1 f2 f3 hremq hcx hkV hsl hrge hvl hBq HREM
      go_wp2_with fail
      refine HCALL.out.mono ?_
      rintro e w2 ⟨rfl, u1, wc, rfl, how, hbw⟩
      obtain ⟨a1, c1, rfl⟩ := own_formK how
      obtain ⟨g1, hg1⟩ : ∃ g1, m = 0 ∨ a1 = some ⟨g1, 0, none⟩ := by
        rcases how.2 with ⟨e1, h0⟩ | ⟨g, c, cur, e1, _⟩
        · exact ⟨0, Or.inl h0⟩
        · cases e1; exact ⟨g, Or.inr rfl⟩
      obtain ⟨Ln, hLn⟩ : ∃ x, x = L.next N q g1 (.slice a1 m c1) xs vs := ⟨_, rfl⟩
      have hLN := HNX.out wc a1 c1 g1 hbw how hg1
      have hLY := HNY.out wc a1 c1 g1 hbw how hg1
      rw [← hLn] at hLN hLY
      have HLY := Lib.hid hLY
      have HLN := Lib.hid hLN
      have HLA : Hid (∀ i, i < N → Ln.b i = L.b i ∧ Ln.o i = L.o i ∧ Ln.V i = L.V i) := Lib.hid (fun i hi => by rw [hLn]; simp only [Lay.next, if_pos hi]; exact ⟨trivial, trivial, trivial⟩)
      have HLB : Hid (∀ i, Ln.b (N + i) = g1 ∧ Ln.o (N + i) = i * 4 ∧ Ln.V (N + i) = (xs[i]?).getD zT) := Lib.hid (fun i => by
        have h1 : ¬ N + i < N := by omega
        rw [hLn]; simp only [Lay.next, if_neg h1, Nat.add_sub_cancel_left]; exact ⟨trivial, trivial, trivial⟩)
      clear hLn hLN hLY
      have hgl : m ≠ 0 → wo.heap.size ≤ g1 := fun h0 => by
        have e := hg1.resolve_left h0
        subst e
        exact (how.lt g1 rfl).1
      have HG1 := Lib.hid (And.intro hg1 hgl)
      obtain ⟨w1, hw1⟩ : ∃ w1, w1 = wc.setCell ⟨L.b q, L.o q + 3, none⟩ (.slice a1 m c1) := ⟨_, rfl⟩
      rw [← hw1] at HLN HLY ⊢
      have hz1 : w1.heap.size = wc.heap.size := by rw [hw1]; simp [World.setCell]
      have hwcz := hbw.size
      have d3 : w1.cell? ⟨L.b q, L.o q + 3, none⟩ = some (.slice a1 m c1) := by
        rw [hw1]
        exact World.cell?_setCell_same' _ _ _ (by rw [hbw.cell HBQ.out.2, HHE.out.1]; rfl)
      have HD3 := Lib.hid d3
      have hoth : ∀ b, b < wo.heap.size → b ≠ L.b q → w1.heap[b]? = wo.heap[b]? := fun b hb hne => by
        rw [hw1, Below.heap_setCell _ _ _ _ (fun e => hne (by simpa using e)), hbw.block b hb]
      have HOTH := Lib.hid hoth
      have hown1 : w1.ownsRow w.heap.size 94 1 (.slice (some ⟨gv0, 0, none⟩) N cv) N (ptrs L N) := by
        have hg0 := HVL.out gv0 rfl
        exact row_keep (keep_own HO.out hbw) (by rw [hw1]; exact Below.heap_setCell _ _ _ _ (fun e => by simp at e; exact HNO.out q hlt (by rw [← e]; rfl)))
      have HO1 := Lib.hid hown1
      have hb1 : Below w0.heap.size w w1 := by rw [hw1]; exact (HB.out.1.trans (hbw.mono (by have := HBL.out.2.2.size; have := HB.out.1.size; omega))).setCell HBQ.out.1 _
      have HB1 := Lib.hid hb1
      have hNX := HNO.out q hlt
      have HSZ := Lib.hid (And.intro hz1 hwcz)
      clear hown1 hw1 how hbw HCALL hg1 hgl hoth hb1 hz1 hwcz hcp e3 HNX
      have hqq : L.b q < w1.heap.size := by have := HSZ.out; have := HBQ.out; omega
      go_wp2
      go_loopw [3, 26] (fun vi i wi => ∃ j : Nat, j ≤ m ∧ i = .int .i64 j ∧ Hid (wi.ownsRow w.heap.size 94 1 vi (N + j) (ptrs Ln (N + j))) ∧ Hid (Grew (.slice (some ⟨gv0, 0, none⟩) N cv) w1 vi wi) ∧ Hid (Below w0.heap.size w wi)) (fun _ i _ => m - (intOf i).toNat)
      case atStart => exact ⟨0, Nat.zero_le _, rfl, Lib.hid (by rw [Nat.add_zero, ptrs_eq (L := L) (fun i hi => ⟨(HLA.out i hi).1, (HLA.out i hi).2.1⟩)]; exact HO1.out), Lib.hid (Grew.refl _ _ _ rfl), HB1⟩
      case round =>
        obtain ⟨j, hj, rfl, HOI, HGI, HBI⟩ := hrel
        obtain ⟨ai, ci, rfl⟩ := own_formK HOI.out
        by_cases hjm : j < m
        · obtain rfl : a1 = some ⟨g1, 0, none⟩ := HG1.out.1.resolve_left (by omega)
          have e3 : wr.cell? ⟨L.b q, L.o q + 3, none⟩ = some (.slice (some ⟨g1, 0, none⟩) m c1) := by
            rw [cell_heap (HGI.out.2.1 (L.b q) hqq hNX)]; exact HD3.out
          have hlo : w.heap.size ≤ wr.heap.size := HBI.out.size
          have HNM := Lib.hid hN64
          go_wp2_with (first | (at_builtin; refine wpList_append_lies _ rfl (.tmp 29) (.tmp 36) 93 rfl (w.heap.size) 94 i0 (.pointer none) 1 8 Try.underlying93 HI.out HZ0.out HZ1.out HZ2.out rfl (by decide) _ _ _ rfl (HOI.out.alloc _) ⟨wr.heap.size, 0, none⟩ 1 1 [.pointer (some ⟨g1, j * 4, none⟩)] ?c0 rfl ?c1 ?c2 (by decide) ?c3 ?c4 ?c5 _ rfl ?_))
          case c2 => rfl
          case c3 => have := HNM.out; unfold maxLen; omega
          case c4 => have := HNM.out; omega
          case c5 => omega
          intro g3 cap3 w3 hown hgr hat hlt3
          have HG3 := Lib.hid (HGI.out.trans (grew_app (n := N + j + 1) (cap := cap3) (o := .cells #[.pointer (some ⟨g1, j * 4, none⟩)] 94) hgr (by simpa using hat)))
          have HB3 : Hid (Below w0.heap.size w w3) := Lib.hid ((HBI.out.alloc (by have := HBL.out.2.2.size; omega) (.cells #[.pointer (some ⟨g1, j * 4, none⟩)] 94)).grown hgr (by have := HBL.out.2.2.size; simp; omega) (fun i hi => by have := (HOI.out.lt _ hi).1; have := HBL.out.2.2.size; omega))
          have HO3 : Hid (w3.ownsRow w.heap.size 94 1 (.slice (some ⟨g3, 0, none⟩) (N + j + 1) cap3) (N + j + 1) (ptrs Ln (N + j + 1))) := Lib.hid (by rw [ptrs_succ, (HLB.out j).1, (HLB.out j).2.1]; exact hown)
          clear hown hgr hat hlt3
          go_wp2
          go_roundw
          case rel => exact ⟨j + 1, by omega, by go_num, HO3, HG3, HB3⟩
          case measure => simp [intOf]; omega
        · have hjm2 : j = m := by omega
          subst hjm2
          have HKEEP : Hid (∀ i, i < N + j → wr.heap[Ln.b i]? = w1.heap[Ln.b i]? ∧ NotOwn (.slice ai (N + j) ci) (Ln.b i)) := Lib.hid (fun i hi => by
            have hlt1 : Ln.b i < w1.heap.size := HLN.out.lt (by have := HM.out; omega)
            have hno1 : NotOwn (.slice (some ⟨gv0, 0, none⟩) N cv) (Ln.b i) := by
              by_cases hin : i < N
              · rw [(HLA.out i hin).1]; exact HNO.out i hin
              · obtain ⟨d, rfl⟩ : ∃ d, i = N + d := ⟨i - N, by omega⟩
                rw [(HLB.out d).1]
                intro e
                simp [Value.ownBlock] at e
                have h1 := HG1.out.2 (by omega)
                have h2 := (HVL.out gv0 rfl).2
                omega
            exact ⟨HGI.out.2.1 _ hlt1 hno1, notOwn_old HGI.out.2.2 hlt1 hno1⟩)
          have HLAY : Hid (LayAt w0 h w0.heap.size Ln (N + j) (q + 1) wr) := Lib.hid (by
            have h1 := HLN.out.keep (w' := wr) (fun i hi => (HKEEP.out i (by have := HM.out; omega)).1)
            exact h1)
          have HLAO : Hid (LayOwn w.heap.size Ln (N + j) (q + 1) wr) := Lib.hid (by
            have h1 := HLY.out.keep (w' := wr) (fun i hi => (HKEEP.out i (by have := HM.out; omega)).1)
            exact h1)
          clear hjm
          have hjj : ¬ j < j := by omega
          go_wp2
          go_roundw
          case measure =>
            have := HREM2.out
            simp [intOf]; omega
          case rel =>
            refine ⟨Ln, N + j, q + 1, by omega, by go_num, HLAY, Lib.hid ?_, HOI, Lib.hid (fun i hi => (HKEEP.out i hi).2), Lib.hid (fun b hb hne => ?_), Lib.hid (fun i h0 hi => ?_), Lib.hid ⟨HBI.out, ?_⟩, Lib.hid ?_, HLAO⟩
            · have h0 : 0 < N := by omega
              obtain ⟨x1, x2, x3⟩ := HLA.out 0 h0
              rw [x1, x2, x3]
              exact ⟨HS.out.1, HS.out.2.1, HS.out.2.2.1, by omega⟩
            · have hbw1 : b < w1.heap.size := by have := HSZ.out; have := HB.out.2; omega
              have hgv := HVL.out gv0 rfl
              rw [HGI.out.2.1 b hbw1 (fun e => by simp [Value.ownBlock] at e; omega)]
              by_cases hbq : b = L.b q
              · by_cases hq0 : q = 0
                · subst hq0; exact absurd (hbq.trans HS.out.1) hne
                · have := HGE.out q (by omega) hlt; omega
              · rw [HOTH.out b (by have := HB.out.2; omega) hbq]
                exact HOLD.out b hb hne
            · by_cases hin : i < N
              · rw [(HLA.out i hin).1]; exact HGE.out i h0 hin
              · obtain ⟨d, rfl⟩ : ∃ d, i = N + d := ⟨i - N, by omega⟩
                rw [(HLB.out d).1]
                have := HG1.out.2 (by omega); have := HB.out.2; omega
            · have := HGI.out.1; have := HSZ.out; have := HB.out.2; omega
            · have e1 : remS Ln.V (q + 1) (N - (q + 1)) = remS L.V (q + 1) (N - (q + 1)) := remS_congr _ _ (fun i h1 h2 => (HLA.out i (by omega)).2.2)
              have e2 : remS Ln.V N j = cS (xs.take j) := remS_list _ _ xs (fun i t ht => by
                rw [(HLB.out i).2.2, ht]; rfl) j (by rw [HM.out]; exact Nat.le_refl _)
              have e3 : xs.take j = xs := List.take_of_length_le (by rw [HM.out]; exact Nat.le_refl _)
              have h1 := HREM2.out
              rw [show N + j - (q + 1) = (N - (q + 1)) + j by omega, remS_app, e1, show q + 1 + (N - (q + 1)) = N by omega, e2, e3]
              omega
    · have hqe : q = N := by omega
      subst hqe
      have HF : Hid (NodesE w0 h b0 t w (.returned (.slice av q cv)) wo) := Lib.hid ⟨L, q, _, rfl, HL.out, ⟨HS.out.2.2.2, by have := HREM.out; omega⟩, ⟨HS.out.1, HS.out.2.1, HS.out.2.2.1⟩, HO.out, HNO.out, HOLD.out, HGE.out, HB.out.1, HLO.out⟩
      clear hlt
      have hqq : ¬ q < q := by omega
      go_wp2
      go_ret
      exact HF.out
end Go.Proofs.Ytidbokheeieifaa
