/-
  impl.copyTerm: the term in memory of the call's own, all rows below it owned and apart: the walk.
-/
import Derived.Test.YtidbokheeieifaaQ10
namespace Go.Proofs.Ytidbokheeieifaa
open Go.RowKit

theorem infoPtr : (Try.prog.info? 94).map (fun i => (i.zero, i.size, i.bytes)) = some (some (.pointer none), 1, 8) := by kernel_rfl

/-- The box of the term and that of the answer, and the first list of what is to do. -/
abbrev boxC (w : World) (k n : Int) (s : ByteArray) (u : Value) : World :=
  ((boxed w k n s u).alloc (.cells #[.int .i64 0, .int .i64 0, .string ⟨#[]⟩, .slice none 0 0] 26)).alloc (.cells #[.pointer (some ⟨w.heap.size, 0, none⟩)] 94)
/-- What the box of the term holds at the end. -/
def FinC (w : World) (k n : Int) (s : ByteArray) (h : Nat) (xs : List T) (w' : World) : Prop :=
  ∃ u', w'.heap[w.heap.size]? = some (trow k n s u') ∧ OwnR (fun _ => True) w' h (w.heap.size + 2) w'.heap.size u' xs
def PbC (w : World) (b : Nat) : Prop := b = w.heap.size ∨ w.heap.size + 2 ≤ b

/-- What the cells of a row of arguments hold. -/
theorem args_row {w : World} {h pc : Nat} {pa : Option Addr} {xs : List T} (ha : ArgsAt w 0 h (.slice pa xs.length pc) xs) : ∃ vs, RowV w (h - 1) xs vs ∧ (pa = none → xs.length = 0) ∧ (∀ ad, pa = some ad → ∀ j u, vs[j]? = some u → w.cell? (ad.add j) = some u) ∧ (h = 0 → xs = []) := by
  rcases ha.cases with ⟨rfl, _⟩ | ⟨h', b, o, cap, rfl, e, _, _, hr⟩
  · exact ⟨[], rfl, (fun _ => rfl), (fun ad _ j u hu => by simp at hu), (fun _ => rfl)⟩
  · cases e
    obtain ⟨vs, h1, h2⟩ := RowV.of_row hr
    exact ⟨vs, h1, (fun e => by cases e), (fun ad e j u hu => by cases e; exact h2 j u hu), (fun e => by omega)⟩
theorem kid_rev (g h : Nat) (U : Nat → Value) (X : Nat → List T) (q : Nat) (ps : List Pd) : ((kidL g h U X (q + 1) ++ ps).reverse.map pP) = ((kidL g h U X q ++ ps).reverse.map pP) ++ [.pointer (some ⟨g, q * 4, none⟩)] := by
  simp [kidL, kid]

theorem kid_len (g h : Nat) (U : Nat → Value) (X : Nat → List T) (q : Nat) : (kidL g h U X q).length = q := by
  induction q with
  | zero => rfl
  | succ q ih => rw [kidL, List.length_cons, ih]
theorem copy_fin {w wr : World} {k n : Int} {s : ByteArray} {u : Value} {h : Nat} {xs : List T} (hs : s.size ≤ maxLen) (ho : OwnR (fun _ => True) wr h (w.heap.size + 2) wr.heap.size u xs) (hb : Below w.heap.size w wr) (v0 v1 v2 v3 : Value) :
    CopyR h (.node k n s xs) w (.returned (tv k n s u)) ((((wr.setCell ⟨w.heap.size + 1, 0, none⟩ v0).setCell ⟨w.heap.size + 1, 1, none⟩ v1).setCell ⟨w.heap.size + 1, 2, none⟩ v2).setCell ⟨w.heap.size + 1, 3, none⟩ v3) := by
  have st : ∀ (W : World) (j : Nat) (v : Value), OwnR (fun _ => True) W h (w.heap.size + 2) wr.heap.size u xs → OwnR (fun _ => True) (W.setCell ⟨w.heap.size + 1, j, none⟩ v) h (w.heap.size + 2) wr.heap.size u xs := fun W j v o =>
    o.keep fun b _ h1 _ => ⟨Below.heap_setCell _ _ _ _ (fun e => by simp at e; omega), trivial⟩
  refine ⟨k, n, s, u, xs, rfl, rfl, hs, (st _ _ _ (st _ _ _ (st _ _ _ (st _ _ _ ho)))).wide (by omega) (by simp [World.setCell]), ?_⟩
  exact (((hb.setCell (Nat.le_succ _) _).setCell (Nat.le_succ _) _).setCell (Nat.le_succ _) _).setCell (Nat.le_succ _) _

theorem heap_set_at {w : World} {b : Nat} {cs : Array Value} {e : TypeId} (h : w.heap[b]? = some (.cells cs e (0, 0))) (j : Nat) (v : Value) : (w.setCell ⟨b, j, none⟩ v).heap[b]? = some (.cells (cs.setIfInBounds j v) e (0, 0)) := by
  unfold World.setCell
  simp [Array.getElem?_modify, h]

theorem start_good (w : World) (k n : Int) (s : ByteArray) (a : Option Addr) (cap h : Nat) (xs : List T) (ha : ArgsAt w 0 h (.slice a xs.length cap) xs) :
    GoodW w (PbC w) (FinC w k n s h xs) [⟨w.heap.size, 0, h, .slice a xs.length cap, xs⟩] (.slice (some ⟨w.heap.size + 2, 0, none⟩) 1 1) (boxC w k n s (.slice a xs.length cap)) := by
  have r0 : (boxC w k n s (.slice a xs.length cap)).heap[w.heap.size]? = some (trow k n s (.slice a xs.length cap)) := by
    rw [Below.heap_alloc _ _ _ (by simp; omega), Below.heap_alloc _ _ _ (by simp)]; exact heap_new w _ rfl
  refine ⟨⟨?_, frozen_of_row _ _ _ _ _ r0, Or.inl rfl, by simp; omega, fun e => ?_, ha⟩, fun v' w' u' d => ?_⟩
  · have := cell_of_row _ w.heap.size 3 _ _ _ r0
    simpa using this
  · simp [Value.ownBlock] at e
  · refine ⟨u', ?_, (d.own.wide (by simp) (Nat.le_refl _)).keep (fun b _ _ _ => ⟨rfl, trivial⟩)⟩
    have := d.cell
    rw [show (0 + 3) = 3 by rfl] at this
    rw [this, heap_set_at r0]
    rfl

set_option maxRecDepth 100000 in
set_option maxHeartbeats 3200000 in
theorem copyI_anyK (v : Value) (t : T) (lo h : Nat) (w : World) (ht : TermAt w lo h v t) (hw : cT t ≤ 4294967296) : Calls Try.prog 152 #[v] w (CopyR h t w) := by
  obtain ⟨k, n, s, u, xs, rfl, rfl, hs, ha⟩ := ht
  obtain ⟨a, cap, rfl⟩ := ha.slice
  obtain ⟨i0, hi, hz0, hz1, hz2⟩ := info_parts infoPtr
  have HI := Lib.hid hi; clear hi
  have HZ0 := Lib.hid hz0; clear hz0
  have HZ1 := Lib.hid hz1; clear hz1
  have HZ2 := Lib.hid hz2; clear hz2
  have HS := Lib.hid hs; clear hs
  have HG0 := Lib.hid (start_good w k n s a cap h xs (ha.low (Nat.zero_le _)))
  obtain ⟨m0, hm0⟩ : ∃ m, m = xs.length := ⟨_, rfl⟩
  rw [← hm0] at HG0 ⊢
  obtain ⟨W0, hW0⟩ : ∃ W0, W0 = boxC w k n s (.slice a m0 cap) := ⟨_, rfl⟩
  have hB0 : Below w.heap.size w W0 := by rw [hW0]; exact ((boxed_below w k n s _).alloc (by simp) _).alloc (by simp; omega) _
  have hs0 : W0.heap.size = w.heap.size + 3 := by rw [hW0]; simp
  have r1 : W0.heap[w.heap.size + 1]? = some (trow 0 0 ByteArray.empty (.slice none 0 0)) := by
    rw [hW0, Below.heap_alloc _ _ _ (by simp)]; exact heap_new _ _ (by simp)
  have ho0 : W0.ownsRow (w.heap.size + 2) 94 1 (.slice (some ⟨w.heap.size + 2, 0, none⟩) 1 1) 1 [.pointer (some ⟨w.heap.size, 0, none⟩)] := by
    rw [hW0]
    have e : ((boxed w k n s (.slice a m0 cap)).alloc (.cells #[.int .i64 0, .int .i64 0, .string ⟨#[]⟩, .slice none 0 0] 26)).heap.size = w.heap.size + 2 := by simp
    have := World.ownsRow_lit (base := w.heap.size + 2) (size := 1) (e := 94) ((boxed w k n s (.slice a m0 cap)).alloc (.cells #[.int .i64 0, .int .i64 0, .string ⟨#[]⟩, .slice none 0 0] 26)) #[.pointer (some ⟨w.heap.size, 0, none⟩)] 1 (by rw [e]; omega) (by decide) rfl
    rw [e] at this
    exact this
  have HB0 := Lib.hid hB0; clear hB0
  have HS0 := Lib.hid hs0; clear hs0
  have HR1 := Lib.hid r1; clear r1
  have HO0 := Lib.hid ho0; clear ho0
  have HT0 : Hid (1 + cS xs ≤ 4294967296 ∧ todo [⟨w.heap.size, 0, h, .slice a m0 cap, xs⟩] = 1 + cS xs) := Lib.hid ⟨by have h1 := hw; rw [cT_node] at h1; omega, by simp [todo]⟩
  have HM0 := Lib.hid hm0; clear hm0 ha hw
  rw [← hW0] at HG0
  unfold boxC boxed at hW0
  go_enter Try.func152, Try.ntmps152
  go_wp2
  rw [← hW0]
  clear hW0
  go_loopg [3] (1 + cS xs) (fun g v wr => ∃ ps : List Pd, g = todo ps ∧ Hid (todo ps ≤ 4294967296) ∧ Hid (wr.ownsRow (w.heap.size + 2) 94 1 v ps.length (ps.reverse.map pP)) ∧ Hid (GoodW w (PbC w) (FinC w k n s h xs) ps v wr) ∧
    Hid (wr.heap[w.heap.size + 1]? = some (trow 0 0 ByteArray.empty (.slice none 0 0)) ∧ w.heap.size + 3 ≤ wr.heap.size) ∧ Hid (Below w.heap.size w wr))
  case atStart => exact ⟨_, HT0.out.2.symm, Lib.hid (by rw [HT0.out.2]; exact HT0.out.1), HO0, HG0, Lib.hid ⟨HR1.out, by rw [HS0.out]; exact Nat.le_refl _⟩, HB0⟩
  case round =>
    clear HG0 HO0 HR1 HB0 HS0
    obtain ⟨ps, hg, HT, HO, HG, HR, HB⟩ := hrel
    have HGH := Lib.hid hg; clear hg
    cases ps with
    | nil =>
      obtain ⟨a1, c1, rfl⟩ := own_formK HO.out
      obtain ⟨u', q0, hown⟩ := HG.out
      have q1 := HR.out.1
      obtain ⟨ua, uc, rfl⟩ := hown.slice
      rw [← HM0.out] at q0 hown
      have e0 := cell_of_row wr w.heap.size 0 _ _ _ q0
      have e1 := cell_of_row wr w.heap.size 1 _ _ _ q0
      have e2 := cell_of_row wr w.heap.size 2 _ _ _ q0
      have e3 := cell_of_row wr w.heap.size 3 _ _ _ q0
      have z0 := cell_of_row wr (w.heap.size + 1) 0 _ _ _ q1
      have z1 := cell_of_row wr (w.heap.size + 1) 1 _ _ _ q1
      have z2 := cell_of_row wr (w.heap.size + 1) 2 _ _ _ q1
      have z3 := cell_of_row wr (w.heap.size + 1) 3 _ _ _ q1
      have y0 := frozen_of_row wr (w.heap.size + 1) 0 _ _ q1
      have y1 := frozen_of_row wr (w.heap.size + 1) 1 _ _ q1
      have y2 := frozen_of_row wr (w.heap.size + 1) 2 _ _ q1
      have y3 := frozen_of_row wr (w.heap.size + 1) 3 _ _ q1
      simp at e0 e1 e2 e3 z0 z1 z2 z3
      have HF := Lib.hid (fun v0 v1 v2 v3 => copy_fin (k := k) (n := n) (v0 := v0) (v1 := v1) (v2 := v2) (v3 := v3) HS.out hown HB.out)
      clear q0 q1 hown HG
      go_wp2
      (try simp only [Exit.inBlock, Exit.then])
      refine bodyPost_ret (v := tv k n s (.slice ua m0 uc)) ?hr rfl ?_
      case hr =>
        rw [results_cell (a := 2) (t := 26) (ad := ⟨w.heap.size + 1, 0, none⟩) rfl rfl]
        go_simp
      exact HF.out _ _ _ _
    | cons p ps =>
      obtain ⟨n0, hn0⟩ : ∃ n0, n0 = ps.length := ⟨_, rfl⟩
      have ho := HO.out; clear HO
      rw [List.length_cons, ← hn0, List.reverse_cons, List.map_append] at ho
      have hN : n0 + 1 ≤ 4294967296 := by have h1 := todo_len (p :: ps); have h2 := HT.out; rw [List.length_cons, ← hn0] at h1; omega
      have hrl : (ps.reverse.map pP).length = n0 := by simp [hn0]
      have HN0 := Lib.hid hn0; clear hn0
      have hvl := ho.lt
      obtain ⟨a0, c0, rfl⟩ := own_formK ho
      obtain ⟨g0, rfl, hc0⟩ : ∃ g0, a0 = some ⟨g0, 0, none⟩ ∧ n0 + 1 ≤ c0 := by
        rcases ho.2 with ⟨e1, h0⟩ | ⟨g, c, cur, e1, hb, hg, hc, _⟩
        · omega
        · cases e1; exact ⟨g, rfl, hc⟩
      have hcp : wr.cell? ⟨g0, n0, none⟩ = some (.pointer (some ⟨p.b, p.o, none⟩)) := by
        rw [ho.cellAt n0 (by omega), List.getElem?_append_right (by omega), hrl, Nat.sub_self]; rfl
      have HF := Lib.hid (own_front ho hrl (by simp)); clear ho hrl
      obtain ⟨⟨hpc, hpf, hpb, hpl, hpn, hpa⟩, hcont⟩ := HG.out
      obtain ⟨pa, pc, hpu⟩ := hpa.slice
      obtain ⟨m, hm⟩ : ∃ m, m = p.xs.length := ⟨_, rfl⟩
      rw [hpu, ← hm] at hpc
      rw [hpu] at hpa
      have hml : m ≤ 4294967296 := by have h1 := todo_cons p ps; have h2 := HT.out; have h3 := len_le_cS p.xs; omega
      have HM := Lib.hid hm; clear hm
      have hwr : w.heap.size + 3 ≤ wr.heap.size := HR.out.2
      have hpa2 : ArgsAt w 0 p.h (.slice pa p.xs.length pc) p.xs := hpa
      obtain ⟨vs, hrow, hnone, hcells, hh0⟩ := args_row hpa2
      have hvs := hrow.len
      have hone := hrow.one
      have HCALL := Lib.hid (ownArgs_anyK p.b p.o pa m pc vs wr (by rw [HM.out]; exact hvs) hml (by rw [HM.out]; exact hnone) (fun ad e j u hu => by
        have h1 := hcells ad e j u hu
        rw [HB.out.cell (World.block_lt_of_cell? w _ h1)]; exact h1) hone hpc hpf)
      have HHR := Lib.hid (And.intro hrow hh0)
      have HPL := Lib.hid (And.intro hpl hpn)
      have HPF := Lib.hid (And.intro hpf (And.intro hpb hpa))
      have HCONT := Lib.hid hcont
      have HVL := Lib.hid (fun k hk => (hvl k hk).2)
      have HVL2 := Lib.hid (fun k hk => (hvl k hk).1)
      clear hrow hnone hcells hh0 hvs hone hpa2 hpa hcont hvl hpb hpn hpf HG
      go_wp2_with fail
      refine HCALL.out.mono ?_
      rintro e w2 ⟨rfl, u1, wc, rfl, how, hbw⟩
      obtain ⟨a1, c1, rfl⟩ := own_formK how
      have hwcz := hbw.size
      obtain ⟨w1, hw1⟩ : ∃ w1, w1 = wc.setCell ⟨p.b, p.o + 3, none⟩ (.slice a1 m c1) := ⟨_, rfl⟩
      rw [← hw1]
      have hz1 : w1.heap.size = wc.heap.size := by rw [hw1]; simp [World.setCell]
      have d3 : w1.cell? ⟨p.b, p.o + 3, none⟩ = some (.slice a1 m c1) := by
        rw [hw1]
        exact World.cell?_setCell_same' _ _ _ (by rw [hbw.cell HPL.out.1, hpc]; rfl)
      obtain ⟨g, hg⟩ : ∃ g, m = 0 ∨ a1 = some ⟨g, 0, none⟩ := by
        rcases how.2 with ⟨e1, h0⟩ | ⟨g, c, cur, e1, _⟩
        · exact ⟨0, Or.inl h0⟩
        · cases e1; exact ⟨g, Or.inr rfl⟩
      have HPUSH := Lib.hid (fun vi wi (hG : Grew (.slice (some ⟨g0, 0, none⟩) n0 c0) w1 vi wi) => good_push (w0 := w) (Pb := PbC w) (Fin := FinC w k n s h xs) (g := g) HCONT.out HPL.out.1 HPL.out.2 (by rw [← HM.out]; unfold maxLen; omega) HM.out (v1 := .slice (some ⟨g0, 0, none⟩) n0 c0) rfl HVL.out hbw how hg (fun b hb => Or.inr (by omega)) HHR.out.1 HHR.out.2 (by rw [← hw1]; exact hG))
      have HW1 : Hid (Below w.heap.size w w1) := Lib.hid (by
        rw [hw1]
        exact (HB.out.trans (hbw.mono HB.out.size)).setCell (by rcases HPF.out.2.1 with e | e <;> (show w.heap.size ≤ p.b; omega)) _)
      have HBX : Hid (w1.heap[w.heap.size + 1]? = some (trow 0 0 ByteArray.empty (.slice none 0 0))) := Lib.hid (by
        rw [hw1, Below.heap_setCell _ _ _ _ (fun e => by simp at e; rcases HPF.out.2.1 with h1 | h1 <;> omega), hbw.block _ (by omega)]
        exact HR.out.1)
      have hown1 : w1.ownsRow (w.heap.size + 2) 94 1 (.slice (some ⟨g0, 0, none⟩) n0 c0) n0 (ps.reverse.map pP) := by
        have hg0 := HVL.out g0 rfl
        exact row_keep (keep_own HF.out hbw) (by rw [hw1]; exact Below.heap_setCell _ _ _ _ (fun e => by simp at e; exact HPL.out.2 (by rw [← e]; rfl)))
      have HO1 := Lib.hid hown1
      have HD3 := Lib.hid d3
      have HG := Lib.hid hg
      have HZ1b := Lib.hid (And.intro hz1 hwcz)
      have HTD : Hid (todo (kidL g (p.h - 1) (fun i => (vs[i * 4 + 3]?).getD undef) (fun i => ((p.xs[i]?).map kT).getD []) m ++ ps) + 1 = todo (p :: ps)) := Lib.hid (by rw [todo_app, todo_kids _ _ _ _ _ (by rw [HM.out]; exact Nat.le_refl _), HM.out, List.take_length, todo_cons]; omega)
      have hpz : p.b < w1.heap.size := by omega
      have HPNV : Hid (NotOwn (.slice (some ⟨g0, 0, none⟩) n0 c0) p.b) := Lib.hid HPL.out.2
      clear hown1 hg hw1 how hbw HCALL hwcz hz1 hpc hcp hpu
      go_wp2
      go_loopw [3, 28] (fun vi i wi => ∃ q : Nat, q ≤ m ∧ i = .int .i64 q ∧ Hid (wi.ownsRow (w.heap.size + 2) 94 1 vi (n0 + q) ((kidL g (p.h - 1) (fun i => (vs[i * 4 + 3]?).getD undef) (fun i => ((p.xs[i]?).map kT).getD []) q ++ ps).reverse.map pP)) ∧
        Hid (Grew (.slice (some ⟨g0, 0, none⟩) n0 c0) w1 vi wi) ∧ Hid (Below w.heap.size w wi)) (fun _ i _ => m - (intOf i).toNat)
      case atStart => exact ⟨0, Nat.zero_le _, rfl, HO1, Lib.hid (Grew.refl _ _ _ rfl), HW1⟩
      case round =>
        obtain ⟨q, hq, rfl, HOI, HGI, HBI⟩ := hrel
        by_cases hlt : q < m
        · obtain rfl : a1 = some ⟨g, 0, none⟩ := HG.out.resolve_left (by omega)
          have hnm : n0 + m ≤ 8589934592 := by omega
          have e3 : wr.cell? ⟨p.b, p.o + 3, none⟩ = some (.slice (some ⟨g, 0, none⟩) m c1) := by
            rw [cell_heap (HGI.out.2.1 p.b hpz HPNV.out)]; exact HD3.out
          have hlo : w.heap.size + 2 ≤ wr.heap.size := by have := HGI.out.1; have := HZ1b.out; omega
          have HHI := Lib.hid hlt; have HNM := Lib.hid hnm; clear hnm
          go_wp2_with (first | (at_builtin; refine wpList_append_lies _ rfl (.tmp 31) (.tmp 38) 93 rfl (w.heap.size + 2) 94 i0 (.pointer none) 1 8 Try.underlying93 HI.out HZ0.out HZ1.out HZ2.out rfl (by decide) _ _ _ rfl (HOI.out.alloc _) ⟨wr.heap.size, 0, none⟩ 1 1 [.pointer (some ⟨g, q * 4, none⟩)] ?c0 rfl ?c1 ?c2 (by decide) ?c3 ?c4 ?c5 _ rfl ?_))
          case c2 => rfl
          case c3 => have := HNM.out; unfold maxLen; omega
          case c4 => have := HNM.out; omega
          case c5 => omega
          intro g3 cap3 w3 hown hgr hat hlt3
          have HG3 := Lib.hid (HGI.out.trans (grew_app (n := n0 + q + 1) (cap := cap3) (o := .cells #[.pointer (some ⟨g, q * 4, none⟩)] 94) hgr (by simpa using hat)))
          have HB3 : Hid (Below w.heap.size w w3) := Lib.hid ((HBI.out.alloc HBI.out.size (.cells #[.pointer (some ⟨g, q * 4, none⟩)] 94)).grown hgr (by simp; omega) (fun i hi => by have := (HOI.out.lt _ hi).1; omega))
          have HO3 : Hid (w3.ownsRow (w.heap.size + 2) 94 1 (.slice (some ⟨g3, 0, none⟩) (n0 + q + 1) cap3) (n0 + q + 1) ((kidL g (p.h - 1) (fun i => (vs[i * 4 + 3]?).getD undef) (fun i => ((p.xs[i]?).map kT).getD []) (q + 1) ++ ps).reverse.map pP)) := Lib.hid (by rw [kid_rev]; simpa using hown)
          clear hown hgr hat hlt3
          go_wp2
          go_roundw
          case rel => exact ⟨q + 1, by omega, by go_num, HO3, HG3, HB3⟩
          case measure => simp [intOf]; omega
        · have hqm : q = m := by omega
          subst hqm
          have HGD := Lib.hid (HPUSH.out _ _ HGI.out)
          have HLEN : Hid ((kidL g (p.h - 1) (fun i => (vs[i * 4 + 3]?).getD undef) (fun i => ((p.xs[i]?).map kT).getD []) q ++ ps).length = n0 + q) := Lib.hid (by rw [List.length_append, kid_len, HN0.out]; omega)
          have HBX2 : Hid (wr.heap[w.heap.size + 1]? = some (trow 0 0 ByteArray.empty (.slice none 0 0)) ∧ w.heap.size + 3 ≤ wr.heap.size) := Lib.hid (by
            have h1 := HZ1b.out
            have h2 := HGI.out.1
            refine ⟨(HGI.out.2.1 _ (by omega) (fun e => ?_)).trans HBX.out, by omega⟩
            have := HVL2.out g0 rfl
            simp [Value.ownBlock] at e; omega)
          clear hlt
          have hqq : ¬ q < q := by omega
          go_wp2
          go_roundg (todo (kidL g (p.h - 1) (fun i => (vs[i * 4 + 3]?).getD undef) (fun i => ((p.xs[i]?).map kT).getD []) q ++ ps))
          case measure => have := HTD.out; have := HGH.out; omega
          case rel => exact ⟨_, rfl, Lib.hid (by have := HTD.out; have := HT.out; omega), Lib.hid (by rw [HLEN.out]; exact HOI.out), HGD, HBX2, HBI⟩
theorem copyI_any (v : Value) (t : T) (lo h : Nat) (w : World) (ht : TermAt w lo h v t) (hw : wT t ≤ 4194303) : Calls Try.prog 152 #[v] w (CopyR h t w) := copyI_anyK v t lo h w ht (by have := cT_le t; omega)
end Go.Proofs.Ytidbokheeieifaa
