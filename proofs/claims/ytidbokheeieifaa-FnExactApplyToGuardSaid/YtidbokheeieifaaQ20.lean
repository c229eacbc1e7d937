/-
  impl.changeVars: the walk.
-/
import Derived.Test.YtidbokheeieifaaQ19
namespace Go.Proofs.Ytidbokheeieifaa
open Go.RowKit

/-- The node has been looked at: it was changed whole, or its name alone. -/
def LookE (F : ByteArray → Option T) (R : ByteArray → ByteArray) (D : Nat) (w0 : World) (p : Pv) (W : World) (B : Bool) (w' : World) : Prop :=
  Below w0.heap.size w0 w' ∧ W.heap.size ≤ w'.heap.size ∧ (∀ j, j < W.heap.size → j ≠ p.b → w'.heap[j]? = W.heap[j]?) ∧
  (B = true → ∃ k' n' s' u' xs', mapT F R (.node p.k p.n p.s p.xs) = .node k' n' s' xs' ∧ s'.size ≤ maxLen ∧ w'.heap[p.b]? = (cellsQ W p.b p.o k' n' s' u').heap[p.b]? ∧ OwnR (fun _ => True) w' D W.heap.size w'.heap.size u' xs') ∧
  (B = false → ∃ S, mapT F R (.node p.k p.n p.s p.xs) = .node p.k p.n S (p.xs.map (mapT F R)) ∧ S.size ≤ maxLen ∧ w'.heap[p.b]? = (W.setCell ⟨p.b, p.o + 2, none⟩ (.string S)).heap[p.b]?)
theorem LookE.done {F : ByteArray → Option T} {R : ByteArray → ByteArray} {D : Nat} {w0 : World} {p : Pv} {v v' : Value} {W w' : World} (h : LookE F R D w0 p W true w') (hv : v'.ownBlock = v.ownBlock) (hvl : ∀ k, v.ownBlock = some k → k < W.heap.size) : DoneM (mapT F R) D p v W v' w' := by
  obtain ⟨_, hz, hk, h1, _⟩ := h
  obtain ⟨k', n', s', u', xs', e, hs, hc, ho⟩ := h1 rfl
  refine ⟨hz, fun b hb hne _ => hk b hb hne, Or.inl hv, k', n', s', u', xs', e, hs, hc, (ho.le (Nat.le_add_left _ _)).keep fun b _ h1 _ => ⟨rfl, fun e => ?_⟩⟩
  rw [hv] at e
  have := hvl b e.symm
  omega

set_option maxRecDepth 100000 in
set_option maxHeartbeats 3200000 in
theorem chg_any (fid : FuncId) (cv : Value) (F : ByteArray → Option T) (R : ByteArray → ByteArray) (D : Nat) (v : Value) (t : T) (lo h : Nat) (w : World) (hcf : ∀ (args : Array Value) (W : World), (callFunc fid args).run Try.prog W = .ok (.enter fid args) W) (hcb : CbOk fid cv F R D w) (ht : TermAt w lo h v t) (hw : wT t ≤ 4194303) :
    Calls Try.prog 128 #[v, .func (.func fid) #[] #[cv]] w (CopyR (h + D) (mapT F R t) w) := by
  obtain ⟨k, n, s, u, xs, rfl, rfl, hs, ha⟩ := ht
  obtain ⟨a, cap, rfl⟩ := ha.slice
  obtain ⟨i0, hi, hz0, hz1, hz2⟩ := info_parts infoPtr
  have HI := Lib.hid hi; clear hi
  have HZ0 := Lib.hid hz0; clear hz0
  have HZ1 := Lib.hid hz1; clear hz1
  have HZ2 := Lib.hid hz2; clear hz2
  have HS := Lib.hid hs
  have HCB := Lib.hid hcb; clear hcb
  have HG0 := Lib.hid (startM (mapT F R) D w k n s a cap h xs hw (ha.low (Nat.zero_le _)))
  obtain ⟨m0, hm0⟩ : ∃ m, m = xs.length := ⟨_, rfl⟩
  rw [← hm0] at HG0 ⊢
  obtain ⟨W0, hW0⟩ : ∃ W0, W0 = boxC w k n s (.slice a m0 cap) := ⟨_, rfl⟩
  have hB0 : Below w.heap.size w W0 := by rw [hW0]; exact ((boxed_below w k n s _).alloc (by simp) _).alloc (by simp; omega) _
  have hs0 : W0.heap.size = w.heap.size + 3 := by rw [hW0]; simp
  have r1 : W0.heap[w.heap.size + 1]? = some (trow 0 0 ByteArray.empty (.slice none 0 0)) := by
    rw [hW0, Below.heap_alloc _ _ _ (by simp)]; exact heap_new _ _ (by simp)
  have ho0 : W0.ownsRow (w.heap.size + 2) 94 1 (.slice (some ⟨w.heap.size + 2, 0, none⟩) 1 1) 1 [.pointer (some ⟨w.heap.size, 0, none⟩)] := by
    rw [hW0]
    have e : ((boxed w k n s (.slice a m0 cap)).alloc (.cells #[.int .i64 0, .int .i64 0, .string ⟨#[]⟩, .slice none 0 0] 26)).heap.size = w.heap.size + 2 := by simp
    have := World.ownsRow_lit (base := w.heap.size + 2) (size := 1) (e := 94) ((boxed w k n s (.slice a m0 cap)).alloc (.cells #[.int .i64 0, .int .i64 0, .string ⟨#[]⟩, .slice none 0 0] 26)) #[.pointer (some ⟨w.heap.size, 0, none⟩)] 1 (by rw [e]; omega) (by decide) rfl
    rw [e] at this
    exact this
  have HB0 := Lib.hid hB0; clear hB0
  have HS0 := Lib.hid hs0; clear hs0
  have HR1 := Lib.hid r1; clear r1
  have HO0 := Lib.hid ho0; clear ho0
  have HT0 : Hid (1 + cS xs ≤ 4194304 ∧ todoM [⟨w.heap.size, 0, h, k, n, s, .slice a m0 cap, xs⟩] = 1 + cS xs) := Lib.hid ⟨by have h1 := cT_le (.node k n s xs); rw [cT_node] at h1; omega, by simp [todoM]⟩
  have HM0 := Lib.hid hm0; clear hm0 ha hw hs
  rw [← hW0] at HG0
  unfold boxC boxed at hW0
  go_enter Try.func128, Try.ntmps128
  go_wp2
  rw [← hW0]
  clear hW0
  go_loopg [5] (1 + cS xs) (fun g v wr => ∃ ps : List Pv, g = todoM ps ∧ Hid (todoM ps ≤ 4194304) ∧ Hid (wr.ownsRow (w.heap.size + 2) 94 1 v ps.length (ps.reverse.map pQ)) ∧ Hid (GoodM (mapT F R) D w (PbC w) (FinM (mapT F R) D w (.node k n s xs) h) ps v wr) ∧
    Hid (wr.heap[w.heap.size + 1]? = some (trow 0 0 ByteArray.empty (.slice none 0 0)) ∧ w.heap.size + 3 ≤ wr.heap.size) ∧ Hid (Below w.heap.size w wr))
  case atStart => exact ⟨_, HT0.out.2.symm, Lib.hid (by rw [HT0.out.2]; exact HT0.out.1), HO0, HG0, Lib.hid ⟨HR1.out, by rw [HS0.out]; exact Nat.le_refl _⟩, HB0⟩
  case round =>
    clear HG0 HO0 HR1 HB0 HS0
    obtain ⟨ps, hg, HT, HO, HG, HR, HB⟩ := hrel
    have HGH := Lib.hid hg; clear hg
    cases ps with
    | nil =>
      obtain ⟨a1, c1, rfl⟩ := own_formK HO.out
      obtain ⟨k', n', s', u', xs', hef, hs', q0, hown⟩ := HG.out
      have q1 := HR.out.1
      obtain ⟨ua, uc, rfl⟩ := hown.slice
      obtain ⟨m', hm'⟩ : ∃ m', m' = xs'.length := ⟨_, rfl⟩
      rw [← hm'] at q0 hown
      have e0 := cell_of_row wr w.heap.size 0 _ _ _ q0
      have e1 := cell_of_row wr w.heap.size 1 _ _ _ q0
      have e2 := cell_of_row wr w.heap.size 2 _ _ _ q0
      have e3 := cell_of_row wr w.heap.size 3 _ _ _ q0
      have z0 := cell_of_row wr (w.heap.size + 1) 0 _ _ _ q1
      have z1 := cell_of_row wr (w.heap.size + 1) 1 _ _ _ q1
      have z2 := cell_of_row wr (w.heap.size + 1) 2 _ _ _ q1
      have z3 := cell_of_row wr (w.heap.size + 1) 3 _ _ _ q1
      have y0 := frozen_of_row wr (w.heap.size + 1) 0 _ _ q1
      have y1 := frozen_of_row wr (w.heap.size + 1) 1 _ _ q1
      have y2 := frozen_of_row wr (w.heap.size + 1) 2 _ _ q1
      have y3 := frozen_of_row wr (w.heap.size + 1) 3 _ _ q1
      simp at e0 e1 e2 e3 z0 z1 z2 z3
      have HF := Lib.hid (fun v0 v1 v2 v3 => copy_fin (k := k') (n := n') (v0 := v0) (v1 := v1) (v2 := v2) (v3 := v3) hs' hown HB.out)
      have HEF := Lib.hid hef
      clear q0 q1 hown HG hef hs' hm'
      go_wp2
      (try simp only [Exit.inBlock, Exit.then])
      refine bodyPost_ret (v := tv k' n' s' (.slice ua m' uc)) ?hr rfl ?_
      case hr =>
        rw [results_cell (a := 4) (t := 26) (ad := ⟨w.heap.size + 1, 0, none⟩) rfl rfl]
        go_simp
      rw [HEF.out]
      exact HF.out _ _ _ _
    | cons p ps =>
      obtain ⟨n0, hn0⟩ : ∃ n0, n0 = ps.length := ⟨_, rfl⟩
      have ho := HO.out; clear HO
      rw [List.length_cons, ← hn0, List.reverse_cons, List.map_append] at ho
      have hN : n0 + 1 ≤ 4194304 := by have h1 := todoM_len (p :: ps); have h2 := HT.out; rw [List.length_cons, ← hn0] at h1; omega
      have hrl : (ps.reverse.map pQ).length = n0 := by simp [hn0]
      have HN0 := Lib.hid hn0; clear hn0
      have hvl := ho.lt
      obtain ⟨a0, c0, rfl⟩ := own_formK ho
      obtain ⟨g0, rfl, hc0⟩ : ∃ g0, a0 = some ⟨g0, 0, none⟩ ∧ n0 + 1 ≤ c0 := by
        rcases ho.2 with ⟨e1, h0⟩ | ⟨g, c, cur, e1, hb, hg, hc, _⟩
        · omega
        · cases e1; exact ⟨g, rfl, hc⟩
      have hcp : wr.cell? ⟨g0, n0, none⟩ = some (.pointer (some ⟨p.b, p.o, none⟩)) := by
        rw [ho.cellAt n0 (by omega), List.getElem?_append_right (by omega), hrl, Nat.sub_self]; rfl
      have HF := Lib.hid (own_front ho hrl (by simp)); clear ho hrl
      obtain ⟨⟨hpn4, hps, hpb, hpl, hpn, hpa⟩, hcont⟩ := HG.out
      obtain ⟨pa, pc, hpu⟩ := hpa.slice
      obtain ⟨m, hm⟩ : ∃ m, m = p.xs.length := ⟨_, rfl⟩
      rw [hpu, ← hm] at hpn4 hpa
      have hml : m ≤ 4194304 := by have h1 := todoM_cons p ps; have h2 := HT.out; have h3 := len_le_cS p.xs; omega
      have HM := Lib.hid hm; clear hm
      have hwr : w.heap.size + 3 ≤ wr.heap.size := HR.out.2
      have hck := hpn4.c0
      obtain ⟨pk, hpk⟩ : ∃ pk, pk = p.k := ⟨_, rfl⟩
      rw [← hpk] at hck
      have HPK := Lib.hid hpk; clear hpk
      have HVL := Lib.hid (fun k hk => (hvl k hk).2)
      have HVL2 := Lib.hid (fun k hk => (hvl k hk).1)
      have HPL := Lib.hid (And.intro hpl hpn)
      have HPF := Lib.hid (And.intro hpn4 (And.intro hpb (And.intro hpa hps)))
      have HCONT := Lib.hid hcont
      have hlow : w.heap.size ≤ p.b := by rcases hpb with e | e <;> omega
      have HLOW := Lib.hid hlow
      clear hpn4 hcont hvl hpb hpn hpl hpa hps HG hlow
      go_upto_region 6 with fail
      go_cut [32] (fun vb wd => Hid (∃ B, vb = .bool B ∧ LookE F R D w p wr B wd))
      case first =>
        by_cases hk1 : pk = 1
        · subst hk1
          have HCALL := Lib.hid (HCB.out p.b p.o p.n p.s (.slice pa m pc) wr HB.out HLOW.out HPL.out.1 (by have h := HPF.out.1; rw [← HPK.out] at h; exact h) (by have h := HPF.out.2.2.2; rw [wT_node] at h; omega))
          go_wp2_with fail
          refine HCALL.out.mono ?_
          rintro e w2 ⟨B, rfl, hbl, hz, hk, h1, h0⟩
          have HLE : Hid (LookE F R D w p wr B w2) := Lib.hid ⟨hbl, hz, hk, fun e => by
            obtain ⟨k', n', s', u', xs', e1, h2⟩ := h1 e
            exact ⟨k', n', s', u', xs', by rw [mapT_node, if_pos HPK.out.symm, e1], h2⟩, fun e => by
            obtain ⟨e1, h2⟩ := h0 e
            exact ⟨R p.s, by rw [mapT_node, if_pos HPK.out.symm, e1], h2⟩⟩
          clear hbl hz hk h1 h0
          go_wp2_with fail
          go_meet
          exact Lib.hid ⟨B, rfl, HLE.out⟩
        · have hq : (pk == 1) = false := by simpa using hk1
          have HLE : Hid (LookE F R D w p wr false wr) := Lib.hid ⟨HB.out, Nat.le_refl _, fun _ _ _ => rfl, (fun e => absurd e (by decide)), fun _ => ⟨p.s, by rw [mapT_node, if_neg (by rw [← HPK.out]; exact hk1)], by have h := HPF.out.2.2.2; rw [wT_node] at h; unfold maxLen; omega, by rw [set_id HPF.out.1.c2]⟩⟩
          clear hk1
          go_wp2_with fail
          go_meet
          exact Lib.hid ⟨false, rfl, HLE.out⟩
      obtain ⟨B, rfl, hlk⟩ := hcut.out
      have HLK := Lib.hid hlk; clear hlk hcut
      have hg0 := HVL.out g0 rfl
      have hne : g0 ≠ p.b := fun e => HPL.out.2 (by rw [← e]; rfl)
      have HO2 : Hid (wc.ownsRow (w.heap.size + 2) 94 1 (.slice (some ⟨g0, 0, none⟩) n0 c0) n0 (ps.reverse.map pQ)) := Lib.hid (row_keep HF.out (HLK.out.2.2.1 g0 hg0 hne))
      have HRS : Hid (wc.heap[w.heap.size + 1]? = some (trow 0 0 ByteArray.empty (.slice none 0 0)) ∧ w.heap.size + 3 ≤ wc.heap.size) := Lib.hid ⟨(HLK.out.2.2.1 _ (by omega) (by rcases HPF.out.2.1 with e | e <;> omega)).trans HR.out.1, Nat.le_trans hwr HLK.out.2.1⟩
      have HNE := Lib.hid (And.intro hg0 hne)
      clear hg0 hne hck hcp
      cases B with
      | true =>
        have HGD := Lib.hid (HCONT.out _ _ (HLK.out.done (v' := .slice (some ⟨g0, 0, none⟩) n0 c0) rfl HVL.out))
        go_wp2
        go_roundg (todoM ps)
        case measure => have := HGH.out; rw [todoM_cons] at this; omega
        case rel => exact ⟨ps, rfl, Lib.hid (by have h1 := HT.out; rw [todoM_cons] at h1; omega), by rw [← HN0.out]; exact HO2, HGD, HRS, Lib.hid HLK.out.1⟩
      | false =>
        obtain ⟨S, hef, hSz, hcS⟩ := HLK.out.2.2.2.2 rfl
        have hpc : wc.cell? ⟨p.b, p.o + 3, none⟩ = some (.slice pa m pc) := (cell_heap hcS).trans ((World.cell?_setCell_other _ _ _ _ (by simp)).trans HPF.out.1.c3)
        have hpf : wc.frozen? ⟨p.b, p.o + 3, none⟩ = false := by
          have h1 : wc.frozen? ⟨p.b, p.o + 3, none⟩ = (wr.setCell ⟨p.b, p.o + 2, none⟩ (.string S)).frozen? ⟨p.b, p.o + 3, none⟩ := by
            unfold World.frozen?
            rw [show (⟨p.b, p.o + 3, none⟩ : Addr).block = p.b from rfl, hcS]
          rw [h1, World.frozen?_setCell]
          exact HPF.out.1.f3
        have hpa2 : ArgsAt w 0 p.h (.slice pa p.xs.length pc) p.xs := by rw [← HM.out]; exact HPF.out.2.2.1
        obtain ⟨vs, hrow, hnone, hcells, hh0⟩ := args_row hpa2
        have hvs := hrow.len
        have hone := hrow.one
        have HCALL := Lib.hid (ownArgs_any p.b p.o pa m pc vs wc (by rw [HM.out]; exact hvs) hml (by rw [HM.out]; exact hnone) (fun ad e j u hu => by
          have h1 := hcells ad e j u hu
          rw [HLK.out.1.cell (World.block_lt_of_cell? w _ h1)]; exact h1) hone hpc hpf)
        have HHR := Lib.hid (And.intro hrow hh0)
        have HEF := Lib.hid (And.intro hef (And.intro hSz hcS))
        have hplc : p.b < wc.heap.size := Nat.lt_of_lt_of_le HPL.out.1 HLK.out.2.1
        clear hrow hnone hcells hh0 hvs hone hpa2 hef hSz hcS
        go_wp2_with fail
        refine HCALL.out.mono ?_
        rintro e w2 ⟨rfl, u1, wq, rfl, how, hbw⟩
        obtain ⟨a1, c1, rfl⟩ := own_formK how
        have hwcz := hbw.size
        obtain ⟨w1, hw1⟩ : ∃ w1, w1 = wq.setCell ⟨p.b, p.o + 3, none⟩ (.slice a1 m c1) := ⟨_, rfl⟩
        rw [← hw1]
        have hz1 : w1.heap.size = wq.heap.size := by rw [hw1]; simp [World.setCell]
        have d3 : w1.cell? ⟨p.b, p.o + 3, none⟩ = some (.slice a1 m c1) := by
          rw [hw1]
          exact World.cell?_setCell_same' _ _ _ (by rw [hbw.cell hplc, hpc]; rfl)
        obtain ⟨g, hg⟩ : ∃ g, m = 0 ∨ a1 = some ⟨g, 0, none⟩ := by
          rcases how.2 with ⟨e1, h0⟩ | ⟨g, c, cur, e1, _⟩
          · exact ⟨0, Or.inl h0⟩
          · cases e1; exact ⟨g, Or.inr rfl⟩
        have hwsz := HLK.out.2.1
        have HPUSH := Lib.hid (fun vi wi (hG : Grew (.slice (some ⟨g0, 0, none⟩) n0 c0) w1 vi wi) => goodM_push (w0 := w) (Pb := PbC w) (Fin := FinM (mapT F R) D w (.node k n s xs) h) (g := g) HCONT.out (by have h := HPF.out.1; rw [hpu, ← HM.out]; exact h) HPL.out.1 HPL.out.2 (by rw [← HM.out]; unfold maxLen; omega) HM.out (v1 := .slice (some ⟨g0, 0, none⟩) n0 c0) rfl HVL.out HLK.out.2.1 HLK.out.2.2.1 HEF.out.2.2 HEF.out.2.1 HEF.out.1 HPF.out.2.2.2 hbw how hg (fun b hb => Or.inr (by omega)) HHR.out.1 HHR.out.2 (by rw [← hw1]; exact hG))
        have HW1 : Hid (Below w.heap.size w w1) := Lib.hid (by
          rw [hw1]
          exact (HLK.out.1.trans (hbw.mono HLK.out.1.size)).setCell (by show w.heap.size ≤ p.b; exact HLOW.out) _)
        have HBX : Hid (w1.heap[w.heap.size + 1]? = some (trow 0 0 ByteArray.empty (.slice none 0 0))) := Lib.hid (by
          rw [hw1, Below.heap_setCell _ _ _ _ (fun e => by simp at e; rcases HPF.out.2.1 with h1 | h1 <;> omega), hbw.block _ (by have := HRS.out.2; omega)]
          exact HRS.out.1)
        have hown1 : w1.ownsRow (w.heap.size + 2) 94 1 (.slice (some ⟨g0, 0, none⟩) n0 c0) n0 (ps.reverse.map pQ) := by
          exact row_keep (keep_own HO2.out hbw) (by rw [hw1]; exact Below.heap_setCell _ _ _ _ (fun e => by simp at e; exact HNE.out.2 e))
        have HO1 := Lib.hid hown1
        have HD3 := Lib.hid d3
        have HG := Lib.hid hg
        have HZ1b := Lib.hid (And.intro hz1 (And.intro hwcz hwsz))
        have HTD : Hid (todoM (kidsM g (p.h - 1) (hdV vs p.xs) m ++ ps) + 1 = todoM (p :: ps)) := Lib.hid (by rw [todoM_app, todoM_kids _ _ _ _ _ (by rw [HM.out]; exact Nat.le_refl _), HM.out, List.take_length, todoM_cons]; omega)
        have hpz : p.b < w1.heap.size := by omega
        have HPNV : Hid (NotOwn (.slice (some ⟨g0, 0, none⟩) n0 c0) p.b) := Lib.hid HPL.out.2
        have HZR := HRS
        clear hown1 hg hw1 how hbw HCALL hwcz hz1 hpc hpu hpf hplc hwsz
        go_wp2
        go_loopw [5, 40] (fun vi i wi => ∃ q : Nat, q ≤ m ∧ i = .int .i64 q ∧ Hid (wi.ownsRow (w.heap.size + 2) 94 1 vi (n0 + q) ((kidsM g (p.h - 1) (hdV vs p.xs) q ++ ps).reverse.map pQ)) ∧
          Hid (Grew (.slice (some ⟨g0, 0, none⟩) n0 c0) w1 vi wi) ∧ Hid (Below w.heap.size w wi)) (fun _ i _ => m - (intOf i).toNat)
        case atStart => exact ⟨0, Nat.zero_le _, rfl, HO1, Lib.hid (Grew.refl _ _ _ rfl), HW1⟩
        case round =>
          rename_i wr0 _
          obtain ⟨q, hq, rfl, HOI, HGI, HBI⟩ := hrel
          by_cases hlt : q < m
          · obtain rfl : a1 = some ⟨g, 0, none⟩ := HG.out.resolve_left (by omega)
            have hnm : n0 + m ≤ 8388608 := by omega
            have e3 : wr.cell? ⟨p.b, p.o + 3, none⟩ = some (.slice (some ⟨g, 0, none⟩) m c1) := by
              rw [cell_heap (HGI.out.2.1 p.b hpz HPNV.out)]; exact HD3.out
            have hlo : w.heap.size + 2 ≤ wr.heap.size := by have := HGI.out.1; have := HZ1b.out; have := HRS.out.2; omega
            have HHI := Lib.hid hlt; have HNM := Lib.hid hnm; clear hnm
            go_wp2_with (first | (at_builtin; refine wpList_append_lies _ rfl (.tmp 43) (.tmp 50) 93 rfl (w.heap.size + 2) 94 i0 (.pointer none) 1 8 Try.underlying93 HI.out HZ0.out HZ1.out HZ2.out rfl (by decide) _ _ _ rfl (HOI.out.alloc _) ⟨wr.heap.size, 0, none⟩ 1 1 [.pointer (some ⟨g, q * 4, none⟩)] ?c0 rfl ?c1 ?c2 (by decide) ?c3 ?c4 ?c5 _ rfl ?_))
            case c2 => rfl
            case c3 => have := HNM.out; unfold maxLen; omega
            case c4 => have := HNM.out; omega
            case c5 => omega
            intro g3 cap3 w3 hown hgr hat hlt3
            have HG3 := Lib.hid (HGI.out.trans (grew_app (n := n0 + q + 1) (cap := cap3) (o := .cells #[.pointer (some ⟨g, q * 4, none⟩)] 94) hgr (by simpa using hat)))
            have HB3 : Hid (Below w.heap.size w w3) := Lib.hid ((HBI.out.alloc HBI.out.size (.cells #[.pointer (some ⟨g, q * 4, none⟩)] 94)).grown hgr (by simp; omega) (fun i hi => by have := (HOI.out.lt _ hi).1; omega))
            have HO3 : Hid (w3.ownsRow (w.heap.size + 2) 94 1 (.slice (some ⟨g3, 0, none⟩) (n0 + q + 1) cap3) (n0 + q + 1) ((kidsM g (p.h - 1) (hdV vs p.xs) (q + 1) ++ ps).reverse.map pQ)) := Lib.hid (by rw [kidsM_rev]; simpa using hown)
            clear hown hgr hat hlt3
            go_wp2
            go_roundw
            case rel => exact ⟨q + 1, by omega, by go_num, HO3, HG3, HB3⟩
            case measure => simp [intOf]; omega
          · have hqm : q = m := by omega
            subst hqm
            have HGD := Lib.hid (HPUSH.out _ _ HGI.out)
            have HLEN : Hid ((kidsM g (p.h - 1) (hdV vs p.xs) q ++ ps).length = n0 + q) := Lib.hid (by rw [List.length_append, kidsM_len, HN0.out]; omega)
            have HBX2 : Hid (wr.heap[w.heap.size + 1]? = some (trow 0 0 ByteArray.empty (.slice none 0 0)) ∧ w.heap.size + 3 ≤ wr.heap.size) := Lib.hid (by
              have h1 := HZ1b.out
              have h2 := HGI.out.1
              have h3 := HRS.out.2
              refine ⟨(HGI.out.2.1 _ (by omega) (fun e => ?_)).trans HBX.out, by omega⟩
              have := HVL2.out g0 rfl
              simp [Value.ownBlock] at e; omega)
            clear hlt
            have hqq : ¬ q < q := by omega
            go_wp2
            go_roundg (todoM (kidsM g (p.h - 1) (hdV vs p.xs) q ++ ps))
            case measure => have := HTD.out; have := HGH.out; omega
            case rel => exact ⟨_, rfl, Lib.hid (by have := HTD.out; have := HT.out; omega), Lib.hid (by rw [HLEN.out]; exact HOI.out), HGD, HBX2, HBI⟩
end Go.Proofs.Ytidbokheeieifaa
