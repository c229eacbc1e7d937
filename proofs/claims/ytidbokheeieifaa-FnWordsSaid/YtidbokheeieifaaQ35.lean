/-
  impl.ReduceWords: the built-in operators are evaluated from the last node to the first.
-/
import Derived.Test.YtidbokheeieifaaQ34
import Derived.Test.YtidbokheeieifaaQ10
namespace Go.Proofs.Ytidbokheeieifaa
open Go.RowKit Go.Shelf Go.Maps Go.WideMaps

attribute [local go_sem] Oper.semAt_some

theorem TabAt.grow {b : Nat} {l : List (ByteArray × Value)} {w w' : World} {row : Option Nat} (h : TabAt b l w) (hg : w.grownBy w' row) (hne : some b ≠ row) : TabAt b l w' := h.kept hg hne

/-- What holds between the rounds. -/
structure RedI (w : World) (L : Lay) (N : Nat) (ob mb n4 : Nat) (ps : List Value) (pre : List (PsI ps)) (W : World) : Prop where
  free : Free L N W
  lo : LayOwn w.heap.size L N N W
  red : pre.map Subtype.val = upto (backV ps) pre.length → RedSt L N (N - pre.length) W
  box : W.heap[ob]? = some (.cells #[.map (some mb)] 88 (0, 0))
  res : W.heap[w.heap.size + 1]? = some (trow 0 0 ByteArray.empty (.slice none 0 0))
  tab : TabAt mb opsL W
  bel : Below w.heap.size w W
  sz : n4 ≤ W.heap.size

theorem Free.keep {L : Lay} {N : Nat} {W W' : World} (f : Free L N W) (hk : ∀ i, i < N → W'.heap[L.b i]? = W.heap[L.b i]?) : Free L N W' := fun i hi => by
  obtain ⟨t, u, hn, hu⟩ := f i hi
  exact ⟨t, u, hn.keep (hk i hi), hu⟩
theorem RedSt.keep {L : Lay} {N q : Nat} {W W' : World} (f : RedSt L N q W) (hk : ∀ i, i < N → W'.heap[L.b i]? = W.heap[L.b i]?) : RedSt L N q W' :=
  ⟨fun x h1 h2 => (f.old x h1 h2).keep (hk x h2), fun x h1 h2 => (f.new x h1 h2).keep (hk x h2)⟩
theorem Free.lt {L : Lay} {N : Nat} {W : World} (f : Free L N W) {i : Nat} (hi : i < N) : L.b i < W.heap.size := by
  obtain ⟨t, u, hn, _⟩ := f i hi
  exact hn.lt
theorem RedI.grown {w : World} {L : Lay} {N ob mb n4 : Nat} {ps : List Value} {pre : List (PsI ps)} {X Y : World} {row : Option Nat} (x : RedI w L N ob mb n4 ps pre X) (hg : X.grownBy Y row) (hL : ∀ i, i < N → L.b i < n4) (ho : ob < n4) (hm : mb < n4) (hw : w.heap.size + 2 ≤ n4) (hr : ∀ r, row = some r → n4 ≤ r) : RedI w L N ob mb n4 ps pre Y := by
  have hz := x.sz
  have hk : ∀ b, b < n4 → Y.heap[b]? = X.heap[b]? := fun b hb => hg.block b (by omega) (fun e => by have := hr b e.symm; omega)
  exact ⟨x.free.keep fun i hi => hk _ (hL i hi), x.lo.keep fun i hi => hk _ (hL i hi), fun hp => (x.red hp).keep fun i hi => hk _ (hL i hi), (hk _ ho).trans x.box, (hk _ (by omega)).trans x.res, x.tab.kept hg (fun e => by have := hr mb e.symm; omega), x.bel.grown hg (by omega) (fun k e => by have := hr k e; omega), Nat.le_trans hz hg.size⟩
theorem RedI.own {w : World} {L : Lay} {N ob mb n4 : Nat} {ps : List Value} (hL : ∀ i, i < N → L.b i < n4) (ho : ob < n4) (hm : mb < n4) (hw : w.heap.size + 2 ≤ n4) : OwnFrom n4 (RedI w L N ob mb n4 ps) := fun pre X Y row hs hg hr => hs.grown hg hL ho hm hw fun r e => (hr r e).1

/-- reduceNode writes only into its node. -/
theorem RedNE.keeps {b o : Nat} {go : Bool} {z : Int} {W W' : World} {e : Ending} (h : RedNE b o go z W e W') (hb : b < W.heap.size) : KeepsOthers W W' ∧ W.heap.size ≤ W'.heap.size ∧ (∀ c, c < W.heap.size → c ≠ b → W'.heap[c]? = W.heap[c]?) ∧ (∀ B w, B ≤ b → B ≤ W.heap.size → Below B w W → Below B w W') ∧ W.grownBy W' (some b) := by
  obtain ⟨_, w1, hb1, rfl⟩ := h
  have k1 : KeepsOthers W w1 := KeepsOthers.of_grownBy (Below.toGrown hb1 none) (fun j o e => by cases e)
  have g1 : W.grownBy w1 (some b) := Below.toGrown hb1 _
  cases go with
  | false =>
    rw [if_neg (by simp)]
    exact ⟨k1, hb1.size, fun c hc _ => hb1.block c hc, fun B w _ h2 h3 => h3.trans (hb1.mono h2), g1⟩
  | true =>
    rw [if_pos rfl]
    refine ⟨k1.trans (((KeepsOthers.setCell _ _ _).trans (KeepsOthers.setCell _ _ _)).trans ((KeepsOthers.setCell _ _ _).trans (KeepsOthers.setCell _ _ _))), by simp [World.setCell]; exact hb1.size, fun c hc hne => ?_, fun B w h1 h2 h3 => ?_, ?_⟩
    · rw [Below.heap_setCell _ _ _ _ (fun e => hne (by simpa using e)), Below.heap_setCell _ _ _ _ (fun e => hne (by simpa using e)), Below.heap_setCell _ _ _ _ (fun e => hne (by simpa using e)), Below.heap_setCell _ _ _ _ (fun e => hne (by simpa using e))]
      exact hb1.block c hc
    · exact ((((h3.trans (hb1.mono h2)).setCell h1 _).setCell h1 _).setCell h1 _).setCell h1 _
    · exact grown_trans (grown_trans (grown_trans (grown_trans g1 (set_grown _ _ _ _)) (set_grown _ _ _ _)) (set_grown _ _ _ _)) (set_grown _ _ _ _)

/-- Nor does it turn a row's form. -/
theorem RedNE.keepsLo {b o : Nat} {go : Bool} {z : Int} {W W' : World} {e : Ending} (h : RedNE b o go z W e W') {B : Nat} {L : Lay} {N q : Nat} (x : LayOwn B L N q W) : LayOwn B L N q W' := by
  obtain ⟨_, w1, hb1, rfl⟩ := h
  cases go with
  | false => rw [if_neg (by simp)]; exact x.below hb1
  | true => rw [if_pos rfl]; exact ((((x.below hb1).set _ _ _).set _ _ _).set _ _ _).set _ _ _

theorem redI_round {w wL : World} {h B : Nat} {L : Lay} {N ob mb n4 gv Bs : Nat} {ps : List Value} {pre : List (PsI ps)} {W W' : World} {x : PsI ps} (lay : LayAt w h B L N N wL) (hB : w.heap.size ≤ B) (hps : ps = ptrs L N) (s : RedI w L N ob mb n4 ps pre W) (hlt : pre.length < N)
    (hob : ∀ i, i < N → L.b i ≠ ob ∧ L.b i ≠ w.heap.size + 1 ∧ L.b i ≠ mb ∧ L.b i ≠ gv ∧ L.b i ≠ Bs) (hn4 : ob < n4 ∧ mb < n4 ∧ w.heap.size + 2 ≤ n4 ∧ gv < n4 ∧ Bs < n4)
    {k n : Int} {sn : ByteArray} {a : Option Addr} {m c g : Nat} {ka na : Int} {sa : ByteArray} {aa : Option Addr} {ma ca : Nat} {kb nb : Int} {sb : ByteArray} {ab : Option Addr} {mb2 cb : Nat}
    (mt : Meet W (L.b x.1.1) (L.o x.1.1) k n sn a m c g ka na sa aa ma ca kb nb sb ab mb2 cb) {e : Ending} (hr : RedNE (L.b x.1.1) (L.o x.1.1) (goB k n sn m (wordV ka na sa ma) (wordV kb nb sb mb2)) (opW sn na nb) W e W') :
    KeepsOthers W W' ∧ KpP Bs gv W W' ∧ RedI w L N ob mb n4 ps (pre ++ [x]) W' := by
  have hpl : ps.length = N := (congrArg List.length hps).trans (ptrs_len L N)
  have hxN : x.1.1 < N := by
    have := (List.getElem?_eq_some_iff.1 x.2).1
    omega
  have hbl := s.free.lt hxN
  obtain ⟨k1, k2, k3, k4, k5⟩ := hr.keeps hbl
  obtain ⟨o1, o2, o3, o4, o5⟩ := hob _ hxN
  have hz := s.sz
  refine ⟨k1, ⟨k2, k3 gv (by omega) (fun e => o4 e.symm), fun v hv => (k3 Bs (by omega) (fun e => o5 e.symm)).trans hv⟩, ?_⟩
  refine ⟨s.free.step lay hxN hr, hr.keepsLo s.lo, fun hp => ?_, (k3 ob (by omega) (fun e => o1 e.symm)).trans s.box, (k3 _ (by omega) (fun e => o2 e.symm)).trans s.res, s.tab.kept k5 (fun e => by cases e; exact o3 rfl), k4 _ _ (Nat.le_trans hB (lay.at_ _ hxN).2) s.bel.size s.bel, Nat.le_trans hz k2⟩
  rw [List.map_append, List.length_append, List.length_singleton, upto_succ] at hp
  have hp1 : pre.map Subtype.val = upto (backV ps) pre.length := by
    have h1 := congrArg (List.take pre.length) hp
    rw [List.take_left' (by simp), List.take_left' (by simp [upto])] at h1
    exact h1
  have hp2 : x.1 = backV ps pre.length := by
    rw [hp1] at hp
    have h2 := List.append_cancel_left hp
    simpa using h2
  have hidx : x.1.1 = N - 1 - pre.length := by
    rw [hp2]
    show ps.length - 1 - pre.length = _
    omega
  have hst := s.red hp1
  rw [show N - pre.length = x.1.1 + 1 by omega] at hst
  have := RedSt.turn lay hxN hst mt hr
  rw [List.length_append, List.length_singleton, show N - (pre.length + 1) = x.1.1 by omega]
  exact this

/-- What the answer is, once all nodes are reduced. -/
theorem red_fin {w wL W : World} {h B : Nat} {L : Lay} {N : Nat} (lay : LayAt w h B L N N wL) (hB : B = w.heap.size) (hN1 : 1 ≤ N) (hN : N ≤ maxLen) (st : RedSt L N 0 W) : ∃ k n s a m c, NodeAt W (L.b 0) (L.o 0) (redT (L.V 0)) (.slice a m c) ∧ ((∃ xs, redT (L.V 0) = .node k n s xs) ∧ slR L 0 = .slice a m c) ∧ (W.cell? ⟨L.b 0, L.o 0, none⟩ = some (.int .i64 k) ∧ W.cell? ⟨L.b 0, L.o 0 + 1, none⟩ = some (.int .i64 n) ∧ W.cell? ⟨L.b 0, L.o 0 + 2, none⟩ = some (.string s) ∧ W.cell? ⟨L.b 0, L.o 0 + 3, none⟩ = some (.slice a m c)) ∧
    TermAt W w.heap.size N (tv k n s (.slice a m c)) (redT (L.V 0)) := by
  have hnode := st.new 0 (Nat.le_refl _) (by omega)
  have harg := st.args lay hN N 0 (by omega) (by omega)
  obtain ⟨a, c, e, _⟩ := slR_len lay (show 0 < N by omega)
  rw [e] at hnode harg
  have hnode2 := hnode
  obtain ⟨k, n, s, xs, e2, hs, c0, c1, c2, c3, _⟩ := hnode2
  refine ⟨k, n, s, a, _, c, hnode, ⟨⟨xs, e2⟩, e⟩, ⟨c0, c1, c2, c3⟩, k, n, s, _, xs, rfl, e2, hs, ?_⟩
  have h2 : ArgsAt W B N (.slice a (kT (redT (L.V 0))).length c) (kT (redT (L.V 0))) := harg
  have h3 : kT (redT (L.V 0)) = xs := by rw [e2]; rfl
  rw [h3] at h2 ⊢
  rw [← hB]; exact h2

/-- A term in blocks of the call's own. -/
def ReadX (r : T) (w : World) (e : Ending) (w' : World) : Prop :=
  ∃ (H : Nat) (k n : Int) (s : ByteArray) (a : Option Addr) (m c : Nat), e = .returned (tv k n s (.slice a m c)) ∧ TermAt w' w.heap.size H (tv k n s (.slice a m c)) r ∧ Below w.heap.size w w' ∧ OwnX w' H w.heap.size w'.heap.size (.slice a m c) (kT r)
theorem ReadX.read {r : T} {w : World} {e : Ending} {w' : World} (c : ReadX r w e w') : ReadE r w e w' := by
  obtain ⟨H, k, n, s, a, m, cc, he, ht, hb, _⟩ := c
  exact ⟨H, k, n, s, a, m, cc, he, ht, hb⟩
theorem RedSt.own {w0 : World} {h B B0 : Nat} {L : Lay} {N : Nat} {wL w : World} (x : LayAt w0 h B L N N wL) (y : LayOwn B0 L N N w) (st : RedSt L N 0 w) : ∀ d i, i < N → N - i ≤ d → OwnS w d (RowsOf L N i) (slR L i) (kT (redT (L.V i)))
  | 0, i, h1, h2 => by omega
  | d + 1, i, h1, h2 => by
    obtain ⟨a, c, e, ha⟩ := slR_len x h1
    obtain ⟨hF, hkid⟩ := x.kid i h1
    obtain ⟨k, n, s, xs, hV⟩ : ∃ k n s xs, L.V i = .node k n s xs := T.form _
    by_cases h0 : kT (redT (L.V i)) = []
    · rw [e, h0]; exact OwnS.nil _ _ _ _ _
    have eg : goesT (L.V i) = false := by
      cases hg : goesT (L.V i) with
      | false => rfl
      | true => rw [hV] at hg h0; rw [red_goes hg] at h0; exact absurd rfl h0
    have ek : kT (redT (L.V i)) = xs.map redT := by rw [hV] at eg ⊢; rw [red_stays eg]; rfl
    have ekV : kT (L.V i) = xs := by rw [hV]; rfl
    have hne : kT (L.V i) ≠ [] := fun e2 => h0 (by rw [ek, ← ekV, e2]; rfl)
    obtain ⟨c', vs, e', ho⟩ := y.row i h1 hne
    have es : slR L i = L.sl i := by unfold slR; rw [eg]; simp
    have hlen : (kT (L.V i)).length = (xs.map redT).length := by rw [ekV, List.length_map]
    rw [es, e', ek]
    rw [hlen] at ho ⊢
    have hFF : ∀ i, i < N → i < L.F i := fun i hi => (x.kid i hi).1
    refine ⟨_, c', rfl, Or.inr ⟨L.g i, vs, fun j => slR L (L.F i + j), fun j => RowsOf L N (L.F i + j), rfl, ⟨i, .self i, h1, hne, rfl⟩, ho, fun j kk nn ss txs hj => ?_, fun j j' hjj hj' b hb hb' => ?_⟩⟩
    · have hjl : j < (kT (L.V i)).length := by rw [hlen]; exact (List.getElem?_eq_some_iff.1 hj).1
      rw [List.getElem?_map] at hj
      obtain ⟨t, ht, he⟩ := Option.map_eq_some_iff.1 hj
      obtain ⟨q1, q2, q3, q4⟩ := hkid j t (by rw [ekV]; exact ht)
      obtain ⟨k', n', s', xs', e'', hs', c0, c1, c2, c3, _⟩ := st.new (L.F i + j) (Nat.zero_le _) q1
      rw [q2, q3] at c3
      have hr := RedSt.own x y st d (L.F i + j) q1 (by omega)
      rw [q4, he] at hr
      refine ⟨?_, fun b hb => hb.up h1 hjl, fun hb => RowsOf.not_up y hFF h1 hne hb, hr⟩
      rw [← ho.cellAt (j * 4 + 3) (by have := hlen; omega)]
      exact c3
    · rw [← hlen] at hj'
      exact RowsOf.apart y hFF h1 (by omega) hj' (by omega) hb hb'

set_option maxRecDepth 100000 in
set_option maxHeartbeats 6400000 in
theorem iRed_in (v : Value) (t : T) (lo h : Nat) (w : World) (ht : TermAt w lo h v t) (hw : cT t ≤ 4294967296) : CallsIn Fence.wide 3 Try.prog 12 #[v] w (ReadX (redT t) w) := by
  obtain ⟨k, n, s, u, xs, rfl, rfl, hs, ha⟩ := ht
  obtain ⟨ua, uc, rfl⟩ := ha.slice
  obtain ⟨um, hum⟩ : ∃ m, m = xs.length := ⟨_, rfl⟩
  rw [← hum] at ha ⊢
  obtain ⟨W0, hW0⟩ : ∃ W0, W0 = (boxed w k n s (.slice ua um uc)).alloc (.cells #[.int .i64 0, .int .i64 0, .string ⟨#[]⟩, .slice none 0 0] 26) := ⟨_, rfl⟩
  have hB0 : Below w.heap.size w W0 := by rw [hW0]; exact (boxed_below w k n s _).alloc (by simp) _
  have hs0 : W0.heap.size = w.heap.size + 2 := by rw [hW0]; simp
  have r0 : W0.heap[w.heap.size]? = some (trow k n s (.slice ua um uc)) := by rw [hW0, Below.heap_alloc _ _ _ (by simp)]; exact heap_new w _ rfl
  have r1 : W0.heap[w.heap.size + 1]? = some (trow 0 0 ByteArray.empty (.slice none 0 0)) := by rw [hW0]; exact heap_new _ _ (by simp)
  have HA := Lib.hid (ha.low (Nat.zero_le _)); clear ha
  have HS := Lib.hid hs; clear hs
  have HB0 := Lib.hid hB0; have HS0 := Lib.hid hs0; have HR := Lib.hid (And.intro r0 r1)
  have HW := Lib.hid hw
  have HUM := Lib.hid hum
  clear hB0 hs0 r0 r1 hw hum
  unfold boxed at hW0
  refine callsIn_of_wp_marks Try.func12 rfl trivial ?_ rfl
  simp only [Try.ntmps12, List.size_toArray, List.length_cons, List.length_nil, Nat.reduceAdd, Nat.reduceSub, Array.replicate_succ, Array.replicate_zero, List.push_toArray, List.append_toArray, List.nil_append, List.cons_append]
  gi_wp2_with fail
  rw [← hW0]
  clear hW0
  refine ⟨trivial, (callsIn_wide.2 (wordOps_any W0)).mono ?_⟩
  rintro e w1 ⟨mb, rfl, hmb, htab, hb1⟩
  obtain ⟨W2, hW2⟩ : ∃ W2, W2 = w1.alloc (.cells #[.map (some mb)] 88) := ⟨_, rfl⟩
  have hb2 : Below w1.heap.size w1 W2 := by rw [hW2]; exact (Below.refl _ _).alloc (Nat.le_refl _) _
  have hz2 : W2.heap.size = w1.heap.size + 1 := by rw [hW2]; simp
  have hbox : W2.heap[w1.heap.size]? = some (.cells #[.map (some mb)] 88 (0, 0)) := by rw [hW2]; exact heap_new _ _ rfl
  have hB2 : Below W0.heap.size W0 W2 := bel_two hb1 hb2
  have htab2 : TabAt mb opsL W2 := htab.below hb2
  have hbw : Below w.heap.size w W2 := HB0.out.trans (hB2.mono (by have := HS0.out; omega))
  have q0 : W2.heap[w.heap.size]? = some (trow k n s (.slice ua um uc)) := (hB2.block _ (by have := HS0.out; omega)).trans HR.out.1
  have q1 : W2.heap[w.heap.size + 1]? = some (trow 0 0 ByteArray.empty (.slice none 0 0)) := (hB2.block _ (by have := HS0.out; omega)).trans HR.out.2
  have hnode : NodeAt W2 w.heap.size 0 (.node k n s xs) (.slice ua um uc) := by
    obtain ⟨⟨c0, c1, c2, c3⟩, f0, f1, f2, f3⟩ := cells_of4 q0
    exact ⟨k, n, s, xs, rfl, HS.out, c0, c1, c2, c3, f0, f1, f2, f3⟩
  have hmbl := htab.lt
  have hz1 := hb1.size
  have HOWN := Lib.hid (ownNodes_any w.heap.size h (.node k n s xs) (.slice ua um uc) w W2 hnode (Nat.le_refl _) hbw HA.out HW.out)
  have H2 := Lib.hid (And.intro hbox (And.intro q1 (And.intro htab2 (And.intro hbw (And.intro hz2 (And.intro hmbl (And.intro hmb hz1)))))))
  clear hb1 hb2 hz2 hbox hB2 htab2 hbw q0 q1 hnode htab hmbl hmb hz1 HR HA
  gi_wp2_with fail
  rw [← hW2]
  clear hW2
  refine ⟨trivial, (callsIn_wide.2 HOWN.out).mono ?_⟩
  rintro e W3 ⟨L, N, v3, rfl, hlay, hN, hL0, hrow, hno, hold, hge, hb3, hlo⟩
  obtain ⟨a3, c3, rfl⟩ := own_formK hrow
  obtain ⟨gv, rfl, hgv⟩ : ∃ g, a3 = some ⟨g, 0, none⟩ ∧ N ≤ c3 := by
    rcases hrow.2 with ⟨e1, h0⟩ | ⟨g, c, cur, e1, hb, hg, hc, _⟩
    · omega
    · cases e1; exact ⟨g, rfl, hc⟩
  have hgl := hrow.lt gv rfl
  have HLO := Lib.hid hlo
  clear hlo
  have H3 := Lib.hid (And.intro hlay (And.intro hN (And.intro hL0 (And.intro hrow (And.intro hno (And.intro hold (And.intro hge (And.intro hb3 (And.intro hgl hgv)))))))))
  clear hlay hN hL0 hrow hno hold hge hb3 hgl hgv HOWN
  gi_wp2_with fail
  refine ⟨trivial, (backwardP_in Fence.wide 2 trivial rfl _ _ _ _).mono ?_⟩
  rintro e w' ⟨rfl, rfl⟩
  gi_wp2_with fail
  have bS := Boxed.new W3 93 (.slice (some ⟨gv, 0, none⟩) N c3)
  obtain ⟨W4, hW4⟩ : ∃ W4, W4 = W3.alloc (.cells #[.slice (some ⟨gv, 0, none⟩) N c3] 93) := ⟨_, rfl⟩
  rw [← hW4] at bS ⊢
  have hz4 : W4.heap.size = W3.heap.size + 1 := by rw [hW4]; simp
  have hb4 : Below W3.heap.size W3 W4 := by rw [hW4]; exact (Below.refl _ _).alloc (Nat.le_refl _) _
  clear hW4
  have hpl : (ptrs L N).length = N := ptrs_len L N
  obtain ⟨hlay, ⟨hN1, hNt⟩, ⟨hLb, hLo, hLV⟩, hrow, hno, hold, hge, hb3, hgl, hgv⟩ := H3.out
  obtain ⟨hbox, q1, htab2, hbw, hz2, hmbl, hmb, hz1⟩ := H2.out
  have hs0 := HS0.out
  have hz3 := hb3.size
  have hN32 : N ≤ 4294967296 := Nat.le_trans hNt HW.out
  have hPt : PtAt W4 gv 0 (ptrs L N) := fun j v hj => by
    have hjl : j < N := by have := (List.getElem?_eq_some_iff.1 hj).1; omega
    refine ⟨?_, ?_⟩
    · rw [Nat.zero_add, hb4.cell hgl.2, hrow.cellAt j (by omega)]; exact hj
    · rw [ptrs_at L N j hjl] at hj
      exact ⟨_, (Option.some.inj hj).symm⟩
  have hold3 : ∀ b, b < W2.heap.size → b ≠ w.heap.size → W4.heap[b]? = W2.heap[b]? := fun b h1 h2 => (hb4.block b (by omega)).trans (hold b h1 h2)
  have hLlt : ∀ i, i < N → L.b i < W4.heap.size := fun i hi => by have := hlay.lt hi; omega
  have hnode4 : ∀ i, i < N → NodeAt W4 (L.b i) (L.o i) (L.V i) (L.sl i) := fun i hi => (hlay.at_ i hi).1.below hb4
  have hst : RedSt L N N W4 := ⟨fun x h1 h2 => hnode4 x h2, fun x h1 h2 => by omega⟩
  have htab4 : TabAt mb opsL W4 := by
    have hg : W2.grownBy W3 (some w.heap.size) := ⟨hb3.os, hb3.tape, hb3.output, hz3, fun i h1 h2 => hold i h1 (fun e => h2 (by rw [e]))⟩
    exact (htab2.kept hg (fun e => by cases e; omega)).below hb4
  have hI0 : RedI w L N w1.heap.size mb W4.heap.size (ptrs L N) [] W4 :=
    ⟨hst.free, (HLO.out.below hb4).le (by have := hbw.size; omega), fun _ => by simpa using hst, (hold3 _ (by omega) (by omega)).trans hbox, (hold3 _ (by omega) (by omega)).trans q1, htab4, hbw.trans (hb3.trans (hb4.mono (by have := hbw.size; omega))), Nat.le_refl _⟩
  have HI0 := Lib.hid hI0; clear hI0
  have hap : ∀ i, i < N → L.b i ≠ w1.heap.size ∧ L.b i ≠ w.heap.size + 1 ∧ L.b i ≠ mb ∧ L.b i ≠ gv ∧ L.b i ≠ W3.heap.size := fun i hi => by
    have h1 := hno i hi
    have h2 := hlay.lt hi
    have h3 : L.b i ≠ gv := fun e => h1 (by rw [e]; rfl)
    by_cases h0 : i = 0
    · subst h0
      rw [hLb] at h2 h3 ⊢
      exact ⟨by omega, by omega, by omega, h3, by omega⟩
    · have := hge i (by omega) hi
      exact ⟨by omega, by omega, by omega, h3, by omega⟩
  have HAP := Lib.hid hap; clear hap
  have HL := Lib.hid (And.intro hlay (And.intro hLlt (And.intro hN1 (And.intro hLb (And.intro hLo hLV)))))
  clear hold3 hnode4 hst htab4 hbox q1 htab2 hbw hlay hLlt hno hold hge hrow hb3
  refine wpIn_rangeFunc_ownH rfl (by omega) (gf := 109) (lb := #[.pointer (some ⟨W3.heap.size, 0, none⟩)]) rfl trivial (enters_of Try.func109 (by kernel_rfl) rfl)
    (backP_stops Fence.wide 2 trivial rfl (by omega) W3.heap.size gv 0 c3 (ptrs L N) (by omega) W4 (by omega) (by rw [hpl]; exact bS) hPt) (fun h k => h.trans k) (kpP_b (by omega) (by omega)) (Below.refl _ _) (fun _ => rfl)
    (RedI w L N w1.heap.size mb W4.heap.size (ptrs L N))
    (fun _ _ _ => False)
    (RedI.own HL.out.2.1 (by omega) (by omega) (by omega))
    (fun _ _ _ _ _ hs _ _ => hs)
    HI0.out
    (fun x a' _ => ∃ y0 y4 y6 y7 y8 y9 y10 y11 y12 y13 y14 : Value, a' = { tmps := #[y0, .pointer (some ⟨w.heap.size, 0, none⟩), .pointer (some ⟨w.heap.size + 1, 0, none⟩), .pointer (some ⟨w1.heap.size, 0, none⟩), y4, x.1.2, y6, y7, y8, y9, y10, y11, y12, y13, y14], defers := [] })
    (fun x a' _ X Y row hs hg hr => hs)
    ?assign ?body ?done ?stop
  case assign =>
    rintro l pre x W K hI hK
    have HI2 := Lib.hid hI; clear hI
    gi_wp2
    exact hK _ _ (KeepsFrom.refl _ _) (KpP.refl _ _ _) HI2.out ⟨_, _, _, _, _, _, _, _, _, _, _, rfl⟩
  case body =>
    rintro l pre ⟨⟨p, pv⟩, hx⟩ a' W hl ⟨r, hr⟩ hI ⟨y0, y4, y6, y7, y8, y9, y10, y11, y12, y13, y14, rfl⟩ hlt
    dsimp only at hx ⊢
    have hpN : p < N := by have := (List.getElem?_eq_some_iff.1 hx).1; omega
    have hpv : pv = .pointer (some ⟨L.b p, L.o p, none⟩) := by
      have h1 := ptrs_at L N p hpN
      have h2 : (ptrs L N)[p]? = some pv := hx
      rw [h1] at h2
      exact (Option.some.inj h2).symm
    subst hpv
    obtain ⟨k9, n9, s9, a9, m9, c9, g9, ka, na, sa, aa, ma, ca, kb, nb, sb, ab, mb2, cb, hmt⟩ := hI.free.meet HL.out.1 hpN
    have hb9 := cell_of_row W w1.heap.size 0 _ _ _ hI.box
    simp at hb9
    have HRN := Lib.hid (redNode_any (L.b p) (L.o p) k9 n9 s9 a9 m9 c9 mb W g9 ka na sa aa ma ca kb nb sb ab mb2 cb hmt.cells.1 hmt.cells.2.1 hmt.cells.2.2.1 hmt.cells.2.2.2 hmt.frz.1 hmt.frz.2.1 hmt.frz.2.2.1 hmt.frz.2.2.2 hmt.small hI.tab hmt.kids)
    have HRD := Lib.hid (fun (e : Ending) (W' : World) (hre : RedNE (L.b p) (L.o p) (goB k9 n9 s9 m9 (wordV ka na sa ma) (wordV kb nb sb mb2)) (opW s9 na nb) W e W') => redI_round (x := ⟨(p, .pointer (some ⟨L.b p, L.o p, none⟩)), hx⟩) (gv := gv) (Bs := W3.heap.size) HL.out.1 (Nat.le_refl _) rfl hI (by omega) HAP.out ⟨by omega, by omega, by omega, by omega, by omega⟩ hmt hre)
    clear hmt hI hr
    gi_wp2_with fail
    refine ⟨trivial, (CallsIn.inRound l (callsIn_wide.2 HRN.out)).mono ?_⟩
    intro e W' hre
    obtain ⟨d1, d2, d3⟩ := HRD.out e W' hre
    obtain ⟨rfl, _⟩ := hre
    gi_wp2_with fail
    exact ⟨d1.from _, d2, d3⟩
  case done =>
    rintro D ys W hD hys hI hK
    have hyl : ys.length = N := by have := congrArg List.length hys; rw [List.length_map, upto_length, hpl] at this; exact this
    have hst := hI.red (by rw [hys, hyl, hpl])
    rw [hyl, Nat.sub_self] at hst
    have hres := hI.res
    obtain ⟨⟨z0, z1, z2, z3⟩, f0, f1, f2, f3⟩ := cells_of4 hres
    obtain ⟨hlay, _, hN1, hLb, hLo, hLV⟩ := HL.out
    obtain ⟨k8, n8, s8, a8, m8, c8, _, hsl8, ⟨c0, c1, c2, c3'⟩, htm⟩ := red_fin hlay rfl hN1 (by unfold maxLen; omega) hst
    have HSL8 := Lib.hid hsl8.2
    clear hsl8
    rw [hLb, hLo] at c0 c1 c2 c3'
    simp only [Nat.zero_add] at c1 c2 c3'
    gi_wp2
    obtain ⟨X1, hX1⟩ : ∃ X1, X1 = ((((W.setCell ⟨w.heap.size + 1, 0, none⟩ (.int .i64 k8)).setCell ⟨w.heap.size + 1, 1, none⟩ (.int .i64 n8)).setCell ⟨w.heap.size + 1, 2, none⟩ (.string s8)).setCell ⟨w.heap.size + 1, 3, none⟩ (.slice a8 m8 c8)) := ⟨_, rfl⟩
    have hoth : ∀ b, b ≠ w.heap.size + 1 → X1.heap[b]? = W.heap[b]? := fun b hb => by
      rw [hX1, Below.heap_setCell _ _ _ _ (fun e => hb (by simpa using e)), Below.heap_setCell _ _ _ _ (fun e => hb (by simpa using e)), Below.heap_setCell _ _ _ _ (fun e => hb (by simpa using e)), Below.heap_setCell _ _ _ _ (fun e => hb (by simpa using e))]
    have hrowX : X1.heap[w.heap.size + 1]? = some (trow k8 n8 s8 (.slice a8 m8 c8)) := by
      rw [hX1]
      exact heap_set_atK (heap_set_atK (heap_set_atK (heap_set_atK hres 0 _) 1 _) 2 _) 3 _
    have hbX1 : Below w.heap.size w X1 := by
      rw [hX1]
      exact ((((hI.bel).setCell (by simp) _).setCell (by simp) _).setCell (by simp) _).setCell (by simp) _
    rw [← hX1]
    clear hX1
    have hK2 : X1.heap[D]? = some (.deferred (some [])) := by rw [hoth D (by omega)]; exact hK
    refine ⟨by simp, .inl ⟨_, _, rfl, run_takeDeferred hK2, ?_⟩⟩
    obtain ⟨X, hX⟩ : ∃ X, X = X1.putObj D (.deferred none) := ⟨_, rfl⟩
    have hgX : X1.grownBy X (some D) := by rw [hX]; exact grownBy_putObj' _ _ _
    rw [← hX]
    clear hX
    have hX1z : W.heap.size ≤ X1.heap.size := by
      have := hI.sz
      rcases Nat.lt_or_ge X1.heap.size W.heap.size with h1 | h1
      · exfalso
        have h2 := hoth (W.heap.size - 1) (by omega)
        have h3 : X1.heap[W.heap.size - 1]? = none := Array.getElem?_eq_none (by omega)
        rw [h3] at h2
        have h4 : W.heap.size - 1 < W.heap.size := by omega
        rw [Array.getElem?_eq_getElem h4] at h2
        cases h2
      · exact h1
    have hsz4 := hI.sz
    have hkX : ∀ b, b < W4.heap.size → b ≠ w.heap.size + 1 → X.heap[b]? = W.heap[b]? := fun b h1 h2 => (hgX.block b (by omega) (fun e => by cases e; omega)).trans (hoth b h2)
    have hbl0 := HL.out.2.1 0 (by omega)
    have hstX := hst.keep (W' := X) (fun i hi => hkX _ (HL.out.2.1 i hi) (HAP.out i hi).2.1)
    obtain ⟨k7, n7, s7, a7, m7, c7, _, _, ⟨e0, e1, e2, e3⟩, htX⟩ := red_fin hlay rfl hN1 (by unfold maxLen; omega) hstX
    rw [hLb, hLo] at e0 e1 e2 e3
    simp only [Nat.zero_add] at e1 e2 e3
    rw [hLb] at hbl0
    have hh0 := hkX w.heap.size hbl0 (by omega)
    rw [cell_heap (ad := ⟨w.heap.size, 0, none⟩) hh0, c0] at e0
    rw [cell_heap (ad := ⟨w.heap.size, 1, none⟩) hh0, c1] at e1
    rw [cell_heap (ad := ⟨w.heap.size, 2, none⟩) hh0, c2] at e2
    rw [cell_heap (ad := ⟨w.heap.size, 3, none⟩) hh0, c3'] at e3
    simp only [Option.some.injEq, Value.int.injEq, true_and, Value.string.injEq, Value.slice.injEq] at e0 e1 e2 e3
    obtain ⟨rfl, rfl, rfl⟩ := e3
    subst e0; subst e1; subst e2
    rw [hLV] at htX
    have hloX := hI.lo.keep (w' := X) (fun i hi => hkX _ (HL.out.2.1 i hi) (HAP.out i hi).2.1)
    have hox := RedSt.own hlay hloX hstX N 0 (by omega) (by omega)
    rw [HSL8.out, hLV] at hox
    have hXX : OwnX X N w.heap.size X.heap.size (.slice a8 m8 c8) (kT (redT (.node k n s xs))) := ⟨_, fun b hb => hb.lt hloX, hox⟩
    have hrX : X.heap[w.heap.size + 1]? = some (trow k8 n8 s8 (.slice a8 m8 c8)) := (hgX.block _ (by omega) (fun e => by cases e; omega)).trans hrowX
    obtain ⟨⟨l0, l1, l2, l3⟩, _⟩ := cells_of4 hrX
    refine ⟨tv k8 n8 s8 (.slice a8 m8 c8), ?_, N, k8, n8, s8, a8, m8, c8, rfl, htX, hbX1.grown hgX (by omega) (fun j e => by cases e; omega), hXX⟩
    rw [results_cell (a := 2) (t := 26) (ad := ⟨w.heap.size + 1, 0, none⟩) rfl rfl]
    go_simp
  case stop =>
    rintro D c pre W _ _ h _
    exact h.elim

/-- The same, unfenced. -/
theorem iRed_own (v : Value) (t : T) (lo h : Nat) (w : World) (ht : TermAt w lo h v t) (hw : cT t ≤ 4294967296) : Calls Try.prog 12 #[v] w (ReadX (redT t) w) :=
  (callsIn_wide (n := 3)).1 (iRed_in v t lo h w ht hw)
theorem iRed_any (v : Value) (t : T) (lo h : Nat) (w : World) (ht : TermAt w lo h v t) (hw : cT t ≤ 4294967296) : Calls Try.prog 12 #[v] w (ReadE (redT t) w) :=
  (iRed_own v t lo h w ht hw).mono fun _ _ q => q.read
end Go.Proofs.Ytidbokheeieifaa
