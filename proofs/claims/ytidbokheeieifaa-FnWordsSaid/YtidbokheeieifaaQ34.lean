/-
  One turn of a node, whatever came before. No walk.
  slices.Backward over a slice of pointers: the contract of its iterator, where each index is known with its element.
-/
import Derived.Test.YtidbokheeieifaaQ33
import Derived.Test.YtidbokheeieifaaQ23
namespace Go.Proofs.Ytidbokheeieifaa
open Go.RowKit Go.Maps Go.WideMaps

/-- Every node lies where it lay. -/
def Free (L : Lay) (N : Nat) (W : World) : Prop := ∀ i, i < N → ∃ t u, NodeAt W (L.b i) (L.o i) t u ∧ (u = L.sl i ∨ u = .slice none 0 0)
theorem RedSt.free {L : Lay} {N i : Nat} {W : World} (st : RedSt L N i W) : Free L N W := fun j hj => by
  by_cases h : j < i
  · exact ⟨_, _, st.old j h hj, Or.inl rfl⟩
  · refine ⟨_, _, st.new j (by omega) hj, ?_⟩
    unfold slR
    split
    · exact Or.inr rfl
    · exact Or.inl rfl

/-- What reduceNode meets at a node. -/
structure Meet (W : World) (b o : Nat) (k n : Int) (s : ByteArray) (a : Option Addr) (m c g : Nat) (ka na : Int) (sa : ByteArray) (aa : Option Addr) (ma ca : Nat) (kb nb : Int) (sb : ByteArray) (ab : Option Addr) (mb cb : Nat) : Prop where
  cells : W.cell? ⟨b, o, none⟩ = some (.int .i64 k) ∧ W.cell? ⟨b, o + 1, none⟩ = some (.int .i64 n) ∧ W.cell? ⟨b, o + 2, none⟩ = some (.string s) ∧ W.cell? ⟨b, o + 3, none⟩ = some (.slice a m c)
  frz : W.frozen? ⟨b, o, none⟩ = false ∧ W.frozen? ⟨b, o + 1, none⟩ = false ∧ W.frozen? ⟨b, o + 2, none⟩ = false ∧ W.frozen? ⟨b, o + 3, none⟩ = false
  small : s.size ≤ maxLen
  kids : m = 2 → a = some ⟨g, 0, none⟩ ∧ (W.cell? ⟨g, 0, none⟩ = some (.int .i64 ka) ∧ W.cell? ⟨g, 1, none⟩ = some (.int .i64 na) ∧ W.cell? ⟨g, 2, none⟩ = some (.string sa) ∧ W.cell? ⟨g, 3, none⟩ = some (.slice aa ma ca)) ∧
      (W.cell? ⟨g, 4, none⟩ = some (.int .i64 kb) ∧ W.cell? ⟨g, 5, none⟩ = some (.int .i64 nb) ∧ W.cell? ⟨g, 6, none⟩ = some (.string sb) ∧ W.cell? ⟨g, 7, none⟩ = some (.slice ab mb cb)) ∧ sa.size ≤ maxLen ∧ sb.size ≤ maxLen

theorem slice_of {w0 : World} {h B : Nat} {L : Lay} {N : Nat} {wL : World} (x : LayAt w0 h B L N N wL) {i : Nat} (hi : i < N) {u : Value} (hu : u = L.sl i ∨ u = .slice none 0 0) : ∃ a m c, u = .slice a m c := by
  rcases hu with rfl | rfl
  · obtain ⟨a, c, e, _⟩ := x.own i hi
    exact ⟨a, _, c, e⟩
  · exact ⟨none, 0, 0, rfl⟩
theorem Free.meet {w0 : World} {h B : Nat} {L : Lay} {N : Nat} {wL W : World} (x : LayAt w0 h B L N N wL) (f : Free L N W) {p : Nat} (hp : p < N) :
    ∃ k n s a m c g ka na sa aa ma ca kb nb sb ab mb cb, Meet W (L.b p) (L.o p) k n s a m c g ka na sa aa ma ca kb nb sb ab mb cb := by
  obtain ⟨t, u, ⟨k, n, s, xs, _, hs, c0, c1, c2, c3, f0, f1, f2, f3⟩, hu⟩ := f p hp
  obtain ⟨a, m, c, rfl⟩ := slice_of x hp hu
  by_cases hm : m = 2
  · subst hm
    obtain ⟨a', c', e, ha⟩ := x.own p hp
    have hl : a = a' ∧ 2 = (kT (L.V p)).length ∧ c = c' := by
      rcases hu with hu | hu
      · rw [e] at hu; simpa using hu
      · simp at hu
    obtain ⟨rfl, hl2, rfl⟩ := hl
    have hne : kT (L.V p) ≠ [] := fun e2 => by rw [e2] at hl2; simp at hl2
    obtain ⟨_, hk⟩ := x.kid p hp
    obtain ⟨t0, ht0⟩ : ∃ t, (kT (L.V p))[0]? = some t := ⟨_, List.getElem?_eq_getElem (by omega)⟩
    obtain ⟨t1, ht1⟩ : ∃ t, (kT (L.V p))[1]? = some t := ⟨_, List.getElem?_eq_getElem (by omega)⟩
    obtain ⟨q1, q2, q3, _⟩ := hk 0 t0 ht0
    obtain ⟨r1, r2, r3, _⟩ := hk 1 t1 ht1
    obtain ⟨ta, ua, ⟨ka, na, sa, xa, _, hsa, a0, a1, a2, a3, _⟩, hua⟩ := f _ q1
    obtain ⟨tb, ub, ⟨kb, nb, sb, xb, _, hsb, b0, b1, b2, b3, _⟩, hub⟩ := f _ r1
    obtain ⟨aa, ma, ca, rfl⟩ := slice_of x q1 hua
    obtain ⟨ab, mb, cb, rfl⟩ := slice_of x r1 hub
    rw [q2, q3] at a0 a1 a2 a3
    rw [r2, r3] at b0 b1 b2 b3
    exact ⟨k, n, s, a, 2, c, L.g p, ka, na, sa, aa, ma, ca, kb, nb, sb, ab, mb, cb, ⟨c0, c1, c2, c3⟩, ⟨f0, f1, f2, f3⟩, hs, fun _ => ⟨ha hne, ⟨by simpa using a0, by simpa using a1, by simpa using a2, by simpa using a3⟩, ⟨by simpa using b0, by simpa using b1, by simpa using b2, by simpa using b3⟩, hsa, hsb⟩⟩
  · exact ⟨k, n, s, a, m, c, 0, 0, 0, ByteArray.empty, none, 0, 0, 0, 0, ByteArray.empty, none, 0, 0, ⟨c0, c1, c2, c3⟩, ⟨f0, f1, f2, f3⟩, hs, fun e => absurd e hm⟩

theorem apart_of {w0 : World} {h B : Nat} {L : Lay} {N : Nat} {wL : World} (x : LayAt w0 h B L N N wL) {p y : Nat} (hp : p < N) (hy : y < N) (hne : y ≠ p) : L.b y = L.b p → L.o y + 4 ≤ L.o p ∨ L.o p + 4 ≤ L.o y := fun hbb => by
  rcases Nat.lt_or_ge y p with h1 | h1
  · exact Or.inl (x.apart y p h1 hp hbb)
  · exact Or.inr (x.apart p y (by omega) hy hbb.symm)
theorem Free.step {w0 : World} {h B : Nat} {L : Lay} {N : Nat} {wL W W' : World} (x : LayAt w0 h B L N N wL) (f : Free L N W) {p : Nat} (hp : p < N) {go : Bool} {z : Int} {e : Ending} (hr : RedNE (L.b p) (L.o p) go z W e W') : Free L N W' := by
  obtain ⟨_, w1, hb1, hw'⟩ := hr
  cases go with
  | true =>
    rw [if_pos rfl] at hw'
    subst hw'
    intro i hi
    obtain ⟨t, u, hn, hu⟩ := f i hi
    by_cases hip : i = p
    · subst hip
      exact ⟨_, _, node_new (hn.below hb1) z, Or.inr rfl⟩
    · exact ⟨t, u, (hn.below hb1).set4 (apart_of x hp hi hip) _ _ _ _, hu⟩
  | false =>
    rw [if_neg (by simp)] at hw'
    subst hw'
    intro i hi
    obtain ⟨t, u, hn, hu⟩ := f i hi
    exact ⟨t, u, hn.below hb1, hu⟩

/-- In the list's order it is the node's turn. -/
theorem RedSt.turn {w0 : World} {h B : Nat} {L : Lay} {N p : Nat} {wL W W' : World} (x : LayAt w0 h B L N N wL) (hp : p < N) (st : RedSt L N (p + 1) W) {k n : Int} {s : ByteArray} {a : Option Addr} {m c g : Nat} {ka na : Int} {sa : ByteArray} {aa : Option Addr} {ma ca : Nat} {kb nb : Int} {sb : ByteArray} {ab : Option Addr} {mb cb : Nat}
    (mt : Meet W (L.b p) (L.o p) k n s a m c g ka na sa aa ma ca kb nb sb ab mb cb) {e : Ending} (hr : RedNE (L.b p) (L.o p) (goB k n s m (wordV ka na sa ma) (wordV kb nb sb mb)) (opW s na nb) W e W') : RedSt L N p W' := by
  obtain ⟨k', n', s', xs, hV, hs', c0, c1, c2, c3, _⟩ := st.old p (by omega) hp
  obtain ⟨d0, d1, d2, d3⟩ := mt.cells
  rw [c0] at d0; rw [c1] at d1; rw [c2] at d2; rw [c3] at d3
  simp only [Option.some.injEq, Value.int.injEq, true_and, Value.string.injEq] at d0 d1 d2 d3
  subst d0; subst d1; subst d2
  obtain ⟨a', c', ea, ha⟩ := x.own p hp
  rw [ea] at d3
  simp only [Value.slice.injEq] at d3
  obtain ⟨rfl, hml, rfl⟩ := d3
  have hkV : kT (L.V p) = xs := by rw [hV]; rfl
  rw [hkV] at hml
  have hkids : xs.length = 2 → (((xs.map redT)[0]?).map wordB = some (wordV ka na sa ma) ∧ ((xs.map redT)[1]?).map wordB = some (wordV kb nb sb mb)) ∧ ((xs.map redT)[0]?).map numT = some na ∧ ((xs.map redT)[1]?).map numT = some nb := by
    intro h2
    obtain ⟨eg, ⟨a0, a1, a2, a3⟩, ⟨b0, b1, b2, b3⟩, _, _⟩ := mt.kids (by omega)
    have hne : kT (L.V p) ≠ [] := fun e2 => by rw [hkV] at e2; rw [e2] at h2; simp at h2
    have hgg := ha hne
    rw [eg] at hgg
    simp only [Option.some.injEq, Addr.mk.injEq, and_true] at hgg
    obtain ⟨hF, hk⟩ := x.kid p hp
    rw [hkV] at hk
    obtain ⟨t0, ht0⟩ : ∃ t, xs[0]? = some t := ⟨_, List.getElem?_eq_getElem (by omega)⟩
    obtain ⟨t1, ht1⟩ : ∃ t, xs[1]? = some t := ⟨_, List.getElem?_eq_getElem (by omega)⟩
    have one : ∀ j t, xs[j]? = some t → ∀ (kk nn : Int) (ss : ByteArray) (a9 : Option Addr) (m9 c9 : Nat), W.cell? ⟨g, j * 4, none⟩ = some (.int .i64 kk) → W.cell? ⟨g, j * 4 + 1, none⟩ = some (.int .i64 nn) → W.cell? ⟨g, j * 4 + 2, none⟩ = some (.string ss) → W.cell? ⟨g, j * 4 + 3, none⟩ = some (.slice a9 m9 c9) →
        wordB (redT t) = wordV kk nn ss m9 ∧ numT (redT t) = nn := by
      intro j t hj kk nn ss a9 m9 c9 z0 z1 z2 z3
      obtain ⟨q1, q2, q3, q4⟩ := hk j t hj
      obtain ⟨k8, n8, s8, x8, e8, _, y0, y1, y2, y3, _⟩ := st.new (L.F p + j) (by omega) q1
      obtain ⟨a7, c7, e7, _⟩ := slR_len x q1
      rw [q4] at e8 e7
      rw [q2, q3, ← hgg] at y0 y1 y2 y3
      rw [z0] at y0; rw [z1] at y1; rw [z2] at y2; rw [z3, e7] at y3
      simp only [Option.some.injEq, Value.int.injEq, true_and, Value.string.injEq, Value.slice.injEq] at y0 y1 y2 y3
      rw [e8] at y3 ⊢
      obtain ⟨_, y3, _⟩ := y3
      rw [y0, y1, y2, y3]
      exact ⟨rfl, rfl⟩
    obtain ⟨w1, w2⟩ := one 0 t0 ht0 ka na sa aa ma ca (by simpa using a0) (by simpa using a1) (by simpa using a2) (by simpa using a3)
    obtain ⟨v1, v2⟩ := one 1 t1 ht1 kb nb sb ab mb cb (by simpa using b0) (by simpa using b1) (by simpa using b2) (by simpa using b3)
    rw [List.getElem?_map, List.getElem?_map, ht0, ht1]
    simp only [Option.map_some, w1, w2, v1, v2]
    exact ⟨⟨trivial, trivial⟩, trivial, trivial⟩
  rw [← hml] at hr
  refine RedSt.step x hp st hV (goB_eq fun h2 => (hkids h2).1) (fun hgo => ?_) hr
  have hl2 : xs.length = 2 := by
    unfold goB at hgo
    simp at hgo
    exact hgo.2.2.2.1
  obtain ⟨_, n1, n2⟩ := hkids hl2
  rw [n1, n2]
  rfl
end Go.Proofs.Ytidbokheeieifaa
namespace Go.Proofs.Ytidbokheeieifaa
open Go.RowKit Go.Shelf

attribute [local go_sem] Oper.semAt_some

/-- The pointers lie in the cells from o on. -/
def PtAt (w : World) (b o : Nat) (ps : List Value) : Prop := ∀ j v, ps[j]? = some v → w.cell? ⟨b, o + j, none⟩ = some v ∧ ∃ ad, v = .pointer ad
/-- The pointers from the last to the first, with their indices. -/
def backV (ps : List Value) (j : Nat) : Nat × Value := (ps.length - 1 - j, (ps[ps.length - 1 - j]?).getD undef)
theorem backV_next (ps : List Value) (p : Nat) (d : Value) (h : ps[p]? = some d) : upto (backV ps) (ps.length - p) = upto (backV ps) (ps.length - (p + 1)) ++ [(p, d)] := by
  have hp := (List.getElem?_eq_some_iff.1 h).1
  have e1 : ps.length - p = ps.length - (p + 1) + 1 := by omega
  have e2 : backV ps (ps.length - (p + 1)) = (p, d) := by
    have e3 : ps.length - 1 - (ps.length - (p + 1)) = p := by omega
    unfold backV
    rw [e3, h]; rfl
  rw [e1, upto_succ, e2]
/-- What a round must keep: the row of the pointers, and the box that the iterator reads. -/
def KpP (Bs b : Nat) (A B : World) : Prop := A.heap.size ≤ B.heap.size ∧ B.heap[b]? = A.heap[b]? ∧ ∀ v, Boxed A Bs 93 v → Boxed B Bs 93 v
theorem KpP.refl (Bs b : Nat) (A : World) : KpP Bs b A A := ⟨Nat.le_refl _, rfl, fun _ h => h⟩
theorem KpP.trans {Bs b : Nat} {A B C : World} (h : KpP Bs b A B) (k : KpP Bs b B C) : KpP Bs b A C := ⟨Nat.le_trans h.1 k.1, k.2.1.trans h.2.1, fun v q => k.2.2 v (h.2.2 v q)⟩
theorem PtAt.keep {A B : World} {b o : Nat} {ps : List Value} (k : PtAt A b o ps) (h : B.heap[b]? = A.heap[b]?) : PtAt B b o ps := fun j v hj => by
  obtain ⟨c, e⟩ := k j v hj
  refine ⟨?_, e⟩
  unfold World.cell? at *
  rw [h]; exact c

set_option maxRecDepth 100000 in
set_option maxHeartbeats 2000000 in
theorem backP1_in (F : Fence) (n : Nat) (hF : F.fn 109) (hro : F.round = none) (hn : 1 ≤ n) (l Bs b o cap : Nat) (ps : List Value) (hlen : ps.length ≤ 4294967296) (J Jx : List (Nat × Value) → World → Prop)
    (hY : ∀ pre x W, ps[x.1]? = some x.2 → J pre W → pre.length < ps.length → YieldAt F (n - 1) Try.prog l #[.int .i64 (x.1 : Int), x.2] W fun e W' =>
      (e = .returned (.bool true) ∧ J (pre ++ [x]) W' ∧ KpP Bs b W W') ∨ (e = .returned (.bool false) ∧ Jx (pre ++ [x]) W'))
    (W : World) (hBs : Boxed W Bs 93 (.slice (some ⟨b, o, none⟩) ps.length cap)) (hc : PtAt W b o ps) (h0 : J [] W) :
    CallsIn F n Try.prog 109 #[.func (.yield l) #[] #[], .pointer (some ⟨Bs, 0, none⟩)] W fun e W' => (∃ v, e = .returned v) ∧
      ((∃ ys, ys = upto (backV ps) ps.length ∧ J ys W') ∨ (∃ pre, (∃ k, k ≤ ps.length ∧ pre = upto (backV ps) k) ∧ Jx pre W')) := by
  refine callsIn_of_wp Try.func109 rfl hF ?_ hro
  simp only [Try.ntmps109, List.size_toArray, List.length_cons, List.length_nil, Nat.reduceAdd, Nat.reduceSub, Array.replicate_succ, Array.replicate_zero, List.push_toArray, List.append_toArray, List.nil_append, List.cons_append]
  have hbc := hBs.cell
  gi_wp2
  gi_loopw [3] (fun i wr => ∃ q : Nat, q ≤ ps.length ∧ i = .int .i64 ((q : Int) - 1) ∧ J (upto (backV ps) (ps.length - q)) wr ∧ KpP Bs b W wr)
    (fun i _ => (intOf i + 1).toNat)
  case atStart => exact ⟨ps.length, Nat.le_refl _, rfl, by rw [Nat.sub_self]; exact h0, KpP.refl _ _ _⟩
  case round =>
    obtain ⟨q, hq, rfl, hJs, hnx⟩ := hrel
    cases q with
    | succ p =>
      obtain ⟨d, hd⟩ : ∃ d, ps[p]? = some d := ⟨_, List.getElem?_eq_getElem (by omega)⟩
      obtain ⟨d0, ad, rfl⟩ := (hc.keep hnx.2.1) p d hd
      have hbx := (hnx.2.2 _ hBs).cell
      obtain ⟨fn, tmps, assign, body, hy, hR⟩ := hY _ (p, .pointer ad) wr hd hJs (by rw [upto_length]; omega)
      dsimp only at hy
      have e1 : (((p + 1 : Nat) : Int) - 1) = (p : Int) := by omega
      rw [e1]
      have hpl : p < ps.length := by omega
      have hnext := backV_next ps p _ hd
      have HNX := Lib.hid hnext; clear hnext
      have HD := Lib.hid hd; clear hd
      gi_wp2
      refine hR.mono ?_
      rintro e W3 (⟨rfl, hJ3, hk3⟩ | ⟨rfl, hJx3⟩)
      · gi_wp2
        go_roundw
        case rel => exact ⟨p, by omega, rfl, by rw [HNX.out]; exact hJ3, hnx.trans hk3⟩
        case measure => simp [intOf]
      · gi_wp2
        refine bodyPost_ret (results_none rfl _ _ _) rfl ?_
        exact ⟨⟨_, rfl⟩, .inr ⟨_, ⟨ps.length - p, by omega, HNX.out.symm⟩, hJx3⟩⟩
    | zero =>
      gi_wp2
      go_end0
      exact ⟨⟨_, rfl⟩, .inl ⟨_, by simp, hJs⟩⟩

set_option maxHeartbeats 1000000 in
/-- slices.Backward(s): the slice value is boxed; the function value captures the box. -/
theorem backwardP_in (F : Fence) (n : Nat) (hF : F.fn 57) (hro : F.round = none) (a : Option Addr) (len cap : Nat) (w : World) :
    CallsIn F n Try.prog 57 #[.slice a len cap] w fun e w' =>
      e = .returned (.func (.func 109) #[] #[.pointer (some ⟨w.heap.size, 0, none⟩)]) ∧ w' = w.alloc (.cells #[.slice a len cap] 93) := by
  refine callsIn_of_wp Try.func57 rfl hF ?_ hro
  simp only [Try.ntmps57, List.size_toArray, List.length_cons, List.length_nil, Nat.reduceAdd, Nat.reduceSub, Array.replicate_succ, Array.replicate_zero, List.push_toArray, List.append_toArray, List.nil_append, List.cons_append]
  gi_wp2
  go_ret
  exact ⟨rfl, rfl⟩

/-- An index and its pointer. -/
abbrev PsI (ps : List Value) := { x : Nat × Value // ps[x.1]? = some x.2 }
/-- The iterator hands out all pointers, from the last to the first, each with its index. -/
theorem backP_stops (F : Fence) (n : Nat) (hF : F.fn 109) (hro : F.round = none) (hn : 1 ≤ n) (Bs b o cap : Nat) (ps : List Value) (hlen : ps.length ≤ 4294967296) (w : World) (hb : b < w.heap.size)
    (hBs : Boxed w Bs 93 (.slice (some ⟨b, o, none⟩) ps.length cap)) (hI : PtAt w b o ps) :
    SeqStopsK F n Try.prog 109 #[.pointer (some ⟨Bs, 0, none⟩)] (fun x : PsI ps => #[Value.int .i64 (x.1.1 : Int), x.1.2]) (KpP Bs b)
      (fun ys => ys.map Subtype.val = upto (backV ps) ps.length) (fun pre => ∃ k, k ≤ ps.length ∧ pre.map Subtype.val = upto (backV ps) k) ps.length w := fun l J Jx W hW _ _ hY h0 => by
  have hB' : Boxed W Bs 93 (.slice (some ⟨b, o, none⟩) ps.length cap) := (hW.block Bs hBs.lt).trans hBs
  refine (backP1_in F n hF hro hn l Bs b o cap ps hlen (fun pre W => ∃ pre' : List (PsI ps), pre'.map Subtype.val = pre ∧ J pre' W) (fun pre W => ∃ pre' : List (PsI ps), pre'.map Subtype.val = pre ∧ Jx pre' W) (fun pre x W hx hj hl => ?_) W hB' (hI.keep (hW.block b hb)) ⟨[], rfl, h0⟩).mono fun e W' ⟨he, hj⟩ => ⟨he, ?_⟩
  · obtain ⟨pre', rfl, hj⟩ := hj
    obtain ⟨fn, tmps, assign, body, hy, hR⟩ := hY pre' ⟨x, hx⟩ W hj (by simpa using hl)
    refine ⟨fn, tmps, assign, body, hy, hR.mono fun e W' h => ?_⟩
    rcases h with ⟨h1, h2, h3⟩ | ⟨h1, h2⟩
    · exact Or.inl ⟨h1, ⟨pre' ++ [⟨x, hx⟩], by simp, h2⟩, h3⟩
    · exact Or.inr ⟨h1, ⟨pre' ++ [⟨x, hx⟩], by simp, h2⟩⟩
  · rcases hj with ⟨ys, rfl, ys', h1, h2⟩ | ⟨pre, ⟨k, hk, rfl⟩, pre', h1, h2⟩
    · exact .inl ⟨ys', h1, h2⟩
    · exact .inr ⟨pre', ⟨k, hk, h1⟩, h2⟩
theorem kpP_b {Bs b : Nat} {w : World} (hb : b < w.heap.size) (hs : Bs < w.heap.size) (W : World) (l : Nat) (o o' : Obj) (hl : w.heap.size ≤ l) (h : W.heap[l]? = some o) (h1 : o.isCells = false) (h2 : o.isWalk = false) : KpP Bs b W (W.putObj l o') :=
  ⟨(grownBy_putObj' W l o').size, (grownBy_putObj' W l o').block b (by have := (Array.getElem?_eq_some_iff.1 h).1; omega) (fun e => by cases e; omega), fun v hv => hv.kept (grownBy_putObj' W l o') (fun e => by cases e; omega)⟩
end Go.Proofs.Ytidbokheeieifaa
