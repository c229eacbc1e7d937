/-
  A term of which all rows below are a call's own and lie apart, with what they hold; a copy in the making: what is still to be copied, and what it will have been worth. No walk.
  What the growth of a slice of the call's own leaves as it was. No walk.
-/
import Derived.Test.YtcmhiindjponcaaDoorQ4
import Derived.Lib.Hide
namespace Go.Proofs.YtcmhiindjponcaaDoor
open Go.RowKit

/-- The slice value u holds the terms ts; its rows, and those below, are owned, lie in blocks from lo to hi of which Q holds, and lie apart. -/
def OwnR (Q : Nat → Prop) (w : World) : Nat → Nat → Nat → Value → List T → Prop
  | 0, _, _, u, ts => ts = [] ∧ ∃ a cap, u = .slice a 0 cap
  | h + 1, lo, hi, u, ts => ∃ a cap, u = .slice a ts.length cap ∧ ts.length ≤ maxLen ∧ (ts = [] ∨ ∃ (g : Nat) (xs : List Value) (U : Nat → Value) (L R : Nat → Nat), a = some ⟨g, 0, none⟩ ∧ Q g ∧ lo ≤ g ∧ g < hi ∧ w.ownsRow g 26 4 u ts.length xs ∧
      (∀ i k n s txs, ts[i]? = some (T.node k n s txs) → (s.size ≤ maxLen ∧ xs[i * 4]? = some (.int .i64 k) ∧ xs[i * 4 + 1]? = some (.int .i64 n) ∧ xs[i * 4 + 2]? = some (.string s)) ∧ xs[i * 4 + 3]? = some (U i) ∧ lo ≤ L i ∧ R i ≤ hi ∧ (g < L i ∨ R i ≤ g) ∧ OwnR Q w h (L i) (R i) (U i) txs) ∧
      (∀ i j, i < j → j < ts.length → R i ≤ L j ∨ R j ≤ L i))

theorem OwnR.own {Q : Nat → Prop} {w : World} : ∀ {h lo hi : Nat} {u : Value} {ts : List T}, OwnR Q w h lo hi u ts → OwnA w h lo hi u ts
  | 0, _, _, _, _, k => k
  | h + 1, lo, hi, u, ts, ⟨a, cap, e, _, hc⟩ => by
    refine ⟨a, cap, e, ?_⟩
    rcases hc with hc | ⟨g, xs, U, L, R, ea, _, h1, h2, ho, hx, hd⟩
    · exact Or.inl hc
    · refine Or.inr ⟨g, xs, U, L, R, ea, h1, h2, ho, fun i k n s txs hi => ?_, hd⟩
      obtain ⟨_, x3, l1, l2, l3, hr⟩ := hx i k n s txs hi
      exact ⟨x3, l1, l2, l3, hr.own⟩
theorem OwnR.args {Q : Nat → Prop} {w : World} {m : Nat} : ∀ {h lo hi : Nat} {u : Value} {ts : List T}, m ≤ lo → OwnR Q w h lo hi u ts → ArgsAt w m h u ts
  | 0, _, _, _, _, _, k => k
  | h + 1, lo, hi, u, ts, hm, ⟨a, cap, e, hl, hc⟩ => by
    refine ⟨a, cap, e, hl, ?_⟩
    rcases hc with hc | ⟨g, xs, U, L, R, ea, _, h1, h2, ho, hx, hd⟩
    · exact Or.inl hc
    · subst ea
      subst e
      refine Or.inr ⟨g, 0, rfl, by omega, fun i k n s txs hi => ?_⟩
      obtain ⟨⟨hs, x0, x1, x2⟩, x3, l1, l2, l3, hr⟩ := hx i k n s txs hi
      have hil : i < ts.length := (List.getElem?_eq_some_iff.1 hi).1
      refine ⟨hs, U i, ?_, ?_, ?_, ?_, hr.args (by omega)⟩
      · rw [Nat.zero_add, ho.cellAt (i * 4) (by omega), x0]
      · rw [Nat.zero_add, ho.cellAt (i * 4 + 1) (by omega), x1]
      · rw [Nat.zero_add, ho.cellAt (i * 4 + 2) (by omega), x2]
      · rw [Nat.zero_add, ho.cellAt (i * 4 + 3) (by omega), x3]
theorem OwnR.keep {Q Q' : Nat → Prop} {w w' : World} : ∀ {h lo hi : Nat} {u : Value} {ts : List T}, (∀ b, Q b → lo ≤ b → b < hi → w'.heap[b]? = w.heap[b]? ∧ Q' b) → OwnR Q w h lo hi u ts → OwnR Q' w' h lo hi u ts
  | 0, _, _, _, _, _, k => k
  | h + 1, lo, hi, u, ts, hk, ⟨a, cap, e, hl, hc⟩ => by
    refine ⟨a, cap, e, hl, ?_⟩
    rcases hc with hc | ⟨g, xs, U, L, R, rfl, hq, h1, h2, ho, hx, hd⟩
    · exact Or.inl hc
    · subst e
      refine Or.inr ⟨g, xs, U, L, R, rfl, (hk g hq h1 h2).2, h1, h2, row_keep ho (hk g hq h1 h2).1, fun i k n s txs hi => ?_, hd⟩
      obtain ⟨c, x3, l1, l2, l3, hr⟩ := hx i k n s txs hi
      exact ⟨c, x3, l1, l2, l3, hr.keep (fun b hb b1 b2 => hk b hb (by omega) (by omega))⟩
theorem OwnR.wide {Q : Nat → Prop} {w : World} : ∀ {h lo hi lo' hi' : Nat} {u : Value} {ts : List T}, lo' ≤ lo → hi ≤ hi' → OwnR Q w h lo hi u ts → OwnR Q w h lo' hi' u ts
  | 0, _, _, _, _, _, _, _, _, k => k
  | h + 1, lo, hi, lo', hi', u, ts, w1, w2, ⟨a, cap, e, hl, hc⟩ => by
    refine ⟨a, cap, e, hl, ?_⟩
    rcases hc with hc | ⟨g, xs, U, L, R, ea, hq, h1, h2, ho, hx, hd⟩
    · exact Or.inl hc
    · refine Or.inr ⟨g, xs, U, L, R, ea, hq, by omega, by omega, ho, fun i k n s txs hi => ?_, hd⟩
      obtain ⟨c, x3, l1, l2, l3, hr⟩ := hx i k n s txs hi
      exact ⟨c, x3, by omega, by omega, l3, hr⟩
theorem OwnR.nil (Q : Nat → Prop) (w : World) (h lo hi : Nat) (a : Option Addr) (cap : Nat) : OwnR Q w h lo hi (.slice a 0 cap) [] := by
  cases h with
  | zero => exact ⟨rfl, a, cap, rfl⟩
  | succ h => exact ⟨a, cap, rfl, Nat.zero_le _, Or.inl rfl⟩
theorem OwnR.slice {Q : Nat → Prop} {w : World} {h lo hi : Nat} {u : Value} {ts : List T} (k : OwnR Q w h lo hi u ts) : ∃ a cap, u = .slice a ts.length cap := k.own.slice

/-- A node whose arguments are still those of another term: where it lies, what its fourth cell holds, the terms that are read there. -/
structure Pd where
  b : Nat
  o : Nat
  h : Nat
  u : Value
  xs : List T
/-- A block that is not a slice's own. -/
def NotOwn (v : Value) (g : Nat) : Prop := some g ≠ v.ownBlock

theorem setCell_heap {w w' : World} {ad : Addr} {x : Value} (h : w'.heap[ad.block]? = w.heap[ad.block]?) : (w'.setCell ad x).heap[ad.block]? = (w.setCell ad x).heap[ad.block]? := by
  unfold World.setCell
  simp only [Array.getElem?_modify]
  simp [h]

/-- The node was copied: only its fourth cell has turned, beside the slice v of what is still to do, which may have moved; its arguments lie in new blocks. -/
structure Done (p : Pd) (v : Value) (w : World) (v' : Value) (w' : World) (u' : Value) : Prop where
  size : w.heap.size ≤ w'.heap.size
  keep : ∀ b, b < w.heap.size → b ≠ p.b → NotOwn v b → w'.heap[b]? = w.heap[b]?
  cell : w'.heap[p.b]? = (w.setCell ⟨p.b, p.o + 3, none⟩ u').heap[p.b]?
  ob : v'.ownBlock = v.ownBlock ∨ ∃ k, v'.ownBlock = some k ∧ w.heap.size ≤ k
  own : OwnR (NotOwn v') w' p.h w.heap.size w'.heap.size u' p.xs

/-- What is still to do, the next one first, is worth Fin: once all of it is done, Fin holds. -/
def GoodW (w0 : World) (Pb : Nat → Prop) (Fin : World → Prop) : List Pd → Value → World → Prop
  | [], _, w => Fin w
  | p :: ps, v, w => (w.cell? ⟨p.b, p.o + 3, none⟩ = some p.u ∧ w.frozen? ⟨p.b, p.o + 3, none⟩ = false ∧ Pb p.b ∧ p.b < w.heap.size ∧ NotOwn v p.b ∧ ArgsAt w0 0 p.h p.u p.xs) ∧ ∀ v' w' u', Done p v w v' w' u' → GoodW w0 Pb Fin ps v' w'

/-- An argument of a node whose row of arguments is the call's own. -/
def kid (g h : Nat) (U : Nat → Value) (X : Nat → List T) (j : Nat) : Pd := ⟨g, j * 4, h, U j, X j⟩
def kidL (g h : Nat) (U : Nat → Value) (X : Nat → List T) : Nat → List Pd
  | 0 => []
  | j + 1 => kid g h U X j :: kidL g h U X j

/-- A node whose row was copied, and whose arguments from j on are done. -/
structure Mid (p : Pd) (v : Value) (w : World) (g cap h : Nat) (U : Nat → Value) (j : Nat) (vj : Value) (wj : World) : Prop where
  size : w.heap.size ≤ wj.heap.size
  keep : ∀ b, b < w.heap.size → b ≠ p.b → NotOwn v b → wj.heap[b]? = w.heap[b]?
  cell : wj.heap[p.b]? = (w.setCell ⟨p.b, p.o + 3, none⟩ (.slice (some ⟨g, 0, none⟩) p.xs.length cap)).heap[p.b]?
  ob : vj.ownBlock = v.ownBlock ∨ ∃ k, vj.ownBlock = some k ∧ w.heap.size ≤ k
  gs : g < wj.heap.size
  gn : NotOwn vj g
  row : ∃ (ys : List Value) (V : Nat → Value) (L R : Nat → Nat), wj.ownsRow g 26 4 (.slice (some ⟨g, 0, none⟩) p.xs.length cap) p.xs.length ys ∧
    (∀ i k n s txs, p.xs[i]? = some (.node k n s txs) → (s.size ≤ maxLen ∧ ys[i * 4]? = some (.int .i64 k) ∧ ys[i * 4 + 1]? = some (.int .i64 n) ∧ ys[i * 4 + 2]? = some (.string s)) ∧ (i < j → ys[i * 4 + 3]? = some (U i)) ∧
      (j ≤ i → ys[i * 4 + 3]? = some (V i) ∧ g < L i ∧ w.heap.size ≤ L i ∧ R i ≤ wj.heap.size ∧ OwnR (NotOwn vj) wj h (L i) (R i) (V i) txs)) ∧
    ∀ i i', j ≤ i → i < i' → i' < p.xs.length → R i' ≤ L i

theorem ob_trans {v1 v2 v3 : Value} {n1 n2 : Nat} (hn : n1 ≤ n2) (h1 : v2.ownBlock = v1.ownBlock ∨ ∃ k, v2.ownBlock = some k ∧ n1 ≤ k) (h2 : v3.ownBlock = v2.ownBlock ∨ ∃ k, v3.ownBlock = some k ∧ n2 ≤ k) :
    v3.ownBlock = v1.ownBlock ∨ ∃ k, v3.ownBlock = some k ∧ n1 ≤ k := by
  rcases h2 with h2 | ⟨k, e, hk⟩
  · rw [h2]; exact h1
  · exact Or.inr ⟨k, e, by omega⟩
theorem notOwn_old {v v' : Value} {n b : Nat} (h : v'.ownBlock = v.ownBlock ∨ ∃ k, v'.ownBlock = some k ∧ n ≤ k) (hb : b < n) (hv : NotOwn v b) : NotOwn v' b := by
  unfold NotOwn at *
  rcases h with h | ⟨k, e, hk⟩
  · rw [h]; exact hv
  · rw [e]; intro e2; cases e2; omega

theorem Mid.step {p : Pd} {v : Value} {w : World} {g cap h : Nat} {U : Nat → Value} {X : Nat → List T} {j : Nat} {vj : Value} {wj : World} {v' : Value} {w' : World} {u' : Value} (m : Mid p v w g cap h U (j + 1) vj wj) (d : Done (kid g h U X j) vj wj v' w' u')
    (hg : w.heap.size ≤ g) (hp : p.b < w.heap.size) (hpo : NotOwn v p.b) (hj : j < p.xs.length) (hX : ∀ i k n s txs, p.xs[i]? = some (.node k n s txs) → txs = X i) : Mid p v w g cap h U j v' w' := by
  obtain ⟨ys, V, L, R, ho, hx, hd⟩ := m.row
  have hyl := ho.1
  have dk : ∀ b, b < wj.heap.size → b ≠ g → NotOwn vj b → w'.heap[b]? = wj.heap[b]? := d.keep
  have ms := m.size
  have ds := d.size
  refine ⟨Nat.le_trans m.size d.size, fun b hb hne hno => ?_, ?_, ob_trans m.size m.ob d.ob, Nat.lt_of_lt_of_le m.gs d.size, notOwn_old d.ob m.gs m.gn, ?_⟩
  · exact (dk b (by omega) (by omega) (notOwn_old m.ob hb hno)).trans (m.keep b hb hne hno)
  · exact (dk p.b (by omega) (by omega) (notOwn_old m.ob hp hpo)).trans m.cell
  · have hst := (ho.stored (j * 4 + 3) u').1
    have hrow := row_keep hst (w' := w') (d.cell : w'.heap[g]? = (wj.setCell ⟨g, j * 4 + 3, none⟩ u').heap[g]?)
    refine ⟨ys.set (j * 4 + 3) u', fun i => if i = j then u' else V i, fun i => if i = j then wj.heap.size else L i, fun i => if i = j then w'.heap.size else R i, hrow, fun i k n s txs hi => ?_, fun i i' h1 h2 h3 => ?_⟩
    · obtain ⟨⟨c0, c1, c2, c3⟩, hlo, hhi⟩ := hx i k n s txs hi
      refine ⟨⟨c0, by rw [List.getElem?_set_ne (by omega)]; exact c1, by rw [List.getElem?_set_ne (by omega)]; exact c2, by rw [List.getElem?_set_ne (by omega)]; exact c3⟩, fun hlt => ?_, fun hle => ?_⟩
      · rw [List.getElem?_set_ne (by omega)]; exact hlo (by omega)
      · by_cases e : i = j
        · subst e
          simp only [if_true]
          have hown := d.own
          have hxs : (kid g h U X i).xs = txs := (hX i k n s txs hi).symm
          rw [hxs] at hown
          exact ⟨List.getElem?_set_self (by omega), m.gs, m.size, Nat.le_refl _, hown⟩
        · simp only [if_neg e]
          obtain ⟨x3, l1, l2, l3, hr⟩ := hhi (by omega)
          rw [List.getElem?_set_ne (by omega)]
          exact ⟨x3, l1, l2, by omega, hr.keep (fun b hb b1 b2 => ⟨dk b (by omega) (by omega) hb, notOwn_old d.ob (by omega) hb⟩)⟩
    · by_cases e : i = j
      · subst e
        have e2 : i' ≠ i := by omega
        simp only [if_true, if_neg e2]
        obtain ⟨t, ht⟩ : ∃ t, p.xs[i']? = some t := ⟨_, List.getElem?_eq_getElem h3⟩
        obtain ⟨k, n, s, txs⟩ := t
        obtain ⟨_, _, hhi⟩ := hx i' k n s txs ht
        exact (hhi (by omega)).2.2.2.1
      · have e2 : i' ≠ j := by omega
        simp only [if_neg e, if_neg e2]
        exact hd i i' (by omega) h2 h3

theorem Mid.done {p : Pd} {v : Value} {w : World} {g cap h : Nat} {U : Nat → Value} {vj : Value} {wj : World} (m : Mid p v w g cap h U 0 vj wj) (hg : w.heap.size ≤ g) (hl : p.xs.length ≤ maxLen) (hh : p.h = h + 1) :
    Done p v w vj wj (.slice (some ⟨g, 0, none⟩) p.xs.length cap) := by
  obtain ⟨ys, V, L, R, ho, hx, hd⟩ := m.row
  refine ⟨m.size, m.keep, m.cell, m.ob, ?_⟩
  rw [hh]
  refine ⟨_, cap, rfl, hl, Or.inr ⟨g, ys, V, L, R, rfl, m.gn, hg, m.gs, ho, fun i k n s txs hi => ?_, fun i j h1 h2 => Or.inr (hd i j (Nat.zero_le _) h1 h2)⟩⟩
  obtain ⟨c, _, hhi⟩ := hx i k n s txs hi
  obtain ⟨x3, l1, l2, l3, hr⟩ := hhi (Nat.zero_le _)
  exact ⟨c, x3, l2, l3, Or.inl l1, hr⟩

theorem GoodW.kids {w0 : World} {Pb : Nat → Prop} {Fin : World → Prop} {ps : List Pd} {p : Pd} {v : Value} {w : World} {g cap h : Nat} {U : Nat → Value} {X : Nat → List T}
    (cont : ∀ v' w' u', Done p v w v' w' u' → GoodW w0 Pb Fin ps v' w') (hg : w.heap.size ≤ g) (hn : Pb g) (hp : p.b < w.heap.size) (hpo : NotOwn v p.b) (hl : p.xs.length ≤ maxLen) (hh : p.h = h + 1)
    (hX : ∀ i k n s txs, p.xs[i]? = some (.node k n s txs) → txs = X i ∧ ArgsAt w0 0 h (U i) (X i)) :
    ∀ (j : Nat) (vj : Value) (wj : World), j ≤ p.xs.length → Mid p v w g cap h U j vj wj → GoodW w0 Pb Fin (kidL g h U X j ++ ps) vj wj
  | 0, vj, wj, _, m => cont _ _ _ (m.done hg hl hh)
  | j + 1, vj, wj, hj, m => by
    obtain ⟨t, ht⟩ : ∃ t, p.xs[j]? = some t := ⟨_, List.getElem?_eq_getElem (by omega)⟩
    obtain ⟨k, n, s, txs⟩ := t
    obtain ⟨ys, V, L, R, ho, hx, hd⟩ := m.row
    obtain ⟨_, hlo, _⟩ := hx j k n s txs ht
    refine ⟨⟨?_, ho.frozenAt _, hn, m.gs, m.gn, (hX j k n s txs ht).2⟩, fun v' w' u' d => GoodW.kids cont hg hn hp hpo hl hh hX j v' w' (by omega) (m.step d hg hp hpo (by omega) (fun i k n s txs hi => (hX i k n s txs hi).1))⟩
    show wj.cell? ⟨g, j * 4 + 3, none⟩ = some (U j)
    rw [ho.cellAt (j * 4 + 3) (by omega), hlo (by omega)]
end Go.Proofs.YtcmhiindjponcaaDoor
namespace Go.Proofs.YtcmhiindjponcaaDoor
open Go.RowKit

/-- What slice v's growth leaves. -/
def Grew (v : Value) (w1 : World) (v' : Value) (w' : World) : Prop := w1.heap.size ≤ w'.heap.size ∧ (∀ b, b < w1.heap.size → NotOwn v b → w'.heap[b]? = w1.heap[b]?) ∧ (v'.ownBlock = v.ownBlock ∨ ∃ k, v'.ownBlock = some k ∧ w1.heap.size ≤ k)
theorem Grew.refl (v v' : Value) (w : World) (h : v'.ownBlock = v.ownBlock) : Grew v w v' w := ⟨Nat.le_refl _, fun _ _ _ => rfl, Or.inl h⟩
theorem Grew.trans {v v' v2 : Value} {w1 w' w2 : World} (h : Grew v w1 v' w') (k : Grew v' w' v2 w2) : Grew v w1 v2 w2 :=
  ⟨Nat.le_trans h.1 k.1, fun b hb hv => (k.2.1 b (Nat.lt_of_lt_of_le hb h.1) (notOwn_old h.2.2 hb hv)).trans (h.2.1 b hb hv), ob_trans h.1 h.2.2 k.2.2⟩

theorem grew_app {vi : Value} {wr w3 : World} {o : Obj} {g3 n cap : Nat} (hgr : (wr.alloc o).grownBy w3 vi.ownBlock) (hat : vi.ownBlock = some g3 ∨ g3 = (wr.alloc o).heap.size) : Grew vi wr (.slice (some ⟨g3, 0, none⟩) n cap) w3 := by
  have hz : (wr.alloc o).heap.size = wr.heap.size + 1 := by simp
  have hs := hgr.size
  rw [hz] at hs hat
  refine ⟨by omega, fun b hb hv => (hgr.block b (by omega) hv).trans (Below.heap_alloc _ _ _ hb), ?_⟩
  rcases hat with h | h
  · exact Or.inl h.symm
  · exact Or.inr ⟨g3, rfl, by omega⟩
theorem Grew.alloc {v v' : Value} {w w' : World} (h : Grew v w v' w') (o : Obj) : Grew v w v' (w'.alloc o) :=
  ⟨by have := h.1; simp; omega, fun b hb hv => (Below.heap_alloc _ _ _ (Nat.lt_of_lt_of_le hb h.1)).trans (h.2.1 b hb hv), h.2.2⟩
theorem Grew.below {v v' : Value} {w w' w2 : World} (h : Grew v w v' w') (hb : Below w'.heap.size w' w2) : Grew v w v' w2 :=
  ⟨Nat.le_trans h.1 hb.size, fun b hl hv => (hb.block b (Nat.lt_of_lt_of_le hl h.1)).trans (h.2.1 b hl hv), h.2.2⟩
theorem Grew.drew {v v' : Value} {w w' : World} (h : Grew v w v' w') : Grew v w v' w'.drew := h
end Go.Proofs.YtcmhiindjponcaaDoor
