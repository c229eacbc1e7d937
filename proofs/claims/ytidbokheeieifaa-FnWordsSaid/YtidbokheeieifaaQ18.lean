/-
  The nodes of a term as impl.ownNodes finds them, level by level: where each lies, what it is, where its arguments begin. No walk.
  The rows of a term that are a call's own, where they lie among each other: ownership by sets of blocks. laws.markTermS and laws.markTerm over such a term.
  The rows that impl.ownNodes makes: each is the call's own, each lies in a block of its own; so does what lies below a node. No walk.
-/
import Derived.Test.YtidbokheeieifaaQ15
import Derived.Test.YtidbokheeieifaaQ17
import Derived.Test.YtidbokheeieifaaQ9
namespace Go.Proofs.Ytidbokheeieifaa
open Go.RowKit

/-- Where the nodes lie (b, o), what they are (V), where their arguments lie (the block g) and stand in the list (from F on), what their fourth cells hold (sl). -/
structure Lay where
  b : Nat → Nat
  o : Nat → Nat
  V : Nat → T
  g : Nat → Nat
  F : Nat → Nat
  sl : Nat → Value

/-- One node in its cells. -/
def NodeAt (w : World) (b o : Nat) (t : T) (u : Value) : Prop :=
  ∃ k n s xs, t = .node k n s xs ∧ s.size ≤ maxLen ∧ w.cell? ⟨b, o, none⟩ = some (.int .i64 k) ∧ w.cell? ⟨b, o + 1, none⟩ = some (.int .i64 n) ∧ w.cell? ⟨b, o + 2, none⟩ = some (.string s) ∧ w.cell? ⟨b, o + 3, none⟩ = some u ∧
    (w.frozen? ⟨b, o, none⟩ = false ∧ w.frozen? ⟨b, o + 1, none⟩ = false ∧ w.frozen? ⟨b, o + 2, none⟩ = false ∧ w.frozen? ⟨b, o + 3, none⟩ = false)
theorem frozen_heap {w w' : World} {ad : Addr} (h : w'.heap[ad.block]? = w.heap[ad.block]?) : w'.frozen? ad = w.frozen? ad := by
  unfold World.frozen?; rw [h]
theorem NodeAt.keep {w w' : World} {b o : Nat} {t : T} {u : Value} (h : NodeAt w b o t u) (hb : w'.heap[b]? = w.heap[b]?) : NodeAt w' b o t u := by
  obtain ⟨k, n, s, xs, e, hs, c0, c1, c2, c3, f0, f1, f2, f3⟩ := h
  exact ⟨k, n, s, xs, e, hs, by rw [cell_heap hb]; exact c0, by rw [cell_heap hb]; exact c1, by rw [cell_heap hb]; exact c2, by rw [cell_heap hb]; exact c3, by rw [frozen_heap hb]; exact f0, by rw [frozen_heap hb]; exact f1, by rw [frozen_heap hb]; exact f2, by rw [frozen_heap hb]; exact f3⟩
theorem NodeAt.lt {w : World} {b o : Nat} {t : T} {u : Value} (h : NodeAt w b o t u) : b < w.heap.size := by
  obtain ⟨k, n, s, xs, e, hs, c0, _⟩ := h
  exact World.block_lt_of_cell? w _ c0

/-- The first q nodes have rows of their own, the others have still those of another term. -/
structure LayAt (w0 : World) (h B : Nat) (L : Lay) (N q : Nat) (w : World) : Prop where
  at_ : ∀ i, i < N → NodeAt w (L.b i) (L.o i) (L.V i) (L.sl i) ∧ B ≤ L.b i
  own : ∀ i, i < q → ∃ a c, L.sl i = .slice a (kT (L.V i)).length c ∧ (kT (L.V i) ≠ [] → a = some ⟨L.g i, 0, none⟩)
  old : ∀ i, q ≤ i → i < N → ArgsAt w0 0 h (L.sl i) (kT (L.V i))
  kid : ∀ i, i < q → i < L.F i ∧ ∀ j t, (kT (L.V i))[j]? = some t → L.F i + j < N ∧ L.b (L.F i + j) = L.g i ∧ L.o (L.F i + j) = j * 4 ∧ L.V (L.F i + j) = t
  apart : ∀ i j, i < j → j < N → L.b i = L.b j → L.o i + 4 ≤ L.o j

theorem LayAt.keep {w0 : World} {h B : Nat} {L : Lay} {N q : Nat} {w w' : World} (x : LayAt w0 h B L N q w) (hk : ∀ i, i < N → w'.heap[L.b i]? = w.heap[L.b i]?) : LayAt w0 h B L N q w' :=
  ⟨fun i hi => ⟨(x.at_ i hi).1.keep (hk i hi), (x.at_ i hi).2⟩, x.own, x.old, x.kid, x.apart⟩
theorem LayAt.lt {w0 : World} {h B : Nat} {L : Lay} {N q : Nat} {w : World} (x : LayAt w0 h B L N q w) {i : Nat} (hi : i < N) : L.b i < w.heap.size := (x.at_ i hi).1.lt

/-- The pointers to the nodes. -/
def ptrs (L : Lay) (N : Nat) : List Value := (List.range N).map fun i => .pointer (some ⟨L.b i, L.o i, none⟩)
theorem ptrs_len (L : Lay) (N : Nat) : (ptrs L N).length = N := by simp [ptrs]
theorem ptrs_at (L : Lay) (N i : Nat) (hi : i < N) : (ptrs L N)[i]? = some (.pointer (some ⟨L.b i, L.o i, none⟩)) := by simp [ptrs, hi]
theorem ptrs_succ (L : Lay) (N : Nat) : ptrs L (N + 1) = ptrs L N ++ [.pointer (some ⟨L.b N, L.o N, none⟩)] := by simp [ptrs, List.range_succ]
theorem ptrs_eq {L L' : Lay} {N : Nat} (h : ∀ i, i < N → L'.b i = L.b i ∧ L'.o i = L.o i) : ptrs L' N = ptrs L N := by
  unfold ptrs
  refine List.map_congr_left fun i hi => ?_
  obtain ⟨h1, h2⟩ := h i (by simpa using hi)
  rw [h1, h2]

/-- How many nodes are still to be found from q on. -/
def remS (V : Nat → T) (q : Nat) : Nat → Nat
  | 0 => 0
  | d + 1 => remS V q d + cT (V (q + d))
theorem remS_first (V : Nat → T) (q d : Nat) : remS V q (d + 1) = cT (V q) + remS V (q + 1) d := by
  induction d with
  | zero => simp [remS]
  | succ d ih => rw [remS, ih, remS, show q + (d + 1) = q + 1 + d by omega]; omega
theorem remS_congr {V V' : Nat → T} (q : Nat) : ∀ d, (∀ i, q ≤ i → i < q + d → V' i = V i) → remS V' q d = remS V q d
  | 0, _ => rfl
  | d + 1, h => by rw [remS, remS, remS_congr q d (fun i h1 h2 => h i h1 (by omega)), h (q + d) (by omega) (by omega)]
theorem remS_app (V : Nat → T) (q d : Nat) : ∀ m, remS V q (d + m) = remS V q d + remS V (q + d) m
  | 0 => by simp [remS]
  | m + 1 => by rw [show d + (m + 1) = d + m + 1 by omega, remS, remS_app V q d m, remS, show q + d + m = q + (d + m) by omega]; omega
theorem cT_pos1 (t : T) : 1 ≤ cT t := by obtain ⟨k, n, s, xs⟩ := t; rw [cT_node]; omega
theorem remS_ge (V : Nat → T) (q : Nat) : ∀ d, d ≤ remS V q d
  | 0 => Nat.le_refl _
  | d + 1 => by rw [remS]; have := remS_ge V q d; have := cT_pos1 (V (q + d)); omega
theorem remS_list (V : Nat → T) (q : Nat) (xs : List T) : (∀ j t, xs[j]? = some t → V (q + j) = t) → ∀ d, d ≤ xs.length → remS V q d = cS (xs.take d) := by
  intro h d
  induction d with
  | zero => intro _; simp [remS, cS]
  | succ d ih =>
    intro hd
    obtain ⟨t, ht⟩ : ∃ t, xs[d]? = some t := ⟨_, List.getElem?_eq_getElem (by omega)⟩
    rw [remS, ih (by omega), h d t ht, tk xs d t ht, cS_snoc]

/-- The list behind one step. -/
def Lay.next (L : Lay) (N q g1 : Nat) (u1 : Value) (xs : List T) (vs : List Value) : Lay where
  b := fun i => if i < N then L.b i else g1
  o := fun i => if i < N then L.o i else (i - N) * 4
  V := fun i => if i < N then L.V i else (xs[i - N]?).getD zT
  g := fun i => if i = q then g1 else L.g i
  F := fun i => if i = q then N else L.F i
  sl := fun i => if i = q then u1 else if i < N then L.sl i else (vs[(i - N) * 4 + 3]?).getD undef

theorem LayAt.next {w0 : World} {h B : Nat} {L : Lay} {N q : Nat} {wr wc : World} (x : LayAt w0 h B L N q wr) (hq : q < N) {k n : Int} {s : ByteArray} {xs : List T} {vs : List Value} {a1 : Option Addr} {c1 g1 : Nat} (hV : L.V q = .node k n s xs)
    (hb : Below wr.heap.size wr wc) (ho : wc.ownsRow wr.heap.size 26 4 (.slice a1 xs.length c1) xs.length vs) (hg : xs.length = 0 ∨ a1 = some ⟨g1, 0, none⟩) (hr : RowV w0 (h - 1) xs vs) (hB : B ≤ wr.heap.size) :
    LayAt w0 h B (L.next N q g1 (.slice a1 xs.length c1) xs vs) (N + xs.length) (q + 1) (wc.setCell ⟨L.b q, L.o q + 3, none⟩ (.slice a1 xs.length c1)) := by
  have hql : L.b q < wr.heap.size := x.lt hq
  have hgl : xs.length ≠ 0 → wr.heap.size ≤ g1 := fun h0 => by
    have e := hg.resolve_left h0
    subst e
    exact (ho.lt g1 rfl).1
  have hkq : kT (L.V q) = xs := by rw [hV]; rfl
  have hcell : ∀ i, i < N → i ≠ q → NodeAt (wc.setCell ⟨L.b q, L.o q + 3, none⟩ (.slice a1 xs.length c1)) (L.b i) (L.o i) (L.V i) (L.sl i) := fun i hi hne => by
    obtain ⟨⟨k', n', s', xs', e, hs', e0, e1, e2, e3, f0, f1, f2, f3⟩, _⟩ := x.at_ i hi
    have hil : L.b i < wr.heap.size := x.lt hi
    have hot : ∀ j, j < 4 → ¬ (L.b i = L.b q ∧ L.o i + j = L.o q + 3) := fun j hj hh => by
      rcases Nat.lt_or_ge i q with hlt | hge
      · have := x.apart i q hlt hq hh.1; omega
      · have := x.apart q i (by omega) hi hh.1.symm; omega
    have cl : ∀ j, j < 4 → ∀ v, wr.cell? ⟨L.b i, L.o i + j, none⟩ = some v → (wc.setCell ⟨L.b q, L.o q + 3, none⟩ (.slice a1 xs.length c1)).cell? ⟨L.b i, L.o i + j, none⟩ = some v := fun j hj v hv => by
      rw [World.cell?_setCell_other _ _ _ _ (fun e => hot j hj (by simp only [Addr.mk.injEq] at e; exact ⟨e.1.symm, e.2.1.symm⟩)), hb.cell hil]; exact hv
    have fr : ∀ j, (wc.setCell ⟨L.b q, L.o q + 3, none⟩ (.slice a1 xs.length c1)).frozen? ⟨L.b i, j, none⟩ = wr.frozen? ⟨L.b i, j, none⟩ := fun j => by
      rw [World.frozen?_setCell]; exact frozen_heap (hb.block _ hil)
    exact ⟨k', n', s', xs', e, hs', cl 0 (by omega) _ e0, cl 1 (by omega) _ e1, cl 2 (by omega) _ e2, cl 3 (by omega) _ e3, by rw [fr]; exact f0, by rw [fr]; exact f1, by rw [fr]; exact f2, by rw [fr]; exact f3⟩
  refine ⟨fun i hi => ?_, fun i hi => ?_, fun i h1 h2 => ?_, fun i hi => ?_, fun i j hij hj hbb => ?_⟩
  · by_cases hin : i < N
    · simp only [Lay.next, if_pos hin]
      by_cases hiq : i = q
      · subst hiq
        simp only [if_true]
        obtain ⟨⟨k', n', s', xs', e, hs', e0, e1, e2, e3, f0, f1, f2, f3⟩, hBi⟩ := x.at_ i hin
        have cl : ∀ j, j < 3 → ∀ v, wr.cell? ⟨L.b i, L.o i + j, none⟩ = some v → (wc.setCell ⟨L.b i, L.o i + 3, none⟩ (.slice a1 xs.length c1)).cell? ⟨L.b i, L.o i + j, none⟩ = some v := fun j hj v hv => by
          rw [World.cell?_setCell_other _ _ _ _ (fun e => by simp only [Addr.mk.injEq] at e; omega), hb.cell hql]; exact hv
        have fr : ∀ j, (wc.setCell ⟨L.b i, L.o i + 3, none⟩ (.slice a1 xs.length c1)).frozen? ⟨L.b i, j, none⟩ = wr.frozen? ⟨L.b i, j, none⟩ := fun j => by
          rw [World.frozen?_setCell]; exact frozen_heap (hb.block _ hql)
        refine ⟨⟨k', n', s', xs', e, hs', cl 0 (by omega) _ e0, cl 1 (by omega) _ e1, cl 2 (by omega) _ e2, ?_, by rw [fr]; exact f0, by rw [fr]; exact f1, by rw [fr]; exact f2, by rw [fr]; exact f3⟩, hBi⟩
        exact World.cell?_setCell_same' _ _ _ (by rw [hb.cell hql, e3]; rfl)
      · simp only [if_neg hiq]
        exact ⟨hcell i hin hiq, (x.at_ i hin).2⟩
    · have h0 : xs.length ≠ 0 := by omega
      have e := hg.resolve_left h0
      subst e
      have hglt := ho.lt g1 rfl
      have hiq : i ≠ q := by omega
      simp only [Lay.next, if_neg hin, if_neg hiq]
      obtain ⟨t, ht⟩ : ∃ t, xs[i - N]? = some t := ⟨_, List.getElem?_eq_getElem (by omega)⟩
      obtain ⟨k', n', s', txs⟩ := t
      obtain ⟨hs', a', m', cap', x0, x1, x2, x3, ha⟩ := hr.at (i - N) k' n' s' txs ht
      have hvl := ho.1
      have hbl : (wc.setCell ⟨L.b q, L.o q + 3, none⟩ (.slice (some ⟨g1, 0, none⟩) xs.length c1)).heap[g1]? = wc.heap[g1]? := Below.heap_setCell _ _ _ _ (fun e => by simp at e; omega)
      have cl : ∀ p v, p < xs.length * 4 → vs[p]? = some v → (wc.setCell ⟨L.b q, L.o q + 3, none⟩ (.slice (some ⟨g1, 0, none⟩) xs.length c1)).cell? ⟨g1, p, none⟩ = some v := fun p v hp hv => by
        rw [cell_heap (ad := ⟨g1, p, none⟩) hbl, ho.cellAt p (by omega)]; exact hv
      have fr : ∀ p, (wc.setCell ⟨L.b q, L.o q + 3, none⟩ (.slice (some ⟨g1, 0, none⟩) xs.length c1)).frozen? ⟨g1, p, none⟩ = false := fun p => by
        rw [frozen_heap (ad := ⟨g1, p, none⟩) hbl]; exact ho.frozenAt _
      rw [ht, x3]
      refine ⟨⟨k', n', s', txs, rfl, hs', cl _ _ (by omega) x0, cl _ _ (by omega) x1, cl _ _ (by omega) x2, cl _ _ (by omega) x3, fr _, fr _, fr _, fr _⟩, by omega⟩
  · by_cases hiq : i = q
    · subst hiq
      simp only [Lay.next, if_true, if_pos hq]
      rw [hkq]
      refine ⟨a1, c1, rfl, fun hne => hg.resolve_left (fun e => hne (List.eq_nil_of_length_eq_zero e))⟩
    · simp only [Lay.next, if_neg hiq, if_pos (show i < N by omega)]
      exact x.own i (by omega)
  · have hiq : i ≠ q := by omega
    by_cases hin : i < N
    · simp only [Lay.next, if_neg hiq, if_pos hin]
      exact x.old i (by omega) hin
    · simp only [Lay.next, if_neg hiq, if_neg hin]
      obtain ⟨t, ht⟩ : ∃ t, xs[i - N]? = some t := ⟨_, List.getElem?_eq_getElem (by omega)⟩
      obtain ⟨k', n', s', txs⟩ := t
      obtain ⟨hs', a', m', cap', x0, x1, x2, x3, ha⟩ := hr.at (i - N) k' n' s' txs ht
      rw [ht, x3]
      exact ha.le (by omega)
  · by_cases hiq : i = q
    · subst hiq
      simp only [Lay.next, if_true, if_pos hq]
      refine ⟨hq, fun j t hj => ?_⟩
      rw [hkq] at hj
      have hjl := (List.getElem?_eq_some_iff.1 hj).1
      have h1 : ¬ N + j < N := by omega
      simp only [if_neg h1, Nat.add_sub_cancel_left]
      exact ⟨by omega, trivial, trivial, by rw [hj]; rfl⟩
    · have hin : i < N := by omega
      simp only [Lay.next, if_neg hiq, if_pos hin]
      obtain ⟨h1, h2⟩ := x.kid i (by omega)
      refine ⟨h1, fun j t hj => ?_⟩
      obtain ⟨y1, y2, y3, y4⟩ := h2 j t hj
      simp only [if_pos y1]
      exact ⟨by omega, y2, y3, y4⟩
  · by_cases hjn : j < N
    · have hin : i < N := by omega
      simp only [Lay.next, if_pos hjn, if_pos hin] at hbb ⊢
      exact x.apart i j hij hjn hbb
    · by_cases hin : i < N
      · simp only [Lay.next, if_neg hjn, if_pos hin] at hbb
        have := x.lt hin
        have := hgl (by omega)
        omega
      · simp only [Lay.next, if_neg hjn, if_neg hin]
        omega
end Go.Proofs.Ytidbokheeieifaa
namespace Go.Proofs.Ytidbokheeieifaa
open Go.RowKit

/-- The slice value u holds as many terms as ts; its rows, and those below, are owned, lie in blocks of P, and no two of them in the same. -/
def OwnS (w : World) : Nat → (Nat → Prop) → Value → List T → Prop
  | 0, _, u, ts => ts = [] ∧ ∃ a cap, u = .slice a 0 cap
  | h + 1, P, u, ts => ∃ a cap, u = .slice a ts.length cap ∧ (ts = [] ∨ ∃ (g : Nat) (xs : List Value) (U : Nat → Value) (Q : Nat → Nat → Prop), a = some ⟨g, 0, none⟩ ∧ P g ∧ w.ownsRow g 26 4 u ts.length xs ∧
      (∀ i k n s txs, ts[i]? = some (T.node k n s txs) → xs[i * 4 + 3]? = some (U i) ∧ (∀ b, Q i b → P b) ∧ ¬ Q i g ∧ OwnS w h (Q i) (U i) txs) ∧
      (∀ i j, i < j → j < ts.length → ∀ b, Q i b → ¬ Q j b))

/-- Only blocks of P have turned, and new ones are there. -/
def OutS (P : Nat → Prop) (w w' : World) : Prop :=
  w'.os = w.os ∧ w'.tape = w.tape ∧ w'.output = w.output ∧ w.heap.size ≤ w'.heap.size ∧ ∀ b, b < w.heap.size → ¬ P b → w'.heap[b]? = w.heap[b]?
theorem OutS.refl (P : Nat → Prop) (w : World) : OutS P w w := ⟨rfl, rfl, rfl, Nat.le_refl _, fun _ _ _ => rfl⟩
theorem OutS.trans {P : Nat → Prop} {a b c : World} (h : OutS P a b) (k : OutS P b c) : OutS P a c :=
  ⟨k.1.trans h.1, k.2.1.trans h.2.1, k.2.2.1.trans h.2.2.1, Nat.le_trans h.2.2.2.1 k.2.2.2.1, fun i hi ho => (k.2.2.2.2 i (Nat.lt_of_lt_of_le hi h.2.2.2.1) ho).trans (h.2.2.2.2 i hi ho)⟩
theorem OutS.of_below {P : Nat → Prop} {w w' : World} (h : Below w.heap.size w w') : OutS P w w' := ⟨h.os, h.tape, h.output, h.size, fun b hb _ => h.block b hb⟩
theorem OutS.set {P : Nat → Prop} (w : World) (g j : Nat) (v : Value) (h1 : P g) : OutS P w (w.setCell ⟨g, j, none⟩ v) := by
  have h := set_grown w g j v
  exact ⟨h.os, h.tape, h.output, h.size, fun b hb ho => h.block b hb (fun e => by cases e; exact ho h1)⟩
theorem OutS.wide {P Q : Nat → Prop} {w w' : World} (h : OutS P w w') (hp : ∀ b, P b → Q b) : OutS Q w w' :=
  ⟨h.1, h.2.1, h.2.2.1, h.2.2.2.1, fun b hb ho => h.2.2.2.2 b hb (fun e => ho (hp b e))⟩
theorem OutS.out {P : Nat → Prop} {w w' : World} {lo hi : Nat} (h : OutS P w w') (hp : ∀ b, P b → lo ≤ b ∧ b < hi) : Out lo hi w w' :=
  ⟨h.1, h.2.1, h.2.2.1, h.2.2.2.1, fun b hb ho => h.2.2.2.2 b hb (fun e => by have := hp b e; omega)⟩

theorem OwnS.keep {w w' : World} : ∀ {h : Nat} {P : Nat → Prop} {u : Value} {ts : List T}, (∀ b, P b → w'.heap[b]? = w.heap[b]?) → OwnS w h P u ts → OwnS w' h P u ts
  | 0, _, _, _, _, k => k
  | h + 1, P, u, ts, hk, ⟨a, cap, e, hc⟩ => by
    refine ⟨a, cap, e, ?_⟩
    rcases hc with hc | ⟨g, xs, U, Q, rfl, h1, ho, hx, hd⟩
    · exact Or.inl hc
    · subst e
      refine Or.inr ⟨g, xs, U, Q, rfl, h1, row_keep ho (hk g h1), fun i k n s txs hi => ?_, hd⟩
      obtain ⟨x3, l1, l2, hr⟩ := hx i k n s txs hi
      exact ⟨x3, l1, l2, hr.keep (fun b hb => hk b (l1 b hb))⟩
theorem OwnS.slice {w : World} {h : Nat} {P : Nat → Prop} {u : Value} {ts : List T} (k : OwnS w h P u ts) : ∃ a cap, u = .slice a ts.length cap := by
  cases h with
  | zero => obtain ⟨rfl, a, cap, rfl⟩ := k; exact ⟨a, cap, rfl⟩
  | succ h => obtain ⟨a, cap, e, _⟩ := k; exact ⟨a, cap, e⟩
theorem OwnS.nil (w : World) (h : Nat) (P : Nat → Prop) (a : Option Addr) (cap : Nat) : OwnS w h P (.slice a 0 cap) [] := by
  cases h with
  | zero => exact ⟨rfl, a, cap, rfl⟩
  | succ h => exact ⟨a, cap, rfl, Or.inl rfl⟩

/-- How far the marks of a row have come: all before element j, and q cells of it. -/
def SRow (h g m cap k j q : Nat) (ts : List T) (U : Nat → Value) (Q : Nat → Nat → Prop) (w : World) : Prop :=
  ∃ xs, w.ownsRow g 26 4 (.slice (some ⟨g, 0, none⟩) m cap) m xs ∧ (∀ i kk nn s txs, j ≤ i → ts[i]? = some (T.node kk nn s txs) → xs[i * 4 + 3]? = some (U i) ∧ OwnS w h (Q i) (U i) txs) ∧
    (∀ i kk nn s txs, i < j → ts[i]? = some (T.node kk nn s txs) → (∀ p, p < 3 → xs[i * 4 + p]? = some (mv (k + 3 * cS (ts.take i)) p)) ∧ xs[i * 4 + 3]? = some (U i) ∧ ArgsP (Q i) w h (U i) (mkS (k + 3 * cS (ts.take i) + 3) txs)) ∧
    ∀ p, p < q → xs[j * 4 + p]? = some (mv (k + 3 * cS (ts.take j)) p)

theorem SRow.cells {h g m cap k j p : Nat} {ts : List T} {U : Nat → Value} {Q : Nat → Nat → Prop} {w : World} (c : SRow h g m cap k j p ts U Q w) {i : Nat} (hi : i < m) (q : Nat) (hq : q < 4) :
    (∃ v, w.cell? ⟨g, i * 4 + q, none⟩ = some v) ∧ w.frozen? ⟨g, i * 4 + q, none⟩ = false := by
  obtain ⟨xs, ho, _⟩ := c
  have hl := ho.1
  refine ⟨?_, ho.frozenAt _⟩
  rw [ho.cellAt (i * 4 + q) (by omega)]
  exact ⟨_, List.getElem?_eq_getElem (by omega)⟩
theorem SRow.args {h g m cap k j p : Nat} {ts : List T} {U : Nat → Value} {Q : Nat → Nat → Prop} {w : World} (c : SRow h g m cap k j p ts U Q w) {kk nn : Int} {s : ByteArray} {txs : List T} (hj : j < m) (ht : ts[j]? = some (T.node kk nn s txs)) :
    w.cell? ⟨g, j * 4 + 3, none⟩ = some (U j) ∧ OwnS w h (Q j) (U j) txs := by
  obtain ⟨xs, ho, hx, _⟩ := c
  obtain ⟨h1, h2⟩ := hx j kk nn s txs (Nat.le_refl _) ht
  exact ⟨by rw [ho.cellAt (j * 4 + 3) (by omega)]; exact h1, h2⟩
/-- The next cell of element j. -/
theorem SRow.store {h g m cap k j q : Nat} {ts : List T} {U : Nat → Value} {Q : Nat → Nat → Prop} {w : World} (c : SRow h g m cap k j q ts U Q w) (hg : ∀ i, ¬ Q i g) (hq : q < 3) (hj : j < m) {v : Value} (hv : v = mv (k + 3 * cS (ts.take j)) q) :
    SRow h g m cap k j (q + 1) ts U Q (w.setCell ⟨g, j * 4 + q, none⟩ v) := by
  obtain ⟨xs, ho, hx, hd, hp⟩ := c
  have hl := ho.1
  have hs : ∀ b, b ≠ g → (w.setCell ⟨g, j * 4 + q, none⟩ v).heap[b]? = w.heap[b]? := fun b hb => Below.heap_setCell _ _ _ _ (fun e => hb (by simpa using e))
  have hne : ∀ i b, Q i b → b ≠ g := fun i b hb e => hg i (e ▸ hb)
  refine ⟨_, (ho.stored (j * 4 + q) v).1, fun i kk nn s txs hi ht => ?_, fun i kk nn s txs hi ht => ?_, fun p hp' => ?_⟩
  · obtain ⟨h1, h2⟩ := hx i kk nn s txs hi ht
    refine ⟨by rw [List.getElem?_set_ne (by omega)]; exact h1, h2.keep fun b hb => hs b (hne i b hb)⟩
  · obtain ⟨h0, h1, h2⟩ := hd i kk nn s txs hi ht
    refine ⟨fun p hp => by rw [List.getElem?_set_ne (by omega)]; exact h0 p hp, by rw [List.getElem?_set_ne (by omega)]; exact h1, h2.keepB fun b hb _ => hs b (hne i b hb)⟩
  · by_cases hpq : p = q
    · subst hpq
      rw [List.getElem?_set_self (by omega), hv]
    · rw [List.getElem?_set_ne (by omega)]
      exact hp p (by omega)
theorem SRow.below {h g m cap k j q : Nat} {ts : List T} {U : Nat → Value} {Q : Nat → Nat → Prop} {w w' : World} (c : SRow h g m cap k j q ts U Q w) (hb : Below w.heap.size w w') (hR : ∀ i b, Q i b → b < w.heap.size) : SRow h g m cap k j q ts U Q w' := by
  obtain ⟨xs, ho, hx, hd, hp⟩ := c
  refine ⟨xs, keep_own ho hb, fun i kk nn s txs hi ht => ?_, fun i kk nn s txs hi ht => ?_, hp⟩
  · obtain ⟨h1, h2⟩ := hx i kk nn s txs hi ht
    exact ⟨h1, h2.keep fun b hb' => hb.block b (hR i b hb')⟩
  · obtain ⟨h0, h1, h2⟩ := hd i kk nn s txs hi ht
    exact ⟨h0, h1, h2.keepB fun b _ hlt => hb.block b hlt⟩
/-- The child's marks. -/
theorem SRow.child {h g m cap k j : Nat} {ts : List T} {U : Nat → Value} {Q : Nat → Nat → Prop} {w w' : World} (c : SRow h g m cap k j 3 ts U Q w) (ho : OutS (Q j) w w') (hg : ∀ i, ¬ Q i g) (hgs : g < w.heap.size) (hR : ∀ i b, Q i b → b < w.heap.size)
    (hd : ∀ i i', i < i' → i' < ts.length → ∀ b, Q i b → ¬ Q i' b) {kk nn : Int} {s : ByteArray} {txs : List T} (ht : ts[j]? = some (T.node kk nn s txs)) (hm : ArgsP (Q j) w' h (U j) (mkS (k + 3 * cS (ts.take j) + 3) txs)) :
    SRow h g m cap k (j + 1) 0 ts U Q w' := by
  obtain ⟨xs, hr, hx, hdn, hp⟩ := c
  have hjl := (List.getElem?_eq_some_iff.1 ht).1
  refine ⟨xs, row_keep hr (ho.2.2.2.2 g hgs (hg j)), fun i kk' nn' s' txs' hi ht' => ?_, fun i kk' nn' s' txs' hi ht' => ?_, fun p hp => by omega⟩
  · obtain ⟨h1, h2⟩ := hx i kk' nn' s' txs' (by omega) ht'
    refine ⟨h1, h2.keep fun b hb => ho.2.2.2.2 b (hR i b hb) (fun e => ?_)⟩
    exact hd j i (by omega) (List.getElem?_eq_some_iff.1 ht').1 b e hb
  · by_cases hij : i = j
    · subst hij
      rw [ht] at ht'
      cases ht'
      exact ⟨hp, (hx i kk nn s txs (Nat.le_refl _) ht).1, hm⟩
    · obtain ⟨h0, h1, h2⟩ := hdn i kk' nn' s' txs' (by omega) ht'
      exact ⟨h0, h1, h2.keepB fun b hb hlt => ho.2.2.2.2 b hlt (fun e => hd i j (by omega) hjl b hb e)⟩
theorem SRow.done {h g m cap k : Nat} {ts : List T} {U : Nat → Value} {Q : Nat → Nat → Prop} {w : World} {P : Nat → Prop} (c : SRow h g m cap k m 0 ts U Q w) (hm : m = ts.length) (hl : m ≤ maxLen) (hk : k + 3 * cS ts ≤ 2305843009213693952) (h1 : P g) (hQ : ∀ i b, Q i b → P b) :
    ArgsP P w (h + 1) (.slice (some ⟨g, 0, none⟩) m cap) (mkS k ts) := by
  obtain ⟨xs, ho, _, hd, _⟩ := c
  refine ⟨_, cap, by rw [mkS_length, hm], by rw [mkS_length]; omega, Or.inr ⟨g, 0, rfl, h1, fun i a b s' txs' hi' => ?_⟩⟩
  have hil : i < ts.length := by have := (List.getElem?_eq_some_iff.1 hi').1; rwa [mkS_length] at this
  obtain ⟨t, ht⟩ : ∃ t, ts[i]? = some t := ⟨_, List.getElem?_eq_getElem hil⟩
  obtain ⟨kk, nn, s, txs⟩ := t
  rw [mkS_at ts k i _ ht, mkT_node] at hi'
  simp only [Option.some.injEq, T.node.injEq] at hi'
  obtain ⟨rfl, rfl, rfl, rfl⟩ := hi'
  obtain ⟨h0, h3, h4⟩ := hd i kk nn s txs (by omega) ht
  have hct := cS_take ts (i + 1)
  rw [tk ts i _ ht, cS_snoc, cT_node] at hct
  refine ⟨mark_size _ (by omega), U i, ?_, ?_, ?_, ?_, h4.imp fun b hb => hQ i b hb⟩
  · rw [Nat.zero_add, ho.cellAt (i * 4) (by omega)]; exact h0 0 (by omega)
  · rw [Nat.zero_add, ho.cellAt (i * 4 + 1) (by omega)]; exact h0 1 (by omega)
  · rw [Nat.zero_add, ho.cellAt (i * 4 + 2) (by omega)]; exact h0 2 (by omega)
  · rw [Nat.zero_add, ho.cellAt (i * 4 + 3) (by omega)]; exact h3

def MarkS (P : Nat → Prop) (k h : Nat) (u : Value) (ts : List T) (w : World) (e : Ending) (w' : World) : Prop := (e = .returned (.int .i64 ((k + 3 * cS ts : Nat) : Int)) ∧ OutS P w w') ∧ ArgsP P w' h u (mkS k ts)
def MarkSAt (h : Nat) : Prop := ∀ (u : Value) (ts : List T) (P : Nat → Prop) (k : Nat) (w : World), OwnS w h P u ts → (∀ b, P b → b < w.heap.size) → 1 ≤ k → k + 3 * cS ts ≤ 2305843009213693952 →
  Calls Try.prog 94 #[u, .int .i64 k] w (MarkS P k h u ts w)

theorem markS_empty (P : Nat → Prop) (k h : Nat) (a : Option Addr) (cap : Nat) (w : World) :
    Calls Try.prog 94 #[.slice a 0 cap, .int .i64 k] w (MarkS P k h (.slice a 0 cap) [] w) :=
  (mark_empty 0 0 k a cap w).mono fun e w' hm => ⟨⟨by simpa [cS] using hm.1, ⟨hm.2.1, hm.2.2.1, hm.2.2.2.1, hm.2.2.2.2.1, fun b hb _ => hm.2.2.2.2.2 b hb (by omega)⟩⟩, by
    rw [mkS_nil]
    cases h with
    | zero => exact ⟨rfl, _, _, rfl⟩
    | succ h => exact ⟨_, _, rfl, Nat.zero_le _, Or.inl rfl⟩⟩

set_option maxRecDepth 100000 in
set_option maxHeartbeats 1600000 in
theorem markS_some {h : Nat} (hM : MarkSAt h) (g cap : Nat) (ts : List T) (U : Nat → Value) (Q : Nat → Nat → Prop) (P : Nat → Prop) (k : Nat) (w : World) (hrel0 : SRow h g ts.length cap k 0 0 ts U Q w) (h1 : P g) (hhi : ∀ b, P b → b < w.heap.size)
    (hg : ∀ i, ¬ Q i g) (hQ : ∀ i b, Q i b → P b) (hd : ∀ i j, i < j → j < ts.length → ∀ b, Q i b → ¬ Q j b) (hk : 1 ≤ k) (hkc : k + 3 * cS ts ≤ 2305843009213693952) :
    Calls Try.prog 94 #[.slice (some ⟨g, 0, none⟩) ts.length cap, .int .i64 k] w (MarkS P k (h + 1) (.slice (some ⟨g, 0, none⟩) ts.length cap) ts w) := by
  have hl : ts.length ≤ 2305843009213693952 := by have := len_cS ts; omega
  have HM0 := Lib.hid hM; clear hM
  have HG := Lib.hid hg; clear hg
  have HQ := Lib.hid hQ; clear hQ
  have HHI := Lib.hid hhi; clear hhi
  have HDD := Lib.hid hd; clear hd
  have HKC := Lib.hid hkc; clear hkc
  have HPG := Lib.hid h1; clear h1
  obtain ⟨m, hm⟩ : ∃ m, m = ts.length := ⟨_, rfl⟩
  rw [← hm] at hrel0 hl ⊢
  have HM := Lib.hid hm; clear hm
  have HR0 := Lib.hid hrel0; clear hrel0
  go_enter Try.func94, Try.ntmps94
  go_wp2
  go_loopw [1, 5] (fun q i wr => ∃ (j c : Nat), j ≤ m ∧ i = .int .i64 j ∧ q = .int .i64 c ∧ Hid (c = k + 3 * cS (ts.take j)) ∧ Hid (SRow h g m cap k j 0 ts U Q wr) ∧ Hid (OutS P w wr)) (fun _ i _ => m - (intOf i).toNat)
  case atStart => exact ⟨0, k, Nat.zero_le _, rfl, rfl, Lib.hid (by simp [cS]), HR0, Lib.hid (OutS.refl _ _)⟩
  case round =>
    obtain ⟨j, c, hj, rfl, rfl, HC, HR, HO⟩ := hrel
    have hcb : c ≤ 2305843009213693952 := by have := HC.out; have := cS_take ts j; have := HKC.out; omega
    have hc1 : 1 ≤ c := by have := HC.out; omega
    by_cases hlt : j < m
    · obtain ⟨t, ht⟩ : ∃ t, ts[j]? = some t := ⟨_, List.getElem?_eq_getElem (by have := HM.out; omega)⟩
      obtain ⟨tk1, tn1, ts1, txs⟩ := t
      have hct : cS (ts.take (j + 1)) = cS (ts.take j) + (1 + cS txs) := by rw [tk ts j _ ht, cS_snoc, cT_node]
      have hctl := cS_take ts (j + 1)
      have HCT := Lib.hid hct
      have hcx : c + 3 + 3 * cS txs ≤ 2305843009213693952 := by have := HC.out; have := HKC.out; omega
      have htl2 : txs.length ≤ 2305843009213693952 := by have := len_cS txs; omega
      clear hct hctl
      have hgs : g < wr.heap.size := by have := HO.out.2.2.2.1; have := HHI.out g HPG.out; omega
      have hRs : Hid (∀ i b, Q i b → b < wr.heap.size) := Lib.hid (fun i b hb => by have := HHI.out b (HQ.out i b hb); have := HO.out.2.2.2.1; omega)
      have HT := Lib.hid ht; clear ht
      obtain ⟨⟨o0, g0⟩, f0⟩ := HR.out.cells hlt 0 (by omega)
      obtain ⟨⟨o1, g1⟩, f1⟩ := HR.out.cells hlt 1 (by omega)
      rw [Nat.add_zero] at g0 f0
      have s0 := HR.out.store (q := 0) HG.out (by omega) hlt (v := .int .i64 (c : Int)) (by rw [HC.out]; rfl)
      rw [Nat.add_zero] at s0
      have s1 := s0.store (q := 1) HG.out (by omega) hlt (v := .int .i64 ((c : Int) + 1)) (by rw [HC.out]; rfl)
      have HS1 := Lib.hid s1; clear s0 s1
      have HO1 := Lib.hid (HO.out.trans ((OutS.set (P := P) wr g (j * 4) (.int .i64 (c : Int)) HPG.out).trans (OutS.set _ g (j * 4 + 1) (.int .i64 ((c : Int) + 1)) HPG.out)))
      go_wp2_with fail
      refine (markText_int _ (c + 2) _ (by omega) (by omega) (by omega)).mono ?_
      rintro e w1 ⟨rfl, hb1⟩
      have HS2 := Lib.hid (HS1.out.below hb1 (fun i b hb => by have := hRs.out i b hb; simpa using this))
      have hw1 : wr.heap.size ≤ w1.heap.size := by have := hb1.size; simpa [World.setCell] using this
      have HO2 := Lib.hid (HO1.out.trans (OutS.of_below hb1)); clear hb1 g0 g1 f0 f1
      obtain ⟨⟨o2, g2⟩, f2⟩ := HS2.out.cells hlt 2 (by omega)
      have HS3 := Lib.hid (HS2.out.store (q := 2) HG.out (by omega) hlt (v := .string (mark (c + 2))) (by rw [HC.out]; rfl))
      have HO3 := Lib.hid (HO2.out.trans (OutS.set (P := P) w1 g (j * 4 + 2) (.string (mark (c + 2))) HPG.out))
      obtain ⟨ca, hoa⟩ := HS3.out.args hlt HT.out
      have hsz : w1.heap.size = (w1.setCell ⟨g, j * 4 + 2, none⟩ (.string (mark (c + 2)))).heap.size := by simp [World.setCell]
      have hcall := HM0.out (U j) txs (Q j) (c + 3) _ hoa (fun b hb => by have := hRs.out j b hb; omega) (by omega) (by omega)
      obtain ⟨ua, uc, hu⟩ := hoa.slice
      rw [hu] at ca hcall
      clear hoa
      have HUE := Lib.hid hu; clear hu
      have HCALL := Lib.hid hcall; clear hcall
      go_wp2_with fail
      have hcast : ((c : Int) + 1 + 1 + 1) = ((c + 3 : Nat) : Int) := by omega
      rw [hcast]
      refine HCALL.out.mono ?_
      rintro e w2 ⟨⟨rfl, ho2⟩, hp2⟩
      have HR4 := Lib.hid (HS3.out.child ho2 HG.out (by omega) (fun i b hb => by have := hRs.out i b hb; omega) HDD.out HT.out (by rw [HUE.out, ← HC.out]; exact hp2))
      have HO4 := Lib.hid (HO3.out.trans (ho2.wide (HQ.out j))); clear ho2 hp2
      have HC4 : Hid (c + 3 + 3 * cS txs = k + 3 * cS (ts.take (j + 1))) := Lib.hid (by have := HC.out; have := HCT.out; omega)
      go_wp2
      go_roundw
      case rel => exact ⟨j + 1, c + 3 + 3 * cS txs, by omega, by go_num, rfl, HC4, HR4, HO4⟩
      case measure => simp [intOf]; omega
    · have HD : Hid (c = k + 3 * cS ts) := Lib.hid (by
        have hjm : j = ts.length := by have := HM.out; omega
        rw [HC.out, hjm, List.take_length])
      have hjm : j = m := by omega
      have HF := Lib.hid ((hjm ▸ HR.out).done (P := P) HM.out (by unfold maxLen; omega) HKC.out HPG.out HQ.out)
      go_wp2
      go_ret
      exact ⟨⟨by rw [← HD.out]; rfl, HO.out⟩, HF.out⟩

theorem markS_any : ∀ h, MarkSAt h
  | 0 => by
    rintro u ts P k w ⟨rfl, a, cap, rfl⟩ hhi hk hkc
    exact markS_empty P k 0 a cap w
  | h + 1 => by
    rintro u ts P k w ⟨a, cap, rfl, hc⟩ hhi hk hkc
    by_cases hn : ts = []
    · subst hn
      exact markS_empty P k (h + 1) a cap w
    · obtain ⟨g, xs, U, Q, rfl, h1, ho, hx, hd⟩ := hc.resolve_left hn
      have hin : ∀ i, i < ts.length → (∀ b, Q i b → P b) ∧ ¬ Q i g := fun i hi' => by
        obtain ⟨t, ht⟩ : ∃ t, ts[i]? = some t := ⟨_, List.getElem?_eq_getElem hi'⟩
        obtain ⟨kk, nn, s, txs⟩ := t
        obtain ⟨_, l1, l2, _⟩ := hx i kk nn s txs ht
        exact ⟨l1, l2⟩
      refine markS_some (markS_any h) g cap ts U (fun i b => i < ts.length ∧ Q i b) P k w ⟨xs, ho, fun i kk nn s txs _ ht => ?_, fun i _ _ _ _ hi' => by omega, fun p hp => by omega⟩ h1 hhi ?_ ?_ ?_ hk hkc
      · have hi' := (List.getElem?_eq_some_iff.1 ht).1
        obtain ⟨x3, _, _, hr⟩ := hx i kk nn s txs ht
        have e : (fun b => i < ts.length ∧ Q i b) = Q i := by
          funext b
          simp [hi']
        exact ⟨x3, by show OwnS w h (fun b => i < ts.length ∧ Q i b) (U i) txs; rw [e]; exact hr⟩
      · exact fun i hq => (hin i hq.1).2 hq.2
      · exact fun i b hq => (hin i hq.1).1 b hq.2
      · exact fun i j hij hj b hq hq2 => hd i j hij hj b hq.2 hq2.2

/-- The rows of a call's own, in blocks from lo to hi, however they lie among each other. -/
def OwnX (w : World) (h lo hi : Nat) (u : Value) (ts : List T) : Prop := ∃ P : Nat → Prop, (∀ b, P b → lo ≤ b ∧ b < hi) ∧ OwnS w h P u ts
theorem OwnX.keep {w w' : World} {h lo hi : Nat} {u : Value} {ts : List T} (hk : ∀ b, lo ≤ b → b < hi → w'.heap[b]? = w.heap[b]?) (k : OwnX w h lo hi u ts) : OwnX w' h lo hi u ts := by
  obtain ⟨P, h1, h2⟩ := k
  exact ⟨P, h1, h2.keep fun b hb => hk b (h1 b hb).1 (h1 b hb).2⟩
theorem OwnX.slice {w : World} {h lo hi : Nat} {u : Value} {ts : List T} (k : OwnX w h lo hi u ts) : ∃ a cap, u = .slice a ts.length cap := by
  obtain ⟨P, h1, h2⟩ := k
  exact h2.slice

set_option maxRecDepth 100000 in
set_option maxHeartbeats 800000 in
/-- laws.markTerm, at a term whose rows are the call's own. -/
theorem markXT_any (kk nn : Int) (s : ByteArray) (u : Value) (xs : List T) (h lo hi k : Nat) (w : World) (ho : OwnX w h lo hi u xs) (hhi : hi ≤ w.heap.size) (hk : 1 ≤ k) (hkc : k + 3 * cS xs ≤ 2305843009213693952) :
    Calls Try.prog 33 #[tv kk nn s u, .int .i64 k] w (MarkP lo hi k h u xs w) := by
  obtain ⟨P, hP, hoS⟩ := ho
  have hob : OwnS (boxed w kk nn s u) h P u xs := hoS.keep fun b hb => (boxed_below w kk nn s u).block b (by have := hP b hb; omega)
  have hsz := (boxed_below w kk nn s u).size
  have hcall := markS_any h u xs P k _ hob (fun b hb => by have := hP b hb; omega) hk hkc
  have HO := Lib.hid (Out.of_below (lo := lo) (hi := hi) (boxed_below w kk nn s u))
  have HP := Lib.hid hP
  obtain ⟨a, cap, rfl⟩ := hoS.slice
  clear hoS hob hP
  have HCALL := Lib.hid hcall; clear hcall
  go_enter Try.func33, Try.ntmps33
  go_wp2_with fail
  refine HCALL.out.mono ?_
  rintro e w1 ⟨⟨rfl, ho1⟩, hp1⟩
  have HO1 := Lib.hid (HO.out.trans (ho1.out HP.out)); clear ho1
  have HP1 := Lib.hid (hp1.imp (fun b hb => HP.out b hb)); clear hp1
  go_wp2
  go_ret
  exact ⟨⟨rfl, HO1.out⟩, HP1.out⟩
end Go.Proofs.Ytidbokheeieifaa
namespace Go.Proofs.Ytidbokheeieifaa
open Go.RowKit

/-- The rows of the first q nodes. -/
structure LayOwn (B : Nat) (L : Lay) (N q : Nat) (w : World) : Prop where
  row : ∀ i, i < q → kT (L.V i) ≠ [] → ∃ c vs, L.sl i = .slice (some ⟨L.g i, 0, none⟩) (kT (L.V i)).length c ∧ w.ownsRow (L.g i) 26 4 (.slice (some ⟨L.g i, 0, none⟩) (kT (L.V i)).length c) (kT (L.V i)).length vs
  ge : ∀ i, i < q → kT (L.V i) ≠ [] → B ≤ L.g i
  kid : ∀ i, i < q → kT (L.V i) ≠ [] → L.F i < N ∧ L.b (L.F i) = L.g i
  inj : ∀ i j, i < j → j < q → kT (L.V i) ≠ [] → kT (L.V j) ≠ [] → L.g i ≠ L.g j
  tile : ∀ i j, i < j → j < q → L.F i + (kT (L.V i)).length ≤ L.F j
  top : ∀ i, i < q → L.F i + (kT (L.V i)).length ≤ N

theorem LayOwn.keep {B : Nat} {L : Lay} {N q : Nat} {w w' : World} (x : LayOwn B L N q w) (hk : ∀ i, i < N → w'.heap[L.b i]? = w.heap[L.b i]?) : LayOwn B L N q w' := by
  refine ⟨fun i hi hne => ?_, x.ge, x.kid, x.inj, x.tile, x.top⟩
  obtain ⟨c, vs, e, ho⟩ := x.row i hi hne
  obtain ⟨k1, k2⟩ := x.kid i hi hne
  exact ⟨c, vs, e, row_keep ho (by rw [← k2]; exact hk _ k1)⟩
theorem LayOwn.lt {B : Nat} {L : Lay} {N q : Nat} {w : World} (x : LayOwn B L N q w) {i : Nat} (hi : i < q) (hne : kT (L.V i) ≠ []) : L.g i < w.heap.size := by
  obtain ⟨c, vs, e, ho⟩ := x.row i hi hne
  exact (ho.lt _ rfl).2
theorem LayOwn.below {B : Nat} {L : Lay} {N q : Nat} {w w' : World} (x : LayOwn B L N q w) (hb : Below w.heap.size w w') : LayOwn B L N q w' := by
  refine ⟨fun i hi hne => ?_, x.ge, x.kid, x.inj, x.tile, x.top⟩
  obtain ⟨c, vs, e, ho⟩ := x.row i hi hne
  exact ⟨c, vs, e, row_keep ho (hb.block _ (ho.lt _ rfl).2)⟩
theorem LayOwn.set {B : Nat} {L : Lay} {N q : Nat} {w : World} (x : LayOwn B L N q w) (b o : Nat) (v : Value) : LayOwn B L N q (w.setCell ⟨b, o, none⟩ v) := by
  refine ⟨fun i hi hne => ?_, x.ge, x.kid, x.inj, x.tile, x.top⟩
  obtain ⟨c, vs, e, ho⟩ := x.row i hi hne
  by_cases hb : b = L.g i
  · subst hb
    exact ⟨c, _, e, (ho.stored o v).1⟩
  · exact ⟨c, vs, e, row_keep ho (Below.heap_setCell _ _ _ _ (fun e => hb (by simpa using e.symm)))⟩
theorem LayOwn.le {B B' : Nat} {L : Lay} {N q : Nat} {w : World} (x : LayOwn B L N q w) (h : B' ≤ B) : LayOwn B' L N q w :=
  ⟨x.row, fun i hi hne => Nat.le_trans h (x.ge i hi hne), x.kid, x.inj, x.tile, x.top⟩
theorem LayOwn.start {B : Nat} (L : Lay) (N : Nat) (w : World) : LayOwn B L N 0 w :=
  ⟨fun _ h => by omega, fun _ h => by omega, fun _ h => by omega, fun _ _ _ h => by omega, fun _ _ _ h => by omega, fun _ h => by omega⟩

theorem own_self {w : World} {B g n c m size : Nat} {e : TypeId} {vs : List Value} (h : w.ownsRow B e size (.slice (some ⟨g, 0, none⟩) n c) m vs) : w.ownsRow g e size (.slice (some ⟨g, 0, none⟩) n c) m vs := by
  refine ⟨h.1, ?_⟩
  rcases h.2 with ⟨e1, _⟩ | ⟨g', c', cur, e1, hb, rest⟩
  · simp at e1
  · cases e1
    exact Or.inr ⟨g, c, cur, rfl, Nat.le_refl _, rest⟩

theorem LayOwn.next {w0 : World} {h B B0 : Nat} {L : Lay} {N q : Nat} {wr wc : World} (y : LayOwn B0 L N q wr) (x : LayAt w0 h B L N q wr) (hq : q < N) {k n : Int} {s : ByteArray} {xs : List T} {vs : List Value} {a1 : Option Addr} {c1 g1 : Nat} (hV : L.V q = .node k n s xs)
    (hb : Below wr.heap.size wr wc) (ho : wc.ownsRow wr.heap.size 26 4 (.slice a1 xs.length c1) xs.length vs) (hg : xs.length = 0 ∨ a1 = some ⟨g1, 0, none⟩) (hB : B0 ≤ wr.heap.size) :
    LayOwn B0 (L.next N q g1 (.slice a1 xs.length c1) xs vs) (N + xs.length) (q + 1) (wc.setCell ⟨L.b q, L.o q + 3, none⟩ (.slice a1 xs.length c1)) := by
  have hV' : ∀ i, i < N → (L.next N q g1 (.slice a1 xs.length c1) xs vs).V i = L.V i := fun i hi => by simp only [Lay.next, if_pos hi]
  have hg' : ∀ i, i ≠ q → (L.next N q g1 (.slice a1 xs.length c1) xs vs).g i = L.g i := fun i hi => by simp only [Lay.next, if_neg hi]
  have hgq : (L.next N q g1 (.slice a1 xs.length c1) xs vs).g q = g1 := by simp only [Lay.next, if_true]
  have hF' : ∀ i, i ≠ q → (L.next N q g1 (.slice a1 xs.length c1) xs vs).F i = L.F i := fun i hi => by simp only [Lay.next, if_neg hi]
  have hFq : (L.next N q g1 (.slice a1 xs.length c1) xs vs).F q = N := by simp only [Lay.next, if_true]
  have hsl' : ∀ i, i < q → (L.next N q g1 (.slice a1 xs.length c1) xs vs).sl i = L.sl i := fun i hi => by
    have h1 : i ≠ q := by omega
    have h2 : i < N := by omega
    simp only [Lay.next, if_neg h1, if_pos h2]
  have hslq : (L.next N q g1 (.slice a1 xs.length c1) xs vs).sl q = .slice a1 xs.length c1 := by simp only [Lay.next, if_true]
  have hb' : ∀ i, i < N → (L.next N q g1 (.slice a1 xs.length c1) xs vs).b i = L.b i := fun i hi => by simp only [Lay.next, if_pos hi]
  have hkq : kT (L.V q) = xs := by rw [hV]; rfl
  have hq' : ∀ i, i < q + 1 → i ≠ q → i < q := fun i h1 h2 => by omega
  have hpos : xs ≠ [] → xs.length ≠ 0 := fun h1 h2 => h1 (List.eq_nil_of_length_eq_zero h2)
  have hg1 : xs ≠ [] → wr.heap.size ≤ g1 := fun h0 => by
    have e := hg.resolve_left (hpos h0)
    subst e
    exact (ho.lt g1 rfl).1
  have y2 := (y.below hb).set (L.b q) (L.o q + 3) (.slice a1 xs.length c1)
  refine ⟨fun i hi hne => ?_, fun i hi hne => ?_, fun i hi hne => ?_, fun i j hij hj hi2 hj2 => ?_, fun i j hij hj => ?_, fun i hi => ?_⟩
  · have hiN : i < N := by omega
    rw [hV' i hiN] at hne ⊢
    by_cases hiq : i = q
    · subst hiq
      rw [hkq] at hne ⊢
      have e := hg.resolve_left (hpos hne)
      subst e
      rw [hgq, hslq]
      have hself := own_self ho
      by_cases hbb : L.b i = g1
      · rw [hbb]
        exact ⟨c1, _, rfl, (hself.stored _ _).1⟩
      · exact ⟨c1, vs, rfl, row_keep hself (Below.heap_setCell _ _ _ _ (fun e => hbb (by simpa using e.symm)))⟩
    · rw [hg' i hiq, hsl' i (by omega)]
      exact y2.row i (by omega) hne
  · have hiN : i < N := by omega
    rw [hV' i hiN] at hne
    by_cases hiq : i = q
    · subst hiq
      rw [hkq] at hne
      rw [hgq]
      exact Nat.le_trans hB (hg1 hne)
    · rw [hg' i hiq]
      exact y.ge i (by omega) hne
  · have hiN : i < N := by omega
    rw [hV' i hiN] at hne
    by_cases hiq : i = q
    · subst hiq
      rw [hkq] at hne
      have := hpos hne
      rw [hgq, hFq]
      refine ⟨by omega, ?_⟩
      have h1 : ¬ N < N := by omega
      simp only [Lay.next, if_neg h1]
    · obtain ⟨k1, k2⟩ := y.kid i (by omega) hne
      rw [hF' i hiq, hg' i hiq, hb' _ k1]
      exact ⟨by omega, k2⟩
  · rw [hV' i (by omega)] at hi2
    rw [hV' j (by omega)] at hj2
    rw [hg' i (by omega)]
    by_cases hjq : j = q
    · subst hjq
      rw [hkq] at hj2
      rw [hgq]
      have := y.lt (i := i) (by omega) hi2
      have := hg1 hj2
      omega
    · rw [hg' j hjq]
      exact y.inj i j hij (by omega) hi2 hj2
  · rw [hV' i (by omega), hF' i (by omega)]
    by_cases hjq : j = q
    · subst hjq
      rw [hFq]
      exact y.top i hij
    · rw [hF' j hjq]
      exact y.tile i j hij (by omega)
  · rw [hV' i (by omega)]
    by_cases hiq : i = q
    · subst hiq
      rw [hFq, hkq]
      exact Nat.le_refl _
    · rw [hF' i hiq]
      have := y.top i (by omega)
      omega

/-- x lies at i or below it. -/
inductive Desc (L : Lay) (N : Nat) : Nat → Nat → Prop
  | self (i : Nat) : Desc L N i i
  | kid {i p j : Nat} : Desc L N i p → p < N → j < (kT (L.V p)).length → Desc L N i (L.F p + j)
theorem Desc.le {L : Lay} {N : Nat} (hF : ∀ i, i < N → i < L.F i) {i x : Nat} (d : Desc L N i x) : i ≤ x := by
  induction d with
  | self => exact Nat.le_refl _
  | kid d hp hj ih => have := hF _ hp; omega
theorem Desc.first {L : Lay} {N : Nat} {i x : Nat} {j : Nat} (hi : i < N) (hj : j < (kT (L.V i)).length) (d : Desc L N (L.F i + j) x) : Desc L N i x := by
  generalize e : L.F i + j = y at d
  induction d with
  | self => subst e; exact .kid (.self i) hi hj
  | kid d hp hj' ih => exact .kid ih hp hj'
theorem par_one {L : Lay} {N : Nat} {B : Nat} {w : World} (y : LayOwn B L N N w) {p p' j j' : Nat} (hp : p < N) (hp' : p' < N) (hj : j < (kT (L.V p)).length) (hj' : j' < (kT (L.V p')).length) (e : L.F p + j = L.F p' + j') : p = p' := by
  rcases Nat.lt_trichotomy p p' with h | h | h
  · have := y.tile p p' h hp'; omega
  · exact h
  · have := y.tile p' p h hp; omega
theorem Desc.comp {L : Lay} {N : Nat} {B : Nat} {w : World} (y : LayOwn B L N N w) {a b x : Nat} (d : Desc L N a x) (d' : Desc L N b x) : Desc L N a b ∨ Desc L N b a := by
  induction d with
  | self => exact Or.inr d'
  | @kid p j d hp hj ih =>
    generalize e : L.F p + j = z at d'
    cases d' with
    | self => subst e; exact Or.inl (.kid d hp hj)
    | @kid p' j' d2 hp2 hj2 =>
      have := par_one y hp hp2 hj hj2 e
      subst this
      exact ih d2
theorem Desc.sib {L : Lay} {N : Nat} {B : Nat} {w : World} (y : LayOwn B L N N w) (hF : ∀ i, i < N → i < L.F i) {i j j' : Nat} (hi : i < N) (hj : j < (kT (L.V i)).length) (hj' : j' < (kT (L.V i)).length) (hne : j ≠ j') : ¬ Desc L N (L.F i + j) (L.F i + j') := by
  intro d
  generalize e : L.F i + j' = z at d
  cases d with
  | self => omega
  | @kid p q d2 hp hq =>
    have := par_one y hi hp hj' hq e
    subst this
    have := d2.le hF
    have := hF _ hi
    omega
theorem Desc.apart {L : Lay} {N : Nat} {B : Nat} {w : World} (y : LayOwn B L N N w) (hF : ∀ i, i < N → i < L.F i) {i j j' x : Nat} (hi : i < N) (hj : j < (kT (L.V i)).length) (hj' : j' < (kT (L.V i)).length) (hne : j ≠ j') (d : Desc L N (L.F i + j) x) (d' : Desc L N (L.F i + j') x) : False := by
  rcases d.comp y d' with h | h
  · exact Desc.sib y hF hi hj hj' hne h
  · exact Desc.sib y hF hi hj' hj (Ne.symm hne) h
/-- The blocks of the rows at a node and below it. -/
def RowsOf (L : Lay) (N i : Nat) (b : Nat) : Prop := ∃ x, Desc L N i x ∧ x < N ∧ kT (L.V x) ≠ [] ∧ b = L.g x
theorem RowsOf.apart {L : Lay} {N : Nat} {B : Nat} {w : World} (y : LayOwn B L N N w) (hF : ∀ i, i < N → i < L.F i) {i j j' b : Nat} (hi : i < N) (hj : j < (kT (L.V i)).length) (hj' : j' < (kT (L.V i)).length) (hne : j ≠ j') (h : RowsOf L N (L.F i + j) b) (h' : RowsOf L N (L.F i + j') b) : False := by
  obtain ⟨x, d, hx, hk, rfl⟩ := h
  obtain ⟨x', d', hx', hk', e⟩ := h'
  have hxx : x = x' := by
    rcases Nat.lt_trichotomy x x' with h | h | h
    · exact absurd e (y.inj x x' h hx' hk hk')
    · exact h
    · exact absurd e.symm (y.inj x' x h hx hk' hk)
  subst hxx
  exact Desc.apart y hF hi hj hj' hne d d'
theorem RowsOf.not_up {L : Lay} {N : Nat} {B : Nat} {w : World} (y : LayOwn B L N N w) (hF : ∀ i, i < N → i < L.F i) {i j : Nat} (hi : i < N) (hne : kT (L.V i) ≠ []) : ¬ RowsOf L N (L.F i + j) (L.g i) := by
  rintro ⟨x, d, hx, hk, e⟩
  have h1 := d.le hF
  have h2 := hF _ hi
  exact y.inj i x (by omega) hx hne hk e
theorem RowsOf.lt {L : Lay} {N : Nat} {B : Nat} {w : World} (y : LayOwn B L N N w) {i b : Nat} (h : RowsOf L N i b) : B ≤ b ∧ b < w.heap.size := by
  obtain ⟨x, d, hx, hk, rfl⟩ := h
  exact ⟨y.ge x hx hk, y.lt hx hk⟩
theorem RowsOf.up {L : Lay} {N : Nat} {i j b : Nat} (hi : i < N) (hj : j < (kT (L.V i)).length) (h : RowsOf L N (L.F i + j) b) : RowsOf L N i b := by
  obtain ⟨x, d, hx, hk, rfl⟩ := h
  exact ⟨x, d.first hi hj, hx, hk, rfl⟩
end Go.Proofs.Ytidbokheeieifaa
