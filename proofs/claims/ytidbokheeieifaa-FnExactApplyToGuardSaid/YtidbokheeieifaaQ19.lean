/-
  impl.changeVars: a term with its variables changed, in memory of the call's own, all rows below it owned and apart; what it asks of the function that changes a variable.
-/
import Derived.Test.YtidbokheeieifaaQ8
import Derived.Test.YtidbokheeieifaaQ16
import Derived.Deep.DeepCutAuto
import Derived.Deep.CutBlock
namespace Go.Proofs.Ytidbokheeieifaa
open Go.RowKit

abbrev pQ (p : Pv) : Value := .pointer (some ⟨p.b, p.o, none⟩)
def todoM (ps : List Pv) : Nat := (ps.map fun p => 1 + cS p.xs).sum
theorem todoM_cons (p : Pv) (ps : List Pv) : todoM (p :: ps) = 1 + cS p.xs + todoM ps := by simp [todoM]
theorem todoM_app (ps qs : List Pv) : todoM (ps ++ qs) = todoM ps + todoM qs := by simp [todoM]
theorem todoM_len (ps : List Pv) : ps.length ≤ todoM ps := by
  induction ps with
  | nil => simp [todoM]
  | cons p ps ih => rw [todoM_cons, List.length_cons]; omega
def hdV (vs : List Value) (xs : List T) (i : Nat) : Hd := match xs[i]? with
  | some (.node k n s txs) => ⟨k, n, s, (vs[i * 4 + 3]?).getD undef, txs⟩
  | none => ⟨0, 0, ⟨#[]⟩, undef, []⟩
theorem hdV_at {vs : List Value} {xs : List T} {i : Nat} {k n : Int} {s : ByteArray} {txs : List T} (h : xs[i]? = some (.node k n s txs)) : hdV vs xs i = ⟨k, n, s, (vs[i * 4 + 3]?).getD undef, txs⟩ := by simp [hdV, h]
theorem todoM_kids (g h : Nat) (vs : List Value) (xs : List T) (j : Nat) (hj : j ≤ xs.length) : todoM (kidsM g h (hdV vs xs) j) = cS (xs.take j) := by
  induction j with
  | zero => simp [kidsM, todoM, cS]
  | succ j ih =>
    obtain ⟨t, ht⟩ : ∃ t, xs[j]? = some t := ⟨_, List.getElem?_eq_getElem (by omega)⟩
    obtain ⟨k, n, s, txs⟩ := t
    rw [kidsM, todoM_cons, ih (by omega), tk xs j _ ht, cS_snoc, cT_node]
    simp only [kidM, hdV_at ht]; omega
theorem kidsM_rev (g h : Nat) (U : Nat → Hd) (q : Nat) (ps : List Pv) : ((kidsM g h U (q + 1) ++ ps).reverse.map pQ) = ((kidsM g h U q ++ ps).reverse.map pQ) ++ [.pointer (some ⟨g, q * 4, none⟩)] := by
  simp [kidsM, kidM]
theorem kidsM_len (g h : Nat) (U : Nat → Hd) (q : Nat) : (kidsM g h U q).length = q := by
  induction q with
  | zero => rfl
  | succ q ih => rw [kidsM, List.length_cons, ih]

/-- The node's arguments were copied, and all of them are put behind what is still to do. -/
theorem goodM_push {f : T → T} {D : Nat} {w0 : World} {Pb : Nat → Prop} {Fin : World → Prop} {ps : List Pv} {p : Pv} {v v1 vi : Value} {w w1 wc wi : World} {a : Option Addr} {m c g : Nat} {vs : List Value} {S : ByteArray}
    (cont : ∀ v' w', DoneM f D p v w v' w' → GoodM f D w0 Pb Fin ps v' w') (hn : NodeC w p.b p.o p.k p.n p.s p.u) (hp : p.b < w.heap.size) (hpo : NotOwn v p.b) (hl : p.xs.length ≤ maxLen) (hm : m = p.xs.length) (hv1 : v1.ownBlock = v.ownBlock) (hvl : ∀ k, v.ownBlock = some k → k < w.heap.size)
    (hw1s : w.heap.size ≤ w1.heap.size) (hw1k : ∀ b, b < w.heap.size → b ≠ p.b → w1.heap[b]? = w.heap[b]?) (hw1c : w1.heap[p.b]? = (w.setCell ⟨p.b, p.o + 2, none⟩ (.string S)).heap[p.b]?) (hS : S.size ≤ maxLen) (hf : f (.node p.k p.n p.s p.xs) = .node p.k p.n S (p.xs.map f)) (hwt : wT (.node p.k p.n p.s p.xs) ≤ 4194303)
    (hb : Below w1.heap.size w1 wc) (ho : wc.ownsRow w1.heap.size 26 4 (.slice a m c) m vs) (hg : m = 0 ∨ a = some ⟨g, 0, none⟩) (hPg : ∀ b, w.heap.size ≤ b → Pb b)
    (hr : RowV w0 (p.h - 1) p.xs vs) (hh : p.h = 0 → p.xs = []) (hG : Grew v1 (wc.setCell ⟨p.b, p.o + 3, none⟩ (.slice a m c)) vi wi) :
    GoodM f D w0 Pb Fin (kidsM g (p.h - 1) (hdV vs p.xs) m ++ ps) vi wi := by
  obtain ⟨s1, k1, o1⟩ := hG
  have hz : (wc.setCell ⟨p.b, p.o + 3, none⟩ (.slice a m c)).heap.size = wc.heap.size := by simp [World.setCell]
  rw [hz] at s1 k1 o1
  have hws := hb.size
  rw [hv1] at o1
  have hn1 : ∀ b, NotOwn v b → NotOwn v1 b := fun b h => by unfold NotOwn at *; rw [hv1]; exact h
  have hnv : ∀ b, w.heap.size ≤ b → NotOwn v b := fun b h e => by have := hvl b e.symm; omega
  have size : w.heap.size ≤ wi.heap.size := by omega
  have keep : ∀ b, b < w.heap.size → b ≠ p.b → NotOwn v b → wi.heap[b]? = w.heap[b]? := fun b h1 h2 h3 =>
    (k1 b (by omega) (hn1 b h3)).trans ((Below.heap_setCell _ _ _ _ (fun e => h2 (by simpa using e))).trans ((hb.block b (by omega)).trans (hw1k b h1 h2)))
  have cell : wi.heap[p.b]? = (cellsQ w p.b p.o p.k p.n S (.slice a m c)).heap[p.b]? := by
    rw [cellsQ_head hn.c0 hn.c1]
    exact (k1 p.b (by omega) (hn1 _ hpo)).trans (setCell_heap' ((hb.block p.b (by omega)).trans hw1c))
  have ob : vi.ownBlock = v.ownBlock ∨ ∃ k, vi.ownBlock = some k ∧ w.heap.size ≤ k := by
    rcases o1 with o1 | ⟨k, e, hk⟩
    · exact Or.inl o1
    · exact Or.inr ⟨k, e, by omega⟩
  by_cases h0 : m = 0
  · have hx : p.xs = [] := List.eq_nil_of_length_eq_zero (by omega)
    subst h0
    refine cont vi wi ⟨size, keep, ob, _, _, _, _, _, hf, hS, cell, ?_⟩
    rw [hx]
    exact OwnR.nil _ _ _ _ _ _ _
  · have ha : a = some ⟨g, 0, none⟩ := hg.resolve_left h0
    subst ha
    have hlt := ho.lt g rfl
    obtain ⟨h', hh'⟩ : ∃ h', p.h = h' + 1 := ⟨p.h - 1, by
      have : p.h ≠ 0 := fun e => h0 (by rw [hm, hh e]; rfl)
      omega⟩
    rw [show p.h - 1 = h' by omega] at hr ⊢
    refine GoodM.kids (cap := c) cont (by omega) (hPg g (by omega)) hp hpo hl hh' hS hf hwt (fun i k n s txs hi => ?_) m vi wi (by omega) ⟨size, keep, by rw [← hm]; exact cell, ob, by omega, notOwn_old (n := wc.heap.size) o1 hlt.2 (hnv g (by omega)), ?_⟩
    · obtain ⟨_, a', m', cap', _, _, _, x3, ha⟩ := hr.at i k n s txs hi
      rw [hdV_at hi]
      simp only [x3, Option.getD_some]
      exact ⟨trivial, trivial, trivial, trivial, ha⟩
    · have hrow1 : (wc.setCell ⟨p.b, p.o + 3, none⟩ (.slice (some ⟨g, 0, none⟩) m c)).ownsRow w1.heap.size 26 4 (.slice (some ⟨g, 0, none⟩) m c) m vs := row_keep ho (Below.heap_setCell _ _ _ _ (fun e => by simp at e; omega))
      have hrow2 := row_keep hrow1 (w' := wi) (k1 g hlt.2 (hn1 _ (hnv g (by omega))))
      have hrow3 : wi.ownsRow g 26 4 (.slice (some ⟨g, 0, none⟩) m c) m vs := by
        refine ⟨hrow2.1, ?_⟩
        rcases hrow2.2 with ⟨e, _⟩ | ⟨g', cap', cur, e, _, rest⟩
        · cases e
        · cases e
          exact Or.inr ⟨g, c, cur, rfl, Nat.le_refl _, rest⟩
      refine ⟨vs, fun _ => undef, fun _ => 0, fun _ => 0, by rw [← hm]; exact hrow3, fun i hi hil => ?_, fun i t hle hi => ?_, fun i i' h1 h2 h3 => by omega⟩
      · obtain ⟨t, ht⟩ : ∃ t, p.xs[i]? = some t := ⟨_, List.getElem?_eq_getElem (by omega)⟩
        obtain ⟨k, n, s, txs⟩ := t
        obtain ⟨hs, a', m', cap', x0, x1, x2, x3, _⟩ := hr.at i k n s txs ht
        rw [hdV_at ht]
        exact ⟨x0, x1, x2, by simp [x3]⟩
      · have hil := (List.getElem?_eq_some_iff.1 hi).1
        omega

/-- What the function that changes a variable does to a node. -/
def CbE (F : ByteArray → Option T) (R : ByteArray → ByteArray) (D : Nat) (w0 : World) (b o : Nat) (s : ByteArray) (W : World) (e : Ending) (w' : World) : Prop :=
  ∃ B, e = .returned (.bool B) ∧ Below w0.heap.size w0 w' ∧ W.heap.size ≤ w'.heap.size ∧ (∀ j, j < W.heap.size → j ≠ b → w'.heap[j]? = W.heap[j]?) ∧
  (B = true → ∃ k' n' s' u' xs', F s = some (.node k' n' s' xs') ∧ s'.size ≤ maxLen ∧ w'.heap[b]? = (cellsQ W b o k' n' s' u').heap[b]? ∧ OwnR (fun _ => True) w' D W.heap.size w'.heap.size u' xs') ∧
  (B = false → F s = none ∧ (R s).size ≤ maxLen ∧ w'.heap[b]? = (W.setCell ⟨b, o + 2, none⟩ (.string (R s))).heap[b]?)
def CbOk (fid : FuncId) (cv : Value) (F : ByteArray → Option T) (R : ByteArray → ByteArray) (D : Nat) (w0 : World) : Prop :=
  ∀ (b o : Nat) (n : Int) (s : ByteArray) (u : Value) (W : World), Below w0.heap.size w0 W → w0.heap.size ≤ b → b < W.heap.size → NodeC W b o 1 n s u → s.size ≤ 4194303 →
    Calls Try.prog fid #[.pointer (some ⟨b, o, none⟩), cv] W (CbE F R D w0 b o s W)

/-- What the box of the term holds at the end. -/
def FinM (f : T → T) (D : Nat) (w : World) (t : T) (h : Nat) (w' : World) : Prop :=
  ∃ k n s u xs, f t = .node k n s xs ∧ s.size ≤ maxLen ∧ w'.heap[w.heap.size]? = some (trow k n s u) ∧ OwnR (fun _ => True) w' (h + D) (w.heap.size + 2) w'.heap.size u xs
theorem startM (f : T → T) (D : Nat) (w : World) (k n : Int) (s : ByteArray) (a : Option Addr) (cap h : Nat) (xs : List T) (hw : wT (.node k n s xs) ≤ 4194303) (ha : ArgsAt w 0 h (.slice a xs.length cap) xs) :
    GoodM f D w (PbC w) (FinM f D w (.node k n s xs) h) [⟨w.heap.size, 0, h, k, n, s, .slice a xs.length cap, xs⟩] (.slice (some ⟨w.heap.size + 2, 0, none⟩) 1 1) (boxC w k n s (.slice a xs.length cap)) := by
  have r0 : (boxC w k n s (.slice a xs.length cap)).heap[w.heap.size]? = some (trow k n s (.slice a xs.length cap)) := by
    rw [Below.heap_alloc _ _ _ (by simp; omega), Below.heap_alloc _ _ _ (by simp)]; exact heap_new w _ rfl
  obtain ⟨⟨c0, c1, c2, c3⟩, f0, f1, f2, f3⟩ := cells_of4 r0
  refine ⟨⟨⟨c0, c1, c2, c3, f0, f1, f2, f3⟩, hw, Or.inl rfl, by simp; omega, fun e => ?_, ha⟩, fun v' w' d => ?_⟩
  · simp [Value.ownBlock] at e
  · obtain ⟨k', n', s', u', xs', ef, hs', hc, ho⟩ := d.res
    refine ⟨k', n', s', u', xs', ef, hs', ?_, (ho.wide (by simp) (Nat.le_refl _)).keep (fun b _ _ _ => ⟨rfl, trivial⟩)⟩
    have h1 := heap_set_at r0 0 (.int .i64 k')
    have h2 := heap_set_at h1 1 (.int .i64 n')
    have h3 := heap_set_at h2 2 (.string s')
    have h4 := heap_set_at h3 3 u'
    exact hc.trans h4
end Go.Proofs.Ytidbokheeieifaa
