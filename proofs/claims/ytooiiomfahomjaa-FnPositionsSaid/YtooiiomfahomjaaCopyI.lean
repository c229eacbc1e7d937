/-
  impl.copyTerm: the term in memory of the call's own, all rows below it owned and apart.
-/
import Derived.Test.YtooiiomfahomjaaCloneI
import Derived.Test.YtooiiomfahomjaaGrew
import Derived.Test.YtooiiomfahomjaaPosS
import Derived.Test.YtooiiomfahomjaaTermHeld
import Derived.Deep.LoopGhost
namespace Go.Proofs.Ytooiiomfahomjaa
open Go.RowKit

/-- The pointer to a node. -/
abbrev pP (p : Pd) : Value := .pointer (some ⟨p.b, p.o, none⟩)
/-- How many terms are still to do. -/
def todo (ps : List Pd) : Nat := (ps.map fun p => 1 + cS p.xs).sum
theorem todo_cons (p : Pd) (ps : List Pd) : todo (p :: ps) = 1 + cS p.xs + todo ps := by simp [todo]
theorem todo_app (ps qs : List Pd) : todo (ps ++ qs) = todo ps + todo qs := by simp [todo]
theorem todo_kids (g h : Nat) (U : Nat → Value) (xs : List T) (j : Nat) (hj : j ≤ xs.length) : todo (kidL g h U (fun i => ((xs[i]?).map kT).getD []) j) = cS (xs.take j) := by
  induction j with
  | zero => simp [kidL, todo, cS]
  | succ j ih =>
    obtain ⟨t, ht⟩ : ∃ t, xs[j]? = some t := ⟨_, List.getElem?_eq_getElem (by omega)⟩
    rw [kidL, todo_cons, ih (by omega), tk xs j t ht, cS_snoc, cT_kT]
    simp [kid, ht]; omega
theorem todo_len (ps : List Pd) : ps.length ≤ todo ps := by
  induction ps with
  | nil => simp [todo]
  | cons p ps ih => rw [todo_cons, List.length_cons]; omega

/-- A row of the call's own, cut short. -/
theorem own_front {w : World} {B n k cap : Nat} {e : TypeId} {a : Option Addr} {xs ys : List Value} (h : w.ownsRow B e 1 (.slice a n cap) n (xs ++ ys)) (hk : xs.length = k) (hx : ys ≠ []) : w.ownsRow B e 1 (.slice a k cap) k xs := by
  have hl := h.1
  rw [List.length_append, Nat.mul_one] at hl
  refine ⟨by omega, ?_⟩
  rcases h.2 with ⟨e1, h0⟩ | ⟨g, c, cur, e1, hb, hg, hc, hm, hs, ht⟩
  · exfalso
    have : ys.length ≠ 0 := fun e => hx (List.eq_nil_of_length_eq_zero e)
    omega
  · simp only [Value.slice.injEq] at e1
    obtain ⟨rfl, _, rfl⟩ := e1
    refine Or.inr ⟨g, cap, cur, rfl, hb, hg, by omega, hm, hs, ?_⟩
    have h2 := congrArg (List.take k) ht
    rw [List.take_take, List.take_left' hk] at h2
    rw [← h2]; congr 1; omega

/-- The node's arguments were copied, and all of them are put behind what is still to do. -/
theorem good_push {w0 : World} {Pb : Nat → Prop} {Fin : World → Prop} {ps : List Pd} {p : Pd} {v v1 vi : Value} {w wc wi : World} {a : Option Addr} {m c g : Nat} {vs : List Value}
    (cont : ∀ v' w' u', Done p v w v' w' u' → GoodW w0 Pb Fin ps v' w') (hp : p.b < w.heap.size) (hpo : NotOwn v p.b) (hl : p.xs.length ≤ maxLen) (hm : m = p.xs.length) (hv1 : v1.ownBlock = v.ownBlock) (hvl : ∀ k, v.ownBlock = some k → k < w.heap.size)
    (hb : Below w.heap.size w wc) (ho : wc.ownsRow w.heap.size 26 4 (.slice a m c) m vs) (hg : m = 0 ∨ a = some ⟨g, 0, none⟩) (hPg : ∀ b, w.heap.size ≤ b → Pb b)
    (hr : RowV w0 (p.h - 1) p.xs vs) (hh : p.h = 0 → p.xs = []) (hG : Grew v1 (wc.setCell ⟨p.b, p.o + 3, none⟩ (.slice a m c)) vi wi) :
    GoodW w0 Pb Fin (kidL g (p.h - 1) (fun i => (vs[i * 4 + 3]?).getD undef) (fun i => ((p.xs[i]?).map kT).getD []) m ++ ps) vi wi := by
  obtain ⟨s1, k1, o1⟩ := hG
  have hz : (wc.setCell ⟨p.b, p.o + 3, none⟩ (.slice a m c)).heap.size = wc.heap.size := by simp [World.setCell]
  rw [hz] at s1 k1 o1
  have hws := hb.size
  rw [hv1] at o1
  have hn1 : ∀ b, NotOwn v b → NotOwn v1 b := fun b h => by unfold NotOwn at *; rw [hv1]; exact h
  have hnv : ∀ b, w.heap.size ≤ b → NotOwn v b := fun b h e => by have := hvl b e.symm; omega
  have size : w.heap.size ≤ wi.heap.size := by omega
  have keep : ∀ b, b < w.heap.size → b ≠ p.b → NotOwn v b → wi.heap[b]? = w.heap[b]? := fun b h1 h2 h3 =>
    (k1 b (by omega) (hn1 b h3)).trans ((Below.heap_setCell _ _ _ _ (fun e => h2 (by simpa using e))).trans (hb.block b h1))
  have cell : wi.heap[p.b]? = (w.setCell ⟨p.b, p.o + 3, none⟩ (.slice a m c)).heap[p.b]? :=
    (k1 p.b (by omega) (hn1 _ hpo)).trans (setCell_heap (ad := ⟨p.b, p.o + 3, none⟩) (hb.block p.b hp))
  have ob : vi.ownBlock = v.ownBlock ∨ ∃ k, vi.ownBlock = some k ∧ w.heap.size ≤ k := by
    rcases o1 with o1 | ⟨k, e, hk⟩
    · exact Or.inl o1
    · exact Or.inr ⟨k, e, by omega⟩
  by_cases h0 : m = 0
  · have hx : p.xs = [] := List.eq_nil_of_length_eq_zero (by omega)
    subst h0
    exact cont vi wi _ ⟨size, keep, cell, ob, by rw [hx]; exact OwnR.nil _ _ _ _ _ _ _⟩
  · have ha : a = some ⟨g, 0, none⟩ := hg.resolve_left h0
    subst ha
    have hlt := ho.lt g rfl
    obtain ⟨h', hh'⟩ : ∃ h', p.h = h' + 1 := ⟨p.h - 1, by
      have : p.h ≠ 0 := fun e => h0 (by rw [hm, hh e]; rfl)
      omega⟩
    rw [show p.h - 1 = h' by omega] at hr ⊢
    refine GoodW.kids (cap := c) cont hlt.1 (hPg g hlt.1) hp hpo hl hh' (fun i k n s txs hi => ?_) m vi wi (by omega) ⟨size, keep, by rw [← hm]; exact cell, ob, by omega, notOwn_old (n := wc.heap.size) o1 hlt.2 (hnv g hlt.1), ?_⟩
    · obtain ⟨_, a', m', cap', _, _, _, x3, ha⟩ := hr.at i k n s txs hi
      simp only [hi, Option.map_some, Option.getD_some, x3]
      exact ⟨rfl, ha⟩
    · have hrow1 : (wc.setCell ⟨p.b, p.o + 3, none⟩ (.slice (some ⟨g, 0, none⟩) m c)).ownsRow w.heap.size 26 4 (.slice (some ⟨g, 0, none⟩) m c) m vs := row_keep ho (Below.heap_setCell _ _ _ _ (fun e => by simp at e; omega))
      have hrow2 := row_keep hrow1 (w' := wi) (k1 g hlt.2 (hn1 _ (hnv g hlt.1)))
      have hrow3 : wi.ownsRow g 26 4 (.slice (some ⟨g, 0, none⟩) m c) m vs := by
        refine ⟨hrow2.1, ?_⟩
        rcases hrow2.2 with ⟨e, _⟩ | ⟨g', cap', cur, e, _, rest⟩
        · cases e
        · cases e
          exact Or.inr ⟨g, c, cur, rfl, Nat.le_refl _, rest⟩
      refine ⟨vs, fun _ => undef, fun _ => 0, fun _ => 0, by rw [← hm]; exact hrow3, fun i k n s txs hi => ?_, fun i i' h1 h2 h3 => by omega⟩
      obtain ⟨hs, a', m', cap', x0, x1, x2, x3, _⟩ := hr.at i k n s txs hi
      have hil := (List.getElem?_eq_some_iff.1 hi).1
      exact ⟨⟨hs, x0, x1, x2⟩, fun _ => by simp [x3], fun hle => by omega⟩

/-- A copy whose rows are the call's own, and apart. -/
def CopyR (h : Nat) (t : T) (w : World) (e : Ending) (w' : World) : Prop :=
  ∃ k n s u xs, e = .returned (tv k n s u) ∧ t = .node k n s xs ∧ s.size ≤ maxLen ∧ OwnR (fun _ => True) w' h w.heap.size w'.heap.size u xs ∧ Below w.heap.size w w'
end Go.Proofs.Ytooiiomfahomjaa
