/-
  Lists of positions, and what spec.l4Walk's steps ask. No walk.
-/
import Derived.Test.YtooiiomfahomjaaGrew
import Derived.Test.YtooiiomfahomjaaPosDef
import Derived.Test.YtooiiomfahomjaaInts
namespace Go.Proofs.Ytooiiomfahomjaa
open Go.RowKit

/-- The cells of a list of lists of integers: each holds one in a row of the call's own, in blocks from B on of which Q holds. -/
def RowI (w : World) (B : Nat) (Q : Nat → Prop) (vs : List Value) (pss : List (List Int)) : Prop :=
  vs.length = pss.length ∧ ∀ (i : Nat) (q : List Int), pss[i]? = some q → ∃ u : Value, vs[i]? = some u ∧ w.ownsRow B 3 1 u q.length (q.map iv) ∧ ∀ k, u.ownBlock = some k → k < w.heap.size ∧ Q k
theorem own_at {w w' : World} {B n size : Nat} {e : TypeId} {v : Value} {xs : List Value} (h : w.ownsRow B e size v n xs) (hk : ∀ k, v.ownBlock = some k → w'.heap[k]? = w.heap[k]?) : w'.ownsRow B e size v n xs := by
  refine ⟨h.1, ?_⟩
  rcases h.2 with hn | ⟨g, cap, cur, rfl, hg, hc, rest⟩
  · exact Or.inl hn
  · exact Or.inr ⟨g, cap, cur, rfl, hg, by rw [hk g rfl]; exact hc, rest⟩
theorem RowI.keep {w w' : World} {B : Nat} {Q Q' : Nat → Prop} {vs : List Value} {pss : List (List Int)} (h : RowI w B Q vs pss) (hs : w.heap.size ≤ w'.heap.size) (hk : ∀ k, k < w.heap.size → Q k → w'.heap[k]? = w.heap[k]? ∧ Q' k) : RowI w' B Q' vs pss := by
  refine ⟨h.1, fun i q hq => ?_⟩
  obtain ⟨u, hu, hi, hb⟩ := h.2 i q hq
  refine ⟨u, hu, own_at hi fun k e => ?_, fun k e => ?_⟩
  · obtain ⟨h2, h3⟩ := hb k e; exact (hk k h2 h3).1
  · obtain ⟨h2, h3⟩ := hb k e; exact ⟨by omega, (hk k h2 h3).2⟩
theorem RowI.snoc {w : World} {B : Nat} {Q : Nat → Prop} {vs : List Value} {pss : List (List Int)} (h : RowI w B Q vs pss) {u : Value} {q : List Int} (hi : w.ownsRow B 3 1 u q.length (q.map iv)) (hb : ∀ k, u.ownBlock = some k → k < w.heap.size ∧ Q k) : RowI w B Q (vs ++ [u]) (pss ++ [q]) := by
  have hl := h.1
  refine ⟨by simp [hl], fun i q' hq => ?_⟩
  by_cases hlt : i < pss.length
  · rw [List.getElem?_append_left hlt] at hq
    obtain ⟨u', hu', hi', hb'⟩ := h.2 i q' hq
    exact ⟨u', by rw [List.getElem?_append_left (by omega)]; exact hu', hi', hb'⟩
  · have e : i = pss.length := by
      have h1 := (List.getElem?_eq_some_iff.1 hq).1
      simp at h1; omega
    subst e
    rw [List.getElem?_append_right (Nat.le_refl _), Nat.sub_self] at hq
    simp at hq
    subst hq
    exact ⟨u, by rw [← hl, List.getElem?_append_right (Nat.le_refl _), Nat.sub_self]; rfl, hi, hb⟩

/-- A list of positions in a slice of the call's own; the positions lie in other blocks. -/
def ListI (w : World) (B : Nat) (v : Value) (pss : List (List Int)) : Prop := ∃ vs, w.ownsRow B 27 1 v pss.length vs ∧ RowI w B (NotOwn v) vs pss
theorem ListI.grew {w w' : World} {B : Nat} {v : Value} {pss : List (List Int)} (h : ListI w B v pss) (hg : Below w.heap.size w w') : ListI w' B v pss := by
  obtain ⟨vs, ho, hr⟩ := h
  exact ⟨vs, keep_own ho hg, hr.keep hg.size fun k h2 h3 => ⟨hg.block k h2, h3⟩⟩
/-- One more position. -/
theorem ListI.push {w w3 : World} {B : Nat} {v : Value} {pss : List (List Int)} {vs : List Value} {o : Obj} {u : Value} {q : List Int} {g3 cap3 : Nat} (hr : RowI w B (NotOwn v) vs pss) (hi : w.ownsRow B 3 1 u q.length (q.map iv)) (hb : ∀ k, u.ownBlock = some k → k < w.heap.size ∧ NotOwn v k)
    (hown : w3.ownsRow B 27 1 (.slice (some ⟨g3, 0, none⟩) (pss.length + 1) cap3) (pss.length + 1) (vs ++ [u])) (hgr : (w.alloc o).grownBy w3 v.ownBlock) (hat : v.ownBlock = some g3 ∨ g3 = (w.alloc o).heap.size) :
    ListI w3 B (.slice (some ⟨g3, 0, none⟩) (pss.length + 1) cap3) (pss ++ [q]) ∧ Grew v w (.slice (some ⟨g3, 0, none⟩) (pss.length + 1) cap3) w3 := by
  have hg := grew_app (n := pss.length + 1) (cap := cap3) hgr hat
  refine ⟨⟨_, by simpa using hown, (hr.snoc hi hb).keep hg.1 fun k h2 h3 => ⟨hg.2.1 k h2 h3, notOwn_old hg.2.2 h2 h3⟩⟩, hg⟩

/-- The position handed down, in a row. -/
def RowAtI (w : World) (v : Value) (g c : Nat) (ps : List Int) : Prop := v = .slice (some ⟨g, 0, none⟩) ps.length c ∧ g < w.heap.size ∧ ∀ (j : Nat) (u : Value), (ps.map iv)[j]? = some u → w.cell? ⟨g, j, none⟩ = some u
theorem RowAtI.keep {w w' : World} {v : Value} {g c : Nat} {ps : List Int} (h : RowAtI w v g c ps) (hs : w.heap.size ≤ w'.heap.size) (hk : w'.heap[g]? = w.heap[g]?) : RowAtI w' v g c ps :=
  ⟨h.1, by have := h.2.1; omega, fun j u hu => by rw [World.cell?_of_block hk]; exact h.2.2 j u hu⟩
theorem RowAtI.of_owns {w : World} {B g c n : Nat} {e : TypeId} {ps : List Int} (h : w.ownsRow B e 1 (.slice (some ⟨g, 0, none⟩) n c) n (ps.map iv)) (hn : n = ps.length) : RowAtI w (.slice (some ⟨g, 0, none⟩) n c) g c ps := by
  subst hn
  refine ⟨rfl, (h.lt g rfl).2, fun j u hu => ?_⟩
  have hj := (List.getElem?_eq_some_iff.1 hu).1
  rw [h.cellAt j (by simpa using hj)]; exact hu

/-- What a walk leaves. -/
def WalkE (w0 : World) (lv : Value) (pss : List (List Int)) (w : World) (e : Ending) (w' : World) : Prop :=
  ∃ v', e = .returned v' ∧ ListI w' w0.heap.size v' pss ∧ Grew lv w v' w' ∧ Below w0.heap.size w0 w'
def WalkAt (h : Nat) : Prop := ∀ (w0 : World) (v : Value) (t : T) (av lv : Value) (g c : Nat) (ps : List Int) (pss : List (List Int)) (w : World), TermAt w0 0 h v t → Below w0.heap.size w0 w → RowAtI w av g c ps → NotOwn lv g → ListI w w0.heap.size lv pss → wT t ≤ 1048576 →
  ps.length + dT t ≤ 4194304 → pss.length + cT t ≤ 4194304 → Calls Try.prog 31 #[v, av, lv] w (WalkE w0 lv (pss ++ (posT t).map (ps ++ ·)) w)
end Go.Proofs.Ytooiiomfahomjaa
