/-
  laws.toTerm and laws.toTermS copy a term into memory of the call's own.
-/
import Derived.Test.YtidbokheeieifaaGreatDoorQ10
import Derived.WalkLawsBesides
import Derived.BigQuiet
import Derived.Deep.QuietTactic
namespace Go.Proofs.YtidbokheeieifaaGreatDoor
open Go.RowKit

/-- A copy of the arguments: a slice whose rows are all new. -/
def CopyS (h : Nat) (ts : List T) (w : World) (e : Ending) (w' : World) : Prop :=
  ∃ u, e = .returned u ∧ (ArgsAt w' w.heap.size h u ts ∧ OwnA w' h w.heap.size w'.heap.size u ts) ∧ Below w.heap.size w w'
def CopyT (h : Nat) (t : T) (w : World) (e : Ending) (w' : World) : Prop :=
  ∃ v, e = .returned v ∧ TermAt w' w.heap.size h v t ∧ Below w.heap.size w w'

/-- The copy's rows are its own besides. -/
def CopyTO (h : Nat) (t : T) (w : World) (e : Ending) (w' : World) : Prop :=
  ∃ k n s u xs, e = .returned (tv k n s u) ∧ t = .node k n s xs ∧ s.size ≤ maxLen ∧ (ArgsAt w' w.heap.size h u xs ∧ OwnA w' h w.heap.size w'.heap.size u xs) ∧ Below w.heap.size w w'
theorem CopyTO.copy {h : Nat} {t : T} {w : World} {e : Ending} {w' : World} (c : CopyTO h t w e w') : CopyT h t w e w' := by
  obtain ⟨k, n, s, u, xs, e1, e2, hs, ⟨ha, _⟩, hb⟩ := c
  exact ⟨_, e1, ⟨k, n, s, u, xs, rfl, e2, hs, ha⟩, hb⟩

/-- How far the copy of a row has come; the rows below it lie in blocks up to B. -/
def CopyRel (h g n k B : Nat) (ts : List T) (w : World) : Prop :=
  ∃ (xs : List Value) (U : Nat → Value) (L R : Nat → Nat), w.ownsRow g 26 4 (.slice (some ⟨g, 0, none⟩) n n) n xs ∧ (∀ i kk nn s txs, i < k → ts[i]? = some (T.node kk nn s txs) →
    s.size ≤ maxLen ∧ xs[i * 4]? = some (.int .i64 kk) ∧ xs[i * 4 + 1]? = some (.int .i64 nn) ∧ xs[i * 4 + 2]? = some (.string s) ∧ xs[i * 4 + 3]? = some (U i) ∧ ArgsAt w (g + 1) h (U i) txs ∧ OwnA w h (L i) (R i) (U i) txs) ∧
    (∀ i, i < k → g < L i ∧ L i ≤ R i ∧ R i ≤ B) ∧ (∀ i j, i < j → j < k → R i ≤ L j)

theorem CopyRel.below {h g n k B : Nat} {ts : List T} {w w' : World} (c : CopyRel h g n k B ts w) (hb : Below w.heap.size w w') (hB : B ≤ w.heap.size) : CopyRel h g n k B ts w' := by
  obtain ⟨xs, U, L, R, ho, hx, hl, hd⟩ := c
  refine ⟨xs, U, L, R, keep_own ho hb, fun i kk nn s txs hi ht => ?_, hl, hd⟩
  obtain ⟨hs, x0, x1, x2, x3, ha, hoa⟩ := hx i kk nn s txs hi ht
  exact ⟨hs, x0, x1, x2, x3, ha.below hb, hoa.keep fun b b1 b2 => hb.block b (by have := hl i hi; omega)⟩

theorem CopyRel.cells {h g n k B : Nat} {ts : List T} {w : World} (c : CopyRel h g n k B ts w) (hk : k < n) (j : Nat) (hj : j < 4) :
    (∃ v, w.cell? ⟨g, k * 4 + j, none⟩ = some v) ∧ w.frozen? ⟨g, k * 4 + j, none⟩ = false := by
  obtain ⟨xs, U, L, R, ho, _⟩ := c
  have hl := ho.1
  refine ⟨?_, ho.frozenAt _⟩
  rw [ho.cellAt (k * 4 + j) (by omega)]
  exact ⟨_, List.getElem?_eq_getElem (by omega)⟩

theorem set4 {xs : List Value} {a p : Nat} {v0 v1 v2 v3 : Value} (h0 : a ≠ p) (h1 : a + 1 ≠ p) (h2 : a + 2 ≠ p) (h3 : a + 3 ≠ p) :
    ((((xs.set a v0).set (a + 1) v1).set (a + 2) v2).set (a + 3) v3)[p]? = xs[p]? := by
  rw [List.getElem?_set_ne h3, List.getElem?_set_ne h2, List.getElem?_set_ne h1, List.getElem?_set_ne h0]

theorem CopyRel.step {h g n k B B' : Nat} {ts : List T} {w : World} (c : CopyRel h g n k B ts w) (hk : k < n) {kk nn : Int} {s : ByteArray} {txs : List T} {u : Value} (ht : ts[k]? = some (T.node kk nn s txs)) (hs : s.size ≤ maxLen) (ha : ArgsAt w (g + 1) h u txs)
    (hoa : OwnA w h B B' u txs) (hgB : g < B) (hBB : B ≤ B') :
    CopyRel h g n (k + 1) B' ts ((((w.setCell ⟨g, k * 4, none⟩ (.int .i64 kk)).setCell ⟨g, k * 4 + 1, none⟩ (.int .i64 nn)).setCell ⟨g, k * 4 + 2, none⟩ (.string s)).setCell ⟨g, k * 4 + 3, none⟩ u) := by
  obtain ⟨xs, U, L, R, ho, hx, hlr, hd⟩ := c
  have hl : xs.length = n * 4 := ho.1
  have o1 := (ho.stored (k * 4) (.int .i64 kk)).1
  have o2 := (o1.stored (k * 4 + 1) (.int .i64 nn)).1
  have o3 := (o2.stored (k * 4 + 2) (.string s)).1
  have o4 := (o3.stored (k * 4 + 3) u).1
  have up : ∀ {u' : Value} {txs' : List T}, ArgsAt w (g + 1) h u' txs' → ArgsAt ((((w.setCell ⟨g, k * 4, none⟩ (.int .i64 kk)).setCell ⟨g, k * 4 + 1, none⟩ (.int .i64 nn)).setCell ⟨g, k * 4 + 2, none⟩ (.string s)).setCell ⟨g, k * 4 + 3, none⟩ u) (g + 1) h u' txs' := by
    intro u' txs' q
    have hg : ∀ j, some g = some j → j < g + 1 := fun j e => by cases e; omega
    refine ArgsAt.grown ?_ (set_grown _ g _ _) hg
    refine ArgsAt.grown ?_ (set_grown _ g _ _) hg
    refine ArgsAt.grown ?_ (set_grown _ g _ _) hg
    exact ArgsAt.grown q (set_grown _ g _ _) hg
  have upo : ∀ {u' : Value} {txs' : List T} {l r : Nat}, g < l → OwnA w h l r u' txs' → OwnA ((((w.setCell ⟨g, k * 4, none⟩ (.int .i64 kk)).setCell ⟨g, k * 4 + 1, none⟩ (.int .i64 nn)).setCell ⟨g, k * 4 + 2, none⟩ (.string s)).setCell ⟨g, k * 4 + 3, none⟩ u) h l r u' txs' :=
    fun hgl q => (((q.off (Or.inl hgl) _ _).off (Or.inl hgl) _ _).off (Or.inl hgl) _ _).off (Or.inl hgl) _ _
  refine ⟨_, fun i => if i = k then u else U i, fun i => if i = k then B else L i, fun i => if i = k then B' else R i, o4, fun i kk' nn' s' txs' hi ht' => ?_, fun i hi => ?_, fun i j hij hj => ?_⟩
  · by_cases hik : i = k
    · subst hik
      rw [ht] at ht'
      cases ht'
      refine ⟨hs, ?_, ?_, ?_, ?_, by simpa using up ha, by simpa using upo hgB hoa⟩
      · simp [List.getElem?_set]; omega
      · simp [List.getElem?_set]; omega
      · simp [List.getElem?_set]; omega
      · simp [List.getElem?_set]; omega
    · obtain ⟨hs', x0, x1, x2, x3, ha', hoa'⟩ := hx i kk' nn' s' txs' (by omega) ht'
      refine ⟨hs', ?_, ?_, ?_, ?_, by simpa [hik] using up ha', by simpa [hik] using upo (hlr i (by omega)).1 hoa'⟩
      · rw [set4 (by omega) (by omega) (by omega) (by omega)]; exact x0
      · rw [set4 (by omega) (by omega) (by omega) (by omega)]; exact x1
      · rw [set4 (by omega) (by omega) (by omega) (by omega)]; exact x2
      · rw [set4 (by omega) (by omega) (by omega) (by omega)]; simpa [hik] using x3
  · by_cases hik : i = k
    · simp [hik]; omega
    · have := hlr i (by omega)
      simp [hik]; omega
  · have hik : i ≠ k := by omega
    by_cases hjk : j = k
    · have := hlr i (by omega)
      simp [hik, hjk]; omega
    · simpa [hik, hjk] using hd i j hij (by omega)

theorem CopyRel.done {h g n B : Nat} {ts : List T} {w : World} (c : CopyRel h g n n B ts w) (hn : n = ts.length) (hl : n ≤ maxLen) (hB : g < B) : ArgsAt w g (h + 1) (.slice (some ⟨g, 0, none⟩) n n) ts ∧ OwnA w (h + 1) g B (.slice (some ⟨g, 0, none⟩) n n) ts := by
  obtain ⟨xs, U, L, R, ho, hx, hlr, hd⟩ := c
  have hii : ∀ {i : Nat} {t : T}, ts[i]? = some t → i < n := fun {i} {t} ht => by have := (List.getElem?_eq_some_iff.1 ht).1; omega
  constructor
  · refine ⟨_, n, by rw [hn], by omega, Or.inr ⟨g, 0, rfl, Nat.le_refl _, fun i kk nn s txs ht => ?_⟩⟩
    have hi := hii ht
    obtain ⟨hs, x0, x1, x2, x3, ha, _⟩ := hx i kk nn s txs hi ht
    refine ⟨hs, U i, ?_, ?_, ?_, ?_, ha.low (by omega)⟩
    · rw [Nat.zero_add, ho.cellAt (i * 4) (by omega), x0]
    · rw [Nat.zero_add, ho.cellAt (i * 4 + 1) (by omega), x1]
    · rw [Nat.zero_add, ho.cellAt (i * 4 + 2) (by omega), x2]
    · rw [Nat.zero_add, ho.cellAt (i * 4 + 3) (by omega), x3]
  · subst hn
    refine ⟨_, _, rfl, Or.inr ⟨g, xs, U, L, R, rfl, Nat.le_refl _, hB, ho, fun i kk nn s txs ht => ?_, fun i j hij hj => Or.inl (hd i j hij hj)⟩⟩
    obtain ⟨_, _, _, _, x3, _, hoa⟩ := hx i kk nn s txs (hii ht) ht
    have := hlr i (hii ht)
    exact ⟨x3, by omega, by omega, by omega, hoa⟩

end Go.Proofs.YtidbokheeieifaaGreatDoor
