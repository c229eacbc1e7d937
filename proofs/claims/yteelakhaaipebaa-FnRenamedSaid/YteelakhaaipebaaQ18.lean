/-
  laws.toBind and laws.toBindS copy a list of Binds into memory of the call's own.
-/
import Derived.Test.YteelakhaaipebaaQ9
namespace Go.Proofs.Yteelakhaaipebaa
open Go.RowKit

theorem infoBind : (Try.prog.info? 86).map (fun i => (i.zero, i.size, i.bytes)) = some (some (.agg #[.string ByteArray.empty, .int .i64 0, .int .i64 0, .string ByteArray.empty, .slice none 0 0]), 5, 72) := by kernel_rfl

/-- A copy of a Bind. -/
def CopyBd (h : Nat) (p : ByteArray) (t : T) (w : World) (e : Ending) (w' : World) : Prop :=
  ∃ k n s u xs, e = .returned (bv p k n s u) ∧ t = .node k n s xs ∧ (ArgsAt w' w.heap.size h u xs ∧ OwnA w' h w.heap.size w'.heap.size u xs) ∧ Below w.heap.size w w'

/-- How far the copy of a row has come; the rows below it lie in blocks up to B. -/
def CopyRelB (h g n k B : Nat) (bs : List (ByteArray × T)) (w : World) : Prop :=
  ∃ (xs : List Value) (U : Nat → Value) (L R : Nat → Nat), w.ownsRow g 86 5 (.slice (some ⟨g, 0, none⟩) n n) n xs ∧ (∀ i p kk nn s txs, i < k → bs[i]? = some (p, T.node kk nn s txs) →
    (p.size ≤ maxLen ∧ s.size ≤ maxLen) ∧ xs[i * 5]? = some (.string p) ∧ xs[i * 5 + 1]? = some (.int .i64 kk) ∧ xs[i * 5 + 2]? = some (.int .i64 nn) ∧ xs[i * 5 + 3]? = some (.string s) ∧ xs[i * 5 + 4]? = some (U i) ∧ ArgsAt w (g + 1) h (U i) txs ∧ OwnA w h (L i) (R i) (U i) txs) ∧
    (∀ i, i < k → g < L i ∧ L i ≤ R i ∧ R i ≤ B) ∧ (∀ i j, i < j → j < k → R i ≤ L j)
theorem CopyRelB.below {h g n k B : Nat} {bs : List (ByteArray × T)} {w w' : World} (c : CopyRelB h g n k B bs w) (hb : Below w.heap.size w w') (hB : B ≤ w.heap.size) : CopyRelB h g n k B bs w' := by
  obtain ⟨xs, U, L, R, ho, hx, hl, hd⟩ := c
  refine ⟨xs, U, L, R, keep_own ho hb, fun i p kk nn s txs hi ht => ?_, hl, hd⟩
  obtain ⟨hs, x0, x1, x2, x3, x4, ha, hoa⟩ := hx i p kk nn s txs hi ht
  exact ⟨hs, x0, x1, x2, x3, x4, ha.below hb, hoa.keep fun b b1 b2 => hb.block b (by have := hl i hi; omega)⟩
theorem CopyRelB.cells {h g n k B : Nat} {bs : List (ByteArray × T)} {w : World} (c : CopyRelB h g n k B bs w) (hk : k < n) (j : Nat) (hj : j < 5) :
    (∃ v, w.cell? ⟨g, k * 5 + j, none⟩ = some v) ∧ w.frozen? ⟨g, k * 5 + j, none⟩ = false := by
  obtain ⟨xs, U, L, R, ho, _⟩ := c
  have hl := ho.1
  refine ⟨?_, ho.frozenAt _⟩
  rw [ho.cellAt (k * 5 + j) (by omega)]
  exact ⟨_, List.getElem?_eq_getElem (by omega)⟩
theorem set5 {xs : List Value} {a q : Nat} {v0 v1 v2 v3 v4 : Value} (h0 : a ≠ q) (h1 : a + 1 ≠ q) (h2 : a + 2 ≠ q) (h3 : a + 3 ≠ q) (h4 : a + 4 ≠ q) :
    (((((xs.set a v0).set (a + 1) v1).set (a + 2) v2).set (a + 3) v3).set (a + 4) v4)[q]? = xs[q]? := by
  rw [List.getElem?_set_ne h4, List.getElem?_set_ne h3, List.getElem?_set_ne h2, List.getElem?_set_ne h1, List.getElem?_set_ne h0]
/-- A Bind's five cells. -/
abbrev cells5 (w : World) (g k : Nat) (p : ByteArray) (kk nn : Int) (s : ByteArray) (u : Value) : World :=
  ((((w.setCell ⟨g, k * 5, none⟩ (.string p)).setCell ⟨g, k * 5 + 1, none⟩ (.int .i64 kk)).setCell ⟨g, k * 5 + 2, none⟩ (.int .i64 nn)).setCell ⟨g, k * 5 + 3, none⟩ (.string s)).setCell ⟨g, k * 5 + 4, none⟩ u
theorem cells5_heap (w : World) (g k : Nat) (p : ByteArray) (kk nn : Int) (s : ByteArray) (u : Value) {b : Nat} (h : b ≠ g) : (cells5 w g k p kk nn s u).heap[b]? = w.heap[b]? := by
  unfold cells5
  rw [Below.heap_setCell _ _ _ _ (by exact h), Below.heap_setCell _ _ _ _ (by exact h), Below.heap_setCell _ _ _ _ (by exact h), Below.heap_setCell _ _ _ _ (by exact h), Below.heap_setCell _ _ _ _ (by exact h)]
theorem CopyRelB.step {h g n k B B' : Nat} {bs : List (ByteArray × T)} {w : World} (c : CopyRelB h g n k B bs w) (hk : k < n) {p : ByteArray} {kk nn : Int} {s : ByteArray} {txs : List T} {u : Value} (ht : bs[k]? = some (p, T.node kk nn s txs)) (hs : p.size ≤ maxLen ∧ s.size ≤ maxLen) (ha : ArgsAt w (g + 1) h u txs)
    (hoa : OwnA w h B B' u txs) (hgB : g < B) (hBB : B ≤ B') : CopyRelB h g n (k + 1) B' bs (cells5 w g k p kk nn s u) := by
  obtain ⟨xs, U, L, R, ho, hx, hlr, hd⟩ := c
  have hl : xs.length = n * 5 := ho.1
  have o1 := (ho.stored (k * 5) (.string p)).1
  have o2 := (o1.stored (k * 5 + 1) (.int .i64 kk)).1
  have o3 := (o2.stored (k * 5 + 2) (.int .i64 nn)).1
  have o4 := (o3.stored (k * 5 + 3) (.string s)).1
  have o5 := (o4.stored (k * 5 + 4) u).1
  have hoth : ∀ b, b ≠ g → (cells5 w g k p kk nn s u).heap[b]? = w.heap[b]? := fun b hb => cells5_heap _ _ _ _ _ _ _ _ hb
  have up : ∀ {u' : Value} {txs' : List T}, ArgsAt w (g + 1) h u' txs' → ArgsAt (cells5 w g k p kk nn s u) (g + 1) h u' txs' := fun q =>
    q.keep fun ad v hlo hv => by rw [cell_heap (hoth ad.block (by omega))]; exact hv
  have upo : ∀ {u' : Value} {txs' : List T} {l r : Nat}, g < l → OwnA w h l r u' txs' → OwnA (cells5 w g k p kk nn s u) h l r u' txs' :=
    fun hgl q => q.keep fun b b1 _ => hoth b (by omega)
  refine ⟨_, fun i => if i = k then u else U i, fun i => if i = k then B else L i, fun i => if i = k then B' else R i, o5, fun i p' kk' nn' s' txs' hi ht' => ?_, fun i hi => ?_, fun i j hij hj => ?_⟩
  · by_cases hik : i = k
    · subst hik
      rw [ht] at ht'
      cases ht'
      refine ⟨hs, ?_, ?_, ?_, ?_, ?_, by simpa using up ha, by simpa using upo hgB hoa⟩
      all_goals (simp [List.getElem?_set]; omega)
    · obtain ⟨hs', x0, x1, x2, x3, x4, ha', hoa'⟩ := hx i p' kk' nn' s' txs' (by omega) ht'
      refine ⟨hs', ?_, ?_, ?_, ?_, ?_, by simpa [hik] using up ha', by simpa [hik] using upo (hlr i (by omega)).1 hoa'⟩
      · rw [set5 (by omega) (by omega) (by omega) (by omega) (by omega)]; exact x0
      · rw [set5 (by omega) (by omega) (by omega) (by omega) (by omega)]; exact x1
      · rw [set5 (by omega) (by omega) (by omega) (by omega) (by omega)]; exact x2
      · rw [set5 (by omega) (by omega) (by omega) (by omega) (by omega)]; exact x3
      · rw [set5 (by omega) (by omega) (by omega) (by omega) (by omega)]; simpa [hik] using x4
  · by_cases hik : i = k
    · simp [hik]; omega
    · have := hlr i (by omega)
      simp [hik]; omega
  · have hik : i ≠ k := by omega
    by_cases hjk : j = k
    · have := hlr i (by omega)
      simp [hik, hjk]; omega
    · simpa [hik, hjk] using hd i j hij (by omega)
theorem CopyRelB.done {h g n B : Nat} {bs : List (ByteArray × T)} {w : World} (c : CopyRelB h g n n B bs w) (hn : n = bs.length) (hl : n ≤ maxLen) (hB : g < B) : BsObj g B h (.slice (some ⟨g, 0, none⟩) n n) bs w := by
  obtain ⟨xs, U, L, R, ho, hx, hlr, hd⟩ := c
  have hii : ∀ {i : Nat} {x : ByteArray × T}, bs[i]? = some x → i < n := fun {i} {t} ht => by have := (List.getElem?_eq_some_iff.1 ht).1; omega
  constructor
  · refine ⟨_, n, by rw [hn], by omega, Or.inr ⟨g, 0, rfl, Nat.le_refl _, fun i p kk nn s txs ht => ?_⟩⟩
    have hi := hii ht
    obtain ⟨hs, x0, x1, x2, x3, x4, ha, _⟩ := hx i p kk nn s txs hi ht
    refine ⟨hs.1, hs.2, U i, ?_, ?_, ?_, ?_, ?_, ha.low (by omega)⟩
    · rw [Nat.zero_add, ho.cellAt (i * 5) (by omega), x0]
    · rw [Nat.zero_add, ho.cellAt (i * 5 + 1) (by omega), x1]
    · rw [Nat.zero_add, ho.cellAt (i * 5 + 2) (by omega), x2]
    · rw [Nat.zero_add, ho.cellAt (i * 5 + 3) (by omega), x3]
    · rw [Nat.zero_add, ho.cellAt (i * 5 + 4) (by omega), x4]
  · subst hn
    refine ⟨_, _, rfl, Or.inr ⟨g, xs, U, L, R, rfl, Nat.le_refl _, hB, ho, fun i p kk nn s txs ht => ?_, fun i j hij hj => Or.inl (hd i j hij hj)⟩⟩
    obtain ⟨_, _, _, _, _, x4, _, hoa⟩ := hx i p kk nn s txs (hii ht) ht
    have := hlr i (hii ht)
    exact ⟨x4, by omega, by omega, by omega, hoa⟩

/-- A copy of a list of Binds. -/
def CopyBs (h : Nat) (bs : List (ByteArray × T)) (w : World) (e : Ending) (w' : World) : Prop := ∃ v, e = .returned v ∧ BsObj w.heap.size w'.heap.size h v bs w' ∧ Below w.heap.size w w'

/-- Copied, with what it reads as for two heights. -/
theorem BsAt.two {w : World} {lo lo' h h' : Nat} {u v : Value} {bs : List (ByteArray × T)} (a : BsAt w lo h u bs) (b : BsAt w lo' h' v bs) : BsAt w lo (max h h') u bs ∧ BsAt w lo' (max h h') v bs := ⟨a.le (Nat.le_max_left _ _), b.le (Nat.le_max_right _ _)⟩
end Go.Proofs.Yteelakhaaipebaa
