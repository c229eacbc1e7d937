/-
  laws.markTermS and laws.markTerm write numbered marks over the rows of a term that are a call's own, and nothing else turns; laws.heldTermS and laws.heldTerm find the marks there.
-/
import Derived.Test.YtidbokheeieifaaDoorQ7
import Derived.Test.YtidbokheeieifaaDoorQ3
namespace Go.Proofs.YtidbokheeieifaaDoor
open Go.RowKit

mutual
/-- A term over whose arguments, and itself, the marks from k on were written. -/
def mkT (k : Nat) : T → T
  | .node _ _ _ xs => .node (k : Int) ((k : Int) + 1) (mark (k + 2)) (mkS (k + 3) xs)
def mkS (k : Nat) : List T → List T
  | [] => []
  | t :: ts => mkT k t :: mkS (k + 3 * cT t) ts
end
theorem mkS_nil (k : Nat) : mkS k [] = [] := by rw [mkS]
theorem mkS_cons (k : Nat) (t : T) (ts : List T) : mkS k (t :: ts) = mkT k t :: mkS (k + 3 * cT t) ts := by rw [mkS]
theorem mkS_length (k : Nat) (ts : List T) : (mkS k ts).length = ts.length := by
  induction ts generalizing k with
  | nil => simp [mkS_nil]
  | cons t ts ih => rw [mkS_cons, List.length_cons, List.length_cons, ih]
theorem mkS_at (ts : List T) (k i : Nat) (t : T) (h : ts[i]? = some t) : (mkS k ts)[i]? = some (mkT (k + 3 * cS (ts.take i)) t) := by
  induction ts generalizing k i with
  | nil => simp at h
  | cons x ts ih =>
    rw [mkS_cons]
    cases i with
    | zero => simp at h; subst h; simp [cS]
    | succ i =>
      simp at h
      rw [List.getElem?_cons_succ, ih _ i h, List.take_succ_cons]
      have : cS (x :: ts.take i) = cT x + cS (ts.take i) := by simp [cS]
      rw [this, show k + 3 * cT x + 3 * cS (ts.take i) = k + 3 * (cT x + cS (ts.take i)) by omega]
theorem mkT_node (k : Nat) (kk nn : Int) (s : ByteArray) (xs : List T) : mkT k (.node kk nn s xs) = .node (k : Int) ((k : Int) + 1) (mark (k + 2)) (mkS (k + 3) xs) := by rw [mkT]
theorem mark_size (k : Nat) (h : k ≤ 2305843009213693952) : (mark k).size ≤ maxLen := by
  have l := decPos_length_le k (by omega)
  have : (mark k).size = 1 + (decPos k).length := by
    show ((109 : UInt8) :: decPos k).toArray.size = _
    simp; omega
  rw [this]; unfold maxLen; omega

/-- The mark of cell q of an element. -/
def mv (c : Nat) : Nat → Value
  | 0 => .int .i64 (c : Int)
  | 1 => .int .i64 ((c : Int) + 1)
  | _ => .string (mark (c + 2))

theorem cell_heap {w w' : World} {ad : Addr} (h : w'.heap[ad.block]? = w.heap[ad.block]?) : w'.cell? ad = w.cell? ad := by
  unfold World.cell?; rw [h]
theorem ArgsP.keepB {P : Nat → Prop} {w w' : World} {h : Nat} {u : Value} {ts : List T} (k : ArgsP P w h u ts) (hk : ∀ b, P b → b < w.heap.size → w'.heap[b]? = w.heap[b]?) : ArgsP P w' h u ts :=
  k.keep fun ad v hp hv => by rw [cell_heap (hk _ hp (World.block_lt_of_cell? w _ hv))]; exact hv

/-- Blocks from l to r. -/
abbrev In (l r : Nat) : Nat → Prop := fun b => l ≤ b ∧ b < r

/-- How far the marks of a row have come: all before element j, and q cells of it. -/
def MRow (h g m cap k j q : Nat) (ts : List T) (U : Nat → Value) (L R : Nat → Nat) (w : World) : Prop :=
  ∃ xs, w.ownsRow g 31 4 (.slice (some ⟨g, 0, none⟩) m cap) m xs ∧ (∀ i kk nn s txs, j ≤ i → ts[i]? = some (T.node kk nn s txs) → xs[i * 4 + 3]? = some (U i) ∧ OwnA w h (L i) (R i) (U i) txs) ∧
    (∀ i kk nn s txs, i < j → ts[i]? = some (T.node kk nn s txs) → (∀ p, p < 3 → xs[i * 4 + p]? = some (mv (k + 3 * cS (ts.take i)) p)) ∧ xs[i * 4 + 3]? = some (U i) ∧ ArgsP (In (L i) (R i)) w h (U i) (mkS (k + 3 * cS (ts.take i) + 3) txs)) ∧
    ∀ p, p < q → xs[j * 4 + p]? = some (mv (k + 3 * cS (ts.take j)) p)

theorem MRow.cells {h g m cap k j p : Nat} {ts : List T} {U : Nat → Value} {L R : Nat → Nat} {w : World} (c : MRow h g m cap k j p ts U L R w) {i : Nat} (hi : i < m) (q : Nat) (hq : q < 4) :
    (∃ v, w.cell? ⟨g, i * 4 + q, none⟩ = some v) ∧ w.frozen? ⟨g, i * 4 + q, none⟩ = false := by
  obtain ⟨xs, ho, _⟩ := c
  have hl := ho.1
  refine ⟨?_, ho.frozenAt _⟩
  rw [ho.cellAt (i * 4 + q) (by omega)]
  exact ⟨_, List.getElem?_eq_getElem (by omega)⟩
theorem MRow.args {h g m cap k j p : Nat} {ts : List T} {U : Nat → Value} {L R : Nat → Nat} {w : World} (c : MRow h g m cap k j p ts U L R w) {kk nn : Int} {s : ByteArray} {txs : List T} (hj : j < m) (ht : ts[j]? = some (T.node kk nn s txs)) :
    w.cell? ⟨g, j * 4 + 3, none⟩ = some (U j) ∧ OwnA w h (L j) (R j) (U j) txs := by
  obtain ⟨xs, ho, hx, _⟩ := c
  obtain ⟨h1, h2⟩ := hx j kk nn s txs (Nat.le_refl _) ht
  exact ⟨by rw [ho.cellAt (j * 4 + 3) (by omega)]; exact h1, h2⟩
/-- The next cell of element j. -/
theorem MRow.store {h g m cap k j q : Nat} {ts : List T} {U : Nat → Value} {L R : Nat → Nat} {w : World} (c : MRow h g m cap k j q ts U L R w) (hg : ∀ i, g < L i ∨ R i ≤ g) (hq : q < 3) (hj : j < m) {v : Value} (hv : v = mv (k + 3 * cS (ts.take j)) q) :
    MRow h g m cap k j (q + 1) ts U L R (w.setCell ⟨g, j * 4 + q, none⟩ v) := by
  obtain ⟨xs, ho, hx, hd, hp⟩ := c
  have hl := ho.1
  have hs : ∀ b, b ≠ g → (w.setCell ⟨g, j * 4 + q, none⟩ v).heap[b]? = w.heap[b]? := fun b hb => Below.heap_setCell _ _ _ _ (fun e => hb (by simpa using e))
  refine ⟨_, (ho.stored (j * 4 + q) v).1, fun i kk nn s txs hi ht => ?_, fun i kk nn s txs hi ht => ?_, fun p hp' => ?_⟩
  · obtain ⟨h1, h2⟩ := hx i kk nn s txs hi ht
    refine ⟨by rw [List.getElem?_set_ne (by omega)]; exact h1, h2.keep fun b b1 b2 => hs b (by have := hg i; omega)⟩
  · obtain ⟨h0, h1, h2⟩ := hd i kk nn s txs hi ht
    refine ⟨fun p hp => by rw [List.getElem?_set_ne (by omega)]; exact h0 p hp, by rw [List.getElem?_set_ne (by omega)]; exact h1, h2.keepB fun b hb _ => hs b (by have := hg i; have := hb.1; have := hb.2; omega)⟩
  · by_cases hpq : p = q
    · subst hpq
      rw [List.getElem?_set_self (by omega), hv]
    · rw [List.getElem?_set_ne (by omega)]
      exact hp p (by omega)
theorem MRow.below {h g m cap k j q : Nat} {ts : List T} {U : Nat → Value} {L R : Nat → Nat} {w w' : World} (c : MRow h g m cap k j q ts U L R w) (hb : Below w.heap.size w w') (hR : ∀ i, R i ≤ w.heap.size) : MRow h g m cap k j q ts U L R w' := by
  obtain ⟨xs, ho, hx, hd, hp⟩ := c
  refine ⟨xs, keep_own ho hb, fun i kk nn s txs hi ht => ?_, fun i kk nn s txs hi ht => ?_, hp⟩
  · obtain ⟨h1, h2⟩ := hx i kk nn s txs hi ht
    exact ⟨h1, h2.keep fun b b1 b2 => hb.block b (by have := hR i; omega)⟩
  · obtain ⟨h0, h1, h2⟩ := hd i kk nn s txs hi ht
    exact ⟨h0, h1, h2.keepB fun b _ hlt => hb.block b hlt⟩
/-- The child's marks. -/
theorem MRow.child {h g m cap k j : Nat} {ts : List T} {U : Nat → Value} {L R : Nat → Nat} {w w' : World} (c : MRow h g m cap k j 3 ts U L R w) (ho : Out (L j) (R j) w w') (hg : ∀ i, g < L i ∨ R i ≤ g) (hgs : g < w.heap.size) (hR : ∀ i, R i ≤ w.heap.size)
    (hd : ∀ i i', i < i' → i' < ts.length → R i ≤ L i' ∨ R i' ≤ L i) {kk nn : Int} {s : ByteArray} {txs : List T} (ht : ts[j]? = some (T.node kk nn s txs)) (hm : ArgsP (In (L j) (R j)) w' h (U j) (mkS (k + 3 * cS (ts.take j) + 3) txs)) :
    MRow h g m cap k (j + 1) 0 ts U L R w' := by
  obtain ⟨xs, hr, hx, hdn, hp⟩ := c
  have hjl := (List.getElem?_eq_some_iff.1 ht).1
  refine ⟨xs, row_keep hr (ho.2.2.2.2 g hgs (by have := hg j; omega)), fun i kk' nn' s' txs' hi ht' => ?_, fun i kk' nn' s' txs' hi ht' => ?_, fun p hp => by omega⟩
  · obtain ⟨h1, h2⟩ := hx i kk' nn' s' txs' (by omega) ht'
    refine ⟨h1, h2.keep fun b b1 b2 => ho.2.2.2.2 b (by have := hR i; omega) ?_⟩
    have := hd j i (by omega) (List.getElem?_eq_some_iff.1 ht').1
    omega
  · by_cases hij : i = j
    · subst hij
      rw [ht] at ht'
      cases ht'
      exact ⟨hp, (hx i kk nn s txs (Nat.le_refl _) ht).1, hm⟩
    · obtain ⟨h0, h1, h2⟩ := hdn i kk' nn' s' txs' (by omega) ht'
      refine ⟨h0, h1, h2.keepB fun b hb hlt => ho.2.2.2.2 b hlt ?_⟩
      have := hd i j (by omega) hjl
      have := hb.1; have := hb.2
      omega
theorem MRow.done {h g m cap k : Nat} {ts : List T} {U : Nat → Value} {L R : Nat → Nat} {w : World} {lo hi : Nat} (c : MRow h g m cap k m 0 ts U L R w) (hm : m = ts.length) (hl : m ≤ maxLen) (hk : k + 3 * cS ts ≤ 2305843009213693952) (h1 : lo ≤ g) (h2 : g < hi) (hL : ∀ i, lo ≤ L i) (hR : ∀ i, R i ≤ hi) :
    ArgsP (In lo hi) w (h + 1) (.slice (some ⟨g, 0, none⟩) m cap) (mkS k ts) := by
  obtain ⟨xs, ho, _, hd, _⟩ := c
  refine ⟨_, cap, by rw [mkS_length, hm], by rw [mkS_length]; omega, Or.inr ⟨g, 0, rfl, ⟨h1, h2⟩, fun i a b s' txs' hi' => ?_⟩⟩
  have hil : i < ts.length := by have := (List.getElem?_eq_some_iff.1 hi').1; rwa [mkS_length] at this
  obtain ⟨t, ht⟩ : ∃ t, ts[i]? = some t := ⟨_, List.getElem?_eq_getElem hil⟩
  obtain ⟨kk, nn, s, txs⟩ := t
  rw [mkS_at ts k i _ ht, mkT_node] at hi'
  simp only [Option.some.injEq, T.node.injEq] at hi'
  obtain ⟨rfl, rfl, rfl, rfl⟩ := hi'
  obtain ⟨h0, h3, h4⟩ := hd i kk nn s txs (by omega) ht
  have hct := cS_take ts (i + 1)
  rw [tk ts i _ ht, cS_snoc, cT_node] at hct
  refine ⟨mark_size _ (by omega), U i, ?_, ?_, ?_, ?_, h4.imp fun b hb => ⟨Nat.le_trans (hL i) hb.1, Nat.lt_of_lt_of_le hb.2 (hR i)⟩⟩
  · rw [Nat.zero_add, ho.cellAt (i * 4) (by omega)]; exact h0 0 (by omega)
  · rw [Nat.zero_add, ho.cellAt (i * 4 + 1) (by omega)]; exact h0 1 (by omega)
  · rw [Nat.zero_add, ho.cellAt (i * 4 + 2) (by omega)]; exact h0 2 (by omega)
  · rw [Nat.zero_add, ho.cellAt (i * 4 + 3) (by omega)]; exact h3

def MarkP (lo hi k h : Nat) (u : Value) (ts : List T) (w : World) (e : Ending) (w' : World) : Prop := MarkOut lo hi (k + 3 * cS ts) w e w' ∧ ArgsP (In lo hi) w' h u (mkS k ts)
end Go.Proofs.YtidbokheeieifaaDoor
