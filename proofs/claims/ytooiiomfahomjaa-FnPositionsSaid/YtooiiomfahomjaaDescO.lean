/-
  impl.descentOf with impl.ownArgs: the descent leads to the place of the subterm at a position, or to nil; the way to it is the call's own, and the term there reads as before; what is put in that place is put into the term.
-/
import Derived.Test.YtooiiomfahomjaaAtI
namespace Go.Proofs.Ytooiiomfahomjaa
open Go.RowKit

theorem cell_setO {w : World} {a b : Addr} {v : Value} (h : a ≠ b) : (w.setCell a v).cell? b = w.cell? b := by
  first | exact World.cell?_setCell_other h | exact World.cell?_setCell_other _ h | exact World.cell?_setCell_other _ _ h | exact World.cell?_setCell_other _ _ _ h | exact World.cell?_setCell_other _ _ _ _ h

theorem putT_snoc : ∀ (qs : List Int) (t : T) (i : Nat) (k n : Int) (s : ByteArray) (xs : List T) (y y' : T), subT qs t = some (.node k n s xs) → xs[i]? = some y → putT (qs ++ [(i : Int)]) t y' = putT qs t (.node k n s (xs.set i y'))
  | [], t, i, k, n, s, xs, y, y', h, hy => by
    cases h
    rw [List.nil_append, putT_cons i [] k n s xs y y' hy, putT_nil, putT_nil]
  | p :: qs, t, i, k, n, s, xs, y, y', h, hy => by
    rw [subT_cons] at h
    cases e : argT t p with
    | none => rw [e] at h; cases h
    | some x =>
      rw [e] at h
      obtain ⟨k', n', s', zs⟩ := t
      have hp : 0 ≤ p := by
        unfold argT at e
        split at e
        · assumption
        · cases e
      obtain ⟨j, rfl⟩ : ∃ j : Nat, p = j := ⟨p.toNat, by omega⟩
      have hz : zs[j]? = some x := by
        unfold argT at e
        rw [if_pos hp] at e
        simpa [kT] using e
      rw [List.cons_append, putT_cons j _ k' n' s' zs x y' hz, putT_cons j _ k' n' s' zs x _ hz, putT_snoc qs x i k n s xs y y' h hy]

/-- Outside the four cells of a node nothing was lost. -/
def Ag (b o : Nat) (w w' : World) : Prop := ∀ (ad : Addr) (v : Value), ¬ (ad.block = b ∧ o ≤ ad.off ∧ ad.off < o + 4) → w.cell? ad = some v → w'.cell? ad = some v
/-- What is put in the place (b, o) is put into the term at (b0, o0). -/
def Plug (w : World) (b o b0 o0 : Nat) (f : T → T) : Prop := ∀ (w' : World) (h' : Nat) (x' : T), Ag b o w w' → NodeAt w' h' b o x' → ∃ h'', NodeAt w' h'' b0 o0 (f x')
/-- A node of the call's own, its arguments read in a world ahead. -/
def NodeIn (w0 w : World) (h b o : Nat) (t : T) : Prop :=
  ∃ k n s a m c xs, t = .node k n s xs ∧ s.size ≤ maxLen ∧ m = xs.length ∧ w.cell? ⟨b, o, none⟩ = some (.int .i64 k) ∧ w.cell? ⟨b, o + 1, none⟩ = some (.int .i64 n) ∧ w.cell? ⟨b, o + 2, none⟩ = some (.string s) ∧ w.cell? ⟨b, o + 3, none⟩ = some (.slice a m c) ∧ (∀ j, w.frozen? ⟨b, j, none⟩ = false) ∧ ArgsAt w0 0 h (.slice a m c) xs
theorem NodeIn.at {w0 w : World} {h b o : Nat} {t : T} (k : NodeIn w0 w h b o t) (hb : Below w0.heap.size w0 w) : NodeAt w h b o t := by
  obtain ⟨k, n, s, a, m, c, xs, e, hs, rfl, c0, c1, c2, c3, _, ha⟩ := k
  exact ⟨k, n, s, _, xs, e, hs, c0, c1, c2, c3, ha.below hb⟩

/-- One step down, the node's arguments made the call's own. -/
theorem plug_step {w0 w wc w2 : World} {b o b0 o0 i g c h : Nat} {k n : Int} {s : ByteArray} {xs : List T} {y : T} {vs : List Value} {f : T → T}
    (hP : Plug w b o b0 o0 f) (hb : Below w.heap.size w wc) (h0 : Below w0.heap.size w0 w) (hw2 : w2 = wc.setCell ⟨b, o + 3, none⟩ (.slice (some ⟨g, 0, none⟩) xs.length c)) (ho : wc.ownsRow w.heap.size 26 4 (.slice (some ⟨g, 0, none⟩) xs.length c) xs.length vs)
    (hr : RowV w0 h xs vs) (hl : xs.length ≤ maxLen) (hbl : b < w.heap.size) (hbN : w0.heap.size ≤ b) (hs : s.size ≤ maxLen) (c0 : w.cell? ⟨b, o, none⟩ = some (.int .i64 k)) (c1 : w.cell? ⟨b, o + 1, none⟩ = some (.int .i64 n)) (c2 : w.cell? ⟨b, o + 2, none⟩ = some (.string s)) (c3 : (w.cell? ⟨b, o + 3, none⟩).isSome = true) (hi : xs[i]? = some y) :
    Plug w2 g (i * 4) b0 o0 (fun y' => f (.node k n s (xs.set i y'))) ∧ NodeIn w0 w2 h g (i * 4) y ∧ w2.cell? ⟨b, o + 3, none⟩ = some (.slice (some ⟨g, 0, none⟩) xs.length c) := by
  have hil := (List.getElem?_eq_some_iff.1 hi).1
  have hgl := ho.lt g rfl
  have hgb : g ≠ b := by omega
  have hz0 := h0.size
  have d3 : w2.cell? ⟨b, o + 3, none⟩ = some (.slice (some ⟨g, 0, none⟩) xs.length c) := by
    rw [hw2]; exact World.cell?_setCell_same' _ _ _ (by rw [hb.cell hbl]; exact c3)
  have ho2 : w2.ownsRow w.heap.size 26 4 (.slice (some ⟨g, 0, none⟩) xs.length c) xs.length vs := by
    rw [hw2]; exact row_keep ho (Below.heap_setCell _ _ _ _ (fun e => hgb (by simpa using e)))
  have hk : ∀ (ad : Addr) (v : Value), ¬ (ad.block = b ∧ o ≤ ad.off ∧ ad.off < o + 4) → w.cell? ad = some v → w2.cell? ad = some v := fun ad v hne hv => by
    have h1 := cell_on hb hv
    rw [hw2, cell_setO (fun e => hne (by rw [← e]; exact ⟨rfl, by show o ≤ o + 3; omega, by show o + 3 < o + 4; omega⟩))]
    exact h1
  refine ⟨fun w' h' y' hag hnode => ?_, ?_, d3⟩
  · have hag2 : Ag b o w w' := fun ad v hne hv => hag ad v (fun e => by have := World.block_lt_of_cell? w _ hv; omega) (hk ad v hne hv)
    refine hP w' (max h h' + 1) _ hag2 ⟨k, n, s, .slice (some ⟨g, 0, none⟩) xs.length c, xs.set i y', rfl, hs, ?_, ?_, ?_, ?_, ?_⟩
    · exact hag _ _ (fun e => hgb e.1.symm) (by rw [hw2, cell_setO (by simp)]; exact cell_on hb c0)
    · exact hag _ _ (fun e => hgb e.1.symm) (by rw [hw2, cell_setO (by simp)]; exact cell_on hb c1)
    · exact hag _ _ (fun e => hgb e.1.symm) (by rw [hw2, cell_setO (by simp)]; exact cell_on hb c2)
    · exact hag _ _ (fun e => hgb e.1.symm) d3
    · refine ⟨_, c, by rw [List.length_set], by rw [List.length_set]; exact hl, Or.inr ⟨g, 0, rfl, Nat.zero_le _, fun j kk nn ss txs hj => ?_⟩⟩
      by_cases hij : i = j
      · subst hij
        rw [List.getElem?_set_self hil] at hj
        cases hj
        obtain ⟨k5, n5, s5, u5, ys, e5, hs5, e0, e1, e2, e3, ha5⟩ := hnode
        cases e5
        rw [Nat.zero_add]
        exact ⟨hs5, u5, e0, e1, e2, e3, ha5.le (Nat.le_max_right _ _)⟩
      · rw [List.getElem?_set_ne hij] at hj
        have hjl := (List.getElem?_eq_some_iff.1 hj).1
        obtain ⟨hs5, a5, m5, c5, x0, x1, x2, x3, ha5⟩ := hr.at j kk nn ss txs hj
        have hc : ∀ q u, q < 4 → vs[j * 4 + q]? = some u → w'.cell? ⟨g, j * 4 + q, none⟩ = some u := fun q u hq hu => hag _ _ (fun e => by have := e.2; simp at this; omega) (by rw [ho2.cellAt (j * 4 + q) (by omega)]; exact hu)
        rw [Nat.zero_add]
        refine ⟨hs5, _, hc 0 _ (by omega) x0, hc 1 _ (by omega) x1, hc 2 _ (by omega) x2, hc 3 _ (by omega) x3, (ha5.keep fun ad v _ hv => ?_).le (Nat.le_max_left _ _)⟩
        have hlt := World.block_lt_of_cell? w0 _ hv
        exact hag _ _ (fun e => by omega) (by
          rw [hw2]
          have h1 := cell_on hb (cell_on h0 hv)
          rw [cell_setO (fun e => by rw [← e] at hlt; simp at hlt; omega)]; exact h1)
  · obtain ⟨k5, n5, s5, ys⟩ := y
    obtain ⟨hs5, a5, m5, c5, x0, x1, x2, x3, ha5⟩ := hr.at i k5 n5 s5 ys hi
    obtain ⟨_, _, e6⟩ := ha5.slice
    cases e6
    refine ⟨k5, n5, s5, a5, _, c5, ys, rfl, hs5, rfl, ?_, ?_, ?_, ?_, fun j => ho2.frozenAt j, ha5⟩
    · rw [ho2.cellAt (i * 4) (by omega), x0]
    · rw [ho2.cellAt (i * 4 + 1) (by omega), x1]
    · rw [ho2.cellAt (i * 4 + 2) (by omega), x2]
    · rw [ho2.cellAt (i * 4 + 3) (by omega), x3]
end Go.Proofs.Ytooiiomfahomjaa
