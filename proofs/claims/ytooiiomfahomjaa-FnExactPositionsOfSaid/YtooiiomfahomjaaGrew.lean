/-
  What the growth of a slice of the call's own leaves as it was. No walk.
-/
import Derived.Test.YtooiiomfahomjaaOwnR
namespace Go.Proofs.Ytooiiomfahomjaa
open Go.RowKit

/-- What slice v's growth leaves. -/
def Grew (v : Value) (w1 : World) (v' : Value) (w' : World) : Prop := w1.heap.size ≤ w'.heap.size ∧ (∀ b, b < w1.heap.size → NotOwn v b → w'.heap[b]? = w1.heap[b]?) ∧ (v'.ownBlock = v.ownBlock ∨ ∃ k, v'.ownBlock = some k ∧ w1.heap.size ≤ k)
theorem Grew.refl (v v' : Value) (w : World) (h : v'.ownBlock = v.ownBlock) : Grew v w v' w := ⟨Nat.le_refl _, fun _ _ _ => rfl, Or.inl h⟩
theorem Grew.trans {v v' v2 : Value} {w1 w' w2 : World} (h : Grew v w1 v' w') (k : Grew v' w' v2 w2) : Grew v w1 v2 w2 :=
  ⟨Nat.le_trans h.1 k.1, fun b hb hv => (k.2.1 b (Nat.lt_of_lt_of_le hb h.1) (notOwn_old h.2.2 hb hv)).trans (h.2.1 b hb hv), ob_trans h.1 h.2.2 k.2.2⟩

theorem grew_app {vi : Value} {wr w3 : World} {o : Obj} {g3 n cap : Nat} (hgr : (wr.alloc o).grownBy w3 vi.ownBlock) (hat : vi.ownBlock = some g3 ∨ g3 = (wr.alloc o).heap.size) : Grew vi wr (.slice (some ⟨g3, 0, none⟩) n cap) w3 := by
  have hz : (wr.alloc o).heap.size = wr.heap.size + 1 := by simp
  have hs := hgr.size
  rw [hz] at hs hat
  refine ⟨by omega, fun b hb hv => (hgr.block b (by omega) hv).trans (Below.heap_alloc _ _ _ hb), ?_⟩
  rcases hat with h | h
  · exact Or.inl h.symm
  · exact Or.inr ⟨g3, rfl, by omega⟩
theorem Grew.alloc {v v' : Value} {w w' : World} (h : Grew v w v' w') (o : Obj) : Grew v w v' (w'.alloc o) :=
  ⟨by have := h.1; simp; omega, fun b hb hv => (Below.heap_alloc _ _ _ (Nat.lt_of_lt_of_le hb h.1)).trans (h.2.1 b hb hv), h.2.2⟩
theorem Grew.below {v v' : Value} {w w' w2 : World} (h : Grew v w v' w') (hb : Below w'.heap.size w' w2) : Grew v w v' w2 :=
  ⟨Nat.le_trans h.1 hb.size, fun b hl hv => (hb.block b (Nat.lt_of_lt_of_le hl h.1)).trans (h.2.1 b hl hv), h.2.2⟩
theorem Grew.drew {v v' : Value} {w w' : World} (h : Grew v w v' w') : Grew v w v' w'.drew := h
end Go.Proofs.Ytooiiomfahomjaa
