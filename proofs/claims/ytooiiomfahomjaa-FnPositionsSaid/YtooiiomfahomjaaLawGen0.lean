/-
  What the contracts of functions that return a term share. No walk.
-/
import Derived.Test.YtooiiomfahomjaaOwnR
import Derived.Test.YtooiiomfahomjaaPosS
import Derived.Test.YtooiiomfahomjaaBoxL
namespace Go.Proofs.Ytooiiomfahomjaa
open Go.RowKit

theorem keep_at {w w' : World} {B n size : Nat} {e : TypeId} {v : Value} {xs : List Value} (h : w.ownsRow B e size v n xs) (hk : ∀ k, v.ownBlock = some k → w'.heap[k]? = w.heap[k]?) : w'.ownsRow B e size v n xs := by
  refine ⟨h.1, ?_⟩
  rcases h.2 with hn | ⟨g, cap, cur, rfl, hg, hc, rest⟩
  · exact Or.inl hn
  · exact Or.inr ⟨g, cap, cur, rfl, hg, by rw [hk g rfl]; exact hc, rest⟩
theorem Out.own {w w' : World} {lo hi B n size : Nat} {e : TypeId} {v : Value} {xs : List Value} (h : Out lo hi w w') (ho : w.ownsRow B e size v n xs) (hk : ∀ k, v.ownBlock = some k → k < lo ∨ hi ≤ k) : w'.ownsRow B e size v n xs :=
  keep_at ho fun k hv => h.2.2.2.2 k (ho.lt k hv).2 (hk k hv)
theorem Out.under {w w' : World} {lo hi B : Nat} (h : Out lo hi w w') (hB : B ≤ lo) (hB2 : B ≤ w.heap.size) : Below B w w' :=
  ⟨h.1, h.2.1, h.2.2.1, h.2.2.2.1, fun k hk => h.2.2.2.2 k (by omega) (Or.inl (by omega))⟩
theorem TermAt.le {w : World} {lo h h' : Nat} {v : Value} {t : T} (k : TermAt w lo h v t) (hle : h ≤ h') : TermAt w lo h' v t := by
  obtain ⟨k, n, s, u, xs, e1, e2, hs, ha⟩ := k
  exact ⟨k, n, s, u, xs, e1, e2, hs, ha.le hle⟩
/-- An answer that is a term, in rows of the call's own, and a word. -/
def ResO (ok : Bool) (r : T) (w : World) (e : Ending) (w' : World) : Prop :=
  ∃ k n s a m c h xs, e = .returned (.tuple #[tv k n s (.slice a m c), .bool ok]) ∧ r = .node k n s xs ∧ s.size ≤ maxLen ∧ OwnR (fun _ => True) w' h w.heap.size w'.heap.size (.slice a m c) xs ∧ Below w.heap.size w w'
/-- The same, read alone. -/
def ResT (ok : Bool) (r : T) (w : World) (e : Ending) (w' : World) : Prop :=
  ∃ k n s a m c h, e = .returned (.tuple #[tv k n s (.slice a m c), .bool ok]) ∧ TermAt w' w.heap.size h (tv k n s (.slice a m c)) r ∧ Below w.heap.size w w'

/-- The blocks from lo to hi are as they were. -/
def Same (lo hi : Nat) (w w' : World) : Prop := ∀ b, lo ≤ b → b < hi → w'.heap[b]? = w.heap[b]?
theorem Same.below {lo hi : Nat} {w w1 w2 : World} (h : Same lo hi w w1) (hb : Below w1.heap.size w1 w2) (hh : hi ≤ w1.heap.size) : Same lo hi w w2 := fun b h1 h2 => (hb.block b (by omega)).trans (h b h1 h2)
theorem Same.of_below {lo hi : Nat} {w w1 : World} (hb : Below w.heap.size w w1) (hh : hi ≤ w.heap.size) : Same lo hi w w1 := fun b _ h2 => hb.block b (by omega)
theorem Same.out {lo hi l2 h2 : Nat} {w w1 w2 : World} (h : Same lo hi w w1) (ho : Out l2 h2 w1 w2) (hh : hi ≤ w1.heap.size) (hd : hi ≤ l2 ∨ h2 ≤ lo) : Same lo hi w w2 := fun b b1 b2 => (ho.2.2.2.2 b (by omega) (by omega)).trans (h b b1 b2)
theorem Same.grown {lo hi : Nat} {w w1 w2 : World} {row : Option Nat} (h : Same lo hi w w1) (hg : w1.grownBy w2 row) (hh : hi ≤ w1.heap.size) (hd : ∀ k, row = some k → k < lo ∨ hi ≤ k) : Same lo hi w w2 := fun b b1 b2 =>
  (hg.block b (by omega) (fun e => by have := hd b e.symm; omega)).trans (h b b1 b2)
/-- A term's box and rows in blocks that are as they were. -/
theorem same_term {w w' : World} {lo hi b h : Nat} {k n : Int} {s : ByteArray} {u : Value} {xs : List T} (hs : Same lo (b + 1) w w') (ho : OwnR (fun _ => True) w h lo hi u xs) (hhi : hi ≤ b + 1) (hr : w.heap[b]? = some (trow k n s u)) (hlo : lo ≤ b) (hsz : s.size ≤ maxLen) :
    w'.heap[b]? = some (trow k n s u) ∧ OwnR (fun _ => True) w' h lo hi u xs ∧ TermAt w' lo h (tv k n s u) (.node k n s xs) := by
  have ho' : OwnR (fun _ => True) w' h lo hi u xs := ho.keep fun c _ c1 c2 => ⟨hs c c1 (by omega), trivial⟩
  exact ⟨(hs b hlo (by omega)).trans hr, ho', ⟨k, n, s, u, xs, rfl, rfl, hsz, ho'.args (Nat.le_refl _)⟩⟩
end Go.Proofs.Ytooiiomfahomjaa
