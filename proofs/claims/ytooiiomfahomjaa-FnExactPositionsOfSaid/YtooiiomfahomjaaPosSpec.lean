/-
  spec.PositionsOf: all positions of a term, in order.
-/
import Derived.Test.YtooiiomfahomjaaPosWalk
namespace Go.Proofs.Ytooiiomfahomjaa
open Go.RowKit

/-- All positions, in a slice in new blocks. -/
def PosE (t : T) (w : World) (e : Ending) (w' : World) : Prop := ∃ v', e = .returned v' ∧ ListI w' w.heap.size v' (posT t) ∧ Below w.heap.size w w'

set_option maxRecDepth 100000 in
set_option maxHeartbeats 800000 in
theorem sPos_any (v : Value) (t : T) (lo h : Nat) (w : World) (ht : TermAt w lo h v t) (hw : wT t ≤ 1048576) : Calls Try.prog 12 #[v] w (PosE t w) := by
  obtain ⟨k, n, s, a, m, cap, rfl⟩ := ht.shape
  obtain ⟨W3, hW3⟩ : ∃ W3, W3 = ((w.alloc (.cells #[.int .i64 k, .int .i64 n, .string s, .slice a m cap] 26)).alloc (.cells #[] 3)).alloc (.cells #[] 27) := ⟨_, rfl⟩
  have hb : Below w.heap.size w W3 := by rw [hW3]; exact ((al_belw _ _).alloc (by simp) _).alloc (by simp; omega) _
  have hz : W3.heap.size = w.heap.size + 3 := by rw [hW3]; simp
  have ho : W3.ownsRow w.heap.size 27 1 (.slice (some ⟨w.heap.size + 2, 0, none⟩) 0 0) 0 [] := by
    have := World.ownsRow_lit (base := w.heap.size) (size := 1) (e := 27) ((w.alloc (.cells #[.int .i64 k, .int .i64 n, .string s, .slice a m cap] 26)).alloc (.cells #[] 3)) #[] 0 (by simp; omega) (by decide) rfl
    have e : ((w.alloc (.cells #[.int .i64 k, .int .i64 n, .string s, .slice a m cap] 26)).alloc (.cells #[] 3)).heap.size = w.heap.size + 2 := by simp
    rw [e, ← hW3] at this
    exact this
  have hc := cT_le t
  have hd := dT_le t
  have HC := Lib.hid (walk_any h w (tv k n s (.slice a m cap)) t (.slice (some ⟨w.heap.size + 1, 0, none⟩) 0 0) (.slice (some ⟨w.heap.size + 2, 0, none⟩) 0 0) (w.heap.size + 1) 0 [] [] W3 (ht.low (Nat.zero_le _)) hb ⟨rfl, by omega, fun j u hu => by simp at hu⟩ (fun e => by simp [Value.ownBlock] at e) ⟨[], ho, rfl, fun i q hq => by simp at hq⟩ hw (by simp; omega) (by simp; omega))
  clear ho hc hd ht hb
  go_enter Try.func12, Try.ntmps12
  go_wp2_with fail
  rw [← hW3]
  refine HC.out.mono ?_
  rintro e w5 ⟨v5, rfl, hl, _, hb5⟩
  have HL := Lib.hid (And.intro hl hb5)
  clear hl hb5 hW3
  go_wp2
  go_ret
  exact ⟨_, rfl, by simpa using HL.out.1, HL.out.2⟩
end Go.Proofs.Ytooiiomfahomjaa
