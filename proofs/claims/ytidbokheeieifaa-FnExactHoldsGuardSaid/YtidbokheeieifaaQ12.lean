/-
  What the laws on guards share: a guard in its box. No walk.
  Strings as lists of bytes: when two are equal. No program.
-/
import Derived.Test.YtidbokheeieifaaQ11
import Derived.Deep.RegionHeld3
import Derived.WalkKit
namespace Go.Proofs.Ytidbokheeieifaa
open Go.RowKit

/-- A world with a guard in a new box. -/
def gboxed (w : World) (kd k n : Int) (s : ByteArray) (u : Value) (k' n' : Int) (s' : ByteArray) (u' : Value) : World :=
  w.alloc (.cells #[.int .i64 kd, .int .i64 k, .int .i64 n, .string s, u, .int .i64 k', .int .i64 n', .string s', u'] 31)
theorem gboxed_below (w : World) (kd k n : Int) (s : ByteArray) (u : Value) (k' n' : Int) (s' : ByteArray) (u' : Value) : Below w.heap.size w (gboxed w kd k n s u k' n' s' u') := (Below.refl _ _).alloc (Nat.le_refl _) _
@[simp] theorem gboxed_size (w : World) (kd k n : Int) (s : ByteArray) (u : Value) (k' n' : Int) (s' : ByteArray) (u' : Value) : (gboxed w kd k n s u k' n' s' u').heap.size = w.heap.size + 1 := by unfold gboxed; simp
theorem gbox_of {w1 W1 : World} {lo h : Nat} {kd k n : Int} {s : ByteArray} {u : Value} {k' n' : Int} {s' : ByteArray} {u' : Value} {xs xs' : List T} (hs : s.size ≤ maxLen ∧ s'.size ≤ maxLen) (ha : ArgsAt w1 lo h u xs) (ha' : ArgsAt w1 lo h u' xs') (ho : OwnG w1 h lo w1.heap.size u u' xs xs')
    (hW : W1 = gboxed w1 kd k n s u k' n' s' u') : GBoxO lo w1.heap.size kd k n s u k' n' s' u' h xs xs' W1 := by
  have hb : Below w1.heap.size w1 W1 := by rw [hW]; exact gboxed_below _ _ _ _ _ _ _ _ _ _
  refine ⟨⟨by rw [hW]; exact heap_new _ _ rfl, ⟨k, n, s, u, k', n', s', u', rfl, ⟨_, _, _, _, xs, rfl, rfl, hs.1, ha.below hb⟩, ⟨_, _, _, _, xs', rfl, rfl, hs.2, ha'.below hb⟩⟩⟩, ho.same fun b _ b2 => hb.block b b2⟩
theorem gd_eq {g : Gd} {l r : T} (el : g.l = l) (er : g.r = r) : g = ⟨g.kd, l, r⟩ := by cases g; simp at *; exact ⟨el, er⟩
end Go.Proofs.Ytidbokheeieifaa
namespace Go.Proofs.Ytidbokheeieifaa
open Go

/-- A string as the list of its bytes. -/
def key (s : ByteArray) : List UInt8 := s.data.toList
theorem key_inj {a b : ByteArray} (h : key a = key b) : a = b := by
  obtain ⟨⟨x⟩⟩ := a; obtain ⟨⟨y⟩⟩ := b
  unfold key at h
  simp at h
  rw [h]
theorem toList_key (a : ByteArray) : a.toList = key a := ByteArray.toList_eq a
theorem same_iff (a b : ByteArray) : (a.toList == b.toList) = true ↔ a = b := by
  rw [beq_iff_eq, toList_key, toList_key]
  exact ⟨key_inj, fun h => by rw [h]⟩
end Go.Proofs.Ytidbokheeieifaa
