/-
  The draws of terms: spec.l3Draw.
-/
import Derived.Test.YtidbokheeieifaaDoorQ4
import Derived.Deep.RegionHeld3
namespace Go.Proofs.YtidbokheeieifaaDoor
open Go.RowKit

abbrev boxZ (w : World) : World := w.alloc (.cells #[.int .i64 0, .int .i64 0, .string ⟨#[]⟩, .slice none 0 0] 31)

theorem boxZ_cells {w wr : World} {B : Nat} (hB : B < w.heap.size) (hg : (boxZ w).grownBy wr (some B)) :
    (wr.cell? ⟨w.heap.size, 0, none⟩ = some (.int .i64 0) ∧ wr.cell? ⟨w.heap.size, 1, none⟩ = some (.int .i64 0) ∧ wr.cell? ⟨w.heap.size, 2, none⟩ = some (.string ⟨#[]⟩) ∧ wr.cell? ⟨w.heap.size, 3, none⟩ = some (.slice none 0 0)) ∧
    (wr.frozen? ⟨w.heap.size, 0, none⟩ = false ∧ wr.frozen? ⟨w.heap.size, 1, none⟩ = false ∧ wr.frozen? ⟨w.heap.size, 2, none⟩ = false ∧ wr.frozen? ⟨w.heap.size, 3, none⟩ = false) := by
  have q := hg.block w.heap.size (by simp) (fun e => by cases e; omega)
  rw [heap_new w (.cells #[.int .i64 0, .int .i64 0, .string ⟨#[]⟩, .slice none 0 0] 31) rfl] at q
  have a0 := cell_of_row wr w.heap.size 0 _ _ _ q
  have a1 := cell_of_row wr w.heap.size 1 _ _ _ q
  have a2 := cell_of_row wr w.heap.size 2 _ _ _ q
  have a3 := cell_of_row wr w.heap.size 3 _ _ _ q
  simp at a0 a1 a2 a3
  exact ⟨⟨a0, a1, a2, a3⟩, frozen_of_row wr w.heap.size 0 _ _ q, frozen_of_row wr w.heap.size 1 _ _ q, frozen_of_row wr w.heap.size 2 _ _ q, frozen_of_row wr w.heap.size 3 _ _ q⟩

theorem wrap_small (d : Nat) (h : d ≤ 5) : IntKind.i64.wrap (d : Int) = (d : Int) := by
  have : d = 0 ∨ d = 1 ∨ d = 2 ∨ d = 3 ∨ d = 4 ∨ d = 5 := by omega
  rcases this with rfl | rfl | rfl | rfl | rfl | rfl <;> decide
theorem gr_drew {a b : World} {r : Option Nat} (h : a.grownBy b r) : a.grownBy b.drew r := ⟨h.os, h.tape, h.output, h.size, h.block⟩
theorem gr_alloc {a b : World} {r : Option Nat} {o : Obj} (h : a.grownBy b r) : a.grownBy (b.alloc o) r := grown_trans h (World.grownBy_alloc b o r)
def varTexts : List ByteArray := [⟨#[88]⟩, ⟨#[89]⟩, ⟨#[90]⟩]
def appTexts : List ByteArray := [⟨#[97]⟩, ⟨#[98]⟩]
def pairTexts : List ByteArray := [⟨#[102]⟩, ⟨#[102]⟩, ⟨#[104]⟩]
theorem varTexts_one : ∀ p ∈ varTexts, p.size = 1 := by unfold varTexts; intro p hp; simp only [List.mem_cons, List.mem_nil_iff, or_false] at hp; rcases hp with rfl | rfl | rfl <;> rfl
theorem appTexts_one : ∀ p ∈ appTexts, p.size = 1 := by unfold appTexts; intro p hp; simp only [List.mem_cons, List.mem_nil_iff, or_false] at hp; rcases hp with rfl | rfl <;> rfl
theorem pairTexts_one : ∀ p ∈ pairTexts, p.size = 1 := by unfold pairTexts; intro p hp; simp only [List.mem_cons, List.mem_nil_iff, or_false] at hp; rcases hp with rfl | rfl | rfl <;> rfl
theorem wT_leaf (k n : Int) (s : ByteArray) (d : Nat) (h : s.size ≤ 1) : wT (.node k n s []) + 3 ≤ 4 * 2 ^ d := by
  have : 1 ≤ 2 ^ d := Nat.one_le_two_pow
  rw [wT_node]; simp [wS]; omega

theorem row1_args {w : World} {g lo d : Nat} {k n : Int} {s : ByteArray} {u : Value} {ts : List T} (hg : w.heap[g]? = some (.cells #[.int .i64 k, .int .i64 n, .string s, u] 31 (0, 0))) (hlo : lo ≤ g) (hs : s.size ≤ 1000) (ha : ArgsAt w lo d u ts) :
    ArgsAt w lo (d + 1) (.slice (some ⟨g, 0, none⟩) 1 1) [.node k n s ts] ∧ w.ownsRow lo 31 4 (.slice (some ⟨g, 0, none⟩) 1 1) 1 [.int .i64 k, .int .i64 n, .string s, u] := by
  refine ⟨⟨_, _, rfl, by unfold maxLen; simp, Or.inr ⟨g, 0, rfl, hlo, fun i kk nn ss xx hi => ?_⟩⟩, rfl, Or.inr ⟨g, 1, _, rfl, hlo, hg, by decide, by decide, rfl, rfl⟩⟩
  match i, hi with
  | 0, hi =>
    simp at hi
    obtain ⟨rfl, rfl, rfl, rfl⟩ := hi
    exact ⟨by unfold maxLen; omega, u, by rw [cell_of_row w g _ _ _ _ hg]; rfl, by rw [cell_of_row w g _ _ _ _ hg]; rfl, by rw [cell_of_row w g _ _ _ _ hg]; rfl, by rw [cell_of_row w g _ _ _ _ hg]; rfl, ha⟩
  | i + 1, hi => simp at hi
theorem row2_args {w : World} {g lo d : Nat} {k n k2 n2 : Int} {s s2 : ByteArray} {u u2 : Value} {ts ts2 : List T} (hg : w.heap[g]? = some (.cells #[.int .i64 k, .int .i64 n, .string s, u, .int .i64 k2, .int .i64 n2, .string s2, u2] 31 (0, 0))) (hlo : lo ≤ g) (hs : s.size ≤ 1000) (ha : ArgsAt w lo d u ts) (hs2 : s2.size ≤ 1000) (ha2 : ArgsAt w lo d u2 ts2) :
    ArgsAt w lo (d + 1) (.slice (some ⟨g, 0, none⟩) 2 2) [.node k n s ts, .node k2 n2 s2 ts2] ∧ w.ownsRow lo 31 4 (.slice (some ⟨g, 0, none⟩) 2 2) 2 [.int .i64 k, .int .i64 n, .string s, u, .int .i64 k2, .int .i64 n2, .string s2, u2] := by
  refine ⟨⟨_, _, rfl, by unfold maxLen; simp, Or.inr ⟨g, 0, rfl, hlo, fun i kk nn ss xx hi => ?_⟩⟩, rfl, Or.inr ⟨g, 2, _, rfl, hlo, hg, by decide, by decide, rfl, rfl⟩⟩
  match i, hi with
  | 0, hi =>
    simp at hi
    obtain ⟨rfl, rfl, rfl, rfl⟩ := hi
    exact ⟨by unfold maxLen; omega, u, by rw [cell_of_row w g _ _ _ _ hg]; rfl, by rw [cell_of_row w g _ _ _ _ hg]; rfl, by rw [cell_of_row w g _ _ _ _ hg]; rfl, by rw [cell_of_row w g _ _ _ _ hg]; rfl, ha⟩
  | 1, hi =>
    simp at hi
    obtain ⟨rfl, rfl, rfl, rfl⟩ := hi
    exact ⟨by unfold maxLen; omega, u2, by rw [cell_of_row w g _ _ _ _ hg]; rfl, by rw [cell_of_row w g _ _ _ _ hg]; rfl, by rw [cell_of_row w g _ _ _ _ hg]; rfl, by rw [cell_of_row w g _ _ _ _ hg]; rfl, ha2⟩
  | i + 2, hi => simp at hi

end Go.Proofs.YtidbokheeieifaaDoor
