/-
  The draws spec.DrawRenameVars and spec.DrawFindBind.
  What a term weighs of which the variables are changed. No walk.
-/
import Derived.Test.YteelakhaaipebaaQ45
import Derived.Test.YteelakhaaipebaaQ47
import Derived.Test.YteelakhaaipebaaQ5
import Derived.Test.YteelakhaaipebaaQ7
namespace Go.Proofs.Yteelakhaaipebaa
open Go.RowKit

/-- A drawn term and a short string. -/
def DrawnTS (w : World) (e : Ending) (w' : World) : Prop :=
  ∃ k n s a m c t h x, e = .returned (.tuple #[tv k n s (.slice a m c), .string x]) ∧ TermAt w' w.heap.size h (tv k n s (.slice a m c)) t ∧ wT t ≤ 1000 ∧ PlainA t ∧ x.size ≤ 1 ∧ Below w.heap.size w w'
/-- A drawn list of Binds and a short string. -/
def DrawnBN (w : World) (e : Ending) (w' : World) : Prop :=
  ∃ u a x, e = .returned (.tuple #[u, .string x]) ∧ BsAt w' w.heap.size 2 u a ∧ Small7 a ∧ x.size ≤ 1 ∧ Below w.heap.size w w'
abbrev renTexts : List ByteArray := [⟨#[49]⟩, ⟨#[50]⟩, ⟨#[]⟩]
abbrev findTexts : List ByteArray := [⟨#[88]⟩, ⟨#[89]⟩, ⟨#[81]⟩]

set_option maxRecDepth 100000 in
set_option maxHeartbeats 1600000 in
theorem drawRen_any (cv : Value) (len : Nat) (w : World) (hcode : CodeAt w w.heap.size cv len) :
    Calls Try.prog 25 #[cv] w (DrawnTS w) := by
  obtain ⟨W0, hW0⟩ : ∃ W0, W0 = w.alloc (.cells #[.int .i64 0, .int .i64 0, .string ⟨#[]⟩, .slice none 0 0] 29) := ⟨_, rfl⟩
  have HZ : Hid (W0.heap.size = w.heap.size + 1) := Lib.hid (by rw [hW0]; simp)
  have HB0 : Hid (Below w.heap.size w W0) := Lib.hid (by rw [hW0]; exact (Below.refl _ _).alloc (Nat.le_refl _) _)
  have HR0 : Hid (W0.heap[w.heap.size]? = some (trow 0 0 ⟨#[]⟩ (.slice none 0 0))) := Lib.hid (by rw [hW0]; exact heap_new w _ rfl)
  have HC : Hid (CodeAt W0 W0.heap.size cv len) := Lib.hid (hcode.below HB0.out)
  clear hcode
  go_enter Try.func25, Try.ntmps25
  go_wp2_with fail
  rw [← hW0]
  clear hW0
  refine (new_any cv len _ HC.out).mono ?_
  rintro e w1 ⟨rfl, hu1, hb1, hlt1⟩
  have HC1 := Lib.hid (HC.out.at_new hb1)
  have HU1 := Lib.hid hu1
  have HB1 := Lib.hid (And.intro hb1 hlt1)
  have HBT := Lib.hid (Pl.bent_any W0.heap.size cv len w1 HC1.out HU1.out)
  clear hu1 hb1 hlt1
  go_wp2_with fail
  refine HBT.out.mono ?_
  rintro e w2 ⟨v, t, h, rfl, ht, ⟨hw, hpl⟩, hu2, hg2⟩
  obtain ⟨k, n, s, a, m, c, rfl⟩ := ht.shape
  obtain ⟨Wa, hWa⟩ : ∃ Wa, Wa = w2.alloc (.cells #[.string ⟨#[49]⟩, .string ⟨#[50]⟩, .string ⟨#[]⟩] 9) := ⟨_, rfl⟩
  have hga : w2.grownBy Wa (some W0.heap.size) := by rw [hWa]; exact World.grownBy_alloc _ _ _
  have HGA := Lib.hid (grown_trans hg2 hga)
  have hz := HZ.out
  have hs12 := hg2.size
  have HPK := Lib.hid (pick_any W0.heap.size w2.heap.size 3 cv len renTexts Wa (by decide) (by decide) (by have := HB1.out.2; omega) (fun i p h => by rw [hWa]; exact new_strs w2 renTexts 9 i p h) (HC1.out.grown HB1.out.2 HGA.out) (by rw [hWa]; exact hu2.alloc _))
  have HT := Lib.hid (ht.grown hga (fun j e => by cases e; exact HB1.out.2))
  have HW := Lib.hid (And.intro hw hpl)
  clear ht hw hpl hu2 hg2 hga hz hs12 HBT
  go_wp2_with fail
  rw [← hWa]
  clear hWa
  refine HPK.out.mono ?_
  rintro e w3 ⟨v2, hv2, rfl, hcu3, hg3⟩
  obtain ⟨x, hx, rfl⟩ := List.mem_map.1 hv2
  have HX : Hid (x.size ≤ 1) := Lib.hid (by simp [renTexts] at hx; rcases hx with rfl | rfl | rfl <;> decide)
  have HG3 := Lib.hid (grown_trans HGA.out hg3)
  have HT3 := Lib.hid (HT.out.grown hg3 (fun j e => by cases e; exact HB1.out.2))
  have hb3 : Below W0.heap.size W0 w3 := HB1.out.1.grown HG3.out HB1.out.1.size (fun j e => by cases e; exact Nat.le_refl _)
  have q2 : w3.heap[w.heap.size]? = some (trow 0 0 ⟨#[]⟩ (.slice none 0 0)) := (hb3.block _ (by have := HZ.out; omega)).trans HR0.out
  obtain ⟨⟨z0, z1, z2, z3⟩, y0, y1, y2, y3⟩ := cells_of4 q2
  have HF : Hid (∀ v0 v1 v2 v3, DrawnTS w (.returned (.tuple #[tv k n s (.slice a m c), .string x])) ((((w3.setCell ⟨w.heap.size, 0, none⟩ v0).setCell ⟨w.heap.size, 1, none⟩ v1).setCell ⟨w.heap.size, 2, none⟩ v2).setCell ⟨w.heap.size, 3, none⟩ v3)) := Lib.hid (fun v0 v1 v2 v3 => by
    have hbw : Below w.heap.size w w3 := HB0.out.trans (hb3.mono (by have := HZ.out; omega))
    have hlo : w.heap.size + 1 ≤ w1.heap.size := by have := HB1.out.2; have := HZ.out; omega
    have st : ∀ (W : World) (j : Nat) (v : Value), TermAt W w1.heap.size h (tv k n s (.slice a m c)) t → TermAt (W.setCell ⟨w.heap.size, j, none⟩ v) w1.heap.size h (tv k n s (.slice a m c)) t := fun W j v q => q.grown (set_grown W w.heap.size j v) (fun i e => by cases e; omega)
    exact ⟨k, n, s, a, m, c, t, h, x, rfl, (st _ _ _ (st _ _ _ (st _ _ _ (st _ _ _ HT3.out)))).low (by omega), HW.out.1, HW.out.2, HX.out, (((hbw.setCell (Nat.le_refl _) _).setCell (Nat.le_refl _) _).setCell (Nat.le_refl _) _).setCell (Nat.le_refl _) _⟩)
  clear hv2 hx hcu3 hg3 hb3 q2 HPK
  go_wp2
  (try simp only [Exit.inBlock, Exit.then])
  refine bodyPost_ret (v := .tuple #[tv k n s (.slice a m c), .string x]) ?_ rfl ?_
  · refine results_ct (a := 2) (b := 3) (t := 29) (ad := ⟨w.heap.size, 0, none⟩) rfl rfl _ _ ?_
    go_simp
  · exact HF.out _ _ _ _

set_option maxRecDepth 100000 in
set_option maxHeartbeats 1600000 in
theorem drawFB_any (cv : Value) (len : Nat) (w : World) (hcode : CodeAt w w.heap.size cv len) :
    Calls Try.prog 30 #[cv] w (DrawnBN w) := by
  have HC := Lib.hid hcode; clear hcode
  go_enter Try.func30, Try.ntmps30
  go_wp2_with fail
  refine (new_any cv len w HC.out).mono ?_
  rintro e w1 ⟨rfl, hu1, hb1, hlt1⟩
  have HC1 := Lib.hid (HC.out.at_new hb1)
  have HB1 := Lib.hid (And.intro hb1 hlt1)
  have H7 := Lib.hid (draw7_any w.heap.size cv len w1 HC1.out hu1)
  clear hu1 hb1 hlt1
  go_wp2_with fail
  refine H7.out.mono ?_
  rintro e w2 ⟨u, bs, rfl, hub, hsb, hu2, hg2⟩
  obtain ⟨Wa, hWa⟩ : ∃ Wa, Wa = w2.alloc (.cells #[.string ⟨#[88]⟩, .string ⟨#[89]⟩, .string ⟨#[81]⟩] 9) := ⟨_, rfl⟩
  have hga : w2.grownBy Wa (some w.heap.size) := by rw [hWa]; exact World.grownBy_alloc _ _ _
  have HGA := Lib.hid (grown_trans hg2 hga)
  have hs12 := hg2.size
  have HPK := Lib.hid (pick_any w.heap.size w2.heap.size 3 cv len findTexts Wa (by decide) (by decide) (by have := HB1.out.2; omega) (fun i p h => by rw [hWa]; exact new_strs w2 findTexts 9 i p h) (HC1.out.grown HB1.out.2 HGA.out) (by rw [hWa]; exact hu2.alloc _))
  have HUB := Lib.hid (hub.grown7 hga (fun j e => by cases e; exact HB1.out.2))
  have HSB := Lib.hid hsb
  clear hub hsb hu2 hg2 hga hs12 H7
  go_wp2_with fail
  rw [← hWa]
  clear hWa
  refine HPK.out.mono ?_
  rintro e w3 ⟨v2, hv2, rfl, hcu3, hg3⟩
  obtain ⟨x, hx, rfl⟩ := List.mem_map.1 hv2
  have HF : Hid (DrawnBN w (.returned (.tuple #[u, .string x])) w3) := Lib.hid ⟨u, bs, x, rfl, (HUB.out.grown7 hg3 (fun j e => by cases e; exact HB1.out.2)).low (HB1.out.1.size), HSB.out, by simp [findTexts] at hx; rcases hx with rfl | rfl | rfl <;> decide, HB1.out.1.grown (grown_trans HGA.out hg3) HB1.out.1.size (fun j e => by cases e; exact Nat.le_refl _)⟩
  clear hv2 hx hcu3 hg3 HPK
  go_wp2
  go_ret2
  exact HF.out
end Go.Proofs.Yteelakhaaipebaa
namespace Go.Proofs.Yteelakhaaipebaa
open Go.RowKit

theorem wS_map (f : T → T) (M : Nat) (xs : List T) (h : ∀ x ∈ xs, wT (f x) ≤ wT x * (M + 1) + M) : wS (xs.map f) ≤ wS xs * (M + 1) + xs.length * M := by
  induction xs with
  | nil => simp [wS]
  | cons x r ih =>
    have h1 := h x (by simp)
    have h2 := ih (fun y hy => h y (by simp [hy]))
    simp only [wS, List.map_cons, List.sum_cons, List.length_cons, Nat.add_mul] at *
    omega
theorem wT_map (F : ByteArray → Option T) (M : Nat) (hF : ∀ s u, F s = some u → wT u ≤ M) : ∀ t, wT (mapT F (fun s => s) t) ≤ wT t * (M + 1) + M
  | .node k n s xs => by
    have hm : wS (xs.map (mapT F (fun s => s))) ≤ wS xs * (M + 1) + xs.length * M := wS_map _ M xs fun x _ => wT_map F M hF x
    have hn : wT (.node k n s (xs.map (mapT F (fun s => s)))) ≤ wT (.node k n s xs) * (M + 1) + M := by
      rw [wT_node, wT_node, List.length_map]
      simp only [Nat.add_mul, Nat.mul_add, Nat.mul_one] at *
      omega
    rw [mapT_node]
    split
    · split
      · rename_i u hu
        have := hF _ _ hu
        omega
      · exact hn
    · exact hn
theorem findB_mem7 {bs : List (ByteArray × T)} {s : ByteArray} {t : T} (h : findB bs s = some t) : ∃ x ∈ bs, x.2 = t := by
  unfold findB at h
  obtain ⟨x, hx, rfl⟩ := Option.map_eq_some_iff.1 h
  exact ⟨x, List.mem_of_find?_eq_some hx, rfl⟩
theorem small_find {bs : List (ByteArray × T)} (h : Small7 bs) : ∀ s u, findB bs s = some u → wT u ≤ 13 := fun s u hf => by
  obtain ⟨x, hx, rfl⟩ := findB_mem7 hf
  exact (h.2 x hx).2
end Go.Proofs.Yteelakhaaipebaa
