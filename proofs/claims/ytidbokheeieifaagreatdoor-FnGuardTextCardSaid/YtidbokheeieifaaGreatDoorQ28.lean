/-
  impl.addArg adds an argument to the topmost term of a stack.
-/
import Derived.Test.YtidbokheeieifaaGreatDoorQ27
import Derived.Test.YtidbokheeieifaaGreatDoorQ5
import Derived.Deep.RegionLaw
import Derived.Deep.AppendLies
namespace Go.Proofs.YtidbokheeieifaaGreatDoor
open Go.RowKit

theorem infoTermA : (Tryz.prog.info? 26).map (fun i => (i.zero, i.size, i.bytes)) = some (some (.agg #[.int .i64 0, .int .i64 0, .string ByteArray.empty, .slice none 0 0]), 4, 56) := by kernel_rfl

theorem bel_al (w : World) (o : Obj) : Below w.heap.size w (w.alloc o) := (Below.refl _ _).alloc (Nat.le_refl _) o
theorem bel_alD (w : World) (o : Obj) : Below w.heap.size w (w.alloc o).drew := ((Below.refl _ _).alloc (Nat.le_refl _) o).drew
def AddEnd (lo : Nat) (w : World) (v : Value) (n : Nat) (xs : List Value) (u : Value) (m : Nat) (ys cs : List Value) (e : Ending) (w' : World) : Prop :=
  e = .returned (.tuple #[]) ∧ ∃ u', Added lo w v n xs u m ys cs w' u'

abbrev zRow : Obj := .cells #[.int .i64 0, .int .i64 0, .string ⟨#[]⟩, .slice none 0 0] 26
abbrev zs4 : List Value := [.int .i64 0, .int .i64 0, .string ⟨#[]⟩, .slice none 0 0]
abbrev setA (X : World) (g m : Nat) (a0 a1 a2 a3 : Value) : World := (((X.setCell ⟨g, m * 4, none⟩ a0).setCell ⟨g, m * 4 + 1, none⟩ a1).setCell ⟨g, m * 4 + 2, none⟩ a2).setCell ⟨g, m * 4 + 3, none⟩ a3
theorem set_four (ys : List Value) (m : Nat) (hl : ys.length = m * 4) (z0 z1 z2 z3 a0 a1 a2 a3 : Value) : ((((ys ++ [z0, z1, z2, z3]).set (m * 4) a0).set (m * 4 + 1) a1).set (m * 4 + 2) a2).set (m * 4 + 3) a3 = ys ++ [a0, a1, a2, a3] := by
  rw [← hl, List.set_append_right _ _ (Nat.le_refl _), List.set_append_right _ _ (by omega), List.set_append_right _ _ (by omega), List.set_append_right _ _ (by omega)]
  simp [show ys.length + 1 - ys.length = 1 by omega, show ys.length + 2 - ys.length = 2 by omega, show ys.length + 3 - ys.length = 3 by omega]
theorem heap_off (X : World) {g c q : Nat} (v : Value) (h : c ≠ g) : (X.setCell ⟨g, q, none⟩ v).heap[c]? = X.heap[c]? := Below.heap_setCell _ _ _ _ (fun e => h (by simpa using e))
theorem setA_off (X : World) {g m c : Nat} (a0 a1 a2 a3 : Value) (h : c ≠ g) : (setA X g m a0 a1 a2 a3).heap[c]? = X.heap[c]? := by
  rw [heap_off _ _ h, heap_off _ _ h, heap_off _ _ h, heap_off _ _ h]
theorem setA_on {X Y : World} {g m : Nat} (a0 a1 a2 a3 : Value) (h : X.heap[g]? = Y.heap[g]?) : (setA X g m a0 a1 a2 a3).heap[g]? = (setA Y g m a0 a1 a2 a3).heap[g]? :=
  setCell_heap (ad := ⟨g, m * 4 + 3, none⟩) (setCell_heap (ad := ⟨g, m * 4 + 2, none⟩) (setCell_heap (ad := ⟨g, m * 4 + 1, none⟩) (setCell_heap (ad := ⟨g, m * 4, none⟩) h)))

theorem zs_one : ∀ u ∈ zs4, u.oneCell' = true := by intro u hu; simp at hu; rcases hu with rfl | rfl | rfl <;> rfl
theorem zs_cells {W : World} {N : Nat} (h : W.heap.size = N) : ∀ (j : Nat) (u : Value), zs4[j]? = some u → (W.alloc zRow).drew.cell? ((⟨N, 0, none⟩ : Addr).add j) = some u := by
  intro j u hu
  have q : (W.alloc zRow).drew.heap[N]? = some zRow := heap_new W zRow h.symm
  rw [Addr.add_lit, Nat.zero_add, cell_of_row _ N j _ _ _ q]
  simpa using hu

theorem add_fin {lo n g cap m : Nat} {xs ys : List Value} {ub : Option Addr} {uc : Nat} {w WZ w3 : World} {g3 c3 : Nat} (hv : w.ownsRow lo 26 4 (.slice (some ⟨g, 0, none⟩) (n + 1) cap) (n + 1) xs) (hu : w.ownsRow lo 26 4 (.slice ub m uc) m ys)
    (hx : xs[n * 4 + 3]? = some (.slice ub m uc)) (hne : ∀ j, (Value.slice ub m uc).ownBlock = some j → j ≠ g) (hWZ : Below w.heap.size w WZ)
    (ho3 : w3.ownsRow lo 26 4 (.slice (some ⟨g3, 0, none⟩) (m + 1) c3) (m + 1) (ys ++ zs4)) (hg3 : WZ.grownBy w3 (Value.slice ub m uc).ownBlock) (ha3 : (Value.slice ub m uc).ownBlock = some g3 ∨ g3 = WZ.heap.size) :
    g ≠ g3 ∧ w3.cell? ⟨g, n * 4 + 3, none⟩ = some (.slice ub m uc) ∧ w3.frozen? ⟨g, n * 4 + 3, none⟩ = false ∧
    (∀ a0 a1 a2 a3, (setA w3 g3 m a0 a1 a2 a3).cell? ⟨g, n * 4 + 3, none⟩ = some (.slice ub m uc)) ∧
    (w3.cell? ⟨g3, m * 4, none⟩ = some (.int .i64 0) ∧ w3.cell? ⟨g3, m * 4 + 1, none⟩ = some (.int .i64 0) ∧ w3.cell? ⟨g3, m * 4 + 2, none⟩ = some (.string ⟨#[]⟩) ∧ w3.cell? ⟨g3, m * 4 + 3, none⟩ = some (.slice none 0 0)) ∧
    (∀ u', (w3.setCell ⟨g, n * 4 + 3, none⟩ u').cell? ⟨g3, m * 4, none⟩ = some (.int .i64 0) ∧ (w3.setCell ⟨g, n * 4 + 3, none⟩ u').cell? ⟨g3, m * 4 + 1, none⟩ = some (.int .i64 0) ∧ (w3.setCell ⟨g, n * 4 + 3, none⟩ u').cell? ⟨g3, m * 4 + 2, none⟩ = some (.string ⟨#[]⟩) ∧ (w3.setCell ⟨g, n * 4 + 3, none⟩ u').cell? ⟨g3, m * 4 + 3, none⟩ = some (.slice none 0 0)) ∧
    (w3.frozen? ⟨g3, m * 4, none⟩ = false ∧ w3.frozen? ⟨g3, m * 4 + 1, none⟩ = false ∧ w3.frozen? ⟨g3, m * 4 + 2, none⟩ = false ∧ w3.frozen? ⟨g3, m * 4 + 3, none⟩ = false) ∧
    ∀ a0 a1 a2 a3 W9, (W9 = (setA w3 g3 m a0 a1 a2 a3).setCell ⟨g, n * 4 + 3, none⟩ (.slice (some ⟨g3, 0, none⟩) (m + 1) c3) ∨ W9 = setA (w3.setCell ⟨g, n * 4 + 3, none⟩ (.slice (some ⟨g3, 0, none⟩) (m + 1) c3)) g3 m a0 a1 a2 a3) →
      Added lo w (.slice (some ⟨g, 0, none⟩) (n + 1) cap) n xs (.slice ub m uc) m ys [a0, a1, a2, a3] W9 (.slice (some ⟨g3, 0, none⟩) (m + 1) c3) := by
  have hgl : lo ≤ g ∧ g < w.heap.size := hv.lt g rfl
  have hxl := hv.1
  have hyl := hu.1
  have hsz := hWZ.size
  have hs3 := hg3.size
  have hg3lo : lo ≤ g3 ∧ g3 < w3.heap.size := ho3.lt g3 rfl
  have hgg : g ≠ g3 := by
    rcases ha3 with e | e
    · exact fun e2 => hne g3 e e2.symm
    · omega
  have hgk : w3.heap[g]? = w.heap[g]? := (hg3.block g (by omega) (fun e => hne g e.symm rfl)).trans (hWZ.block g hgl.2)
  have hv3 := row_keep hv hgk
  have c3g : w3.cell? ⟨g, n * 4 + 3, none⟩ = some (.slice ub m uc) := by rw [hv3.cellAt (n * 4 + 3) (by omega), hx]
  have cz : ∀ j z, zs4[j]? = some z → w3.cell? ⟨g3, m * 4 + j, none⟩ = some z := fun j z hz => by
    have hj : j < 4 := (List.getElem?_eq_some_iff.1 hz).1
    rw [ho3.cellAt (m * 4 + j) (by omega), List.getElem?_append_right (by omega), hyl, show m * 4 + j - m * 4 = j by omega, hz]
  have ce : ∀ (X Y : World) (ad : Addr), X.heap[ad.block]? = Y.heap[ad.block]? → X.cell? ad = Y.cell? ad := fun X Y ad h => World.cell?_of_block h
  refine ⟨hgg, c3g, hv3.frozenAt _, fun a0 a1 a2 a3 => (ce _ _ ⟨g, n * 4 + 3, none⟩ (setA_off w3 a0 a1 a2 a3 hgg)).trans c3g, ⟨cz 0 _ rfl, cz 1 _ rfl, cz 2 _ rfl, cz 3 _ rfl⟩, fun u' => ?_, ⟨ho3.frozenAt _, ho3.frozenAt _, ho3.frozenAt _, ho3.frozenAt _⟩, fun a0 a1 a2 a3 W9 hW9 => ?_⟩
  · have e : ∀ j, (w3.setCell ⟨g, n * 4 + 3, none⟩ u').cell? ⟨g3, m * 4 + j, none⟩ = w3.cell? ⟨g3, m * 4 + j, none⟩ := fun j => ce _ _ ⟨g3, m * 4 + j, none⟩ (heap_off w3 u' (Ne.symm hgg))
    exact ⟨(e 0).trans (cz 0 _ rfl), (e 1).trans (cz 1 _ rfl), (e 2).trans (cz 2 _ rfl), (e 3).trans (cz 3 _ rfl)⟩
  · -- what the two orders share
    have hon : W9.heap[g]? = (w3.setCell ⟨g, n * 4 + 3, none⟩ (.slice (some ⟨g3, 0, none⟩) (m + 1) c3)).heap[g]? := by
      rcases hW9 with rfl | rfl
      · exact setCell_heap (ad := ⟨g, n * 4 + 3, none⟩) (setA_off w3 a0 a1 a2 a3 hgg)
      · exact setA_off _ a0 a1 a2 a3 hgg
    have hon3 : W9.heap[g3]? = (setA w3 g3 m a0 a1 a2 a3).heap[g3]? := by
      rcases hW9 with rfl | rfl
      · exact heap_off _ _ (Ne.symm hgg)
      · exact setA_on a0 a1 a2 a3 (heap_off _ _ (Ne.symm hgg))
    have hoff : ∀ c, c ≠ g → c ≠ g3 → W9.heap[c]? = w3.heap[c]? := fun c h1 h2 => by
      rcases hW9 with rfl | rfl
      · exact (heap_off _ _ h1).trans (setA_off w3 a0 a1 a2 a3 h2)
      · exact (setA_off _ a0 a1 a2 a3 h2).trans (heap_off _ _ h1)
    have hb3 : Below lo w w3 := ((hWZ.mono (B' := lo) (by omega)).grown hg3 (by omega) (fun j e => (hu.lt j e).1))
    have hb9 : Below lo w W9 := by
      rcases hW9 with rfl | rfl
      · exact ((((hb3.setCell hg3lo.1 _).setCell hg3lo.1 _).setCell hg3lo.1 _).setCell hg3lo.1 _).setCell hgl.1 _
      · exact ((((hb3.setCell hgl.1 _).setCell hg3lo.1 _).setCell hg3lo.1 _).setCell hg3lo.1 _).setCell hg3lo.1 _
    refine ⟨hb9, fun b hb h1 h2 => ?_, row_keep (hv3.stored (n * 4 + 3) _).1 hon, ?_, ?_⟩
    · have hbg : b ≠ g := fun e => h1 (by rw [e]; rfl)
      have hb3' : b ≠ g3 := fun e => by
        rcases ha3 with h | h
        · exact h2 (by rw [h, e])
        · omega
      rw [hoff b hbg hb3', hg3.block b (by omega) (fun e => h2 e), hWZ.block b hb]
    · have h4 := ((((ho3.stored (m * 4) a0).1.stored (m * 4 + 1) a1).1.stored (m * 4 + 2) a2).1.stored (m * 4 + 3) a3).1
      rw [set_four ys m hyl] at h4
      exact row_keep h4 hon3
    · rcases ha3 with h | h
      · exact Or.inl h.symm
      · exact Or.inr ⟨g3, rfl, by omega⟩

set_option maxRecDepth 100000 in
set_option maxHeartbeats 1600000 in
theorem addArg_any (lo n g cap : Nat) (xs : List Value) (u : Value) (m : Nat) (ys : List Value) (k nn : Int) (s : ByteArray) (aa : Option Addr) (am ac : Nat) (w : World)
    (hv : w.ownsRow lo 26 4 (.slice (some ⟨g, 0, none⟩) (n + 1) cap) (n + 1) xs) (hu : w.ownsRow lo 26 4 u m ys) (hx : xs[n * 4 + 3]? = some u) (hne : ∀ j, u.ownBlock = some j → j ≠ g) (hn : n ≤ 100000) (hm : m ≤ 100000) :
    Calls Tryz.prog 73 #[.slice (some ⟨g, 0, none⟩) (n + 1) cap, tv k nn s (.slice aa am ac)] w (AddEnd lo w (.slice (some ⟨g, 0, none⟩) (n + 1) cap) n xs u m ys [.int .i64 k, .int .i64 nn, .string s, .slice aa am ac]) := by
  obtain ⟨i0, hi, hz0, hz1, hz2⟩ := info_parts infoTermA
  have HI := Lib.hid hi; clear hi
  have HZ0 := Lib.hid hz0; clear hz0
  have HZ1 := Lib.hid hz1; clear hz1
  have HZ2 := Lib.hid hz2; clear hz2
  have c3 : w.cell? ⟨g, n * 4 + 3, none⟩ = some u := by rw [hv.cellAt (n * 4 + 3) (by omega), hx]
  obtain ⟨ub, uc, rfl⟩ : ∃ a c, u = .slice a m c := by
    rcases hu.2 with ⟨rfl, h0⟩ | ⟨g, cap, cur, rfl, _⟩
    · exact ⟨none, 0, by rw [h0]⟩
    · exact ⟨_, _, rfl⟩
  have h01 : (0 : Int) ≤ (m : Int) := by omega
  have h02 : (m : Int) < (m : Int) + 1 := by omega
  obtain ⟨W0, hW0⟩ : ∃ W0, W0 = boxed w k nn s (.slice aa am ac) := ⟨_, rfl⟩
  have hB0 : Below w.heap.size w W0 := by rw [hW0]; exact boxed_below _ _ _ _ _
  have hz0 : W0.heap.size = w.heap.size + 1 := by rw [hW0]; simp
  have hBZ : Below W0.heap.size W0 (W0.alloc (.cells #[.int .i64 0, .int .i64 0, .string ⟨#[]⟩, .slice none 0 0] 26)) := bel_al _ _
  have hBX : ∀ Y, Below W0.heap.size W0 Y → Y.cell? ⟨w.heap.size, 0, none⟩ = some (.int .i64 k) ∧ Y.cell? ⟨w.heap.size, 1, none⟩ = some (.int .i64 nn) ∧ Y.cell? ⟨w.heap.size, 2, none⟩ = some (.string s) ∧ Y.cell? ⟨w.heap.size, 3, none⟩ = some (.slice aa am ac) := (fun Y hY => boxed_cells (by rw [← hW0]; exact hY))
  have d0 : W0.cell? ⟨g, n * 4 + 3, none⟩ = some (.slice ub m uc) := cell_on hB0 c3
  have d1 : (W0.alloc (.cells #[.int .i64 0, .int .i64 0, .string ⟨#[]⟩, .slice none 0 0] 26)).cell? ⟨g, n * 4 + 3, none⟩ = some (.slice ub m uc) := cell_on (hB0.alloc hB0.size _) c3
  obtain ⟨a0, a1, a2, a3⟩ := hBX _ (Below.refl _ _)
  obtain ⟨b0, b1, b2, b3⟩ := hBX _ hBZ
  have HBX := Lib.hid hBX; clear hBX
  have HV := Lib.hid hv; clear hv
  have HU := Lib.hid hu; clear hu
  have HNE := Lib.hid hne; clear hne
  have HB0 := Lib.hid hB0; clear hB0 hBZ
  have HUZ : Hid ((W0.alloc zRow).drew.ownsRow lo 26 4 (.slice ub m uc) m ys) := Lib.hid (keep_own HU.out (HB0.out.alloc HB0.out.size zRow).drew)
  have HADD := Lib.hid (fun w3 g3 c3 ho3 hg3 ha3 => add_fin (w3 := w3) (g3 := g3) (c3 := c3) (WZ := (W0.alloc zRow).drew) HV.out HU.out hx HNE.out (HB0.out.alloc HB0.out.size zRow).drew ho3 hg3 ha3); clear hx
  have HNZ : Hid (∀ (j : Nat) (u : Value), zs4[j]? = some u → (W0.alloc zRow).drew.cell? ((⟨w.heap.size + 1, 0, none⟩ : Addr).add j) = some u) := Lib.hid (zs_cells hz0)
  have HML : Hid (m + 1 ≤ maxLen ∧ (m + 1) * 56 ≤ 140737488355328 ∧ lo ≤ (W0.alloc zRow).drew.heap.size) := Lib.hid ⟨by unfold maxLen; omega, by omega, by have := HV.out.lt g rfl; show lo ≤ (W0.alloc zRow).heap.size; simp; omega⟩
  clear c3
  unfold boxed at hW0
  go_enter Tryz.func73, Tryz.ntmps73
  go_wp2_with fail
  rw [← hW0]
  clear hW0
  go_region_law (first
      | (refine step_append_lies _ rfl (.tmp 13) (.tmp 16) 24 rfl lo 26 i0 (.agg #[.int .i64 0, .int .i64 0, .string ByteArray.empty, .slice none 0 0]) 4 56 Tryz.underlying24 HI.out HZ0.out HZ1.out HZ2.out rfl (by decide) (.slice ub m uc) m ys rfl HUZ.out ⟨w.heap.size + 1, 0, none⟩ 1 1 zs4 rfl rfl HNZ.out zs_one (by decide) HML.out.1 HML.out.2.1 HML.out.2.2 _ rfl ?_; intro g3 c3 w3 ho3 hg3 ha3 hl3; obtain ⟨hgg, q0, q1, q2, ⟨r0, r1, r2, r3⟩, q3, ⟨f0, f1, f2, f3⟩, hfin⟩ := HADD.out w3 g3 c3 ho3 hg3 ha3; obtain ⟨s0, s1, s2, s3⟩ := q3 (.slice (some ⟨g3, 0, none⟩) (m + 1) c3); have q5 := q2 (.int .i64 k) (.int .i64 nn) (.string s) (.slice aa am ac); have HFIN := Lib.hid hfin; clear hfin ho3 hg3 ha3 hl3 q2 q3))
  all_goals (
    go_end0
    exact ⟨rfl, _, HFIN.out _ _ _ _ _ (by first | exact Or.inl (by with_reducible rfl) | exact Or.inr (by with_reducible rfl))⟩)
end Go.Proofs.YtidbokheeieifaaGreatDoor
