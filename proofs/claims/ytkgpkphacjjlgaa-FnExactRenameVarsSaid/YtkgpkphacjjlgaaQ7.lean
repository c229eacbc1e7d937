/-
  What the laws on functions share: facts that hold as long as some blocks stay as they are. No walk.
  impl.copyTerm: the term in memory of the call's own, all rows below it owned and apart: the walk.
  impl.changeVars: a term with its variables changed, in memory of the call's own, all rows below it owned and apart; what it asks of the function that changes a variable.
-/
import Derived.Test.YtkgpkphacjjlgaaQ5
import Derived.Test.YtkgpkphacjjlgaaQ6
import Derived.Deep.DeepCutAuto
import Derived.Deep.CutBlock
namespace Go.Proofs.Ytkgpkphacjjlgaa
open Go.RowKit

/-- P holds in every world in which the blocks from lo to hi are as they are here. -/
def Kept (lo hi : Nat) (P : World → Prop) (w : World) : Prop := hi ≤ w.heap.size ∧ ∀ w', Same lo hi w w' → P w'
theorem Kept.now {lo hi : Nat} {P : World → Prop} {w : World} (h : Kept lo hi P w) : P w := h.2 w fun _ _ _ => rfl
theorem Kept.same {lo hi : Nat} {P : World → Prop} {w w1 : World} (h : Kept lo hi P w) (hs : Same lo hi w w1) (hz : w.heap.size ≤ w1.heap.size) : Kept lo hi P w1 :=
  ⟨Nat.le_trans h.1 hz, fun w' h' => h.2 w' fun b b1 b2 => (h' b b1 b2).trans (hs b b1 b2)⟩
theorem Kept.below {lo hi : Nat} {P : World → Prop} {w w1 : World} (h : Kept lo hi P w) (hb : Below w.heap.size w w1) : Kept lo hi P w1 :=
  h.same (fun b _ b2 => hb.block b (Nat.lt_of_lt_of_le b2 h.1)) hb.size
theorem Kept.out {lo hi l2 h2 : Nat} {P : World → Prop} {w w1 : World} (h : Kept lo hi P w) (ho : Out l2 h2 w w1) (hd : hi ≤ l2 ∨ h2 ≤ lo) : Kept lo hi P w1 :=
  h.same (fun b b1 b2 => ho.2.2.2.2 b (Nat.lt_of_lt_of_le b2 h.1) (by omega)) ho.2.2.2.1
theorem Kept.grown {lo hi : Nat} {P : World → Prop} {w w1 : World} {row : Option Nat} (h : Kept lo hi P w) (hg : w.grownBy w1 row) (hd : ∀ k, row = some k → k < lo ∨ hi ≤ k) : Kept lo hi P w1 :=
  h.same (fun b b1 b2 => hg.block b (Nat.lt_of_lt_of_le b2 h.1) (fun e => by have := hd b e.symm; omega)) hg.size
theorem Kept.mono {lo hi : Nat} {P Q : World → Prop} {w : World} (h : Kept lo hi P w) (hq : ∀ w', P w' → Q w') : Kept lo hi Q w := ⟨h.1, fun w' hs => hq w' (h.2 w' hs)⟩

theorem ArgsAt.same {w w' : World} {lo h : Nat} {u : Value} {ts : List T} (k : ArgsAt w lo h u ts) (hs : Same lo w.heap.size w w') : ArgsAt w' lo h u ts :=
  k.keep fun ad v hlo hv => by
    have hl := World.block_lt_of_cell? w _ hv
    unfold World.cell? at *
    rw [hs ad.block hlo hl]; exact hv
theorem TermAt.same {w w' : World} {lo h : Nat} {v : Value} {t : T} (k : TermAt w lo h v t) (hs : Same lo w.heap.size w w') : TermAt w' lo h v t := by
  obtain ⟨k, n, s, u, xs, e1, e2, hsz, ha⟩ := k
  exact ⟨k, n, s, u, xs, e1, e2, hsz, ha.same hs⟩
theorem OwnA.same {w w' : World} {h lo hi : Nat} {u : Value} {ts : List T} (k : OwnA w h lo hi u ts) (hs : Same lo hi w w') : OwnA w' h lo hi u ts := k.keep fun b b1 b2 => hs b b1 b2

theorem TermAt.kept {w : World} {lo h : Nat} {v : Value} {t : T} (k : TermAt w lo h v t) : Kept lo w.heap.size (fun w' => TermAt w' lo h v t) w := ⟨Nat.le_refl _, fun _ hs => k.same hs⟩
/-- A term in a box, its rows and the box in the blocks from lo to hi. -/
def TBox (lo b : Nat) (k n : Int) (s : ByteArray) (u : Value) (h : Nat) (t : T) (w : World) : Prop := w.heap[b]? = some (trow k n s u) ∧ TermAt w lo h (tv k n s u) t
theorem TBox.kept {lo b h : Nat} {k n : Int} {s : ByteArray} {u : Value} {t : T} {w : World} (x : TBox lo b k n s u h t w) (hb : lo ≤ b) : Kept lo w.heap.size (TBox lo b k n s u h t) w :=
  ⟨Nat.le_refl _, fun _ hs => ⟨(hs b hb (Array.getElem?_eq_some_iff.1 x.1).1).trans x.1, x.2.same hs⟩⟩
/-- The same, and its rows are a call's own. -/
def TBoxO (lo b : Nat) (k n : Int) (s : ByteArray) (u : Value) (h : Nat) (xs : List T) (w : World) : Prop := TBox lo b k n s u h (.node k n s xs) w ∧ OwnA w h lo b u xs
theorem TBoxO.kept {lo b h : Nat} {k n : Int} {s : ByteArray} {u : Value} {xs : List T} {w : World} (x : TBoxO lo b k n s u h xs w) (hb : lo ≤ b) : Kept lo w.heap.size (TBoxO lo b k n s u h xs) w := by
  have hl := (Array.getElem?_eq_some_iff.1 x.1.1).1
  exact ⟨Nat.le_refl _, fun w' hs => ⟨(x.1.kept hb).2 w' hs, x.2.same fun c c1 c2 => hs c c1 (by omega)⟩⟩
/-- What a copy leaves, in its box. -/
theorem tbox_of {w1 W1 : World} {lo h : Nat} {k n : Int} {s : ByteArray} {u : Value} {xs : List T} (hs : s.size ≤ maxLen) (ha : ArgsAt w1 lo h u xs) (ho : OwnA w1 h lo w1.heap.size u xs) (hW : W1 = boxed w1 k n s u) : TBoxO lo w1.heap.size k n s u h xs W1 := by
  have hb : Below w1.heap.size w1 W1 := by rw [hW]; exact boxed_below _ _ _ _ _
  exact ⟨⟨by rw [hW]; exact heap_new _ _ rfl, ⟨_, _, _, _, xs, rfl, rfl, hs, ha.below hb⟩⟩, ho.keep fun b _ b2 => hb.block b b2⟩
/-- An argument of the law in its box, and what lies below it. -/
def TArg (b : Nat) (k n : Int) (s : ByteArray) (u : Value) (h : Nat) (t : T) (w : World) : Prop := w.heap[b]? = some (.cells #[.int .i64 k, .int .i64 n, .string s, u] 45 (0, 0)) ∧ TermAt w 0 h (tv k n s u) t
theorem TArg.kept {b h : Nat} {k n : Int} {s : ByteArray} {u : Value} {t : T} {w : World} (x : TArg b k n s u h t w) : Kept 0 w.heap.size (TArg b k n s u h t) w :=
  ⟨Nat.le_refl _, fun _ hs => ⟨(hs b (Nat.zero_le _) (Array.getElem?_eq_some_iff.1 x.1).1).trans x.1, x.2.same hs⟩⟩
theorem cells_of4L {Y : World} {b : Nat} {x0 x1 x2 x3 : Value} {t : TypeId} (hb : Y.heap[b]? = some (.cells #[x0, x1, x2, x3] t (0, 0))) : Y.cell? ⟨b, 0, none⟩ = some x0 ∧ Y.cell? ⟨b, 1, none⟩ = some x1 ∧ Y.cell? ⟨b, 2, none⟩ = some x2 ∧ Y.cell? ⟨b, 3, none⟩ = some x3 := by
  have h0 := cell_of_row Y b 0 _ _ _ hb
  have h1 := cell_of_row Y b 1 _ _ _ hb
  have h2 := cell_of_row Y b 2 _ _ _ hb
  have h3 := cell_of_row Y b 3 _ _ _ hb
  simp at h0 h1 h2 h3
  exact ⟨h0, h1, h2, h3⟩

/-- A copy, of whatever height. -/
def CopyE (r : T) (w : World) (e : Ending) (w' : World) : Prop := ∃ H, CopyR H r w e w'

/-- How many nodes a changed term has. -/
theorem cS_map (f : T → T) (M : Nat) (xs : List T) (h : ∀ x ∈ xs, cT (f x) ≤ cT x * M) : cS (xs.map f) ≤ cS xs * M := by
  induction xs with
  | nil => simp [cS]
  | cons x r ih =>
    have h1 := h x (by simp)
    have h2 := ih (fun y hy => h y (by simp [hy]))
    simp only [cS, List.map_cons, List.sum_cons, Nat.add_mul] at *
    omega
theorem cT_map (F : ByteArray → Option T) (R : ByteArray → ByteArray) (M : Nat) (hF : ∀ s u, F s = some u → cT u ≤ M) (hM : 1 ≤ M) : ∀ t, cT (mapT F R t) ≤ cT t * M
  | .node k n s xs => by
    have hm : cS (xs.map (mapT F R)) ≤ cS xs * M := cS_map _ M xs fun x _ => cT_map F R M hF hM x
    have hn : ∀ s', cT (.node k n s' (xs.map (mapT F R))) ≤ cT (.node k n s xs) * M := fun s' => by
      rw [cT_node, cT_node, Nat.add_mul]; omega
    rw [mapT_node]
    split
    · split
      · rename_i u hu
        have := hF _ _ hu
        rw [cT_node, Nat.add_mul]; omega
      · exact hn _
    · exact hn _
end Go.Proofs.Ytkgpkphacjjlgaa
namespace Go.Proofs.Ytkgpkphacjjlgaa
open Go.RowKit

theorem infoPtr : (Try.prog.info? 132).map (fun i => (i.zero, i.size, i.bytes)) = some (some (.pointer none), 1, 8) := by kernel_rfl

/-- The box of the term and that of the answer, and the first list of what is to do. -/
abbrev boxC (w : World) (k n : Int) (s : ByteArray) (u : Value) : World :=
  ((boxed w k n s u).alloc (.cells #[.int .i64 0, .int .i64 0, .string ⟨#[]⟩, .slice none 0 0] 29)).alloc (.cells #[.pointer (some ⟨w.heap.size, 0, none⟩)] 132)
/-- What the box of the term holds at the end. -/
def FinC (w : World) (k n : Int) (s : ByteArray) (h : Nat) (xs : List T) (w' : World) : Prop :=
  ∃ u', w'.heap[w.heap.size]? = some (trow k n s u') ∧ OwnR (fun _ => True) w' h (w.heap.size + 2) w'.heap.size u' xs
def PbC (w : World) (b : Nat) : Prop := b = w.heap.size ∨ w.heap.size + 2 ≤ b

/-- What the cells of a row of arguments hold. -/
theorem args_row {w : World} {h pc : Nat} {pa : Option Addr} {xs : List T} (ha : ArgsAt w 0 h (.slice pa xs.length pc) xs) : ∃ vs, RowV w (h - 1) xs vs ∧ (pa = none → xs.length = 0) ∧ (∀ ad, pa = some ad → ∀ j u, vs[j]? = some u → w.cell? (ad.add j) = some u) ∧ (h = 0 → xs = []) := by
  rcases ha.cases with ⟨rfl, _⟩ | ⟨h', b, o, cap, rfl, e, _, _, hr⟩
  · exact ⟨[], rfl, (fun _ => rfl), (fun ad _ j u hu => by simp at hu), (fun _ => rfl)⟩
  · cases e
    obtain ⟨vs, h1, h2⟩ := RowV.of_row hr
    exact ⟨vs, h1, (fun e => by cases e), (fun ad e j u hu => by cases e; exact h2 j u hu), (fun e => by omega)⟩
theorem kid_rev (g h : Nat) (U : Nat → Value) (X : Nat → List T) (q : Nat) (ps : List Pd) : ((kidL g h U X (q + 1) ++ ps).reverse.map pP) = ((kidL g h U X q ++ ps).reverse.map pP) ++ [.pointer (some ⟨g, q * 4, none⟩)] := by
  simp [kidL, kid]

theorem kid_len (g h : Nat) (U : Nat → Value) (X : Nat → List T) (q : Nat) : (kidL g h U X q).length = q := by
  induction q with
  | zero => rfl
  | succ q ih => rw [kidL, List.length_cons, ih]
theorem copy_fin {w wr : World} {k n : Int} {s : ByteArray} {u : Value} {h : Nat} {xs : List T} (hs : s.size ≤ maxLen) (ho : OwnR (fun _ => True) wr h (w.heap.size + 2) wr.heap.size u xs) (hb : Below w.heap.size w wr) (v0 v1 v2 v3 : Value) :
    CopyR h (.node k n s xs) w (.returned (tv k n s u)) ((((wr.setCell ⟨w.heap.size + 1, 0, none⟩ v0).setCell ⟨w.heap.size + 1, 1, none⟩ v1).setCell ⟨w.heap.size + 1, 2, none⟩ v2).setCell ⟨w.heap.size + 1, 3, none⟩ v3) := by
  have st : ∀ (W : World) (j : Nat) (v : Value), OwnR (fun _ => True) W h (w.heap.size + 2) wr.heap.size u xs → OwnR (fun _ => True) (W.setCell ⟨w.heap.size + 1, j, none⟩ v) h (w.heap.size + 2) wr.heap.size u xs := fun W j v o =>
    o.keep fun b _ h1 _ => ⟨Below.heap_setCell _ _ _ _ (fun e => by simp at e; omega), trivial⟩
  refine ⟨k, n, s, u, xs, rfl, rfl, hs, (st _ _ _ (st _ _ _ (st _ _ _ (st _ _ _ ho)))).wide (by omega) (by simp [World.setCell]), ?_⟩
  exact (((hb.setCell (Nat.le_succ _) _).setCell (Nat.le_succ _) _).setCell (Nat.le_succ _) _).setCell (Nat.le_succ _) _

theorem heap_set_at {w : World} {b : Nat} {cs : Array Value} {e : TypeId} (h : w.heap[b]? = some (.cells cs e (0, 0))) (j : Nat) (v : Value) : (w.setCell ⟨b, j, none⟩ v).heap[b]? = some (.cells (cs.setIfInBounds j v) e (0, 0)) := by
  unfold World.setCell
  simp [Array.getElem?_modify, h]

theorem start_good (w : World) (k n : Int) (s : ByteArray) (a : Option Addr) (cap h : Nat) (xs : List T) (ha : ArgsAt w 0 h (.slice a xs.length cap) xs) :
    GoodW w (PbC w) (FinC w k n s h xs) [⟨w.heap.size, 0, h, .slice a xs.length cap, xs⟩] (.slice (some ⟨w.heap.size + 2, 0, none⟩) 1 1) (boxC w k n s (.slice a xs.length cap)) := by
  have r0 : (boxC w k n s (.slice a xs.length cap)).heap[w.heap.size]? = some (trow k n s (.slice a xs.length cap)) := by
    rw [Below.heap_alloc _ _ _ (by simp; omega), Below.heap_alloc _ _ _ (by simp)]; exact heap_new w _ rfl
  refine ⟨⟨?_, frozen_of_row _ _ _ _ _ r0, Or.inl rfl, by simp; omega, fun e => ?_, ha⟩, fun v' w' u' d => ?_⟩
  · have := cell_of_row _ w.heap.size 3 _ _ _ r0
    simpa using this
  · simp [Value.ownBlock] at e
  · refine ⟨u', ?_, (d.own.wide (by simp) (Nat.le_refl _)).keep (fun b _ _ _ => ⟨rfl, trivial⟩)⟩
    have := d.cell
    rw [show (0 + 3) = 3 by rfl] at this
    rw [this, heap_set_at r0]
    rfl

set_option maxRecDepth 100000 in
set_option maxHeartbeats 3200000 in
theorem copyI_any (v : Value) (t : T) (lo h : Nat) (w : World) (ht : TermAt w lo h v t) (hw : wT t ≤ 4194303) : Calls Try.prog 57 #[v] w (CopyR h t w) := by
  obtain ⟨k, n, s, u, xs, rfl, rfl, hs, ha⟩ := ht
  obtain ⟨a, cap, rfl⟩ := ha.slice
  obtain ⟨i0, hi, hz0, hz1, hz2⟩ := info_parts infoPtr
  have HI := Lib.hid hi; clear hi
  have HZ0 := Lib.hid hz0; clear hz0
  have HZ1 := Lib.hid hz1; clear hz1
  have HZ2 := Lib.hid hz2; clear hz2
  have HS := Lib.hid hs; clear hs
  have HG0 := Lib.hid (start_good w k n s a cap h xs (ha.low (Nat.zero_le _)))
  obtain ⟨m0, hm0⟩ : ∃ m, m = xs.length := ⟨_, rfl⟩
  rw [← hm0] at HG0 ⊢
  obtain ⟨W0, hW0⟩ : ∃ W0, W0 = boxC w k n s (.slice a m0 cap) := ⟨_, rfl⟩
  have hB0 : Below w.heap.size w W0 := by rw [hW0]; exact ((boxed_below w k n s _).alloc (by simp) _).alloc (by simp; omega) _
  have hs0 : W0.heap.size = w.heap.size + 3 := by rw [hW0]; simp
  have r1 : W0.heap[w.heap.size + 1]? = some (trow 0 0 ByteArray.empty (.slice none 0 0)) := by
    rw [hW0, Below.heap_alloc _ _ _ (by simp)]; exact heap_new _ _ (by simp)
  have ho0 : W0.ownsRow (w.heap.size + 2) 132 1 (.slice (some ⟨w.heap.size + 2, 0, none⟩) 1 1) 1 [.pointer (some ⟨w.heap.size, 0, none⟩)] := by
    rw [hW0]
    have e : ((boxed w k n s (.slice a m0 cap)).alloc (.cells #[.int .i64 0, .int .i64 0, .string ⟨#[]⟩, .slice none 0 0] 29)).heap.size = w.heap.size + 2 := by simp
    have := World.ownsRow_lit (base := w.heap.size + 2) (size := 1) (e := 132) ((boxed w k n s (.slice a m0 cap)).alloc (.cells #[.int .i64 0, .int .i64 0, .string ⟨#[]⟩, .slice none 0 0] 29)) #[.pointer (some ⟨w.heap.size, 0, none⟩)] 1 (by rw [e]; omega) (by decide) rfl
    rw [e] at this
    exact this
  have HB0 := Lib.hid hB0; clear hB0
  have HS0 := Lib.hid hs0; clear hs0
  have HR1 := Lib.hid r1; clear r1
  have HO0 := Lib.hid ho0; clear ho0
  have HT0 : Hid (1 + cS xs ≤ 4194304 ∧ todo [⟨w.heap.size, 0, h, .slice a m0 cap, xs⟩] = 1 + cS xs) := Lib.hid ⟨by have h1 := cT_le (.node k n s xs); rw [cT_node] at h1; omega, by simp [todo]⟩
  have HM0 := Lib.hid hm0; clear hm0 ha hw
  rw [← hW0] at HG0
  unfold boxC boxed at hW0
  go_enter Try.func57, Try.ntmps57
  go_wp2
  rw [← hW0]
  clear hW0
  go_loopg [3] (1 + cS xs) (fun g v wr => ∃ ps : List Pd, g = todo ps ∧ Hid (todo ps ≤ 4194304) ∧ Hid (wr.ownsRow (w.heap.size + 2) 132 1 v ps.length (ps.reverse.map pP)) ∧ Hid (GoodW w (PbC w) (FinC w k n s h xs) ps v wr) ∧
    Hid (wr.heap[w.heap.size + 1]? = some (trow 0 0 ByteArray.empty (.slice none 0 0)) ∧ w.heap.size + 3 ≤ wr.heap.size) ∧ Hid (Below w.heap.size w wr))
  case atStart => exact ⟨_, HT0.out.2.symm, Lib.hid (by rw [HT0.out.2]; exact HT0.out.1), HO0, HG0, Lib.hid ⟨HR1.out, by rw [HS0.out]; exact Nat.le_refl _⟩, HB0⟩
  case round =>
    clear HG0 HO0 HR1 HB0 HS0
    obtain ⟨ps, hg, HT, HO, HG, HR, HB⟩ := hrel
    have HGH := Lib.hid hg; clear hg
    cases ps with
    | nil =>
      obtain ⟨a1, c1, rfl⟩ := own_formK HO.out
      obtain ⟨u', q0, hown⟩ := HG.out
      have q1 := HR.out.1
      obtain ⟨ua, uc, rfl⟩ := hown.slice
      rw [← HM0.out] at q0 hown
      have e0 := cell_of_row wr w.heap.size 0 _ _ _ q0
      have e1 := cell_of_row wr w.heap.size 1 _ _ _ q0
      have e2 := cell_of_row wr w.heap.size 2 _ _ _ q0
      have e3 := cell_of_row wr w.heap.size 3 _ _ _ q0
      have z0 := cell_of_row wr (w.heap.size + 1) 0 _ _ _ q1
      have z1 := cell_of_row wr (w.heap.size + 1) 1 _ _ _ q1
      have z2 := cell_of_row wr (w.heap.size + 1) 2 _ _ _ q1
      have z3 := cell_of_row wr (w.heap.size + 1) 3 _ _ _ q1
      have y0 := frozen_of_row wr (w.heap.size + 1) 0 _ _ q1
      have y1 := frozen_of_row wr (w.heap.size + 1) 1 _ _ q1
      have y2 := frozen_of_row wr (w.heap.size + 1) 2 _ _ q1
      have y3 := frozen_of_row wr (w.heap.size + 1) 3 _ _ q1
      simp at e0 e1 e2 e3 z0 z1 z2 z3
      have HF := Lib.hid (fun v0 v1 v2 v3 => copy_fin (k := k) (n := n) (v0 := v0) (v1 := v1) (v2 := v2) (v3 := v3) HS.out hown HB.out)
      clear q0 q1 hown HG
      go_wp2
      (try simp only [Exit.inBlock, Exit.then])
      refine bodyPost_ret (v := tv k n s (.slice ua m0 uc)) ?hr rfl ?_
      case hr =>
        rw [results_cell (a := 2) (t := 29) (ad := ⟨w.heap.size + 1, 0, none⟩) rfl rfl]
        go_simp
      exact HF.out _ _ _ _
    | cons p ps =>
      obtain ⟨n0, hn0⟩ : ∃ n0, n0 = ps.length := ⟨_, rfl⟩
      have ho := HO.out; clear HO
      rw [List.length_cons, ← hn0, List.reverse_cons, List.map_append] at ho
      have hN : n0 + 1 ≤ 4194304 := by have h1 := todo_len (p :: ps); have h2 := HT.out; rw [List.length_cons, ← hn0] at h1; omega
      have hrl : (ps.reverse.map pP).length = n0 := by simp [hn0]
      have HN0 := Lib.hid hn0; clear hn0
      have hvl := ho.lt
      obtain ⟨a0, c0, rfl⟩ := own_formK ho
      obtain ⟨g0, rfl, hc0⟩ : ∃ g0, a0 = some ⟨g0, 0, none⟩ ∧ n0 + 1 ≤ c0 := by
        rcases ho.2 with ⟨e1, h0⟩ | ⟨g, c, cur, e1, hb, hg, hc, _⟩
        · omega
        · cases e1; exact ⟨g, rfl, hc⟩
      have hcp : wr.cell? ⟨g0, n0, none⟩ = some (.pointer (some ⟨p.b, p.o, none⟩)) := by
        rw [ho.cellAt n0 (by omega), List.getElem?_append_right (by omega), hrl, Nat.sub_self]; rfl
      have HF := Lib.hid (own_front ho hrl (by simp)); clear ho hrl
      obtain ⟨⟨hpc, hpf, hpb, hpl, hpn, hpa⟩, hcont⟩ := HG.out
      obtain ⟨pa, pc, hpu⟩ := hpa.slice
      obtain ⟨m, hm⟩ : ∃ m, m = p.xs.length := ⟨_, rfl⟩
      rw [hpu, ← hm] at hpc
      rw [hpu] at hpa
      have hml : m ≤ 4194304 := by have h1 := todo_cons p ps; have h2 := HT.out; have h3 := len_le_cS p.xs; omega
      have HM := Lib.hid hm; clear hm
      have hwr : w.heap.size + 3 ≤ wr.heap.size := HR.out.2
      have hpa2 : ArgsAt w 0 p.h (.slice pa p.xs.length pc) p.xs := hpa
      obtain ⟨vs, hrow, hnone, hcells, hh0⟩ := args_row hpa2
      have hvs := hrow.len
      have hone := hrow.one
      have HCALL := Lib.hid (ownArgs_any p.b p.o pa m pc vs wr (by rw [HM.out]; exact hvs) hml (by rw [HM.out]; exact hnone) (fun ad e j u hu => by
        have h1 := hcells ad e j u hu
        rw [HB.out.cell (World.block_lt_of_cell? w _ h1)]; exact h1) hone hpc hpf)
      have HHR := Lib.hid (And.intro hrow hh0)
      have HPL := Lib.hid (And.intro hpl hpn)
      have HPF := Lib.hid (And.intro hpf (And.intro hpb hpa))
      have HCONT := Lib.hid hcont
      have HVL := Lib.hid (fun k hk => (hvl k hk).2)
      have HVL2 := Lib.hid (fun k hk => (hvl k hk).1)
      clear hrow hnone hcells hh0 hvs hone hpa2 hpa hcont hvl hpb hpn hpf HG
      go_wp2_with fail
      refine HCALL.out.mono ?_
      rintro e w2 ⟨rfl, u1, wc, rfl, how, hbw⟩
      obtain ⟨a1, c1, rfl⟩ := own_formK how
      have hwcz := hbw.size
      obtain ⟨w1, hw1⟩ : ∃ w1, w1 = wc.setCell ⟨p.b, p.o + 3, none⟩ (.slice a1 m c1) := ⟨_, rfl⟩
      rw [← hw1]
      have hz1 : w1.heap.size = wc.heap.size := by rw [hw1]; simp [World.setCell]
      have d3 : w1.cell? ⟨p.b, p.o + 3, none⟩ = some (.slice a1 m c1) := by
        rw [hw1]
        exact World.cell?_setCell_same' _ _ _ (by rw [hbw.cell HPL.out.1, hpc]; rfl)
      obtain ⟨g, hg⟩ : ∃ g, m = 0 ∨ a1 = some ⟨g, 0, none⟩ := by
        rcases how.2 with ⟨e1, h0⟩ | ⟨g, c, cur, e1, _⟩
        · exact ⟨0, Or.inl h0⟩
        · cases e1; exact ⟨g, Or.inr rfl⟩
      have HPUSH := Lib.hid (fun vi wi (hG : Grew (.slice (some ⟨g0, 0, none⟩) n0 c0) w1 vi wi) => good_push (w0 := w) (Pb := PbC w) (Fin := FinC w k n s h xs) (g := g) HCONT.out HPL.out.1 HPL.out.2 (by rw [← HM.out]; unfold maxLen; omega) HM.out (v1 := .slice (some ⟨g0, 0, none⟩) n0 c0) rfl HVL.out hbw how hg (fun b hb => Or.inr (by omega)) HHR.out.1 HHR.out.2 (by rw [← hw1]; exact hG))
      have HW1 : Hid (Below w.heap.size w w1) := Lib.hid (by
        rw [hw1]
        exact (HB.out.trans (hbw.mono HB.out.size)).setCell (by rcases HPF.out.2.1 with e | e <;> (show w.heap.size ≤ p.b; omega)) _)
      have HBX : Hid (w1.heap[w.heap.size + 1]? = some (trow 0 0 ByteArray.empty (.slice none 0 0))) := Lib.hid (by
        rw [hw1, Below.heap_setCell _ _ _ _ (fun e => by simp at e; rcases HPF.out.2.1 with h1 | h1 <;> omega), hbw.block _ (by omega)]
        exact HR.out.1)
      have hown1 : w1.ownsRow (w.heap.size + 2) 132 1 (.slice (some ⟨g0, 0, none⟩) n0 c0) n0 (ps.reverse.map pP) := by
        have hg0 := HVL.out g0 rfl
        exact row_keep (keep_own HF.out hbw) (by rw [hw1]; exact Below.heap_setCell _ _ _ _ (fun e => by simp at e; exact HPL.out.2 (by rw [← e]; rfl)))
      have HO1 := Lib.hid hown1
      have HD3 := Lib.hid d3
      have HG := Lib.hid hg
      have HZ1b := Lib.hid (And.intro hz1 hwcz)
      have HTD : Hid (todo (kidL g (p.h - 1) (fun i => (vs[i * 4 + 3]?).getD undef) (fun i => ((p.xs[i]?).map kT).getD []) m ++ ps) + 1 = todo (p :: ps)) := Lib.hid (by rw [todo_app, todo_kids _ _ _ _ _ (by rw [HM.out]; exact Nat.le_refl _), HM.out, List.take_length, todo_cons]; omega)
      have hpz : p.b < w1.heap.size := by omega
      have HPNV : Hid (NotOwn (.slice (some ⟨g0, 0, none⟩) n0 c0) p.b) := Lib.hid HPL.out.2
      clear hown1 hg hw1 how hbw HCALL hwcz hz1 hpc hcp hpu
      go_wp2
      go_loopw [3, 28] (fun vi i wi => ∃ q : Nat, q ≤ m ∧ i = .int .i64 q ∧ Hid (wi.ownsRow (w.heap.size + 2) 132 1 vi (n0 + q) ((kidL g (p.h - 1) (fun i => (vs[i * 4 + 3]?).getD undef) (fun i => ((p.xs[i]?).map kT).getD []) q ++ ps).reverse.map pP)) ∧
        Hid (Grew (.slice (some ⟨g0, 0, none⟩) n0 c0) w1 vi wi) ∧ Hid (Below w.heap.size w wi)) (fun _ i _ => m - (intOf i).toNat)
      case atStart => exact ⟨0, Nat.zero_le _, rfl, HO1, Lib.hid (Grew.refl _ _ _ rfl), HW1⟩
      case round =>
        obtain ⟨q, hq, rfl, HOI, HGI, HBI⟩ := hrel
        by_cases hlt : q < m
        · obtain rfl : a1 = some ⟨g, 0, none⟩ := HG.out.resolve_left (by omega)
          have hnm : n0 + m ≤ 8388608 := by omega
          have e3 : wr.cell? ⟨p.b, p.o + 3, none⟩ = some (.slice (some ⟨g, 0, none⟩) m c1) := by
            rw [cell_heap (HGI.out.2.1 p.b hpz HPNV.out)]; exact HD3.out
          have hlo : w.heap.size + 2 ≤ wr.heap.size := by have := HGI.out.1; have := HZ1b.out; omega
          have HHI := Lib.hid hlt; have HNM := Lib.hid hnm; clear hnm
          go_wp2_with (first | (at_builtin; refine wpList_append_lies _ rfl (.tmp 31) (.tmp 38) 142 rfl (w.heap.size + 2) 132 i0 (.pointer none) 1 8 Try.underlying142 HI.out HZ0.out HZ1.out HZ2.out rfl (by decide) _ _ _ rfl (HOI.out.alloc _) ⟨wr.heap.size, 0, none⟩ 1 1 [.pointer (some ⟨g, q * 4, none⟩)] ?c0 rfl ?c1 ?c2 (by decide) ?c3 ?c4 ?c5 _ rfl ?_))
          case c2 => rfl
          case c3 => have := HNM.out; unfold maxLen; omega
          case c4 => have := HNM.out; omega
          case c5 => omega
          intro g3 cap3 w3 hown hgr hat hlt3
          have HG3 := Lib.hid (HGI.out.trans (grew_app (n := n0 + q + 1) (cap := cap3) (o := .cells #[.pointer (some ⟨g, q * 4, none⟩)] 132) hgr (by simpa using hat)))
          have HB3 : Hid (Below w.heap.size w w3) := Lib.hid ((HBI.out.alloc HBI.out.size (.cells #[.pointer (some ⟨g, q * 4, none⟩)] 132)).grown hgr (by simp; omega) (fun i hi => by have := (HOI.out.lt _ hi).1; omega))
          have HO3 : Hid (w3.ownsRow (w.heap.size + 2) 132 1 (.slice (some ⟨g3, 0, none⟩) (n0 + q + 1) cap3) (n0 + q + 1) ((kidL g (p.h - 1) (fun i => (vs[i * 4 + 3]?).getD undef) (fun i => ((p.xs[i]?).map kT).getD []) (q + 1) ++ ps).reverse.map pP)) := Lib.hid (by rw [kid_rev]; simpa using hown)
          clear hown hgr hat hlt3
          go_wp2
          go_roundw
          case rel => exact ⟨q + 1, by omega, by go_num, HO3, HG3, HB3⟩
          case measure => simp [intOf]; omega
        · have hqm : q = m := by omega
          subst hqm
          have HGD := Lib.hid (HPUSH.out _ _ HGI.out)
          have HLEN : Hid ((kidL g (p.h - 1) (fun i => (vs[i * 4 + 3]?).getD undef) (fun i => ((p.xs[i]?).map kT).getD []) q ++ ps).length = n0 + q) := Lib.hid (by rw [List.length_append, kid_len, HN0.out]; omega)
          have HBX2 : Hid (wr.heap[w.heap.size + 1]? = some (trow 0 0 ByteArray.empty (.slice none 0 0)) ∧ w.heap.size + 3 ≤ wr.heap.size) := Lib.hid (by
            have h1 := HZ1b.out
            have h2 := HGI.out.1
            refine ⟨(HGI.out.2.1 _ (by omega) (fun e => ?_)).trans HBX.out, by omega⟩
            have := HVL2.out g0 rfl
            simp [Value.ownBlock] at e; omega)
          clear hlt
          have hqq : ¬ q < q := by omega
          go_wp2
          go_roundg (todo (kidL g (p.h - 1) (fun i => (vs[i * 4 + 3]?).getD undef) (fun i => ((p.xs[i]?).map kT).getD []) q ++ ps))
          case measure => have := HTD.out; have := HGH.out; omega
          case rel => exact ⟨_, rfl, Lib.hid (by have := HTD.out; have := HT.out; omega), Lib.hid (by rw [HLEN.out]; exact HOI.out), HGD, HBX2, HBI⟩
end Go.Proofs.Ytkgpkphacjjlgaa
namespace Go.Proofs.Ytkgpkphacjjlgaa
open Go.RowKit

abbrev pQ (p : Pv) : Value := .pointer (some ⟨p.b, p.o, none⟩)
def todoM (ps : List Pv) : Nat := (ps.map fun p => 1 + cS p.xs).sum
theorem todoM_cons (p : Pv) (ps : List Pv) : todoM (p :: ps) = 1 + cS p.xs + todoM ps := by simp [todoM]
theorem todoM_app (ps qs : List Pv) : todoM (ps ++ qs) = todoM ps + todoM qs := by simp [todoM]
theorem todoM_len (ps : List Pv) : ps.length ≤ todoM ps := by
  induction ps with
  | nil => simp [todoM]
  | cons p ps ih => rw [todoM_cons, List.length_cons]; omega
def hdV (vs : List Value) (xs : List T) (i : Nat) : Hd := match xs[i]? with
  | some (.node k n s txs) => ⟨k, n, s, (vs[i * 4 + 3]?).getD undef, txs⟩
  | none => ⟨0, 0, ⟨#[]⟩, undef, []⟩
theorem hdV_at {vs : List Value} {xs : List T} {i : Nat} {k n : Int} {s : ByteArray} {txs : List T} (h : xs[i]? = some (.node k n s txs)) : hdV vs xs i = ⟨k, n, s, (vs[i * 4 + 3]?).getD undef, txs⟩ := by simp [hdV, h]
theorem todoM_kids (g h : Nat) (vs : List Value) (xs : List T) (j : Nat) (hj : j ≤ xs.length) : todoM (kidsM g h (hdV vs xs) j) = cS (xs.take j) := by
  induction j with
  | zero => simp [kidsM, todoM, cS]
  | succ j ih =>
    obtain ⟨t, ht⟩ : ∃ t, xs[j]? = some t := ⟨_, List.getElem?_eq_getElem (by omega)⟩
    obtain ⟨k, n, s, txs⟩ := t
    rw [kidsM, todoM_cons, ih (by omega), tk xs j _ ht, cS_snoc, cT_node]
    simp only [kidM, hdV_at ht]; omega
theorem kidsM_rev (g h : Nat) (U : Nat → Hd) (q : Nat) (ps : List Pv) : ((kidsM g h U (q + 1) ++ ps).reverse.map pQ) = ((kidsM g h U q ++ ps).reverse.map pQ) ++ [.pointer (some ⟨g, q * 4, none⟩)] := by
  simp [kidsM, kidM]
theorem kidsM_len (g h : Nat) (U : Nat → Hd) (q : Nat) : (kidsM g h U q).length = q := by
  induction q with
  | zero => rfl
  | succ q ih => rw [kidsM, List.length_cons, ih]

/-- The node's arguments were copied, and all of them are put behind what is still to do. -/
theorem goodM_push {f : T → T} {D : Nat} {w0 : World} {Pb : Nat → Prop} {Fin : World → Prop} {ps : List Pv} {p : Pv} {v v1 vi : Value} {w w1 wc wi : World} {a : Option Addr} {m c g : Nat} {vs : List Value} {S : ByteArray}
    (cont : ∀ v' w', DoneM f D p v w v' w' → GoodM f D w0 Pb Fin ps v' w') (hn : NodeC w p.b p.o p.k p.n p.s p.u) (hp : p.b < w.heap.size) (hpo : NotOwn v p.b) (hl : p.xs.length ≤ maxLen) (hm : m = p.xs.length) (hv1 : v1.ownBlock = v.ownBlock) (hvl : ∀ k, v.ownBlock = some k → k < w.heap.size)
    (hw1s : w.heap.size ≤ w1.heap.size) (hw1k : ∀ b, b < w.heap.size → b ≠ p.b → w1.heap[b]? = w.heap[b]?) (hw1c : w1.heap[p.b]? = (w.setCell ⟨p.b, p.o + 2, none⟩ (.string S)).heap[p.b]?) (hS : S.size ≤ maxLen) (hf : f (.node p.k p.n p.s p.xs) = .node p.k p.n S (p.xs.map f)) (hwt : wT (.node p.k p.n p.s p.xs) ≤ 4194303)
    (hb : Below w1.heap.size w1 wc) (ho : wc.ownsRow w1.heap.size 29 4 (.slice a m c) m vs) (hg : m = 0 ∨ a = some ⟨g, 0, none⟩) (hPg : ∀ b, w.heap.size ≤ b → Pb b)
    (hr : RowV w0 (p.h - 1) p.xs vs) (hh : p.h = 0 → p.xs = []) (hG : Grew v1 (wc.setCell ⟨p.b, p.o + 3, none⟩ (.slice a m c)) vi wi) :
    GoodM f D w0 Pb Fin (kidsM g (p.h - 1) (hdV vs p.xs) m ++ ps) vi wi := by
  obtain ⟨s1, k1, o1⟩ := hG
  have hz : (wc.setCell ⟨p.b, p.o + 3, none⟩ (.slice a m c)).heap.size = wc.heap.size := by simp [World.setCell]
  rw [hz] at s1 k1 o1
  have hws := hb.size
  rw [hv1] at o1
  have hn1 : ∀ b, NotOwn v b → NotOwn v1 b := fun b h => by unfold NotOwn at *; rw [hv1]; exact h
  have hnv : ∀ b, w.heap.size ≤ b → NotOwn v b := fun b h e => by have := hvl b e.symm; omega
  have size : w.heap.size ≤ wi.heap.size := by omega
  have keep : ∀ b, b < w.heap.size → b ≠ p.b → NotOwn v b → wi.heap[b]? = w.heap[b]? := fun b h1 h2 h3 =>
    (k1 b (by omega) (hn1 b h3)).trans ((Below.heap_setCell _ _ _ _ (fun e => h2 (by simpa using e))).trans ((hb.block b (by omega)).trans (hw1k b h1 h2)))
  have cell : wi.heap[p.b]? = (cellsQ w p.b p.o p.k p.n S (.slice a m c)).heap[p.b]? := by
    rw [cellsQ_head hn.c0 hn.c1]
    exact (k1 p.b (by omega) (hn1 _ hpo)).trans (setCell_heap' ((hb.block p.b (by omega)).trans hw1c))
  have ob : vi.ownBlock = v.ownBlock ∨ ∃ k, vi.ownBlock = some k ∧ w.heap.size ≤ k := by
    rcases o1 with o1 | ⟨k, e, hk⟩
    · exact Or.inl o1
    · exact Or.inr ⟨k, e, by omega⟩
  by_cases h0 : m = 0
  · have hx : p.xs = [] := List.eq_nil_of_length_eq_zero (by omega)
    subst h0
    refine cont vi wi ⟨size, keep, ob, _, _, _, _, _, hf, hS, cell, ?_⟩
    rw [hx]
    exact OwnR.nil _ _ _ _ _ _ _
  · have ha : a = some ⟨g, 0, none⟩ := hg.resolve_left h0
    subst ha
    have hlt := ho.lt g rfl
    obtain ⟨h', hh'⟩ : ∃ h', p.h = h' + 1 := ⟨p.h - 1, by
      have : p.h ≠ 0 := fun e => h0 (by rw [hm, hh e]; rfl)
      omega⟩
    rw [show p.h - 1 = h' by omega] at hr ⊢
    refine GoodM.kids (cap := c) cont (by omega) (hPg g (by omega)) hp hpo hl hh' hS hf hwt (fun i k n s txs hi => ?_) m vi wi (by omega) ⟨size, keep, by rw [← hm]; exact cell, ob, by omega, notOwn_old (n := wc.heap.size) o1 hlt.2 (hnv g (by omega)), ?_⟩
    · obtain ⟨_, a', m', cap', _, _, _, x3, ha⟩ := hr.at i k n s txs hi
      rw [hdV_at hi]
      simp only [x3, Option.getD_some]
      exact ⟨trivial, trivial, trivial, trivial, ha⟩
    · have hrow1 : (wc.setCell ⟨p.b, p.o + 3, none⟩ (.slice (some ⟨g, 0, none⟩) m c)).ownsRow w1.heap.size 29 4 (.slice (some ⟨g, 0, none⟩) m c) m vs := row_keep ho (Below.heap_setCell _ _ _ _ (fun e => by simp at e; omega))
      have hrow2 := row_keep hrow1 (w' := wi) (k1 g hlt.2 (hn1 _ (hnv g (by omega))))
      have hrow3 : wi.ownsRow g 29 4 (.slice (some ⟨g, 0, none⟩) m c) m vs := by
        refine ⟨hrow2.1, ?_⟩
        rcases hrow2.2 with ⟨e, _⟩ | ⟨g', cap', cur, e, _, rest⟩
        · cases e
        · cases e
          exact Or.inr ⟨g, c, cur, rfl, Nat.le_refl _, rest⟩
      refine ⟨vs, fun _ => undef, fun _ => 0, fun _ => 0, by rw [← hm]; exact hrow3, fun i hi hil => ?_, fun i t hle hi => ?_, fun i i' h1 h2 h3 => by omega⟩
      · obtain ⟨t, ht⟩ : ∃ t, p.xs[i]? = some t := ⟨_, List.getElem?_eq_getElem (by omega)⟩
        obtain ⟨k, n, s, txs⟩ := t
        obtain ⟨hs, a', m', cap', x0, x1, x2, x3, _⟩ := hr.at i k n s txs ht
        rw [hdV_at ht]
        exact ⟨x0, x1, x2, by simp [x3]⟩
      · have hil := (List.getElem?_eq_some_iff.1 hi).1
        omega

/-- What the function that changes a variable does to a node. -/
def CbE (F : ByteArray → Option T) (R : ByteArray → ByteArray) (D : Nat) (w0 : World) (b o : Nat) (s : ByteArray) (W : World) (e : Ending) (w' : World) : Prop :=
  ∃ B, e = .returned (.bool B) ∧ Below w0.heap.size w0 w' ∧ W.heap.size ≤ w'.heap.size ∧ (∀ j, j < W.heap.size → j ≠ b → w'.heap[j]? = W.heap[j]?) ∧
  (B = true → ∃ k' n' s' u' xs', F s = some (.node k' n' s' xs') ∧ s'.size ≤ maxLen ∧ w'.heap[b]? = (cellsQ W b o k' n' s' u').heap[b]? ∧ OwnR (fun _ => True) w' D W.heap.size w'.heap.size u' xs') ∧
  (B = false → F s = none ∧ (R s).size ≤ maxLen ∧ w'.heap[b]? = (W.setCell ⟨b, o + 2, none⟩ (.string (R s))).heap[b]?)
def CbOk (fid : FuncId) (cv : Value) (F : ByteArray → Option T) (R : ByteArray → ByteArray) (D : Nat) (w0 : World) : Prop :=
  ∀ (b o : Nat) (n : Int) (s : ByteArray) (u : Value) (W : World), Below w0.heap.size w0 W → w0.heap.size ≤ b → b < W.heap.size → NodeC W b o 1 n s u → s.size ≤ 4194303 →
    Calls Try.prog fid #[.pointer (some ⟨b, o, none⟩), cv] W (CbE F R D w0 b o s W)

/-- What the box of the term holds at the end. -/
def FinM (f : T → T) (D : Nat) (w : World) (t : T) (h : Nat) (w' : World) : Prop :=
  ∃ k n s u xs, f t = .node k n s xs ∧ s.size ≤ maxLen ∧ w'.heap[w.heap.size]? = some (trow k n s u) ∧ OwnR (fun _ => True) w' (h + D) (w.heap.size + 2) w'.heap.size u xs
theorem startM (f : T → T) (D : Nat) (w : World) (k n : Int) (s : ByteArray) (a : Option Addr) (cap h : Nat) (xs : List T) (hw : wT (.node k n s xs) ≤ 4194303) (ha : ArgsAt w 0 h (.slice a xs.length cap) xs) :
    GoodM f D w (PbC w) (FinM f D w (.node k n s xs) h) [⟨w.heap.size, 0, h, k, n, s, .slice a xs.length cap, xs⟩] (.slice (some ⟨w.heap.size + 2, 0, none⟩) 1 1) (boxC w k n s (.slice a xs.length cap)) := by
  have r0 : (boxC w k n s (.slice a xs.length cap)).heap[w.heap.size]? = some (trow k n s (.slice a xs.length cap)) := by
    rw [Below.heap_alloc _ _ _ (by simp; omega), Below.heap_alloc _ _ _ (by simp)]; exact heap_new w _ rfl
  obtain ⟨⟨c0, c1, c2, c3⟩, f0, f1, f2, f3⟩ := cells_of4 r0
  refine ⟨⟨⟨c0, c1, c2, c3, f0, f1, f2, f3⟩, hw, Or.inl rfl, by simp; omega, fun e => ?_, ha⟩, fun v' w' d => ?_⟩
  · simp [Value.ownBlock] at e
  · obtain ⟨k', n', s', u', xs', ef, hs', hc, ho⟩ := d.res
    refine ⟨k', n', s', u', xs', ef, hs', ?_, (ho.wide (by simp) (Nat.le_refl _)).keep (fun b _ _ _ => ⟨rfl, trivial⟩)⟩
    have h1 := heap_set_at r0 0 (.int .i64 k')
    have h2 := heap_set_at h1 1 (.int .i64 n')
    have h3 := heap_set_at h2 2 (.string s')
    have h4 := heap_set_at h3 3 u'
    exact hc.trans h4
end Go.Proofs.Ytkgpkphacjjlgaa
