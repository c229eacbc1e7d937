/-
  spec.l3Vars adds the names of a term's variables to a list, in the order of the text; spec.VarsOfTerm sorts them; spec.IsGround tells whether there are none.
  Matching of terms by a list of pairs that are still open. No walk.
  slices.Backward over a slice of terms: the contract of its iterator.
  slices.Backward over a slice of terms: the contract of its iterator, where each index is known with its element.
-/
import Derived.Test.YteelakhaaipebaaQ25
import Derived.Test.YteelakhaaipebaaQ26
import Derived.Test.YteelakhaaipebaaQ9
import Derived.Test.YteelakhaaipebaaQ24
import Derived.Test.YteelakhaaipebaaQ2
import Derived.Maps.AppendAt
import Derived.RangeFuncNested
import Derived.RangeFuncBound
import Derived.RangeFuncCalls
import Derived.RangeFuncLeaves
import Derived.RangeFuncBox
import Derived.Shelf.Abstract
import Derived.Shelf.RegionOpen
import Derived.WalkKit
import Derived.OwnWalkIn
import Derived.TacticsInMore
import Derived.LoopNIn
import Derived.LoopIn
namespace Go.Proofs.Yteelakhaaipebaa
open Go.RowKit

/-- The names of the variables of a term, as they come. -/
def vT : T → List ByteArray
  | .node k _ s xs => (if k = 1 then [s] else []) ++ (xs.map vT).flatten
def vS (xs : List T) : List ByteArray := (xs.map vT).flatten
theorem vS_snoc (l : List T) (t : T) : vS (l ++ [t]) = vS l ++ vT t := by simp [vS]
theorem vT_node (k n : Int) (s : ByteArray) (xs : List T) : vT (.node k n s xs) = (if k = 1 then [s] else []) ++ vS xs := by rw [vT]; rfl
theorem vS_of (xs : List T) (h : ∀ x ∈ xs, (vT x).length ≤ cT x) : (vS xs).length ≤ cS xs := by
  induction xs with
  | nil => simp [vS, cS]
  | cons x r ih =>
    have h1 := h x (by simp)
    have h2 := ih (fun y hy => h y (by simp [hy]))
    simp only [vS, cS, List.map_cons, List.flatten_cons, List.sum_cons, List.length_append] at *
    omega
theorem vT_le : ∀ t : T, (vT t).length ≤ cT t
  | .node k n s xs => by
    have h := vS_of xs (fun x _ => vT_le x)
    rw [vT_node, cT_node, List.length_append]
    split <;> simp <;> omega
theorem vS_le (xs : List T) : (vS xs).length ≤ cS xs := vS_of xs (fun x _ => vT_le x)
theorem cT_at (ts : List T) (k : Nat) (t : T) (h : ts[k]? = some t) : cS (ts.take k) + cT t ≤ cS ts := by
  have h1 := cS_take ts (k + 1)
  rw [tk ts k t h, cS_snoc] at h1
  exact h1

/-- The list lies where it lay, or in memory that is new since w and beyond its next block. -/
def Reach (u : Value) (w : World) (c : Value) : Prop := c.ownBlock = u.ownBlock ∨ ∃ j, c.ownBlock = some j ∧ w.heap.size < j
theorem Reach.next {u c c' : Value} {w wr : World} (h : Reach u w c) (k : c'.ownBlock = c.ownBlock ∨ ∃ j, c'.ownBlock = some j ∧ wr.heap.size ≤ j) (hw : w.heap.size < wr.heap.size) : Reach u w c' := by
  rcases k with k | ⟨j, k1, k2⟩
  · rcases h with h | ⟨i, h1, h2⟩
    · exact Or.inl (k.trans h)
    · exact Or.inr ⟨i, k.trans h1, h2⟩
  · exact Or.inr ⟨j, k1, by omega⟩
theorem Reach.off {u c : Value} {w : World} (h : Reach u w c) (hu : ∀ j, u.ownBlock = some j → j < w.heap.size) : some w.heap.size ≠ c.ownBlock := by
  intro e
  rcases h with h | ⟨j, h1, h2⟩
  · have := hu w.heap.size (by rw [← h, ← e]); omega
  · rw [h1] at e; cases e; omega
theorem grown_comp {w wr w1 : World} {r r2 : Option Nat} (h : w.grownBy wr r) (k : wr.grownBy w1 r2) (hr : r2 = r ∨ ∃ j, r2 = some j ∧ w.heap.size ≤ j) : w.grownBy w1 r :=
  ⟨k.os.trans h.os, k.tape.trans h.tape, k.output.trans h.output, Nat.le_trans h.size k.size, fun i hi hne => (k.block i (Nat.lt_of_lt_of_le hi h.size) (fun e => by
    rcases hr with hr | ⟨j, h1, h2⟩
    · exact hne (e.trans hr)
    · rw [h1] at e; cases e; omega)).trans (h.block i hi hne)⟩
theorem cell_one_at (w : World) (x : Value) (t : TypeId) {n : Nat} (h : n = w.heap.size) : ∀ j u, [x][j]? = some u → (w.alloc (.cells #[x] t)).cell? ((⟨n, 0, none⟩ : Addr).add j) = some u := by
  subst h; exact cell_one_new w x t
theorem lt_all {w : World} {B n size : Nat} {e : TypeId} {v : Value} {xs : List Value} (h : w.ownsRow B e size v n xs) : ∀ j, v.ownBlock = some j → j < w.heap.size := fun j hj => (h.lt j hj).2

/-- A call that answers whether X holds and leaves what was there. -/
def TellsB2 (X : Prop) (w : World) (e : Ending) (w' : World) : Prop := ∃ b, e = .returned (.bool b) ∧ (b = true ↔ X) ∧ Below w.heap.size w w'

def VarsEnd (B : Nat) (u : Value) (ps : List ByteArray) (w : World) (e : Ending) (w' : World) : Prop :=
  ∃ u', e = .returned u' ∧ w'.ownsRow B 9 1 u' ps.length (ps.map Value.string) ∧ w.grownBy w' u.ownBlock ∧ (u'.ownBlock = u.ownBlock ∨ ∃ j, u'.ownBlock = some j ∧ w.heap.size ≤ j)

def VarsAt (lo h : Nat) : Prop := ∀ (v : Value) (t : T) (B : Nat) (u : Value) (ps : List ByteArray) (w0 w : World), TermAt w0 lo h v t → wT t ≤ 1048576 → ps.length + cT t ≤ 4194304 →
  w.ownsRow B 9 1 u ps.length (ps.map Value.string) → w0.heap.size ≤ B → Below w0.heap.size w0 w → B ≤ w.heap.size →
  Calls Try.prog 124 #[v, u] w (VarsEnd B u (ps ++ vT t) w)

set_option maxRecDepth 100000 in
set_option maxHeartbeats 1000000 in
theorem sVars_step (lo h : Nat) (IH : ∀ h', h = h' + 1 → VarsAt lo h') : VarsAt lo h := by
  intro v t B u ps w0 w ht hw hpc hu hB hbw hBw
  obtain ⟨i0, hi, hz0, hz1, hz2⟩ := info_parts infoStr'
  have HI := Lib.hid hi; clear hi
  have HZ0 := Lib.hid hz0; clear hz0
  have HZ1 := Lib.hid hz1; clear hz1
  have HZ2 := Lib.hid hz2; clear hz2
  obtain ⟨kk, nn, s, uu, xs, rfl, rfl, hs, ha⟩ := ht
  obtain ⟨a, cap, rfl⟩ := ha.slice
  have HA := Lib.hid ha; clear ha
  have HW : Hid (xs.length + wS xs ≤ 1048576) := Lib.hid (by rw [wT_node] at hw; omega)
  have HPC0 : Hid (ps.length + (1 + cS xs) ≤ 4194304) := Lib.hid (by rw [cT_node] at hpc; exact hpc)
  have hpl : ps.length ≤ 4194304 := by omega
  clear hw hs hpc
  obtain ⟨m, hm⟩ : ∃ m, m = xs.length := ⟨_, rfl⟩
  have hml : m ≤ 1048576 := by have := HW.out; omega
  rw [← hm] at HA ⊢
  have HM := Lib.hid hm; clear hm
  have HIH := Lib.hid IH; clear IH
  have HU := Lib.hid hu; clear hu
  have HB := Lib.hid hbw; clear hbw
  have hga : w.grownBy (boxed w kk nn s (.slice a m cap)) u.ownBlock := World.grownBy_alloc w _ _
  have hcb := (boxed_cells (Below.refl (boxed w kk nn s (.slice a m cap)).heap.size (boxed w kk nn s (.slice a m cap)))).2.2.2
  have HGA := Lib.hid hga; clear hga
  have HCA := Lib.hid hcb; clear hcb
  by_cases hk1 : kk = 1
  · subst hk1
    have HVN : Hid (ps ++ vT (.node 1 nn s xs) = (ps ++ [s]) ++ vS xs) := Lib.hid (by rw [vT_node]; simp)
    go_enter Try.func124, Try.ntmps124
    go_wp2_with (first | (at_builtin; refine wpList_append_own_at _ rfl (.tmp 9) (.tmp 12) 36 rfl B 9 i0 (.string ByteArray.empty) 1 16 Try.underlying36 HI.out HZ0.out HZ1.out HZ2.out rfl (by decide) _ _ _ rfl ((HU.out.alloc _).alloc _) ⟨w.heap.size + 1, 0, none⟩ 1 1 [.string s] rfl rfl ?c1 ?c2 (by unfold maxLen; omega) (by omega) ?c5 ?_))
    case c1 => first | exact cell_one_at _ _ _ (by simp) | (trace_state; exact foo)
    case c2 => intro q hq; simp at hq; subst hq; rfl
    case c5 => simp; omega
    intro u0 w1 ho1 hg1 _ hl1
    obtain ⟨ps0, hps0⟩ : ∃ ps0, ps0 = ps ++ [s] := ⟨_, rfl⟩
    rw [← hps0] at HVN
    have HPC : Hid (ps0.length + cS xs ≤ 4194304) := Lib.hid (by have := HPC0.out; rw [hps0, List.length_append]; simp; omega)
    have HOX : Hid (w1.ownsRow B 9 1 u0 ps0.length (ps0.map Value.string)) := Lib.hid (by rw [hps0]; simpa using ho1)
    have HG0 : Hid (w.grownBy w1 u.ownBlock) := Lib.hid (grown_trans (World.grownBy_alloc w _ _) (grown_trans (World.grownBy_alloc _ _ _) hg1))
    have HRE : Hid (Reach u w u0) := Lib.hid (hl1.imp id (fun h => ⟨_, h, by first | omega | (simp; omega) | simp⟩))
    have HCB : Hid (w1.cell? ⟨w.heap.size, 3, none⟩ = some (.slice a m cap)) := Lib.hid (hg1.cell (by
      rw [((Below.refl (boxed w 1 nn s (.slice a m cap)).heap.size (boxed w 1 nn s (.slice a m cap))).alloc (Nat.le_refl _) _).cell (by simp)]
      exact HCA.out) (fun e => by have := lt_all HU.out w.heap.size e.symm; omega))
    have hws : w.heap.size < w1.heap.size := by have := hg1.size; simp at this; omega
    clear ho1 hg1 hl1 hps0
    go_wp2
    go_loopw [1, 5] (fun cc i wr => ∃ (c : Value) (k : Nat), c = cc ∧ k ≤ m ∧ i = .int .i64 k ∧ Hid (wr.ownsRow B 9 1 c (ps0 ++ vS (xs.take k)).length ((ps0 ++ vS (xs.take k)).map Value.string)) ∧ Hid (w.grownBy wr u.ownBlock) ∧ Hid (Reach u w c) ∧ Hid (wr.cell? ⟨w.heap.size, 3, none⟩ = some (.slice a m cap)) ∧ w.heap.size < wr.heap.size) (fun _ i _ => m - (intOf i).toNat)
    case atStart => exact ⟨_, 0, rfl, Nat.zero_le _, rfl, Lib.hid (by simpa [vS] using HOX.out), HG0, HRE, HCB, hws⟩
    case round =>
      obtain ⟨c, k, rfl, hk, rfl, HO, HG, HR, HC, hwr⟩ := hrel
      have cb := HC.out
      by_cases hlt : k < m
      · obtain ⟨t, ht⟩ : ∃ t, xs[k]? = some t := ⟨_, List.getElem?_eq_getElem (by have := HM.out; omega)⟩
        have hbr : Below w0.heap.size w0 wr := HB.out.grown HG.out HB.out.size (fun j hj => Nat.le_trans hB (HU.out.lt j hj).1)
        obtain ⟨h', b, o, tk', tn, tsn, txs, u', e, rfl, rfl, hsz, c0, c1, c2, c3, har⟩ := HA.out.at ht
        have d0 := cell_on hbr c0
        have d1 := cell_on hbr c1
        have d2 := cell_on hbr c2
        have d3 := cell_on hbr c3
        clear c0 c1 c2 c3
        have hwt := wT_at xs k _ ht
        have hcs := cT_at xs k _ ht
        have hvl := vS_le (xs.take k)
        have HCALL := Lib.hid (HIH.out h' e _ _ B c (ps0 ++ vS (xs.take k)) w0 wr ⟨tk', tn, tsn, u', txs, rfl, rfl, hsz, har⟩ (by have := HW.out; omega) (by have := HPC.out; rw [List.length_append]; omega) HO.out hB hbr (by have := HB.out.size; have := hBw; omega))
        have HVS : Hid (ps0 ++ vS (xs.take (k + 1)) = ps0 ++ vS (xs.take k) ++ vT (.node tk' tn tsn txs)) := Lib.hid (by rw [tk xs k _ ht, vS_snoc, List.append_assoc])
        clear hwt hcs hvl ht har hsz e hbr
        go_wp2_with fail
        refine HCALL.out.mono ?_
        rintro e w1 ⟨c', rfl, ho1, hg1, hr1⟩
        have HO1 := Lib.hid ho1; clear ho1
        have HG1 := Lib.hid (grown_comp HG.out hg1 (HR.out.imp id (fun ⟨j, h1, h2⟩ => ⟨j, h1, by omega⟩)))
        have HR1 := Lib.hid (HR.out.next hr1 hwr)
        have HC1 := Lib.hid (hg1.cell HC.out (by exact HR.out.off (lt_all HU.out)))
        have hs1 : w.heap.size < w1.heap.size := Nat.lt_of_lt_of_le hwr hg1.size
        clear hg1 hr1
        go_wp2
        go_roundw
        case rel => exact ⟨_, k + 1, rfl, by omega, by go_num, Lib.hid (by rw [HVS.out]; exact HO1.out), HG1, HR1, HC1, hs1⟩
        case measure => simp [intOf]; omega
      · have HD : Hid (vS (xs.take k) = vS xs) := Lib.hid (by
          have hkn : k = xs.length := by have := HM.out; omega
          rw [hkn, List.take_length])
        go_wp2
        go_ret
        refine ⟨_, rfl, ?_, HG.out, HR.out.imp id (fun ⟨j, h1, h2⟩ => ⟨j, h1, by omega⟩)⟩
        have h1 := HO.out
        rw [HD.out] at h1
        rw [HVN.out]
        exact h1
  · have hk1' : (kk == 1) = false := by rw [beq_eq_false_iff_ne]; exact hk1
    have HVN : Hid (ps ++ vT (.node kk nn s xs) = ps ++ vS xs) := Lib.hid (by rw [vT_node, if_neg hk1]; simp)
    clear hk1
    obtain ⟨ps0, hps0⟩ : ∃ ps0, ps0 = ps := ⟨_, rfl⟩
    subst hps0
    have HPC : Hid (ps0.length + cS xs ≤ 4194304) := Lib.hid (by have := HPC0.out; omega)
    have HOX := Lib.hid (HU.out.alloc (.cells #[.int .i64 kk, .int .i64 nn, .string s, .slice a m cap] 29))
    have HG0 := HGA
    have HCB := HCA
    have HRE : Hid (Reach u w u) := Lib.hid (Or.inl rfl)
    have hws : w.heap.size < (boxed w kk nn s (.slice a m cap)).heap.size := by simp
    go_enter Try.func124, Try.ntmps124
    go_wp2
    go_loopw [1, 5] (fun cc i wr => ∃ (c : Value) (k : Nat), c = cc ∧ k ≤ m ∧ i = .int .i64 k ∧ Hid (wr.ownsRow B 9 1 c (ps0 ++ vS (xs.take k)).length ((ps0 ++ vS (xs.take k)).map Value.string)) ∧ Hid (w.grownBy wr u.ownBlock) ∧ Hid (Reach u w c) ∧ Hid (wr.cell? ⟨w.heap.size, 3, none⟩ = some (.slice a m cap)) ∧ w.heap.size < wr.heap.size) (fun _ i _ => m - (intOf i).toNat)
    case atStart => exact ⟨_, 0, rfl, Nat.zero_le _, rfl, Lib.hid (by simpa [vS] using HOX.out), HG0, HRE, HCB, hws⟩
    case round =>
      obtain ⟨c, k, rfl, hk, rfl, HO, HG, HR, HC, hwr⟩ := hrel
      have cb := HC.out
      by_cases hlt : k < m
      · obtain ⟨t, ht⟩ : ∃ t, xs[k]? = some t := ⟨_, List.getElem?_eq_getElem (by have := HM.out; omega)⟩
        have hbr : Below w0.heap.size w0 wr := HB.out.grown HG.out HB.out.size (fun j hj => Nat.le_trans hB (HU.out.lt j hj).1)
        obtain ⟨h', b, o, tk', tn, tsn, txs, u', e, rfl, rfl, hsz, c0, c1, c2, c3, har⟩ := HA.out.at ht
        have d0 := cell_on hbr c0
        have d1 := cell_on hbr c1
        have d2 := cell_on hbr c2
        have d3 := cell_on hbr c3
        clear c0 c1 c2 c3
        have hwt := wT_at xs k _ ht
        have hcs := cT_at xs k _ ht
        have hvl := vS_le (xs.take k)
        have HCALL := Lib.hid (HIH.out h' e _ _ B c (ps0 ++ vS (xs.take k)) w0 wr ⟨tk', tn, tsn, u', txs, rfl, rfl, hsz, har⟩ (by have := HW.out; omega) (by have := HPC.out; rw [List.length_append]; omega) HO.out hB hbr (by have := HB.out.size; have := hBw; omega))
        have HVS : Hid (ps0 ++ vS (xs.take (k + 1)) = ps0 ++ vS (xs.take k) ++ vT (.node tk' tn tsn txs)) := Lib.hid (by rw [tk xs k _ ht, vS_snoc, List.append_assoc])
        clear hwt hcs hvl ht har hsz e hbr
        go_wp2_with fail
        refine HCALL.out.mono ?_
        rintro e w1 ⟨c', rfl, ho1, hg1, hr1⟩
        have HO1 := Lib.hid ho1; clear ho1
        have HG1 := Lib.hid (grown_comp HG.out hg1 (HR.out.imp id (fun ⟨j, h1, h2⟩ => ⟨j, h1, by omega⟩)))
        have HR1 := Lib.hid (HR.out.next hr1 hwr)
        have HC1 := Lib.hid (hg1.cell HC.out (by exact HR.out.off (lt_all HU.out)))
        have hs1 : w.heap.size < w1.heap.size := Nat.lt_of_lt_of_le hwr hg1.size
        clear hg1 hr1
        go_wp2
        go_roundw
        case rel => exact ⟨_, k + 1, rfl, by omega, by go_num, Lib.hid (by rw [HVS.out]; exact HO1.out), HG1, HR1, HC1, hs1⟩
        case measure => simp [intOf]; omega
      · have HD : Hid (vS (xs.take k) = vS xs) := Lib.hid (by
          have hkn : k = xs.length := by have := HM.out; omega
          rw [hkn, List.take_length])
        go_wp2
        go_ret
        refine ⟨_, rfl, ?_, HG.out, HR.out.imp id (fun ⟨j, h1, h2⟩ => ⟨j, h1, by omega⟩)⟩
        have h1 := HO.out
        rw [HD.out] at h1
        rw [HVN.out]
        exact h1

theorem sVars_any (lo : Nat) (h : Nat) : VarsAt lo h := by_height (sVars_step lo) h

/-- A term of a call that is in a block of its own: its names in a new list. -/
theorem varsNew {lo h : Nat} {w : World} {k n : Int} {s : ByteArray} {u : Value} {t : T} (ht : TermAt w lo h (tv k n s u) t) (hw : wT t ≤ 1048576) :
    Calls Try.prog 124 #[tv k n s u, .slice (some ⟨w.heap.size + 1, 0, none⟩) 0 0] ((boxed w k n s u).alloc (.cells #[] 9)) (fun e w' => ∃ u', e = .returned u' ∧ w'.ownsRow w.heap.size 9 1 u' (vT t).length ((vT t).map Value.string) ∧ Below w.heap.size w w') := by
  have hb : Below w.heap.size w ((boxed w k n s u).alloc (.cells #[] 9)) := (boxed_below w k n s u).alloc (by simp) _
  have ho := World.ownsRow_lit (base := w.heap.size) (size := 1) (e := 9) (boxed w k n s u) #[] 0 (by simp) (by decide) rfl
  have hsz : (boxed w k n s u).heap.size = w.heap.size + 1 := by simp
  have hc := sVars_any lo h _ t w.heap.size (.slice (some ⟨w.heap.size + 1, 0, none⟩) 0 0) [] w ((boxed w k n s u).alloc (.cells #[] 9)) ht hw (by have := cT_le t; simp; omega) (by rw [hsz] at ho; exact ho) (Nat.le_refl _) hb (by simp; omega)
  refine hc.mono fun e w' ⟨u', he, hown, hg, _⟩ => ⟨u', he, by simpa using hown, ?_⟩
  exact hb.grown hg (by simp; omega) (fun j hj => by simp [Value.ownBlock] at hj; omega)

theorem vT_short {t : T} (hw : wT t ≤ 1048576) : (vT t).length ≤ 1048577 := by have := vT_le t; have := cT_le t; omega

set_option maxRecDepth 100000 in
set_option maxHeartbeats 800000 in
theorem sVarsOf_any (v : Value) (t : T) (lo h : Nat) (w : World) (ht : TermAt w lo h v t) (hw : wT t ≤ 1048576) :
    Calls Try.prog 82 #[v] w (SortEnd (vT t) w) := by
  obtain ⟨kk, nn, s, u, xs, rfl, et, hs, ha⟩ := id ht
  clear et hs ha xs
  have HC := Lib.hid (varsNew ht hw)
  have HVL := Lib.hid (vT_short hw)
  go_enter Try.func82, Try.ntmps82
  go_wp2_with fail
  refine HC.out.mono ?_
  rintro e w1 ⟨u1, rfl, ho1, hb1⟩
  have HO1 := Lib.hid ho1; clear ho1
  have HB1 := Lib.hid hb1; clear hb1
  go_wp2_with fail
  refine (sSort_any u1 (vT t) _ (by have := HVL.out; omega) (StrsAt.of_owns HO1.out)).mono ?_
  rintro e w2 ⟨u2, rs, rfl, hs2, hl2, ho2, hb2⟩
  have HS2 := Lib.hid hs2; clear hs2
  have HO2 := Lib.hid (own_low ho2 HB1.out.size); clear ho2
  have HB2 := Lib.hid (HB1.out.trans (hb2.mono HB1.out.size)); clear hb2
  go_wp2
  go_ret
  exact ⟨u2, rs, rfl, HS2.out, hl2, HO2.out, HB2.out⟩

end Go.Proofs.Yteelakhaaipebaa
namespace Go.Proofs.Yteelakhaaipebaa
open Go.RowKit

theorem zip_c : ∀ (ps ts : List T), ((ps.zip ts).map (fun x => cT x.1)).sum ≤ cS ps
  | [], ts => by simp [cS]
  | p :: ps, [] => by simp [cS]
  | p :: ps, t :: ts => by
    have := zip_c ps ts
    simp only [cS, List.zip_cons_cons, List.map_cons, List.sum_cons] at *
    omega
/-- A variable meets a term. -/
noncomputable def meetV (acc : List (ByteArray × T)) (s : ByteArray) (t : T) : Option (List (ByteArray × T)) :=
  match findB acc s with
  | some old => @ite _ (old = t) (Classical.propDecidable _) (some acc) none
  | none => some (acc ++ [(s, t)])
/-- The open pairs, the first one next. -/
noncomputable def runM : List (T × T) → List (ByteArray × T) → Option (List (ByteArray × T))
  | [], acc => some acc
  | (.node k n s ps, .node k' n' s' ts) :: r, acc =>
    if k = 1 then
      match meetV acc s (.node k' n' s' ts) with
      | some acc' => runM r acc'
      | none => none
    else if k = k' ∧ n = n' ∧ s = s' ∧ ps.length = ts.length then runM (ps.zip ts ++ r) acc else none
termination_by work => (work.map (fun x => cT x.1)).sum
decreasing_by
  · simp only [List.map_cons, List.sum_cons, cT_node]; omega
  · have := zip_c ps ts
    simp only [List.map_cons, List.sum_cons, cT_node, List.map_append, List.sum_append]; omega
theorem runM_nil (acc : List (ByteArray × T)) : runM [] acc = some acc := by rw [runM]
theorem runM_var {n : Int} {s : ByteArray} {ps : List T} {t : T} {r : List (T × T)} {acc : List (ByteArray × T)} : runM ((.node 1 n s ps, t) :: r) acc = (meetV acc s t).bind (runM r) := by
  obtain ⟨k', n', s', ts⟩ := t
  rw [runM, if_pos rfl]
  cases meetV acc s (.node k' n' s' ts) <;> rfl
theorem runM_app {k n : Int} {s : ByteArray} {ps ts : List T} {r : List (T × T)} {acc : List (ByteArray × T)} (hk : k ≠ 1) (hl : ps.length = ts.length) : runM ((.node k n s ps, .node k n s ts) :: r) acc = runM (ps.zip ts ++ r) acc := by
  rw [runM, if_neg hk, if_pos ⟨rfl, rfl, rfl, hl⟩]
theorem runM_no {k n k' n' : Int} {s s' : ByteArray} {ps ts : List T} {r : List (T × T)} {acc : List (ByteArray × T)} (hk : k ≠ 1) (h : ¬ (k = k' ∧ n = n' ∧ s = s' ∧ ps.length = ts.length)) : runM ((.node k n s ps, .node k' n' s' ts) :: r) acc = none := by
  rw [runM, if_neg hk, if_neg h]
/-- Pairs behind others. -/
theorem runM_append (l r : List (T × T)) (acc : List (ByteArray × T)) : runM (l ++ r) acc = (runM l acc).bind (runM r) := by
  induction l, acc using runM.induct with
  | case1 acc => rw [runM_nil]; rfl
  | case2 n s ps k' n' s' ts l' acc acc' hm ih =>
    rw [List.cons_append, runM_var, runM_var, hm]; exact ih
  | case3 n s ps k' n' s' ts l' acc hm =>
    rw [List.cons_append, runM_var, runM_var, hm]; rfl
  | case4 k n s ps k' n' s' ts l' acc hk he ih =>
    obtain ⟨rfl, rfl, rfl, hl⟩ := he
    rw [List.cons_append, runM_app hk hl, runM_app hk hl, ← ih, List.append_assoc]
  | case5 k n s ps k' n' s' ts l' acc hk he =>
    rw [List.cons_append, runM_no hk he, runM_no hk he]; rfl
/-- The matches of one pair. -/
noncomputable def matT (p t : T) (acc : List (ByteArray × T)) : Option (List (ByteArray × T)) := runM [(p, t)] acc
theorem matT_var {n : Int} {s : ByteArray} {ps : List T} {t : T} {acc : List (ByteArray × T)} : matT (.node 1 n s ps) t acc = meetV acc s t := by
  unfold matT
  rw [runM_var]
  cases meetV acc s t with
  | none => rfl
  | some x => exact runM_nil x
theorem matT_node {k n : Int} {s : ByteArray} {ps ts : List T} {acc : List (ByteArray × T)} (hk : k ≠ 1) (hl : ps.length = ts.length) : matT (.node k n s ps) (.node k n s ts) acc = runM (ps.zip ts) acc := by
  unfold matT
  rw [runM_app hk hl, List.append_nil]
theorem matT_no {k n k' n' : Int} {s s' : ByteArray} {ps ts : List T} {acc : List (ByteArray × T)} (hk : k ≠ 1) (h : ¬ (k = k' ∧ n = n' ∧ s = s' ∧ ps.length = ts.length)) : matT (.node k n s ps) (.node k' n' s' ts) acc = none := runM_no hk h
/-- One argument more. -/
theorem run_more {ps ts : List T} {j : Nat} {p t : T} {acc a' : List (ByteArray × T)} (hp : ps[j]? = some p) (ht : ts[j]? = some t) (h : runM ((ps.zip ts).take j) acc = some a') : runM ((ps.zip ts).take (j + 1)) acc = matT p t a' := by
  have e : (ps.zip ts)[j]? = some (p, t) := by rw [List.getElem?_zip_eq_some]; exact ⟨hp, ht⟩
  rw [tk _ _ _ e, runM_append, h]; rfl
theorem run_stop {ps ts : List T} {j : Nat} {p t : T} {acc a' : List (ByteArray × T)} (hp : ps[j]? = some p) (ht : ts[j]? = some t) (h : runM ((ps.zip ts).take j) acc = some a') (hn : matT p t a' = none) : runM (ps.zip ts) acc = none := by
  have h1 := run_more hp ht h
  rw [hn] at h1
  have e := List.take_append_drop (j + 1) (ps.zip ts)
  rw [← e, runM_append, h1]; rfl

/-- What the pairs weigh. -/
def wP (l : List (T × T)) : Nat := (l.map (fun x => 1 + wT x.1 + wT x.2)).sum
theorem wP_cons (x : T × T) (l : List (T × T)) : wP (x :: l) = 1 + wT x.1 + wT x.2 + wP l := by simp [wP]
theorem wP_app (l r : List (T × T)) : wP (l ++ r) = wP l + wP r := by simp [wP]
theorem wP_zip : ∀ (ps ts : List T), wP (ps.zip ts) ≤ ps.length + wS ps + wS ts
  | [], ts => by simp [wP]
  | p :: ps, [] => by simp [wP]
  | p :: ps, t :: ts => by
    have := wP_zip ps ts
    rw [List.zip_cons_cons, wP_cons]
    simp only [wS, List.map_cons, List.sum_cons, List.length_cons] at *
    omega
theorem wP_take (l : List (T × T)) (j : Nat) (x : T × T) (h : l[j]? = some x) : wP (l.take j) + (1 + wT x.1 + wT x.2) ≤ wP l := by
  have h1 : wP l = wP (l.take (j + 1)) + wP (l.drop (j + 1)) := by rw [← wP_app, List.take_append_drop]
  rw [tk l j x h, wP_app] at h1
  simp [wP] at h1 ⊢
  omega
theorem meetV_w {acc a' : List (ByteArray × T)} {s : ByteArray} {t : T} (h : meetV acc s t = some a') : wBs a' ≤ wBs acc + (1 + s.size + wT t) := by
  unfold meetV at h
  cases e : findB acc s with
  | some old =>
    rw [e] at h
    simp only at h
    split at h
    · cases h; omega
    · cases h
  | none =>
    rw [e] at h
    cases h
    rw [wBs_snoc]; simp only; omega
theorem run_w (l : List (T × T)) (acc : List (ByteArray × T)) : ∀ a', runM l acc = some a' → wBs a' ≤ wBs acc + wP l := by
  induction l, acc using runM.induct with
  | case1 acc => intro a' h; rw [runM_nil] at h; cases h; omega
  | case2 n s ps k' n' s' ts l' acc acc' hm ih =>
    intro a' h
    rw [runM_var, hm] at h
    have h1 := ih a' h
    have h2 := meetV_w hm
    rw [wP_cons]
    simp only [wT_node 1] at *
    omega
  | case3 n s ps k' n' s' ts l' acc hm => intro a' h; rw [runM_var, hm] at h; cases h
  | case4 k n s ps k' n' s' ts l' acc hk he ih =>
    obtain ⟨rfl, rfl, rfl, hl⟩ := he
    intro a' h
    rw [runM_app hk hl] at h
    have h1 := ih a' h
    have h2 := wP_zip ps ts
    rw [wP_app] at h1
    rw [wP_cons]
    simp only [wT_node] at *
    omega
  | case5 k n s ps k' n' s' ts l' acc hk he => intro a' h; rw [runM_no hk he] at h; cases h
theorem matT_w {p t : T} {acc a' : List (ByteArray × T)} (h : matT p t acc = some a') : wBs a' ≤ wBs acc + (1 + wT p + wT t) := by
  have := run_w _ _ _ h
  simpa [wP] using this

/-- What has been found stays. -/
theorem meetV_keeps {acc a' : List (ByteArray × T)} {s : ByteArray} {t : T} (h : meetV acc s t = some a') : findB a' s = some t ∧ ∀ nm u, findB acc nm = some u → findB a' nm = some u := by
  unfold meetV at h
  cases e : findB acc s with
  | some old =>
    rw [e] at h
    simp only at h
    split at h
    · rename_i ho; cases h; exact ⟨by rw [e, ho], fun nm u hu => hu⟩
    · cases h
  | none =>
    rw [e] at h
    cases h
    have app : ∀ nm, findB (acc ++ [(s, t)]) nm = (match findB acc nm with | some u => some u | none => findB [(s, t)] nm) := fun nm => by
      unfold findB
      rw [List.find?_append]
      cases acc.find? (fun x => x.1.toList == nm.toList) <;> simp
    refine ⟨?_, fun nm u hu => by rw [app, hu]⟩
    rw [app, e]
    simp [findB]
/-- The names of a match are variables of the pattern. -/
theorem run_names (l : List (T × T)) (acc : List (ByteArray × T)) : ∀ a', runM l acc = some a' → ∀ nm, (findB a' nm).isSome → (findB acc nm).isSome ∨ ∃ x ∈ l, nm ∈ vT x.1 := by
  induction l, acc using runM.induct with
  | case1 acc => intro a' h nm hn; rw [runM_nil] at h; cases h; exact Or.inl hn
  | case2 n s ps k' n' s' ts l' acc acc' hm ih =>
    intro a' h nm hn
    rw [runM_var, hm] at h
    rcases ih a' h nm hn with h1 | ⟨x, hx, hv⟩
    · by_cases e : nm = s
      · subst e
        exact Or.inr ⟨_, List.mem_cons_self, by rw [vT_node]; simp⟩
      · left
        unfold meetV at hm
        cases e2 : findB acc s with
        | some old =>
          rw [e2] at hm
          simp only at hm
          split at hm
          · cases hm; exact h1
          · cases hm
        | none =>
          rw [e2] at hm
          cases hm
          unfold findB at *
          rw [List.find?_append] at h1
          cases e3 : acc.find? (fun x => x.1.toList == nm.toList) with
          | some y => simp
          | none =>
            rw [e3] at h1
            have : (s.toList == nm.toList) = false := by
              cases hb : (s.toList == nm.toList) with
              | false => rfl
              | true => exact absurd ((same_iff _ _).1 hb).symm e
            simp [this] at h1
    · exact Or.inr ⟨x, List.mem_cons_of_mem _ hx, hv⟩
  | case3 n s ps k' n' s' ts l' acc hm => intro a' h; rw [runM_var, hm] at h; cases h
  | case4 k n s ps k' n' s' ts l' acc hk he ih =>
    obtain ⟨rfl, rfl, rfl, hl⟩ := he
    intro a' h nm hn
    rw [runM_app hk hl] at h
    rcases ih a' h nm hn with h1 | ⟨x, hx, hv⟩
    · exact Or.inl h1
    · rcases List.mem_append.1 hx with hx | hx
      · refine Or.inr ⟨_, List.mem_cons_self, ?_⟩
        have hp := (List.of_mem_zip (a := x.1) (b := x.2) hx).1
        rw [vT_node, vS]
        exact List.mem_append_right _ (List.mem_flatten.2 ⟨_, List.mem_map.2 ⟨_, hp, rfl⟩, hv⟩)
      · exact Or.inr ⟨x, List.mem_cons_of_mem _ hx, hv⟩
  | case5 k n s ps k' n' s' ts l' acc hk he => intro a' h; rw [runM_no hk he] at h; cases h
theorem matT_names {p t : T} {a' : List (ByteArray × T)} (h : matT p t [] = some a') : ∀ nm, (findB a' nm).isSome → nm ∈ vT p := by
  intro nm hn
  rcases run_names _ _ _ h nm hn with h1 | ⟨x, hx, hv⟩
  · simp [findB] at h1
  · simp at hx; subst hx; exact hv
end Go.Proofs.Yteelakhaaipebaa
namespace Go.Proofs.Yteelakhaaipebaa
open Go.RowKit Go.Shelf

attribute [local go_sem] Oper.semAt_some

/-- The struct of a term, as the cells hold it. -/
structure Nd where
  k : Int
  n : Int
  s : ByteArray
  a : Option Addr
  m : Nat
  c : Nat
def Nd.none : Nd := ⟨0, 0, ByteArray.empty, Option.none, 0, 0⟩
def Nd.cs (d : Nd) : List Value := [.int .i64 d.k, .int .i64 d.n, .string d.s, .slice d.a d.m d.c]

/-- What has come when q rounds are over. -/
def upto {α : Type} (f : Nat → α) (q : Nat) : List α := (List.range q).map f
theorem upto_succ {α : Type} (f : Nat → α) (q : Nat) : upto f (q + 1) = upto f q ++ [f q] := by simp [upto, List.range_succ]
theorem upto_length {α : Type} (f : Nat → α) (q : Nat) : (upto f q).length = q := by simp [upto]

/-- The nodes from the last to the first, with their indices. -/
def backF (ds : List Nd) (j : Nat) : Nat × Nd := (ds.length - 1 - j, (ds[ds.length - 1 - j]?).getD Nd.none)
theorem back_next (ds : List Nd) (p : Nat) (d : Nd) (h : ds[p]? = some d) : upto (backF ds) (ds.length - p) = upto (backF ds) (ds.length - (p + 1)) ++ [(p, d)] := by
  have hp := (List.getElem?_eq_some_iff.1 h).1
  have e1 : ds.length - p = ds.length - (p + 1) + 1 := by omega
  have e2 : backF ds (ds.length - (p + 1)) = (p, d) := by
    have e3 : ds.length - 1 - (ds.length - (p + 1)) = p := by omega
    unfold backF
    rw [e3, h]; rfl
  rw [e1, upto_succ, e2]
theorem back_all (ds : List Nd) : (upto (backF ds) ds.length).map Prod.snd = ds.reverse := by
  apply List.ext_getElem
  · simp [upto]
  · intro i h1 h2
    have hi : i < ds.length := by simpa [upto] using h1
    have h3 : ds.length - 1 - i < ds.length := by omega
    simp [upto, backF, List.getElem_reverse, h3]

/-- The nodes of a row lie in the cells from o on. -/
def NdsAt (w : World) (b o : Nat) (ds : List Nd) : Prop := ∀ j d, ds[j]? = some d → w.cell? ⟨b, o + j * 4, none⟩ = some (.int .i64 d.k) ∧ w.cell? ⟨b, o + j * 4 + 1, none⟩ = some (.int .i64 d.n) ∧
  w.cell? ⟨b, o + j * 4 + 2, none⟩ = some (.string d.s) ∧ w.cell? ⟨b, o + j * 4 + 3, none⟩ = some (.slice d.a d.m d.c)
theorem NdsAt.below {n₀ : Nat} {A B : World} (h : Below n₀ A B) {b o : Nat} {ds : List Nd} (hb : b < n₀) (k : NdsAt A b o ds) : NdsAt B b o ds := fun j d hj => by
  obtain ⟨c0, c1, c2, c3⟩ := k j d hj
  exact ⟨(h.cell (p := ⟨b, o + j * 4, none⟩) hb).trans c0, (h.cell (p := ⟨b, o + j * 4 + 1, none⟩) hb).trans c1, (h.cell (p := ⟨b, o + j * 4 + 2, none⟩) hb).trans c2, (h.cell (p := ⟨b, o + j * 4 + 3, none⟩) hb).trans c3⟩

/-- What a round must keep: what lay below n₀, and the box that the iterator reads. -/
def KpB (Bs n₀ : Nat) (A B : World) : Prop := Below n₀ A B ∧ ∀ v, Boxed A Bs 27 v → Boxed B Bs 27 v
theorem KpB.refl (Bs n₀ : Nat) (A : World) : KpB Bs n₀ A A := ⟨Below.refl _ _, fun _ h => h⟩
theorem KpB.trans {Bs n₀ : Nat} {A B C : World} (h : KpB Bs n₀ A B) (k : KpB Bs n₀ B C) : KpB Bs n₀ A C := ⟨h.1.trans k.1, fun v q => k.2 v (h.2 v q)⟩

set_option maxRecDepth 100000 in
set_option maxHeartbeats 2000000 in
theorem back1_in (F : Fence) (n : Nat) (hF : F.fn 153) (hro : F.round = none) (hn : 1 ≤ n) (l Bs n₀ b o cap : Nat) (ds : List Nd) (hlen : ds.length ≤ 1048576) (hb : b < n₀) (J Jx : List (Nat × Nd) → World → Prop)
    (hY : ∀ pre x W, J pre W → pre.length < ds.length → YieldAt F (n - 1) Try.prog l #[.int .i64 (x.1 : Int), tv x.2.k x.2.n x.2.s (.slice x.2.a x.2.m x.2.c)] W fun e W' =>
      (e = .returned (.bool true) ∧ J (pre ++ [x]) W' ∧ KpB Bs n₀ W W') ∨ (e = .returned (.bool false) ∧ Jx (pre ++ [x]) W'))
    (W : World) (hBs : Boxed W Bs 27 (.slice (some ⟨b, o, none⟩) ds.length cap)) (hc : NdsAt W b o ds) (h0 : J [] W) :
    CallsIn F n Try.prog 153 #[.func (.yield l) #[] #[], .pointer (some ⟨Bs, 0, none⟩)] W fun e W' => (∃ v, e = .returned v) ∧
      ((∃ ys, ys = upto (backF ds) ds.length ∧ J ys W') ∨ (∃ pre, (∃ k, k ≤ ds.length ∧ pre = upto (backF ds) k) ∧ Jx pre W')) := by
  refine callsIn_of_wp Try.func153 rfl hF ?_ hro
  simp only [Try.ntmps153, List.size_toArray, List.length_cons, List.length_nil, Nat.reduceAdd, Nat.reduceSub, Array.replicate_succ, Array.replicate_zero, List.push_toArray, List.append_toArray, List.nil_append, List.cons_append]
  have hbc := hBs.cell
  gi_wp2
  gi_loopw [3] (fun i wr => ∃ q : Nat, q ≤ ds.length ∧ i = .int .i64 ((q : Int) - 1) ∧ J (upto (backF ds) (ds.length - q)) wr ∧ KpB Bs n₀ W wr)
    (fun i _ => (intOf i + 1).toNat)
  case atStart => exact ⟨ds.length, Nat.le_refl _, rfl, by rw [Nat.sub_self]; exact h0, KpB.refl _ _ _⟩
  case round =>
    obtain ⟨q, hq, rfl, hJs, hnx⟩ := hrel
    cases q with
    | succ p =>
      obtain ⟨d, hd⟩ : ∃ d, ds[p]? = some d := ⟨_, List.getElem?_eq_getElem (by omega)⟩
      obtain ⟨d0, d1, d2, d3⟩ := (hc.below hnx.1 hb) p d hd
      have hbx := (hnx.2 _ hBs).cell
      obtain ⟨fn, tmps, assign, body, hy, hR⟩ := hY _ (p, d) wr hJs (by rw [upto_length]; omega)
      dsimp only at hy
      have e1 : (((p + 1 : Nat) : Int) - 1) = (p : Int) := by omega
      rw [e1]
      have hpl : p < ds.length := by omega
      have hnext := back_next ds p d hd
      have HNX := Lib.hid hnext; clear hnext
      have HD := Lib.hid hd; clear hd
      gi_wp2
      refine hR.mono ?_
      rintro e W3 (⟨rfl, hJ3, hk3⟩ | ⟨rfl, hJx3⟩)
      · gi_wp2
        go_roundw
        case rel => exact ⟨p, by omega, rfl, by rw [HNX.out]; exact hJ3, hnx.trans hk3⟩
        case measure => simp [intOf]
      · gi_wp2
        refine bodyPost_ret (results_none rfl _ _ _) rfl ?_
        exact ⟨⟨_, rfl⟩, .inr ⟨_, ⟨ds.length - p, by omega, HNX.out.symm⟩, hJx3⟩⟩
    | zero =>
      gi_wp2
      go_end0
      exact ⟨⟨_, rfl⟩, .inl ⟨_, by simp, hJs⟩⟩

set_option maxRecDepth 100000 in
set_option maxHeartbeats 1000000 in
/-- .. over no term: no round. -/
theorem back0_in (F : Fence) (n : Nat) (hF : F.fn 153) (hro : F.round = none) (l Bs : Nat) (a : Option Addr) (cap : Nat) (J : List (Nat × Nd) → World → Prop) (W : World) (hBs : Boxed W Bs 27 (.slice a 0 cap)) (h0 : J [] W) :
    CallsIn F n Try.prog 153 #[.func (.yield l) #[] #[], .pointer (some ⟨Bs, 0, none⟩)] W fun e W' => (∃ v, e = .returned v) ∧ J [] W' := by
  refine callsIn_of_wp Try.func153 rfl hF ?_ hro
  simp only [Try.ntmps153, List.size_toArray, List.length_cons, List.length_nil, Nat.reduceAdd, Nat.reduceSub, Array.replicate_succ, Array.replicate_zero, List.push_toArray, List.append_toArray, List.nil_append, List.cons_append]
  have hbc := hBs.cell
  gi_wp2
  gi_loopw [3] (fun i wr => i = .int .i64 (-1) ∧ J [] wr) (fun _ _ => 0)
  case atStart => exact ⟨rfl, h0⟩
  case round =>
    obtain ⟨rfl, hJs⟩ := hrel
    gi_wp2
    go_end0
    exact ⟨⟨_, rfl⟩, hJs⟩

set_option maxHeartbeats 1000000 in
/-- slices.Backward(s): the slice value is boxed; the function value captures the box. -/
theorem backward_in (F : Fence) (n : Nat) (hF : F.fn 134) (hro : F.round = none) (a : Option Addr) (len cap : Nat) (w : World) :
    CallsIn F n Try.prog 134 #[.slice a len cap] w fun e w' =>
      e = .returned (.func (.func 153) #[] #[.pointer (some ⟨w.heap.size, 0, none⟩)]) ∧ w' = w.alloc (.cells #[.slice a len cap] 27) := by
  refine callsIn_of_wp Try.func134 rfl hF ?_ hro
  simp only [Try.ntmps134, List.size_toArray, List.length_cons, List.length_nil, Nat.reduceAdd, Nat.reduceSub, Array.replicate_succ, Array.replicate_zero, List.push_toArray, List.append_toArray, List.nil_append, List.cons_append]
  gi_wp2
  go_ret
  exact ⟨rfl, rfl⟩

/-- A slice value holds the nodes ds, in a block below n₀; or there are none. -/
def NdsIn (n₀ : Nat) (W : World) (v : Value) (ds : List Nd) : Prop := (∃ a cap, v = .slice a 0 cap ∧ ds = []) ∨ ∃ b o cap, v = .slice (some ⟨b, o, none⟩) ds.length cap ∧ b < n₀ ∧ NdsAt W b o ds

/-- The iterator hands out all nodes, from the last to the first; or a part of them. -/
theorem back_stops (F : Fence) (n : Nat) (hF : F.fn 153) (hro : F.round = none) (hn : 1 ≤ n) (Bs n₀ : Nat) (sv : Value) (ds : List Nd) (hlen : ds.length ≤ 1048576) (w : World) (hn₀ : n₀ ≤ w.heap.size)
    (hBs : Boxed w Bs 27 sv) (hI : NdsIn n₀ w sv ds) :
    SeqStopsK F n Try.prog 153 #[.pointer (some ⟨Bs, 0, none⟩)] (fun x : Nat × Nd => #[Value.int .i64 (x.1 : Int), tv x.2.k x.2.n x.2.s (.slice x.2.a x.2.m x.2.c)]) (KpB Bs n₀)
      (fun ys => ys = upto (backF ds) ds.length) (fun pre => ∃ k, k ≤ ds.length ∧ pre = upto (backF ds) k) ds.length w := fun l J Jx W hW _ _ hY h0 => by
  have hB' : Boxed W Bs 27 sv := (hW.block Bs hBs.lt).trans hBs
  rcases hI with ⟨a, cap, rfl, rfl⟩ | ⟨b, o, cap, rfl, hb, hcs⟩
  · exact (back0_in F n hF hro l Bs a cap J W hB' h0).mono fun e W' ⟨he, hj⟩ => ⟨he, .inl ⟨_, rfl, hj⟩⟩
  · exact back1_in F n hF hro hn l Bs n₀ b o cap ds hlen hb J Jx hY W hB' (hcs.below (hW.mono hn₀) hb) h0
theorem kpB_b {Bs n₀ : Nat} {w : World} (hn : n₀ ≤ w.heap.size) (hs : Bs < w.heap.size) (W : World) (l : Nat) (o o' : Obj) (hl : w.heap.size ≤ l) (h : W.heap[l]? = some o) (h1 : o.isCells = false) (h2 : o.isWalk = false) : KpB Bs n₀ W (W.putObj l o') :=
  ⟨belowK_b hn W l o o' hl h h1 h2, fun v hv => hv.kept (grownBy_putObj' W l o') (fun e => by cases e; omega)⟩
theorem NdsIn.below {n₀ : Nat} {A B : World} {v : Value} {ds : List Nd} (k : NdsIn n₀ A v ds) (h : Below n₀ A B) : NdsIn n₀ B v ds := by
  rcases k with h0 | ⟨b, o, cap, rfl, hb, hc⟩
  · exact Or.inl h0
  · exact Or.inr ⟨b, o, cap, rfl, hb, hc.below h hb⟩
end Go.Proofs.Yteelakhaaipebaa
namespace Go.Proofs.Yteelakhaaipebaa
open Go.RowKit Go.Shelf

attribute [local go_sem] Oper.semAt_some

set_option maxRecDepth 100000 in
set_option maxHeartbeats 2000000 in
theorem back1_inS (F : Fence) (n : Nat) (hF : F.fn 153) (hro : F.round = none) (hn : 1 ≤ n) (l Bs n₀ b o cap : Nat) (ds : List Nd) (hlen : ds.length ≤ 1048576) (hb : b < n₀) (J Jx : List (Nat × Nd) → World → Prop)
    (hY : ∀ pre x W, ds[x.1]? = some x.2 → J pre W → pre.length < ds.length → YieldAt F (n - 1) Try.prog l #[.int .i64 (x.1 : Int), tv x.2.k x.2.n x.2.s (.slice x.2.a x.2.m x.2.c)] W fun e W' =>
      (e = .returned (.bool true) ∧ J (pre ++ [x]) W' ∧ KpB Bs n₀ W W') ∨ (e = .returned (.bool false) ∧ Jx (pre ++ [x]) W'))
    (W : World) (hBs : Boxed W Bs 27 (.slice (some ⟨b, o, none⟩) ds.length cap)) (hc : NdsAt W b o ds) (h0 : J [] W) :
    CallsIn F n Try.prog 153 #[.func (.yield l) #[] #[], .pointer (some ⟨Bs, 0, none⟩)] W fun e W' => (∃ v, e = .returned v) ∧
      ((∃ ys, ys = upto (backF ds) ds.length ∧ J ys W') ∨ (∃ pre, (∃ k, k ≤ ds.length ∧ pre = upto (backF ds) k) ∧ Jx pre W')) := by
  refine callsIn_of_wp Try.func153 rfl hF ?_ hro
  simp only [Try.ntmps153, List.size_toArray, List.length_cons, List.length_nil, Nat.reduceAdd, Nat.reduceSub, Array.replicate_succ, Array.replicate_zero, List.push_toArray, List.append_toArray, List.nil_append, List.cons_append]
  have hbc := hBs.cell
  gi_wp2
  gi_loopw [3] (fun i wr => ∃ q : Nat, q ≤ ds.length ∧ i = .int .i64 ((q : Int) - 1) ∧ J (upto (backF ds) (ds.length - q)) wr ∧ KpB Bs n₀ W wr)
    (fun i _ => (intOf i + 1).toNat)
  case atStart => exact ⟨ds.length, Nat.le_refl _, rfl, by rw [Nat.sub_self]; exact h0, KpB.refl _ _ _⟩
  case round =>
    obtain ⟨q, hq, rfl, hJs, hnx⟩ := hrel
    cases q with
    | succ p =>
      obtain ⟨d, hd⟩ : ∃ d, ds[p]? = some d := ⟨_, List.getElem?_eq_getElem (by omega)⟩
      obtain ⟨d0, d1, d2, d3⟩ := (hc.below hnx.1 hb) p d hd
      have hbx := (hnx.2 _ hBs).cell
      obtain ⟨fn, tmps, assign, body, hy, hR⟩ := hY _ (p, d) wr hd hJs (by rw [upto_length]; omega)
      dsimp only at hy
      have e1 : (((p + 1 : Nat) : Int) - 1) = (p : Int) := by omega
      rw [e1]
      have hpl : p < ds.length := by omega
      have hnext := back_next ds p d hd
      have HNX := Lib.hid hnext; clear hnext
      have HD := Lib.hid hd; clear hd
      gi_wp2
      refine hR.mono ?_
      rintro e W3 (⟨rfl, hJ3, hk3⟩ | ⟨rfl, hJx3⟩)
      · gi_wp2
        go_roundw
        case rel => exact ⟨p, by omega, rfl, by rw [HNX.out]; exact hJ3, hnx.trans hk3⟩
        case measure => simp [intOf]
      · gi_wp2
        refine bodyPost_ret (results_none rfl _ _ _) rfl ?_
        exact ⟨⟨_, rfl⟩, .inr ⟨_, ⟨ds.length - p, by omega, HNX.out.symm⟩, hJx3⟩⟩
    | zero =>
      gi_wp2
      go_end0
      exact ⟨⟨_, rfl⟩, .inl ⟨_, by simp, hJs⟩⟩


/-- An index and its node. -/
abbrev DsI (ds : List Nd) := { x : Nat × Nd // ds[x.1]? = some x.2 }

/-- The iterator hands out all nodes, from the last to the first, each with its index. -/
theorem back_stopsS (F : Fence) (n : Nat) (hF : F.fn 153) (hro : F.round = none) (hn : 1 ≤ n) (Bs n₀ : Nat) (sv : Value) (ds : List Nd) (hlen : ds.length ≤ 1048576) (w : World) (hn₀ : n₀ ≤ w.heap.size)
    (hBs : Boxed w Bs 27 sv) (hI : NdsIn n₀ w sv ds) :
    SeqStopsK F n Try.prog 153 #[.pointer (some ⟨Bs, 0, none⟩)] (fun x : DsI ds => #[Value.int .i64 (x.1.1 : Int), tv x.1.2.k x.1.2.n x.1.2.s (.slice x.1.2.a x.1.2.m x.1.2.c)]) (KpB Bs n₀)
      (fun ys => ys.map Subtype.val = upto (backF ds) ds.length) (fun pre => ∃ k, k ≤ ds.length ∧ pre.map Subtype.val = upto (backF ds) k) ds.length w := fun l J Jx W hW _ _ hY h0 => by
  have hB' : Boxed W Bs 27 sv := (hW.block Bs hBs.lt).trans hBs
  rcases hI with ⟨a, cap, rfl, rfl⟩ | ⟨b, o, cap, rfl, hb, hcs⟩
  · exact (back0_in F n hF hro l Bs a cap (fun pre W => pre = [] ∧ J [] W) W hB' ⟨rfl, h0⟩).mono fun e W' ⟨he, _, hj⟩ => ⟨he, .inl ⟨[], rfl, hj⟩⟩
  · refine (back1_inS F n hF hro hn l Bs n₀ b o cap ds hlen hb (fun pre W => ∃ pre' : List (DsI ds), pre'.map Subtype.val = pre ∧ J pre' W) (fun pre W => ∃ pre' : List (DsI ds), pre'.map Subtype.val = pre ∧ Jx pre' W) (fun pre x W hx hj hl => ?_) W hB' (hcs.below (hW.mono hn₀) hb) ⟨[], rfl, h0⟩).mono fun e W' ⟨he, hj⟩ => ⟨he, ?_⟩
    · obtain ⟨pre', rfl, hj⟩ := hj
      obtain ⟨fn, tmps, assign, body, hy, hR⟩ := hY pre' ⟨x, hx⟩ W hj (by simpa using hl)
      refine ⟨fn, tmps, assign, body, hy, hR.mono fun e W' h => ?_⟩
      rcases h with ⟨h1, h2, h3⟩ | ⟨h1, h2⟩
      · exact Or.inl ⟨h1, ⟨pre' ++ [⟨x, hx⟩], by simp, h2⟩, h3⟩
      · exact Or.inr ⟨h1, ⟨pre' ++ [⟨x, hx⟩], by simp, h2⟩⟩
    · rcases hj with ⟨ys, rfl, ys', h1, h2⟩ | ⟨pre, ⟨k, hk, rfl⟩, pre', h1, h2⟩
      · exact .inl ⟨ys', h1, h2⟩
      · exact .inr ⟨pre', ⟨k, hk, h1⟩, h2⟩
end Go.Proofs.Yteelakhaaipebaa
