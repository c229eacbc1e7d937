/-
  spec.l3Vars adds the names of a term's variables to a list, in the order of the text; spec.VarsOfTerm sorts them; spec.IsGround tells whether there are none.
-/
import Derived.Test.YtbechogdijkgjaaTermFold
import Derived.Test.YtbechogdijkgjaaSortS
import Derived.Maps.AppendAt
namespace Go.Proofs.Ytbechogdijkgjaa
open Go.RowKit

/-- The names of the variables of a term, as they come. -/
def vT : T → List ByteArray
  | .node k _ s xs => (if k = 1 then [s] else []) ++ (xs.map vT).flatten
def vS (xs : List T) : List ByteArray := (xs.map vT).flatten
theorem vS_snoc (l : List T) (t : T) : vS (l ++ [t]) = vS l ++ vT t := by simp [vS]
theorem vT_node (k n : Int) (s : ByteArray) (xs : List T) : vT (.node k n s xs) = (if k = 1 then [s] else []) ++ vS xs := by rw [vT]; rfl
theorem vS_of (xs : List T) (h : ∀ x ∈ xs, (vT x).length ≤ cT x) : (vS xs).length ≤ cS xs := by
  induction xs with
  | nil => simp [vS, cS]
  | cons x r ih =>
    have h1 := h x (by simp)
    have h2 := ih (fun y hy => h y (by simp [hy]))
    simp only [vS, cS, List.map_cons, List.flatten_cons, List.sum_cons, List.length_append] at *
    omega
theorem vT_le : ∀ t : T, (vT t).length ≤ cT t
  | .node k n s xs => by
    have h := vS_of xs (fun x _ => vT_le x)
    rw [vT_node, cT_node, List.length_append]
    split <;> simp <;> omega
theorem vS_le (xs : List T) : (vS xs).length ≤ cS xs := vS_of xs (fun x _ => vT_le x)
theorem cT_at (ts : List T) (k : Nat) (t : T) (h : ts[k]? = some t) : cS (ts.take k) + cT t ≤ cS ts := by
  have h1 := cS_take ts (k + 1)
  rw [tk ts k t h, cS_snoc] at h1
  exact h1

/-- The list lies where it lay, or in memory that is new since w and beyond its next block. -/
def Reach (u : Value) (w : World) (c : Value) : Prop := c.ownBlock = u.ownBlock ∨ ∃ j, c.ownBlock = some j ∧ w.heap.size < j
theorem Reach.next {u c c' : Value} {w wr : World} (h : Reach u w c) (k : c'.ownBlock = c.ownBlock ∨ ∃ j, c'.ownBlock = some j ∧ wr.heap.size ≤ j) (hw : w.heap.size < wr.heap.size) : Reach u w c' := by
  rcases k with k | ⟨j, k1, k2⟩
  · rcases h with h | ⟨i, h1, h2⟩
    · exact Or.inl (k.trans h)
    · exact Or.inr ⟨i, k.trans h1, h2⟩
  · exact Or.inr ⟨j, k1, by omega⟩
theorem Reach.off {u c : Value} {w : World} (h : Reach u w c) (hu : ∀ j, u.ownBlock = some j → j < w.heap.size) : some w.heap.size ≠ c.ownBlock := by
  intro e
  rcases h with h | ⟨j, h1, h2⟩
  · have := hu w.heap.size (by rw [← h, ← e]); omega
  · rw [h1] at e; cases e; omega
theorem grown_comp {w wr w1 : World} {r r2 : Option Nat} (h : w.grownBy wr r) (k : wr.grownBy w1 r2) (hr : r2 = r ∨ ∃ j, r2 = some j ∧ w.heap.size ≤ j) : w.grownBy w1 r :=
  ⟨k.os.trans h.os, k.tape.trans h.tape, k.output.trans h.output, Nat.le_trans h.size k.size, fun i hi hne => (k.block i (Nat.lt_of_lt_of_le hi h.size) (fun e => by
    rcases hr with hr | ⟨j, h1, h2⟩
    · exact hne (e.trans hr)
    · rw [h1] at e; cases e; omega)).trans (h.block i hi hne)⟩
theorem cell_one_at (w : World) (x : Value) (t : TypeId) {n : Nat} (h : n = w.heap.size) : ∀ j u, [x][j]? = some u → (w.alloc (.cells #[x] t)).cell? ((⟨n, 0, none⟩ : Addr).add j) = some u := by
  subst h; exact cell_one_new w x t
theorem lt_all {w : World} {B n size : Nat} {e : TypeId} {v : Value} {xs : List Value} (h : w.ownsRow B e size v n xs) : ∀ j, v.ownBlock = some j → j < w.heap.size := fun j hj => (h.lt j hj).2

/-- A call that answers whether X holds and leaves what was there. -/
def TellsB2 (X : Prop) (w : World) (e : Ending) (w' : World) : Prop := ∃ b, e = .returned (.bool b) ∧ (b = true ↔ X) ∧ Below w.heap.size w w'

def VarsEnd (B : Nat) (u : Value) (ps : List ByteArray) (w : World) (e : Ending) (w' : World) : Prop :=
  ∃ u', e = .returned u' ∧ w'.ownsRow B 9 1 u' ps.length (ps.map Value.string) ∧ w.grownBy w' u.ownBlock ∧ (u'.ownBlock = u.ownBlock ∨ ∃ j, u'.ownBlock = some j ∧ w.heap.size ≤ j)

def VarsAt (lo h : Nat) : Prop := ∀ (v : Value) (t : T) (B : Nat) (u : Value) (ps : List ByteArray) (w0 w : World), TermAt w0 lo h v t → wT t ≤ 1048576 → ps.length + cT t ≤ 4194304 →
  w.ownsRow B 9 1 u ps.length (ps.map Value.string) → w0.heap.size ≤ B → Below w0.heap.size w0 w → B ≤ w.heap.size →
  Calls Try.prog 49 #[v, u] w (VarsEnd B u (ps ++ vT t) w)

set_option maxRecDepth 100000 in
set_option maxHeartbeats 1000000 in
theorem sVars_step (lo h : Nat) (IH : ∀ h', h = h' + 1 → VarsAt lo h') : VarsAt lo h := by
  intro v t B u ps w0 w ht hw hpc hu hB hbw hBw
  obtain ⟨i0, hi, hz0, hz1, hz2⟩ := info_parts infoStr'
  have HI := Lib.hid hi; clear hi
  have HZ0 := Lib.hid hz0; clear hz0
  have HZ1 := Lib.hid hz1; clear hz1
  have HZ2 := Lib.hid hz2; clear hz2
  obtain ⟨kk, nn, s, uu, xs, rfl, rfl, hs, ha⟩ := ht
  obtain ⟨a, cap, rfl⟩ := ha.slice
  have HA := Lib.hid ha; clear ha
  have HW : Hid (xs.length + wS xs ≤ 1048576) := Lib.hid (by rw [wT_node] at hw; omega)
  have HPC0 : Hid (ps.length + (1 + cS xs) ≤ 4194304) := Lib.hid (by rw [cT_node] at hpc; exact hpc)
  have hpl : ps.length ≤ 4194304 := by omega
  clear hw hs hpc
  obtain ⟨m, hm⟩ : ∃ m, m = xs.length := ⟨_, rfl⟩
  have hml : m ≤ 1048576 := by have := HW.out; omega
  rw [← hm] at HA ⊢
  have HM := Lib.hid hm; clear hm
  have HIH := Lib.hid IH; clear IH
  have HU := Lib.hid hu; clear hu
  have HB := Lib.hid hbw; clear hbw
  have hga : w.grownBy (boxed w kk nn s (.slice a m cap)) u.ownBlock := World.grownBy_alloc w _ _
  have hcb := (boxed_cells (Below.refl (boxed w kk nn s (.slice a m cap)).heap.size (boxed w kk nn s (.slice a m cap)))).2.2.2
  have HGA := Lib.hid hga; clear hga
  have HCA := Lib.hid hcb; clear hcb
  by_cases hk1 : kk = 1
  · subst hk1
    have HVN : Hid (ps ++ vT (.node 1 nn s xs) = (ps ++ [s]) ++ vS xs) := Lib.hid (by rw [vT_node]; simp)
    go_enter Try.func49, Try.ntmps49
    go_wp2_with (first | (at_builtin; refine wpList_append_own_at _ rfl (.tmp 9) (.tmp 12) 29 rfl B 9 i0 (.string ByteArray.empty) 1 16 Try.underlying29 HI.out HZ0.out HZ1.out HZ2.out rfl (by decide) _ _ _ rfl ((HU.out.alloc _).alloc _) ⟨w.heap.size + 1, 0, none⟩ 1 1 [.string s] rfl rfl ?c1 ?c2 (by unfold maxLen; omega) (by omega) ?c5 ?_))
    case c1 => first | exact cell_one_at _ _ _ (by simp) | (trace_state; exact foo)
    case c2 => intro q hq; simp at hq; subst hq; rfl
    case c5 => simp; omega
    intro u0 w1 ho1 hg1 _ hl1
    obtain ⟨ps0, hps0⟩ : ∃ ps0, ps0 = ps ++ [s] := ⟨_, rfl⟩
    rw [← hps0] at HVN
    have HPC : Hid (ps0.length + cS xs ≤ 4194304) := Lib.hid (by have := HPC0.out; rw [hps0, List.length_append]; simp; omega)
    have HOX : Hid (w1.ownsRow B 9 1 u0 ps0.length (ps0.map Value.string)) := Lib.hid (by rw [hps0]; simpa using ho1)
    have HG0 : Hid (w.grownBy w1 u.ownBlock) := Lib.hid (grown_trans (World.grownBy_alloc w _ _) (grown_trans (World.grownBy_alloc _ _ _) hg1))
    have HRE : Hid (Reach u w u0) := Lib.hid (hl1.imp id (fun h => ⟨_, h, by first | omega | (simp; omega) | simp⟩))
    have HCB : Hid (w1.cell? ⟨w.heap.size, 3, none⟩ = some (.slice a m cap)) := Lib.hid (hg1.cell (by
      rw [((Below.refl (boxed w 1 nn s (.slice a m cap)).heap.size (boxed w 1 nn s (.slice a m cap))).alloc (Nat.le_refl _) _).cell (by simp)]
      exact HCA.out) (fun e => by have := lt_all HU.out w.heap.size e.symm; omega))
    have hws : w.heap.size < w1.heap.size := by have := hg1.size; simp at this; omega
    clear ho1 hg1 hl1 hps0
    go_wp2
    go_loopw [1, 5] (fun cc i wr => ∃ (c : Value) (k : Nat), c = cc ∧ k ≤ m ∧ i = .int .i64 k ∧ Hid (wr.ownsRow B 9 1 c (ps0 ++ vS (xs.take k)).length ((ps0 ++ vS (xs.take k)).map Value.string)) ∧ Hid (w.grownBy wr u.ownBlock) ∧ Hid (Reach u w c) ∧ Hid (wr.cell? ⟨w.heap.size, 3, none⟩ = some (.slice a m cap)) ∧ w.heap.size < wr.heap.size) (fun _ i _ => m - (intOf i).toNat)
    case atStart => exact ⟨_, 0, rfl, Nat.zero_le _, rfl, Lib.hid (by simpa [vS] using HOX.out), HG0, HRE, HCB, hws⟩
    case round =>
      obtain ⟨c, k, rfl, hk, rfl, HO, HG, HR, HC, hwr⟩ := hrel
      have cb := HC.out
      by_cases hlt : k < m
      · obtain ⟨t, ht⟩ : ∃ t, xs[k]? = some t := ⟨_, List.getElem?_eq_getElem (by have := HM.out; omega)⟩
        have hbr : Below w0.heap.size w0 wr := HB.out.grown HG.out HB.out.size (fun j hj => Nat.le_trans hB (HU.out.lt j hj).1)
        obtain ⟨h', b, o, tk', tn, tsn, txs, u', e, rfl, rfl, hsz, c0, c1, c2, c3, har⟩ := HA.out.at ht
        have d0 := cell_on hbr c0
        have d1 := cell_on hbr c1
        have d2 := cell_on hbr c2
        have d3 := cell_on hbr c3
        clear c0 c1 c2 c3
        have hwt := wT_at xs k _ ht
        have hcs := cT_at xs k _ ht
        have hvl := vS_le (xs.take k)
        have HCALL := Lib.hid (HIH.out h' e _ _ B c (ps0 ++ vS (xs.take k)) w0 wr ⟨tk', tn, tsn, u', txs, rfl, rfl, hsz, har⟩ (by have := HW.out; omega) (by have := HPC.out; rw [List.length_append]; omega) HO.out hB hbr (by have := HB.out.size; have := hBw; omega))
        have HVS : Hid (ps0 ++ vS (xs.take (k + 1)) = ps0 ++ vS (xs.take k) ++ vT (.node tk' tn tsn txs)) := Lib.hid (by rw [tk xs k _ ht, vS_snoc, List.append_assoc])
        clear hwt hcs hvl ht har hsz e hbr
        go_wp2_with fail
        refine HCALL.out.mono ?_
        rintro e w1 ⟨c', rfl, ho1, hg1, hr1⟩
        have HO1 := Lib.hid ho1; clear ho1
        have HG1 := Lib.hid (grown_comp HG.out hg1 (HR.out.imp id (fun ⟨j, h1, h2⟩ => ⟨j, h1, by omega⟩)))
        have HR1 := Lib.hid (HR.out.next hr1 hwr)
        have HC1 := Lib.hid (hg1.cell HC.out (by exact HR.out.off (lt_all HU.out)))
        have hs1 : w.heap.size < w1.heap.size := Nat.lt_of_lt_of_le hwr hg1.size
        clear hg1 hr1
        go_wp2
        go_roundw
        case rel => exact ⟨_, k + 1, rfl, by omega, by go_num, Lib.hid (by rw [HVS.out]; exact HO1.out), HG1, HR1, HC1, hs1⟩
        case measure => simp [intOf]; omega
      · have HD : Hid (vS (xs.take k) = vS xs) := Lib.hid (by
          have hkn : k = xs.length := by have := HM.out; omega
          rw [hkn, List.take_length])
        go_wp2
        go_ret
        refine ⟨_, rfl, ?_, HG.out, HR.out.imp id (fun ⟨j, h1, h2⟩ => ⟨j, h1, by omega⟩)⟩
        have h1 := HO.out
        rw [HD.out] at h1
        rw [HVN.out]
        exact h1
  · have hk1' : (kk == 1) = false := by rw [beq_eq_false_iff_ne]; exact hk1
    have HVN : Hid (ps ++ vT (.node kk nn s xs) = ps ++ vS xs) := Lib.hid (by rw [vT_node, if_neg hk1]; simp)
    clear hk1
    obtain ⟨ps0, hps0⟩ : ∃ ps0, ps0 = ps := ⟨_, rfl⟩
    subst hps0
    have HPC : Hid (ps0.length + cS xs ≤ 4194304) := Lib.hid (by have := HPC0.out; omega)
    have HOX := Lib.hid (HU.out.alloc (.cells #[.int .i64 kk, .int .i64 nn, .string s, .slice a m cap] 26))
    have HG0 := HGA
    have HCB := HCA
    have HRE : Hid (Reach u w u) := Lib.hid (Or.inl rfl)
    have hws : w.heap.size < (boxed w kk nn s (.slice a m cap)).heap.size := by simp
    go_enter Try.func49, Try.ntmps49
    go_wp2
    go_loopw [1, 5] (fun cc i wr => ∃ (c : Value) (k : Nat), c = cc ∧ k ≤ m ∧ i = .int .i64 k ∧ Hid (wr.ownsRow B 9 1 c (ps0 ++ vS (xs.take k)).length ((ps0 ++ vS (xs.take k)).map Value.string)) ∧ Hid (w.grownBy wr u.ownBlock) ∧ Hid (Reach u w c) ∧ Hid (wr.cell? ⟨w.heap.size, 3, none⟩ = some (.slice a m cap)) ∧ w.heap.size < wr.heap.size) (fun _ i _ => m - (intOf i).toNat)
    case atStart => exact ⟨_, 0, rfl, Nat.zero_le _, rfl, Lib.hid (by simpa [vS] using HOX.out), HG0, HRE, HCB, hws⟩
    case round =>
      obtain ⟨c, k, rfl, hk, rfl, HO, HG, HR, HC, hwr⟩ := hrel
      have cb := HC.out
      by_cases hlt : k < m
      · obtain ⟨t, ht⟩ : ∃ t, xs[k]? = some t := ⟨_, List.getElem?_eq_getElem (by have := HM.out; omega)⟩
        have hbr : Below w0.heap.size w0 wr := HB.out.grown HG.out HB.out.size (fun j hj => Nat.le_trans hB (HU.out.lt j hj).1)
        obtain ⟨h', b, o, tk', tn, tsn, txs, u', e, rfl, rfl, hsz, c0, c1, c2, c3, har⟩ := HA.out.at ht
        have d0 := cell_on hbr c0
        have d1 := cell_on hbr c1
        have d2 := cell_on hbr c2
        have d3 := cell_on hbr c3
        clear c0 c1 c2 c3
        have hwt := wT_at xs k _ ht
        have hcs := cT_at xs k _ ht
        have hvl := vS_le (xs.take k)
        have HCALL := Lib.hid (HIH.out h' e _ _ B c (ps0 ++ vS (xs.take k)) w0 wr ⟨tk', tn, tsn, u', txs, rfl, rfl, hsz, har⟩ (by have := HW.out; omega) (by have := HPC.out; rw [List.length_append]; omega) HO.out hB hbr (by have := HB.out.size; have := hBw; omega))
        have HVS : Hid (ps0 ++ vS (xs.take (k + 1)) = ps0 ++ vS (xs.take k) ++ vT (.node tk' tn tsn txs)) := Lib.hid (by rw [tk xs k _ ht, vS_snoc, List.append_assoc])
        clear hwt hcs hvl ht har hsz e hbr
        go_wp2_with fail
        refine HCALL.out.mono ?_
        rintro e w1 ⟨c', rfl, ho1, hg1, hr1⟩
        have HO1 := Lib.hid ho1; clear ho1
        have HG1 := Lib.hid (grown_comp HG.out hg1 (HR.out.imp id (fun ⟨j, h1, h2⟩ => ⟨j, h1, by omega⟩)))
        have HR1 := Lib.hid (HR.out.next hr1 hwr)
        have HC1 := Lib.hid (hg1.cell HC.out (by exact HR.out.off (lt_all HU.out)))
        have hs1 : w.heap.size < w1.heap.size := Nat.lt_of_lt_of_le hwr hg1.size
        clear hg1 hr1
        go_wp2
        go_roundw
        case rel => exact ⟨_, k + 1, rfl, by omega, by go_num, Lib.hid (by rw [HVS.out]; exact HO1.out), HG1, HR1, HC1, hs1⟩
        case measure => simp [intOf]; omega
      · have HD : Hid (vS (xs.take k) = vS xs) := Lib.hid (by
          have hkn : k = xs.length := by have := HM.out; omega
          rw [hkn, List.take_length])
        go_wp2
        go_ret
        refine ⟨_, rfl, ?_, HG.out, HR.out.imp id (fun ⟨j, h1, h2⟩ => ⟨j, h1, by omega⟩)⟩
        have h1 := HO.out
        rw [HD.out] at h1
        rw [HVN.out]
        exact h1

theorem sVars_any (lo : Nat) (h : Nat) : VarsAt lo h := by_height (sVars_step lo) h

/-- A term of a call that is in a block of its own: its names in a new list. -/
theorem varsNew {lo h : Nat} {w : World} {k n : Int} {s : ByteArray} {u : Value} {t : T} (ht : TermAt w lo h (tv k n s u) t) (hw : wT t ≤ 1048576) :
    Calls Try.prog 49 #[tv k n s u, .slice (some ⟨w.heap.size + 1, 0, none⟩) 0 0] ((boxed w k n s u).alloc (.cells #[] 9)) (fun e w' => ∃ u', e = .returned u' ∧ w'.ownsRow w.heap.size 9 1 u' (vT t).length ((vT t).map Value.string) ∧ Below w.heap.size w w') := by
  have hb : Below w.heap.size w ((boxed w k n s u).alloc (.cells #[] 9)) := (boxed_below w k n s u).alloc (by simp) _
  have ho := World.ownsRow_lit (base := w.heap.size) (size := 1) (e := 9) (boxed w k n s u) #[] 0 (by simp) (by decide) rfl
  have hsz : (boxed w k n s u).heap.size = w.heap.size + 1 := by simp
  have hc := sVars_any lo h _ t w.heap.size (.slice (some ⟨w.heap.size + 1, 0, none⟩) 0 0) [] w ((boxed w k n s u).alloc (.cells #[] 9)) ht hw (by have := cT_le t; simp; omega) (by rw [hsz] at ho; exact ho) (Nat.le_refl _) hb (by simp; omega)
  refine hc.mono fun e w' ⟨u', he, hown, hg, _⟩ => ⟨u', he, by simpa using hown, ?_⟩
  exact hb.grown hg (by simp; omega) (fun j hj => by simp [Value.ownBlock] at hj; omega)

theorem vT_short {t : T} (hw : wT t ≤ 1048576) : (vT t).length ≤ 1048577 := by have := vT_le t; have := cT_le t; omega

set_option maxRecDepth 100000 in
set_option maxHeartbeats 800000 in
theorem sVarsOf_any (v : Value) (t : T) (lo h : Nat) (w : World) (ht : TermAt w lo h v t) (hw : wT t ≤ 1048576) :
    Calls Try.prog 22 #[v] w (SortEnd (vT t) w) := by
  obtain ⟨kk, nn, s, u, xs, rfl, et, hs, ha⟩ := id ht
  clear et hs ha xs
  have HC := Lib.hid (varsNew ht hw)
  have HVL := Lib.hid (vT_short hw)
  go_enter Try.func22, Try.ntmps22
  go_wp2_with fail
  refine HC.out.mono ?_
  rintro e w1 ⟨u1, rfl, ho1, hb1⟩
  have HO1 := Lib.hid ho1; clear ho1
  have HB1 := Lib.hid hb1; clear hb1
  go_wp2_with fail
  refine (sSort_any u1 (vT t) _ (by have := HVL.out; omega) (StrsAt.of_owns HO1.out)).mono ?_
  rintro e w2 ⟨u2, rs, rfl, hs2, hl2, ho2, hb2⟩
  have HS2 := Lib.hid hs2; clear hs2
  have HO2 := Lib.hid (own_low ho2 HB1.out.size); clear ho2
  have HB2 := Lib.hid (HB1.out.trans (hb2.mono HB1.out.size)); clear hb2
  go_wp2
  go_ret
  exact ⟨u2, rs, rfl, HS2.out, hl2, HO2.out, HB2.out⟩

set_option maxRecDepth 100000 in
set_option maxHeartbeats 800000 in
theorem sGround_any (v : Value) (t : T) (lo h : Nat) (w : World) (ht : TermAt w lo h v t) (hw : wT t ≤ 1048576) :
    Calls Try.prog 38 #[v] w (TellsB2 (vT t = []) w) := by
  obtain ⟨kk, nn, s, u, xs, rfl, et, hs, ha⟩ := id ht
  clear et hs ha xs
  have HC := Lib.hid (varsNew ht hw)
  go_enter Try.func38, Try.ntmps38
  go_wp2_with fail
  refine HC.out.mono ?_
  rintro e w1 ⟨u1, rfl, ho1, hb1⟩
  obtain ⟨a1, c1, hu1⟩ : ∃ a c, u1 = .slice a (vT t).length c := by
    rcases ho1.2 with ⟨rfl, h0⟩ | ⟨g, cp, cur, rfl, _⟩
    · exact ⟨none, 0, by rw [h0]⟩
    · exact ⟨_, cp, rfl⟩
  subst hu1
  have HB1 := Lib.hid hb1; clear hb1 ho1
  go_wp2
  go_ret
  refine ⟨_, rfl, ?_, HB1.out⟩
  rw [beq_iff_eq]
  constructor
  · intro h; exact List.eq_nil_of_length_eq_zero (by omega)
  · intro h; rw [h]; rfl
end Go.Proofs.Ytbechogdijkgjaa

