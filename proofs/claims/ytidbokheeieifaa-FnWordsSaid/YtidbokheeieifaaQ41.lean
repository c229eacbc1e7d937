/-
  spec.l3Vars adds the names of a term's variables to a list, in the order of the text; spec.VarsOfTerm sorts them; spec.IsGround tells whether there are none.
  impl.VarsOfTerm, level by level, returns the names of a term's variables, sorted; impl.IsGround tells whether there are none.
  What the laws on guards share: a guard in its box. No walk.
  laws.heldTermS and laws.heldTerm find the marks that were written.
  laws.markGuard writes numbered marks over both sides of a guard that is a call's own; laws.heldGuard reads them.
  What the laws on functions that return a guard share. No walk.
-/
import Derived.Test.YtidbokheeieifaaQ39
import Derived.Test.YtidbokheeieifaaQ40
import Derived.Test.YtidbokheeieifaaQ30
import Derived.Test.YtidbokheeieifaaQ20
import Derived.Test.YtidbokheeieifaaQ12
import Derived.Test.YtidbokheeieifaaQ9
import Derived.Maps.AppendAt
import Derived.Deep.RegionHeld3
namespace Go.Proofs.Ytidbokheeieifaa
open Go.RowKit

/-- The names of the variables of a term, as they come. -/
def vT : T → List ByteArray
  | .node k _ s xs => (if k = 1 then [s] else []) ++ (xs.map vT).flatten
def vS (xs : List T) : List ByteArray := (xs.map vT).flatten
theorem vS_snoc (l : List T) (t : T) : vS (l ++ [t]) = vS l ++ vT t := by simp [vS]
theorem vT_node (k n : Int) (s : ByteArray) (xs : List T) : vT (.node k n s xs) = (if k = 1 then [s] else []) ++ vS xs := by rw [vT]; rfl
theorem vS_of (xs : List T) (h : ∀ x ∈ xs, (vT x).length ≤ cT x) : (vS xs).length ≤ cS xs := by
  induction xs with
  | nil => simp [vS, cS]
  | cons x r ih =>
    have h1 := h x (by simp)
    have h2 := ih (fun y hy => h y (by simp [hy]))
    simp only [vS, cS, List.map_cons, List.flatten_cons, List.sum_cons, List.length_append] at *
    omega
theorem vT_le : ∀ t : T, (vT t).length ≤ cT t
  | .node k n s xs => by
    have h := vS_of xs (fun x _ => vT_le x)
    rw [vT_node, cT_node, List.length_append]
    split <;> simp <;> omega
theorem vS_le (xs : List T) : (vS xs).length ≤ cS xs := vS_of xs (fun x _ => vT_le x)
theorem cT_at (ts : List T) (k : Nat) (t : T) (h : ts[k]? = some t) : cS (ts.take k) + cT t ≤ cS ts := by
  have h1 := cS_take ts (k + 1)
  rw [tk ts k t h, cS_snoc] at h1
  exact h1

theorem len_cSv : ∀ xs : List T, xs.length ≤ cS xs
  | [] => by simp [cS]
  | x :: xs => by
    have h1 := len_cSv xs
    have h2 : 1 ≤ cT x := by obtain ⟨k, n, s, ys⟩ := x; rw [cT_node]; omega
    simp only [cS, List.map_cons, List.sum_cons, List.length_cons] at *
    omega

/-- The list lies where it lay, or in memory that is new since w and beyond its next block. -/
def Reach (u : Value) (w : World) (c : Value) : Prop := c.ownBlock = u.ownBlock ∨ ∃ j, c.ownBlock = some j ∧ w.heap.size < j
theorem Reach.next {u c c' : Value} {w wr : World} (h : Reach u w c) (k : c'.ownBlock = c.ownBlock ∨ ∃ j, c'.ownBlock = some j ∧ wr.heap.size ≤ j) (hw : w.heap.size < wr.heap.size) : Reach u w c' := by
  rcases k with k | ⟨j, k1, k2⟩
  · rcases h with h | ⟨i, h1, h2⟩
    · exact Or.inl (k.trans h)
    · exact Or.inr ⟨i, k.trans h1, h2⟩
  · exact Or.inr ⟨j, k1, by omega⟩
theorem Reach.off {u c : Value} {w : World} (h : Reach u w c) (hu : ∀ j, u.ownBlock = some j → j < w.heap.size) : some w.heap.size ≠ c.ownBlock := by
  intro e
  rcases h with h | ⟨j, h1, h2⟩
  · have := hu w.heap.size (by rw [← h, ← e]); omega
  · rw [h1] at e; cases e; omega
theorem grown_comp {w wr w1 : World} {r r2 : Option Nat} (h : w.grownBy wr r) (k : wr.grownBy w1 r2) (hr : r2 = r ∨ ∃ j, r2 = some j ∧ w.heap.size ≤ j) : w.grownBy w1 r :=
  ⟨k.os.trans h.os, k.tape.trans h.tape, k.output.trans h.output, Nat.le_trans h.size k.size, fun i hi hne => (k.block i (Nat.lt_of_lt_of_le hi h.size) (fun e => by
    rcases hr with hr | ⟨j, h1, h2⟩
    · exact hne (e.trans hr)
    · rw [h1] at e; cases e; omega)).trans (h.block i hi hne)⟩
theorem cell_one_at (w : World) (x : Value) (t : TypeId) {n : Nat} (h : n = w.heap.size) : ∀ j u, [x][j]? = some u → (w.alloc (.cells #[x] t)).cell? ((⟨n, 0, none⟩ : Addr).add j) = some u := by
  subst h; exact cell_one_new w x t
theorem lt_all {w : World} {B n size : Nat} {e : TypeId} {v : Value} {xs : List Value} (h : w.ownsRow B e size v n xs) : ∀ j, v.ownBlock = some j → j < w.heap.size := fun j hj => (h.lt j hj).2

/-- A call that answers whether X holds and leaves what was there. -/
def TellsB2 (X : Prop) (w : World) (e : Ending) (w' : World) : Prop := ∃ b, e = .returned (.bool b) ∧ (b = true ↔ X) ∧ Below w.heap.size w w'

def VarsEnd (B : Nat) (u : Value) (ps : List ByteArray) (w : World) (e : Ending) (w' : World) : Prop :=
  ∃ u', e = .returned u' ∧ w'.ownsRow B 9 1 u' ps.length (ps.map Value.string) ∧ w.grownBy w' u.ownBlock ∧ (u'.ownBlock = u.ownBlock ∨ ∃ j, u'.ownBlock = some j ∧ w.heap.size ≤ j)

def VarsAt (lo h : Nat) : Prop := ∀ (v : Value) (t : T) (B : Nat) (u : Value) (ps : List ByteArray) (w0 w : World), TermAt w0 lo h v t → cT t ≤ 4294967296 → ps.length + cT t ≤ 4294967296 →
  w.ownsRow B 9 1 u ps.length (ps.map Value.string) → w0.heap.size ≤ B → Below w0.heap.size w0 w → B ≤ w.heap.size →
  Calls Try.prog 67 #[v, u] w (VarsEnd B u (ps ++ vT t) w)

set_option maxRecDepth 100000 in
set_option maxHeartbeats 1000000 in
theorem sVars_step (lo h : Nat) (IH : ∀ h', h = h' + 1 → VarsAt lo h') : VarsAt lo h := by
  intro v t B u ps w0 w ht hw hpc hu hB hbw hBw
  obtain ⟨i0, hi, hz0, hz1, hz2⟩ := info_parts infoStr'
  have HI := Lib.hid hi; clear hi
  have HZ0 := Lib.hid hz0; clear hz0
  have HZ1 := Lib.hid hz1; clear hz1
  have HZ2 := Lib.hid hz2; clear hz2
  obtain ⟨kk, nn, s, uu, xs, rfl, rfl, hs, ha⟩ := ht
  obtain ⟨a, cap, rfl⟩ := ha.slice
  have HA := Lib.hid ha; clear ha
  have HW : Hid (1 + cS xs ≤ 4294967296 ∧ xs.length ≤ cS xs) := Lib.hid ⟨by rw [cT_node] at hw; exact hw, len_cSv xs⟩
  have HPC0 : Hid (ps.length + (1 + cS xs) ≤ 4294967296) := Lib.hid (by rw [cT_node] at hpc; exact hpc)
  have hpl : ps.length ≤ 4294967296 := by omega
  clear hw hs hpc
  obtain ⟨m, hm⟩ : ∃ m, m = xs.length := ⟨_, rfl⟩
  have hml : m ≤ 4294967296 := by have := HW.out; omega
  rw [← hm] at HA ⊢
  have HM := Lib.hid hm; clear hm
  have HIH := Lib.hid IH; clear IH
  have HU := Lib.hid hu; clear hu
  have HB := Lib.hid hbw; clear hbw
  have hga : w.grownBy (boxed w kk nn s (.slice a m cap)) u.ownBlock := World.grownBy_alloc w _ _
  have hcb := (boxed_cells (Below.refl (boxed w kk nn s (.slice a m cap)).heap.size (boxed w kk nn s (.slice a m cap)))).2.2.2
  have HGA := Lib.hid hga; clear hga
  have HCA := Lib.hid hcb; clear hcb
  by_cases hk1 : kk = 1
  · subst hk1
    have HVN : Hid (ps ++ vT (.node 1 nn s xs) = (ps ++ [s]) ++ vS xs) := Lib.hid (by rw [vT_node]; simp)
    go_enter Try.func67, Try.ntmps67
    go_wp2_with (first | (at_builtin; refine wpList_append_own_at _ rfl (.tmp 9) (.tmp 12) 35 rfl B 9 i0 (.string ByteArray.empty) 1 16 Try.underlying35 HI.out HZ0.out HZ1.out HZ2.out rfl (by decide) _ _ _ rfl ((HU.out.alloc _).alloc _) ⟨w.heap.size + 1, 0, none⟩ 1 1 [.string s] rfl rfl ?c1 ?c2 (by unfold maxLen; omega) (by omega) ?c5 ?_))
    case c1 => first | exact cell_one_at _ _ _ (by simp) | (trace_state; exact foo)
    case c2 => intro q hq; simp at hq; subst hq; rfl
    case c5 => simp; omega
    intro u0 w1 ho1 hg1 _ hl1
    obtain ⟨ps0, hps0⟩ : ∃ ps0, ps0 = ps ++ [s] := ⟨_, rfl⟩
    rw [← hps0] at HVN
    have HPC : Hid (ps0.length + cS xs ≤ 4294967296) := Lib.hid (by have := HPC0.out; rw [hps0, List.length_append]; simp; omega)
    have HOX : Hid (w1.ownsRow B 9 1 u0 ps0.length (ps0.map Value.string)) := Lib.hid (by rw [hps0]; simpa using ho1)
    have HG0 : Hid (w.grownBy w1 u.ownBlock) := Lib.hid (grown_trans (World.grownBy_alloc w _ _) (grown_trans (World.grownBy_alloc _ _ _) hg1))
    have HRE : Hid (Reach u w u0) := Lib.hid (hl1.imp id (fun h => ⟨_, h, by first | omega | (simp; omega) | simp⟩))
    have HCB : Hid (w1.cell? ⟨w.heap.size, 3, none⟩ = some (.slice a m cap)) := Lib.hid (hg1.cell (by
      rw [((Below.refl (boxed w 1 nn s (.slice a m cap)).heap.size (boxed w 1 nn s (.slice a m cap))).alloc (Nat.le_refl _) _).cell (by simp)]
      exact HCA.out) (fun e => by have := lt_all HU.out w.heap.size e.symm; omega))
    have hws : w.heap.size < w1.heap.size := by have := hg1.size; simp at this; omega
    clear ho1 hg1 hl1 hps0
    go_wp2
    go_loopw [1, 5] (fun cc i wr => ∃ (c : Value) (k : Nat), c = cc ∧ k ≤ m ∧ i = .int .i64 k ∧ Hid (wr.ownsRow B 9 1 c (ps0 ++ vS (xs.take k)).length ((ps0 ++ vS (xs.take k)).map Value.string)) ∧ Hid (w.grownBy wr u.ownBlock) ∧ Hid (Reach u w c) ∧ Hid (wr.cell? ⟨w.heap.size, 3, none⟩ = some (.slice a m cap)) ∧ w.heap.size < wr.heap.size) (fun _ i _ => m - (intOf i).toNat)
    case atStart => exact ⟨_, 0, rfl, Nat.zero_le _, rfl, Lib.hid (by simpa [vS] using HOX.out), HG0, HRE, HCB, hws⟩
    case round =>
      obtain ⟨c, k, rfl, hk, rfl, HO, HG, HR, HC, hwr⟩ := hrel
      have cb := HC.out
      by_cases hlt : k < m
      · obtain ⟨t, ht⟩ : ∃ t, xs[k]? = some t := ⟨_, List.getElem?_eq_getElem (by have := HM.out; omega)⟩
        have hbr : Below w0.heap.size w0 wr := HB.out.grown HG.out HB.out.size (fun j hj => Nat.le_trans hB (HU.out.lt j hj).1)
        obtain ⟨h', b, o, tk', tn, tsn, txs, u', e, rfl, rfl, hsz, c0, c1, c2, c3, har⟩ := HA.out.at ht
        have d0 := cell_on hbr c0
        have d1 := cell_on hbr c1
        have d2 := cell_on hbr c2
        have d3 := cell_on hbr c3
        clear c0 c1 c2 c3
        have hwt := cT_at xs k _ ht
        have hcs := cT_at xs k _ ht
        have hvl := vS_le (xs.take k)
        have HCALL := Lib.hid (HIH.out h' e _ _ B c (ps0 ++ vS (xs.take k)) w0 wr ⟨tk', tn, tsn, u', txs, rfl, rfl, hsz, har⟩ (by have := HW.out; omega) (by have := HPC.out; rw [List.length_append]; omega) HO.out hB hbr (by have := HB.out.size; have := hBw; omega))
        have HVS : Hid (ps0 ++ vS (xs.take (k + 1)) = ps0 ++ vS (xs.take k) ++ vT (.node tk' tn tsn txs)) := Lib.hid (by rw [tk xs k _ ht, vS_snoc, List.append_assoc])
        clear hwt hcs hvl ht har hsz e hbr
        go_wp2_with fail
        refine HCALL.out.mono ?_
        rintro e w1 ⟨c', rfl, ho1, hg1, hr1⟩
        have HO1 := Lib.hid ho1; clear ho1
        have HG1 := Lib.hid (grown_comp HG.out hg1 (HR.out.imp id (fun ⟨j, h1, h2⟩ => ⟨j, h1, by omega⟩)))
        have HR1 := Lib.hid (HR.out.next hr1 hwr)
        have HC1 := Lib.hid (hg1.cell HC.out (by exact HR.out.off (lt_all HU.out)))
        have hs1 : w.heap.size < w1.heap.size := Nat.lt_of_lt_of_le hwr hg1.size
        clear hg1 hr1
        go_wp2
        go_roundw
        case rel => exact ⟨_, k + 1, rfl, by omega, by go_num, Lib.hid (by rw [HVS.out]; exact HO1.out), HG1, HR1, HC1, hs1⟩
        case measure => simp [intOf]; omega
      · have HD : Hid (vS (xs.take k) = vS xs) := Lib.hid (by
          have hkn : k = xs.length := by have := HM.out; omega
          rw [hkn, List.take_length])
        go_wp2
        go_ret
        refine ⟨_, rfl, ?_, HG.out, HR.out.imp id (fun ⟨j, h1, h2⟩ => ⟨j, h1, by omega⟩)⟩
        have h1 := HO.out
        rw [HD.out] at h1
        rw [HVN.out]
        exact h1
  · have hk1' : (kk == 1) = false := by rw [beq_eq_false_iff_ne]; exact hk1
    have HVN : Hid (ps ++ vT (.node kk nn s xs) = ps ++ vS xs) := Lib.hid (by rw [vT_node, if_neg hk1]; simp)
    clear hk1
    obtain ⟨ps0, hps0⟩ : ∃ ps0, ps0 = ps := ⟨_, rfl⟩
    subst hps0
    have HPC : Hid (ps0.length + cS xs ≤ 4294967296) := Lib.hid (by have := HPC0.out; omega)
    have HOX := Lib.hid (HU.out.alloc (.cells #[.int .i64 kk, .int .i64 nn, .string s, .slice a m cap] 26))
    have HG0 := HGA
    have HCB := HCA
    have HRE : Hid (Reach u w u) := Lib.hid (Or.inl rfl)
    have hws : w.heap.size < (boxed w kk nn s (.slice a m cap)).heap.size := by simp
    go_enter Try.func67, Try.ntmps67
    go_wp2
    go_loopw [1, 5] (fun cc i wr => ∃ (c : Value) (k : Nat), c = cc ∧ k ≤ m ∧ i = .int .i64 k ∧ Hid (wr.ownsRow B 9 1 c (ps0 ++ vS (xs.take k)).length ((ps0 ++ vS (xs.take k)).map Value.string)) ∧ Hid (w.grownBy wr u.ownBlock) ∧ Hid (Reach u w c) ∧ Hid (wr.cell? ⟨w.heap.size, 3, none⟩ = some (.slice a m cap)) ∧ w.heap.size < wr.heap.size) (fun _ i _ => m - (intOf i).toNat)
    case atStart => exact ⟨_, 0, rfl, Nat.zero_le _, rfl, Lib.hid (by simpa [vS] using HOX.out), HG0, HRE, HCB, hws⟩
    case round =>
      obtain ⟨c, k, rfl, hk, rfl, HO, HG, HR, HC, hwr⟩ := hrel
      have cb := HC.out
      by_cases hlt : k < m
      · obtain ⟨t, ht⟩ : ∃ t, xs[k]? = some t := ⟨_, List.getElem?_eq_getElem (by have := HM.out; omega)⟩
        have hbr : Below w0.heap.size w0 wr := HB.out.grown HG.out HB.out.size (fun j hj => Nat.le_trans hB (HU.out.lt j hj).1)
        obtain ⟨h', b, o, tk', tn, tsn, txs, u', e, rfl, rfl, hsz, c0, c1, c2, c3, har⟩ := HA.out.at ht
        have d0 := cell_on hbr c0
        have d1 := cell_on hbr c1
        have d2 := cell_on hbr c2
        have d3 := cell_on hbr c3
        clear c0 c1 c2 c3
        have hwt := cT_at xs k _ ht
        have hcs := cT_at xs k _ ht
        have hvl := vS_le (xs.take k)
        have HCALL := Lib.hid (HIH.out h' e _ _ B c (ps0 ++ vS (xs.take k)) w0 wr ⟨tk', tn, tsn, u', txs, rfl, rfl, hsz, har⟩ (by have := HW.out; omega) (by have := HPC.out; rw [List.length_append]; omega) HO.out hB hbr (by have := HB.out.size; have := hBw; omega))
        have HVS : Hid (ps0 ++ vS (xs.take (k + 1)) = ps0 ++ vS (xs.take k) ++ vT (.node tk' tn tsn txs)) := Lib.hid (by rw [tk xs k _ ht, vS_snoc, List.append_assoc])
        clear hwt hcs hvl ht har hsz e hbr
        go_wp2_with fail
        refine HCALL.out.mono ?_
        rintro e w1 ⟨c', rfl, ho1, hg1, hr1⟩
        have HO1 := Lib.hid ho1; clear ho1
        have HG1 := Lib.hid (grown_comp HG.out hg1 (HR.out.imp id (fun ⟨j, h1, h2⟩ => ⟨j, h1, by omega⟩)))
        have HR1 := Lib.hid (HR.out.next hr1 hwr)
        have HC1 := Lib.hid (hg1.cell HC.out (by exact HR.out.off (lt_all HU.out)))
        have hs1 : w.heap.size < w1.heap.size := Nat.lt_of_lt_of_le hwr hg1.size
        clear hg1 hr1
        go_wp2
        go_roundw
        case rel => exact ⟨_, k + 1, rfl, by omega, by go_num, Lib.hid (by rw [HVS.out]; exact HO1.out), HG1, HR1, HC1, hs1⟩
        case measure => simp [intOf]; omega
      · have HD : Hid (vS (xs.take k) = vS xs) := Lib.hid (by
          have hkn : k = xs.length := by have := HM.out; omega
          rw [hkn, List.take_length])
        go_wp2
        go_ret
        refine ⟨_, rfl, ?_, HG.out, HR.out.imp id (fun ⟨j, h1, h2⟩ => ⟨j, h1, by omega⟩)⟩
        have h1 := HO.out
        rw [HD.out] at h1
        rw [HVN.out]
        exact h1

theorem sVars_any (lo : Nat) (h : Nat) : VarsAt lo h := by_height (sVars_step lo) h

/-- A term of a call that is in a block of its own: its names in a new list. -/
theorem varsNew {lo h : Nat} {w : World} {k n : Int} {s : ByteArray} {u : Value} {t : T} (ht : TermAt w lo h (tv k n s u) t) (hw : cT t ≤ 4294967296) :
    Calls Try.prog 67 #[tv k n s u, .slice (some ⟨w.heap.size + 1, 0, none⟩) 0 0] ((boxed w k n s u).alloc (.cells #[] 9)) (fun e w' => ∃ u', e = .returned u' ∧ w'.ownsRow w.heap.size 9 1 u' (vT t).length ((vT t).map Value.string) ∧ Below w.heap.size w w') := by
  have hb : Below w.heap.size w ((boxed w k n s u).alloc (.cells #[] 9)) := (boxed_below w k n s u).alloc (by simp) _
  have ho := World.ownsRow_lit (base := w.heap.size) (size := 1) (e := 9) (boxed w k n s u) #[] 0 (by simp) (by decide) rfl
  have hsz : (boxed w k n s u).heap.size = w.heap.size + 1 := by simp
  have hc := sVars_any lo h _ t w.heap.size (.slice (some ⟨w.heap.size + 1, 0, none⟩) 0 0) [] w ((boxed w k n s u).alloc (.cells #[] 9)) ht hw (by simp; omega) (by rw [hsz] at ho; exact ho) (Nat.le_refl _) hb (by simp; omega)
  refine hc.mono fun e w' ⟨u', he, hown, hg, _⟩ => ⟨u', he, by simpa using hown, ?_⟩
  exact hb.grown hg (by simp; omega) (fun j hj => by simp [Value.ownBlock] at hj; omega)

theorem vT_short {t : T} (hw : wT t ≤ 1048576) : (vT t).length ≤ 1048577 := by have := vT_le t; have := cT_le t; omega

set_option maxRecDepth 100000 in
set_option maxHeartbeats 800000 in
theorem sVarsOf_anyK (v : Value) (t : T) (lo h : Nat) (w : World) (ht : TermAt w lo h v t) (hw : cT t ≤ 4294967296) :
    Calls Try.prog 87 #[v] w (SortEnd (vT t) w) := by
  obtain ⟨kk, nn, s, u, xs, rfl, et, hs, ha⟩ := id ht
  clear et hs ha xs
  have HC := Lib.hid (varsNew ht hw)
  have HVL := Lib.hid (vT_le t)
  go_enter Try.func87, Try.ntmps87
  go_wp2_with fail
  refine HC.out.mono ?_
  rintro e w1 ⟨u1, rfl, ho1, hb1⟩
  have HO1 := Lib.hid ho1; clear ho1
  have HB1 := Lib.hid hb1; clear hb1
  go_wp2_with fail
  refine (sSort_any u1 (vT t) _ (by have := HVL.out; omega) (StrsAt.of_owns HO1.out)).mono ?_
  rintro e w2 ⟨u2, rs, rfl, hs2, hl2, ho2, hb2⟩
  have HS2 := Lib.hid hs2; clear hs2
  have HO2 := Lib.hid (own_low ho2 HB1.out.size); clear ho2
  have HB2 := Lib.hid (HB1.out.trans (hb2.mono HB1.out.size)); clear hb2
  go_wp2
  go_ret
  exact ⟨u2, rs, rfl, HS2.out, hl2, HO2.out, HB2.out⟩

theorem sVarsOf_any (v : Value) (t : T) (lo h : Nat) (w : World) (ht : TermAt w lo h v t) (hw : wT t ≤ 1048576) :
    Calls Try.prog 87 #[v] w (SortEnd (vT t) w) := sVarsOf_anyK v t lo h w ht (by have := cT_le t; omega)

set_option maxRecDepth 100000 in
set_option maxHeartbeats 800000 in
theorem sGround_any (v : Value) (t : T) (lo h : Nat) (w : World) (ht : TermAt w lo h v t) (hw : wT t ≤ 1048576) :
    Calls Try.prog 18 #[v] w (TellsB2 (vT t = []) w) := by
  obtain ⟨kk, nn, s, u, xs, rfl, et, hs, ha⟩ := id ht
  clear et hs ha xs
  have HC := Lib.hid (varsNew ht (by have := cT_le t; omega))
  go_enter Try.func18, Try.ntmps18
  go_wp2_with fail
  refine HC.out.mono ?_
  rintro e w1 ⟨u1, rfl, ho1, hb1⟩
  obtain ⟨a1, c1, hu1⟩ : ∃ a c, u1 = .slice a (vT t).length c := by
    rcases ho1.2 with ⟨rfl, h0⟩ | ⟨g, cp, cur, rfl, _⟩
    · exact ⟨none, 0, by rw [h0]⟩
    · exact ⟨_, cp, rfl⟩
  subst hu1
  have HB1 := Lib.hid hb1; clear hb1 ho1
  go_wp2
  go_ret
  refine ⟨_, rfl, ?_, HB1.out⟩
  rw [beq_iff_eq]
  constructor
  · intro h; exact List.eq_nil_of_length_eq_zero (by omega)
  · intro h; rw [h]; rfl
end Go.Proofs.Ytidbokheeieifaa
namespace Go.Proofs.Ytidbokheeieifaa
open Go.RowKit

/-- The names that a node or a level adds. -/
def vN : T → List ByteArray
  | .node k _ s _ => if k = 1 then [s] else []
def vL (ts : List T) : List ByteArray := ts.flatMap vN
theorem vT_N (t : T) : vT t = vN t ++ vS (kT t) := by
  obtain ⟨k, n, s, xs⟩ := t
  rw [vT_node]; rfl
theorem vS_cons (t : T) (l : List T) : vS (t :: l) = vT t ++ vS l := by simp [vS]
theorem vS_app (l m : List T) : vS (l ++ m) = vS l ++ vS m := by simp [vS]
theorem vL_snoc (l : List T) (t : T) : vL (l ++ [t]) = vL l ++ vN t := by simp [vL]
theorem vN_le (t : T) : (vN t).length ≤ 1 := by
  obtain ⟨k, n, s, xs⟩ := t
  show (if k = 1 then [s] else []).length ≤ 1
  split <;> simp
theorem vS_kids (ts : List T) : List.Perm (vS ts) (vL ts ++ vS (kids ts)) := by
  induction ts with
  | nil => simp [vS, vL, kids]
  | cons t l ih =>
    have e : kids (t :: l) = kT t ++ kids l := by simp [kids]
    have e2 : vL (t :: l) = vN t ++ vL l := by simp [vL]
    rw [e, e2, vS_cons, vS_app, vT_N, List.append_assoc, List.append_assoc]
    refine List.Perm.append_left _ ?_
    refine (List.Perm.append_left _ ih).trans ?_
    rw [← List.append_assoc, ← List.append_assoc]
    exact List.Perm.append_right _ List.perm_append_comm
theorem vL_len (ts : List T) : (vL ts).length ≤ ts.length := by
  induction ts with
  | nil => simp [vL]
  | cons t l ih =>
    have e2 : vL (t :: l) = vN t ++ vL l := by simp [vL]
    have := vN_le t
    rw [e2, List.length_append, List.length_cons]; omega
theorem vL_take (ts : List T) (k : Nat) : (vL (ts.take k)).length ≤ k := by
  have := vL_len (ts.take k)
  rw [List.length_take] at this
  omega

/-- Names that are owned and short. -/
def NamesOwn (B : Nat) (w : World) (v : Value) (ps : List ByteArray) : Prop := w.ownsRow B 9 1 v ps.length (ps.map Value.string) ∧ ∀ p ∈ ps, p.size ≤ maxLen
theorem infoStrV : (Try.prog.info? 9).map (fun i => (i.zero, i.size, i.bytes)) = some (some (.string ByteArray.empty), 1, 16) := by kernel_rfl

theorem first_own (w : World) {lo h : Nat} {k n : Int} {s : ByteArray} {a : Option Addr} {m cap : Nat} {xs : List T} (hs : s.size ≤ maxLen) (ha : ArgsAt w lo h (.slice a m cap) xs) :
    LvlOwn w.heap.size w ((boxed w k n s (.slice a m cap)).alloc (.cells #[.int .i64 k, .int .i64 n, .string s, .slice a m cap] 26)) (.slice (some ⟨w.heap.size + 1, 0, none⟩) 1 1) [.node k n s xs] := by
  refine ⟨h, [.int .i64 k, .int .i64 n, .string s, .slice a m cap], ⟨a, m, cap, [], rfl, hs, ha.low (Nat.zero_le _), rfl⟩, ?_⟩
  have hbs : (boxed w k n s (.slice a m cap)).heap.size = w.heap.size + 1 := by simp
  rw [← hbs]
  exact World.ownsRow_lit (boxed w k n s (.slice a m cap)) #[.int .i64 k, .int .i64 n, .string s, .slice a m cap] 1 (by simp) (by simp [maxLen]) rfl

/-- A node of another kind is no variable. -/
theorem form_other (k n : Int) (s : ByteArray) (u : Value) (w : World) (h1 : k ≠ 1) :
    Calls Try.prog 140 #[tv k n s u] w (fun e w' => ∃ ty x, e = .returned (.iface ty x) ∧ w' = boxed w k n s u ∧ ∀ W, (Instr.typeAssert (.iface ty x) 201 198 true).run Try.prog W = .ok (.tuple #[.agg #[.string ByteArray.empty], .bool false]) W) := by
  by_cases h2 : k = 2
  · subst h2
    exact (form2_any n s u w).mono fun e w' ⟨e1, e2⟩ => ⟨_, _, e1, e2, asOV _⟩
  · by_cases h3 : k = 3
    · subst h3
      exact (form3_any n s u w).mono fun e w' ⟨e1, e2⟩ => ⟨_, _, e1, e2, asWV _⟩
    · exact (form0_any k n s u w h1 h2 h3).mono fun e w' ⟨e1, e2⟩ => ⟨_, _, e1, e2, asUV _⟩

set_option maxRecDepth 100000 in
set_option maxHeartbeats 3200000 in
theorem varsT_anyK (v : Value) (t : T) (lo h : Nat) (w : World) (ht : TermAt w lo h v t) (hw : cT t ≤ 4294967296) :
    Calls Try.prog 114 #[v] w (SortEnd (vT t) w) := by
  obtain ⟨k, n, s, u, xs, rfl, rfl, hs, ha⟩ := ht
  obtain ⟨a, cap, rfl⟩ := ha.slice
  obtain ⟨i0, hi, hz0, hz1, hz2⟩ := info_parts infoStrV
  have HI := Lib.hid hi; clear hi
  have HZ0 := Lib.hid hz0; clear hz0
  have HZ1 := Lib.hid hz1; clear hz1
  have HZ2 := Lib.hid hz2; clear hz2
  have hcb : cT (.node k n s xs) ≤ 4294967296 := hw
  have HL := Lib.hid (first_own w (k := k) (n := n) hs ha)
  have HB0 : Hid (Below w.heap.size w ((boxed w k n s (.slice a xs.length cap)).alloc (.cells #[.int .i64 k, .int .i64 n, .string s, .slice a xs.length cap] 26))) := Lib.hid ((boxed_below w k n s _).trans ((boxed_below _ k n s _).mono (boxed_below w k n s _).size))
  obtain ⟨t0, ht0⟩ : ∃ t0, t0 = T.node k n s xs := ⟨_, rfl⟩
  rw [← ht0] at HL hcb ⊢
  have HCB := Lib.hid hcb
  have HP0 : Hid (List.Perm ([] ++ vS [t0]) (vT t0) ∧ 0 + cS [t0] ≤ 4294967296) := Lib.hid ⟨by simp [vS], by rw [single_c]; omega⟩
  have HN0 : Hid (NamesOwn w.heap.size ((boxed w k n s (.slice a xs.length cap)).alloc (.cells #[.int .i64 k, .int .i64 n, .string s, .slice a xs.length cap] 26)) (.slice none 0 0) []) := Lib.hid ⟨World.ownsRow_nil _ _ _ _, by simp⟩
  clear hs ha hw ht0 hcb
  go_enter Try.func114, Try.ntmps114
  go_wp2
  go_loopg [3, 4] (cS [t0]) (fun g nv v wr => ∃ (ps : List ByteArray) (ts : List T), g = cS ts ∧ Hid (List.Perm (ps ++ vS ts) (vT t0) ∧ ps.length + cS ts ≤ 4294967296) ∧ Hid (NamesOwn w.heap.size wr nv ps) ∧ Hid (LvlOwn w.heap.size w wr v ts) ∧ Hid (Below w.heap.size w wr))
  case atStart => exact ⟨[], [t0], rfl, HP0, HN0, HL, HB0⟩
  case round =>
    obtain ⟨ps, ts, hg, HP, HN, HLV, HB⟩ := hrel
    have HG := Lib.hid hg; clear hg
    obtain ⟨_, _, la, lc, rfl, _⟩ := HLV.out.at
    obtain ⟨m, hm⟩ : ∃ m, m = ts.length := ⟨_, rfl⟩
    rw [← hm] at HLV
    have HM := Lib.hid hm
    have hmb : m ≤ 4294967296 := by have := HP.out.2; have := len_le_cS ts; omega
    by_cases h0 : 0 < m
    · rw [← hm]
      clear hm
      go_wp2
      go_loopw [3, 18] (fun nv' i wi => ∃ q : Nat, q ≤ m ∧ i = .int .i64 q ∧ Hid (NamesOwn w.heap.size wi nv' (ps ++ vL (ts.take q))) ∧ Hid (LvlOwn w.heap.size w wi (.slice la m lc) ts) ∧ Hid (Below w.heap.size w wi)) (fun _ i _ => m - (intOf i).toNat)
      case atStart => exact ⟨0, Nat.zero_le _, rfl, Lib.hid (by simpa [vL] using HN.out), HLV, HB⟩
      case round =>
        obtain ⟨q, hq, rfl, HNI, HLI, HBI⟩ := hrel
        by_cases hlt : q < m
        · obtain ⟨t, ht⟩ : ∃ t, ts[q]? = some t := ⟨_, List.getElem?_eq_getElem (by have := HM.out; omega)⟩
          obtain ⟨hh, ls, la', lc', e, hr, hcl⟩ := HLI.out.at
          injection e with e1 e2 e3
          rw [← e1] at hcl
          clear e1 e2 e3
          obtain ⟨b, o, kk, nn, s1, ys, a', c', rfl, rfl, hsz, d0, d1, d2, d3, har⟩ := lvl_cells hr hcl ht
          have HTT := Lib.hid ht; clear ht
          have HSZ := Lib.hid hsz; clear hsz
          have HVK : Hid (vL (ts.take (q + 1)) = vL (ts.take q) ++ vN (.node kk nn s1 ys)) := Lib.hid (by rw [tk ts q _ HTT.out, vL_snoc])
          have hln : (ps ++ vL (ts.take q)).length ≤ 4294967296 := by have := vL_take ts q; have := HP.out.2; have := len_le_cS ts; have := HM.out; rw [List.length_append]; omega
          obtain ⟨qs, hqs⟩ : ∃ qs, qs = ps ++ vL (ts.take q) := ⟨_, rfl⟩
          rw [← hqs] at hln HNI
          have HQS : Hid (ps ++ vL (ts.take (q + 1)) = qs ++ vN (.node kk nn s1 ys)) := Lib.hid (by rw [HVK.out, hqs, List.append_assoc])
          have hsh := HNI.out.2
          have HSH := Lib.hid hsh; clear hsh
          obtain ⟨n', hn'⟩ : ∃ n', n' = qs.length := ⟨_, rfl⟩
          have hno := HNI.out.1
          rw [← hn'] at hln hno
          have HN' := Lib.hid hn'
          have HNO := Lib.hid hno
          clear hr hcl har hqs hn' hno HVK HNI
          by_cases hk1 : kk = 1
          · subst hk1
            have hv := asVV
            go_wp2_with fail
            refine (form1_any _ _ _ _).mono ?_
            rintro e w1 ⟨rfl, hw1⟩
            have hb1 : Below wr.heap.size wr w1 := by rw [hw1]; exact ((Below.refl _ _).alloc (Nat.le_refl _) _).trans ((boxed_below _ _ _ _ _).mono (by simp))
            have HNO1 := Lib.hid (keep_own HNO.out hb1)
            have HL1 := Lib.hid (HLI.out.below hb1)
            have HB1 := Lib.hid (HBI.out.trans (hb1.mono HBI.out.size))
            clear hw1 hb1 d0 d1 d2 d3
            go_wp2_with (first | (at_builtin; refine wpList_append_own _ rfl (.tmp 29) (.tmp 32) 35 rfl w.heap.size 9 i0 (.string ByteArray.empty) 1 16 Try.underlying35 HI.out HZ0.out HZ1.out HZ2.out rfl (by decide) _ _ _ rfl ((HNO1.out.alloc _).alloc _) ⟨w1.heap.size + 1, 0, none⟩ 1 1 [.string s1] rfl rfl ?c1 ?c2 (by unfold maxLen; omega) (by omega) ?c5 ?_))
            case c1 => exact cell_one_at _ _ _ (by simp)
            case c2 => simp [Value.oneCell']
            case c5 => have := HB1.out.size; simp; omega
            intro v2 w2 hown2 hgr2 _
            have hbb : Below w.heap.size w ((w1.alloc (.cells #[.string s1] 198)).alloc (.cells #[.string s1] 9)) := (HB1.out.alloc HB1.out.size _).alloc (by have := HB1.out.size; simp; omega) _
            have HB2 := Lib.hid (hbb.grown hgr2 hbb.size (fun j hj => (HNO1.out.lt j hj).1))
            have HL2 : Hid (LvlOwn w.heap.size w w2 (.slice (some ⟨b, o, none⟩) m lc) ts) := Lib.hid (((HL1.out.below ((Below.refl _ _).alloc (Nat.le_refl _) _)).below ((Below.refl _ _).alloc (Nat.le_refl _) _)).other ((HNO1.out.alloc _).alloc _) (by decide) hgr2)
            have HN2 := Lib.hid hown2
            clear hgr2 hown2 hbb
            go_wp2
            go_roundw
            case rel =>
              refine ⟨q + 1, by omega, by go_num, Lib.hid ?_, HL2, HB2⟩
              rw [HQS.out, show vN (T.node 1 nn s1 ys) = [s1] from rfl]
              refine ⟨?_, ?_⟩
              · have := HN2.out
                rw [HN'.out] at this
                simpa using this
              · intro p hp
                rcases List.mem_append.1 hp with hp | hp
                · exact HSH.out p hp
                · simp at hp; subst hp; exact HSZ.out
            case measure => simp [intOf]; omega
          · have HK1 := Lib.hid hk1
            clear hk1
            go_wp2_with fail
            refine (form_other _ _ _ _ _ HK1.out).mono ?_
            rintro e w1 ⟨ty, x, rfl, hw1, has⟩
            have hb1 : Below wr.heap.size wr w1 := by rw [hw1]; exact ((Below.refl _ _).alloc (Nat.le_refl _) _).trans ((boxed_below _ _ _ _ _).mono (by simp))
            have HNO1 := Lib.hid (keep_own HNO.out hb1)
            have HL1 := Lib.hid (HLI.out.below hb1)
            have HB1 := Lib.hid (HBI.out.trans (hb1.mono HBI.out.size))
            clear hw1 hb1 d0 d1 d2 d3
            go_wp2
            go_roundw
            case rel =>
              refine ⟨q + 1, by omega, by go_num, Lib.hid ?_, Lib.hid (HL1.out.below ((Below.refl _ _).alloc (Nat.le_refl _) _)), Lib.hid (HB1.out.alloc HB1.out.size _)⟩
              have hvn : vN (T.node kk nn s1 ys) = [] := by show (if kk = 1 then [s1] else []) = []; rw [if_neg HK1.out]
              rw [HQS.out, hvn, List.append_nil]
              have := HNO1.out
              rw [HN'.out] at this
              exact ⟨this.alloc _, HSH.out⟩
            case measure => simp [intOf]; omega
        · have hqm : q = m := by omega
          rw [show ts.take q = ts from by rw [List.take_of_length_le]; have := HM.out; omega] at HNI
          subst hqm
          clear hlt
          have hk := cS_kids ts
          have HLK : Hid ((kids ts).length ≤ 4294967296) := Lib.hid (by have := HP.out.2; have := HM.out; have := len_le_cS (kids ts); omega)
          have HNX : Hid (List.Perm ((ps ++ vL ts) ++ vS (kids ts)) (vT t0) ∧ (ps ++ vL ts).length + cS (kids ts) ≤ 4294967296) := Lib.hid ⟨by rw [List.append_assoc]; exact (List.Perm.append_left _ (vS_kids ts).symm).trans HP.out.1, by rw [List.length_append]; have := vL_len ts; have := HP.out.2; omega⟩
          have HKC : Hid (cS (kids ts) < gk) := Lib.hid (by have := HG.out; have := HM.out; omega)
          clear hk
          have hqq : ¬ q < q := by omega
          go_wp2_with fail
          refine (argsOf_ownK _ ts w _ HLI.out.at HBI.out HLK.out (by have := HP.out.2; have := len_le_cS ts; omega)).mono ?_
          rintro e w1 ⟨v1, rfl, hl1, hb1⟩
          have HL1 := Lib.hid (hl1.low HBI.out.size)
          have HN1 := Lib.hid (show NamesOwn w.heap.size w1 _ (ps ++ vL ts) from ⟨keep_own HNI.out.1 hb1, HNI.out.2⟩)
          have HB1 := Lib.hid (HBI.out.trans (hb1.mono HBI.out.size))
          clear hl1 hb1
          go_wp2
          go_roundg (cS (kids ts))
          case measure => exact HKC.out
          case rel => exact ⟨_, kids ts, rfl, HNX, HN1, HL1, HB1⟩
    · have h1 : ts = [] := List.eq_nil_of_length_eq_zero (by omega)
      rw [← hm]
      have hm0 : m = 0 := by omega
      subst hm0
      clear hm
      have HPP : Hid (List.Perm ps (vT t0)) := Lib.hid (by have := HP.out.1; rw [h1] at this; simpa [vS] using this)
      have HPL : Hid (ps.length ≤ 4294967296) := Lib.hid (by have := HP.out.2; omega)
      go_wp2_with fail
      refine (iSort_any _ ps _ HPL.out HN.out.2 (StrsAt.of_owns HN.out.1)).mono ?_
      rintro e w2 ⟨u2, rs, rfl, hs2, hl2, ho2, hb2⟩
      have HS2 := Lib.hid hs2; clear hs2
      have HL2 := Lib.hid hl2; clear hl2
      have HO2 := Lib.hid (own_low ho2 HB.out.size); clear ho2
      have HB2 := Lib.hid (HB.out.trans (hb2.mono HB.out.size)); clear hb2
      go_wp2
      go_ret
      exact ⟨u2, rs, rfl, ⟨HS2.out.1, fun x => (HS2.out.2 x).trans HPP.out.mem_iff⟩, by have := HL2.out; rw [HPP.out.length_eq] at this; exact this, HO2.out, HB2.out⟩

theorem varsT_any (v : Value) (t : T) (lo h : Nat) (w : World) (ht : TermAt w lo h v t) (hw : wT t ≤ 1048576) :
    Calls Try.prog 114 #[v] w (SortEnd (vT t) w) := varsT_anyK v t lo h w ht (by have := cT_le t; omega)

set_option maxRecDepth 100000 in
set_option maxHeartbeats 800000 in
theorem groundT_any (v : Value) (t : T) (lo h : Nat) (w : World) (ht : TermAt w lo h v t) (hw : wT t ≤ 1048576) :
    Calls Try.prog 64 #[v] w (TellsB2 (vT t = []) w) := by
  obtain ⟨kk, nn, s, u, xs, rfl, et, hs, ha⟩ := id ht
  clear et hs ha xs
  have HC := Lib.hid (varsT_any _ t lo h _ (ht.below (boxed_below w kk nn s u)) hw)
  have HB := Lib.hid (boxed_below w kk nn s u)
  go_enter Try.func64, Try.ntmps64
  go_wp2_with fail
  refine HC.out.mono ?_
  rintro e w1 ⟨u1, rs, rfl, hs1, hl1, ho1, hb1⟩
  obtain ⟨a1, c1, hu1⟩ : ∃ a c, u1 = .slice a rs.length c := by
    rcases ho1.2 with ⟨rfl, h0⟩ | ⟨g, cp, cur, rfl, _⟩
    · exact ⟨none, 0, by rw [h0]⟩
    · exact ⟨_, cp, rfl⟩
  subst hu1
  have HS := Lib.hid hs1; clear hs1
  have HB1 := Lib.hid (HB.out.trans (hb1.mono HB.out.size)); clear hb1 ho1 hl1
  go_wp2
  go_ret
  refine ⟨_, rfl, ?_, HB1.out⟩
  rw [beq_iff_eq]
  constructor
  · intro h
    have hr : rs = [] := List.eq_nil_of_length_eq_zero (by omega)
    have := HS.out.2
    rw [hr] at this
    cases hv : vT t with
    | nil => rfl
    | cons x l => have := (this x).2 (by rw [hv]; simp); simp at this
  · intro h
    have := HS.out.2
    rw [h] at this
    cases hr : rs with
    | nil => rfl
    | cons x l => have := (this x).1 (by rw [hr]; simp); simp at this
end Go.Proofs.Ytidbokheeieifaa
namespace Go.Proofs.Ytidbokheeieifaa
open Go.RowKit

/-- A world with a guard in a new box. -/
def gboxed (w : World) (kd k n : Int) (s : ByteArray) (u : Value) (k' n' : Int) (s' : ByteArray) (u' : Value) : World :=
  w.alloc (.cells #[.int .i64 kd, .int .i64 k, .int .i64 n, .string s, u, .int .i64 k', .int .i64 n', .string s', u'] 31)
theorem gboxed_below (w : World) (kd k n : Int) (s : ByteArray) (u : Value) (k' n' : Int) (s' : ByteArray) (u' : Value) : Below w.heap.size w (gboxed w kd k n s u k' n' s' u') := (Below.refl _ _).alloc (Nat.le_refl _) _
@[simp] theorem gboxed_size (w : World) (kd k n : Int) (s : ByteArray) (u : Value) (k' n' : Int) (s' : ByteArray) (u' : Value) : (gboxed w kd k n s u k' n' s' u').heap.size = w.heap.size + 1 := by unfold gboxed; simp
theorem gbox_of {w1 W1 : World} {lo h : Nat} {kd k n : Int} {s : ByteArray} {u : Value} {k' n' : Int} {s' : ByteArray} {u' : Value} {xs xs' : List T} (hs : s.size ≤ maxLen ∧ s'.size ≤ maxLen) (ha : ArgsAt w1 lo h u xs) (ha' : ArgsAt w1 lo h u' xs') (ho : OwnG w1 h lo w1.heap.size u u' xs xs')
    (hW : W1 = gboxed w1 kd k n s u k' n' s' u') : GBoxO lo w1.heap.size kd k n s u k' n' s' u' h xs xs' W1 := by
  have hb : Below w1.heap.size w1 W1 := by rw [hW]; exact gboxed_below _ _ _ _ _ _ _ _ _ _
  refine ⟨⟨by rw [hW]; exact heap_new _ _ rfl, ⟨k, n, s, u, k', n', s', u', rfl, ⟨_, _, _, _, xs, rfl, rfl, hs.1, ha.below hb⟩, ⟨_, _, _, _, xs', rfl, rfl, hs.2, ha'.below hb⟩⟩⟩, ho.same fun b _ b2 => hb.block b b2⟩
theorem gd_eq {g : Gd} {l r : T} (el : g.l = l) (er : g.r = r) : g = ⟨g.kd, l, r⟩ := by cases g; simp at *; exact ⟨el, er⟩
end Go.Proofs.Ytidbokheeieifaa
namespace Go.Proofs.Ytidbokheeieifaa
open Go.RowKit

def HeldSAt (h : Nat) : Prop := ∀ (u : Value) (ts : List T) (lo k : Nat) (w : World), ArgsAt w lo h u (mkS k ts) → 1 ≤ k → k + 3 * cS ts ≤ 2305843009213693952 →
  Calls Try.prog 96 #[u, .int .i64 k] w (NumB ((k + 3 * cS ts : Nat) : Int) w)

set_option maxRecDepth 100000 in
set_option maxHeartbeats 1600000 in
theorem heldS_step (h : Nat) (IH : ∀ h', h = h' + 1 → HeldSAt h') : HeldSAt h := by
  intro u ts lo k w ha hk hkc
  obtain ⟨a, cap, rfl⟩ := ha.slice
  rw [mkS_length] at ha ⊢
  have hl : ts.length ≤ 2305843009213693952 := by have := len_cS ts; omega
  have HA := Lib.hid ha; clear ha
  have HIH := Lib.hid IH; clear IH
  have HKC := Lib.hid hkc; clear hkc
  obtain ⟨m, hm⟩ : ∃ m, m = ts.length := ⟨_, rfl⟩
  rw [← hm] at HA hl ⊢
  have HM := Lib.hid hm; clear hm
  go_enter Try.func96, Try.ntmps96
  go_wp2
  go_loopw [1, 5] (fun q i wr => ∃ (j c : Nat), j ≤ m ∧ i = .int .i64 j ∧ q = .int .i64 c ∧ Hid (c = k + 3 * cS (ts.take j)) ∧ Hid (Below w.heap.size w wr)) (fun _ i _ => m - (intOf i).toNat)
  case atStart => exact ⟨0, k, Nat.zero_le _, rfl, rfl, Lib.hid (by simp [cS]), Lib.hid (Below.refl _ _)⟩
  case round =>
    obtain ⟨j, c, hj, rfl, rfl, HC, HB⟩ := hrel
    have hcb : c ≤ 2305843009213693952 := by have := HC.out; have := cS_take ts j; have := HKC.out; omega
    have hc1 : 1 ≤ c := by have := HC.out; omega
    by_cases hlt : j < m
    · obtain ⟨t, ht⟩ : ∃ t, ts[j]? = some t := ⟨_, List.getElem?_eq_getElem (by have := HM.out; omega)⟩
      have hmk := mkS_at ts k j t ht
      obtain ⟨tk1, tn1, ts1, txs⟩ := t
      rw [← HC.out, mkT_node] at hmk
      have hct : cS (ts.take (j + 1)) = cS (ts.take j) + (1 + cS txs) := by rw [tk ts j _ ht, cS_snoc, cT_node]
      have hctl := cS_take ts (j + 1)
      have HCT := Lib.hid hct
      have hcx : c + 3 + 3 * cS txs ≤ 2305843009213693952 := by have := HC.out; have := HKC.out; omega
      obtain ⟨h', b, o, kk, nn, s, xs, u', e, rfl, en, hs, d0, d1, d2, d3, har⟩ := HA.out.at hmk
      cases en
      have c0 := cell_on HB.out d0
      have c1 := cell_on HB.out d1
      have c2 := cell_on HB.out d2
      have c3 := cell_on HB.out d3
      have HAR := Lib.hid (har.below HB.out); clear har d0 d1 d2 d3 hct hctl ht hmk hs
      obtain ⟨ua, uc, rfl⟩ := HAR.out.slice
      have hb0 : Below wr.heap.size wr wr := Below.refl _ _
      have hgw : b < wr.heap.size := World.block_lt_of_cell? wr _ c2
      have hq0 : ((c : Int) != (c : Int)) = false := by simp
      have hq1 : ((c : Int) + 1 != (c : Int) + 1) = false := by simp
      have hq2 : ((mark (c + 2)).toList == (mark (c + 2)).toList) = true := by simp
      have hcall := fun (w' : World) (hb : Below wr.heap.size wr w') => HIH.out h' e _ txs lo (c + 3) w' (HAR.out.below hb) (by omega) hcx
      rw [mkS_length] at hcall c3
      have HCALL := Lib.hid hcall; clear hcall
      have hcast : ((c : Int) + 1 + 1) = ((c + 2 : Nat) : Int) := by omega
      go_wp2
      go_region_held3 (fun w' => w'.cell? ⟨b, o + j * 4 + 2, none⟩ = some (.string (mark (c + 2))) ∧ w'.cell? ⟨b, o + j * 4 + 3, none⟩ = some (.slice ua txs.length uc) ∧ Below wr.heap.size wr w')
        (first | exact ⟨cell_on (bel_drew (by assumption)) c2, cell_on (bel_drew (by assumption)) c3, bel_drew (by assumption)⟩ | exact ⟨c2, c3, Below.drew (Below.refl _ _)⟩ | go_keep)
        (first | (go_at_call 95; refine (markText_int _ (c + 2) _ (by omega) (by omega) (by omega)).mono ?_; rintro e w1 ⟨rfl, hb1⟩))
      have hb2 : Below wr.heap.size wr w1 := bel_drew hb1
      have HB2 := Lib.hid (HB.out.trans (hb2.mono HB.out.size))
      have d3 := cell_on hb2 c3
      have hcall := HCALL.out _ hb2
      have HCX := Lib.hid hcall; clear hcall hb2 hb1 hb0
      go_wp2_with fail
      first | rw [show ((c : Int) + 3) = ((c + 3 : Nat) : Int) by omega] | rw [show ((c : Int) + 2 + 1) = ((c + 3 : Nat) : Int) by omega] | rw [show ((c : Int) + 1 + 1 + 1) = ((c + 3 : Nat) : Int) by omega]
      refine HCX.out.mono ?_
      rintro e w2 ⟨rfl, hb3⟩
      have HB3 := Lib.hid (HB2.out.trans (hb3.mono HB2.out.size)); clear hb3
      have HC4 : Hid (c + 3 + 3 * cS txs = k + 3 * cS (ts.take (j + 1))) := Lib.hid (by have := HC.out; have := HCT.out; omega)
      have hpos : ¬ ((c + 3 + 3 * cS txs : Nat) : Int) < 0 := by omega
      go_wp2
      go_roundw
      case rel => exact ⟨j + 1, c + 3 + 3 * cS txs, by omega, by go_num, rfl, HC4, HB3⟩
      case measure => simp [intOf]; omega
    · have HD : Hid (c = k + 3 * cS ts) := Lib.hid (by
        have hjm : j = ts.length := by have := HM.out; omega
        rw [HC.out, hjm, List.take_length])
      go_wp2
      go_ret
      exact ⟨by rw [← HD.out]; rfl, HB.out⟩

theorem heldS_any (h : Nat) : HeldSAt h := by_height heldS_step h

set_option maxRecDepth 100000 in
set_option maxHeartbeats 800000 in
/-- laws.heldTerm, at a term over whose arguments the marks were written. -/
theorem heldT_any (kk nn : Int) (s : ByteArray) (u : Value) (xs : List T) (lo h k : Nat) (w : World) (ha : ArgsAt w lo h u (mkS k xs)) (hk : 1 ≤ k) (hkc : k + 3 * cS xs ≤ 2305843009213693952) :
    Calls Try.prog 36 #[tv kk nn s u, .int .i64 k] w (NumB ((k + 3 * cS xs : Nat) : Int) w) := by
  have hb0 := boxed_below w kk nn s u
  have hcall := heldS_any h u xs lo k _ (ha.below hb0) hk hkc
  obtain ⟨a, cap, rfl⟩ := ha.slice
  clear ha
  have HCALL := Lib.hid hcall; clear hcall
  have HB0 := Lib.hid hb0; clear hb0
  have hpos : ¬ ((k + 3 * cS xs : Nat) : Int) < 0 := by omega
  go_enter Try.func36, Try.ntmps36
  go_wp2_with fail
  refine HCALL.out.mono ?_
  rintro e w1 ⟨rfl, hb1⟩
  have HB1 := Lib.hid (HB0.out.trans (hb1.mono HB0.out.size)); clear hb1
  go_wp2
  go_ret
  exact ⟨rfl, HB1.out⟩
end Go.Proofs.Ytidbokheeieifaa
namespace Go.Proofs.Ytidbokheeieifaa
open Go.RowKit

/-- What the marks leave. -/
def MarkG (lo hi k h : Nat) (u u' : Value) (xs xs' : List T) (w : World) (e : Ending) (w' : World) : Prop :=
  MarkOut lo hi (k + 3 * cS xs + 3 * cS xs') w e w' ∧ ArgsP (In lo hi) w' h u (mkS k xs) ∧ ArgsP (In lo hi) w' h u' (mkS (k + 3 * cS xs) xs')

set_option maxRecDepth 100000 in
set_option maxHeartbeats 1600000 in
theorem markG_any (kd kk nn : Int) (s : ByteArray) (u : Value) (k2 n2 : Int) (s2 : ByteArray) (u' : Value) (xs xs' : List T) (h lo hi k : Nat) (w : World) (ho : OwnG w h lo hi u u' xs xs') (hhi : hi ≤ w.heap.size) (hk : 1 ≤ k) (hkc : k + 3 * cS xs + 3 * cS xs' ≤ 2305843009213693952) :
    Calls Try.prog 44 #[gv kd kk nn s u k2 n2 s2 u', .int .i64 k] w (MarkG lo hi k h u u' xs xs' w) := by
  obtain ⟨l, r, l', r', h1, h2, h3, h4, h5, o1, o2⟩ := ho
  obtain ⟨W, hW⟩ : ∃ W, W = w.alloc (.cells #[.int .i64 kd, .int .i64 kk, .int .i64 nn, .string s, u, .int .i64 k2, .int .i64 n2, .string s2, u'] 31) := ⟨_, rfl⟩
  have hb : Below w.heap.size w W := by rw [hW]; exact (Below.refl _ _).alloc (Nat.le_refl _) _
  have hr : W.heap[w.heap.size]? = some (grow 31 kd kk nn s u k2 n2 s2 u') := by rw [hW]; exact heap_new _ _ rfl
  have hws : W.heap.size = w.heap.size + 1 := by rw [hW]; simp
  have HO := Lib.hid (Out.of_below (lo := lo) (hi := hi) hb)
  have HC1 := Lib.hid (markPT_any kk nn s u xs h l r k W (o1.keep fun b _ b2 => hb.block b (by omega)) (by omega) hk (by omega))
  have HC2 := Lib.hid (fun (w1 : World) (ho1 : Out l r W w1) => markPT_any k2 n2 s2 u' xs' h l' r' (k + 3 * cS xs) w1 ((o2.keep fun b _ b2 => hb.block b (by omega)).keep fun b b1 b2 => ho1.2.2.2.2 b (by omega) (by omega)) (by have := ho1.2.2.2.1; omega) (by omega) hkc)
  have HR := Lib.hid hr
  have HB := Lib.hid (And.intro h1 (And.intro h2 (And.intro h3 (And.intro h4 h5))))
  have HN := Lib.hid (And.intro hws hhi)
  obtain ⟨ua, uc, hua⟩ := o1.slice
  obtain ⟨ub, ud, hub⟩ := o2.slice
  obtain ⟨ma, hma⟩ : ∃ m, m = xs.length := ⟨_, rfl⟩
  obtain ⟨mb, hmb⟩ : ∃ m, m = xs'.length := ⟨_, rfl⟩
  rw [← hma] at hua
  rw [← hmb] at hub
  subst hua
  subst hub
  clear o1 o2 hb hr hws h1 h2 h3 h4 h5 hma hmb hk hkc hhi
  go_enter Try.func44, Try.ntmps44
  go_wp2_with fail
  rw [← hW]
  clear hW
  refine HC1.out.mono ?_
  rintro e w1 ⟨⟨rfl, ho1⟩, hp1⟩
  obtain ⟨x0, x1, x2, x3, x4, x5, x6, x7, x8⟩ := cells_of9 ((ho1.2.2.2.2 w.heap.size (by have := HN.out; omega) (Or.inr (by have := HN.out; have := HB.out; omega))).trans HR.out)
  have HO1 := Lib.hid ho1; clear ho1
  have HP1 := Lib.hid hp1; clear hp1
  clear x0 x1 x2 x3 x4
  go_wp2_with fail
  refine (HC2.out w1 HO1.out).mono ?_
  rintro e w2 ⟨⟨rfl, ho2⟩, hp2⟩
  have HO2 := Lib.hid ho2; clear ho2
  have HP2 := Lib.hid hp2; clear hp2
  clear x5 x6 x7 x8
  go_wp2
  go_ret
  have hB := HB.out
  have hN := HN.out
  have hz1 := HO1.out.2.2.2.1
  refine ⟨⟨rfl, (HO.out.trans (HO1.out.wide hB.1 hB.2.1)).trans (HO2.out.wide hB.2.2.1 hB.2.2.2.1)⟩, ?_, ?_⟩
  · exact (HP1.out.keepB fun b hb hbl => HO2.out.2.2.2.2 b hbl (by have := hb.1; have := hb.2; omega)).imp fun j hj => ⟨by have := hj.1; omega, by have := hj.2; omega⟩
  · exact HP2.out.imp fun j hj => ⟨by have := hj.1; omega, by have := hj.2; omega⟩

set_option maxRecDepth 100000 in
set_option maxHeartbeats 1600000 in
theorem heldG_any (kd kk nn : Int) (s : ByteArray) (u : Value) (k2 n2 : Int) (s2 : ByteArray) (u' : Value) (xs xs' : List T) (lo h k : Nat) (w : World) (ha : ArgsAt w lo h u (mkS k xs)) (ha' : ArgsAt w lo h u' (mkS (k + 3 * cS xs) xs')) (hk : 1 ≤ k) (hkc : k + 3 * cS xs + 3 * cS xs' ≤ 2305843009213693952) :
    Calls Try.prog 45 #[gv kd kk nn s u k2 n2 s2 u', .int .i64 k] w (NumB ((k + 3 * cS xs + 3 * cS xs' : Nat) : Int) w) := by
  obtain ⟨W, hW⟩ : ∃ W, W = w.alloc (.cells #[.int .i64 kd, .int .i64 kk, .int .i64 nn, .string s, u, .int .i64 k2, .int .i64 n2, .string s2, u'] 31) := ⟨_, rfl⟩
  have hb : Below w.heap.size w W := by rw [hW]; exact (Below.refl _ _).alloc (Nat.le_refl _) _
  have hr : W.heap[w.heap.size]? = some (grow 31 kd kk nn s u k2 n2 s2 u') := by rw [hW]; exact heap_new _ _ rfl
  have HC1 := Lib.hid (heldT_any kk nn s u xs lo h k W (ha.below hb) hk (by omega))
  have HC2 := Lib.hid (fun (w1 : World) (hb1 : Below W.heap.size W w1) => heldT_any k2 n2 s2 u' xs' lo h (k + 3 * cS xs) w1 ((ha'.below hb).below hb1) (by omega) hkc)
  have HR := Lib.hid hr
  have HB0 := Lib.hid hb
  obtain ⟨ua, uc, hua⟩ := ha.slice
  obtain ⟨ub, ud, hub⟩ := ha'.slice
  obtain ⟨ma, hma⟩ : ∃ m, m = (mkS k xs).length := ⟨_, rfl⟩
  obtain ⟨mb, hmb⟩ : ∃ m, m = (mkS (k + 3 * cS xs) xs').length := ⟨_, rfl⟩
  rw [← hma] at hua
  rw [← hmb] at hub
  subst hua
  subst hub
  have hpos1 : ¬ ((k + 3 * cS xs : Nat) : Int) < 0 := by omega
  have hpos2 : ¬ ((k + 3 * cS xs + 3 * cS xs' : Nat) : Int) < 0 := by omega
  clear ha ha' hb hr hma hmb hk hkc
  go_enter Try.func45, Try.ntmps45
  go_wp2_with fail
  rw [← hW]
  clear hW
  refine HC1.out.mono ?_
  rintro e w1 ⟨rfl, hb1⟩
  obtain ⟨x0, x1, x2, x3, x4, x5, x6, x7, x8⟩ := cells_of9 ((hb1.block w.heap.size (Array.getElem?_eq_some_iff.1 HR.out).1).trans HR.out)
  have HB1 := Lib.hid hb1; clear hb1
  clear x0 x1 x2 x3 x4
  go_wp2_with fail
  refine (HC2.out w1 HB1.out).mono ?_
  rintro e w2 ⟨rfl, hb2⟩
  have HB2 := Lib.hid (HB0.out.trans ((HB1.out.mono HB0.out.size).trans (hb2.mono (Nat.le_trans HB0.out.size HB1.out.size)))); clear hb2
  clear x5 x6 x7 x8
  go_wp2
  go_ret
  exact ⟨rfl, HB2.out⟩
end Go.Proofs.Ytidbokheeieifaa
namespace Go.Proofs.Ytidbokheeieifaa
open Go.RowKit

/-- A guard that was returned, for reading. -/
def RGd (r : Gd) (w : World) (e : Ending) (w' : World) : Prop :=
  ∃ H k n s a m c k' n' s' a' m' c', e = .returned (gv r.kd k n s (.slice a m c) k' n' s' (.slice a' m' c')) ∧ GAt w' w.heap.size H (gv r.kd k n s (.slice a m c) k' n' s' (.slice a' m' c')) r ∧ Below w.heap.size w w'
/-- The same, and its rows are the call's own. -/
def CGd (r : Gd) (w : World) (e : Ending) (w' : World) : Prop := ∃ H, CopyGO H r w e w'
theorem ReadGO.rgd {H : Nat} {r : Gd} {w : World} {e : Ending} {w' : World} (q : ReadGO H r w e w') : RGd r w e w' := by
  obtain ⟨v, rfl, hg, hb⟩ := q
  obtain ⟨k, n, s, u, k', n', s', u', rfl, h1, h2⟩ := hg
  have h1' := h1
  have h2' := h2
  obtain ⟨_, _, _, _, xs, e1, _, _, ha⟩ := h1'
  obtain ⟨_, _, _, _, ys, e2, _, _, hb'⟩ := h2'
  cases e1
  cases e2
  obtain ⟨a, c, rfl⟩ := ha.slice
  obtain ⟨a', c', rfl⟩ := hb'.slice
  exact ⟨H, k, n, s, a, _, c, k', n', s', a', _, c', rfl, ⟨k, n, s, _, k', n', s', _, rfl, h1, h2⟩, hb⟩
theorem CGd.rgd {r : Gd} {w : World} {e : Ending} {w' : World} (q : CGd r w e w') : RGd r w e w' := by
  obtain ⟨H, q⟩ := q
  exact q.read.rgd
/-- A guard in a new box, behind a region that makes the box somewhere among its calls. -/
def BoxG (W : World) (r : Gd) (pu : Value) (wc : World) : Prop :=
  ∃ B k n s a m c k' n' s' a' m' c' H, pu = .pointer (some ⟨B, 0, none⟩) ∧ wc.heap[B]? = some (grow 31 r.kd k n s (.slice a m c) k' n' s' (.slice a' m' c')) ∧ GAt wc W.heap.size H (gv r.kd k n s (.slice a m c) k' n' s' (.slice a' m' c')) r ∧ Below W.heap.size W wc ∧ W.heap.size ≤ B
theorem boxG_new {W w1 : World} {B h lo : Nat} {r : Gd} {k n : Int} {s : ByteArray} {a : Option Addr} {m c : Nat} {k' n' : Int} {s' : ByteArray} {a' : Option Addr} {m' c' : Nat} (hB : Below W.heap.size W w1) (ht : GAt w1 lo h (gv r.kd k n s (.slice a m c) k' n' s' (.slice a' m' c')) r) (hlo : W.heap.size ≤ lo) (hb : B = w1.heap.size) :
    BoxG W r (.pointer (some ⟨B, 0, none⟩)) (w1.alloc (.cells #[.int .i64 r.kd, .int .i64 k, .int .i64 n, .string s, .slice a m c, .int .i64 k', .int .i64 n', .string s', .slice a' m' c'] 31)) := by
  subst hb
  have hb1 : Below w1.heap.size w1 (w1.alloc (.cells #[.int .i64 r.kd, .int .i64 k, .int .i64 n, .string s, .slice a m c, .int .i64 k', .int .i64 n', .string s', .slice a' m' c'] 31)) := (Below.refl _ _).alloc (Nat.le_refl _) _
  exact ⟨_, k, n, s, a, m, c, k', n', s', a', m', c', h, rfl, heap_new _ _ rfl, (ht.below hb1).low hlo, hB.trans (hb1.mono hB.size), hB.size⟩
theorem setall9 {W : World} {b : Nat} {x0 x1 x2 x3 x4 x5 x6 x7 x8 : Value} {ty : TypeId} (h : W.heap[b]? = some (.cells #[x0, x1, x2, x3, x4, x5, x6, x7, x8] ty (0, 0))) (y0 y1 y2 y3 y4 y5 y6 y7 y8 : Value) :
    (((((((((W.setCell ⟨b, 0, none⟩ y0).setCell ⟨b, 1, none⟩ y1).setCell ⟨b, 2, none⟩ y2).setCell ⟨b, 3, none⟩ y3).setCell ⟨b, 4, none⟩ y4).setCell ⟨b, 5, none⟩ y5).setCell ⟨b, 6, none⟩ y6).setCell ⟨b, 7, none⟩ y7).setCell ⟨b, 8, none⟩ y8).heap[b]? = some (.cells #[y0, y1, y2, y3, y4, y5, y6, y7, y8] ty (0, 0)) := by
  have h0 := heap_set_atK h 0 y0
  have h1 := heap_set_atK h0 1 y1
  have h2 := heap_set_atK h1 2 y2
  have h3 := heap_set_atK h2 3 y3
  have h4 := heap_set_atK h3 4 y4
  have h5 := heap_set_atK h4 5 y5
  have h6 := heap_set_atK h5 6 y6
  have h7 := heap_set_atK h6 7 y7
  have h8 := heap_set_atK h7 8 y8
  simpa using h8
theorem boxG_set {W w1 : World} {B h lo : Nat} {r : Gd} {x0 x1 x2 x3 x4 x5 x6 x7 x8 : Value} {k n : Int} {s : ByteArray} {a : Option Addr} {m c : Nat} {k' n' : Int} {s' : ByteArray} {a' : Option Addr} {m' c' : Nat} (hB : Below W.heap.size W w1) (ht : GAt w1 lo h (gv r.kd k n s (.slice a m c) k' n' s' (.slice a' m' c')) r)
    (hZ : w1.heap[B]? = some (.cells #[x0, x1, x2, x3, x4, x5, x6, x7, x8] 31 (0, 0))) (hlo : B < lo) (hb : W.heap.size ≤ B) :
    BoxG W r (.pointer (some ⟨B, 0, none⟩)) (((((((((w1.setCell ⟨B, 0, none⟩ (.int .i64 r.kd)).setCell ⟨B, 1, none⟩ (.int .i64 k)).setCell ⟨B, 2, none⟩ (.int .i64 n)).setCell ⟨B, 3, none⟩ (.string s)).setCell ⟨B, 4, none⟩ (.slice a m c)).setCell ⟨B, 5, none⟩ (.int .i64 k')).setCell ⟨B, 6, none⟩ (.int .i64 n')).setCell ⟨B, 7, none⟩ (.string s')).setCell ⟨B, 8, none⟩ (.slice a' m' c')) := by
  obtain ⟨X, hX⟩ : ∃ X, X = (((((((((w1.setCell ⟨B, 0, none⟩ (.int .i64 r.kd)).setCell ⟨B, 1, none⟩ (.int .i64 k)).setCell ⟨B, 2, none⟩ (.int .i64 n)).setCell ⟨B, 3, none⟩ (.string s)).setCell ⟨B, 4, none⟩ (.slice a m c)).setCell ⟨B, 5, none⟩ (.int .i64 k')).setCell ⟨B, 6, none⟩ (.int .i64 n')).setCell ⟨B, 7, none⟩ (.string s')).setCell ⟨B, 8, none⟩ (.slice a' m' c')) := ⟨_, rfl⟩
  have hh : ∀ d, B < d → X.heap[d]? = w1.heap[d]? := fun d hd => by rw [hX, set9_heap (by omega)]
  have hbx : Below W.heap.size W X := by
    rw [hX]
    iterate 9 refine Below.setCell ?_ (by exact hb) _
    exact hB
  have hrow : X.heap[B]? = some (grow 31 r.kd k n s (.slice a m c) k' n' s' (.slice a' m' c')) := by rw [hX]; exact setall9 hZ _ _ _ _ _ _ _ _ _
  rw [← hX]
  exact ⟨_, k, n, s, a, m, c, k', n', s', a', m', c', h, rfl, hrow, (ht.same fun d d1 _ => hh d (by omega)).low (by omega), hbx, hb⟩
theorem zg_new {w w' : World} (hb : Below (w.alloc (.cells #[.int .i64 0, .int .i64 0, .int .i64 0, .string ⟨#[]⟩, .slice none 0 0, .int .i64 0, .int .i64 0, .string ⟨#[]⟩, .slice none 0 0] 31)).heap.size (w.alloc (.cells #[.int .i64 0, .int .i64 0, .int .i64 0, .string ⟨#[]⟩, .slice none 0 0, .int .i64 0, .int .i64 0, .string ⟨#[]⟩, .slice none 0 0] 31)) w') :
    w'.heap[w.heap.size]? = some (grow 31 0 0 0 ⟨#[]⟩ (.slice none 0 0) 0 0 ⟨#[]⟩ (.slice none 0 0)) := (hb.block _ (by simp)).trans (heap_new _ _ rfl)
theorem zg_drew {w w' : World} (hb : Below (w.alloc (.cells #[.int .i64 0, .int .i64 0, .int .i64 0, .string ⟨#[]⟩, .slice none 0 0, .int .i64 0, .int .i64 0, .string ⟨#[]⟩, .slice none 0 0] 31)).drew.heap.size (w.alloc (.cells #[.int .i64 0, .int .i64 0, .int .i64 0, .string ⟨#[]⟩, .slice none 0 0, .int .i64 0, .int .i64 0, .string ⟨#[]⟩, .slice none 0 0] 31)).drew w') :
    w'.heap[w.heap.size]? = some (grow 31 0 0 0 ⟨#[]⟩ (.slice none 0 0) 0 0 ⟨#[]⟩ (.slice none 0 0)) := zg_new (bel_drew hb)
theorem cells_of9g {Y : World} {b : Nat} {x0 x1 x2 x3 x4 x5 x6 x7 x8 : Value} {t : TypeId} (hb : Y.heap[b]? = some (.cells #[x0, x1, x2, x3, x4, x5, x6, x7, x8] t (0, 0))) :
    (Y.cell? ⟨b, 0, none⟩ = some x0 ∧ Y.cell? ⟨b, 1, none⟩ = some x1 ∧ Y.cell? ⟨b, 2, none⟩ = some x2 ∧ Y.cell? ⟨b, 3, none⟩ = some x3 ∧ Y.cell? ⟨b, 4, none⟩ = some x4 ∧ Y.cell? ⟨b, 5, none⟩ = some x5 ∧ Y.cell? ⟨b, 6, none⟩ = some x6 ∧ Y.cell? ⟨b, 7, none⟩ = some x7 ∧ Y.cell? ⟨b, 8, none⟩ = some x8) ∧
    Y.frozen? ⟨b, 0, none⟩ = false ∧ Y.frozen? ⟨b, 1, none⟩ = false ∧ Y.frozen? ⟨b, 2, none⟩ = false ∧ Y.frozen? ⟨b, 3, none⟩ = false ∧ Y.frozen? ⟨b, 4, none⟩ = false ∧ Y.frozen? ⟨b, 5, none⟩ = false ∧ Y.frozen? ⟨b, 6, none⟩ = false ∧ Y.frozen? ⟨b, 7, none⟩ = false ∧ Y.frozen? ⟨b, 8, none⟩ = false :=
  ⟨cells_of9 hb, frozen_of_row Y b 0 _ _ hb, frozen_of_row Y b 1 _ _ hb, frozen_of_row Y b 2 _ _ hb, frozen_of_row Y b 3 _ _ hb, frozen_of_row Y b 4 _ _ hb, frozen_of_row Y b 5 _ _ hb, frozen_of_row Y b 6 _ _ hb, frozen_of_row Y b 7 _ _ hb, frozen_of_row Y b 8 _ _ hb⟩
end Go.Proofs.Ytidbokheeieifaa
