/-
  impl.descentOf with impl.ownArgs: the walk.
-/
import Derived.Test.YtooiiomfahomjaaDescO
namespace Go.Proofs.Ytooiiomfahomjaa
open Go.RowKit

/-- What the descent leaves. -/
def DescOE (w0 : World) (ps : List Int) (t : T) (b0 o0 : Nat) (w : World) (e : Ending) (w' : World) : Prop :=
  Below w0.heap.size w0 w' ∧ (∀ b, b < w.heap.size → b ≠ b0 → w'.heap[b]? = w.heap[b]?) ∧ w.heap.size ≤ w'.heap.size ∧
  ((subT ps t = none ∧ e = .returned (.pointer none) ∧ ∃ h', NodeAt w' h' b0 o0 t) ∨
   ∃ x h b q, subT ps t = some x ∧ e = .returned (.pointer (some ⟨b, q, none⟩)) ∧ NodeIn w0 w' h b q x ∧ Plug w' b q b0 o0 (putT ps t) ∧ (b = b0 ∨ w.heap.size ≤ b))

/-- How far the descent has come. -/
def DRel (w0 : World) (ps : List Int) (t : T) (b0 o0 : Nat) (w : World) (j h b o : Nat) (x : T) (wr : World) : Prop :=
  subT (ps.take j) t = some x ∧ NodeIn w0 wr h b o x ∧ Plug wr b o b0 o0 (putT (ps.take j) t) ∧ Below w0.heap.size w0 wr ∧ (∀ c, c < w.heap.size → c ≠ b0 → wr.heap[c]? = w.heap[c]?) ∧ w.heap.size ≤ wr.heap.size ∧ w0.heap.size ≤ b ∧ (b = b0 ∨ w.heap.size ≤ b)

theorem DRel.root {w0 : World} {ps : List Int} {t : T} {b0 o0 : Nat} {w : World} {j h b o : Nat} {x : T} {wr : World} (r : DRel w0 ps t b0 o0 w j h b o x wr) : ∃ h', NodeAt wr h' b0 o0 t := by
  obtain ⟨hs, hn, hp, hb, _⟩ := r
  obtain ⟨h', hh⟩ := hp wr h x (fun _ _ _ h => h) (hn.at hb)
  rw [putT_self _ _ _ hs] at hh
  exact ⟨h', hh⟩

set_option maxRecDepth 100000 in
set_option maxHeartbeats 1600000 in
theorem descO_any (w0 : World) (b0 o0 h0 bp be : Nat) (p : Value) (t : T) (ps : List Int) (w : World) (h0w : Below w0.heap.size w0 w) (ht : NodeIn w0 w h0 b0 o0 t) (hb0 : w0.heap.size ≤ b0) (hp : IntsAt w0 p ps) (hw : wT t ≤ 4194303) (hl : ps.length ≤ 4194304)
    (hbp : w.cell? ⟨bp, 0, none⟩ = some p) (hbe : w.cell? ⟨be, 0, none⟩ = some (.func (.func 24) #[] #[])) (hne : be ≠ b0) :
    Calls Try.prog 47 #[.pointer (some ⟨b0, o0, none⟩), .pointer (some ⟨bp, 0, none⟩), .pointer (some ⟨be, 0, none⟩)] w (DescOE w0 ps t b0 o0 w) := by
  obtain ⟨pa, pc, rfl⟩ := hp.slice
  obtain ⟨m, hm⟩ : ∃ m, m = ps.length := ⟨_, rfl⟩
  rw [← hm] at hp hl hbp
  have HM := Lib.hid hm; clear hm
  have HP := Lib.hid hp; clear hp
  have HR0 : Hid (DRel w0 ps t b0 o0 w 0 h0 b0 o0 t w) := Lib.hid ⟨rfl, ht, fun w' h' x' _ hx => ⟨h', by rw [List.take_zero, putT_nil]; exact hx⟩, h0w, fun _ _ _ => rfl, Nat.le_refl _, hb0, Or.inl rfl⟩
  have HW := Lib.hid hw; clear hw
  have HBE := Lib.hid (And.intro hbe hne)
  clear ht h0w hbe hne
  go_enter Try.func47, Try.ntmps47
  go_wp2
  go_loopw [0, 9] (fun q i wr => ∃ j b o h x, j ≤ m ∧ i = .int .i64 (j : Nat) ∧ q = .pointer (some ⟨b, o, none⟩) ∧ Hid (DRel w0 ps t b0 o0 w j h b o x wr)) (fun _ i _ => m - (intOf i).toNat)
  case atStart => exact ⟨0, b0, o0, h0, t, Nat.zero_le _, rfl, rfl, HR0⟩
  case round =>
    clear HR0
    obtain ⟨j, b, o, h, x, hj, rfl, rfl, HX⟩ := hrel
    by_cases hlt : j < m
    · obtain ⟨z, hz⟩ : ∃ z, ps[j]? = some z := ⟨_, List.getElem?_eq_getElem (by have := HM.out; omega)⟩
      obtain ⟨hsx, ⟨k, n, s, a, q, c, xs, rfl, hs, hq, d0, d1, d2, d3, hf, ha⟩, hplug, hbl, hkeep, hsize, hbN, hbb⟩ := HX.out
      obtain ⟨pb, po, rfl, pz⟩ := (HP.out.below hbl).at hz
      have hxl : q ≤ 4194304 := by
        have h1 := subT_w _ _ _ hsx
        have := HW.out
        rw [wT_node] at h1; omega
      have f3 := hf (o + 3)
      have hbe : wr.cell? ⟨be, 0, none⟩ = some (.func (.func 24) #[] #[]) := by
        rw [World.cell?_of_block (hkeep be (World.block_lt_of_cell? w _ HBE.out.1) HBE.out.2)]; exact HBE.out.1
      have HSX := Lib.hid (And.intro hsx hz)
      have HQ := Lib.hid hq
      have HA := Lib.hid ha
      have HD := Lib.hid (And.intro d0 (And.intro d1 d2))
      have HPL := Lib.hid hplug
      have HBL := Lib.hid (And.intro hbl (And.intro hkeep (And.intro hsize (And.intro hbN hbb))))
      have HS := Lib.hid hs
      clear d0 d1 d2 hsx hz hs ha hf hplug hbl hkeep hsize hbN hbb
      by_cases hz0 : z < 0
      · have HN := Lib.hid (sub_none HSX.out.1 HSX.out.2 (by omega))
        clear hq
        go_wp2
        go_ret
        exact ⟨HBL.out.1, HBL.out.2.1, HBL.out.2.2.1, Or.inl ⟨HN.out, rfl, HX.out.root⟩⟩
      · by_cases hz1 : (q : Int) ≤ z
        · have HN := Lib.hid (sub_none HSX.out.1 HSX.out.2 (by have := HQ.out; show ¬ (0 ≤ z ∧ z < (xs.length : Int)); omega))
          clear hq
          go_wp2
          go_ret
          exact ⟨HBL.out.1, HBL.out.2.1, HBL.out.2.2.1, Or.inl ⟨HN.out, rfl, HX.out.root⟩⟩
        · obtain ⟨i, rfl⟩ : ∃ i : Nat, z = i := ⟨z.toNat, by omega⟩
          have hiq : i < q := by omega
          obtain ⟨y, hy⟩ : ∃ y, xs[i]? = some y := ⟨_, List.getElem?_eq_getElem (by have := HQ.out; omega)⟩
          have hA := HA.out
          rw [HQ.out] at hA
          obtain ⟨vs, hrow, hnone, hcells, _⟩ := args_row hA
          have HCALL := Lib.hid (ownArgs_any b o a q c vs wr (by rw [HQ.out]; exact hrow.len) hxl (by rw [HQ.out]; exact hnone) (fun ad e jj u hu => by
            have h1 := hcells ad e jj u hu
            rw [HBL.out.1.cell (World.block_lt_of_cell? w0 _ h1)]; exact h1) hrow.one d3 f3)
          have HROW := Lib.hid hrow
          have HY := Lib.hid hy
          have HD3 : Hid ((wr.cell? ⟨b, o + 3, none⟩).isSome = true ∧ b < wr.heap.size) := Lib.hid ⟨by rw [d3]; rfl, World.block_lt_of_cell? wr _ d3⟩
          clear hA hrow hnone hcells hy HX
          go_wp2_with fail
          refine HCALL.out.mono ?_
          rintro e w2 ⟨rfl, u1, wc, hw2, how, hbw⟩
          obtain ⟨g, c1, eu⟩ : ∃ g c1, u1 = .slice (some ⟨g, 0, none⟩) q c1 := by
            rcases how.2 with ⟨_, h0⟩ | ⟨g, cc, cur, e1, _⟩
            · omega
            · exact ⟨g, cc, e1⟩
          subst eu
          have hq2 := HQ.out
          rw [hq2] at hw2 how
          obtain ⟨hP2, hN2, hc3⟩ := plug_step (h := h - 1) HPL.out hbw HBL.out.1 hw2 how HROW.out (by unfold maxLen; omega) HD3.out.2 HBL.out.2.2.2.1 HS.out HD.out.1 HD.out.2.1 HD.out.2.2 HD3.out.1 HY.out
          rw [← hq2] at hc3
          have hgl := how.lt g rfl
          have hwcz := hbw.size
          have hz2 : w2.heap.size = wc.heap.size := by rw [hw2]; simp [World.setCell]
          have HNX : Hid (DRel w0 ps t b0 o0 w (j + 1) (h - 1) g (i * 4) y w2) := Lib.hid (by
            obtain ⟨q1, q2, q3, q4, q5⟩ := HBL.out
            refine ⟨sub_next HSX.out.1 HSX.out.2 HY.out, hN2, ?_, ?_, fun cc h1 h2 => ?_, by omega, by have := q1.size; omega, Or.inr (by omega)⟩
            · rw [takeI ps j _ HSX.out.2]
              have e : putT (ps.take j ++ [(i : Int)]) t = fun y' => putT (ps.take j) t (.node k n s (xs.set i y')) := by
                funext y'
                exact putT_snoc _ _ _ _ _ _ _ _ _ HSX.out.1 HY.out
              rw [e]; exact hP2
            · rw [hw2]; exact (q1.trans (hbw.mono q1.size)).setCell q4 _
            · rw [hw2, Below.heap_setCell _ _ _ _ (fun e => by simp at e; rcases q5 with q5 | q5 <;> omega), hbw.block cc (by omega)]
              exact q2 cc h1 h2)
          clear hP2 hN2 how hbw hw2 d3 f3 hbe hgl hwcz hz2 hq2 hq
          go_wp2
          go_roundw
          case rel => exact ⟨j + 1, g, i * 4, h - 1, y, by omega, by go_num, rfl, HNX⟩
          case measure => simp [intOf]; omega
    · have hjm : j = m := by omega
      have HY : Hid (subT ps t = some x ∧ Plug wr b o b0 o0 (putT ps t)) := Lib.hid (by
        obtain ⟨e1, _, e3, _⟩ := HX.out
        rw [hjm, HM.out, List.take_length] at e1 e3
        exact ⟨e1, e3⟩)
      clear hjm
      go_wp2
      go_ret
      obtain ⟨_, hn, _, q1, q2, q3, q4, q5⟩ := HX.out
      exact ⟨q1, q2, q3, Or.inr ⟨x, h, b, o, HY.out.1, rfl, hn, HY.out.2, q5⟩⟩
end Go.Proofs.Ytooiiomfahomjaa
