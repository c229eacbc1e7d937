/-
  impl.descentOf with impl.leaveAsIs: the descent leads to the place of the subterm at a position, or to nil, and changes nothing.
-/
import Derived.Test.YtooiiomfahomjaaCopyW
import Derived.Test.YtooiiomfahomjaaInts
namespace Go.Proofs.Ytooiiomfahomjaa
open Go.RowKit

/-- A term's four cells, from an address on. -/
def NodeAt (w : World) (h b o : Nat) (t : T) : Prop :=
  ∃ k n s u xs, t = .node k n s xs ∧ s.size ≤ maxLen ∧ w.cell? ⟨b, o, none⟩ = some (.int .i64 k) ∧ w.cell? ⟨b, o + 1, none⟩ = some (.int .i64 n) ∧ w.cell? ⟨b, o + 2, none⟩ = some (.string s) ∧ w.cell? ⟨b, o + 3, none⟩ = some u ∧ ArgsAt w 0 h u xs
/-- The descent's answer. -/
def DescE (o : Option T) (w : World) (e : Ending) (w' : World) : Prop :=
  w' = w ∧ ((o = none ∧ e = .returned (.pointer none)) ∨ ∃ x h b q, o = some x ∧ e = .returned (.pointer (some ⟨b, q, none⟩)) ∧ NodeAt w h b q x)

set_option maxRecDepth 100000 in
theorem leave_any (v : Value) (w : World) : Calls Try.prog 29 #[v] w (fun e w' => e = .returned (.tuple #[]) ∧ w' = w) := by
  go_enter Try.func29, Try.ntmps29
  go_wp2
  go_end0
  exact ⟨rfl, rfl⟩

/-- The subterm is not there. -/
theorem sub_none {ps : List Int} {t x : T} {k : Nat} {p : Int} (h : subT (ps.take k) t = some x) (hp : ps[k]? = some p) (hn : ¬ (0 ≤ p ∧ p < (kT x).length)) : subT ps t = none := by
  have e1 : subT (ps.take (k + 1)) t = none := by rw [takeI ps k p hp, subT_snoc, h]; exact argT_out hn
  rw [← List.take_append_drop (k + 1) ps, subT_append, e1]; rfl
theorem sub_next {ps : List Int} {t x y : T} {k j : Nat} (h : subT (ps.take k) t = some x) (hp : ps[k]? = some ((j : Nat) : Int)) (hy : (kT x)[j]? = some y) : subT (ps.take (k + 1)) t = some y := by
  rw [takeI ps k _ hp, subT_snoc, h]
  show argT x (j : Int) = some y
  unfold argT
  rw [if_pos (by omega), Int.toNat_natCast]; exact hy

set_option maxRecDepth 100000 in
set_option maxHeartbeats 1600000 in
theorem descA_any (b0 o0 h0 bp be : Nat) (p : Value) (t : T) (ps : List Int) (w : World) (ht : NodeAt w h0 b0 o0 t) (hp : IntsAt w p ps) (hw : wT t ≤ 4194303) (hl : ps.length ≤ 4194304) (hbp : w.cell? ⟨bp, 0, none⟩ = some p) (hbe : w.cell? ⟨be, 0, none⟩ = some (.func (.func 29) #[] #[])) :
    Calls Try.prog 47 #[.pointer (some ⟨b0, o0, none⟩), .pointer (some ⟨bp, 0, none⟩), .pointer (some ⟨be, 0, none⟩)] w (DescE (subT ps t) w) := by
  obtain ⟨pa, pc, rfl⟩ := hp.slice
  obtain ⟨m, hm⟩ : ∃ m, m = ps.length := ⟨_, rfl⟩
  rw [← hm] at hp hl hbp
  have HM := Lib.hid hm; clear hm
  have HP := Lib.hid hp; clear hp
  have HT := Lib.hid ht; clear ht
  have HW := Lib.hid hw; clear hw
  go_enter Try.func47, Try.ntmps47
  go_wp2
  go_loopw [0, 9] (fun q i wr => ∃ j b o h x, j ≤ m ∧ i = .int .i64 (j : Nat) ∧ q = .pointer (some ⟨b, o, none⟩) ∧ wr = w ∧ Hid (subT (ps.take j) t = some x ∧ NodeAt w h b o x)) (fun _ i _ => m - (intOf i).toNat)
  case atStart => exact ⟨0, b0, o0, h0, t, Nat.zero_le _, rfl, rfl, rfl, Lib.hid ⟨rfl, HT.out⟩⟩
  case round =>
    clear HT
    obtain ⟨j, b, o, h, x, hj, rfl, rfl, rfl, HX⟩ := hrel
    by_cases hlt : j < m
    · obtain ⟨z, hz⟩ : ∃ z, ps[j]? = some z := ⟨_, List.getElem?_eq_getElem (by have := HM.out; omega)⟩
      obtain ⟨pb, po, rfl, pz⟩ := HP.out.at hz
      obtain ⟨hsx, k, n, s, u, xs, rfl, hs, d0, d1, d2, d3, ha⟩ := HX.out
      obtain ⟨a, cap, rfl⟩ := ha.slice
      have hxl : xs.length ≤ 4194304 := by
        have h1 := subT_w _ _ _ hsx
        have := HW.out
        rw [wT_node] at h1; omega
      obtain ⟨q, hq⟩ : ∃ q, q = xs.length := ⟨_, rfl⟩
      rw [← hq] at d3 hxl
      have HA := Lib.hid ha
      have HQ := Lib.hid hq
      have HSX := Lib.hid (And.intro hsx hz)
      clear d0 d1 d2 hsx hz hs hq ha
      by_cases hz0 : z < 0
      · have HN := Lib.hid (sub_none HSX.out.1 HSX.out.2 (by omega))
        clear HX
        go_wp2
        go_ret
        exact ⟨rfl, Or.inl ⟨HN.out, rfl⟩⟩
      · by_cases hz1 : (q : Int) ≤ z
        · have HN := Lib.hid (sub_none HSX.out.1 HSX.out.2 (by have := HQ.out; show ¬ (0 ≤ z ∧ z < (xs.length : Int)); omega))
          clear HX
          go_wp2
          go_ret
          exact ⟨rfl, Or.inl ⟨HN.out, rfl⟩⟩
        · obtain ⟨i, rfl⟩ : ∃ i : Nat, z = i := ⟨z.toNat, by omega⟩
          have hiq : i < q := by omega
          obtain ⟨y, hy⟩ : ∃ y, xs[i]? = some y := ⟨_, List.getElem?_eq_getElem (by have := HQ.out; omega)⟩
          obtain ⟨h', b', o', k2, n2, s2, xs2, u2, e, rfl, rfl, hs2, e0, e1, e2, e3, har⟩ := HA.out.at hy
          have HNX := Lib.hid (sub_next HSX.out.1 HSX.out.2 hy)
          have HND : Hid (NodeAt wr h' b' (o' + i * 4) (.node k2 n2 s2 xs2)) := Lib.hid ⟨k2, n2, s2, u2, xs2, rfl, hs2, e0, e1, e2, e3, har⟩
          clear e0 e1 e2 e3 har hs2 hy HX e
          go_wp2_with fail
          refine (leave_any _ _).mono ?_
          rintro e w1 ⟨rfl, rfl⟩
          go_wp2
          go_roundw
          case rel => exact ⟨j + 1, b', o' + i * 4, h', _, by omega, by go_num, rfl, by first | trivial | rfl, Lib.hid ⟨HNX.out, HND.out⟩⟩
          case measure => simp [intOf]; omega
    · have hjm : j = m := by omega
      have HY : Hid (subT ps t = some x) := Lib.hid (by
        have e1 := HX.out.1
        rw [hjm, HM.out, List.take_length] at e1
        exact e1)
      clear hjm
      go_wp2
      go_ret
      exact ⟨rfl, Or.inr ⟨x, h, b, o, HY.out, rfl, HX.out.2⟩⟩
end Go.Proofs.Ytooiiomfahomjaa
