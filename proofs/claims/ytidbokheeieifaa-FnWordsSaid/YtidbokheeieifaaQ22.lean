/-
  spec.EqualTerm tells whether two terms are one tree.
-/
import Derived.Test.YtidbokheeieifaaQ2
import Derived.Test.YtidbokheeieifaaQ16
import Derived.Deep.RegionHeld3
namespace Go.Proofs.Ytidbokheeieifaa
open Go.RowKit

/-- The cells of two structs and of the last fields of two boxes, and that what was there is there. -/
def Cells10 (wr : World) (p : Nat) (r r' : Value) (b o b' o' : Nat) (k n : Int) (s : ByteArray) (u : Value) (k' n' : Int) (s' : ByteArray) (u' : Value) (w' : World) : Prop :=
  w'.cell? ⟨p, 3, none⟩ = some r ∧ w'.cell? ⟨p + 1, 3, none⟩ = some r' ∧
  w'.cell? ⟨b, o, none⟩ = some (.int .i64 k) ∧ w'.cell? ⟨b, o + 1, none⟩ = some (.int .i64 n) ∧ w'.cell? ⟨b, o + 2, none⟩ = some (.string s) ∧ w'.cell? ⟨b, o + 3, none⟩ = some u ∧
  w'.cell? ⟨b', o', none⟩ = some (.int .i64 k') ∧ w'.cell? ⟨b', o' + 1, none⟩ = some (.int .i64 n') ∧ w'.cell? ⟨b', o' + 2, none⟩ = some (.string s') ∧ w'.cell? ⟨b', o' + 3, none⟩ = some u' ∧ Below wr.heap.size wr w'

theorem Cells10.on {wr w' : World} {p : Nat} {r r' : Value} {b o b' o' : Nat} {k n : Int} {s : ByteArray} {u : Value} {k' n' : Int} {s' : ByteArray} {u' : Value} (h : Cells10 wr p r r' b o b' o' k n s u k' n' s' u' wr) (hb : Below wr.heap.size wr w') :
    Cells10 wr p r r' b o b' o' k n s u k' n' s' u' w' := by
  obtain ⟨r0, r1, c0, c1, c2, c3, d0, d1, d2, d3, _⟩ := h
  have keep : ∀ {ad : Addr} {v : Value}, wr.cell? ad = some v → w'.cell? ad = some v := fun {ad} {v} hv => cell_on hb hv
  exact ⟨keep r0, keep r1, keep c0, keep c1, keep c2, keep c3, keep d0, keep d1, keep d2, keep d3, hb⟩

/-- Two boxes, one behind the other. -/
abbrev boxed2 (w : World) (k n : Int) (s : ByteArray) (u : Value) (k' n' : Int) (s' : ByteArray) (u' : Value) : World := boxed (boxed w k n s u) k' n' s' u'
theorem boxed2_below (w : World) (k n : Int) (s : ByteArray) (u : Value) (k' n' : Int) (s' : ByteArray) (u' : Value) : Below w.heap.size w (boxed2 w k n s u k' n' s' u') :=
  (boxed_below w k n s u).trans ((boxed_below (boxed w k n s u) k' n' s' u').mono (by simp))
theorem boxed2_cells {w wr : World} {k n : Int} {s : ByteArray} {u : Value} {k' n' : Int} {s' : ByteArray} {u' : Value} (hb : Below (boxed2 w k n s u k' n' s' u').heap.size (boxed2 w k n s u k' n' s' u') wr) :
    wr.cell? ⟨w.heap.size, 3, none⟩ = some u ∧ wr.cell? ⟨w.heap.size + 1, 3, none⟩ = some u' := by
  have h1 := (boxed_cells hb).2.2.2
  have h0 := (boxed_cells ((boxed_below (boxed w k n s u) k' n' s' u').trans (hb.mono (by simp)))).2.2.2
  have e : (boxed w k n s u).heap.size = w.heap.size + 1 := by simp
  rw [e] at h1
  exact ⟨h0, h1⟩

def AnsB (b : Bool) (w : World) (e : Ending) (w' : World) : Prop := e = .returned (.bool b) ∧ Below w.heap.size w w'
theorem len_cSe : ∀ xs : List T, xs.length ≤ cS xs
  | [] => by simp [cS]
  | x :: xs => by
    have h1 := len_cSe xs
    have h2 : 1 ≤ cT x := by obtain ⟨k, n, s, ys⟩ := x; rw [cT_node]; omega
    simp only [cS, List.map_cons, List.sum_cons, List.length_cons] at *
    omega
theorem cT_ate (ts : List T) (k : Nat) (t : T) (h : ts[k]? = some t) : cS (ts.take k) + cT t ≤ cS ts := by
  have h1 := cS_take ts (k + 1)
  rw [tk ts k t h, cS_snoc] at h1
  exact h1
def SameAtK (lo lo' h : Nat) : Prop := ∀ (v v' : Value) (t t' : T) (w : World) (h' : Nat), TermAt w lo h v t → TermAt w lo' h' v' t' → cT t ≤ 4294967296 →
  Calls Try.prog 13 #[v, v'] w fun e w' => ∃ b, AnsB b w e w' ∧ (b = true ↔ t = t')

theorem node_eq {k n k' n' : Int} {s s' : ByteArray} {xs ys : List T} : (T.node k n s xs = T.node k' n' s' ys) ↔ (k = k' ∧ n = n' ∧ s = s' ∧ xs = ys) := by
  constructor
  · intro h; cases h; exact ⟨rfl, rfl, rfl, rfl⟩
  · rintro ⟨rfl, rfl, rfl, rfl⟩; rfl

theorem texts_ne {s s' : ByteArray} (h : s ≠ s') : (s.toList == s'.toList) = false := by
  cases e : (s.toList == s'.toList) with
  | false => rfl
  | true => exact absurd ((same_iff s s').1 e) h

set_option maxRecDepth 100000 in
set_option maxHeartbeats 1600000 in
theorem sSame_step (lo lo' h : Nat) (IH : ∀ g, h = g + 1 → SameAtK lo lo' g) : SameAtK lo lo' h := by
  intro v v' t t' w hh ht ht' hw
  obtain ⟨k, n, s, u, xs, rfl, rfl, hs, ha⟩ := ht
  obtain ⟨k', n', s', u', ys, rfl, rfl, hs', ha'⟩ := ht'
  obtain ⟨a, cap, rfl⟩ := ha.slice
  obtain ⟨a', cap', rfl⟩ := ha'.slice
  clear hs hs'
  have hb2 := boxed2_below w k n s (.slice a xs.length cap) k' n' s' (.slice a' ys.length cap')
  have HA := Lib.hid (ha.below hb2)
  have HA' := Lib.hid (ha'.below hb2)
  have HB0 := Lib.hid hb2; clear hb2 ha ha'
  have HW : Hid (1 + cS xs ≤ 4294967296 ∧ xs.length ≤ cS xs) := Lib.hid ⟨by rw [cT_node] at hw; exact hw, len_cSe xs⟩
  clear hw
  by_cases e1 : k = k'
  · subst e1
    have q1 : (k != k) = false := by simp
    by_cases e2 : n = n'
    · subst e2
      have q2 : (n != n) = false := by simp
      by_cases e3 : s = s'
      · subst e3
        have q3 : (s.toList == s.toList) = true := by simp
        by_cases e4 : xs.length = ys.length
        · rw [← e4] at HB0 HA HA' ⊢
          have HE4 := Lib.hid e4; clear e4
          obtain ⟨m, hm⟩ : ∃ m, m = xs.length := ⟨_, rfl⟩
          have hml : m ≤ 4294967296 := by have := HW.out; omega
          rw [← hm] at HA HA' HB0 ⊢
          have HM := Lib.hid hm; clear hm
          have HIH := Lib.hid IH; clear IH
          have q4 : ((m : Int) != (m : Int)) = false := by simp
          go_enter Try.func13, Try.ntmps13
          go_wp2
          go_loopw [5] (fun i wr => ∃ j : Nat, j ≤ m ∧ i = .int .i64 j ∧ Hid (∀ i, i < j → xs[i]? = ys[i]?) ∧ Hid (Below (boxed2 w k n s (.slice a m cap) k n s (.slice a' m cap')).heap.size (boxed2 w k n s (.slice a m cap) k n s (.slice a' m cap')) wr)) (fun i _ => m - (intOf i).toNat)
          case atStart => exact ⟨0, Nat.zero_le _, rfl, Lib.hid (fun i hi => by omega), Lib.hid (Below.refl _ _)⟩
          case round =>
            obtain ⟨j, hj, rfl, HF, HB⟩ := hrel
            obtain ⟨cb, cb'⟩ := boxed2_cells HB.out
            by_cases hlt : j < m
            · obtain ⟨x, hx⟩ : ∃ x, xs[j]? = some x := ⟨_, List.getElem?_eq_getElem (by have := HM.out; omega)⟩
              obtain ⟨y, hy⟩ : ∃ y, ys[j]? = some y := ⟨_, List.getElem?_eq_getElem (by have := HM.out; have := HE4.out; omega)⟩
              have hwt := cT_ate xs j _ hx
              have hwx : cT x ≤ 4294967296 := by have := HW.out; omega
              clear hwt
              obtain ⟨g1, b, o, tk1, tn1, ts1, tx1, u1, e1, rfl, rfl, hz1, c0, c1, c2, c3, har⟩ := HA.out.at hx
              obtain ⟨g2, b', o', tk2, tn2, ts2, tx2, u2, e2, rfl, rfl, hz2, d0, d1, d2, d3, har'⟩ := HA'.out.at hy
              have h10 : Cells10 wr w.heap.size (.slice (some ⟨b, o, none⟩) m cap) (.slice (some ⟨b', o', none⟩) m cap') b (o + j * 4) b' (o' + j * 4) tk1 tn1 ts1 u1 tk2 tn2 ts2 u2 wr :=
                ⟨cb, cb', cell_on HB.out c0, cell_on HB.out c1, cell_on HB.out c2, cell_on HB.out c3, cell_on HB.out d0, cell_on HB.out d1, cell_on HB.out d2, cell_on HB.out d3, Below.refl _ _⟩
              have HCALL : Hid (∀ w', Below wr.heap.size wr w' → Calls Try.prog 13 #[tv tk1 tn1 ts1 u1, tv tk2 tn2 ts2 u2] w' fun e w'' => ∃ b, AnsB b w' e w'' ∧ (b = true ↔ T.node tk1 tn1 ts1 tx1 = T.node tk2 tn2 ts2 tx2)) :=
                Lib.hid (fun w' hb => HIH.out g1 e1 _ _ _ _ w' g2 ⟨tk1, tn1, ts1, u1, tx1, rfl, rfl, hz1, (har.below HB.out).below hb⟩ ⟨tk2, tn2, ts2, u2, tx2, rfl, rfl, hz2, (har'.below HB.out).below hb⟩ hwx)
              have HK : Hid (∀ w', Below wr.heap.size wr w' → Cells10 wr w.heap.size (.slice (some ⟨b, o, none⟩) m cap) (.slice (some ⟨b', o', none⟩) m cap') b (o + j * 4) b' (o' + j * 4) tk1 tn1 ts1 u1 tk2 tn2 ts2 u2 w') := Lib.hid (fun w' hb => h10.on hb)
              obtain ⟨r0, r1, c0, c1, c2, c3, d0, d1, d2, d3, hb0⟩ := h10
              clear cb cb' har har' hz1 hz2 e1 e2 hwx
              have HX := Lib.hid hx; clear hx
              have HY := Lib.hid hy; clear hy
              by_cases hxy : T.node tk1 tn1 ts1 tx1 = T.node tk2 tn2 ts2 tx2
              · have HXY := Lib.hid hxy; clear hxy
                have HC : Hid (∀ w', Below wr.heap.size wr w' → Calls Try.prog 13 #[tv tk1 tn1 ts1 u1, tv tk2 tn2 ts2 u2] w' (AnsB true w')) := Lib.hid (fun w' hb => (HCALL.out w' hb).mono fun e w'' ⟨b, hb, hq⟩ => by rw [hq.2 HXY.out] at hb; exact hb)
                go_wp2
                go_region_held3 (fun w' => w'.cell? ⟨w.heap.size, 3, none⟩ = some (.slice (some ⟨b, o, none⟩) m cap) ∧ w'.cell? ⟨w.heap.size + 1, 3, none⟩ = some (.slice (some ⟨b', o', none⟩) m cap') ∧
                    w'.cell? ⟨b, o + j * 4, none⟩ = some (.int .i64 tk1) ∧ w'.cell? ⟨b, o + j * 4 + 1, none⟩ = some (.int .i64 tn1) ∧ w'.cell? ⟨b, o + j * 4 + 2, none⟩ = some (.string ts1) ∧ w'.cell? ⟨b, o + j * 4 + 3, none⟩ = some u1 ∧
                    w'.cell? ⟨b', o' + j * 4, none⟩ = some (.int .i64 tk2) ∧ w'.cell? ⟨b', o' + j * 4 + 1, none⟩ = some (.int .i64 tn2) ∧ w'.cell? ⟨b', o' + j * 4 + 2, none⟩ = some (.string ts2) ∧ w'.cell? ⟨b', o' + j * 4 + 3, none⟩ = some u2 ∧ Below wr.heap.size wr w')
                  (first | exact HK.out _ (by assumption) | exact HK.out _ (bel_drew (by assumption)) | exact HK.out _ (Below.drew (by assumption)) | go_keep)
                  (first | (go_at_call 13; refine (HC.out _ (by first | assumption | exact Below.drew (by assumption))).mono ?_; rintro e w1 ⟨rfl, hb1⟩))
                have HB2 := Lib.hid (HB.out.trans ((bel_drew hb1).mono HB.out.size)); clear hb1
                go_wp2
                go_roundw
                case rel =>
                  refine ⟨j + 1, by omega, by go_num, Lib.hid fun i hi => ?_, HB2⟩
                  by_cases hij : i = j
                  · subst hij; rw [HX.out, HY.out, HXY.out]
                  · exact HF.out i (by omega)
                case measure => simp [intOf]; omega
              · have HXY := Lib.hid hxy; clear hxy
                have HC : Hid (∀ w', Below wr.heap.size wr w' → Calls Try.prog 13 #[tv tk1 tn1 ts1 u1, tv tk2 tn2 ts2 u2] w' (AnsB false w')) := Lib.hid (fun w' hb => (HCALL.out w' hb).mono fun e w'' ⟨b, hb, hq⟩ => by
                  cases b with
                  | true => exact absurd (hq.1 rfl) HXY.out
                  | false => exact hb)
                go_wp2
                go_region_held3 (fun w' => w'.cell? ⟨w.heap.size, 3, none⟩ = some (.slice (some ⟨b, o, none⟩) m cap) ∧ w'.cell? ⟨w.heap.size + 1, 3, none⟩ = some (.slice (some ⟨b', o', none⟩) m cap') ∧
                    w'.cell? ⟨b, o + j * 4, none⟩ = some (.int .i64 tk1) ∧ w'.cell? ⟨b, o + j * 4 + 1, none⟩ = some (.int .i64 tn1) ∧ w'.cell? ⟨b, o + j * 4 + 2, none⟩ = some (.string ts1) ∧ w'.cell? ⟨b, o + j * 4 + 3, none⟩ = some u1 ∧
                    w'.cell? ⟨b', o' + j * 4, none⟩ = some (.int .i64 tk2) ∧ w'.cell? ⟨b', o' + j * 4 + 1, none⟩ = some (.int .i64 tn2) ∧ w'.cell? ⟨b', o' + j * 4 + 2, none⟩ = some (.string ts2) ∧ w'.cell? ⟨b', o' + j * 4 + 3, none⟩ = some u2 ∧ Below wr.heap.size wr w')
                  (first | exact HK.out _ (by assumption) | exact HK.out _ (bel_drew (by assumption)) | exact HK.out _ (Below.drew (by assumption)) | go_keep)
                  (first | (go_at_call 13; refine (HC.out _ (by first | assumption | exact Below.drew (by assumption))).mono ?_; rintro e w1 ⟨rfl, hb1⟩))
                have HB2 := Lib.hid (HB.out.trans ((bel_drew hb1).mono HB.out.size)); clear hb1
                go_wp2
                go_ret
                refine ⟨false, ⟨rfl, HB0.out.trans (HB2.out.mono HB0.out.size)⟩, ⟨fun h => by simp at h, fun h => ?_⟩⟩
                have hxs := (node_eq.1 h).2.2.2
                rw [hxs, HY.out] at HX
                have := HX.out
                simp only [Option.some.injEq] at this
                exact absurd this.symm HXY.out
            · have HD : Hid (xs = ys) := Lib.hid (List.ext_getElem? fun i => by
                by_cases hi : i < m
                · exact HF.out i (by omega)
                · rw [List.getElem?_eq_none (by have := HM.out; omega), List.getElem?_eq_none (by have := HM.out; have := HE4.out; omega)])
              go_wp2
              go_ret
              exact ⟨true, ⟨rfl, HB0.out.trans (HB.out.mono HB0.out.size)⟩, ⟨fun _ => node_eq.2 ⟨rfl, rfl, rfl, HD.out⟩, fun _ => rfl⟩⟩
        · have q4 : ((xs.length : Int) != (ys.length : Int)) = true := by simp; omega
          have hno : Hid (¬ xs = ys) := Lib.hid (fun h => e4 (by rw [h]))
          have hl1 : xs.length ≤ 4294967296 := by have := HW.out; omega
          clear e4
          go_enter Try.func13, Try.ntmps13
          go_wp2
          go_ret
          exact ⟨false, ⟨rfl, HB0.out⟩, ⟨fun h => by simp at h, fun h => absurd (node_eq.1 h).2.2.2 hno.out⟩⟩
      · have q3 := texts_ne e3
        have hno := Lib.hid e3; clear e3
        go_enter Try.func13, Try.ntmps13
        go_wp2
        go_ret
        exact ⟨false, ⟨rfl, HB0.out⟩, ⟨fun h => by simp at h, fun h => absurd (node_eq.1 h).2.2.1 hno.out⟩⟩
    · have q2 : (n != n') = true := by simpa using e2
      have hno := Lib.hid e2; clear e2
      go_enter Try.func13, Try.ntmps13
      go_wp2
      go_ret
      exact ⟨false, ⟨rfl, HB0.out⟩, ⟨fun h => by simp at h, fun h => absurd (node_eq.1 h).2.1 hno.out⟩⟩
  · have q1 : (k != k') = true := by simpa using e1
    have hno := Lib.hid e1; clear e1
    go_enter Try.func13, Try.ntmps13
    go_wp2
    go_ret
    exact ⟨false, ⟨rfl, HB0.out⟩, ⟨fun h => by simp at h, fun h => absurd (node_eq.1 h).1 hno.out⟩⟩

theorem sSame_anyK (lo lo' : Nat) (h : Nat) : SameAtK lo lo' h := by_height (sSame_step lo lo') h
def SameAt (lo lo' h : Nat) : Prop := ∀ (v v' : Value) (t t' : T) (w : World) (h' : Nat), TermAt w lo h v t → TermAt w lo' h' v' t' → wT t ≤ 1048576 →
  Calls Try.prog 13 #[v, v'] w fun e w' => ∃ b, AnsB b w e w' ∧ (b = true ↔ t = t')
theorem sSame_any (lo lo' : Nat) (h : Nat) : SameAt lo lo' h := fun v v' t t' w h' a b c => sSame_anyK lo lo' h v v' t t' w h' a b (by have := cT_le t; omega)
end Go.Proofs.Ytidbokheeieifaa
