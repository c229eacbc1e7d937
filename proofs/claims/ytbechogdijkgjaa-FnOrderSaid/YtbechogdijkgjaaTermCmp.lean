/-
  spec.CompareTerms returns the order of two terms.
-/
import Derived.Test.YtbechogdijkgjaaTermEqS
import Derived.Test.YtbechogdijkgjaaTermCmpM
namespace Go.Proofs.Ytbechogdijkgjaa
open Go.RowKit

theorem sInts_any (a b : Int) (w : World) : Calls Try.prog 53 #[.int .i64 a, .int .i64 b] w fun e w' => e = .returned (.int .i64 (cmpI a b)) ∧ w' = w := by
  by_cases h1 : a < b
  · have e : cmpI a b = -1 := by simp [cmpI, h1]
    rw [e]; clear e
    go_enter Try.func53, Try.ntmps53
    go_wp2
    go_ret
    exact ⟨rfl, rfl⟩
  · by_cases h2 : b < a
    · have e : cmpI a b = 1 := by simp [cmpI, h1, h2]
      rw [e]; clear e
      go_enter Try.func53, Try.ntmps53
      go_wp2
      go_ret
      exact ⟨rfl, rfl⟩
    · have e : cmpI a b = 0 := by simp [cmpI, h1, h2]
      rw [e]; clear e
      go_enter Try.func53, Try.ntmps53
      go_wp2
      go_ret
      exact ⟨rfl, rfl⟩

theorem less_no {a b : ByteArray} (h : ¬ key a < key b) : Op.bytesLess a.toList b.toList = false := by
  cases e : Op.bytesLess a.toList b.toList with
  | false => rfl
  | true => exact absurd ((less_iff a b).1 e) h

theorem sTexts_any (a b : ByteArray) (w : World) : Calls Try.prog 54 #[.string a, .string b] w fun e w' => e = .returned (.int .i64 (cmpS a b)) ∧ w' = w := by
  by_cases h1 : key a < key b
  · have e : cmpS a b = -1 := by simp [cmpS, h1]
    rw [e]; clear e
    have q1 := (less_iff a b).2 h1
    clear h1
    go_enter Try.func54, Try.ntmps54
    go_wp2
    go_ret
    exact ⟨rfl, rfl⟩
  · have q1 := less_no h1
    by_cases h2 : key b < key a
    · have e : cmpS a b = 1 := by simp [cmpS, h1, h2]
      rw [e]; clear e
      have q2 : (a.toList == b.toList) = false := texts_ne (fun e => by subst e; exact lt_irr _ h2)
      clear h1 h2
      go_enter Try.func54, Try.ntmps54
      go_wp2
      go_ret
      exact ⟨rfl, rfl⟩
    · have e : cmpS a b = 0 := by simp [cmpS, h1, h2]
      rw [e]; clear e
      have q2 : (a.toList == b.toList) = true := (same_iff a b).2 (by
        by_cases q : key a = key b
        · exact key_inj q
        · rcases lt_or q with k | k
          · exact absurd k h1
          · exact absurd k h2)
      clear h1 h2
      go_enter Try.func54, Try.ntmps54
      go_wp2
      go_ret
      exact ⟨rfl, rfl⟩

/-- All cells of two boxes. -/
theorem boxed2_all {w wr : World} {k n : Int} {s : ByteArray} {u : Value} {k' n' : Int} {s' : ByteArray} {u' : Value} (hb : Below (boxed2 w k n s u k' n' s' u').heap.size (boxed2 w k n s u k' n' s' u') wr) :
    wr.cell? ⟨w.heap.size, 0, none⟩ = some (.int .i64 k) ∧ wr.cell? ⟨w.heap.size, 1, none⟩ = some (.int .i64 n) ∧ wr.cell? ⟨w.heap.size, 2, none⟩ = some (.string s) ∧ wr.cell? ⟨w.heap.size, 3, none⟩ = some u ∧
    wr.cell? ⟨w.heap.size + 1, 0, none⟩ = some (.int .i64 k') ∧ wr.cell? ⟨w.heap.size + 1, 1, none⟩ = some (.int .i64 n') ∧ wr.cell? ⟨w.heap.size + 1, 2, none⟩ = some (.string s') ∧ wr.cell? ⟨w.heap.size + 1, 3, none⟩ = some u' ∧
    Below (boxed2 w k n s u k' n' s' u').heap.size (boxed2 w k n s u k' n' s' u') wr := by
  have h1 := boxed_cells hb
  have h0 := boxed_cells ((boxed_below (boxed w k n s u) k' n' s' u').trans (hb.mono (by simp)))
  have e : (boxed w k n s u).heap.size = w.heap.size + 1 := by simp
  rw [e] at h1
  exact ⟨h0.1, h0.2.1, h0.2.2.1, h0.2.2.2, h1.1, h1.2.1, h1.2.2.1, h1.2.2.2, hb⟩

theorem nz_at : ∀ (l : List Int) (j : Nat) (z : Int), (∀ i, i < j → l[i]? = some 0) → l[j]? = some z → z ≠ 0 → nz l = z
  | [], j, z, _, h, _ => by simp at h
  | x :: r, 0, z, _, h, hz => by
    simp at h; subst h
    rw [nz_cons, if_neg hz]
  | x :: r, j + 1, z, h0, h, hz => by
    have e := h0 0 (by omega)
    simp at e; subst e
    rw [nz_cons, if_pos rfl]
    exact nz_at r j z (fun i hi => by have := h0 (i + 1) (by omega); simpa using this) (by simpa using h) hz
theorem nz_all : ∀ (l : List Int), (∀ i, i < l.length → l[i]? = some 0) → nz l = 0
  | [], _ => rfl
  | x :: r, h => by
    have e := h 0 (by simp)
    simp at e; subst e
    rw [nz_cons, if_pos rfl]
    exact nz_all r (fun i hi => by have := h (i + 1) (by simp; omega); simpa using this)
theorem first_at : ∀ (xs ys : List T) (j : Nat) (x y : T), (∀ (i : Nat) (x y : T), i < j → xs[i]? = some x → ys[i]? = some y → cmpT x y = 0) → xs[j]? = some x → ys[j]? = some y → cmpT x y ≠ 0 → firstNZ (xs.map cmpT) ys = cmpT x y
  | [], _, j, x, y, _, h, _, _ => by simp at h
  | _ :: _, [], j, x, y, _, _, h, _ => by simp at h
  | a :: r, b :: t, 0, x, y, _, h, h', hz => by
    simp at h h'; subst h; subst h'
    simp only [List.map_cons, firstNZ]
    rw [if_neg hz]
  | a :: r, b :: t, j + 1, x, y, h0, h, h', hz => by
    have e := h0 0 a b (by omega) rfl rfl
    simp only [List.map_cons, firstNZ]
    rw [if_pos e]
    exact first_at r t j x y (fun i x y hi hx hy => h0 (i + 1) x y (by omega) (by simpa using hx) (by simpa using hy)) (by simpa using h) (by simpa using h') hz
theorem first_all : ∀ (xs ys : List T), (∀ (i : Nat) (x y : T), xs[i]? = some x → ys[i]? = some y → cmpT x y = 0) → firstNZ (xs.map cmpT) ys = 0
  | [], _, _ => by simp [firstNZ]
  | _ :: _, [], _ => by simp [firstNZ]
  | a :: r, b :: t, h => by
    have e := h 0 a b rfl rfl
    simp only [List.map_cons, firstNZ]
    rw [if_pos e]
    exact first_all r t (fun i x y hx hy => h (i + 1) x y (by simpa using hx) (by simpa using hy))

def CmpAt (lo lo' h : Nat) : Prop := ∀ (v v' : Value) (t t' : T) (w : World) (h' : Nat), TermAt w lo h v t → TermAt w lo' h' v' t' → wT t ≤ 1048576 → wT t' ≤ 1048576 →
  Calls Try.prog 26 #[v, v'] w (NumB (cmpT t t') w)

theorem below_alloc2 {B : Nat} {w w' : World} (h : Below B w w') (hB : B ≤ w'.heap.size) (o : Obj) : Below B w (w'.alloc o) := h.alloc hB o

set_option maxRecDepth 100000 in
set_option maxHeartbeats 1600000 in
theorem sCmp_step (lo lo' h : Nat) (IH : ∀ g, h = g + 1 → CmpAt lo lo' g) : CmpAt lo lo' h := by
  intro v v' t t' w hh ht ht' hw hw'
  obtain ⟨k, n, s, u, xs, rfl, rfl, hs, ha⟩ := ht
  obtain ⟨k', n', s', u', ys, rfl, rfl, hs', ha'⟩ := ht'
  obtain ⟨a, cap, rfl⟩ := ha.slice
  obtain ⟨a', cap', rfl⟩ := ha'.slice
  clear hs hs'
  have hb2 := boxed2_below w k n s (.slice a xs.length cap) k' n' s' (.slice a' ys.length cap')
  have HA := Lib.hid (ha.below hb2)
  have HA' := Lib.hid (ha'.below hb2)
  have HB0 := Lib.hid hb2; clear hb2 ha ha'
  have HW : Hid (xs.length + wS xs ≤ 1048576) := Lib.hid (by rw [wT_node] at hw; omega)
  have HW' : Hid (ys.length + wS ys ≤ 1048576) := Lib.hid (by rw [wT_node] at hw'; omega)
  clear hw hw'
  have HN := Lib.hid (cmpT_node k n s xs k' n' s' ys)
  obtain ⟨m, hm⟩ : ∃ m, m = xs.length := ⟨_, rfl⟩
  obtain ⟨m', hm'⟩ : ∃ m', m' = ys.length := ⟨_, rfl⟩
  have hml : m ≤ 1048576 := by have := HW.out; omega
  have hml' : m' ≤ 1048576 := by have := HW'.out; omega
  rw [← hm, ← hm'] at HN
  rw [← hm] at HA HA' HB0 ⊢
  rw [← hm'] at HA HA' HB0 ⊢
  have HM := Lib.hid hm; clear hm
  have HM' := Lib.hid hm'; clear hm'
  have HIH := Lib.hid IH; clear IH
  have HK : Hid (∀ w', Below (boxed2 w k n s (.slice a m cap) k' n' s' (.slice a' m' cap')).heap.size (boxed2 w k n s (.slice a m cap) k' n' s' (.slice a' m' cap')) w' → _) := Lib.hid (fun w' hb => boxed2_all hb)
  have hall := HK.out _ (Below.refl _ _)
  obtain ⟨c0, c1, c2, c3, d0, d1, d2, d3, hb0⟩ := hall
  go_enter Try.func26, Try.ntmps26
  go_wp2
  go_region_held3 (fun w' => w'.cell? ⟨w.heap.size, 0, none⟩ = some (.int .i64 k) ∧ w'.cell? ⟨w.heap.size, 1, none⟩ = some (.int .i64 n) ∧ w'.cell? ⟨w.heap.size, 2, none⟩ = some (.string s) ∧ w'.cell? ⟨w.heap.size, 3, none⟩ = some (.slice a m cap) ∧
      w'.cell? ⟨w.heap.size + 1, 0, none⟩ = some (.int .i64 k') ∧ w'.cell? ⟨w.heap.size + 1, 1, none⟩ = some (.int .i64 n') ∧ w'.cell? ⟨w.heap.size + 1, 2, none⟩ = some (.string s') ∧ w'.cell? ⟨w.heap.size + 1, 3, none⟩ = some (.slice a' m' cap') ∧
      Below (boxed2 w k n s (.slice a m cap) k' n' s' (.slice a' m' cap')).heap.size (boxed2 w k n s (.slice a m cap) k' n' s' (.slice a' m' cap')) w')
    (first | exact HK.out _ (by assumption) | exact HK.out _ (Below.drew (by assumption)) | exact HK.out _ (below_alloc2 (by assumption) (Below.size (by assumption)) _) | exact HK.out _ (below_alloc2 (Below.drew (by assumption)) (Below.size (Below.drew (by assumption))) _) | go_keep)
    (first
      | (go_at_call 53; refine (sInts_any _ _ _).mono ?_; rintro e w1 ⟨rfl, rfl⟩)
      | (go_at_call 54; refine (sTexts_any _ _ _).mono ?_; rintro e w1 ⟨rfl, rfl⟩))
  obtain ⟨WX, hWX⟩ : ∃ WX, WX = ((boxed2 w k n s (.slice a m cap) k' n' s' (.slice a' m' cap')).alloc (.cells #[.int .i64 (cmpI k k'), .int .i64 (cmpI n n'), .int .i64 (cmpS s s'), .int .i64 (cmpI (m : Int) (m' : Int))] 3)).drew := ⟨_, rfl⟩
  have hbx : Below (boxed2 w k n s (.slice a m cap) k' n' s' (.slice a' m' cap')).heap.size (boxed2 w k n s (.slice a m cap) k' n' s' (.slice a' m' cap')) WX := by
    rw [hWX]; exact ((Below.refl _ _).alloc (Nat.le_refl _) _).drew
  have hcl : ∀ (j : Nat) (z : Int), (headC k n s m k' n' s' m')[j]? = some z → WX.cell? ⟨w.heap.size + 1 + 1, j, none⟩ = some (.int .i64 z) := by
    intro j z hz
    rw [hWX]
    have e := World.cell?_alloc_mark (boxed2 w k n s (.slice a m cap) k' n' s' (.slice a' m' cap')) #[.int .i64 (cmpI k k'), .int .i64 (cmpI n n'), .int .i64 (cmpS s s'), .int .i64 (cmpI (m : Int) (m' : Int))] 3 (0, 0) j
    have e2 : (boxed2 w k n s (.slice a m cap) k' n' s' (.slice a' m' cap')).heap.size = w.heap.size + 1 + 1 := by simp
    rw [e2] at e
    show (World.alloc _ _).cell? _ = _
    rw [e]
    unfold headC at hz
    match j, hz with
    | 0, hz => simp at hz; subst hz; rfl
    | 1, hz => simp at hz; subst hz; rfl
    | 2, hz => simp at hz; subst hz; rfl
    | 3, hz => simp at hz; subst hz; rfl
    | j + 4, hz => simp at hz
  rw [← hWX]
  have HBX := Lib.hid hbx; clear hbx
  have HCL := Lib.hid hcl; clear hcl hWX hb0 c0 c1 c2 c3 d0 d1 d2 d3 HK
  obtain ⟨L, hL⟩ : ∃ L, L = headC k n s m k' n' s' m' := ⟨_, rfl⟩
  have hLl : L.length = 4 := by rw [hL]; rfl
  rw [← hL] at HCL HN
  have HLL := Lib.hid hLl; clear hLl
  have HLE := Lib.hid hL; clear hL
  have HBE := Lib.hid (HB0.out.trans (HBX.out.mono HB0.out.size))
  go_wp2
  go_loop [6] (fun i => ∃ j : Nat, j ≤ 4 ∧ i = .int .i64 j ∧ Hid (∀ i, i < j → L[i]? = some 0)) (fun i => 4 - (intOf i).toNat)
  case atStart => exact ⟨0, by omega, rfl, Lib.hid (fun i hi => by omega)⟩
  case round =>
    obtain ⟨j, hj, rfl, HZ⟩ := hrel
    by_cases hlt : j < 4
    · obtain ⟨z, hz⟩ : ∃ z, L[j]? = some z := ⟨_, List.getElem?_eq_getElem (by have := HLL.out; omega)⟩
      have hcell := HCL.out j z hz
      by_cases hz0 : z = 0
      · subst hz0
        have HZ2 := Lib.hid hz; clear hz
        go_wp2
        go_round
        case rel =>
          refine ⟨j + 1, by omega, by go_num, Lib.hid fun i hi => ?_⟩
          by_cases hij : i = j
          · subst hij; exact HZ2.out
          · exact HZ.out i (by omega)
        case measure => simp [intOf]; omega
      · have HE : Hid (z = cmpT (.node k n s xs) (.node k' n' s' ys)) := Lib.hid (by
          have h1 := nz_at L j z HZ.out hz hz0
          rw [HN.out, h1, if_neg hz0])
        have hzb : (z != 0) = true := by simpa using hz0
        clear hz hz0
        go_wp2
        go_ret
        exact ⟨by rw [← HE.out]; rfl, HBE.out⟩
    · have hnz : nz L = 0 := nz_all L (fun i hi => HZ.out i (by have := HLL.out; omega))
      have HNF : Hid (cmpT (.node k n s xs) (.node k' n' s' ys) = firstNZ (xs.map cmpT) ys) := Lib.hid (by rw [HN.out, if_pos hnz])
      have hmm : m = m' := by rw [HLE.out] at hnz; exact (head_zero.1 hnz).2.2.2
      have HMM := Lib.hid hmm; clear hnz hmm
      go_wp2
      go_loopw [7] (fun i wr => ∃ j : Nat, j ≤ m ∧ i = .int .i64 j ∧ Hid (∀ i x y, i < j → xs[i]? = some x → ys[i]? = some y → cmpT x y = 0) ∧ Hid (Below (boxed2 w k n s (.slice a m cap) k' n' s' (.slice a' m' cap')).heap.size (boxed2 w k n s (.slice a m cap) k' n' s' (.slice a' m' cap')) wr)) (fun i _ => m - (intOf i).toNat)
      case atStart => exact ⟨0, Nat.zero_le _, rfl, Lib.hid (fun i x y hi => by omega), HBX⟩
      case round =>
        obtain ⟨j, hj, rfl, HF, HB⟩ := hrel
        obtain ⟨cb, cb'⟩ := boxed2_cells HB.out
        by_cases hlt : j < m
        · have hlt' : j < m' := by have := HMM.out; omega
          obtain ⟨x, hx⟩ : ∃ x, xs[j]? = some x := ⟨_, List.getElem?_eq_getElem (by have := HM.out; omega)⟩
          obtain ⟨y, hy⟩ : ∃ y, ys[j]? = some y := ⟨_, List.getElem?_eq_getElem (by have := HM'.out; omega)⟩
          have hwt := wT_at xs j _ hx
          have hwt' := wT_at ys j _ hy
          have hwx : wT x ≤ 1048576 := by have := HW.out; omega
          have hwy : wT y ≤ 1048576 := by have := HW'.out; omega
          clear hwt hwt'
          obtain ⟨g1, b, o, tk1, tn1, ts1, tx1, u1, e1, rfl, rfl, hz1, c0, c1, c2, c3, har⟩ := HA.out.at hx
          obtain ⟨g2, b', o', tk2, tn2, ts2, tx2, u2, e2, rfl, rfl, hz2, d0, d1, d2, d3, har'⟩ := HA'.out.at hy
          have h10 : Cells10 wr w.heap.size (.slice (some ⟨b, o, none⟩) m cap) (.slice (some ⟨b', o', none⟩) m' cap') b (o + j * 4) b' (o' + j * 4) tk1 tn1 ts1 u1 tk2 tn2 ts2 u2 wr :=
            ⟨cb, cb', cell_on HB.out c0, cell_on HB.out c1, cell_on HB.out c2, cell_on HB.out c3, cell_on HB.out d0, cell_on HB.out d1, cell_on HB.out d2, cell_on HB.out d3, Below.refl _ _⟩
          obtain ⟨z, hz⟩ : ∃ z, z = cmpT (.node tk1 tn1 ts1 tx1) (.node tk2 tn2 ts2 tx2) := ⟨_, rfl⟩
          have HCALL : Hid (∀ w', Below wr.heap.size wr w' → Calls Try.prog 26 #[tv tk1 tn1 ts1 u1, tv tk2 tn2 ts2 u2] w' (NumB z w')) :=
            Lib.hid (fun w' hb => by rw [hz]; exact HIH.out g1 e1 _ _ _ _ w' g2 ⟨tk1, tn1, ts1, u1, tx1, rfl, rfl, hz1, (har.below HB.out).below hb⟩ ⟨tk2, tn2, ts2, u2, tx2, rfl, rfl, hz2, (har'.below HB.out).below hb⟩ hwx hwy)
          have HK2 : Hid (∀ w', Below wr.heap.size wr w' → Cells10 wr w.heap.size (.slice (some ⟨b, o, none⟩) m cap) (.slice (some ⟨b', o', none⟩) m' cap') b (o + j * 4) b' (o' + j * 4) tk1 tn1 ts1 u1 tk2 tn2 ts2 u2 w') := Lib.hid (fun w' hb => h10.on hb)
          obtain ⟨r0, r1, c0, c1, c2, c3, d0, d1, d2, d3, hb0⟩ := h10
          clear cb cb' har har' hz1 hz2 e1 e2 hwx hwy
          have HX := Lib.hid hx; clear hx
          have HY := Lib.hid hy; clear hy
          have HZE := Lib.hid hz; clear hz
          by_cases hz0 : z = 0
          · subst hz0
            go_wp2
            go_region_held3 (fun w' => w'.cell? ⟨w.heap.size, 3, none⟩ = some (.slice (some ⟨b, o, none⟩) m cap) ∧ w'.cell? ⟨w.heap.size + 1, 3, none⟩ = some (.slice (some ⟨b', o', none⟩) m' cap') ∧
                w'.cell? ⟨b, o + j * 4, none⟩ = some (.int .i64 tk1) ∧ w'.cell? ⟨b, o + j * 4 + 1, none⟩ = some (.int .i64 tn1) ∧ w'.cell? ⟨b, o + j * 4 + 2, none⟩ = some (.string ts1) ∧ w'.cell? ⟨b, o + j * 4 + 3, none⟩ = some u1 ∧
                w'.cell? ⟨b', o' + j * 4, none⟩ = some (.int .i64 tk2) ∧ w'.cell? ⟨b', o' + j * 4 + 1, none⟩ = some (.int .i64 tn2) ∧ w'.cell? ⟨b', o' + j * 4 + 2, none⟩ = some (.string ts2) ∧ w'.cell? ⟨b', o' + j * 4 + 3, none⟩ = some u2 ∧ Below wr.heap.size wr w')
              (first | exact HK2.out _ (by assumption) | exact HK2.out _ (bel_drew (by assumption)) | exact HK2.out _ (Below.drew (by assumption)) | go_keep)
              (first | (go_at_call 26; refine (HCALL.out _ (by first | assumption | exact Below.drew (by assumption))).mono ?_; rintro e w1 ⟨rfl, hb1⟩))
            have HB2 := Lib.hid (HB.out.trans ((bel_drew hb1).mono HB.out.size)); clear hb1
            go_wp2
            go_roundw
            case rel =>
              refine ⟨j + 1, by omega, by go_num, Lib.hid fun i x y hi hx hy => ?_, HB2⟩
              by_cases hij : i = j
              · subst hij
                rw [HX.out] at hx; rw [HY.out] at hy
                cases hx; cases hy
                exact HZE.out.symm
              · exact HF.out i x y (by omega) hx hy
            case measure => simp [intOf]; omega
          · have HE : Hid (z = cmpT (.node k n s xs) (.node k' n' s' ys)) := Lib.hid (by
              rw [HNF.out, first_at xs ys j _ _ HF.out HX.out HY.out (by rw [← HZE.out]; exact hz0)]
              exact HZE.out)
            have hzb : (z != 0) = true := by simpa using hz0
            clear hz0
            go_wp2
            go_region_held3 (fun w' => w'.cell? ⟨w.heap.size, 3, none⟩ = some (.slice (some ⟨b, o, none⟩) m cap) ∧ w'.cell? ⟨w.heap.size + 1, 3, none⟩ = some (.slice (some ⟨b', o', none⟩) m' cap') ∧
                w'.cell? ⟨b, o + j * 4, none⟩ = some (.int .i64 tk1) ∧ w'.cell? ⟨b, o + j * 4 + 1, none⟩ = some (.int .i64 tn1) ∧ w'.cell? ⟨b, o + j * 4 + 2, none⟩ = some (.string ts1) ∧ w'.cell? ⟨b, o + j * 4 + 3, none⟩ = some u1 ∧
                w'.cell? ⟨b', o' + j * 4, none⟩ = some (.int .i64 tk2) ∧ w'.cell? ⟨b', o' + j * 4 + 1, none⟩ = some (.int .i64 tn2) ∧ w'.cell? ⟨b', o' + j * 4 + 2, none⟩ = some (.string ts2) ∧ w'.cell? ⟨b', o' + j * 4 + 3, none⟩ = some u2 ∧ Below wr.heap.size wr w')
              (first | exact HK2.out _ (by assumption) | exact HK2.out _ (bel_drew (by assumption)) | exact HK2.out _ (Below.drew (by assumption)) | go_keep)
              (first | (go_at_call 26; refine (HCALL.out _ (by first | assumption | exact Below.drew (by assumption))).mono ?_; rintro e w1 ⟨rfl, hb1⟩))
            have HB2 := Lib.hid (HB.out.trans ((bel_drew hb1).mono HB.out.size)); clear hb1
            go_wp2
            go_ret
            exact ⟨by rw [← HE.out]; rfl, HB0.out.trans (HB2.out.mono HB0.out.size)⟩
        · have HE : Hid (cmpT (.node k n s xs) (.node k' n' s' ys) = 0) := Lib.hid (by
            rw [HNF.out]
            exact first_all xs ys (fun i x y hx hy => HF.out i x y (by have := (List.getElem?_eq_some_iff.1 hx).1; have := HM.out; omega) hx hy))
          go_wp2
          go_ret
          exact ⟨by rw [HE.out]; rfl, HB0.out.trans (HB.out.mono HB0.out.size)⟩

theorem sCmp_any (lo lo' : Nat) (h : Nat) : CmpAt lo lo' h := by_height (sCmp_step lo lo') h
end Go.Proofs.Ytbechogdijkgjaa
