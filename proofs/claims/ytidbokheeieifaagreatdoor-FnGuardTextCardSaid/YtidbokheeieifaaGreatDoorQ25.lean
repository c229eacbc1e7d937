/-
  spec.FormatGuard and impl.FormatGuard: the texts of the sides with the sign between them.
-/
import Derived.Test.YtidbokheeieifaaGreatDoorQ22
import Derived.Test.YtidbokheeieifaaGreatDoorQ24
import Derived.Test.YtidbokheeieifaaGreatDoorQ12
import Derived.Test.YtidbokheeieifaaGreatDoorQ10
import Derived.Deep.RegionHeld3
namespace Go.Proofs.YtidbokheeieifaaGreatDoor
open Go.RowKit

theorem fmtT_sizeG (t : T) : (fmtT t).size ≤ 720 := by
  by_cases h : ValidT t
  · rw [fmtT_ok h, strT_size]
    have h1 := textL_le t h.2.2
    have h2 := h.1
    omega
  · rw [fmtT_no h]; exact Nat.zero_le _
theorem in_anyG (a b c : Int) (w : World) : Calls Tryz.prog 45 #[.int .i64 a, .int .i64 b, .int .i64 c] w (fun e w' => e = .returned (.bool (decide (b ≤ a) && decide (a ≤ c))) ∧ w' = w) := by
  by_cases h1 : b ≤ a
  · have h1' : decide (b ≤ a) = true := by simpa using h1
    by_cases h2 : a ≤ c
    · have h2' : decide (a ≤ c) = true := by simpa using h2
      go_enter Tryz.func45, Tryz.ntmps45
      go_wp2
      go_ret
      exact ⟨by simp [h1, h2], rfl⟩
    · have h2' : decide (a ≤ c) = false := by simpa using h2
      go_enter Tryz.func45, Tryz.ntmps45
      go_wp2
      go_ret
      exact ⟨by simp [h1, h2], rfl⟩
  · have h1' : decide (b ≤ a) = false := by simpa using h1
    go_enter Tryz.func45, Tryz.ntmps45
    go_wp2
    go_ret
    exact ⟨by simp [h1], rfl⟩

/-- What stands between the sides of a guard. -/
def signB (k : Int) : ByteArray := if k = 1 then ⟨#[32, 61, 61, 32]⟩ else if k = 2 then ⟨#[32, 33, 61, 32]⟩ else if k = 3 then ⟨#[32, 60, 32]⟩ else ByteArray.empty
theorem sign_size (k : Int) : (signB k).size ≤ 4 := by
  unfold signB
  split
  · decide
  · split
    · decide
    · split
      · decide
      · decide
/-- The text of a guard. -/
noncomputable def fmtG (g : Gd) : ByteArray := if (fmtT g.l).toList = [] ∨ (fmtT g.r).toList = [] ∨ (signB g.kd).toList = [] then ByteArray.empty else fmtT g.l ++ signB g.kd ++ fmtT g.r
def FmtGB (g : Gd) (w : World) (e : Ending) (w' : World) : Prop := e = .returned (.string (fmtG g)) ∧ Below w.heap.size w w'
def SignB (k : Int) (w : World) (e : Ending) (w' : World) : Prop := e = .returned (.string (signB k)) ∧ Below w.heap.size w w'

set_option maxRecDepth 100000 in
set_option maxHeartbeats 1600000 in
theorem iSign_any (k : Int) (w : World) : Calls Tryz.prog 21 #[.int .i64 k] w (SignB k w) := by
  by_cases h1 : k = 1
  · subst h1
    go_enter Tryz.func21, Tryz.ntmps21
    go_wp2
    go_ret
    exact ⟨rfl, Below.refl _ _⟩
  by_cases h2 : k = 2
  · subst h2
    go_enter Tryz.func21, Tryz.ntmps21
    go_wp2
    go_ret
    exact ⟨rfl, Below.refl _ _⟩
  by_cases h3 : k = 3
  · subst h3
    go_enter Tryz.func21, Tryz.ntmps21
    go_wp2
    go_ret
    exact ⟨rfl, Below.refl _ _⟩
  have HS : Hid (signB k = ByteArray.empty) := Lib.hid (by unfold signB; rw [if_neg h1, if_neg h2, if_neg h3])
  have e1 : (k == 1) = false := by simpa using h1
  have e2 : (k == 2) = false := by simpa using h2
  have e3 : (k == 3) = false := by simpa using h3
  go_enter Tryz.func21, Tryz.ntmps21
  go_wp2
  go_ret
  exact ⟨by rw [HS.out]; rfl, Below.refl _ _⟩

set_option maxRecDepth 100000 in
set_option maxHeartbeats 1600000 in
theorem sSign_any (k : Int) (w : World) : Calls Tryz.prog 26 #[.int .i64 k] w (SignB k w) := by
  have HC := Lib.hid (fun (a : Int) (w' : World) => in_anyG a 1 3 w')
  have HB : Hid (∀ o, Below w.heap.size w (w.alloc o)) := Lib.hid (fun o => (Below.refl _ _).alloc (Nat.le_refl _) o)
  by_cases h1 : k = 1
  · subst h1
    go_enter Tryz.func26, Tryz.ntmps26
    go_wp2_with fail
    refine (HC.out 1 _).mono ?_
    rintro e w' ⟨rfl, hw'⟩
    rw [hw', show (decide ((1 : Int) ≤ 1) && decide ((1 : Int) ≤ 3)) = true from rfl]
    go_wp2
    go_ret
    exact ⟨rfl, HB.out _⟩
  by_cases h2 : k = 2
  · subst h2
    go_enter Tryz.func26, Tryz.ntmps26
    go_wp2_with fail
    refine (HC.out 2 _).mono ?_
    rintro e w' ⟨rfl, hw'⟩
    rw [hw', show (decide ((1 : Int) ≤ 2) && decide ((2 : Int) ≤ 3)) = true from rfl]
    go_wp2
    go_ret
    exact ⟨rfl, HB.out _⟩
  by_cases h3 : k = 3
  · subst h3
    go_enter Tryz.func26, Tryz.ntmps26
    go_wp2_with fail
    refine (HC.out 3 _).mono ?_
    rintro e w' ⟨rfl, hw'⟩
    rw [hw', show (decide ((1 : Int) ≤ 3) && decide ((3 : Int) ≤ 3)) = true from rfl]
    go_wp2
    go_ret
    exact ⟨rfl, HB.out _⟩
  have HS : Hid (signB k = ByteArray.empty) := Lib.hid (by unfold signB; rw [if_neg h1, if_neg h2, if_neg h3])
  have e1 : (decide (1 ≤ k) && decide (k ≤ 3)) = false := by simp; omega
  go_enter Tryz.func26, Tryz.ntmps26
  go_wp2_with fail
  refine (HC.out k _).mono ?_
  rintro e w' ⟨rfl, hw'⟩
  rw [hw', e1]
  go_wp2
  go_ret
  exact ⟨by rw [HS.out]; rfl, Below.refl _ _⟩

/-- What the walk behind the three texts answers. -/
theorem fmtG_of {kd : Int} {l r : T} : fmtG ⟨kd, l, r⟩ = if (fmtT l).toList = [] ∨ (fmtT r).toList = [] ∨ (signB kd).toList = [] then ByteArray.empty else fmtT l ++ signB kd ++ fmtT r := rfl

set_option maxRecDepth 100000 in
set_option maxHeartbeats 3200000 in
theorem sFmtG_any (v : Value) (g : Gd) (lo h : Nat) (w : World) (hv : GAt w lo h v g) (hw : wG g ≤ 1048576) :
    Calls Tryz.prog 10 #[v] w (FmtGB g w) := by
  obtain ⟨k, n, s, u, k', n', s', u', rfl, ht1, ht2⟩ := hv
  obtain ⟨kd, t1, t2⟩ := g
  have hw1 : wT t1 ≤ 1048576 := by unfold wG at hw; simp only at hw; omega
  have hw2 : wT t2 ≤ 1048576 := by unfold wG at hw; simp only at hw; omega
  clear hw
  obtain ⟨W, hW⟩ : ∃ W, W = w.alloc (.cells #[.int .i64 kd, .int .i64 k, .int .i64 n, .string s, u, .int .i64 k', .int .i64 n', .string s', u'] 28) := ⟨_, rfl⟩
  have hb0 : Below w.heap.size w W := by rw [hW]; exact (Below.refl _ _).alloc (Nat.le_refl _) _
  have hr : W.heap[w.heap.size]? = some (grow 28 kd k n s u k' n' s' u') := by rw [hW]; exact heap_new _ _ rfl
  have HR := Lib.hid hr; clear hr
  have HT1 := Lib.hid (ht1.below hb0); clear ht1
  have HT2 := Lib.hid (ht2.below hb0); clear ht2
  have HB0 := Lib.hid hb0; clear hb0
  obtain ⟨r, hrr⟩ : ∃ r, r = fmtG ⟨kd, t1, t2⟩ := ⟨_, rfl⟩
  obtain ⟨x, hx⟩ : ∃ x, x = fmtT t1 := ⟨_, rfl⟩
  obtain ⟨y, hy⟩ : ∃ y, y = fmtT t2 := ⟨_, rfl⟩
  obtain ⟨z, hz⟩ : ∃ z, z = signB kd := ⟨_, rfl⟩
  have HE : Hid (r = if x.toList = [] ∨ y.toList = [] ∨ z.toList = [] then ByteArray.empty else x ++ z ++ y) := Lib.hid (by rw [hrr, hx, hy, hz]; rfl)
  have hxs : x.size ≤ 720 := by rw [hx]; exact fmtT_sizeG _
  have hys : y.size ≤ 720 := by rw [hy]; exact fmtT_sizeG _
  have hzs : z.size ≤ 4 := by rw [hz]; exact sign_size _
  have HC1 := Lib.hid (sFmtT_any (tv k n s u) t1 lo h W HT1.out hw1)
  have HC2 := Lib.hid (fun (w1 : World) (hb : Below W.heap.size W w1) => sFmtT_any (tv k' n' s' u') t2 lo h w1 (HT2.out.below hb) hw2)
  have HC3 := Lib.hid (fun (w1 : World) => sSign_any kd w1)
  unfold FmtB5 at HC1 HC2
  unfold SignB at HC3
  unfold FmtGB
  rw [← hrr]
  rw [← hx] at HC1
  rw [← hy] at HC2
  rw [← hz] at HC3
  clear hrr hx hy hz HT1 HT2
  go_enter Tryz.func10, Tryz.ntmps10
  go_wp2_with fail
  rw [← hW]
  clear hW
  refine HC1.out.mono ?_
  rintro e w1 ⟨rfl, hb1⟩
  have HB1 := Lib.hid hb1; clear hb1
  obtain ⟨a0, a1, a2, a3, a4, a5, a6, a7, a8⟩ := cells_of9 ((HB1.out.block _ (Array.getElem?_eq_some_iff.1 HR.out).1).trans HR.out)
  clear a0 a1 a2 a3 a4
  go_wp2_with fail
  refine (HC2.out w1 HB1.out).mono ?_
  rintro e w2 ⟨rfl, hb2⟩
  have HB2 := Lib.hid (bel_two HB1.out hb2); clear hb2 a5 a6 a7 a8
  obtain ⟨a0, a1, a2, a3, a4, a5, a6, a7, a8⟩ := cells_of9 ((HB2.out.block _ (Array.getElem?_eq_some_iff.1 HR.out).1).trans HR.out)
  clear a1 a2 a3 a4 a5 a6 a7 a8
  go_wp2_with fail
  refine (HC3.out w2).mono ?_
  rintro e w3 ⟨rfl, hb3⟩
  have HB3 := Lib.hid (HB0.out.trans ((bel_two HB2.out hb3).mono HB0.out.size)); clear hb3 a0
  by_cases hx : x.toList = []
  · have hbx : (x.toList == []) = true := by simpa using hx
    have HN : Hid (r = ByteArray.empty) := Lib.hid (by rw [HE.out, if_pos (by simp [hx])])
    clear hx
    go_wp2
    go_ret
    exact ⟨by rw [HN.out]; rfl, HB3.out⟩
  have hbx : (x.toList == []) = false := by simpa using hx
  by_cases hy : y.toList = []
  · have hby : (y.toList == []) = true := by simpa using hy
    have HN : Hid (r = ByteArray.empty) := Lib.hid (by rw [HE.out, if_pos (by simp [hy])])
    clear hy
    go_wp2
    go_ret
    exact ⟨by rw [HN.out]; rfl, HB3.out⟩
  have hby : (y.toList == []) = false := by simpa using hy
  by_cases hz : z.toList = []
  · have hbz : (z.toList == []) = true := by simpa using hz
    have HN : Hid (r = ByteArray.empty) := Lib.hid (by rw [HE.out, if_pos (by simp [hz])])
    clear hz
    go_wp2
    go_ret
    exact ⟨by rw [HN.out]; rfl, HB3.out⟩
  have hbz : (z.toList == []) = false := by simpa using hz
  have HN : Hid (r = x ++ z ++ y) := Lib.hid (by rw [HE.out, if_neg (by simp [hx, hy, hz])])
  clear hx hy hz
  have hs1 : ¬ 9223372036854775807 < x.size + z.size := by omega
  have hs2 : ¬ 9223372036854775807 < (x ++ z).size + y.size := by rw [ByteArray.size_append]; omega
  go_wp2
  go_ret
  exact ⟨by rw [HN.out]; rfl, HB3.out⟩
set_option maxRecDepth 100000 in
set_option maxHeartbeats 3200000 in
theorem iFmtG_any (v : Value) (g : Gd) (lo h : Nat) (w : World) (hv : GAt w lo h v g) (hw : wG g ≤ 1048576) (hp : PowTab w) (hs : 1 < w.heap.size) :
    Calls Tryz.prog 7 #[v] w (FmtGB g w) := by
  obtain ⟨k, n, s, u, k', n', s', u', rfl, ht1, ht2⟩ := hv
  obtain ⟨kd, t1, t2⟩ := g
  have hw1 : wT t1 ≤ 1048576 := by unfold wG at hw; simp only at hw; omega
  have hw2 : wT t2 ≤ 1048576 := by unfold wG at hw; simp only at hw; omega
  clear hw
  obtain ⟨W, hW⟩ : ∃ W, W = w.alloc (.cells #[.int .i64 kd, .int .i64 k, .int .i64 n, .string s, u, .int .i64 k', .int .i64 n', .string s', u'] 28) := ⟨_, rfl⟩
  have hb0 : Below w.heap.size w W := by rw [hW]; exact (Below.refl _ _).alloc (Nat.le_refl _) _
  have hr : W.heap[w.heap.size]? = some (grow 28 kd k n s u k' n' s' u') := by rw [hW]; exact heap_new _ _ rfl
  have hK : ∀ w', Below W.heap.size W w' → (w'.cell? ⟨w.heap.size, 0, none⟩ = some (.int .i64 kd) ∧ w'.cell? ⟨w.heap.size, 1, none⟩ = some (.int .i64 k) ∧ w'.cell? ⟨w.heap.size, 2, none⟩ = some (.int .i64 n) ∧ w'.cell? ⟨w.heap.size, 3, none⟩ = some (.string s) ∧ w'.cell? ⟨w.heap.size, 4, none⟩ = some u ∧ w'.cell? ⟨w.heap.size, 5, none⟩ = some (.int .i64 k') ∧ w'.cell? ⟨w.heap.size, 6, none⟩ = some (.int .i64 n') ∧ w'.cell? ⟨w.heap.size, 7, none⟩ = some (.string s') ∧ w'.cell? ⟨w.heap.size, 8, none⟩ = some u' ∧ Below W.heap.size W w') := fun w' hb => by
    obtain ⟨x0, x1, x2, x3, x4, x5, x6, x7, x8⟩ := cells_of9 ((hb.block w.heap.size (Array.getElem?_eq_some_iff.1 hr).1).trans hr)
    exact ⟨x0, x1, x2, x3, x4, x5, x6, x7, x8, hb⟩
  have HK := Lib.hid hK; clear hK hr
  have HP : Hid (∀ w', Below W.heap.size W w' → PowTab w' ∧ 1 < w'.heap.size) := Lib.hid (fun w' hb => ⟨hp.below (hb0.trans (hb.mono hb0.size)) hs, Nat.lt_of_lt_of_le hs (hb0.trans (hb.mono hb0.size)).size⟩)
  have HT1 := Lib.hid (ht1.below hb0); clear ht1
  have HT2 := Lib.hid (ht2.below hb0); clear ht2
  have HB0 := Lib.hid hb0; clear hb0
  obtain ⟨r, hrr⟩ : ∃ r, r = fmtG ⟨kd, t1, t2⟩ := ⟨_, rfl⟩
  obtain ⟨x, hx⟩ : ∃ x, x = fmtT t1 := ⟨_, rfl⟩
  obtain ⟨y, hy⟩ : ∃ y, y = fmtT t2 := ⟨_, rfl⟩
  obtain ⟨z, hz⟩ : ∃ z, z = signB kd := ⟨_, rfl⟩
  have HE : Hid (r = if x.toList = [] ∨ y.toList = [] ∨ z.toList = [] then ByteArray.empty else x ++ z ++ y) := Lib.hid (by rw [hrr, hx, hy, hz]; rfl)
  have hxs : x.size ≤ 720 := by rw [hx]; exact fmtT_sizeG _
  have hys : y.size ≤ 720 := by rw [hy]; exact fmtT_sizeG _
  have hzs : z.size ≤ 4 := by rw [hz]; exact sign_size _
  have HC1 := Lib.hid (fun (w1 : World) (hb : Below W.heap.size W w1) => iFmtT_any (tv k n s u) t1 lo h w1 (HT1.out.below hb) hw1 (HP.out w1 hb).1 (HP.out w1 hb).2)
  have HC2 := Lib.hid (fun (w1 : World) (hb : Below W.heap.size W w1) => iFmtT_any (tv k' n' s' u') t2 lo h w1 (HT2.out.below hb) hw2 (HP.out w1 hb).1 (HP.out w1 hb).2)
  have HC3 := Lib.hid (fun (w1 : World) => iSign_any kd w1)
  unfold FmtB5 at HC1 HC2
  unfold SignB at HC3
  unfold FmtGB
  rw [← hrr]
  rw [← hx] at HC1
  rw [← hy] at HC2
  rw [← hz] at HC3
  clear hrr hx hy hz HT1 HT2 hp hs
  go_enter Tryz.func7, Tryz.ntmps7
  go_upto_region 1 with fail
  rw [← hW]
  clear hW
  have hbb0 := Below.refl W.heap.size W
  obtain ⟨c0, c1, c2, c3, c4, c5, c6, c7, c8, _⟩ := HK.out _ hbb0
  have HF0 := Lib.hid True.intro
  go_region_held3 (fun w' => w'.cell? ⟨w.heap.size, 0, none⟩ = some (.int .i64 kd) ∧ w'.cell? ⟨w.heap.size, 1, none⟩ = some (.int .i64 k) ∧ w'.cell? ⟨w.heap.size, 2, none⟩ = some (.int .i64 n) ∧ w'.cell? ⟨w.heap.size, 3, none⟩ = some (.string s) ∧ w'.cell? ⟨w.heap.size, 4, none⟩ = some u ∧ w'.cell? ⟨w.heap.size, 5, none⟩ = some (.int .i64 k') ∧ w'.cell? ⟨w.heap.size, 6, none⟩ = some (.int .i64 n') ∧ w'.cell? ⟨w.heap.size, 7, none⟩ = some (.string s') ∧ w'.cell? ⟨w.heap.size, 8, none⟩ = some u' ∧ Below W.heap.size W w')
    (first | with_reducible exact HK.out _ (by with_reducible assumption) | with_reducible exact HK.out _ (bel_drew (by with_reducible assumption)) | with_reducible exact HK.out _ (Below.drew (by with_reducible assumption)) | go_keep)
    (first
      | (clear HF0; go_at_call 21; refine (HC3.out _).mono ?_; rintro e w1 ⟨rfl, hb1⟩; have hB1 : Below W.heap.size W w1 := (by first | exact bel_two hbb0 hb1 | exact bel_two (Below.drew hbb0) hb1); have HFA := Lib.hid True.intro)
      | (clear HFA; go_at_call 22; refine (HC1.out _ (by first | assumption | exact Below.drew (by assumption))).mono ?_; rintro e w2 ⟨rfl, hb2⟩; have hB2 : Below W.heap.size W w2 := (by first | exact bel_two hB1 hb2 | exact bel_two (Below.drew hB1) hb2); have HFB := Lib.hid True.intro)
      | (clear HFB; go_at_call 22; refine (HC2.out _ (by first | assumption | exact Below.drew (by assumption))).mono ?_; rintro e w3 ⟨rfl, hb3⟩; have hB3 : Below W.heap.size W w3 := (by first | exact bel_two hB2 hb3 | exact bel_two (Below.drew hB2) hb3)))
  have HB3 := Lib.hid (HB0.out.trans (hB3.mono HB0.out.size))
  clear hb1 hb2 hb3 hB1 hB2 hB3 hbb0 c0 c1 c2 c3 c4 c5 c6 c7 c8
  by_cases hz : z.toList = []
  · have hbz : (z.toList == []) = true := by simpa using hz
    have HN : Hid (r = ByteArray.empty) := Lib.hid (by rw [HE.out, if_pos (by simp [hz])])
    clear hz
    go_wp2
    go_ret
    exact ⟨by rw [HN.out]; rfl, HB3.out⟩
  have hbz : (z.toList == []) = false := by simpa using hz
  by_cases hx : x.toList = []
  · have hbx : (x.toList == []) = true := by simpa using hx
    have HN : Hid (r = ByteArray.empty) := Lib.hid (by rw [HE.out, if_pos (by simp [hx])])
    clear hx
    go_wp2
    go_ret
    exact ⟨by rw [HN.out]; rfl, HB3.out⟩
  have hbx : (x.toList == []) = false := by simpa using hx
  by_cases hy : y.toList = []
  · have hby : (y.toList == []) = true := by simpa using hy
    have HN : Hid (r = ByteArray.empty) := Lib.hid (by rw [HE.out, if_pos (by simp [hy])])
    clear hy
    go_wp2
    go_ret
    exact ⟨by rw [HN.out]; rfl, HB3.out⟩
  have hby : (y.toList == []) = false := by simpa using hy
  have HN : Hid (r = x ++ z ++ y) := Lib.hid (by rw [HE.out, if_neg (by simp [hx, hy, hz])])
  clear hx hy hz
  have hs1 : ¬ 9223372036854775807 < x.size + z.size := by omega
  have hs2 : ¬ 9223372036854775807 < (x ++ z).size + y.size := by rw [ByteArray.size_append]; omega
  go_wp2
  go_ret
  exact ⟨by rw [HN.out]; rfl, HB3.out⟩
end Go.Proofs.YtidbokheeieifaaGreatDoor
