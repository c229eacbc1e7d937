/-
  spec.FormatGuard and impl.FormatGuard: the texts of the sides with the sign between them.
  The law on FormatGuard: its walk.
  A term that came in, as the walks take it. No walk.
  A Guard that came in as an argument. No walk.
  What the library's table of powers of ten holds when the call begins.
-/
import Derived.Test.YtidbokheeieifaaDoorQ12
import Derived.Test.YtidbokheeieifaaDoorQ13
import Derived.Test.YtidbokheeieifaaDoorQ9
import Derived.Test.YtidbokheeieifaaDoorQ7
import Derived.Test.YtidbokheeieifaaDoorQ3
import Derived.Deep.RegionHeld3
import Derived.ProofKit
import Derived.SizedLaws
import Derived.LaidMore
import Derived.OpenShut
import Derived.Stop.Joined
import Derived.Stop.LaidErr
import Derived.LaidHandle
import Derived.MakeChecks
namespace Go.Proofs.YtidbokheeieifaaDoor
open Go.RowKit

theorem fmtT_sizeG (t : T) : (fmtT t).size ≤ 720 := by
  by_cases h : ValidT t
  · rw [fmtT_ok h, strT_size]
    have h1 := textL_le t h.2.2
    have h2 := h.1
    omega
  · rw [fmtT_no h]; exact Nat.zero_le _
theorem in_anyG (a b c : Int) (w : World) : Calls Tryd.prog 19 #[.int .i64 a, .int .i64 b, .int .i64 c] w (fun e w' => e = .returned (.bool (decide (b ≤ a) && decide (a ≤ c))) ∧ w' = w) := by
  by_cases h1 : b ≤ a
  · have h1' : decide (b ≤ a) = true := by simpa using h1
    by_cases h2 : a ≤ c
    · have h2' : decide (a ≤ c) = true := by simpa using h2
      go_enter Tryd.func19, Tryd.ntmps19
      go_wp2
      go_ret
      exact ⟨by simp [h1, h2], rfl⟩
    · have h2' : decide (a ≤ c) = false := by simpa using h2
      go_enter Tryd.func19, Tryd.ntmps19
      go_wp2
      go_ret
      exact ⟨by simp [h1, h2], rfl⟩
  · have h1' : decide (b ≤ a) = false := by simpa using h1
    go_enter Tryd.func19, Tryd.ntmps19
    go_wp2
    go_ret
    exact ⟨by simp [h1], rfl⟩

/-- What stands between the sides of a guard. -/
def signB (k : Int) : ByteArray := if k = 1 then ⟨#[32, 61, 61, 32]⟩ else if k = 2 then ⟨#[32, 33, 61, 32]⟩ else if k = 3 then ⟨#[32, 60, 32]⟩ else ByteArray.empty
theorem sign_size (k : Int) : (signB k).size ≤ 4 := by
  unfold signB
  split
  · decide
  · split
    · decide
    · split
      · decide
      · decide
/-- The text of a guard. -/
noncomputable def fmtG (g : Gd) : ByteArray := if (fmtT g.l).toList = [] ∨ (fmtT g.r).toList = [] ∨ (signB g.kd).toList = [] then ByteArray.empty else fmtT g.l ++ signB g.kd ++ fmtT g.r
def FmtGB (g : Gd) (w : World) (e : Ending) (w' : World) : Prop := e = .returned (.string (fmtG g)) ∧ Below w.heap.size w w'
def SignB (k : Int) (w : World) (e : Ending) (w' : World) : Prop := e = .returned (.string (signB k)) ∧ Below w.heap.size w w'

set_option maxRecDepth 100000 in
set_option maxHeartbeats 1600000 in
theorem iSign_any (k : Int) (w : World) : Calls Tryd.prog 13 #[.int .i64 k] w (SignB k w) := by
  by_cases h1 : k = 1
  · subst h1
    go_enter Tryd.func13, Tryd.ntmps13
    go_wp2
    go_ret
    exact ⟨rfl, Below.refl _ _⟩
  by_cases h2 : k = 2
  · subst h2
    go_enter Tryd.func13, Tryd.ntmps13
    go_wp2
    go_ret
    exact ⟨rfl, Below.refl _ _⟩
  by_cases h3 : k = 3
  · subst h3
    go_enter Tryd.func13, Tryd.ntmps13
    go_wp2
    go_ret
    exact ⟨rfl, Below.refl _ _⟩
  have HS : Hid (signB k = ByteArray.empty) := Lib.hid (by unfold signB; rw [if_neg h1, if_neg h2, if_neg h3])
  have e1 : (k == 1) = false := by simpa using h1
  have e2 : (k == 2) = false := by simpa using h2
  have e3 : (k == 3) = false := by simpa using h3
  go_enter Tryd.func13, Tryd.ntmps13
  go_wp2
  go_ret
  exact ⟨by rw [HS.out]; rfl, Below.refl _ _⟩

set_option maxRecDepth 100000 in
set_option maxHeartbeats 1600000 in
theorem sSign_any (k : Int) (w : World) : Calls Tryd.prog 11 #[.int .i64 k] w (SignB k w) := by
  have HC := Lib.hid (fun (a : Int) (w' : World) => in_anyG a 1 3 w')
  have HB : Hid (∀ o, Below w.heap.size w (w.alloc o)) := Lib.hid (fun o => (Below.refl _ _).alloc (Nat.le_refl _) o)
  by_cases h1 : k = 1
  · subst h1
    go_enter Tryd.func11, Tryd.ntmps11
    go_wp2_with fail
    refine (HC.out 1 _).mono ?_
    rintro e w' ⟨rfl, hw'⟩
    rw [hw', show (decide ((1 : Int) ≤ 1) && decide ((1 : Int) ≤ 3)) = true from rfl]
    go_wp2
    go_ret
    exact ⟨rfl, HB.out _⟩
  by_cases h2 : k = 2
  · subst h2
    go_enter Tryd.func11, Tryd.ntmps11
    go_wp2_with fail
    refine (HC.out 2 _).mono ?_
    rintro e w' ⟨rfl, hw'⟩
    rw [hw', show (decide ((1 : Int) ≤ 2) && decide ((2 : Int) ≤ 3)) = true from rfl]
    go_wp2
    go_ret
    exact ⟨rfl, HB.out _⟩
  by_cases h3 : k = 3
  · subst h3
    go_enter Tryd.func11, Tryd.ntmps11
    go_wp2_with fail
    refine (HC.out 3 _).mono ?_
    rintro e w' ⟨rfl, hw'⟩
    rw [hw', show (decide ((1 : Int) ≤ 3) && decide ((3 : Int) ≤ 3)) = true from rfl]
    go_wp2
    go_ret
    exact ⟨rfl, HB.out _⟩
  have HS : Hid (signB k = ByteArray.empty) := Lib.hid (by unfold signB; rw [if_neg h1, if_neg h2, if_neg h3])
  have e1 : (decide (1 ≤ k) && decide (k ≤ 3)) = false := by simp; omega
  go_enter Tryd.func11, Tryd.ntmps11
  go_wp2_with fail
  refine (HC.out k _).mono ?_
  rintro e w' ⟨rfl, hw'⟩
  rw [hw', e1]
  go_wp2
  go_ret
  exact ⟨by rw [HS.out]; rfl, Below.refl _ _⟩

/-- What the walk behind the three texts answers. -/
theorem fmtG_of {kd : Int} {l r : T} : fmtG ⟨kd, l, r⟩ = if (fmtT l).toList = [] ∨ (fmtT r).toList = [] ∨ (signB kd).toList = [] then ByteArray.empty else fmtT l ++ signB kd ++ fmtT r := rfl

set_option maxRecDepth 100000 in
set_option maxHeartbeats 3200000 in
theorem sFmtG_any (v : Value) (g : Gd) (lo h : Nat) (w : World) (hv : GAt w lo h v g) (hw : wG g ≤ 1048576) :
    Calls Tryd.prog 5 #[v] w (FmtGB g w) := by
  obtain ⟨k, n, s, u, k', n', s', u', rfl, ht1, ht2⟩ := hv
  obtain ⟨kd, t1, t2⟩ := g
  have hw1 : wT t1 ≤ 1048576 := by unfold wG at hw; simp only at hw; omega
  have hw2 : wT t2 ≤ 1048576 := by unfold wG at hw; simp only at hw; omega
  clear hw
  obtain ⟨W, hW⟩ : ∃ W, W = w.alloc (.cells #[.int .i64 kd, .int .i64 k, .int .i64 n, .string s, u, .int .i64 k', .int .i64 n', .string s', u'] 33) := ⟨_, rfl⟩
  have hb0 : Below w.heap.size w W := by rw [hW]; exact (Below.refl _ _).alloc (Nat.le_refl _) _
  have hr : W.heap[w.heap.size]? = some (grow 33 kd k n s u k' n' s' u') := by rw [hW]; exact heap_new _ _ rfl
  have HR := Lib.hid hr; clear hr
  have HT1 := Lib.hid (ht1.below hb0); clear ht1
  have HT2 := Lib.hid (ht2.below hb0); clear ht2
  have HB0 := Lib.hid hb0; clear hb0
  obtain ⟨r, hrr⟩ : ∃ r, r = fmtG ⟨kd, t1, t2⟩ := ⟨_, rfl⟩
  obtain ⟨x, hx⟩ : ∃ x, x = fmtT t1 := ⟨_, rfl⟩
  obtain ⟨y, hy⟩ : ∃ y, y = fmtT t2 := ⟨_, rfl⟩
  obtain ⟨z, hz⟩ : ∃ z, z = signB kd := ⟨_, rfl⟩
  have HE : Hid (r = if x.toList = [] ∨ y.toList = [] ∨ z.toList = [] then ByteArray.empty else x ++ z ++ y) := Lib.hid (by rw [hrr, hx, hy, hz]; rfl)
  have hxs : x.size ≤ 720 := by rw [hx]; exact fmtT_sizeG _
  have hys : y.size ≤ 720 := by rw [hy]; exact fmtT_sizeG _
  have hzs : z.size ≤ 4 := by rw [hz]; exact sign_size _
  have HC1 := Lib.hid (sFmtT_any (tv k n s u) t1 lo h W HT1.out hw1)
  have HC2 := Lib.hid (fun (w1 : World) (hb : Below W.heap.size W w1) => sFmtT_any (tv k' n' s' u') t2 lo h w1 (HT2.out.below hb) hw2)
  have HC3 := Lib.hid (fun (w1 : World) => sSign_any kd w1)
  unfold FmtB5 at HC1 HC2
  unfold SignB at HC3
  unfold FmtGB
  rw [← hrr]
  rw [← hx] at HC1
  rw [← hy] at HC2
  rw [← hz] at HC3
  clear hrr hx hy hz HT1 HT2
  go_enter Tryd.func5, Tryd.ntmps5
  go_wp2_with fail
  rw [← hW]
  clear hW
  refine HC1.out.mono ?_
  rintro e w1 ⟨rfl, hb1⟩
  have HB1 := Lib.hid hb1; clear hb1
  obtain ⟨a0, a1, a2, a3, a4, a5, a6, a7, a8⟩ := cells_of9 ((HB1.out.block _ (Array.getElem?_eq_some_iff.1 HR.out).1).trans HR.out)
  clear a0 a1 a2 a3 a4
  go_wp2_with fail
  refine (HC2.out w1 HB1.out).mono ?_
  rintro e w2 ⟨rfl, hb2⟩
  have HB2 := Lib.hid (bel_two HB1.out hb2); clear hb2 a5 a6 a7 a8
  obtain ⟨a0, a1, a2, a3, a4, a5, a6, a7, a8⟩ := cells_of9 ((HB2.out.block _ (Array.getElem?_eq_some_iff.1 HR.out).1).trans HR.out)
  clear a1 a2 a3 a4 a5 a6 a7 a8
  go_wp2_with fail
  refine (HC3.out w2).mono ?_
  rintro e w3 ⟨rfl, hb3⟩
  have HB3 := Lib.hid (HB0.out.trans ((bel_two HB2.out hb3).mono HB0.out.size)); clear hb3 a0
  by_cases hx : x.toList = []
  · have hbx : (x.toList == []) = true := by simpa using hx
    have HN : Hid (r = ByteArray.empty) := Lib.hid (by rw [HE.out, if_pos (by simp [hx])])
    clear hx
    go_wp2
    go_ret
    exact ⟨by rw [HN.out]; rfl, HB3.out⟩
  have hbx : (x.toList == []) = false := by simpa using hx
  by_cases hy : y.toList = []
  · have hby : (y.toList == []) = true := by simpa using hy
    have HN : Hid (r = ByteArray.empty) := Lib.hid (by rw [HE.out, if_pos (by simp [hy])])
    clear hy
    go_wp2
    go_ret
    exact ⟨by rw [HN.out]; rfl, HB3.out⟩
  have hby : (y.toList == []) = false := by simpa using hy
  by_cases hz : z.toList = []
  · have hbz : (z.toList == []) = true := by simpa using hz
    have HN : Hid (r = ByteArray.empty) := Lib.hid (by rw [HE.out, if_pos (by simp [hz])])
    clear hz
    go_wp2
    go_ret
    exact ⟨by rw [HN.out]; rfl, HB3.out⟩
  have hbz : (z.toList == []) = false := by simpa using hz
  have HN : Hid (r = x ++ z ++ y) := Lib.hid (by rw [HE.out, if_neg (by simp [hx, hy, hz])])
  clear hx hy hz
  have hs1 : ¬ 9223372036854775807 < x.size + z.size := by omega
  have hs2 : ¬ 9223372036854775807 < (x ++ z).size + y.size := by rw [ByteArray.size_append]; omega
  go_wp2
  go_ret
  exact ⟨by rw [HN.out]; rfl, HB3.out⟩
set_option maxRecDepth 100000 in
set_option maxHeartbeats 3200000 in
theorem iFmtG_any (v : Value) (g : Gd) (lo h : Nat) (w : World) (hv : GAt w lo h v g) (hw : wG g ≤ 1048576) (hp : PowTab w) (hs : 0 < w.heap.size) :
    Calls Tryd.prog 7 #[v] w (FmtGB g w) := by
  obtain ⟨k, n, s, u, k', n', s', u', rfl, ht1, ht2⟩ := hv
  obtain ⟨kd, t1, t2⟩ := g
  have hw1 : wT t1 ≤ 1048576 := by unfold wG at hw; simp only at hw; omega
  have hw2 : wT t2 ≤ 1048576 := by unfold wG at hw; simp only at hw; omega
  clear hw
  obtain ⟨W, hW⟩ : ∃ W, W = w.alloc (.cells #[.int .i64 kd, .int .i64 k, .int .i64 n, .string s, u, .int .i64 k', .int .i64 n', .string s', u'] 33) := ⟨_, rfl⟩
  have hb0 : Below w.heap.size w W := by rw [hW]; exact (Below.refl _ _).alloc (Nat.le_refl _) _
  have hr : W.heap[w.heap.size]? = some (grow 33 kd k n s u k' n' s' u') := by rw [hW]; exact heap_new _ _ rfl
  have hK : ∀ w', Below W.heap.size W w' → (w'.cell? ⟨w.heap.size, 0, none⟩ = some (.int .i64 kd) ∧ w'.cell? ⟨w.heap.size, 1, none⟩ = some (.int .i64 k) ∧ w'.cell? ⟨w.heap.size, 2, none⟩ = some (.int .i64 n) ∧ w'.cell? ⟨w.heap.size, 3, none⟩ = some (.string s) ∧ w'.cell? ⟨w.heap.size, 4, none⟩ = some u ∧ w'.cell? ⟨w.heap.size, 5, none⟩ = some (.int .i64 k') ∧ w'.cell? ⟨w.heap.size, 6, none⟩ = some (.int .i64 n') ∧ w'.cell? ⟨w.heap.size, 7, none⟩ = some (.string s') ∧ w'.cell? ⟨w.heap.size, 8, none⟩ = some u' ∧ Below W.heap.size W w') := fun w' hb => by
    obtain ⟨x0, x1, x2, x3, x4, x5, x6, x7, x8⟩ := cells_of9 ((hb.block w.heap.size (Array.getElem?_eq_some_iff.1 hr).1).trans hr)
    exact ⟨x0, x1, x2, x3, x4, x5, x6, x7, x8, hb⟩
  have HK := Lib.hid hK; clear hK hr
  have HP : Hid (∀ w', Below W.heap.size W w' → PowTab w' ∧ 0 < w'.heap.size) := Lib.hid (fun w' hb => ⟨hp.below (hb0.trans (hb.mono hb0.size)) hs, Nat.lt_of_lt_of_le hs (hb0.trans (hb.mono hb0.size)).size⟩)
  have HT1 := Lib.hid (ht1.below hb0); clear ht1
  have HT2 := Lib.hid (ht2.below hb0); clear ht2
  have HB0 := Lib.hid hb0; clear hb0
  obtain ⟨r, hrr⟩ : ∃ r, r = fmtG ⟨kd, t1, t2⟩ := ⟨_, rfl⟩
  obtain ⟨x, hx⟩ : ∃ x, x = fmtT t1 := ⟨_, rfl⟩
  obtain ⟨y, hy⟩ : ∃ y, y = fmtT t2 := ⟨_, rfl⟩
  obtain ⟨z, hz⟩ : ∃ z, z = signB kd := ⟨_, rfl⟩
  have HE : Hid (r = if x.toList = [] ∨ y.toList = [] ∨ z.toList = [] then ByteArray.empty else x ++ z ++ y) := Lib.hid (by rw [hrr, hx, hy, hz]; rfl)
  have hxs : x.size ≤ 720 := by rw [hx]; exact fmtT_sizeG _
  have hys : y.size ≤ 720 := by rw [hy]; exact fmtT_sizeG _
  have hzs : z.size ≤ 4 := by rw [hz]; exact sign_size _
  have HC1 := Lib.hid (fun (w1 : World) (hb : Below W.heap.size W w1) => iFmtT_any (tv k n s u) t1 lo h w1 (HT1.out.below hb) hw1 (HP.out w1 hb).1 (HP.out w1 hb).2)
  have HC2 := Lib.hid (fun (w1 : World) (hb : Below W.heap.size W w1) => iFmtT_any (tv k' n' s' u') t2 lo h w1 (HT2.out.below hb) hw2 (HP.out w1 hb).1 (HP.out w1 hb).2)
  have HC3 := Lib.hid (fun (w1 : World) => iSign_any kd w1)
  unfold FmtB5 at HC1 HC2
  unfold SignB at HC3
  unfold FmtGB
  rw [← hrr]
  rw [← hx] at HC1
  rw [← hy] at HC2
  rw [← hz] at HC3
  clear hrr hx hy hz HT1 HT2 hp hs
  go_enter Tryd.func7, Tryd.ntmps7
  go_upto_region 1 with fail
  rw [← hW]
  clear hW
  have hbb0 := Below.refl W.heap.size W
  obtain ⟨c0, c1, c2, c3, c4, c5, c6, c7, c8, _⟩ := HK.out _ hbb0
  have HF0 := Lib.hid True.intro
  go_region_held3 (fun w' => w'.cell? ⟨w.heap.size, 0, none⟩ = some (.int .i64 kd) ∧ w'.cell? ⟨w.heap.size, 1, none⟩ = some (.int .i64 k) ∧ w'.cell? ⟨w.heap.size, 2, none⟩ = some (.int .i64 n) ∧ w'.cell? ⟨w.heap.size, 3, none⟩ = some (.string s) ∧ w'.cell? ⟨w.heap.size, 4, none⟩ = some u ∧ w'.cell? ⟨w.heap.size, 5, none⟩ = some (.int .i64 k') ∧ w'.cell? ⟨w.heap.size, 6, none⟩ = some (.int .i64 n') ∧ w'.cell? ⟨w.heap.size, 7, none⟩ = some (.string s') ∧ w'.cell? ⟨w.heap.size, 8, none⟩ = some u' ∧ Below W.heap.size W w')
    (first | with_reducible exact HK.out _ (by with_reducible assumption) | with_reducible exact HK.out _ (bel_drew (by with_reducible assumption)) | with_reducible exact HK.out _ (Below.drew (by with_reducible assumption)) | go_keep)
    (first
      | (clear HF0; go_at_call 13; refine (HC3.out _).mono ?_; rintro e w1 ⟨rfl, hb1⟩; have hB1 : Below W.heap.size W w1 := (by first | exact bel_two hbb0 hb1 | exact bel_two (Below.drew hbb0) hb1); have HFA := Lib.hid True.intro)
      | (clear HFA; go_at_call 14; refine (HC1.out _ (by first | assumption | exact Below.drew (by assumption))).mono ?_; rintro e w2 ⟨rfl, hb2⟩; have hB2 : Below W.heap.size W w2 := (by first | exact bel_two hB1 hb2 | exact bel_two (Below.drew hB1) hb2); have HFB := Lib.hid True.intro)
      | (clear HFB; go_at_call 14; refine (HC2.out _ (by first | assumption | exact Below.drew (by assumption))).mono ?_; rintro e w3 ⟨rfl, hb3⟩; have hB3 : Below W.heap.size W w3 := (by first | exact bel_two hB2 hb3 | exact bel_two (Below.drew hB2) hb3)))
  have HB3 := Lib.hid (HB0.out.trans (hB3.mono HB0.out.size))
  clear hb1 hb2 hb3 hB1 hB2 hB3 hbb0 c0 c1 c2 c3 c4 c5 c6 c7 c8
  by_cases hz : z.toList = []
  · have hbz : (z.toList == []) = true := by simpa using hz
    have HN : Hid (r = ByteArray.empty) := Lib.hid (by rw [HE.out, if_pos (by simp [hz])])
    clear hz
    go_wp2
    go_ret
    exact ⟨by rw [HN.out]; rfl, HB3.out⟩
  have hbz : (z.toList == []) = false := by simpa using hz
  by_cases hx : x.toList = []
  · have hbx : (x.toList == []) = true := by simpa using hx
    have HN : Hid (r = ByteArray.empty) := Lib.hid (by rw [HE.out, if_pos (by simp [hx])])
    clear hx
    go_wp2
    go_ret
    exact ⟨by rw [HN.out]; rfl, HB3.out⟩
  have hbx : (x.toList == []) = false := by simpa using hx
  by_cases hy : y.toList = []
  · have hby : (y.toList == []) = true := by simpa using hy
    have HN : Hid (r = ByteArray.empty) := Lib.hid (by rw [HE.out, if_pos (by simp [hy])])
    clear hy
    go_wp2
    go_ret
    exact ⟨by rw [HN.out]; rfl, HB3.out⟩
  have hby : (y.toList == []) = false := by simpa using hy
  have HN : Hid (r = x ++ z ++ y) := Lib.hid (by rw [HE.out, if_neg (by simp [hx, hy, hz])])
  clear hx hy hz
  have hs1 : ¬ 9223372036854775807 < x.size + z.size := by omega
  have hs2 : ¬ 9223372036854775807 < (x ++ z).size + y.size := by rw [ByteArray.size_append]; omega
  go_wp2
  go_ret
  exact ⟨by rw [HN.out]; rfl, HB3.out⟩
end Go.Proofs.YtidbokheeieifaaDoor
namespace Go.Proofs.YtidbokheeieifaaDoor
open Go.RowKit

set_option maxRecDepth 100000 in
set_option maxHeartbeats 3200000 in
theorem exFmtG_any (v0 : Value) (t0 : Gd) (h0 : Nat) (w : World) (ht0 : GAt w 0 h0 v0 t0) (hp : PowTab w) (hs : 0 < w.heap.size) :
    Calls Tryd.prog 3 #[v0] w (TrueI w) := by
  obtain ⟨k0, n0, s0, u0, ka0, na0, sa0, ua0, rfl⟩ := ht0.form
  obtain ⟨WB, hWB⟩ : ∃ WB, WB = (w.alloc (.cells #[.int .i64 t0.kd, .int .i64 k0, .int .i64 n0, .string s0, u0, .int .i64 ka0, .int .i64 na0, .string sa0, ua0] 26)) := ⟨_, rfl⟩
  have hb0 : Below w.heap.size w WB := by rw [hWB]; exact ((Below.refl _ _).alloc (by simp; try omega) _)
  have HB_0 := Lib.hid hb0
  have hzb := hb0.size
  have HA0_0 := Lib.hid (GArg.kept (⟨by rw [hWB]; exact heap_new _ _ (by simp), ht0.below hb0⟩ : GArg (w.heap.size) t0.kd k0 n0 s0 u0 ka0 na0 sa0 ua0 h0 t0 WB))
  clear hb0 ht0
  go_enter Tryd.func3, Tryd.ntmps3
  go_wp2_with fail
  rw [← hWB]
  clear hWB
  refine (szG_any _ t0 0 h0 1048576 _ HA0_0.out.now.2 (by omega) (by omega)).mono ?_
  rintro e wz0 ⟨r0, rfl, hb, hr0a, hr0⟩
  have HR0 := Lib.hid hr0; clear hr0
  have HA0_1 := Lib.hid (HA0_0.out.below hb)
  have HB_1 := Lib.hid (HB_0.out.trans (hb.mono HB_0.out.size))
  have hz0 := hb.size
  clear hb HB_0 HA0_0
  by_cases hr : r0 < 0
  · go_wp2
    go_ret
    exact ⟨rfl, HB_1.out⟩
  have HRN0 : Hid (0 ≤ r0) := Lib.hid (by omega)
  clear hr
  have hr00 : 0 ≤ r0 := HRN0.out
  have HW0 : Hid (wG t0 ≤ 1048576) := Lib.hid (by have q0 := HR0.out HRN0.out; omega)
  obtain ⟨r0, hr0⟩ : ∃ r, r = fmtG t0 := ⟨_, rfl⟩
  have HSP : Hid (∀ (v : Value) {lo : Nat} (w : World), GAt w lo h0 v t0 → Calls Tryd.prog 5 #[v] w (fun e w' => e = .returned (.string r0) ∧ Below w.heap.size w w')) := Lib.hid (fun v lo w q => by
    rw [hr0]; exact sFmtG_any v t0 lo h0 w q HW0.out)
  have HIM : Hid (∀ (v : Value) {lo : Nat} (w1 : World), GAt w1 lo h0 v t0 → Below w.heap.size w w1 → Calls Tryd.prog 7 #[v] w1 (fun e w' => e = .returned (.string r0) ∧ Below w1.heap.size w1 w')) := Lib.hid (fun v lo w1 q hb => by
    rw [hr0]; exact iFmtG_any v t0 lo h0 w1 q HW0.out (hp.below hb hs) (Nat.lt_of_lt_of_le hs hb.size))
  clear hr0 hp hs
  obtain ⟨c0, c1, c2, c3, c4, c5, c6, c7, c8⟩ := cells_of9 HA0_1.out.now.1
  go_wp2_with fail
  refine (toG_any _ t0 0 h0 _ HA0_1.out.now.2 HW0.out).mono ?_
  rintro e wc2 ⟨V0, rfl, ht, hb⟩
  clear c0 c1 c2 c3 c4 c5 c6 c7 c8
  have HA0_2 := Lib.hid (HA0_1.out.below hb)
  have HB_2 := Lib.hid (HB_1.out.trans (hb.mono HB_1.out.size))
  have hz1 := hb.size
  clear hb HB_1 HA0_1
  have HV0_2 := Lib.hid (ht.kept)
  clear ht
  go_wp2_with fail
  refine (HSP.out _ _ HV0_2.out.now).mono ?_
  rintro e wm ⟨rfl, hb⟩
  have HA0_3 := Lib.hid (HA0_2.out.below hb)
  have HV0_3 := Lib.hid (HV0_2.out.below hb)
  have HB_3 := Lib.hid (HB_2.out.trans (hb.mono HB_2.out.size))
  have hz2 := hb.size
  clear hb HB_2 HA0_2 HV0_2
  clear HV0_3
  clear HSP
  obtain ⟨c0, c1, c2, c3, c4, c5, c6, c7, c8⟩ := cells_of9 HA0_3.out.now.1
  go_wp2_with fail
  refine (toG_own _ t0 0 h0 _ HA0_3.out.now.2 HW0.out).mono ?_
  rintro e wx0 ⟨kx0, nx0, sx0, ux0, xsx0, ky0, ny0, sy0, uy0, xsy0, rfl, etx, ety, hsx, ⟨hax, hay⟩, hox, hb⟩
  obtain ⟨ax0, cx0, rfl⟩ := hax.slice
  obtain ⟨ay0, cy0, rfl⟩ := hay.slice
  obtain ⟨mx0, hmx⟩ : ∃ m, m = xsx0.length := ⟨_, rfl⟩
  obtain ⟨my0, hmy⟩ : ∃ m, m = xsy0.length := ⟨_, rfl⟩
  rw [← hmx] at hax hox
  rw [← hmy] at hay hox
  rw [← hmx, ← hmy]
  have HCX0 : Hid (cS xsx0 ≤ 1048576 ∧ cS xsy0 ≤ 1048576) := Lib.hid (by have hw := HW0.out; unfold wG at hw; rw [etx, ety, wT_node, wT_node] at hw; have := cS_le xsx0; have := cS_le xsy0; omega)
  clear c0 c1 c2 c3 c4 c5 c6 c7 c8
  have HA0_4 := Lib.hid (HA0_3.out.below hb)
  have HB_4 := Lib.hid (HB_3.out.trans (hb.mono HB_3.out.size))
  have hz3 := hb.size
  clear hb HB_3 HA0_3
  obtain ⟨W5, hW5⟩ : ∃ W5, W5 = gboxed wx0 t0.kd kx0 nx0 sx0 (.slice ax0 mx0 cx0) ky0 ny0 sy0 (.slice ay0 my0 cy0) := ⟨_, rfl⟩
  have hbb : Below wx0.heap.size wx0 W5 := by rw [hW5]; exact gboxed_below _ _ _ _ _ _ _ _ _ _
  have hzz5 : W5.heap.size = wx0.heap.size + 1 := by rw [hW5]; simp
  have hto := gbox_of hsx hax hay hox hW5
  have HA0_5 := Lib.hid (HA0_4.out.below hbb)
  have HB_5 := Lib.hid (HB_4.out.trans (hbb.mono HB_4.out.size))
  have hz4 := hbb.size
  clear hbb HB_4 HA0_4
  have HX0_5 := Lib.hid (hto.kept (by omega))
  have HEX0 : Hid (t0 = ⟨t0.kd, .node kx0 nx0 sx0 xsx0, .node ky0 ny0 sy0 xsy0⟩) := Lib.hid (gd_eq etx ety)
  clear hto hax hay hox hsx etx ety hmx hmy
  unfold gboxed at hW5
  obtain ⟨p0x0, p0x1, p0x2, p0x3, p0x4, p0x5, p0x6, p0x7, p0x8⟩ := cells_of9 HX0_5.out.now.1.1
  rw [hW5] at p0x0 p0x1 p0x2 p0x3 p0x4 p0x5 p0x6 p0x7 p0x8
  go_wp2_with fail
  rw [← hW5] at p0x0 p0x1 p0x2 p0x3 p0x4 p0x5 p0x6 p0x7 p0x8 ⊢
  clear hW5
  refine (HIM.out _ _ (by have h := HX0_5.out.now.1.2; rw [← HEX0.out] at h; exact h) HB_5.out).mono ?_
  rintro e wg ⟨rfl, hb⟩
  have HA0_6 := Lib.hid (HA0_5.out.below hb)
  have HX0_6 := Lib.hid (HX0_5.out.below hb)
  have HB_6 := Lib.hid (HB_5.out.trans (hb.mono HB_5.out.size))
  have hz5 := hb.size
  clear hb HB_5 HA0_5 HX0_5
  clear p0x0 p0x1 p0x2 p0x3 p0x4 p0x5 p0x6 p0x7 p0x8
  have hqq : (r0.toList == r0.toList) = true := by simp
  have HK : Hid (∀ w', Below wg.heap.size wg w' → (w'.cell? ⟨wx0.heap.size, 0, none⟩ = some (.int .i64 t0.kd) ∧ w'.cell? ⟨wx0.heap.size, 1, none⟩ = some (.int .i64 kx0) ∧ w'.cell? ⟨wx0.heap.size, 2, none⟩ = some (.int .i64 nx0) ∧ w'.cell? ⟨wx0.heap.size, 3, none⟩ = some (.string sx0) ∧ w'.cell? ⟨wx0.heap.size, 4, none⟩ = some (.slice ax0 mx0 cx0) ∧ w'.cell? ⟨wx0.heap.size, 5, none⟩ = some (.int .i64 ky0) ∧ w'.cell? ⟨wx0.heap.size, 6, none⟩ = some (.int .i64 ny0) ∧ w'.cell? ⟨wx0.heap.size, 7, none⟩ = some (.string sy0) ∧ w'.cell? ⟨wx0.heap.size, 8, none⟩ = some (.slice ay0 my0 cy0) ∧ w'.cell? ⟨w.heap.size, 0, none⟩ = some (.int .i64 t0.kd) ∧ w'.cell? ⟨w.heap.size, 1, none⟩ = some (.int .i64 k0) ∧ w'.cell? ⟨w.heap.size, 2, none⟩ = some (.int .i64 n0) ∧ w'.cell? ⟨w.heap.size, 3, none⟩ = some (.string s0) ∧ w'.cell? ⟨w.heap.size, 4, none⟩ = some (u0) ∧ w'.cell? ⟨w.heap.size, 5, none⟩ = some (.int .i64 ka0) ∧ w'.cell? ⟨w.heap.size, 6, none⟩ = some (.int .i64 na0) ∧ w'.cell? ⟨w.heap.size, 7, none⟩ = some (.string sa0) ∧ w'.cell? ⟨w.heap.size, 8, none⟩ = some (ua0) ∧ Below wg.heap.size wg w')) := Lib.hid (fun w' hb => by
    obtain ⟨p0, p1, p2, p3, p4, p5, p6, p7, p8⟩ := cells_of9 (HX0_6.out.below hb).now.1.1
    obtain ⟨b0, b1, b2, b3, b4, b5, b6, b7, b8⟩ := cells_of9 (HA0_6.out.below hb).now.1
    exact ⟨p0, p1, p2, p3, p4, p5, p6, p7, p8, b0, b1, b2, b3, b4, b5, b6, b7, b8, hb⟩)
  obtain ⟨p0, p1, p2, p3, p4, p5, p6, p7, p8, b0, b1, b2, b3, b4, b5, b6, b7, b8, hb0⟩ := HK.out _ (Below.refl _ _)
  have HT5 : Hid (∀ w', Below wg.heap.size wg w' → GAt w' 0 h0 (gv t0.kd k0 n0 s0 u0 ka0 na0 sa0 ua0) t0) := Lib.hid (fun w' hb => (HA0_6.out.below hb).now.2)
  have HX5 : Hid (∀ w', Below wg.heap.size wg w' → GAt w' wm.heap.size h0 (gv t0.kd kx0 nx0 sx0 (.slice ax0 mx0 cx0) ky0 ny0 sy0 (.slice ay0 my0 cy0)) t0) := Lib.hid (fun w' hb => by have h := (HX0_6.out.below hb).now.1.2; rw [← HEX0.out] at h; exact h)
  go_wp2
  go_region_held3 (fun w' => w'.cell? ⟨wx0.heap.size, 0, none⟩ = some (.int .i64 t0.kd) ∧ w'.cell? ⟨wx0.heap.size, 1, none⟩ = some (.int .i64 kx0) ∧ w'.cell? ⟨wx0.heap.size, 2, none⟩ = some (.int .i64 nx0) ∧ w'.cell? ⟨wx0.heap.size, 3, none⟩ = some (.string sx0) ∧ w'.cell? ⟨wx0.heap.size, 4, none⟩ = some (.slice ax0 mx0 cx0) ∧ w'.cell? ⟨wx0.heap.size, 5, none⟩ = some (.int .i64 ky0) ∧ w'.cell? ⟨wx0.heap.size, 6, none⟩ = some (.int .i64 ny0) ∧ w'.cell? ⟨wx0.heap.size, 7, none⟩ = some (.string sy0) ∧ w'.cell? ⟨wx0.heap.size, 8, none⟩ = some (.slice ay0 my0 cy0) ∧ w'.cell? ⟨w.heap.size, 0, none⟩ = some (.int .i64 t0.kd) ∧ w'.cell? ⟨w.heap.size, 1, none⟩ = some (.int .i64 k0) ∧ w'.cell? ⟨w.heap.size, 2, none⟩ = some (.int .i64 n0) ∧ w'.cell? ⟨w.heap.size, 3, none⟩ = some (.string s0) ∧ w'.cell? ⟨w.heap.size, 4, none⟩ = some (u0) ∧ w'.cell? ⟨w.heap.size, 5, none⟩ = some (.int .i64 ka0) ∧ w'.cell? ⟨w.heap.size, 6, none⟩ = some (.int .i64 na0) ∧ w'.cell? ⟨w.heap.size, 7, none⟩ = some (.string sa0) ∧ w'.cell? ⟨w.heap.size, 8, none⟩ = some (ua0) ∧ Below wg.heap.size wg w')
    (first | exact HK.out _ (by assumption) | exact HK.out _ (bel_drew (by assumption)) | exact HK.out _ (Below.drew (by assumption)) | exact HK.out _ (bel_two (bel_drew (by assumption)) (by assumption)) | go_keep)
    (first
      | (go_at_call 6; refine (toG_any _ t0 0 h0 _ (HT5.out _ (by first | assumption | exact Below.drew (by assumption))) HW0.out).mono ?_; rintro e we0 ⟨v3, rfl, ht9, hb9⟩)
      | (go_at_call 8; refine (eqG_any _ v3 t0 _ _ h0 _ (HX5.out _ (by first | assumption | exact bel_drew (by assumption) | exact Below.drew (by assumption))) (by first | exact ht9 | exact ht9.below (Below.drew (Below.refl _ _)))).mono ?_; rintro e wf0 ⟨rfl, hb10⟩))
  have hbq : Below wg.heap.size wg wf0 := bel_two (bel_drew hb9) hb10
  clear HX5 HT5 HK p0 p1 p2 p3 p4 p5 p6 p7 p8 b0 b1 b2 b3 b4 b5 b6 b7 b8 hb0 hb9 hb10 ht9
  have HA0_7 := Lib.hid (HA0_6.out.below hbq)
  have HX0_7 := Lib.hid (HX0_6.out.below hbq)
  have HB_7 := Lib.hid (HB_6.out.trans (hbq.mono HB_6.out.size))
  have hz6 := hbq.size
  clear hbq HB_6 HA0_6 HX0_6
  go_wp2
  go_ret
  exact ⟨rfl, HB_7.out⟩
end Go.Proofs.YtidbokheeieifaaDoor
namespace Go.Proofs.YtidbokheeieifaaDoor
open Go.RowKit Go.ChangeShapes Go.WideShapes

theorem cLT : Tryd.prog.cellsOf 24 = 4 := by kernel_rfl
theorem cStr' : Tryd.prog.cellsOf 9 = 1 := by kernel_rfl
theorem cInt' : Tryd.prog.cellsOf 3 = 1 := by kernel_rfl
theorem cLS : Tryd.prog.cellsOf 22 = 1 := by kernel_rfl

theorem cells4 {W : World} {a : Addr} {cs : List Value} (h : W.cells? 0 a 4 = some cs) : ∃ v0 v1 v2 v3, cs = [v0, v1, v2, v3] ∧ W.cell? (a.add 0) = some v0 ∧ W.cell? (a.add 1) = some v1 ∧ W.cell? (a.add 2) = some v2 ∧ W.cell? (a.add 3) = some v3 := by
  unfold World.cells? at h
  rw [if_pos (Nat.zero_le _)] at h
  have e : List.range 4 = [0, 1, 2, 3] := rfl
  rw [e] at h
  simp only [List.mapM_cons, List.mapM_nil, Option.bind_eq_bind, Option.pure_def, Option.bind_eq_some_iff] at h
  obtain ⟨v0, h0, r0, ⟨v1, h1, r1, ⟨v2, h2, r2, ⟨v3, h3, r3, e3, e2⟩, e1⟩, e0⟩, ee⟩ := h
  simp at e3 e2 e1 e0 ee
  subst e3; subst e2; subst e1; subst e0; subst ee
  exact ⟨v0, v1, v2, v3, rfl, h0, h1, h2, h3⟩

theorem bound_all (f : Nat → Nat) (n : Nat) : ∃ m, ∀ i, i < n → f i ≤ m := by
  induction n with
  | zero => exact ⟨0, fun i hi => by omega⟩
  | succ n ih =>
    obtain ⟨m, hm⟩ := ih
    refine ⟨max m (f n), fun i hi => ?_⟩
    by_cases e : i = n
    · subst e; omega
    · have := hm i (by omega); omega

section
variable {H : Type} {enc : TypeId × Value → H} {W : World} {spare : Nat → Bool} {held : Bool}

theorem spot_add {a : Addr} {i : Nat} {v : Value} (h : W.cell? (a.add i) = some v) (hs : a.spot = none) : W.cell? ⟨a.block, a.off + i, none⟩ = some v := by
  obtain ⟨b, o, sp⟩ := a
  simp at hs; subst hs
  have e : (⟨b, o, none⟩ : Addr).add i = ⟨b, o + i, none⟩ := by
    unfold Addr.add
    split
    · rename_i h; subst h; rfl
    · rfl
  rw [e] at h
  exact h

set_option maxRecDepth 100000 in
/-- The reading of a struct of a term and of a slice of such. -/
theorem term_of_trod : ∀ fuel : Nat,
    (∀ (cs : List Value) (x : DataW H × List MemPlace), DataW.trod enc Tryd.prog W 0 spare held fuel 24 cs = some x → ∃ k n s u xs h, cs = [.int .i64 k, .int .i64 n, .string s, u] ∧ s.size ≤ maxLen ∧ ArgsAt W 0 h u xs) ∧
    (∀ (cs : List Value) (x : DataW H × List MemPlace), DataW.trod enc Tryd.prog W 0 spare held fuel 22 cs = some x → ∃ u xs h, cs = [u] ∧ ArgsAt W 0 h u xs) := by
  intro fuel
  induction fuel with
  | zero => exact ⟨fun cs x h => by simp [DataW.trod] at h, fun cs x h => by simp [DataW.trod] at h⟩
  | succ f ih =>
    obtain ⟨ih1, ih2⟩ := ih
    refine ⟨fun cs x h => ?_, fun cs x h => ?_⟩
    · obtain ⟨xs, n, hn, _, hl, hlen, hf⟩ := DataW.trod_struct Tryd.underlying24 h
      obtain rfl : f = n := by omega
      rw [cLT] at hl
      match cs, hl with
      | [v0, v1, v2, v3], _ =>
        have h0 : DataW.trod enc Tryd.prog W 0 spare held f 3 (([v0, v1, v2, v3].drop 0).take (Tryd.prog.cellsOf 3)) = xs[0]? := hf 0 _ rfl
        have h1 : DataW.trod enc Tryd.prog W 0 spare held f 3 (([v0, v1, v2, v3].drop 1).take (Tryd.prog.cellsOf 3)) = xs[1]? := hf 1 _ rfl
        have h2 : DataW.trod enc Tryd.prog W 0 spare held f 9 (([v0, v1, v2, v3].drop 2).take (Tryd.prog.cellsOf 9)) = xs[2]? := hf 2 _ rfl
        have h3 : DataW.trod enc Tryd.prog W 0 spare held f 22 (([v0, v1, v2, v3].drop 3).take (Tryd.prog.cellsOf 22)) = xs[3]? := hf 3 _ rfl
        have hl4 : xs.length = 4 := hlen
        rw [cInt'] at h0 h1
        rw [cStr'] at h2
        rw [cLS] at h3
        obtain ⟨y0, e0⟩ : ∃ y, xs[0]? = some y := ⟨_, List.getElem?_eq_getElem (by omega)⟩
        obtain ⟨y1, e1⟩ : ∃ y, xs[1]? = some y := ⟨_, List.getElem?_eq_getElem (by omega)⟩
        obtain ⟨y2, e2⟩ : ∃ y, xs[2]? = some y := ⟨_, List.getElem?_eq_getElem (by omega)⟩
        obtain ⟨y3, e3⟩ : ∃ y, xs[3]? = some y := ⟨_, List.getElem?_eq_getElem (by omega)⟩
        rw [e0] at h0; rw [e1] at h1; rw [e2] at h2; rw [e3] at h3
        (try simp at h0); (try simp at h1); (try simp at h2); (try simp at h3)
        obtain ⟨k, hk, _⟩ := DataW.trod_int Tryd.underlying3 h0
        obtain ⟨n, hn, _⟩ := DataW.trod_int Tryd.underlying3 h1
        obtain ⟨s, hs, _, hsz⟩ := DataW.trod_string Tryd.underlying9 h2
        obtain ⟨u, ts, hgt, hu, ha⟩ := ih2 _ _ h3
        simp at hk hn hs hu
        subst hk; subst hn; subst hs; subst hu
        exact ⟨k, n, s, _, ts, hgt, rfl, hsz, ha⟩
    · rcases DataW.trod_slice Tryd.underlying22 h with ⟨rfl, _⟩ | ⟨a, len, cap, elems, rest, n, hn, rfl, _, _, hlc, hcm, hlen, hel, _, _⟩
      · exact ⟨_, [], 0, rfl, ArgsAt.nil W 0 0 none 0⟩
      · obtain rfl : f = n := by omega
        have each : ∀ i, i < len → ∃ k n s u xs h, W.cells? 0 (a.add (i * 4)) 4 = some [.int .i64 k, .int .i64 n, .string s, u] ∧ s.size ≤ maxLen ∧ ArgsAt W 0 h u xs := by
          intro i hi
          have h1 := hel i hi
          rw [cLT] at h1
          obtain ⟨y, hy⟩ : ∃ y, elems[i]? = some y := ⟨_, List.getElem?_eq_getElem (by omega)⟩
          rw [hy, Option.bind_eq_some_iff] at h1
          obtain ⟨cs, hcs, ht⟩ := h1
          obtain ⟨k, n, s, u, xs, h, rfl, hsz, ha⟩ := ih1 cs _ ht
          exact ⟨k, n, s, u, xs, h, hcs, hsz, ha⟩
        by_cases h0 : len = 0
        · subst h0
          exact ⟨_, [], 0, rfl, ArgsAt.nil W 0 0 (some a) cap⟩
        · -- the elements, chosen once
          have hch : ∃ (K N : Nat → Int) (S : Nat → ByteArray) (U : Nat → Value) (X : Nat → List T) (Hh : Nat → Nat), ∀ i, i < len → W.cells? 0 (a.add (i * 4)) 4 = some [.int .i64 (K i), .int .i64 (N i), .string (S i), U i] ∧ (S i).size ≤ maxLen ∧ ArgsAt W 0 (Hh i) (U i) (X i) := by
            have hc2 : ∀ i, ∃ (k n : Int) (s : ByteArray) (u : Value) (xs : List T) (h : Nat), i < len → W.cells? 0 (a.add (i * 4)) 4 = some [.int .i64 k, .int .i64 n, .string s, u] ∧ s.size ≤ maxLen ∧ ArgsAt W 0 h u xs := by
              intro i
              by_cases hi : i < len
              · obtain ⟨k, n, s, u, xs, h, q⟩ := each i hi
                exact ⟨k, n, s, u, xs, h, fun _ => q⟩
              · exact ⟨0, 0, ByteArray.empty, .slice none 0 0, [], 0, fun h => absurd h hi⟩
            exact ⟨fun i => (hc2 i).choose, fun i => (hc2 i).choose_spec.choose, fun i => (hc2 i).choose_spec.choose_spec.choose, fun i => (hc2 i).choose_spec.choose_spec.choose_spec.choose,
              fun i => (hc2 i).choose_spec.choose_spec.choose_spec.choose_spec.choose, fun i => (hc2 i).choose_spec.choose_spec.choose_spec.choose_spec.choose_spec.choose, fun i hi => (hc2 i).choose_spec.choose_spec.choose_spec.choose_spec.choose_spec.choose_spec hi⟩
          obtain ⟨K, N, S, U, X, Hh, hall⟩ := hch
          -- one height for all
          have hmax := bound_all Hh len
          obtain ⟨hm, hle⟩ := hmax
          have hspot : a.spot = none := by
            obtain ⟨v0, _, _, _, _, c0, _⟩ := cells4 (hall 0 (by omega)).1
            have := World.cell?_spot c0
            obtain ⟨b, o, sp⟩ := a
            simpa [Addr.add] using this
          refine ⟨_, (List.range len).map fun i => T.node (K i) (N i) (S i) (X i), hm + 1, rfl, some a, cap, by simp, by simp; omega, Or.inr ⟨a.block, a.off, ?_, Nat.zero_le _, fun i k n s xs hi => ?_⟩⟩
          · obtain ⟨b, o, sp⟩ := a
            simp at hspot; subst hspot; rfl
          · have hil : i < len := by have := (List.getElem?_eq_some_iff.1 hi).1; simpa using this
            simp [hil] at hi
            obtain ⟨rfl, rfl, rfl, rfl⟩ := hi
            obtain ⟨hcs, hsz, ha⟩ := hall i hil
            obtain ⟨v0, v1, v2, v3, e, c0, c1, c2, c3⟩ := cells4 hcs
            simp at e
            obtain ⟨rfl, rfl, rfl, rfl⟩ := e
            have sp : (a.add (i * 4)).spot = none := by
              obtain ⟨b, o, sp⟩ := a
              simp at hspot; subst hspot
              unfold Addr.add
              split <;> rfl
            have eb : (a.add (i * 4)).block = a.block ∧ (a.add (i * 4)).off = a.off + i * 4 := by
              obtain ⟨b, o, sp⟩ := a
              simp at hspot; subst hspot
              unfold Addr.add
              split
              · rename_i h; rw [h]; exact ⟨rfl, rfl⟩
              · exact ⟨rfl, rfl⟩
            have d0 := spot_add c0 sp
            have d1 := spot_add c1 sp
            have d2 := spot_add c2 sp
            have d3 := spot_add c3 sp
            rw [eb.1, eb.2] at d0 d1 d2 d3
            exact ⟨hsz, _, d0, d1, d2, d3, ha.le (hle i hil)⟩
end

set_option maxRecDepth 100000 in
/-- A term that came in. -/
theorem term_came {H : Type} {enc : TypeId × Value → H} {W : World} {base : Nat} {v : Value} {d : DataW H} {p : List MemPlace} (hv : Value.okWide Tryd.prog W .any base 24 v)
    (h : DataW.Trod enc Tryd.prog W 0 (fun _ => true) true 24 v d p) : ∃ g t, TermAt W 0 g v t := by
  obtain ⟨cs, rfl, hsz⟩ := okWide_struct Tryd.underlying24 hv
  obtain ⟨fuel, hf⟩ := h
  obtain ⟨k, n, s, u, xs, g, e, hs, ha⟩ := (term_of_trod fuel).1 _ _ hf
  have ec : cs = #[.int .i64 k, .int .i64 n, .string s, u] := by
    have : cs.toList = [.int .i64 k, .int .i64 n, .string s, u] := e
    rw [← Array.toArray_toList (xs := cs), this]
  subst ec
  exact ⟨g, _, k, n, s, u, xs, rfl, rfl, hs, ha⟩
end Go.Proofs.YtidbokheeieifaaDoor
namespace Go.Proofs.YtidbokheeieifaaDoor
open Go.ChangeShapes Go.WideShapes Go.ChangeAt Go.RowKit

theorem cLG : Tryd.prog.cellsOf 26 = 9 := by kernel_rfl
set_option maxRecDepth 100000 in
/-- A guard that came in. -/
theorem guard_came {H : Type} {enc : TypeId × Value → H} {W : World} {base : Nat} {v : Value} {d : DataW H} {p : List MemPlace} (hv : Value.okWide Tryd.prog W .any base 26 v)
    (h : DataW.Trod enc Tryd.prog W 0 (fun _ => true) true 26 v d p) : ∃ g x, GAt W 0 g v x := by
  obtain ⟨cs, rfl, hsz⟩ := okWide_struct Tryd.underlying26 hv
  obtain ⟨fuel, hf⟩ := h
  obtain ⟨xs, n, hn, _, hl, hlen, hfl⟩ := DataW.trod_struct Tryd.underlying26 hf
  rw [cLG] at hl
  obtain ⟨v0, v1, v2, v3, v4, v5, v6, v7, v8, ec⟩ : ∃ v0 v1 v2 v3 v4 v5 v6 v7 v8, cs = #[v0, v1, v2, v3, v4, v5, v6, v7, v8] := by
    have hl2 : cs.toList.length = 9 := hl
    match h : cs.toList, hl2 with
    | [v0, v1, v2, v3, v4, v5, v6, v7, v8], _ => exact ⟨v0, v1, v2, v3, v4, v5, v6, v7, v8, by rw [← Array.toArray_toList (xs := cs), h]⟩
  subst ec
  have h0 : DataW.trod enc Tryd.prog W 0 (fun _ => true) true n 3 (([v0, v1, v2, v3, v4, v5, v6, v7, v8].drop 0).take (Tryd.prog.cellsOf 3)) = xs[0]? := hfl 0 _ rfl
  have h1 : DataW.trod enc Tryd.prog W 0 (fun _ => true) true n 24 (([v0, v1, v2, v3, v4, v5, v6, v7, v8].drop 1).take (Tryd.prog.cellsOf 24)) = xs[1]? := hfl 1 _ rfl
  have h2 : DataW.trod enc Tryd.prog W 0 (fun _ => true) true n 24 (([v0, v1, v2, v3, v4, v5, v6, v7, v8].drop 5).take (Tryd.prog.cellsOf 24)) = xs[2]? := hfl 2 _ rfl
  have hl2 : xs.length = 3 := hlen
  rw [cInt'] at h0
  rw [cLT] at h1 h2
  obtain ⟨y0, e0⟩ : ∃ y, xs[0]? = some y := ⟨_, List.getElem?_eq_getElem (by omega)⟩
  obtain ⟨y1, e1⟩ : ∃ y, xs[1]? = some y := ⟨_, List.getElem?_eq_getElem (by omega)⟩
  obtain ⟨y2, e2⟩ : ∃ y, xs[2]? = some y := ⟨_, List.getElem?_eq_getElem (by omega)⟩
  rw [e0] at h0; rw [e1] at h1; rw [e2] at h2
  (try simp at h0); (try simp at h1); (try simp at h2)
  obtain ⟨kd, hk, _⟩ := DataW.trod_int Tryd.underlying3 h0
  obtain ⟨k, n1, s, u, ts, hh, hr, hsz1, ha⟩ := (term_of_trod n).1 _ _ h1
  obtain ⟨k', n', s', u', ts', hh', hr', hsz', ha'⟩ := (term_of_trod n).1 _ _ h2
  simp at hk hr hr'
  obtain ⟨rfl, rfl, rfl, rfl⟩ := hr
  obtain ⟨rfl, rfl, rfl, rfl⟩ := hr'
  subst hk
  exact ⟨max hh hh', ⟨kd, .node k n1 s ts, .node k' n' s' ts'⟩, k, n1, s, _, k', n', s', _, rfl, ⟨_, _, _, _, _, rfl, rfl, hsz1, ha.le (Nat.le_max_left _ _)⟩, ⟨_, _, _, _, _, rfl, rfl, hsz', ha'.le (Nat.le_max_right _ _)⟩⟩
end Go.Proofs.YtidbokheeieifaaDoor
namespace Go.Proofs.YtidbokheeieifaaDoor
open Go.ChangeShapes Go.WideShapes Go.RowKit

theorem own : ownKnob Tryd.prog.godebug = none := by kernel_rfl
theorem tPow : (Tryd.prog.globals[0]?).map (·.type) = some 91 := by kernel_rfl
theorem cU64 : Tryd.prog.cellsOf 81 = 1 := by kernel_rfl
theorem cPow : Tryd.prog.cellsOf 91 = 20 := by kernel_rfl
theorem powData : (Rows.laid_internal_strconv_uint64pow10 : DataW Unit) = Lib.tabData .u64 Lib.pow10Tab := by kernel_rfl

/-- From the three tables' list. -/
theorem pow_of_laid {W : World} {r : List (String × DataW Unit)} (h : laidMet Tryd.prog ((powName, Rows.laid_internal_strconv_uint64pow10) :: r) W) : PowTab W := by
  rw [powData] at h
  exact Lib.tabIs_of_head gPow tPow Tryd.underlying91 Tryd.underlying81 cU64 cPow h

theorem PowTab.low {W : World} (h : PowTab W) : 0 < W.heap.size := by
  have h1 := World.var?_cell gPow h 0
  have h2 : ((Lib.pow10Tab.map fun z => Value.int .u64 z).toArray)[0]? = some (.int .u64 1) := by simp [Lib.pow10Tab]
  rw [h2] at h1
  exact World.block_lt_of_cell? W _ h1

end Go.Proofs.YtidbokheeieifaaDoor
