/-
  The laws on ParseNumber and ParseInt answer true at every string: their walks.
-/
import Derived.Test.YtjdcehnjdfhbnaaDoorRead
namespace Go.Proofs.YtjdcehnjdfhbnaaDoor
open Go.RowKit

set_option maxRecDepth 100000 in
set_option maxHeartbeats 400000 in
theorem sNumber_any (s : ByteArray) (w : World) (hs : s.size ≤ 281474976710656) :
    Calls Tryd.prog 16 #[.string s] w (PairEnd 0 999999 s.data.toList w) := by
  go_enter Tryd.func16, Tryd.ntmps16
  go_wp2_with fail
  refine (sRead_any s 6 999999 _ hs (by decide) (by decide) (by decide)).mono ?_
  rintro e w1 ⟨hb, v, b, rfl, hg⟩
  cases b
  · have hgood : PairEnd 0 999999 s.data.toList w (.returned (.tuple #[.int .i64 0, .bool false])) w1 :=
      ⟨hb, 0, false, rfl, fun h => (by cases h), fun _ => ⟨rfl, fun u h0 h1 => (hg.2 rfl).2 u (by omega) (by omega)⟩⟩
    have HB := Lib.hid hgood; clear hgood hg
    go_wp2
    go_ret2
    exact HB.out
  · obtain ⟨g0, g1, g2⟩ := hg.1 rfl
    by_cases hv : v < 0
    · have hgood : PairEnd 0 999999 s.data.toList w (.returned (.tuple #[.int .i64 0, .bool false])) w1 :=
        ⟨hb, 0, false, rfl, fun h => (by cases h), fun _ => ⟨rfl, fun u h0 h1 hu => by
          have := itoa_inj (by omega) (by omega) (by omega) (by omega) (hu.trans g2.symm)
          omega⟩⟩
      have HB := Lib.hid hgood; clear hgood hg g2
      go_wp2
      go_ret2
      exact HB.out
    · have hgood : PairEnd 0 999999 s.data.toList w (.returned (.tuple #[.int .i64 v, .bool true])) w1 :=
        ⟨hb, v, true, rfl, fun _ => ⟨by omega, g1, g2⟩, fun h => by cases h⟩
      have HB := Lib.hid hgood; clear hgood hg g2
      go_wp2
      go_ret2
      exact HB.out

set_option maxRecDepth 100000 in
set_option maxHeartbeats 400000 in
theorem sInt_any (s : ByteArray) (w : World) (hs : s.size ≤ 281474976710656) :
    Calls Tryd.prog 21 #[.string s] w (PairEnd (-999999999999) 999999999999 s.data.toList w) := by
  go_enter Tryd.func21, Tryd.ntmps21
  go_wp2_with fail
  refine (sRead_any s 12 999999999999 _ hs (by decide) (by decide) (by decide)).mono ?_
  rintro e w1 ⟨hb, v, b, rfl, hg⟩
  have hgood : PairEnd (-999999999999) 999999999999 s.data.toList w (.returned (.tuple #[.int .i64 v, .bool b])) w1 := ⟨hb, v, b, rfl, hg⟩
  have HB := Lib.hid hgood; clear hgood hg
  go_wp2
  go_ret2
  exact HB.out

set_option maxRecDepth 100000 in
set_option maxHeartbeats 400000 in
theorem exNumber_any (s : ByteArray) (w : World) (hs : s.size ≤ 281474976710656) (ht : PowTab w) (he : ErrVars w) (hz : 7 < w.heap.size) :
    Calls Tryd.prog 6 #[.string s] w fun e w' => e = .returned (.bool true) ∧ Below w.heap.size w w' := by
  have HT := Lib.hid ht; clear ht
  have HE := Lib.hid he; clear he
  by_cases hl : 1048576 < s.size
  · go_enter Tryd.func6, Tryd.ntmps6
    go_wp2
    go_ret
    exact ⟨rfl, Below.refl _ _⟩
  · go_enter Tryd.func6, Tryd.ntmps6
    go_wp2_with fail
    refine (sNumber_any s _ hs).mono ?_
    rintro e w1 ⟨hb1, v, b, rfl, hg1⟩
    have HG1 := Lib.hid hg1; clear hg1
    go_wp2_with fail
    refine (iNumber_any s _ hs (HT.out.below hb1 (by omega)) (HE.out.below hb1 (by omega)) (by have := hb1.size; omega)).mono ?_
    rintro e w2 ⟨hb2, u, c, rfl, hg2⟩
    have hb := hb1.trans (hb2.mono hb1.size)
    obtain ⟨rfl, rfl⟩ := good_unique (by omega) (by omega) HG1.out hg2
    clear hg2 hb1 hb2
    go_wp2
    all_goals
      go_ret
      exact ⟨rfl, hb⟩

set_option maxRecDepth 100000 in
set_option maxHeartbeats 400000 in
theorem exInt_any (s : ByteArray) (w : World) (hs : s.size ≤ 281474976710656) (ht : PowTab w) (he : ErrVars w) (hz : 7 < w.heap.size) :
    Calls Tryd.prog 7 #[.string s] w fun e w' => e = .returned (.bool true) ∧ Below w.heap.size w w' := by
  have HT := Lib.hid ht; clear ht
  have HE := Lib.hid he; clear he
  by_cases hl : 1048576 < s.size
  · go_enter Tryd.func7, Tryd.ntmps7
    go_wp2
    go_ret
    exact ⟨rfl, Below.refl _ _⟩
  · go_enter Tryd.func7, Tryd.ntmps7
    go_wp2_with fail
    refine (sInt_any s _ hs).mono ?_
    rintro e w1 ⟨hb1, v, b, rfl, hg1⟩
    have HG1 := Lib.hid hg1; clear hg1
    go_wp2_with fail
    refine (iInt_any s _ hs (HT.out.below hb1 (by omega)) (HE.out.below hb1 (by omega)) (by have := hb1.size; omega)).mono ?_
    rintro e w2 ⟨hb2, u, c, rfl, hg2⟩
    have hb := hb1.trans (hb2.mono hb1.size)
    obtain ⟨rfl, rfl⟩ := good_unique (by omega) (by omega) HG1.out hg2
    clear hg2 hb1 hb2
    go_wp2
    all_goals
      go_ret
      exact ⟨rfl, hb⟩
end Go.Proofs.YtjdcehnjdfhbnaaDoor
