/-
  The law on numbers answers true at every draw: its walk.
-/
import Derived.Test.YtjdcehnjdfhbnaaDoorDrawC
import Derived.Test.YtjdcehnjdfhbnaaDoorExParse
namespace Go.Proofs.YtjdcehnjdfhbnaaDoor
open Go.RowKit

theorem itoa_short {n : Int} (h : -999999999999 ≤ n) (h2 : n ≤ 999999999999) : (Lib.itoa n).length ≤ 13 ∧ (0 ≤ n → (Lib.itoa n).length ≤ 12) := by
  unfold Lib.itoa
  split
  · have := nDigits_le 12 n.natAbs (by decide) (by omega)
    rw [List.length_cons, Lib.decDigits_length]
    exact ⟨by omega, fun h => by omega⟩
  · have := nDigits_le 12 n.toNat (by decide) (by omega)
    rw [Lib.decDigits_length]
    exact ⟨by omega, fun _ => this⟩
theorem nDigits_big13 (u : Nat) (h : 1000000000000 ≤ u) : 13 ≤ Lib.nDigits u := by
  have h1 := Lib.lt_pow_nDigits u
  rcases Nat.lt_or_ge (Lib.nDigits u) 13 with hlt | hge
  · exfalso
    have h2 : 10 ^ Lib.nDigits u ≤ 10 ^ 12 := Nat.pow_le_pow_right (by decide) (by omega)
    have h3 : (10 : Nat) ^ 12 = 1000000000000 := by decide
    omega
  · exact hge
theorem itoa_long {n : Int} (h : n < -999999999999 ∨ 999999999999 < n) : 13 ≤ (Lib.itoa n).length ∧ (n < 0 → 14 ≤ (Lib.itoa n).length) := by
  unfold Lib.itoa
  split
  · have := nDigits_big13 n.natAbs (by omega)
    rw [List.length_cons, Lib.decDigits_length]
    exact ⟨by omega, fun _ => by omega⟩
  · have := nDigits_big13 n.toNat (by omega)
    rw [Lib.decDigits_length]
    exact ⟨this, fun h => by omega⟩

def TrueAt (w : World) (e : Ending) (w' : World) : Prop := e = .returned (.bool true) ∧ Below w.heap.size w w'

set_option maxRecDepth 100000 in
set_option maxHeartbeats 400000 in
theorem big_any (a : Option Addr) (len cap : Nat) (w : World) :
    Calls Tryd.prog 9 #[.slice a len cap] w fun e w' => e = .returned (.bool (decide (1048576 < len))) ∧ w = w' := by
  go_enter Tryd.func9, Tryd.ntmps9
  go_wp2
  go_ret
  refine ⟨?_, rfl⟩
  rw [show decide (1048576 < len) = decide ((1048576 : Int) < (len : Int)) from decide_eq_decide.2 (by omega)]
  rfl

set_option maxRecDepth 100000 in
set_option maxHeartbeats 1600000 in
theorem numbers_any (a : Option Addr) (len cap : Nat) (w : World) (hcode : len ≤ 1048576 → CodeAt w w.heap.size (.slice a len cap) len) (ht : PowTab w) (he : ErrVars w) (hz : 7 < w.heap.size) :
    Calls Tryd.prog 3 #[.slice a len cap] w (TrueAt w) := by
  have HC := Lib.hid hcode; clear hcode
  have HT := Lib.hid ht; clear ht
  have HE := Lib.hid he; clear he
  by_cases hbig : 1048576 < len
  · have hd : decide (1048576 < len) = true := by simpa using hbig
    have HK := Lib.hid (big_any a len cap w)
    rw [hd] at HK
    go_enter Tryd.func3, Tryd.ntmps3
    go_wp2_with fail
    refine HK.out.mono ?_
    rintro e w1 ⟨rfl, rfl⟩
    go_wp2
    go_ret
    exact ⟨rfl, Below.refl _ _⟩
  · have hd : decide (1048576 < len) = false := by simpa using hbig
    have HK := Lib.hid (big_any a len cap w)
    rw [hd] at HK
    have HC1 := Lib.hid (HC.out (by omega))
    go_enter Tryd.func3, Tryd.ntmps3
    go_wp2_with fail
    refine HK.out.mono ?_
    rintro e w0 ⟨rfl, rfl⟩
    go_wp2_with fail
    refine (drawFormat_any _ len _ HC1.out).mono ?_
    rintro e w1 ⟨n, rfl, n0, n1, hb1⟩
    have hn0 : -9223372036854775808 ≤ n := n0
    have hn1 : n ≤ 9223372036854775807 := n1
    have HN := Lib.hid (And.intro hn0 hn1); clear n0 n1 hn0 hn1
    have HB1 := Lib.hid hb1; clear hb1
    go_wp2_with fail
    refine (iFormat_any n _ HN.out.1 HN.out.2 (HT.out.below HB1.out (by omega))).mono ?_
    rintro e w2 ⟨rfl, hb2⟩
    have HB2 := Lib.hid (HB1.out.trans (hb2.mono HB1.out.size)); clear hb2
    obtain ⟨s, hs⟩ : ∃ s : ByteArray, s = ⟨(Lib.itoa n).toArray⟩ := ⟨_, rfl⟩
    rw [← hs]
    have hsl : s.data.toList = Lib.itoa n := by rw [hs]
    have hss : s.size = (Lib.itoa n).length := by rw [hs]; simp [ByteArray.size]
    have HSL := Lib.hid hsl
    have HSS := Lib.hid hss
    have hss2 : s.size ≤ 21 := by rw [hss]; exact Lib.itoa_length_le n HN.out.1 HN.out.2
    have hqs : (s.toList == Lib.itoa n) = true := by rw [ByteArray.toList_eq, hsl]; simp
    clear hs hsl hss
    go_wp2_with fail
    refine (iInt_any s _ (by omega) (HT.out.below HB2.out (by omega)) (HE.out.below HB2.out (by omega)) (by have := HB2.out.size; omega)).mono ?_
    rintro e w3 ⟨hb3, x, ok, rfl, hg⟩
    have HB3 := Lib.hid (HB2.out.trans (hb3.mono HB2.out.size)); clear hb3
    have hg' := hg
    rw [HSL.out] at hg'
    have HG := Lib.hid hg'; clear hg hg'
    go_wp2_with fail
    refine (sFormat_any n _ HN.out.1 HN.out.2).mono ?_
    rintro e w4 ⟨rfl, hb4⟩
    have HB4 := Lib.hid (HB3.out.trans (hb4.mono HB3.out.size)); clear hb4
    by_cases hin : -999999999999 ≤ n ∧ n ≤ 999999999999
    · have hgood : Good (-999999999999) 999999999999 (Lib.itoa n) n true := ⟨fun _ => ⟨hin.1, hin.2, rfl⟩, fun h => by cases h⟩
      obtain ⟨rfl, rfl⟩ := good_unique (by omega) (by omega) HG.out hgood
      have hsh := itoa_short hin.1 hin.2
      have h13 : s.size ≤ 13 := by rw [HSS.out]; exact hsh.1
      have h12 : 0 ≤ x → s.size ≤ 12 := fun h => by rw [HSS.out]; exact hsh.2 h
      clear hgood hsh
      by_cases hle : s.size ≤ 12
      · clear h12 h13
        go_wp2_with fail
        refine (drawNumber_any _ len _ (HC1.out.below HB4.out)).mono ?_
        rintro e w5 ⟨t, rfl, htl, hb5⟩
        have HB5 := Lib.hid (HB4.out.trans (hb5.mono HB4.out.size)); clear hb5
        go_wp2_with fail
        refine (iNumber_any t _ (by omega) (HT.out.below HB5.out (by omega)) (HE.out.below HB5.out (by omega)) (by have := HB5.out.size; omega)).mono ?_
        rintro e w6 ⟨hb6, y, fine, rfl, hgy⟩
        have HB6 := Lib.hid (HB5.out.trans (hb6.mono HB5.out.size)); clear hb6
        have HGY := Lib.hid hgy; clear hgy
        go_wp2_with fail
        refine (sNumber_any t _ (by omega)).mono ?_
        rintro e w7 ⟨hb7, z, want, rfl, hgz⟩
        have HB7 := Lib.hid (HB6.out.trans (hb7.mono HB6.out.size)); clear hb7
        obtain ⟨rfl, rfl⟩ := good_unique (by omega) (by omega) HGY.out hgz
        clear hgz
        cases fine
        · go_wp2
          go_ret
          exact ⟨rfl, HB7.out⟩
        · obtain ⟨y0, y1, y2⟩ := HGY.out.1 rfl
          have hqt : (Lib.itoa y == t.toList) = true := by rw [ByteArray.toList_eq, y2]; simp
          clear y2
          go_wp2_with fail
          refine (iFormat_any y _ (by omega) (by omega) (HT.out.below HB7.out (by omega))).mono ?_
          rintro e w8 ⟨rfl, hb8⟩
          have HB8 := Lib.hid (HB7.out.trans (hb8.mono HB7.out.size)); clear hb8
          go_wp2
          go_ret
          exact ⟨rfl, HB8.out⟩
      · have hneg : x < 0 := by
          rcases Int.lt_or_le x 0 with h | h
          · exact h
          · exact absurd (h12 h) hle
        have hb12 : decide ((s.size : Int) ≤ 12) = false := by simp; omega
        have hb13 : decide ((s.size : Int) ≤ 13) = true := by simp; omega
        clear h12
        go_wp2_with fail
        refine (drawNumber_any _ len _ (HC1.out.below HB4.out)).mono ?_
        rintro e w5 ⟨t, rfl, htl, hb5⟩
        have HB5 := Lib.hid (HB4.out.trans (hb5.mono HB4.out.size)); clear hb5
        go_wp2_with fail
        refine (iNumber_any t _ (by omega) (HT.out.below HB5.out (by omega)) (HE.out.below HB5.out (by omega)) (by have := HB5.out.size; omega)).mono ?_
        rintro e w6 ⟨hb6, y, fine, rfl, hgy⟩
        have HB6 := Lib.hid (HB5.out.trans (hb6.mono HB5.out.size)); clear hb6
        have HGY := Lib.hid hgy; clear hgy
        go_wp2_with fail
        refine (sNumber_any t _ (by omega)).mono ?_
        rintro e w7 ⟨hb7, z, want, rfl, hgz⟩
        have HB7 := Lib.hid (HB6.out.trans (hb7.mono HB6.out.size)); clear hb7
        obtain ⟨rfl, rfl⟩ := good_unique (by omega) (by omega) HGY.out hgz
        clear hgz
        cases fine
        · go_wp2
          go_ret
          exact ⟨rfl, HB7.out⟩
        · obtain ⟨y0, y1, y2⟩ := HGY.out.1 rfl
          have hqt : (Lib.itoa y == t.toList) = true := by rw [ByteArray.toList_eq, y2]; simp
          clear y2
          go_wp2_with fail
          refine (iFormat_any y _ (by omega) (by omega) (HT.out.below HB7.out (by omega))).mono ?_
          rintro e w8 ⟨rfl, hb8⟩
          have HB8 := Lib.hid (HB7.out.trans (hb8.mono HB7.out.size)); clear hb8
          go_wp2
          go_ret
          exact ⟨rfl, HB8.out⟩
    · have hgood : Good (-999999999999) 999999999999 (Lib.itoa n) 0 false := ⟨fun h => (by cases h), fun _ => ⟨rfl, fun u u0 u1 hu => by
        have := itoa_inj (by omega) (by omega) HN.out.1 HN.out.2 hu
        omega⟩⟩
      obtain ⟨rfl, rfl⟩ := good_unique (by omega) (by omega) HG.out hgood
      have hlo := itoa_long (n := n) (by omega)
      have h13 : 13 ≤ s.size := by rw [HSS.out]; exact hlo.1
      have h14 : n < 0 → 14 ≤ s.size := fun h => by rw [HSS.out]; exact hlo.2 h
      have hle : ¬ s.size ≤ 12 := by omega
      clear hgood hlo hin
      by_cases hneg : n < 0
      · have h13b : ¬ s.size ≤ 13 := by have := h14 hneg; omega
        clear h14 h13
        go_wp2_with fail
        refine (drawNumber_any _ len _ (HC1.out.below HB4.out)).mono ?_
        rintro e w5 ⟨t, rfl, htl, hb5⟩
        have HB5 := Lib.hid (HB4.out.trans (hb5.mono HB4.out.size)); clear hb5
        go_wp2_with fail
        refine (iNumber_any t _ (by omega) (HT.out.below HB5.out (by omega)) (HE.out.below HB5.out (by omega)) (by have := HB5.out.size; omega)).mono ?_
        rintro e w6 ⟨hb6, y, fine, rfl, hgy⟩
        have HB6 := Lib.hid (HB5.out.trans (hb6.mono HB5.out.size)); clear hb6
        have HGY := Lib.hid hgy; clear hgy
        go_wp2_with fail
        refine (sNumber_any t _ (by omega)).mono ?_
        rintro e w7 ⟨hb7, z, want, rfl, hgz⟩
        have HB7 := Lib.hid (HB6.out.trans (hb7.mono HB6.out.size)); clear hb7
        obtain ⟨rfl, rfl⟩ := good_unique (by omega) (by omega) HGY.out hgz
        clear hgz
        cases fine
        · go_wp2
          go_ret
          exact ⟨rfl, HB7.out⟩
        · obtain ⟨y0, y1, y2⟩ := HGY.out.1 rfl
          have hqt : (Lib.itoa y == t.toList) = true := by rw [ByteArray.toList_eq, y2]; simp
          clear y2
          go_wp2_with fail
          refine (iFormat_any y _ (by omega) (by omega) (HT.out.below HB7.out (by omega))).mono ?_
          rintro e w8 ⟨rfl, hb8⟩
          have HB8 := Lib.hid (HB7.out.trans (hb8.mono HB7.out.size)); clear hb8
          go_wp2
          go_ret
          exact ⟨rfl, HB8.out⟩
      · clear h14 h13
        go_wp2_with fail
        refine (drawNumber_any _ len _ (HC1.out.below HB4.out)).mono ?_
        rintro e w5 ⟨t, rfl, htl, hb5⟩
        have HB5 := Lib.hid (HB4.out.trans (hb5.mono HB4.out.size)); clear hb5
        go_wp2_with fail
        refine (iNumber_any t _ (by omega) (HT.out.below HB5.out (by omega)) (HE.out.below HB5.out (by omega)) (by have := HB5.out.size; omega)).mono ?_
        rintro e w6 ⟨hb6, y, fine, rfl, hgy⟩
        have HB6 := Lib.hid (HB5.out.trans (hb6.mono HB5.out.size)); clear hb6
        have HGY := Lib.hid hgy; clear hgy
        go_wp2_with fail
        refine (sNumber_any t _ (by omega)).mono ?_
        rintro e w7 ⟨hb7, z, want, rfl, hgz⟩
        have HB7 := Lib.hid (HB6.out.trans (hb7.mono HB6.out.size)); clear hb7
        obtain ⟨rfl, rfl⟩ := good_unique (by omega) (by omega) HGY.out hgz
        clear hgz
        cases fine
        · go_wp2
          go_ret
          exact ⟨rfl, HB7.out⟩
        · obtain ⟨y0, y1, y2⟩ := HGY.out.1 rfl
          have hqt : (Lib.itoa y == t.toList) = true := by rw [ByteArray.toList_eq, y2]; simp
          clear y2
          go_wp2_with fail
          refine (iFormat_any y _ (by omega) (by omega) (HT.out.below HB7.out (by omega))).mono ?_
          rintro e w8 ⟨rfl, hb8⟩
          have HB8 := Lib.hid (HB7.out.trans (hb8.mono HB7.out.size)); clear hb8
          go_wp2
          go_ret
          exact ⟨rfl, HB8.out⟩
end Go.Proofs.YtjdcehnjdfhbnaaDoor
