/-
  spec.l1Read: the integer of at most m digits whose numeral the string is, and true; else 0 and false.
-/
import Derived.Test.YtjdcehnjdfhbnaaDoorFmt
import Derived.Test.YtjdcehnjdfhbnaaDoorMathC
import Derived.Test.YtjdcehnjdfhbnaaDoorParseI
import Derived.BigQuiet
import Derived.Deep.QuietTactic
namespace Go.Proofs.YtjdcehnjdfhbnaaDoor
open Go.RowKit

theorem parts_minus (s : ByteArray) (h0 : 0 < s.size) (hc : s[0] = 45) : s.data.toList = 45 :: (s.data.toList.drop 1).take (s.size - 1) := by
  have e : s.data.toList.length = s.size := by simp
  rw [List.take_of_length_le (by simp)]
  cases hl : s.data.toList with
  | nil => rw [hl] at e; simp at e; omega
  | cons c r =>
    have hc' : s.data.toList[0]'(by omega) = 45 := hc
    simp [hl] at hc'
    rw [hc']; rfl
theorem head_byte (s : ByteArray) (h0 : 0 < s.size) {c : UInt8} {r : List UInt8} (h : s.data.toList = c :: r) : s[0] = c := by
  have e : s.data.toList.length = s.size := by simp
  have : s[0] = s.data.toList[0]'(by omega) := rfl
  rw [this]; simp [h]
theorem byte_no {c : UInt8} (h : c ≠ 45) : ((c.toNat : Int) == 45) = false := by
  rw [beq_eq_false_iff_ne]
  intro e
  apply h
  apply UInt8.toNat_inj.1
  have : (45 : UInt8).toNat = 45 := rfl
  omega

set_option maxRecDepth 100000 in
set_option maxHeartbeats 400000 in
theorem sRead_minus (s t : ByteArray) (m : Nat) (hi : Int) (w : World) (hs : s.size ≤ 281474976710656) (hm1 : 1 ≤ m) (hm : m ≤ 18) (hhi : Hid (hi + 1 = ((10 ^ m : Nat) : Int)))
    (h0 : 0 < s.size) (hc : s[0] = 45) (ht : s.extract 1 s.size = t) :
    Calls Tryd.prog 33 #[.string s, .int .i64 m] w (PairEnd (-hi) hi s.data.toList w) := by
  have hq : ((s[0].toNat : Int) == 45) = true := by rw [hc]; rfl
  have hp : Parts s.data.toList true t.data.toList := by
    refine Or.inl ⟨rfl, ?_⟩
    rw [← ht, Lib.extract_data]
    exact parts_minus s h0 hc
  have HP := Lib.hid hp; clear hp
  have hts : t.size = s.size - 1 := by rw [← ht]; simp
  have hts1 : t.size ≤ 281474976710656 := by omega
  have HTS := Lib.hid hts; clear hts
  clear hc
  by_cases hlen : t.size < 1 ∨ m < t.size
  · have hbad : PairEnd (-hi) hi s.data.toList w (.returned (.tuple #[.int .i64 0, .bool false])) w :=
      ⟨Below.refl _ _, 0, false, rfl, fun h => (by cases h), fun _ => ⟨rfl, fun u u0 u1 => no_of_len hm1 HP.out (by simpa using hlen) (by have := hhi.out; omega)⟩⟩
    have HB := Lib.hid hbad; clear hbad
    by_cases hl1 : t.size < 1
    · have hd1 : decide ((t.size : Int) < 1) = true := by simp; omega
      go_enter Tryd.func33, Tryd.ntmps33
      go_wp2
      go_ret2
      exact HB.out
    · have hd1 : decide ((t.size : Int) < 1) = false := by simp; omega
      have hd2 : decide (m < t.size) = true := by simp; omega
      go_enter Tryd.func33, Tryd.ntmps33
      go_wp2
      go_ret2
      exact HB.out
  · have hl1 : 1 ≤ t.size := by omega
    have hl2 : t.size ≤ m := by omega
    clear hlen
    have hd1 : decide ((t.size : Int) < 1) = false := by simp; omega
    have hd2 : decide (m < t.size) = false := by simp; omega
    go_enter Tryd.func33, Tryd.ntmps33
    go_wp2
    go_loop [8, 9] (fun n i => ∃ k d : Nat, k ≤ t.size ∧ d < 1000000000000000000 ∧ i = .int .i64 k ∧ n = .int .i64 d ∧ d = dval 0 (t.data.toList.take k) ∧ Digits (t.data.toList.take k)) (fun _ i => t.size - (intOf i).toNat)
    case atStart => exact ⟨0, 0, Nat.zero_le _, by decide, rfl, rfl, rfl, fun c h => by simp at h⟩
    case round =>
      obtain ⟨k, d, hk, hd18, rfl, rfl, hd, hg⟩ := hrel
      have HD := Lib.hid hd; clear hd
      have HG := Lib.hid hg; clear hg
      by_cases hlt : k < t.size
      · have hd17 : d < 100000000000000000 := by
          have := dval_bound (l := t.data.toList.take k) (k := 17) (by simp; omega) HG.out
          rw [← HD.out] at this; exact this
        clear hd18
        by_cases hb1 : (t[k].toNat : Int) < 48
        · have hbad : PairEnd (-hi) hi s.data.toList w (.returned (.tuple #[.int .i64 0, .bool false])) w :=
            ⟨Below.refl _ _, 0, false, rfl, fun h => (by cases h), fun _ => ⟨rfl, fun u _ _ => no_of_bad HP.out (byte_mem t k hlt) (by omega)⟩⟩
          have HB := Lib.hid hbad; clear hbad
          go_wp2
          go_ret2
          exact HB.out
        · by_cases hb2 : 57 < (t[k].toNat : Int)
          · have hbad : PairEnd (-hi) hi s.data.toList w (.returned (.tuple #[.int .i64 0, .bool false])) w :=
              ⟨Below.refl _ _, 0, false, rfl, fun h => (by cases h), fun _ => ⟨rfl, fun u _ _ => no_of_bad HP.out (byte_mem t k hlt) (by omega)⟩⟩
            have HB := Lib.hid hbad; clear hbad
            go_wp2
            go_ret2
            exact HB.out
          · have hb3 : 48 ≤ (t[k].toNat : Int) := by omega
            have hb4 : (t[k].toNat : Int) ≤ 57 := by omega
            have HS := Lib.hid (take_snoc t k hlt)
            clear hb1 hb2
            go_wp2
            go_round
            case rel =>
              refine ⟨k + 1, d * 10 + (t[k].toNat - 48), by omega, by omega, by go_num, ?_, ?_, ?_⟩
              · congr 1; omega
              · rw [HS.out, dval_snoc, ← HD.out]
              · rw [HS.out]; exact digits_snoc HG.out (by omega) (by omega)
            case measure => simp [intOf]; omega
      · have hkk : k = t.size := by omega
        have htk : t.data.toList.take k = t.data.toList := List.take_of_length_le (by simp; omega)
        rw [htk] at HD HG
        clear htk
        have hdm : d < 10 ^ m := by
          have := dval_bound (l := t.data.toList) (k := m) (by simp; omega) HG.out
          rw [← HD.out] at this; exact this
        have hle : (d : Int) ≤ hi := by have := hhi.out; omega
        clear hdm
        go_wp2_with fail
        refine (sFormat_any (-(d : Int)) _ (by omega) (by omega)).mono ?_
        rintro e w1 ⟨rfl, hb⟩
        by_cases hc : Lib.itoa (-(d : Int)) = s.data.toList
        · have hq2 : (Lib.itoa (-(d : Int)) == s.toList) = true := by rw [ByteArray.toList_eq]; simpa using hc
          have hgood : PairEnd (-hi) hi s.data.toList w (.returned (.tuple #[.int .i64 (-(d : Int)), .bool true])) w1 :=
            ⟨hb, (-(d : Int)), true, rfl, fun _ => ⟨by omega, by omega, hc⟩, fun h => by cases h⟩
          have HB := Lib.hid hgood; clear hgood hc
          go_wp2
          go_ret2
          exact HB.out
        · have hq2 : (Lib.itoa (-(d : Int)) == s.toList) = false := by rw [ByteArray.toList_eq]; simpa using hc
          have hbad : PairEnd (-hi) hi s.data.toList w (.returned (.tuple #[.int .i64 0, .bool false])) w1 :=
            ⟨hb, 0, false, rfl, fun h => (by cases h), fun _ => ⟨rfl, fun u _ _ hu => hc (by
              have := val_of HP.out hu
              rw [← HD.out] at this
              simp at this
              rw [← this]; exact hu)⟩⟩
          have HB := Lib.hid hbad; clear hbad hc
          go_wp2
          go_ret2
          exact HB.out
set_option maxRecDepth 100000 in
set_option maxHeartbeats 400000 in
theorem sRead_plain (s : ByteArray) (m : Nat) (hi : Int) (w : World) (hs : s.size ≤ 281474976710656) (hm1 : 1 ≤ m) (hm : m ≤ 18) (hhi : Hid (hi + 1 = ((10 ^ m : Nat) : Int)))
    (h0 : 0 < s.size) (hc : s[0] ≠ 45) :
    Calls Tryd.prog 33 #[.string s, .int .i64 m] w (PairEnd (-hi) hi s.data.toList w) := by
  have hq : ((s[0].toNat : Int) == 45) = false := byte_no hc
  have hp : Parts s.data.toList false s.data.toList := Or.inr ⟨rfl, rfl, fun r hr => hc (head_byte s h0 hr)⟩
  have HP := Lib.hid hp; clear hp
  clear hc
  by_cases hlen : s.size < 1 ∨ m < s.size
  · have hbad : PairEnd (-hi) hi s.data.toList w (.returned (.tuple #[.int .i64 0, .bool false])) w :=
      ⟨Below.refl _ _, 0, false, rfl, fun h => (by cases h), fun _ => ⟨rfl, fun u u0 u1 => no_of_len hm1 HP.out (by simpa using hlen) (by have := hhi.out; omega)⟩⟩
    have HB := Lib.hid hbad; clear hbad
    by_cases hl1 : s.size < 1
    · have hd1 : decide ((s.size : Int) < 1) = true := by simp; omega
      go_enter Tryd.func33, Tryd.ntmps33
      go_wp2
      go_ret2
      exact HB.out
    · have hd1 : decide ((s.size : Int) < 1) = false := by simp; omega
      have hd2 : decide (m < s.size) = true := by simp; omega
      go_enter Tryd.func33, Tryd.ntmps33
      go_wp2
      go_ret2
      exact HB.out
  · have hl1 : 1 ≤ s.size := by omega
    have hl2 : s.size ≤ m := by omega
    clear hlen
    have hd1 : decide ((s.size : Int) < 1) = false := by simp; omega
    have hd2 : decide (m < s.size) = false := by simp; omega
    go_enter Tryd.func33, Tryd.ntmps33
    go_wp2
    go_loop [8, 9] (fun n i => ∃ k d : Nat, k ≤ s.size ∧ d < 1000000000000000000 ∧ i = .int .i64 k ∧ n = .int .i64 d ∧ d = dval 0 (s.data.toList.take k) ∧ Digits (s.data.toList.take k)) (fun _ i => s.size - (intOf i).toNat)
    case atStart => exact ⟨0, 0, Nat.zero_le _, by decide, rfl, rfl, rfl, fun c h => by simp at h⟩
    case round =>
      obtain ⟨k, d, hk, hd18, rfl, rfl, hd, hg⟩ := hrel
      have HD := Lib.hid hd; clear hd
      have HG := Lib.hid hg; clear hg
      by_cases hlt : k < s.size
      · have hd17 : d < 100000000000000000 := by
          have := dval_bound (l := s.data.toList.take k) (k := 17) (by simp; omega) HG.out
          rw [← HD.out] at this; exact this
        clear hd18
        by_cases hb1 : (s[k].toNat : Int) < 48
        · have hbad : PairEnd (-hi) hi s.data.toList w (.returned (.tuple #[.int .i64 0, .bool false])) w :=
            ⟨Below.refl _ _, 0, false, rfl, fun h => (by cases h), fun _ => ⟨rfl, fun u _ _ => no_of_bad HP.out (byte_mem s k hlt) (by omega)⟩⟩
          have HB := Lib.hid hbad; clear hbad
          go_wp2
          go_ret2
          exact HB.out
        · by_cases hb2 : 57 < (s[k].toNat : Int)
          · have hbad : PairEnd (-hi) hi s.data.toList w (.returned (.tuple #[.int .i64 0, .bool false])) w :=
              ⟨Below.refl _ _, 0, false, rfl, fun h => (by cases h), fun _ => ⟨rfl, fun u _ _ => no_of_bad HP.out (byte_mem s k hlt) (by omega)⟩⟩
            have HB := Lib.hid hbad; clear hbad
            go_wp2
            go_ret2
            exact HB.out
          · have hb3 : 48 ≤ (s[k].toNat : Int) := by omega
            have hb4 : (s[k].toNat : Int) ≤ 57 := by omega
            have HS := Lib.hid (take_snoc s k hlt)
            clear hb1 hb2
            go_wp2
            go_round
            case rel =>
              refine ⟨k + 1, d * 10 + (s[k].toNat - 48), by omega, by omega, by go_num, ?_, ?_, ?_⟩
              · congr 1; omega
              · rw [HS.out, dval_snoc, ← HD.out]
              · rw [HS.out]; exact digits_snoc HG.out (by omega) (by omega)
            case measure => simp [intOf]; omega
      · have hkk : k = s.size := by omega
        have htk : s.data.toList.take k = s.data.toList := List.take_of_length_le (by simp; omega)
        rw [htk] at HD HG
        clear htk
        have hdm : d < 10 ^ m := by
          have := dval_bound (l := s.data.toList) (k := m) (by simp; omega) HG.out
          rw [← HD.out] at this; exact this
        have hle : (d : Int) ≤ hi := by have := hhi.out; omega
        clear hdm
        go_wp2_with fail
        refine (sFormat_any (d : Int) _ (by omega) (by omega)).mono ?_
        rintro e w1 ⟨rfl, hb⟩
        by_cases hc : Lib.itoa (d : Int) = s.data.toList
        · have hq2 : (Lib.itoa (d : Int) == s.toList) = true := by rw [ByteArray.toList_eq]; simpa using hc
          have hgood : PairEnd (-hi) hi s.data.toList w (.returned (.tuple #[.int .i64 (d : Int), .bool true])) w1 :=
            ⟨hb, (d : Int), true, rfl, fun _ => ⟨by omega, by omega, hc⟩, fun h => by cases h⟩
          have HB := Lib.hid hgood; clear hgood hc
          go_wp2
          go_ret2
          exact HB.out
        · have hq2 : (Lib.itoa (d : Int) == s.toList) = false := by rw [ByteArray.toList_eq]; simpa using hc
          have hbad : PairEnd (-hi) hi s.data.toList w (.returned (.tuple #[.int .i64 0, .bool false])) w1 :=
            ⟨hb, 0, false, rfl, fun h => (by cases h), fun _ => ⟨rfl, fun u _ _ hu => hc (by
              have := val_of HP.out hu
              rw [← HD.out] at this
              simp at this
              rw [← this]; exact hu)⟩⟩
          have HB := Lib.hid hbad; clear hbad hc
          go_wp2
          go_ret2
          exact HB.out

set_option maxRecDepth 100000 in
set_option maxHeartbeats 400000 in
theorem sRead_empty (s : ByteArray) (m : Nat) (hi : Int) (w : World) (hm1 : 1 ≤ m) (hhi : Hid (hi + 1 = ((10 ^ m : Nat) : Int))) (h0 : s.size = 0) :
    Calls Tryd.prog 33 #[.string s, .int .i64 m] w (PairEnd (-hi) hi s.data.toList w) := by
  have hl : s.data.toList = [] := by
    have e : s.data.toList.length = s.size := by simp
    exact List.eq_nil_of_length_eq_zero (by omega)
  have hp : Parts s.data.toList false s.data.toList := Or.inr ⟨rfl, rfl, fun r hr => by rw [hl] at hr; cases hr⟩
  have hbad : PairEnd (-hi) hi s.data.toList w (.returned (.tuple #[.int .i64 0, .bool false])) w :=
    ⟨Below.refl _ _, 0, false, rfl, fun h => (by cases h), fun _ => ⟨rfl, fun u u0 u1 => no_of_len hm1 hp (by rw [hl]; simp) (by have := hhi.out; omega)⟩⟩
  have HB := Lib.hid hbad; clear hbad hp hl
  have hz := Lib.hid h0
  have h1 : decide ((0 : Int) < (s.size : Int)) = false := by rw [h0]; rfl
  have h2 : decide ((s.size : Int) < 1) = true := by rw [h0]; rfl
  have hlt : s.size < 1 := by omega
  clear h0
  go_enter Tryd.func33, Tryd.ntmps33
  go_wp2
  go_ret2
  exact HB.out

/-- spec.l1Read, at every string. -/
theorem sRead_any (s : ByteArray) (m : Nat) (hi : Int) (w : World) (hs : s.size ≤ 281474976710656) (hm1 : 1 ≤ m) (hm : m ≤ 18) (hhi : hi + 1 = ((10 ^ m : Nat) : Int)) :
    Calls Tryd.prog 33 #[.string s, .int .i64 m] w (PairEnd (-hi) hi s.data.toList w) := by
  by_cases h0 : 0 < s.size
  · by_cases hc : s[0] = 45
    · exact sRead_minus s _ m hi w hs hm1 hm (Lib.hid hhi) h0 hc rfl
    · exact sRead_plain s m hi w hs hm1 hm (Lib.hid hhi) h0 hc
  · exact sRead_empty s m hi w hm1 (Lib.hid hhi) (by omega)
end Go.Proofs.YtjdcehnjdfhbnaaDoor
