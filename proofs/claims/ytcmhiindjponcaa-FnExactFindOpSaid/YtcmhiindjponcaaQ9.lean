/-
  impl.IsName, impl.IsVarName and their models spec.IsName, spec.IsVarName tell the strings of 1 to 8 bytes that begin with a letter of their kind and go on in lower-case letters and digits; the laws on them answer true at every string.
-/
import Derived.Test.YtcmhiindjponcaaQ2
import Derived.WalkLawsBesides
import Derived.Lib.Hide
namespace Go.Proofs.Ytcmhiindjponcaa
open Go.RowKit

/-- A lower-case letter or a digit. -/
def Cont (b : Int) : Prop := (97 ≤ b ∧ b ≤ 122) ∨ (48 ≤ b ∧ b ≤ 57)
/-- The byte at place k. -/
def byteAt (s : ByteArray) (k : Nat) : Int := if h : k < s.size then (s[k].toNat : Int) else 0
theorem byteAt_lt (s : ByteArray) (k : Nat) (h : k < s.size) : byteAt s k = (s[k].toNat : Int) := by simp [byteAt, h]
/-- A name whose first byte lies from lo to hi. -/
def Nm (lo hi : Int) (s : ByteArray) : Prop := 1 ≤ s.size ∧ s.size ≤ 8 ∧ lo ≤ byteAt s 0 ∧ byteAt s 0 ≤ hi ∧ ∀ k, 1 ≤ k → k < s.size → Cont (byteAt s k)
/-- A call that answers whether X holds and changes nothing. -/
def Tells (X : Prop) (w : World) (e : Ending) (w' : World) : Prop := ∃ b, e = .returned (.bool b) ∧ (b = true ↔ X) ∧ w' = w

theorem nm_apart (s : ByteArray) (h : Nm 97 122 s) (k : Nm 65 90 s) : False := by
  have := h.2.2.1; have := k.2.2.2.1; omega

set_option maxRecDepth 100000 in
theorem iCont_any (b : Int) (w : World) (h0 : 0 ≤ b) (h1 : b ≤ 255) :
    Calls Try.prog 124 #[.int .u8 b] w (Tells (Cont b) w) := by
  by_cases a1 : 97 ≤ b
  · by_cases a2 : b ≤ 122
    · go_enter Try.func124, Try.ntmps124
      go_wp2
      go_ret
      exact ⟨true, rfl, by simp [Cont]; omega, rfl⟩
    · have a4 : 48 ≤ b := by omega
      have a5 : ¬ b ≤ 57 := by omega
      go_enter Try.func124, Try.ntmps124
      go_wp2
      go_ret
      exact ⟨false, rfl, by simp [Cont]; omega, rfl⟩
  · by_cases a4 : 48 ≤ b
    · by_cases a5 : b ≤ 57
      · go_enter Try.func124, Try.ntmps124
        go_wp2
        go_ret
        exact ⟨true, rfl, by simp [Cont]; omega, rfl⟩
      · go_enter Try.func124, Try.ntmps124
        go_wp2
        go_ret
        exact ⟨false, rfl, by simp [Cont]; omega, rfl⟩
    · go_enter Try.func124, Try.ntmps124
      go_wp2
      go_ret
      exact ⟨false, rfl, by simp [Cont]; omega, rfl⟩

set_option maxRecDepth 100000 in
theorem sLower_any (b : Int) (w : World) (h0 : 0 ≤ b) (h1 : b ≤ 255) :
    Calls Try.prog 101 #[.int .u8 b] w (Tells (97 ≤ b ∧ b ≤ 122) w) := by
  by_cases a1 : 97 ≤ b
  · by_cases a2 : b ≤ 122
    · go_enter Try.func101, Try.ntmps101
      go_wp2
      go_ret
      exact ⟨true, rfl, by simp; omega, rfl⟩
    · go_enter Try.func101, Try.ntmps101
      go_wp2
      go_ret
      exact ⟨false, rfl, by simp; omega, rfl⟩
  · go_enter Try.func101, Try.ntmps101
    go_wp2
    go_ret
    exact ⟨false, rfl, by simp; omega, rfl⟩

set_option maxRecDepth 100000 in
theorem sDigit_any (b : Int) (w : World) (h0 : 0 ≤ b) (h1 : b ≤ 255) :
    Calls Try.prog 119 #[.int .u8 b] w (Tells (48 ≤ b ∧ b ≤ 57) w) := by
  by_cases a1 : 48 ≤ b
  · by_cases a2 : b ≤ 57
    · go_enter Try.func119, Try.ntmps119
      go_wp2
      go_ret
      exact ⟨true, rfl, by simp; omega, rfl⟩
    · go_enter Try.func119, Try.ntmps119
      go_wp2
      go_ret
      exact ⟨false, rfl, by simp; omega, rfl⟩
  · go_enter Try.func119, Try.ntmps119
    go_wp2
    go_ret
    exact ⟨false, rfl, by simp; omega, rfl⟩

set_option maxRecDepth 100000 in
theorem sIn_any (n lo hi : Int) (w : World) :
    Calls Try.prog 120 #[.int .i64 n, .int .i64 lo, .int .i64 hi] w (Tells (lo ≤ n ∧ n ≤ hi) w) := by
  by_cases a1 : lo ≤ n
  · by_cases a2 : n ≤ hi
    · go_enter Try.func120, Try.ntmps120
      go_wp2
      go_ret
      exact ⟨true, rfl, by simp [a2]; omega, rfl⟩
    · go_enter Try.func120, Try.ntmps120
      go_wp2
      go_ret
      exact ⟨false, rfl, by simp; omega, rfl⟩
  · go_enter Try.func120, Try.ntmps120
    go_wp2
    go_ret
    exact ⟨false, rfl, by simp; omega, rfl⟩

/-- What comes behind the first byte. -/
def Rest (s : ByteArray) : Prop := (∀ k, 1 ≤ k → k < s.size → Cont (byteAt s k)) ∧ 1 ≤ s.size ∧ s.size ≤ 8

theorem byte_range (b : UInt8) : 0 ≤ (b.toNat : Int) ∧ (b.toNat : Int) ≤ 255 := by have := b.toNat_lt; omega

set_option maxRecDepth 100000 in
set_option maxHeartbeats 800000 in
theorem sRest_any (s : ByteArray) (w : World) (hs : s.size ≤ 9223372036854775807) :
    Calls Try.prog 102 #[.string s] w (Tells (Rest s) w) := by
  go_enter Try.func102, Try.ntmps102
  go_wp2
  go_loop [3] (fun i => ∃ k : Nat, 1 ≤ k ∧ k ≤ max 1 s.size ∧ i = .int .i64 k ∧ Hid (∀ j, 1 ≤ j → j < k → j < s.size → Cont (byteAt s j))) (fun i => s.size - (intOf i).toNat)
  case atStart => exact ⟨1, Nat.le_refl _, by omega, rfl, Lib.hid (fun j h1 h2 => by omega)⟩
  case round =>
    obtain ⟨k, hk1, hk, rfl, HC⟩ := hrel
    by_cases hlt : k < s.size
    · obtain ⟨hb0, hb1⟩ := byte_range s[k]
      have HB := Lib.hid (byteAt_lt s k hlt)
      go_wp2_with fail
      refine (sLower_any _ _ hb0 hb1).mono ?_
      rintro e w1 ⟨b1, rfl, hq1, rfl⟩
      have HQ1 := Lib.hid hq1; clear hq1
      cases b1 with
      | true =>
        go_wp2
        go_round
        case rel =>
          refine ⟨k + 1, by omega, by omega, by go_num, Lib.hid fun j h1 h2 h3 => ?_⟩
          by_cases hj : j < k
          · exact HC.out j h1 hj h3
          · obtain rfl : j = k := by omega
            rw [HB.out]
            exact Or.inl (HQ1.out.1 (by simp))
        case measure => simp [intOf]; omega
      | false =>
        go_wp2_with fail
        refine (sDigit_any _ _ hb0 hb1).mono ?_
        rintro e w1 ⟨b2, rfl, hq2, rfl⟩
        have HQ2 := Lib.hid hq2; clear hq2
        cases b2 with
        | true =>
          go_wp2
          go_round
          case rel =>
            refine ⟨k + 1, by omega, by omega, by go_num, Lib.hid fun j h1 h2 h3 => ?_⟩
            by_cases hj : j < k
            · exact HC.out j h1 hj h3
            · obtain rfl : j = k := by omega
              rw [HB.out]
              exact Or.inr (HQ2.out.1 (by simp))
          case measure => simp [intOf]; omega
        | false =>
          go_wp2
          go_ret
          refine ⟨false, rfl, ⟨fun h => by simp at h, fun h => ?_⟩, rfl⟩
          rcases h.1 k hk1 hlt with h2 | h2
          · rw [HB.out] at h2; exact HQ1.out.2 h2
          · rw [HB.out] at h2; exact HQ2.out.2 h2
    · go_wp2_with fail
      refine (sIn_any _ _ _ _).mono ?_
      rintro e w1 ⟨b1, rfl, hq1, rfl⟩
      have HQ1 := Lib.hid hq1; clear hq1
      go_wp2
      go_ret
      refine ⟨b1, rfl, ?_, rfl⟩
      rw [HQ1.out]
      constructor
      · rintro ⟨h1, h2⟩
        exact ⟨fun j a b => HC.out j a (by omega) b, by omega, by omega⟩
      · rintro ⟨_, h1, h2⟩
        exact ⟨by omega, by omega⟩

set_option maxRecDepth 100000 in
set_option maxHeartbeats 800000 in
theorem iFrom_any (s : ByteArray) (lo hi : Int) (w : World) (hs : s.size ≤ 9223372036854775807) :
    Calls Try.prog 117 #[.string s, .int .u8 lo, .int .u8 hi] w (Tells (Nm lo hi s) w) := by
  by_cases h0 : s.size = 0
  · have h0' : ((s.size : Int) == 0) = true := by rw [h0]; rfl
    go_enter Try.func117, Try.ntmps117
    go_wp2
    go_ret
    exact ⟨false, rfl, ⟨fun h => by simp at h, fun h => by have := h.1; omega⟩, rfl⟩
  · have h0' : ((s.size : Int) == 0) = false := by rw [beq_eq_false_iff_ne]; omega
    by_cases h8 : 8 < s.size
    · go_enter Try.func117, Try.ntmps117
      go_wp2
      go_ret
      exact ⟨false, rfl, ⟨fun h => by simp at h, fun h => by have := h.2.1; omega⟩, rfl⟩
    · have hp : 0 < s.size := by omega
      have H0 := Lib.hid (byteAt_lt s 0 hp)
      by_cases hl : (s[0].toNat : Int) < lo
      · go_enter Try.func117, Try.ntmps117
        go_wp2
        go_ret
        exact ⟨false, rfl, ⟨fun h => by simp at h, fun h => by have := h.2.2.1; have := H0.out; omega⟩, rfl⟩
      · by_cases hh : hi < (s[0].toNat : Int)
        · go_enter Try.func117, Try.ntmps117
          go_wp2
          go_ret
          exact ⟨false, rfl, ⟨fun h => by simp at h, fun h => by have := h.2.2.2.1; have := H0.out; omega⟩, rfl⟩
        · go_enter Try.func117, Try.ntmps117
          go_wp2
          go_loop [7] (fun i => ∃ k : Nat, 1 ≤ k ∧ k ≤ s.size ∧ i = .int .i64 k ∧ Hid (∀ j, 1 ≤ j → j < k → Cont (byteAt s j))) (fun i => s.size - (intOf i).toNat)
          case atStart => exact ⟨1, Nat.le_refl _, by omega, rfl, Lib.hid (fun j h1 h2 => by omega)⟩
          case round =>
            obtain ⟨k, hk1, hk, rfl, HC⟩ := hrel
            by_cases hlt : k < s.size
            · obtain ⟨hb0, hb1⟩ := byte_range s[k]
              have HB := Lib.hid (byteAt_lt s k hlt)
              go_wp2_with fail
              refine (iCont_any _ _ hb0 hb1).mono ?_
              rintro e w1 ⟨b1, rfl, hq1, rfl⟩
              have HQ1 := Lib.hid hq1; clear hq1
              cases b1 with
              | true =>
                go_wp2
                go_round
                case rel =>
                  refine ⟨k + 1, by omega, by omega, by go_num, Lib.hid fun j h1 h2 => ?_⟩
                  by_cases hj : j < k
                  · exact HC.out j h1 hj
                  · obtain rfl : j = k := by omega
                    rw [HB.out]
                    exact HQ1.out.1 (by simp)
                case measure => simp [intOf]; omega
              | false =>
                go_wp2
                go_ret
                refine ⟨false, rfl, ⟨fun h => by simp at h, fun h => ?_⟩, rfl⟩
                have h2 := h.2.2.2.2 k hk1 hlt
                rw [HB.out] at h2
                exact HQ1.out.2 h2
            · go_wp2
              go_ret
              refine ⟨true, rfl, ⟨fun _ => ?_, fun _ => rfl⟩, rfl⟩
              refine ⟨by omega, by omega, ?_, ?_, fun j a b => HC.out j a (by omega)⟩
              · rw [H0.out]; omega
              · rw [H0.out]; omega

set_option maxRecDepth 100000 in
theorem iName_any (s : ByteArray) (w : World) (hs : s.size ≤ 9223372036854775807) :
    Calls Try.prog 98 #[.string s] w (Tells (Nm 97 122 s) w) := by
  go_enter Try.func98, Try.ntmps98
  go_wp2_with fail
  refine (iFrom_any s _ _ _ hs).mono ?_
  rintro e w1 ⟨b1, rfl, hq1, rfl⟩
  have HQ1 := Lib.hid hq1; clear hq1
  go_wp2
  go_ret
  exact ⟨b1, rfl, HQ1.out, rfl⟩

theorem no_empty (s : ByteArray) (h : s.size = 0) : s = ⟨#[]⟩ := by
  obtain ⟨d⟩ := s
  have : d = #[] := Array.eq_empty_of_size_eq_zero h
  rw [this]
theorem some_byte (s : ByteArray) (h : s.size ≠ 0) : s.toList.isEmpty = false ∧ ¬ s.toList = [] := by
  have h2 : ¬ s.toList = [] := by
    rw [ByteArray.toList_eq]
    intro e
    have := congrArg List.length e
    simp at this
    exact h (by simpa using this)
  exact ⟨by simpa using h2, h2⟩

theorem nm_rest {lo hi : Int} {s : ByteArray} : Nm lo hi s ↔ (lo ≤ byteAt s 0 ∧ byteAt s 0 ≤ hi) ∧ Rest s := by
  constructor
  · rintro ⟨a, b, c, d, e⟩; exact ⟨⟨c, d⟩, e, a, b⟩
  · rintro ⟨⟨c, d⟩, e, a, b⟩; exact ⟨a, b, c, d, e⟩
theorem nm_no {lo hi : Int} {s : ByteArray} (h : s.size = 0) : ¬ Nm lo hi s := fun k => by have := k.1; omega

set_option maxRecDepth 100000 in
set_option maxHeartbeats 400000 in
theorem sName_any (s : ByteArray) (w : World) (hs : s.size ≤ 9223372036854775807) :
    Calls Try.prog 59 #[.string s] w (Tells (Nm 97 122 s) w) := by
  by_cases h0 : s.size = 0
  · have hn := Lib.hid (nm_no (lo := 97) (hi := 122) h0)
    obtain rfl := no_empty s h0
    go_enter Try.func59, Try.ntmps59
    go_wp2
    go_ret
    exact ⟨false, rfl, ⟨fun h => by simp at h, fun h => absurd h hn.out⟩, rfl⟩
  · obtain ⟨hb, hb'⟩ := some_byte s h0
    have hp : 0 < s.size := by omega
    have H0 := Lib.hid (byteAt_lt s 0 hp)
    obtain ⟨hb0, hb1⟩ := byte_range s[0]
    go_enter Try.func59, Try.ntmps59
    go_wp2_with fail
    refine (sLower_any _ _ hb0 hb1).mono ?_
    rintro e w1 ⟨b1, rfl, hq1, rfl⟩
    have HQ1 := Lib.hid hq1; clear hq1
    cases b1 with
    | true =>
      go_wp2_with fail
      refine (sRest_any s _ hs).mono ?_
      rintro e w1 ⟨b2, rfl, hq2, rfl⟩
      have HQ2 := Lib.hid hq2; clear hq2
      go_wp2
      go_ret
      refine ⟨b2, rfl, ?_, rfl⟩
      rw [HQ2.out, nm_rest, H0.out]
      exact ⟨fun h => ⟨HQ1.out.1 (by simp), h⟩, fun h => h.2⟩
    | false =>
      go_wp2
      go_ret
      refine ⟨false, rfl, ⟨fun h => by simp at h, fun h => ?_⟩, rfl⟩
      rw [nm_rest, H0.out] at h
      exact HQ1.out.2 h.1

set_option maxRecDepth 100000 in
set_option maxHeartbeats 400000 in
theorem sVar_any (s : ByteArray) (w : World) (hs : s.size ≤ 9223372036854775807) :
    Calls Try.prog 121 #[.string s] w (Tells (Nm 65 90 s) w) := by
  by_cases h0 : s.size = 0
  · have hn := Lib.hid (nm_no (lo := 65) (hi := 90) h0)
    obtain rfl := no_empty s h0
    go_enter Try.func121, Try.ntmps121
    go_wp2
    go_ret
    exact ⟨false, rfl, ⟨fun h => by simp at h, fun h => absurd h hn.out⟩, rfl⟩
  · obtain ⟨hb, hb'⟩ := some_byte s h0
    have hp : 0 < s.size := by omega
    have H0 := Lib.hid (byteAt_lt s 0 hp)
    by_cases a1 : 65 ≤ (s[0].toNat : Int)
    · by_cases a2 : (s[0].toNat : Int) ≤ 90
      · go_enter Try.func121, Try.ntmps121
        go_wp2_with fail
        refine (sRest_any s _ hs).mono ?_
        rintro e w1 ⟨b2, rfl, hq2, rfl⟩
        have HQ2 := Lib.hid hq2; clear hq2
        go_wp2
        go_ret
        refine ⟨b2, rfl, ?_, rfl⟩
        rw [HQ2.out, nm_rest, H0.out]
        exact ⟨fun h => ⟨⟨by omega, by omega⟩, h⟩, fun h => h.2⟩
      · go_enter Try.func121, Try.ntmps121
        go_wp2
        go_ret
        refine ⟨false, rfl, ⟨fun h => by simp at h, fun h => ?_⟩, rfl⟩
        rw [nm_rest, H0.out] at h
        omega
    · go_enter Try.func121, Try.ntmps121
      go_wp2
      go_ret
      refine ⟨false, rfl, ⟨fun h => by simp at h, fun h => ?_⟩, rfl⟩
      rw [nm_rest, H0.out] at h
      omega

theorem tells_same {X : Prop} {a b : Bool} (h : a = true ↔ X) (k : b = true ↔ X) : (a == b) = true ∧ (a != b) = false := by
  have : a = b := by cases a <;> cases b <;> simp_all
  subst this; simp
end Go.Proofs.Ytcmhiindjponcaa
