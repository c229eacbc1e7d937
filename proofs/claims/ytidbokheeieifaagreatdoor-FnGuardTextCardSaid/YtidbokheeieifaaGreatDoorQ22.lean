/-
  spec.DepthOfTerm returns how deep a term is.
  impl.IsName, impl.IsVarName and their models spec.IsName, spec.IsVarName tell the strings of 1 to 8 bytes that begin with a letter of their kind and go on in lower-case letters and digits; the laws on them answer true at every string.
  spec.IsValidTerm tells the terms of at most 60 nodes, at most 16 deep, whose every node has one of the three forms.
  Plain facts on the sizes of lists of strings and of what is joined out of them. No program.
  The representation of a term, as bytes; how long it is. No walk.
  spec.FormatInt returns the decimal numeral of its argument, for every int.
  spec.l5Text and spec.FormatTerm return a term's representation.
-/
import Derived.Test.YtidbokheeieifaaGreatDoorQ5
import Derived.Test.YtidbokheeieifaaGreatDoorRows
import Derived.Test.YtidbokheeieifaaGreatDoorQ11
import Derived.WalkLawsBesides
import Derived.Lib.Hide
import Derived.Lib.Join
import Derived.Lib.ItoaLen
import Derived.Lib.ItoaMem
import Derived.WalkKit
import Derived.WalkSpells
import Derived.Laws.IdiomStrings
namespace Go.Proofs.YtidbokheeieifaaGreatDoor
open Go.RowKit

theorem max_any (a b : Int) (w : World) : Calls Tryz.prog 103 #[.int .i64 a, .int .i64 b] w fun e w' => e = .returned (.int .i64 (max a b)) ∧ w' = w := by
  by_cases h : b < a
  · have hm : max a b = a := by omega
    rw [hm]
    go_enter Tryz.func103, Tryz.ntmps103
    go_wp2
    go_ret
    exact ⟨rfl, rfl⟩
  · have hm : max a b = b := by omega
    rw [hm]
    go_enter Tryz.func103, Tryz.ntmps103
    go_wp2
    go_ret
    exact ⟨rfl, rfl⟩

def DepthAt (lo h : Nat) : Prop := ∀ (v : Value) (t : T) (w : World), TermAt w lo h v t → wT t ≤ 1048576 →
  Calls Tryz.prog 78 #[v] w (NumB (dT t) w)

set_option maxRecDepth 100000 in
set_option maxHeartbeats 1600000 in
theorem sDepth_step (lo h : Nat) (IH : ∀ h', h = h' + 1 → DepthAt lo h') : DepthAt lo h := by
  intro v t w ht hw
  obtain ⟨kk, nn, s, u, xs, rfl, rfl, hs, ha⟩ := ht
  obtain ⟨a, cap, rfl⟩ := ha.slice
  have HA := Lib.hid (ha.below (boxed_below w kk nn s (.slice a xs.length cap))); clear ha
  have HW : Hid (xs.length + wS xs ≤ 1048576) := Lib.hid (by rw [wT_node] at hw; omega)
  have HDL : Hid (dT (.node kk nn s xs) ≤ 1048577) := Lib.hid (by have := dT_le (.node kk nn s xs); have := cT_le (.node kk nn s xs); omega)
  clear hw hs
  obtain ⟨m, hm⟩ : ∃ m, m = xs.length := ⟨_, rfl⟩
  have hml : m ≤ 1048576 := by have := HW.out; omega
  rw [← hm] at HA ⊢
  have HM := Lib.hid hm; clear hm
  have HIH := Lib.hid IH; clear IH
  have HB0 := Lib.hid (boxed_below w kk nn s (.slice a m cap))
  go_enter Tryz.func78, Tryz.ntmps78
  go_wp2
  go_loopw [3, 4] (fun c i wr => ∃ k : Nat, k ≤ m ∧ i = .int .i64 k ∧ c = .int .i64 (dS (xs.take k) : Nat) ∧ Hid (Below (boxed w kk nn s (.slice a m cap)).heap.size (boxed w kk nn s (.slice a m cap)) wr)) (fun _ i _ => m - (intOf i).toNat)
  case atStart => exact ⟨0, Nat.zero_le _, rfl, by simp [dS], Lib.hid (Below.refl _ _)⟩
  case round =>
    obtain ⟨k, hk, rfl, rfl, HB⟩ := hrel
    obtain ⟨_, _, _, cb⟩ := boxed_cells HB.out
    obtain ⟨c, hc⟩ : ∃ c : Nat, c = dS (xs.take k) := ⟨_, rfl⟩
    rw [← hc]
    have HCC := Lib.hid hc; clear hc
    by_cases hlt : k < m
    · obtain ⟨t, ht⟩ : ∃ t, xs[k]? = some t := ⟨_, List.getElem?_eq_getElem (by have := HM.out; omega)⟩
      obtain ⟨h', b, o, tk', tn, tsn, txs, u', e, rfl, rfl, hsz, c0, c1, c2, c3, har⟩ := HA.out.at ht
      have d0 := cell_on HB.out c0
      have d1 := cell_on HB.out c1
      have d2 := cell_on HB.out c2
      have d3 := cell_on HB.out c3
      clear c0 c1 c2 c3
      have hwt := wT_at xs k _ ht
      have HCALL := Lib.hid (HIH.out h' e _ _ wr ⟨tk', tn, tsn, u', txs, rfl, rfl, hsz, har.below HB.out⟩ (by have := HW.out; omega))
      have HCS : Hid (dS (xs.take (k + 1)) = max c (dT (.node tk' tn tsn txs))) := Lib.hid (by rw [tk xs k _ ht, dS_snoc, HCC.out])
      obtain ⟨ct, hcte⟩ : ∃ ct, ct = dT (.node tk' tn tsn txs) := ⟨_, rfl⟩
      rw [← hcte] at HCALL HCS
      clear hwt ht har hsz hcte e
      go_wp2_with fail
      refine HCALL.out.mono ?_
      rintro e w1 ⟨rfl, hb1⟩
      have HB2 := Lib.hid (HB.out.trans (hb1.mono HB.out.size)); clear hb1
      go_wp2_with fail
      refine (max_any _ _ _).mono ?_
      rintro e w2 ⟨rfl, rfl⟩
      have hmx : max (c : Int) (ct : Int) = ((max c ct : Nat) : Int) := by omega
      rw [hmx]
      clear hmx
      go_wp2
      go_roundw
      case rel => exact ⟨k + 1, by omega, by go_num, by rw [HCS.out], HB2⟩
      case measure => simp [intOf]; omega
    · have HD : Hid (c + 1 = dT (.node kk nn s xs)) := Lib.hid (by
        have hkn : k = xs.length := by have := HM.out; omega
        rw [HCC.out, hkn, List.take_length, dT_node])
      have hcl : c ≤ 1048576 := by have := HD.out; have := HDL.out; omega
      go_wp2
      go_ret
      exact ⟨by rw [← HD.out]; rfl, HB0.out.trans (HB.out.mono HB0.out.size)⟩

theorem sDepth_any (lo : Nat) (h : Nat) : DepthAt lo h := by_height (sDepth_step lo) h
end Go.Proofs.YtidbokheeieifaaGreatDoor
namespace Go.Proofs.YtidbokheeieifaaGreatDoor
open Go.RowKit

/-- A lower-case letter or a digit. -/
def Cont (b : Int) : Prop := (97 ≤ b ∧ b ≤ 122) ∨ (48 ≤ b ∧ b ≤ 57)
/-- The byte at place k. -/
def byteAt (s : ByteArray) (k : Nat) : Int := if h : k < s.size then (s[k].toNat : Int) else 0
theorem byteAt_lt (s : ByteArray) (k : Nat) (h : k < s.size) : byteAt s k = (s[k].toNat : Int) := by simp [byteAt, h]
/-- A name whose first byte lies from lo to hi. -/
def Nm (lo hi : Int) (s : ByteArray) : Prop := 1 ≤ s.size ∧ s.size ≤ 8 ∧ lo ≤ byteAt s 0 ∧ byteAt s 0 ≤ hi ∧ ∀ k, 1 ≤ k → k < s.size → Cont (byteAt s k)
/-- A call that answers whether X holds and changes nothing. -/
def Tells (X : Prop) (w : World) (e : Ending) (w' : World) : Prop := ∃ b, e = .returned (.bool b) ∧ (b = true ↔ X) ∧ w' = w

theorem nm_apart (s : ByteArray) (h : Nm 97 122 s) (k : Nm 65 90 s) : False := by
  have := h.2.2.1; have := k.2.2.2.1; omega

set_option maxRecDepth 100000 in
theorem iCont_any (b : Int) (w : World) (h0 : 0 ≤ b) (h1 : b ≤ 255) :
    Calls Tryz.prog 123 #[.int .u8 b] w (Tells (Cont b) w) := by
  by_cases a1 : 97 ≤ b
  · by_cases a2 : b ≤ 122
    · go_enter Tryz.func123, Tryz.ntmps123
      go_wp2
      go_ret
      exact ⟨true, rfl, by simp [Cont]; omega, rfl⟩
    · have a4 : 48 ≤ b := by omega
      have a5 : ¬ b ≤ 57 := by omega
      go_enter Tryz.func123, Tryz.ntmps123
      go_wp2
      go_ret
      exact ⟨false, rfl, by simp [Cont]; omega, rfl⟩
  · by_cases a4 : 48 ≤ b
    · by_cases a5 : b ≤ 57
      · go_enter Tryz.func123, Tryz.ntmps123
        go_wp2
        go_ret
        exact ⟨true, rfl, by simp [Cont]; omega, rfl⟩
      · go_enter Tryz.func123, Tryz.ntmps123
        go_wp2
        go_ret
        exact ⟨false, rfl, by simp [Cont]; omega, rfl⟩
    · go_enter Tryz.func123, Tryz.ntmps123
      go_wp2
      go_ret
      exact ⟨false, rfl, by simp [Cont]; omega, rfl⟩

set_option maxRecDepth 100000 in
theorem sLower_any (b : Int) (w : World) (h0 : 0 ≤ b) (h1 : b ≤ 255) :
    Calls Tryz.prog 118 #[.int .u8 b] w (Tells (97 ≤ b ∧ b ≤ 122) w) := by
  by_cases a1 : 97 ≤ b
  · by_cases a2 : b ≤ 122
    · go_enter Tryz.func118, Tryz.ntmps118
      go_wp2
      go_ret
      exact ⟨true, rfl, by simp; omega, rfl⟩
    · go_enter Tryz.func118, Tryz.ntmps118
      go_wp2
      go_ret
      exact ⟨false, rfl, by simp; omega, rfl⟩
  · go_enter Tryz.func118, Tryz.ntmps118
    go_wp2
    go_ret
    exact ⟨false, rfl, by simp; omega, rfl⟩

set_option maxRecDepth 100000 in
theorem sDigit_any (b : Int) (w : World) (h0 : 0 ≤ b) (h1 : b ≤ 255) :
    Calls Tryz.prog 75 #[.int .u8 b] w (Tells (48 ≤ b ∧ b ≤ 57) w) := by
  by_cases a1 : 48 ≤ b
  · by_cases a2 : b ≤ 57
    · go_enter Tryz.func75, Tryz.ntmps75
      go_wp2
      go_ret
      exact ⟨true, rfl, by simp; omega, rfl⟩
    · go_enter Tryz.func75, Tryz.ntmps75
      go_wp2
      go_ret
      exact ⟨false, rfl, by simp; omega, rfl⟩
  · go_enter Tryz.func75, Tryz.ntmps75
    go_wp2
    go_ret
    exact ⟨false, rfl, by simp; omega, rfl⟩

set_option maxRecDepth 100000 in
theorem sIn_any (n lo hi : Int) (w : World) :
    Calls Tryz.prog 45 #[.int .i64 n, .int .i64 lo, .int .i64 hi] w (Tells (lo ≤ n ∧ n ≤ hi) w) := by
  by_cases a1 : lo ≤ n
  · by_cases a2 : n ≤ hi
    · go_enter Tryz.func45, Tryz.ntmps45
      go_wp2
      go_ret
      exact ⟨true, rfl, by simp [a2]; omega, rfl⟩
    · go_enter Tryz.func45, Tryz.ntmps45
      go_wp2
      go_ret
      exact ⟨false, rfl, by simp; omega, rfl⟩
  · go_enter Tryz.func45, Tryz.ntmps45
    go_wp2
    go_ret
    exact ⟨false, rfl, by simp; omega, rfl⟩

/-- What comes behind the first byte. -/
def Rest (s : ByteArray) : Prop := (∀ k, 1 ≤ k → k < s.size → Cont (byteAt s k)) ∧ 1 ≤ s.size ∧ s.size ≤ 8

theorem byte_range (b : UInt8) : 0 ≤ (b.toNat : Int) ∧ (b.toNat : Int) ≤ 255 := by have := b.toNat_lt; omega

set_option maxRecDepth 100000 in
set_option maxHeartbeats 800000 in
theorem sRest_any (s : ByteArray) (w : World) (hs : s.size ≤ 9223372036854775807) :
    Calls Tryz.prog 102 #[.string s] w (Tells (Rest s) w) := by
  go_enter Tryz.func102, Tryz.ntmps102
  go_wp2
  go_loop [3] (fun i => ∃ k : Nat, 1 ≤ k ∧ k ≤ max 1 s.size ∧ i = .int .i64 k ∧ Hid (∀ j, 1 ≤ j → j < k → j < s.size → Cont (byteAt s j))) (fun i => s.size - (intOf i).toNat)
  case atStart => exact ⟨1, Nat.le_refl _, by omega, rfl, Lib.hid (fun j h1 h2 => by omega)⟩
  case round =>
    obtain ⟨k, hk1, hk, rfl, HC⟩ := hrel
    by_cases hlt : k < s.size
    · obtain ⟨hb0, hb1⟩ := byte_range s[k]
      have HB := Lib.hid (byteAt_lt s k hlt)
      go_wp2_with fail
      refine (sLower_any _ _ hb0 hb1).mono ?_
      rintro e w1 ⟨b1, rfl, hq1, rfl⟩
      have HQ1 := Lib.hid hq1; clear hq1
      cases b1 with
      | true =>
        go_wp2
        go_round
        case rel =>
          refine ⟨k + 1, by omega, by omega, by go_num, Lib.hid fun j h1 h2 h3 => ?_⟩
          by_cases hj : j < k
          · exact HC.out j h1 hj h3
          · obtain rfl : j = k := by omega
            rw [HB.out]
            exact Or.inl (HQ1.out.1 (by simp))
        case measure => simp [intOf]; omega
      | false =>
        go_wp2_with fail
        refine (sDigit_any _ _ hb0 hb1).mono ?_
        rintro e w1 ⟨b2, rfl, hq2, rfl⟩
        have HQ2 := Lib.hid hq2; clear hq2
        cases b2 with
        | true =>
          go_wp2
          go_round
          case rel =>
            refine ⟨k + 1, by omega, by omega, by go_num, Lib.hid fun j h1 h2 h3 => ?_⟩
            by_cases hj : j < k
            · exact HC.out j h1 hj h3
            · obtain rfl : j = k := by omega
              rw [HB.out]
              exact Or.inr (HQ2.out.1 (by simp))
          case measure => simp [intOf]; omega
        | false =>
          go_wp2
          go_ret
          refine ⟨false, rfl, ⟨fun h => by simp at h, fun h => ?_⟩, rfl⟩
          rcases h.1 k hk1 hlt with h2 | h2
          · rw [HB.out] at h2; exact HQ1.out.2 h2
          · rw [HB.out] at h2; exact HQ2.out.2 h2
    · go_wp2_with fail
      refine (sIn_any _ _ _ _).mono ?_
      rintro e w1 ⟨b1, rfl, hq1, rfl⟩
      have HQ1 := Lib.hid hq1; clear hq1
      go_wp2
      go_ret
      refine ⟨b1, rfl, ?_, rfl⟩
      rw [HQ1.out]
      constructor
      · rintro ⟨h1, h2⟩
        exact ⟨fun j a b => HC.out j a (by omega) b, by omega, by omega⟩
      · rintro ⟨_, h1, h2⟩
        exact ⟨by omega, by omega⟩

set_option maxRecDepth 100000 in
set_option maxHeartbeats 800000 in
theorem iFrom_any (s : ByteArray) (lo hi : Int) (w : World) (hs : s.size ≤ 9223372036854775807) :
    Calls Tryz.prog 110 #[.string s, .int .u8 lo, .int .u8 hi] w (Tells (Nm lo hi s) w) := by
  by_cases h0 : s.size = 0
  · have h0' : ((s.size : Int) == 0) = true := by rw [h0]; rfl
    go_enter Tryz.func110, Tryz.ntmps110
    go_wp2
    go_ret
    exact ⟨false, rfl, ⟨fun h => by simp at h, fun h => by have := h.1; omega⟩, rfl⟩
  · have h0' : ((s.size : Int) == 0) = false := by rw [beq_eq_false_iff_ne]; omega
    by_cases h8 : 8 < s.size
    · go_enter Tryz.func110, Tryz.ntmps110
      go_wp2
      go_ret
      exact ⟨false, rfl, ⟨fun h => by simp at h, fun h => by have := h.2.1; omega⟩, rfl⟩
    · have hp : 0 < s.size := by omega
      have H0 := Lib.hid (byteAt_lt s 0 hp)
      by_cases hl : (s[0].toNat : Int) < lo
      · go_enter Tryz.func110, Tryz.ntmps110
        go_wp2
        go_ret
        exact ⟨false, rfl, ⟨fun h => by simp at h, fun h => by have := h.2.2.1; have := H0.out; omega⟩, rfl⟩
      · by_cases hh : hi < (s[0].toNat : Int)
        · go_enter Tryz.func110, Tryz.ntmps110
          go_wp2
          go_ret
          exact ⟨false, rfl, ⟨fun h => by simp at h, fun h => by have := h.2.2.2.1; have := H0.out; omega⟩, rfl⟩
        · go_enter Tryz.func110, Tryz.ntmps110
          go_wp2
          go_loop [7] (fun i => ∃ k : Nat, 1 ≤ k ∧ k ≤ s.size ∧ i = .int .i64 k ∧ Hid (∀ j, 1 ≤ j → j < k → Cont (byteAt s j))) (fun i => s.size - (intOf i).toNat)
          case atStart => exact ⟨1, Nat.le_refl _, by omega, rfl, Lib.hid (fun j h1 h2 => by omega)⟩
          case round =>
            obtain ⟨k, hk1, hk, rfl, HC⟩ := hrel
            by_cases hlt : k < s.size
            · obtain ⟨hb0, hb1⟩ := byte_range s[k]
              have HB := Lib.hid (byteAt_lt s k hlt)
              go_wp2_with fail
              refine (iCont_any _ _ hb0 hb1).mono ?_
              rintro e w1 ⟨b1, rfl, hq1, rfl⟩
              have HQ1 := Lib.hid hq1; clear hq1
              cases b1 with
              | true =>
                go_wp2
                go_round
                case rel =>
                  refine ⟨k + 1, by omega, by omega, by go_num, Lib.hid fun j h1 h2 => ?_⟩
                  by_cases hj : j < k
                  · exact HC.out j h1 hj
                  · obtain rfl : j = k := by omega
                    rw [HB.out]
                    exact HQ1.out.1 (by simp)
                case measure => simp [intOf]; omega
              | false =>
                go_wp2
                go_ret
                refine ⟨false, rfl, ⟨fun h => by simp at h, fun h => ?_⟩, rfl⟩
                have h2 := h.2.2.2.2 k hk1 hlt
                rw [HB.out] at h2
                exact HQ1.out.2 h2
            · go_wp2
              go_ret
              refine ⟨true, rfl, ⟨fun _ => ?_, fun _ => rfl⟩, rfl⟩
              refine ⟨by omega, by omega, ?_, ?_, fun j a b => HC.out j a (by omega)⟩
              · rw [H0.out]; omega
              · rw [H0.out]; omega

set_option maxRecDepth 100000 in
theorem iName_any (s : ByteArray) (w : World) (hs : s.size ≤ 9223372036854775807) :
    Calls Tryz.prog 94 #[.string s] w (Tells (Nm 97 122 s) w) := by
  go_enter Tryz.func94, Tryz.ntmps94
  go_wp2_with fail
  refine (iFrom_any s _ _ _ hs).mono ?_
  rintro e w1 ⟨b1, rfl, hq1, rfl⟩
  have HQ1 := Lib.hid hq1; clear hq1
  go_wp2
  go_ret
  exact ⟨b1, rfl, HQ1.out, rfl⟩

theorem no_empty (s : ByteArray) (h : s.size = 0) : s = ⟨#[]⟩ := by
  obtain ⟨d⟩ := s
  have : d = #[] := Array.eq_empty_of_size_eq_zero h
  rw [this]
theorem some_byte (s : ByteArray) (h : s.size ≠ 0) : s.toList.isEmpty = false ∧ ¬ s.toList = [] := by
  have h2 : ¬ s.toList = [] := by
    rw [ByteArray.toList_eq]
    intro e
    have := congrArg List.length e
    simp at this
    exact h (by simpa using this)
  exact ⟨by simpa using h2, h2⟩

theorem nm_rest {lo hi : Int} {s : ByteArray} : Nm lo hi s ↔ (lo ≤ byteAt s 0 ∧ byteAt s 0 ≤ hi) ∧ Rest s := by
  constructor
  · rintro ⟨a, b, c, d, e⟩; exact ⟨⟨c, d⟩, e, a, b⟩
  · rintro ⟨⟨c, d⟩, e, a, b⟩; exact ⟨a, b, c, d, e⟩
theorem nm_no {lo hi : Int} {s : ByteArray} (h : s.size = 0) : ¬ Nm lo hi s := fun k => by have := k.1; omega

set_option maxRecDepth 100000 in
set_option maxHeartbeats 400000 in
theorem sName_any (s : ByteArray) (w : World) (hs : s.size ≤ 9223372036854775807) :
    Calls Tryz.prog 119 #[.string s] w (Tells (Nm 97 122 s) w) := by
  by_cases h0 : s.size = 0
  · have hn := Lib.hid (nm_no (lo := 97) (hi := 122) h0)
    obtain rfl := no_empty s h0
    go_enter Tryz.func119, Tryz.ntmps119
    go_wp2
    go_ret
    exact ⟨false, rfl, ⟨fun h => by simp at h, fun h => absurd h hn.out⟩, rfl⟩
  · obtain ⟨hb, hb'⟩ := some_byte s h0
    have hp : 0 < s.size := by omega
    have H0 := Lib.hid (byteAt_lt s 0 hp)
    obtain ⟨hb0, hb1⟩ := byte_range s[0]
    go_enter Tryz.func119, Tryz.ntmps119
    go_wp2_with fail
    refine (sLower_any _ _ hb0 hb1).mono ?_
    rintro e w1 ⟨b1, rfl, hq1, rfl⟩
    have HQ1 := Lib.hid hq1; clear hq1
    cases b1 with
    | true =>
      go_wp2_with fail
      refine (sRest_any s _ hs).mono ?_
      rintro e w1 ⟨b2, rfl, hq2, rfl⟩
      have HQ2 := Lib.hid hq2; clear hq2
      go_wp2
      go_ret
      refine ⟨b2, rfl, ?_, rfl⟩
      rw [HQ2.out, nm_rest, H0.out]
      exact ⟨fun h => ⟨HQ1.out.1 (by simp), h⟩, fun h => h.2⟩
    | false =>
      go_wp2
      go_ret
      refine ⟨false, rfl, ⟨fun h => by simp at h, fun h => ?_⟩, rfl⟩
      rw [nm_rest, H0.out] at h
      exact HQ1.out.2 h.1

set_option maxRecDepth 100000 in
set_option maxHeartbeats 400000 in
theorem sVar_any (s : ByteArray) (w : World) (hs : s.size ≤ 9223372036854775807) :
    Calls Tryz.prog 74 #[.string s] w (Tells (Nm 65 90 s) w) := by
  by_cases h0 : s.size = 0
  · have hn := Lib.hid (nm_no (lo := 65) (hi := 90) h0)
    obtain rfl := no_empty s h0
    go_enter Tryz.func74, Tryz.ntmps74
    go_wp2
    go_ret
    exact ⟨false, rfl, ⟨fun h => by simp at h, fun h => absurd h hn.out⟩, rfl⟩
  · obtain ⟨hb, hb'⟩ := some_byte s h0
    have hp : 0 < s.size := by omega
    have H0 := Lib.hid (byteAt_lt s 0 hp)
    by_cases a1 : 65 ≤ (s[0].toNat : Int)
    · by_cases a2 : (s[0].toNat : Int) ≤ 90
      · go_enter Tryz.func74, Tryz.ntmps74
        go_wp2_with fail
        refine (sRest_any s _ hs).mono ?_
        rintro e w1 ⟨b2, rfl, hq2, rfl⟩
        have HQ2 := Lib.hid hq2; clear hq2
        go_wp2
        go_ret
        refine ⟨b2, rfl, ?_, rfl⟩
        rw [HQ2.out, nm_rest, H0.out]
        exact ⟨fun h => ⟨⟨by omega, by omega⟩, h⟩, fun h => h.2⟩
      · go_enter Tryz.func74, Tryz.ntmps74
        go_wp2
        go_ret
        refine ⟨false, rfl, ⟨fun h => by simp at h, fun h => ?_⟩, rfl⟩
        rw [nm_rest, H0.out] at h
        omega
    · go_enter Tryz.func74, Tryz.ntmps74
      go_wp2
      go_ret
      refine ⟨false, rfl, ⟨fun h => by simp at h, fun h => ?_⟩, rfl⟩
      rw [nm_rest, H0.out] at h
      omega

theorem tells_same {X : Prop} {a b : Bool} (h : a = true ↔ X) (k : b = true ↔ X) : (a == b) = true ∧ (a != b) = false := by
  have : a = b := by cases a <;> cases b <;> simp_all
  subst this; simp
end Go.Proofs.YtidbokheeieifaaGreatDoor
namespace Go.Proofs.YtidbokheeieifaaGreatDoor
open Go.RowKit

/-- A call that answers whether X holds and leaves what was there. -/
def TellsT (X : Prop) (w : World) (e : Ending) (w' : World) : Prop := ∃ b, e = .returned (.bool b) ∧ (b = true ↔ X) ∧ Below w.heap.size w w'

/-- One node has one of the three forms. -/
def NodeOk (k n : Int) (s : ByteArray) (m : Nat) : Prop :=
  (k = 1 ∧ Nm 65 90 s ∧ n = 0 ∧ m = 0) ∨ (k = 2 ∧ Nm 97 122 s ∧ n = 0) ∨ (k = 3 ∧ s.size = 0 ∧ 0 ≤ n ∧ n ≤ 3 ∧ m = 0)

set_option maxRecDepth 100000 in
set_option maxHeartbeats 1600000 in
theorem sNode_any (k n : Int) (s : ByteArray) (a : Option Addr) (m cap : Nat) (w : World) (hs : s.size ≤ maxLen) :
    Calls Tryz.prog 104 #[tv k n s (.slice a m cap)] w (TellsT (NodeOk k n s m) w) := by
  have hs2 : s.size ≤ 9223372036854775807 := by unfold maxLen at hs; omega
  clear hs
  have HB0 := Lib.hid (boxed_below w k n s (.slice a m cap))
  by_cases h1 : k = 1
  · subst h1
    go_enter Tryz.func104, Tryz.ntmps104
    go_wp2_with fail
    refine (sVar_any s _ hs2).mono ?_
    rintro e w1 ⟨b1, rfl, hq, rfl⟩
    have HQ := Lib.hid hq; clear hq
    cases b1 with
    | false =>
      go_wp2
      go_ret
      refine ⟨false, rfl, ⟨fun h => by simp at h, fun h => ?_⟩, HB0.out⟩
      rcases h with ⟨_, h, _⟩ | ⟨h, _⟩ | ⟨h, _⟩
      · exact absurd h (fun q => by have := HQ.out.2 q; simp at this)
      · omega
      · omega
    | true =>
      by_cases hn : n = 0
      · subst hn
        by_cases hm : m = 0
        · subst hm
          go_wp2
          go_ret
          exact ⟨true, rfl, ⟨fun _ => Or.inl ⟨rfl, HQ.out.1 (by simp), rfl, rfl⟩, fun _ => rfl⟩, HB0.out⟩
        · have hm' : ((m : Int) == 0) = false := by rw [beq_eq_false_iff_ne]; omega
          go_wp2
          go_ret
          refine ⟨false, rfl, ⟨fun h => by simp at h, fun h => ?_⟩, HB0.out⟩
          rcases h with ⟨_, _, _, h⟩ | ⟨h, _⟩ | ⟨h, _⟩ <;> omega
      · have hn' : (n == 0) = false := by rw [beq_eq_false_iff_ne]; exact hn
        go_wp2
        go_ret
        refine ⟨false, rfl, ⟨fun h => by simp at h, fun h => ?_⟩, HB0.out⟩
        rcases h with ⟨_, _, h, _⟩ | ⟨h, _⟩ | ⟨h, _⟩ <;> omega
  · have h1' : (k == 1) = false := by rw [beq_eq_false_iff_ne]; exact h1
    by_cases h2 : k = 2
    · subst h2
      go_enter Tryz.func104, Tryz.ntmps104
      go_wp2_with fail
      refine (sName_any s _ hs2).mono ?_
      rintro e w1 ⟨b1, rfl, hq, rfl⟩
      have HQ := Lib.hid hq; clear hq
      cases b1 with
      | false =>
        go_wp2
        go_ret
        refine ⟨false, rfl, ⟨fun h => by simp at h, fun h => ?_⟩, HB0.out⟩
        rcases h with ⟨h, _⟩ | ⟨_, h, _⟩ | ⟨h, _⟩
        · omega
        · exact absurd h (fun q => by have := HQ.out.2 q; simp at this)
        · omega
      | true =>
        by_cases hn : n = 0
        · subst hn
          go_wp2
          go_ret
          exact ⟨true, rfl, ⟨fun _ => Or.inr (Or.inl ⟨rfl, HQ.out.1 (by simp), rfl⟩), fun _ => rfl⟩, HB0.out⟩
        · have hn' : (n == 0) = false := by rw [beq_eq_false_iff_ne]; exact hn
          go_wp2
          go_ret
          refine ⟨false, rfl, ⟨fun h => by simp at h, fun h => ?_⟩, HB0.out⟩
          rcases h with ⟨h, _⟩ | ⟨_, _, h⟩ | ⟨h, _⟩ <;> omega
    · have h2' : (k == 2) = false := by rw [beq_eq_false_iff_ne]; exact h2
      by_cases h3 : k = 3
      · subst h3
        by_cases h0 : s.size = 0
        · obtain rfl := no_empty s h0
          go_enter Tryz.func104, Tryz.ntmps104
          go_wp2_with fail
          refine (sIn_any _ _ _ _).mono ?_
          rintro e w1 ⟨b1, rfl, hq, rfl⟩
          have HQ := Lib.hid hq; clear hq
          cases b1 with
          | false =>
            go_wp2
            go_ret
            refine ⟨false, rfl, ⟨fun h => by simp at h, fun h => ?_⟩, HB0.out⟩
            rcases h with ⟨h, _⟩ | ⟨h, _⟩ | ⟨_, _, h4, h5, _⟩
            · omega
            · omega
            · have := HQ.out.2 ⟨h4, h5⟩; simp at this
          | true =>
            have HQ2 := HQ.out.1 (by simp)
            by_cases hm : m = 0
            · subst hm
              have HQ3 := Lib.hid HQ2; clear HQ2
              go_wp2
              go_ret
              exact ⟨true, rfl, ⟨fun _ => Or.inr (Or.inr ⟨rfl, rfl, HQ3.out.1, HQ3.out.2, rfl⟩), fun _ => rfl⟩, HB0.out⟩
            · have hm' : ((m : Int) == 0) = false := by rw [beq_eq_false_iff_ne]; omega
              clear HQ2
              go_wp2
              go_ret
              refine ⟨false, rfl, ⟨fun h => by simp at h, fun h => ?_⟩, HB0.out⟩
              rcases h with ⟨h, _⟩ | ⟨h, _⟩ | ⟨_, _, _, _, h⟩ <;> omega
        · obtain ⟨hb, hb'⟩ := some_byte s h0
          go_enter Tryz.func104, Tryz.ntmps104
          go_wp2
          go_ret
          refine ⟨false, rfl, ⟨fun h => by simp at h, fun h => ?_⟩, HB0.out⟩
          rcases h with ⟨h, _⟩ | ⟨h, _⟩ | ⟨_, h, _⟩ <;> omega
      · have h3' : (k == 3) = false := by rw [beq_eq_false_iff_ne]; exact h3
        go_enter Tryz.func104, Tryz.ntmps104
        go_wp2
        go_ret
        refine ⟨false, rfl, ⟨fun h => by simp at h, fun h => ?_⟩, HB0.out⟩
        rcases h with ⟨h, _⟩ | ⟨h, _⟩ | ⟨h, _⟩ <;> omega

/-! ### all nodes -/
/-- Every node of a term has one of the three forms. -/
def OkT : T → Prop
  | .node k n s xs => NodeOk k n s xs.length ∧ ∀ x ∈ xs, OkT x
theorem okT_node (k n : Int) (s : ByteArray) (xs : List T) : OkT (.node k n s xs) ↔ NodeOk k n s xs.length ∧ ∀ x ∈ xs, OkT x := by rw [OkT]

def AllAt (lo h : Nat) : Prop := ∀ (v : Value) (t : T) (w : World), TermAt w lo h v t → wT t ≤ 1048576 →
  Calls Tryz.prog 79 #[v] w (TellsT (OkT t) w)

set_option maxRecDepth 100000 in
set_option maxHeartbeats 1600000 in
theorem sAll_step (lo h : Nat) (IH : ∀ h', h = h' + 1 → AllAt lo h') : AllAt lo h := by
  intro v t w ht hw
  obtain ⟨kk, nn, s, u, xs, rfl, rfl, hs, ha⟩ := ht
  obtain ⟨a, cap, rfl⟩ := ha.slice
  have HA := Lib.hid (ha.below (boxed_below w kk nn s (.slice a xs.length cap))); clear ha
  have HW : Hid (xs.length + wS xs ≤ 1048576) := Lib.hid (by rw [wT_node] at hw; omega)
  have HSZ := Lib.hid hs
  have HOK := Lib.hid (okT_node kk nn s xs)
  clear hw hs
  have hnode : ∀ w', Calls Tryz.prog 104 #[tv kk nn s (.slice a xs.length cap)] w' (TellsT (NodeOk kk nn s xs.length) w') := fun w' => sNode_any kk nn s a xs.length cap w' HSZ.out
  have HND := Lib.hid hnode; clear hnode
  obtain ⟨m, hm⟩ : ∃ m, m = xs.length := ⟨_, rfl⟩
  have hml : m ≤ 1048576 := by have := HW.out; omega
  rw [← hm] at HA HND HOK ⊢
  have HM := Lib.hid hm; clear hm
  have HIH := Lib.hid IH; clear IH
  have HB0 := Lib.hid (boxed_below w kk nn s (.slice a m cap))
  go_enter Tryz.func79, Tryz.ntmps79
  go_wp2
  go_loopw [3] (fun i wr => ∃ k : Nat, k ≤ m ∧ i = .int .i64 k ∧ Hid (∀ j x, j < k → xs[j]? = some x → OkT x) ∧ Hid (Below (boxed w kk nn s (.slice a m cap)).heap.size (boxed w kk nn s (.slice a m cap)) wr)) (fun i _ => m - (intOf i).toNat)
  case atStart => exact ⟨0, Nat.zero_le _, rfl, Lib.hid (fun j x hj => by omega), Lib.hid (Below.refl _ _)⟩
  case round =>
    obtain ⟨k, hk, rfl, HF, HB⟩ := hrel
    obtain ⟨cb0, cb1, cb2, cb⟩ := boxed_cells HB.out
    by_cases hlt : k < m
    · obtain ⟨t, ht⟩ : ∃ t, xs[k]? = some t := ⟨_, List.getElem?_eq_getElem (by have := HM.out; omega)⟩
      obtain ⟨h', b, o, tk', tn, tsn, txs, u', e, rfl, rfl, hsz, c0, c1, c2, c3, har⟩ := HA.out.at ht
      have d0 := cell_on HB.out c0
      have d1 := cell_on HB.out c1
      have d2 := cell_on HB.out c2
      have d3 := cell_on HB.out c3
      clear c0 c1 c2 c3
      have hwt := wT_at xs k _ ht
      have HCALL := Lib.hid (HIH.out h' e _ _ wr ⟨tk', tn, tsn, u', txs, rfl, rfl, hsz, har.below HB.out⟩ (by have := HW.out; omega))
      have HT := Lib.hid ht
      clear hwt ht har hsz e
      go_wp2_with fail
      refine HCALL.out.mono ?_
      rintro e w1 ⟨b1, rfl, hq, hb1⟩
      have HB2 := Lib.hid (HB.out.trans (hb1.mono HB.out.size)); clear hb1
      have HQ := Lib.hid hq; clear hq
      cases b1 with
      | true =>
        go_wp2
        go_roundw
        case rel =>
          refine ⟨k + 1, by omega, by go_num, Lib.hid fun j x hj hx => ?_, HB2⟩
          by_cases hjk : j = k
          · subst hjk
            rw [HT.out] at hx; cases hx
            exact HQ.out.1 (by simp)
          · exact HF.out j x (by omega) hx
        case measure => simp [intOf]; omega
      | false =>
        go_wp2
        go_ret
        refine ⟨false, rfl, ⟨fun h => by simp at h, fun h => ?_⟩, HB0.out.trans (HB2.out.mono HB0.out.size)⟩
        have := HQ.out.2 ((HOK.out.1 h).2 _ (List.mem_of_getElem? HT.out))
        simp at this
    · have HD : Hid (∀ x ∈ xs, OkT x) := Lib.hid (fun x hx => by
        obtain ⟨j, hj⟩ := List.mem_iff_getElem?.1 hx
        exact HF.out j x (by have := (List.getElem?_eq_some_iff.1 hj).1; have := HM.out; omega) hj)
      go_wp2_with fail
      refine (HND.out wr).mono ?_
      rintro e w1 ⟨b1, rfl, hq, hb1⟩
      have HB2 := Lib.hid (HB.out.trans (hb1.mono HB.out.size)); clear hb1
      have HQ := Lib.hid hq; clear hq
      go_wp2
      go_ret
      refine ⟨b1, rfl, ?_, HB0.out.trans (HB2.out.mono HB0.out.size)⟩
      rw [HQ.out, HOK.out]
      exact ⟨fun h => ⟨h, HD.out⟩, fun h => h.1⟩

theorem sAll_any (lo : Nat) (h : Nat) : AllAt lo h := by_height (sAll_step lo) h

/-! ### no more than so many nodes -/
def LeftAt (lo h : Nat) : Prop := ∀ (v : Value) (t : T) (left : Nat) (w : World), TermAt w lo h v t → wT t ≤ 1048576 → left ≤ 60 →
  Calls Tryz.prog 77 #[v, .int .i64 left] w (NumB (max ((left : Int) - cT t) (-1)) w)

set_option maxRecDepth 100000 in
set_option maxHeartbeats 1600000 in
theorem sLeft_step (lo h : Nat) (IH : ∀ h', h = h' + 1 → LeftAt lo h') : LeftAt lo h := by
  intro v t left w ht hw hleft
  obtain ⟨kk, nn, s, u, xs, rfl, rfl, hs, ha⟩ := ht
  obtain ⟨a, cap, rfl⟩ := ha.slice
  have HA := Lib.hid (ha.below (boxed_below w kk nn s (.slice a xs.length cap))); clear ha
  have HW : Hid (xs.length + wS xs ≤ 1048576) := Lib.hid (by rw [wT_node] at hw; omega)
  have HCN := Lib.hid (cT_node kk nn s xs)
  clear hw hs
  obtain ⟨m, hm⟩ : ∃ m, m = xs.length := ⟨_, rfl⟩
  have hml : m ≤ 1048576 := by have := HW.out; omega
  rw [← hm] at HA ⊢
  have HM := Lib.hid hm; clear hm
  have HIH := Lib.hid IH; clear IH
  have HB0 := Lib.hid (boxed_below w kk nn s (.slice a m cap))
  go_enter Tryz.func77, Tryz.ntmps77
  go_wp2
  go_loopw [1, 5] (fun c i wr => ∃ (k : Nat) (x : Int), k ≤ m ∧ i = .int .i64 k ∧ c = .int .i64 x ∧ -1 ≤ x ∧ x ≤ 60 ∧ Hid (x = max ((left : Int) - 1 - cS (xs.take k)) (-1)) ∧ Hid (Below (boxed w kk nn s (.slice a m cap)).heap.size (boxed w kk nn s (.slice a m cap)) wr)) (fun _ i _ => m - (intOf i).toNat)
  case atStart => exact ⟨0, (left : Int) - 1, Nat.zero_le _, rfl, rfl, by omega, by omega, Lib.hid (by simp [cS]; omega), Lib.hid (Below.refl _ _)⟩
  case round =>
    obtain ⟨k, x, hk, rfl, rfl, hx0, hx1, HX, HB⟩ := hrel
    obtain ⟨_, _, _, cb⟩ := boxed_cells HB.out
    by_cases hlt : k < m
    · by_cases hneg : x < 0
      · have HD : Hid (x = max ((left : Int) - cT (.node kk nn s xs)) (-1)) := Lib.hid (by
          have h1 := HX.out
          have h2 := cS_take xs k
          rw [HCN.out]
          omega)
        go_wp2
        go_ret
        exact ⟨by rw [← HD.out]; rfl, HB0.out.trans (HB.out.mono HB0.out.size)⟩
      · have hpos : 0 ≤ x := by omega
        obtain ⟨t, ht⟩ : ∃ t, xs[k]? = some t := ⟨_, List.getElem?_eq_getElem (by have := HM.out; omega)⟩
        obtain ⟨h', b, o, tk', tn, tsn, txs, u', e, rfl, rfl, hsz, c0, c1, c2, c3, har⟩ := HA.out.at ht
        have d0 := cell_on HB.out c0
        have d1 := cell_on HB.out c1
        have d2 := cell_on HB.out c2
        have d3 := cell_on HB.out c3
        clear c0 c1 c2 c3
        have hwt := wT_at xs k _ ht
        have hcall := HIH.out h' e _ _ x.toNat wr ⟨tk', tn, tsn, u', txs, rfl, rfl, hsz, har.below HB.out⟩ (by have := HW.out; omega) (by omega)
        rw [show ((x.toNat : Nat) : Int) = x by omega] at hcall
        have HCALL := Lib.hid hcall
        obtain ⟨y, hy⟩ : ∃ y, y = max (x - (cT (.node tk' tn tsn txs) : Int)) (-1) := ⟨_, rfl⟩
        have HY : Hid (y = max ((left : Int) - 1 - cS (xs.take (k + 1))) (-1)) := Lib.hid (by
          have h1 := HX.out
          rw [tk xs k _ ht, cS_snoc]
          omega)
        have hy0 : -1 ≤ y ∧ y ≤ 60 := by omega
        obtain ⟨hy1, hy2⟩ := hy0
        rw [← hy] at HCALL
        clear hwt ht har hsz e hcall hy
        go_wp2_with fail
        refine HCALL.out.mono ?_
        rintro e w1 ⟨rfl, hb1⟩
        have HB2 := Lib.hid (HB.out.trans (hb1.mono HB.out.size)); clear hb1
        go_wp2
        go_roundw
        case rel => exact ⟨k + 1, y, by omega, by go_num, rfl, hy1, hy2, HY, HB2⟩
        case measure => simp [intOf]; omega
    · have HD : Hid (x = max ((left : Int) - cT (.node kk nn s xs)) (-1)) := Lib.hid (by
        have h1 := HX.out
        have hkn : k = xs.length := by have := HM.out; omega
        rw [hkn, List.take_length] at h1
        rw [HCN.out]
        omega)
      go_wp2
      go_ret
      exact ⟨by rw [← HD.out]; rfl, HB0.out.trans (HB.out.mono HB0.out.size)⟩

theorem sLeft_any (lo : Nat) (h : Nat) : LeftAt lo h := by_height (sLeft_step lo) h

/-- A valid term. -/
def ValidT (t : T) : Prop := cT t ≤ 60 ∧ dT t ≤ 16 ∧ OkT t

set_option maxRecDepth 100000 in
set_option maxHeartbeats 800000 in
theorem sValid_any (v : Value) (t : T) (lo h : Nat) (w : World) (ht : TermAt w lo h v t) (hw : wT t ≤ 1048576) :
    Calls Tryz.prog 47 #[v] w (TellsT (ValidT t) w) := by
  have HW := Lib.hid hw; clear hw
  have HT := Lib.hid ht
  obtain ⟨kk, nn, s, u, xs, rfl, et, hs, ha⟩ := ht
  clear et hs ha xs
  have HB0 := Lib.hid (boxed_below w kk nn s u)
  go_enter Tryz.func47, Tryz.ntmps47
  go_wp2_with fail
  refine (sLeft_any lo h _ t 60 _ (HT.out.below HB0.out) HW.out (by decide)).mono ?_
  rintro e w1 ⟨rfl, hb1⟩
  have hc1 := boxed_cells hb1
  obtain ⟨c0, c1, c2, c3⟩ := hc1
  have HB1 := Lib.hid (HB0.out.trans (hb1.mono HB0.out.size))
  have HT1 := Lib.hid ((HT.out.below HB0.out).below hb1)
  have HBX := Lib.hid hb1; clear hb1
  obtain ⟨y, hy⟩ : ∃ y, y = max (((60 : Nat) : Int) - cT t) (-1) := ⟨_, rfl⟩
  rw [← hy]
  have HY := Lib.hid hy; clear hy
  by_cases hy0 : 0 ≤ y
  · have HC : Hid (cT t ≤ 60) := Lib.hid (by have := HY.out; omega)
    have hdl := dT_le t
    have hdc : dT t ≤ 60 := by have := HC.out; omega
    clear hdl
    obtain ⟨d, hd⟩ : ∃ d, d = dT t := ⟨_, rfl⟩
    have HDD := Lib.hid hd
    go_wp2_with fail
    refine (sDepth_any lo h _ t _ HT1.out HW.out).mono ?_
    rintro e w2 ⟨rfl, hb2⟩
    have e0 := cell_on hb2 c0
    have e1 := cell_on hb2 c1
    have e2 := cell_on hb2 c2
    have e3 := cell_on hb2 c3
    have HB2 := Lib.hid (HB1.out.trans (hb2.mono HB1.out.size))
    have HT2 := Lib.hid (HT1.out.below hb2); clear hb2 c0 c1 c2 c3
    rw [← hd]
    rw [← hd] at hdc
    clear hd
    by_cases hd16 : d ≤ 16
    · go_wp2_with fail
      refine (sAll_any lo h _ t _ HT2.out HW.out).mono ?_
      rintro e w3 ⟨b3, rfl, hq, hb3⟩
      have HQ := Lib.hid hq; clear hq
      have HB3 := Lib.hid (HB2.out.trans (hb3.mono HB2.out.size)); clear hb3
      go_wp2
      go_ret
      refine ⟨b3, rfl, ?_, HB3.out⟩
      rw [HQ.out]
      exact ⟨fun h => ⟨HC.out, by rw [← HDD.out]; exact hd16, h⟩, fun h => h.2.2⟩
    · go_wp2
      go_ret
      refine ⟨false, rfl, ⟨fun h => by simp at h, fun h => ?_⟩, HB2.out⟩
      have := h.2.1
      rw [← HDD.out] at this
      omega
  · go_wp2
    go_ret
    refine ⟨false, rfl, ⟨fun h => by simp at h, fun h => ?_⟩, HB1.out⟩
    have := h.1
    have := HY.out
    omega
end Go.Proofs.YtidbokheeieifaaGreatDoor
namespace Go.Proofs.YtidbokheeieifaaGreatDoor
open Go

/-- The bytes of all strings together. -/
def total (ps : List ByteArray) : Nat := (ps.map (·.size)).sum
theorem total_snoc (ps : List ByteArray) (p : ByteArray) : total (ps ++ [p]) = total ps + p.size := by simp [total]
theorem take_next {α : Type} (l : List α) (k : Nat) (x : α) (h : l[k]? = some x) : l.take (k + 1) = l.take k ++ [x] := by
  rw [List.take_add_one, h]; rfl
theorem total_take_le (ps : List ByteArray) (k : Nat) : total (ps.take k) ≤ total ps := by
  have h : total ps = total (ps.take k) + total (ps.drop k) := by
    unfold total
    rw [← List.sum_append, ← List.map_append, List.take_append_drop]
  omega

theorem join_length (sep : List UInt8) (ps : List ByteArray) : (Lib.join (ps.map (·.data.toList)) sep).length ≤ total ps + ps.length * sep.length := by
  cases ps with
  | nil => simp [Lib.join_nil]
  | cons p r =>
    rw [List.map_cons, Lib.join_cons]
    have h : ∀ r : List ByteArray, (Lib.joinTail sep (r.map (·.data.toList))).length = total r + r.length * sep.length := by
      intro r
      induction r with
      | nil => simp [Lib.joinTail, total]
      | cons q r ih =>
        have e : Lib.joinTail sep ((q :: r).map (·.data.toList)) = sep ++ q.data.toList ++ Lib.joinTail sep (r.map (·.data.toList)) := by simp [Lib.joinTail]
        have e2 : total (q :: r) = q.size + total r := by simp [total]
        have e3 : q.data.toList.length = q.size := by simp
        rw [e, List.length_append, List.length_append, ih, e2, e3, List.length_cons, Nat.add_mul]
        omega
    have e2 : total (p :: r) = p.size + total r := by simp [total]
    have e3 : p.data.toList.length = p.size := by simp
    rw [List.length_append, h r, e2, e3, List.length_cons, Nat.add_mul]
    omega

end Go.Proofs.YtidbokheeieifaaGreatDoor
namespace Go.Proofs.YtidbokheeieifaaGreatDoor
open Go.RowKit

theorem join_snoc5 (sep : List UInt8) (l : List (List UInt8)) (x : List UInt8) (h : l ≠ []) : Lib.join (l ++ [x]) sep = Lib.join l sep ++ sep ++ x := by
  cases l with
  | nil => exact absurd rfl h
  | cons y r => rw [List.cons_append, Lib.join_cons, Lib.join_cons]; simp [Lib.joinTail]

/-- The representation of a term. -/
def textL : T → List UInt8
  | .node k n s xs => if k = 3 then Lib.itoa n else if xs.length = 0 then s.data.toList else s.data.toList ++ [40] ++ Lib.join (xs.map textL) [44, 32] ++ [41]
theorem textL_node (k n : Int) (s : ByteArray) (xs : List T) : textL (.node k n s xs) = if k = 3 then Lib.itoa n else if xs.length = 0 then s.data.toList else s.data.toList ++ [40] ++ Lib.join (xs.map textL) [44, 32] ++ [41] := by rw [textL]
/-- The same as a string. -/
def strT (t : T) : ByteArray := ⟨(textL t).toArray⟩
theorem strT_list (t : T) : (strT t).data.toList = textL t := by simp [strT]
theorem strT_size (t : T) : (strT t).size = (textL t).length := by simp [strT, ByteArray.size]
theorem map_strT (xs : List T) : (xs.map strT).map (·.data.toList) = xs.map textL := by
  rw [List.map_map]; exact List.map_congr_left fun t _ => strT_list t

theorem itoa_word {n : Int} (h0 : 0 ≤ n) (h1 : n ≤ 3) : Lib.itoa n = [UInt8.ofNat (48 + n.toNat)] := by
  obtain ⟨u, rfl⟩ : ∃ u : Nat, n = u := ⟨n.toNat, by omega⟩
  rw [Lib.itoa_nonneg, Lib.decDigits]
  have hu : u < 10 := by omega
  simp [hu]
theorem word_len {n : Int} (h0 : 0 ≤ n) (h1 : n ≤ 3) : (Lib.itoa n).length = 1 := by rw [itoa_word h0 h1]; rfl

theorem okT_kid {k n : Int} {s : ByteArray} {xs : List T} (h : OkT (.node k n s xs)) : NodeOk k n s xs.length ∧ ∀ x ∈ xs, OkT x := (okT_node k n s xs).1 h

theorem total_strT (xs : List T) (h : ∀ x ∈ xs, (textL x).length + 2 ≤ 12 * cT x) : total (xs.map strT) + 2 * xs.length ≤ 12 * cS xs := by
  induction xs with
  | nil => simp [total, cS]
  | cons x r ih =>
    have h1 := h x (by simp)
    have h2 := ih (fun y hy => h y (by simp [hy]))
    have h3 := strT_size x
    simp only [total, cS, List.map_cons, List.sum_cons, List.length_cons] at *
    omega
theorem textL_le : ∀ t : T, OkT t → (textL t).length + 2 ≤ 12 * cT t
  | .node k n s xs, hok => by
    obtain ⟨hn, hx⟩ := okT_kid hok
    have ih : ∀ x ∈ xs, (textL x).length + 2 ≤ 12 * cT x := fun x hm => textL_le x (hx x hm)
    have ht := total_strT xs ih
    have hj := join_length [44, 32] (xs.map strT)
    rw [map_strT] at hj
    rw [textL_node, cT_node]
    have hs : s.data.toList.length = s.size := by simp
    split
    · rename_i h3
      rcases hn with ⟨h, _⟩ | ⟨h, _⟩ | ⟨_, _, h0, h1, _⟩
      · omega
      · omega
      · have := word_len h0 h1; omega
    · have h8 : s.size ≤ 8 := by
        rcases hn with ⟨_, h, _⟩ | ⟨_, h, _⟩ | ⟨h, _⟩
        · exact h.2.1
        · exact h.2.1
        · omega
      split
      · omega
      · simp only [List.length_append, List.length_cons, List.length_nil, List.length_map] at *
        omega
end Go.Proofs.YtidbokheeieifaaGreatDoor
namespace Go.Proofs.YtidbokheeieifaaGreatDoor
open Go.RowKit
set_option maxHeartbeats 400000 in
theorem sFormat_zero (w : World) :
    Calls Tryz.prog 80 #[.int .i64 0] w fun e w' => e = .returned (.string ⟨(Lib.itoa 0).toArray⟩) ∧ Below w.heap.size w w' := by
  go_enter Tryz.func80, Tryz.ntmps80
  have hz : ((0 : Int) == 0) = true := rfl
  go_wp2
  go_ret
  exact ⟨by rw [itoa_zero]; rfl, Below.refl _ _⟩

set_option maxRecDepth 100000 in
set_option maxHeartbeats 400000 in
theorem sFormat_pos (n : Int) (w : World) (h0 : 1 ≤ n) (h1 : n ≤ 9223372036854775807) :
    Calls Tryz.prog 80 #[.int .i64 n] w fun e w' => e = .returned (.string ⟨(Lib.itoa n).toArray⟩) ∧ Below w.heap.size w w' := by
  have hz : (n == 0) = false := by simp; omega
  have hl : decide (n < 0) = false := by simp; omega
  go_enter Tryz.func80, Tryz.ntmps80
  go_wp2
  go_loopw [0, 4] (fun a o wr => ∃ (m : Nat) (out : List UInt8), (m : Int) ≤ 9223372036854775807 ∧ a = .int .i64 m ∧ o = .string ⟨out.toArray⟩ ∧ decPos m ++ out = decPos n.toNat ∧ Below w.heap.size w wr) (fun a _ _ => (intOf a).toNat)
  case atStart => exact ⟨n.toNat, [], by omega, by congr 1; omega, rfl, by simp, Below.refl _ _⟩
  case round =>
    obtain ⟨m, out, hm, rfl, rfl, hd, hb⟩ := hrel
    have HD := Lib.hid hd; clear hd
    by_cases hm0 : m = 0
    · subst hm0
      go_wp2
      go_ret
      refine ⟨ret_str ?_, hb⟩
      rw [itoa_pos (by omega), ← HD.out, decPos_zero]; rfl
    · have hne : ((m : Int) != 0) = true := by simp; omega
      have hp : (0 : Int) ≤ (m : Int) % 10 := by omega
      have hp2 : (m : Int) % 10 ≤ 9 := by omega
      have hcv := conv_one wr (48 + m % 10) (48 + (m : Int) % 10) (by omega) (by omega)
      have hstep := decPos_step (u := m) hm0 out
      have hlen : out.length ≤ 20 := by
        have e := congrArg List.length HD.out
        have l := decPos_length_le n.toNat (by omega)
        rw [List.length_append] at e
        omega
      have hmp : 1 ≤ m := by omega
      clear hm0
      have HS := Lib.hid hstep; clear hstep
      go_wp2
      go_roundw
      case rel =>
        refine ⟨m / 10, UInt8.ofNat (48 + m % 10) :: out, by omega, by go_num, ?_, by rw [HS.out, HD.out], hb.alloc (by have := hb.size; omega) _⟩
        rw [digit_val, cons_str]
      case measure => simp [intOf]; omega

theorem tmod_neg {x : Int} (h : x ≤ 0) : x.tmod 10 = -((x.natAbs % 10 : Nat) : Int) := by
  obtain ⟨u, rfl⟩ : ∃ u : Nat, x = -(u : Int) := ⟨x.natAbs, by omega⟩
  rw [Int.neg_tmod, Int.natAbs_neg, Int.natAbs_natCast, Int.tmod_eq_emod_of_nonneg (by omega)]
  omega
theorem tdiv_neg {x : Int} (h : x ≤ 0) : x.tdiv 10 = -((x.natAbs / 10 : Nat) : Int) := by
  obtain ⟨u, rfl⟩ : ∃ u : Nat, x = -(u : Int) := ⟨x.natAbs, by omega⟩
  rw [Int.neg_tdiv, Int.natAbs_neg, Int.natAbs_natCast, Int.tdiv_eq_ediv_of_nonneg (by omega)]
  omega

set_option maxRecDepth 100000 in
set_option maxHeartbeats 800000 in
theorem sFormat_neg (n : Int) (w : World) (h0 : n ≤ -1) (h1 : -9223372036854775808 ≤ n) :
    Calls Tryz.prog 80 #[.int .i64 n] w fun e w' => e = .returned (.string ⟨(Lib.itoa n).toArray⟩) ∧ Below w.heap.size w w' := by
  have hz : (n == 0) = false := by simp; omega
  have hl : decide (n < 0) = true := by simp; omega
  go_enter Tryz.func80, Tryz.ntmps80
  go_wp2
  go_loopw [0, 4, 5] (fun a o _ wr => ∃ (x : Int) (out : List UInt8), x ≤ 0 ∧ -9223372036854775808 ≤ x ∧ a = .int .i64 x ∧ o = .string ⟨out.toArray⟩ ∧ decPos x.natAbs ++ out = decPos n.natAbs ∧ Below w.heap.size w wr) (fun a _ _ _ => (intOf a).natAbs)
  case atStart => exact ⟨n, [], by omega, by omega, rfl, rfl, by simp, Below.refl _ _⟩
  case round =>
    obtain ⟨x, out, hx0, hx1, rfl, rfl, hd, hb⟩ := hrel
    have HD := Lib.hid hd; clear hd
    have hlen : out.length ≤ 20 := by
      have e := congrArg List.length HD.out
      have l := decPos_length_le n.natAbs (by omega)
      rw [List.length_append] at e
      omega
    by_cases hm0 : x = 0
    · subst hm0
      go_wp2
      go_ret
      refine ⟨?_, hb⟩
      rw [itoa_neg' (by omega), ← HD.out]
      show Ending.returned (.string (⟨#[45]⟩ ++ ⟨out.toArray⟩)) = _
      rw [cons_str, Int.natAbs_zero, decPos_zero]; rfl
    · have hne : (x != 0) = true := by simp; omega
      have hxp : x ≤ -1 := by omega
      have ht := Lib.hid (tmod_neg hx0)
      have hq := Lib.hid (tdiv_neg hx0)
      have hb1 : x.tmod 10 ≤ 0 := by rw [ht.out]; omega
      have hb2 : -9 ≤ x.tmod 10 := by rw [ht.out]; omega
      have hq1 : x.tdiv 10 ≤ 0 := by rw [hq.out]; omega
      have hq2 : -9223372036854775808 ≤ x.tdiv 10 := by rw [hq.out]; omega
      have hstep := decPos_step (u := x.natAbs) (by omega) out
      clear hm0
      have HS := Lib.hid hstep; clear hstep
      by_cases hdn : x.tmod 10 < 0
      · have hcv := conv_one wr (48 + x.natAbs % 10) (48 + -x.tmod 10) (by omega) (by rw [ht.out]; omega)
        go_wp2
        go_roundw
        case rel =>
          refine ⟨x.tdiv 10, UInt8.ofNat (48 + x.natAbs % 10) :: out, by omega, by omega, ?_, ?_, by rw [hq.out, Int.natAbs_neg, Int.natAbs_natCast, HS.out, HD.out], hb.alloc (by have := hb.size; omega) _⟩
          · go_num
          · rw [digit_val, cons_str]
        case measure => simp only [intOf]; rw [hq.out]; omega
      · have hcv := conv_one wr (48 + x.natAbs % 10) (48 + x.tmod 10) (by omega) (by rw [ht.out]; have := ht.out; omega)
        go_wp2
        go_roundw
        case rel =>
          refine ⟨x.tdiv 10, UInt8.ofNat (48 + x.natAbs % 10) :: out, by omega, by omega, ?_, ?_, by rw [hq.out, Int.natAbs_neg, Int.natAbs_natCast, HS.out, HD.out], hb.alloc (by have := hb.size; omega) _⟩
          · go_num
          · rw [digit_val, cons_str]
        case measure => simp only [intOf]; rw [hq.out]; omega

/-- spec.FormatInt: the decimal numeral, for every int. -/
theorem sFormat_any (n : Int) (w : World) (h0 : -9223372036854775808 ≤ n) (h1 : n ≤ 9223372036854775807) :
    Calls Tryz.prog 80 #[.int .i64 n] w fun e w' => e = .returned (.string ⟨(Lib.itoa n).toArray⟩) ∧ Below w.heap.size w w' := by
  rcases Int.lt_trichotomy n 0 with h | h | h
  · exact sFormat_neg n w (by omega) h0
  · subst h; exact sFormat_zero w
  · exact sFormat_pos n w (by omega) h1
end Go.Proofs.YtidbokheeieifaaGreatDoor
namespace Go.Proofs.YtidbokheeieifaaGreatDoor
open Go.RowKit

/-- A call that hands back a term's representation. -/
def TextB (t : T) (w : World) (e : Ending) (w' : World) : Prop := e = .returned (.string (strT t)) ∧ Below w.heap.size w w'
/-- What stands there once k arguments were written. -/
def preL (s : ByteArray) (xs : List T) (k : Nat) : List UInt8 := if k = 0 then s.data.toList else s.data.toList ++ [40] ++ Lib.join ((xs.take k).map textL) [44, 32]
def preB (s : ByteArray) (xs : List T) (k : Nat) : ByteArray := ⟨(preL s xs k).toArray⟩
theorem preB_size (s : ByteArray) (xs : List T) (k : Nat) : (preB s xs k).size = (preL s xs k).length := by simp [preB, ByteArray.size]
theorem preB_zero (s : ByteArray) (xs : List T) : preB s xs 0 = s := by
  unfold preB preL
  rw [if_pos rfl]
theorem ba_append (a b : List UInt8) : (⟨a.toArray⟩ : ByteArray) ++ ⟨b.toArray⟩ = ⟨(a ++ b).toArray⟩ := by
  apply ByteArray.ext
  simp [ByteArray.data_append]
theorem preB_first (s : ByteArray) (xs : List T) (t : T) (h : xs[0]? = some t) : s ++ ⟨#[40]⟩ ++ strT t = preB s xs 1 := by
  have e : s = ⟨s.data.toList.toArray⟩ := by simp
  conv => lhs; rw [e]
  unfold strT preB preL
  rw [show (⟨#[40]⟩ : ByteArray) = ⟨([40] : List UInt8).toArray⟩ from rfl, ba_append, ba_append, if_neg (by decide), tk xs 0 t h]
  simp [Lib.join_one]
theorem preB_next (s : ByteArray) (xs : List T) (k : Nat) (t : T) (h : xs[k]? = some t) (hk : k ≠ 0) : preB s xs k ++ ⟨#[44, 32]⟩ ++ strT t = preB s xs (k + 1) := by
  unfold strT preB preL
  rw [show (⟨#[44, 32]⟩ : ByteArray) = ⟨([44, 32] : List UInt8).toArray⟩ from rfl, ba_append, ba_append, if_neg hk, if_neg (by omega), tk xs k t h, List.map_append, List.map_cons, List.map_nil, join_snoc5 _ _ _ ?_]
  · simp
  · intro e
    have := congrArg List.length e
    have hl := (List.getElem?_eq_some_iff.1 h).1
    rw [List.length_map, List.length_take, List.length_nil] at this
    omega
theorem preL_le (k n : Int) (s : ByteArray) (xs : List T) (j : Nat) (hok : OkT (.node k n s xs)) (h3 : k ≠ 3) : (preL s xs j).length ≤ 12 * cT (.node k n s xs) := by
  obtain ⟨hn, hx⟩ := okT_kid hok
  have h8 : s.size ≤ 8 := by
    rcases hn with ⟨_, h, _⟩ | ⟨_, h, _⟩ | ⟨h, _⟩
    · exact h.2.1
    · exact h.2.1
    · exact absurd h h3
  have hs : s.data.toList.length = s.size := by simp
  have ht := total_strT (xs.take j) (fun x hm => textL_le x (hx x (List.mem_of_mem_take hm)))
  have hj := join_length [44, 32] ((xs.take j).map strT)
  rw [map_strT] at hj
  have hc : cS (xs.take j) ≤ cS xs := cS_take xs j
  rw [cT_node]
  unfold preL
  split
  · omega
  · simp only [List.length_append, List.length_cons, List.length_nil, List.length_map] at *
    omega
theorem strT_leaf {k n : Int} {s : ByteArray} (h3 : k ≠ 3) : strT (.node k n s []) = s := by
  unfold strT; rw [textL_node, if_neg h3, if_pos (by rfl)]
theorem strT_word {n : Int} {s : ByteArray} {xs : List T} : strT (.node 3 n s xs) = ⟨(Lib.itoa n).toArray⟩ := by
  unfold strT; rw [textL_node, if_pos rfl]
theorem strT_some {k n : Int} {s : ByteArray} {xs : List T} (h3 : k ≠ 3) (h0 : xs.length ≠ 0) : preB s xs xs.length ++ ⟨#[41]⟩ = strT (.node k n s xs) := by
  unfold strT preB preL
  rw [show (⟨#[41]⟩ : ByteArray) = ⟨([41] : List UInt8).toArray⟩ from rfl, ba_append, textL_node, if_neg h3, if_neg h0, if_neg h0, List.take_length]

def TextSAt (lo h : Nat) : Prop := ∀ (v : Value) (t : T) (w : World), TermAt w lo h v t → wT t ≤ 1048576 → OkT t →
  Calls Tryz.prog 48 #[v] w (TextB t w)

set_option maxRecDepth 100000 in
set_option maxHeartbeats 1600000 in
theorem sText_step (lo h : Nat) (IH : ∀ h', h = h' + 1 → TextSAt lo h') : TextSAt lo h := by
  intro v t w ht hw hok
  obtain ⟨kk, nn, s, u, xs, rfl, rfl, hs, ha⟩ := ht
  obtain ⟨a, cap, rfl⟩ := ha.slice
  obtain ⟨hn, hx⟩ := okT_kid hok
  have HX := Lib.hid hx; clear hx
  have HA := Lib.hid (ha.below (boxed_below w kk nn s (.slice a xs.length cap))); clear ha
  have HCT : Hid (cT (.node kk nn s xs) ≤ 1048577) := Lib.hid (by have := cT_le (.node kk nn s xs); omega)
  have HW : Hid (xs.length + wS xs ≤ 1048576) := Lib.hid (by rw [wT_node] at hw; omega)
  clear hw
  have HB0 := Lib.hid (boxed_below w kk nn s (.slice a xs.length cap))
  by_cases h3 : kk = 3
  · subst h3
    have hr : 0 ≤ nn ∧ nn ≤ 3 := by
      rcases hn with ⟨h, _⟩ | ⟨h, _⟩ | ⟨_, _, h0, h1, _⟩
      · omega
      · omega
      · exact ⟨h0, h1⟩
    have HF := Lib.hid (strT_word (n := nn) (s := s) (xs := xs))
    clear hn
    go_enter Tryz.func48, Tryz.ntmps48
    go_wp2_with fail
    refine (sFormat_any nn _ (by omega) (by omega)).mono ?_
    rintro e w1 ⟨rfl, hb1⟩
    have HB1 := Lib.hid (HB0.out.trans (hb1.mono HB0.out.size)); clear hb1
    go_wp2
    go_ret
    exact ⟨by rw [HF.out]; rfl, HB1.out⟩
  have h3' : (kk == 3) = false := by rw [beq_eq_false_iff_ne]; exact h3
  have HP := Lib.hid (fun j => preL_le kk nn s xs j hok h3)
  have HLEAF := Lib.hid (fun (e : xs = []) => show strT (.node kk nn s xs) = s by rw [e]; exact strT_leaf h3)
  have HSOME := Lib.hid (fun (e : xs.length ≠ 0) => strT_some (k := kk) (n := nn) (s := s) h3 e)
  clear hn hok hs
  have HK3 := Lib.hid h3; clear h3
  obtain ⟨m, hm⟩ : ∃ m, m = xs.length := ⟨_, rfl⟩
  have hml : m ≤ 1048576 := by have := HW.out; omega
  rw [← hm] at HA HB0 ⊢
  have HM := Lib.hid hm; clear hm
  have HIH := Lib.hid IH; clear IH
  go_enter Tryz.func48, Tryz.ntmps48
  go_wp2
  go_loopw [3, 4, 5] (fun c i _ wr => ∃ k : Nat, k ≤ m ∧ i = .int .i64 k ∧ c = .string (preB s xs k) ∧ Hid (Below (boxed w kk nn s (.slice a m cap)).heap.size (boxed w kk nn s (.slice a m cap)) wr)) (fun _ i _ _ => m - (intOf i).toNat)
  case atStart => exact ⟨0, Nat.zero_le _, rfl, by rw [preB_zero], Lib.hid (Below.refl _ _)⟩
  case round =>
    obtain ⟨k, hk, rfl, rfl, HB⟩ := hrel
    obtain ⟨_, _, _, cb⟩ := boxed_cells HB.out
    have hol : (preB s xs k).size ≤ 12582924 := by rw [preB_size]; have := HP.out k; have := HCT.out; omega
    by_cases hlt : k < m
    · obtain ⟨t, ht⟩ : ∃ t, xs[k]? = some t := ⟨_, List.getElem?_eq_getElem (by have := HM.out; omega)⟩
      obtain ⟨h', b, o, tk', tn, tsn, txs, u', e, rfl, rfl, hsz, c0, c1, c2, c3, har⟩ := HA.out.at ht
      have d0 := cell_on HB.out c0
      have d1 := cell_on HB.out c1
      have d2 := cell_on HB.out c2
      have d3 := cell_on HB.out c3
      clear c0 c1 c2 c3
      have hwt := wT_at xs k _ ht
      have hokt := HX.out _ (List.mem_of_getElem? ht)
      have hts : (strT (.node tk' tn tsn txs)).size ≤ 12582924 := by
        rw [strT_size]; have h1 := textL_le _ hokt; have h2 := cT_le (.node tk' tn tsn txs); have := HW.out; omega
      have HCALL := Lib.hid (HIH.out h' e _ _ wr ⟨tk', tn, tsn, u', txs, rfl, rfl, hsz, har.below HB.out⟩ (by have := HW.out; omega) hokt)
      have hq : ∃ q, ((k : Int) == 0) = q ∧ preB s xs k ++ (if q then ⟨#[40]⟩ else ⟨#[44, 32]⟩) ++ strT (.node tk' tn tsn txs) = preB s xs (k + 1) := by
        by_cases hk0 : k = 0
        · subst hk0
          exact ⟨true, rfl, by rw [preB_zero]; exact preB_first s xs _ ht⟩
        · exact ⟨false, by rw [beq_eq_false_iff_ne]; omega, preB_next s xs k _ ht hk0⟩
      obtain ⟨q, hq0, hN⟩ := hq
      have HN := Lib.hid hN; clear hN
      obtain ⟨st, hst⟩ : ∃ st, st = strT (.node tk' tn tsn txs) := ⟨_, rfl⟩
      unfold TextB at HCALL
      rw [← hst] at hts HCALL HN
      obtain ⟨pb, hpb⟩ : ∃ pb, pb = preB s xs k := ⟨_, rfl⟩
      rw [← hpb] at hol HN ⊢
      clear hwt ht har hsz e hokt hst hpb
      cases q with
      | true =>
        go_wp2_with fail
        refine HCALL.out.mono ?_
        rintro e w1 ⟨rfl, hb1⟩
        have HB2 := Lib.hid (HB.out.trans (hb1.mono HB.out.size)); clear hb1
        go_wp2
        go_roundw
        case rel => exact ⟨k + 1, by omega, by go_num, by rw [← HN.out]; rfl, HB2⟩
        case measure => simp [intOf]; omega
      | false =>
        go_wp2_with fail
        refine HCALL.out.mono ?_
        rintro e w1 ⟨rfl, hb1⟩
        have HB2 := Lib.hid (HB.out.trans (hb1.mono HB.out.size)); clear hb1
        go_wp2
        go_roundw
        case rel => exact ⟨k + 1, by omega, by go_num, by rw [← HN.out]; rfl, HB2⟩
        case measure => simp [intOf]; omega
    · have HE : Hid (k = xs.length) := Lib.hid (by have := HM.out; omega)
      have HBE := Lib.hid (HB0.out.trans (HB.out.mono HB0.out.size))
      by_cases hm0 : m = 0
      · have HF : Hid (preB s xs k = strT (.node kk nn s xs)) := Lib.hid (by
          have hx0 : xs = [] := List.eq_nil_of_length_eq_zero (by have := HM.out; omega)
          rw [HLEAF.out hx0, HE.out, hx0]; exact preB_zero s [])
        subst hm0
        go_wp2
        go_ret
        exact ⟨by rw [← HF.out]; rfl, HBE.out⟩
      · have HF : Hid (preB s xs k ++ ⟨#[41]⟩ = strT (.node kk nn s xs)) := Lib.hid (by
          rw [HE.out]; exact HSOME.out (by have := HM.out; omega))
        have hmp : (0 : Int) < (m : Int) := by omega
        clear hm0
        go_wp2
        go_ret
        exact ⟨by rw [← HF.out]; rfl, HBE.out⟩

theorem sText_any (lo : Nat) (h : Nat) : TextSAt lo h := by_height (sText_step lo) h

open Classical in
/-- The representation of a valid term; the empty string for the others. -/
noncomputable def fmtT (t : T) : ByteArray := if ValidT t then strT t else ByteArray.empty
theorem fmtT_ok {t : T} (h : ValidT t) : fmtT t = strT t := by unfold fmtT; rw [if_pos h]
theorem fmtT_no {t : T} (h : ¬ ValidT t) : fmtT t = ByteArray.empty := by unfold fmtT; rw [if_neg h]
def FmtB5 (t : T) (w : World) (e : Ending) (w' : World) : Prop := e = .returned (.string (fmtT t)) ∧ Below w.heap.size w w'

set_option maxRecDepth 100000 in
set_option maxHeartbeats 800000 in
theorem sFmtT_any (v : Value) (t : T) (lo h : Nat) (w : World) (ht : TermAt w lo h v t) (hw : wT t ≤ 1048576) :
    Calls Tryz.prog 28 #[v] w (FmtB5 t w) := by
  have HT := Lib.hid ht; clear ht
  have HW := Lib.hid hw; clear hw
  obtain ⟨k, n, s, u, rfl⟩ := HT.out.form
  have HB0 := Lib.hid (boxed_below w k n s u)
  obtain ⟨c0, c1, c2, c3⟩ := boxed_cells (Below.refl (boxed w k n s u).heap.size (boxed w k n s u))
  go_enter Tryz.func28, Tryz.ntmps28
  go_wp2_with fail
  refine (sValid_any _ t lo h _ (HT.out.below HB0.out) HW.out).mono ?_
  rintro e w1 ⟨q, rfl, hq, hb1⟩
  have HQ := Lib.hid hq; clear hq
  have HB1 := Lib.hid (HB0.out.trans (hb1.mono HB0.out.size))
  clear c0 c1 c2 c3
  obtain ⟨c0, c1, c2, c3⟩ := boxed_cells hb1
  clear hb1
  cases q with
  | false =>
    go_wp2
    go_ret
    exact ⟨by rw [fmtT_no (fun h => by have := HQ.out.2 h; simp at this)]; rfl, HB1.out⟩
  | true =>
    have HV := Lib.hid (HQ.out.1 rfl)
    go_wp2_with fail
    refine (sText_any lo h _ t _ (HT.out.below HB1.out) HW.out HV.out.2.2).mono ?_
    rintro e w2 ⟨rfl, hb2⟩
    have HB2 := Lib.hid (HB1.out.trans (hb2.mono HB1.out.size)); clear hb2
    go_wp2
    go_ret
    exact ⟨by rw [fmtT_ok HV.out]; rfl, HB2.out⟩
end Go.Proofs.YtidbokheeieifaaGreatDoor
