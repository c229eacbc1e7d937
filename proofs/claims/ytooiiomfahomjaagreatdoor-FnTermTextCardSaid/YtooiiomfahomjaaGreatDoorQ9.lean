/-
  spec.DepthOfTerm returns how deep a term is.
  impl.IsName, impl.IsVarName and their models spec.IsName, spec.IsVarName tell the strings of 1 to 8 bytes that begin with a letter of their kind and go on in lower-case letters and digits; the laws on them answer true at every string.
-/
import Derived.Test.YtooiiomfahomjaaGreatDoorQ5
import Derived.Test.YtooiiomfahomjaaGreatDoorQ4
import Derived.WalkLawsBesides
import Derived.Lib.Hide
namespace Go.Proofs.YtooiiomfahomjaaGreatDoor
open Go.RowKit

theorem max_any (a b : Int) (w : World) : Calls Tryz.prog 39 #[.int .i64 a, .int .i64 b] w fun e w' => e = .returned (.int .i64 (max a b)) ∧ w' = w := by
  by_cases h : b < a
  · have hm : max a b = a := by omega
    rw [hm]
    go_enter Tryz.func39, Tryz.ntmps39
    go_wp2
    go_ret
    exact ⟨rfl, rfl⟩
  · have hm : max a b = b := by omega
    rw [hm]
    go_enter Tryz.func39, Tryz.ntmps39
    go_wp2
    go_ret
    exact ⟨rfl, rfl⟩

def DepthAt (lo h : Nat) : Prop := ∀ (v : Value) (t : T) (w : World), TermAt w lo h v t → wT t ≤ 1048576 →
  Calls Tryz.prog 20 #[v] w (NumB (dT t) w)

set_option maxRecDepth 100000 in
set_option maxHeartbeats 1600000 in
theorem sDepth_step (lo h : Nat) (IH : ∀ h', h = h' + 1 → DepthAt lo h') : DepthAt lo h := by
  intro v t w ht hw
  obtain ⟨kk, nn, s, u, xs, rfl, rfl, hs, ha⟩ := ht
  obtain ⟨a, cap, rfl⟩ := ha.slice
  have HA := Lib.hid (ha.below (boxed_below w kk nn s (.slice a xs.length cap))); clear ha
  have HW : Hid (xs.length + wS xs ≤ 1048576) := Lib.hid (by rw [wT_node] at hw; omega)
  have HDL : Hid (dT (.node kk nn s xs) ≤ 1048577) := Lib.hid (by have := dT_le (.node kk nn s xs); have := cT_le (.node kk nn s xs); omega)
  clear hw hs
  obtain ⟨m, hm⟩ : ∃ m, m = xs.length := ⟨_, rfl⟩
  have hml : m ≤ 1048576 := by have := HW.out; omega
  rw [← hm] at HA ⊢
  have HM := Lib.hid hm; clear hm
  have HIH := Lib.hid IH; clear IH
  have HB0 := Lib.hid (boxed_below w kk nn s (.slice a m cap))
  go_enter Tryz.func20, Tryz.ntmps20
  go_wp2
  go_loopw [3, 4] (fun c i wr => ∃ k : Nat, k ≤ m ∧ i = .int .i64 k ∧ c = .int .i64 (dS (xs.take k) : Nat) ∧ Hid (Below (boxed w kk nn s (.slice a m cap)).heap.size (boxed w kk nn s (.slice a m cap)) wr)) (fun _ i _ => m - (intOf i).toNat)
  case atStart => exact ⟨0, Nat.zero_le _, rfl, by simp [dS], Lib.hid (Below.refl _ _)⟩
  case round =>
    obtain ⟨k, hk, rfl, rfl, HB⟩ := hrel
    obtain ⟨_, _, _, cb⟩ := boxed_cells HB.out
    obtain ⟨c, hc⟩ : ∃ c : Nat, c = dS (xs.take k) := ⟨_, rfl⟩
    rw [← hc]
    have HCC := Lib.hid hc; clear hc
    by_cases hlt : k < m
    · obtain ⟨t, ht⟩ : ∃ t, xs[k]? = some t := ⟨_, List.getElem?_eq_getElem (by have := HM.out; omega)⟩
      obtain ⟨h', b, o, tk', tn, tsn, txs, u', e, rfl, rfl, hsz, c0, c1, c2, c3, har⟩ := HA.out.at ht
      have d0 := cell_on HB.out c0
      have d1 := cell_on HB.out c1
      have d2 := cell_on HB.out c2
      have d3 := cell_on HB.out c3
      clear c0 c1 c2 c3
      have hwt := wT_at xs k _ ht
      have HCALL := Lib.hid (HIH.out h' e _ _ wr ⟨tk', tn, tsn, u', txs, rfl, rfl, hsz, har.below HB.out⟩ (by have := HW.out; omega))
      have HCS : Hid (dS (xs.take (k + 1)) = max c (dT (.node tk' tn tsn txs))) := Lib.hid (by rw [tk xs k _ ht, dS_snoc, HCC.out])
      obtain ⟨ct, hcte⟩ : ∃ ct, ct = dT (.node tk' tn tsn txs) := ⟨_, rfl⟩
      rw [← hcte] at HCALL HCS
      clear hwt ht har hsz hcte e
      go_wp2_with fail
      refine HCALL.out.mono ?_
      rintro e w1 ⟨rfl, hb1⟩
      have HB2 := Lib.hid (HB.out.trans (hb1.mono HB.out.size)); clear hb1
      go_wp2_with fail
      refine (max_any _ _ _).mono ?_
      rintro e w2 ⟨rfl, rfl⟩
      have hmx : max (c : Int) (ct : Int) = ((max c ct : Nat) : Int) := by omega
      rw [hmx]
      clear hmx
      go_wp2
      go_roundw
      case rel => exact ⟨k + 1, by omega, by go_num, by rw [HCS.out], HB2⟩
      case measure => simp [intOf]; omega
    · have HD : Hid (c + 1 = dT (.node kk nn s xs)) := Lib.hid (by
        have hkn : k = xs.length := by have := HM.out; omega
        rw [HCC.out, hkn, List.take_length, dT_node])
      have hcl : c ≤ 1048576 := by have := HD.out; have := HDL.out; omega
      go_wp2
      go_ret
      exact ⟨by rw [← HD.out]; rfl, HB0.out.trans (HB.out.mono HB0.out.size)⟩

theorem sDepth_any (lo : Nat) (h : Nat) : DepthAt lo h := by_height (sDepth_step lo) h
end Go.Proofs.YtooiiomfahomjaaGreatDoor
namespace Go.Proofs.YtooiiomfahomjaaGreatDoor
open Go.RowKit

/-- A lower-case letter or a digit. -/
def Cont (b : Int) : Prop := (97 ≤ b ∧ b ≤ 122) ∨ (48 ≤ b ∧ b ≤ 57)
/-- The byte at place k. -/
def byteAt (s : ByteArray) (k : Nat) : Int := if h : k < s.size then (s[k].toNat : Int) else 0
theorem byteAt_lt (s : ByteArray) (k : Nat) (h : k < s.size) : byteAt s k = (s[k].toNat : Int) := by simp [byteAt, h]
/-- A name whose first byte lies from lo to hi. -/
def Nm (lo hi : Int) (s : ByteArray) : Prop := 1 ≤ s.size ∧ s.size ≤ 8 ∧ lo ≤ byteAt s 0 ∧ byteAt s 0 ≤ hi ∧ ∀ k, 1 ≤ k → k < s.size → Cont (byteAt s k)
/-- A call that answers whether X holds and changes nothing. -/
def Tells (X : Prop) (w : World) (e : Ending) (w' : World) : Prop := ∃ b, e = .returned (.bool b) ∧ (b = true ↔ X) ∧ w' = w

theorem nm_apart (s : ByteArray) (h : Nm 97 122 s) (k : Nm 65 90 s) : False := by
  have := h.2.2.1; have := k.2.2.2.1; omega

set_option maxRecDepth 100000 in
theorem iCont_any (b : Int) (w : World) (h0 : 0 ≤ b) (h1 : b ≤ 255) :
    Calls Tryz.prog 65 #[.int .u8 b] w (Tells (Cont b) w) := by
  by_cases a1 : 97 ≤ b
  · by_cases a2 : b ≤ 122
    · go_enter Tryz.func65, Tryz.ntmps65
      go_wp2
      go_ret
      exact ⟨true, rfl, by simp [Cont]; omega, rfl⟩
    · have a4 : 48 ≤ b := by omega
      have a5 : ¬ b ≤ 57 := by omega
      go_enter Tryz.func65, Tryz.ntmps65
      go_wp2
      go_ret
      exact ⟨false, rfl, by simp [Cont]; omega, rfl⟩
  · by_cases a4 : 48 ≤ b
    · by_cases a5 : b ≤ 57
      · go_enter Tryz.func65, Tryz.ntmps65
        go_wp2
        go_ret
        exact ⟨true, rfl, by simp [Cont]; omega, rfl⟩
      · go_enter Tryz.func65, Tryz.ntmps65
        go_wp2
        go_ret
        exact ⟨false, rfl, by simp [Cont]; omega, rfl⟩
    · go_enter Tryz.func65, Tryz.ntmps65
      go_wp2
      go_ret
      exact ⟨false, rfl, by simp [Cont]; omega, rfl⟩

set_option maxRecDepth 100000 in
theorem sLower_any (b : Int) (w : World) (h0 : 0 ≤ b) (h1 : b ≤ 255) :
    Calls Tryz.prog 64 #[.int .u8 b] w (Tells (97 ≤ b ∧ b ≤ 122) w) := by
  by_cases a1 : 97 ≤ b
  · by_cases a2 : b ≤ 122
    · go_enter Tryz.func64, Tryz.ntmps64
      go_wp2
      go_ret
      exact ⟨true, rfl, by simp; omega, rfl⟩
    · go_enter Tryz.func64, Tryz.ntmps64
      go_wp2
      go_ret
      exact ⟨false, rfl, by simp; omega, rfl⟩
  · go_enter Tryz.func64, Tryz.ntmps64
    go_wp2
    go_ret
    exact ⟨false, rfl, by simp; omega, rfl⟩

set_option maxRecDepth 100000 in
theorem sDigit_any (b : Int) (w : World) (h0 : 0 ≤ b) (h1 : b ≤ 255) :
    Calls Tryz.prog 46 #[.int .u8 b] w (Tells (48 ≤ b ∧ b ≤ 57) w) := by
  by_cases a1 : 48 ≤ b
  · by_cases a2 : b ≤ 57
    · go_enter Tryz.func46, Tryz.ntmps46
      go_wp2
      go_ret
      exact ⟨true, rfl, by simp; omega, rfl⟩
    · go_enter Tryz.func46, Tryz.ntmps46
      go_wp2
      go_ret
      exact ⟨false, rfl, by simp; omega, rfl⟩
  · go_enter Tryz.func46, Tryz.ntmps46
    go_wp2
    go_ret
    exact ⟨false, rfl, by simp; omega, rfl⟩

set_option maxRecDepth 100000 in
theorem sIn_any (n lo hi : Int) (w : World) :
    Calls Tryz.prog 56 #[.int .i64 n, .int .i64 lo, .int .i64 hi] w (Tells (lo ≤ n ∧ n ≤ hi) w) := by
  by_cases a1 : lo ≤ n
  · by_cases a2 : n ≤ hi
    · go_enter Tryz.func56, Tryz.ntmps56
      go_wp2
      go_ret
      exact ⟨true, rfl, by simp [a2]; omega, rfl⟩
    · go_enter Tryz.func56, Tryz.ntmps56
      go_wp2
      go_ret
      exact ⟨false, rfl, by simp; omega, rfl⟩
  · go_enter Tryz.func56, Tryz.ntmps56
    go_wp2
    go_ret
    exact ⟨false, rfl, by simp; omega, rfl⟩

/-- What comes behind the first byte. -/
def Rest (s : ByteArray) : Prop := (∀ k, 1 ≤ k → k < s.size → Cont (byteAt s k)) ∧ 1 ≤ s.size ∧ s.size ≤ 8

theorem byte_range (b : UInt8) : 0 ≤ (b.toNat : Int) ∧ (b.toNat : Int) ≤ 255 := by have := b.toNat_lt; omega

set_option maxRecDepth 100000 in
set_option maxHeartbeats 800000 in
theorem sRest_any (s : ByteArray) (w : World) (hs : s.size ≤ 9223372036854775807) :
    Calls Tryz.prog 57 #[.string s] w (Tells (Rest s) w) := by
  go_enter Tryz.func57, Tryz.ntmps57
  go_wp2
  go_loop [3] (fun i => ∃ k : Nat, 1 ≤ k ∧ k ≤ max 1 s.size ∧ i = .int .i64 k ∧ Hid (∀ j, 1 ≤ j → j < k → j < s.size → Cont (byteAt s j))) (fun i => s.size - (intOf i).toNat)
  case atStart => exact ⟨1, Nat.le_refl _, by omega, rfl, Lib.hid (fun j h1 h2 => by omega)⟩
  case round =>
    obtain ⟨k, hk1, hk, rfl, HC⟩ := hrel
    by_cases hlt : k < s.size
    · obtain ⟨hb0, hb1⟩ := byte_range s[k]
      have HB := Lib.hid (byteAt_lt s k hlt)
      go_wp2_with fail
      refine (sLower_any _ _ hb0 hb1).mono ?_
      rintro e w1 ⟨b1, rfl, hq1, rfl⟩
      have HQ1 := Lib.hid hq1; clear hq1
      cases b1 with
      | true =>
        go_wp2
        go_round
        case rel =>
          refine ⟨k + 1, by omega, by omega, by go_num, Lib.hid fun j h1 h2 h3 => ?_⟩
          by_cases hj : j < k
          · exact HC.out j h1 hj h3
          · obtain rfl : j = k := by omega
            rw [HB.out]
            exact Or.inl (HQ1.out.1 (by simp))
        case measure => simp [intOf]; omega
      | false =>
        go_wp2_with fail
        refine (sDigit_any _ _ hb0 hb1).mono ?_
        rintro e w1 ⟨b2, rfl, hq2, rfl⟩
        have HQ2 := Lib.hid hq2; clear hq2
        cases b2 with
        | true =>
          go_wp2
          go_round
          case rel =>
            refine ⟨k + 1, by omega, by omega, by go_num, Lib.hid fun j h1 h2 h3 => ?_⟩
            by_cases hj : j < k
            · exact HC.out j h1 hj h3
            · obtain rfl : j = k := by omega
              rw [HB.out]
              exact Or.inr (HQ2.out.1 (by simp))
          case measure => simp [intOf]; omega
        | false =>
          go_wp2
          go_ret
          refine ⟨false, rfl, ⟨fun h => by simp at h, fun h => ?_⟩, rfl⟩
          rcases h.1 k hk1 hlt with h2 | h2
          · rw [HB.out] at h2; exact HQ1.out.2 h2
          · rw [HB.out] at h2; exact HQ2.out.2 h2
    · go_wp2_with fail
      refine (sIn_any _ _ _ _).mono ?_
      rintro e w1 ⟨b1, rfl, hq1, rfl⟩
      have HQ1 := Lib.hid hq1; clear hq1
      go_wp2
      go_ret
      refine ⟨b1, rfl, ?_, rfl⟩
      rw [HQ1.out]
      constructor
      · rintro ⟨h1, h2⟩
        exact ⟨fun j a b => HC.out j a (by omega) b, by omega, by omega⟩
      · rintro ⟨_, h1, h2⟩
        exact ⟨by omega, by omega⟩

set_option maxRecDepth 100000 in
set_option maxHeartbeats 800000 in
theorem iFrom_any (s : ByteArray) (lo hi : Int) (w : World) (hs : s.size ≤ 9223372036854775807) :
    Calls Tryz.prog 58 #[.string s, .int .u8 lo, .int .u8 hi] w (Tells (Nm lo hi s) w) := by
  by_cases h0 : s.size = 0
  · have h0' : ((s.size : Int) == 0) = true := by rw [h0]; rfl
    go_enter Tryz.func58, Tryz.ntmps58
    go_wp2
    go_ret
    exact ⟨false, rfl, ⟨fun h => by simp at h, fun h => by have := h.1; omega⟩, rfl⟩
  · have h0' : ((s.size : Int) == 0) = false := by rw [beq_eq_false_iff_ne]; omega
    by_cases h8 : 8 < s.size
    · go_enter Tryz.func58, Tryz.ntmps58
      go_wp2
      go_ret
      exact ⟨false, rfl, ⟨fun h => by simp at h, fun h => by have := h.2.1; omega⟩, rfl⟩
    · have hp : 0 < s.size := by omega
      have H0 := Lib.hid (byteAt_lt s 0 hp)
      by_cases hl : (s[0].toNat : Int) < lo
      · go_enter Tryz.func58, Tryz.ntmps58
        go_wp2
        go_ret
        exact ⟨false, rfl, ⟨fun h => by simp at h, fun h => by have := h.2.2.1; have := H0.out; omega⟩, rfl⟩
      · by_cases hh : hi < (s[0].toNat : Int)
        · go_enter Tryz.func58, Tryz.ntmps58
          go_wp2
          go_ret
          exact ⟨false, rfl, ⟨fun h => by simp at h, fun h => by have := h.2.2.2.1; have := H0.out; omega⟩, rfl⟩
        · go_enter Tryz.func58, Tryz.ntmps58
          go_wp2
          go_loop [7] (fun i => ∃ k : Nat, 1 ≤ k ∧ k ≤ s.size ∧ i = .int .i64 k ∧ Hid (∀ j, 1 ≤ j → j < k → Cont (byteAt s j))) (fun i => s.size - (intOf i).toNat)
          case atStart => exact ⟨1, Nat.le_refl _, by omega, rfl, Lib.hid (fun j h1 h2 => by omega)⟩
          case round =>
            obtain ⟨k, hk1, hk, rfl, HC⟩ := hrel
            by_cases hlt : k < s.size
            · obtain ⟨hb0, hb1⟩ := byte_range s[k]
              have HB := Lib.hid (byteAt_lt s k hlt)
              go_wp2_with fail
              refine (iCont_any _ _ hb0 hb1).mono ?_
              rintro e w1 ⟨b1, rfl, hq1, rfl⟩
              have HQ1 := Lib.hid hq1; clear hq1
              cases b1 with
              | true =>
                go_wp2
                go_round
                case rel =>
                  refine ⟨k + 1, by omega, by omega, by go_num, Lib.hid fun j h1 h2 => ?_⟩
                  by_cases hj : j < k
                  · exact HC.out j h1 hj
                  · obtain rfl : j = k := by omega
                    rw [HB.out]
                    exact HQ1.out.1 (by simp)
                case measure => simp [intOf]; omega
              | false =>
                go_wp2
                go_ret
                refine ⟨false, rfl, ⟨fun h => by simp at h, fun h => ?_⟩, rfl⟩
                have h2 := h.2.2.2.2 k hk1 hlt
                rw [HB.out] at h2
                exact HQ1.out.2 h2
            · go_wp2
              go_ret
              refine ⟨true, rfl, ⟨fun _ => ?_, fun _ => rfl⟩, rfl⟩
              refine ⟨by omega, by omega, ?_, ?_, fun j a b => HC.out j a (by omega)⟩
              · rw [H0.out]; omega
              · rw [H0.out]; omega

set_option maxRecDepth 100000 in
theorem iName_any (s : ByteArray) (w : World) (hs : s.size ≤ 9223372036854775807) :
    Calls Tryz.prog 51 #[.string s] w (Tells (Nm 97 122 s) w) := by
  go_enter Tryz.func51, Tryz.ntmps51
  go_wp2_with fail
  refine (iFrom_any s _ _ _ hs).mono ?_
  rintro e w1 ⟨b1, rfl, hq1, rfl⟩
  have HQ1 := Lib.hid hq1; clear hq1
  go_wp2
  go_ret
  exact ⟨b1, rfl, HQ1.out, rfl⟩

set_option maxRecDepth 100000 in
theorem iVar_any (s : ByteArray) (w : World) (hs : s.size ≤ 9223372036854775807) :
    Calls Tryz.prog 50 #[.string s] w (Tells (Nm 65 90 s) w) := by
  go_enter Tryz.func50, Tryz.ntmps50
  go_wp2_with fail
  refine (iFrom_any s _ _ _ hs).mono ?_
  rintro e w1 ⟨b1, rfl, hq1, rfl⟩
  have HQ1 := Lib.hid hq1; clear hq1
  go_wp2
  go_ret
  exact ⟨b1, rfl, HQ1.out, rfl⟩

theorem no_empty (s : ByteArray) (h : s.size = 0) : s = ⟨#[]⟩ := by
  obtain ⟨d⟩ := s
  have : d = #[] := Array.eq_empty_of_size_eq_zero h
  rw [this]
theorem some_byte (s : ByteArray) (h : s.size ≠ 0) : s.toList.isEmpty = false ∧ ¬ s.toList = [] := by
  have h2 : ¬ s.toList = [] := by
    rw [ByteArray.toList_eq]
    intro e
    have := congrArg List.length e
    simp at this
    exact h (by simpa using this)
  exact ⟨by simpa using h2, h2⟩

theorem nm_rest {lo hi : Int} {s : ByteArray} : Nm lo hi s ↔ (lo ≤ byteAt s 0 ∧ byteAt s 0 ≤ hi) ∧ Rest s := by
  constructor
  · rintro ⟨a, b, c, d, e⟩; exact ⟨⟨c, d⟩, e, a, b⟩
  · rintro ⟨⟨c, d⟩, e, a, b⟩; exact ⟨a, b, c, d, e⟩
theorem nm_no {lo hi : Int} {s : ByteArray} (h : s.size = 0) : ¬ Nm lo hi s := fun k => by have := k.1; omega

set_option maxRecDepth 100000 in
set_option maxHeartbeats 400000 in
theorem sName_any (s : ByteArray) (w : World) (hs : s.size ≤ 9223372036854775807) :
    Calls Tryz.prog 55 #[.string s] w (Tells (Nm 97 122 s) w) := by
  by_cases h0 : s.size = 0
  · have hn := Lib.hid (nm_no (lo := 97) (hi := 122) h0)
    obtain rfl := no_empty s h0
    go_enter Tryz.func55, Tryz.ntmps55
    go_wp2
    go_ret
    exact ⟨false, rfl, ⟨fun h => by simp at h, fun h => absurd h hn.out⟩, rfl⟩
  · obtain ⟨hb, hb'⟩ := some_byte s h0
    have hp : 0 < s.size := by omega
    have H0 := Lib.hid (byteAt_lt s 0 hp)
    obtain ⟨hb0, hb1⟩ := byte_range s[0]
    go_enter Tryz.func55, Tryz.ntmps55
    go_wp2_with fail
    refine (sLower_any _ _ hb0 hb1).mono ?_
    rintro e w1 ⟨b1, rfl, hq1, rfl⟩
    have HQ1 := Lib.hid hq1; clear hq1
    cases b1 with
    | true =>
      go_wp2_with fail
      refine (sRest_any s _ hs).mono ?_
      rintro e w1 ⟨b2, rfl, hq2, rfl⟩
      have HQ2 := Lib.hid hq2; clear hq2
      go_wp2
      go_ret
      refine ⟨b2, rfl, ?_, rfl⟩
      rw [HQ2.out, nm_rest, H0.out]
      exact ⟨fun h => ⟨HQ1.out.1 (by simp), h⟩, fun h => h.2⟩
    | false =>
      go_wp2
      go_ret
      refine ⟨false, rfl, ⟨fun h => by simp at h, fun h => ?_⟩, rfl⟩
      rw [nm_rest, H0.out] at h
      exact HQ1.out.2 h.1

set_option maxRecDepth 100000 in
set_option maxHeartbeats 400000 in
theorem sVar_any (s : ByteArray) (w : World) (hs : s.size ≤ 9223372036854775807) :
    Calls Tryz.prog 45 #[.string s] w (Tells (Nm 65 90 s) w) := by
  by_cases h0 : s.size = 0
  · have hn := Lib.hid (nm_no (lo := 65) (hi := 90) h0)
    obtain rfl := no_empty s h0
    go_enter Tryz.func45, Tryz.ntmps45
    go_wp2
    go_ret
    exact ⟨false, rfl, ⟨fun h => by simp at h, fun h => absurd h hn.out⟩, rfl⟩
  · obtain ⟨hb, hb'⟩ := some_byte s h0
    have hp : 0 < s.size := by omega
    have H0 := Lib.hid (byteAt_lt s 0 hp)
    by_cases a1 : 65 ≤ (s[0].toNat : Int)
    · by_cases a2 : (s[0].toNat : Int) ≤ 90
      · go_enter Tryz.func45, Tryz.ntmps45
        go_wp2_with fail
        refine (sRest_any s _ hs).mono ?_
        rintro e w1 ⟨b2, rfl, hq2, rfl⟩
        have HQ2 := Lib.hid hq2; clear hq2
        go_wp2
        go_ret
        refine ⟨b2, rfl, ?_, rfl⟩
        rw [HQ2.out, nm_rest, H0.out]
        exact ⟨fun h => ⟨⟨by omega, by omega⟩, h⟩, fun h => h.2⟩
      · go_enter Tryz.func45, Tryz.ntmps45
        go_wp2
        go_ret
        refine ⟨false, rfl, ⟨fun h => by simp at h, fun h => ?_⟩, rfl⟩
        rw [nm_rest, H0.out] at h
        omega
    · go_enter Tryz.func45, Tryz.ntmps45
      go_wp2
      go_ret
      refine ⟨false, rfl, ⟨fun h => by simp at h, fun h => ?_⟩, rfl⟩
      rw [nm_rest, H0.out] at h
      omega

theorem tells_same {X : Prop} {a b : Bool} (h : a = true ↔ X) (k : b = true ↔ X) : (a == b) = true ∧ (a != b) = false := by
  have : a = b := by cases a <;> cases b <;> simp_all
  subst this; simp
end Go.Proofs.YtooiiomfahomjaaGreatDoor
