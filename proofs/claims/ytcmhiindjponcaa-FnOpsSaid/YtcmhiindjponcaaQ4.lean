/-
  impl.knownNames makes a set of a list's strings; spec.AllDistinct and impl.AllDistinct tell whether no string is there twice; the law on AllDistinct answers true at every list.
  impl.IsName, impl.IsVarName and their models spec.IsName, spec.IsVarName tell the strings of 1 to 8 bytes that begin with a letter of their kind and go on in lower-case letters and digits; the laws on them answer true at every string.
  spec.l6Sort, spec.l6Op and spec.IsValidSignature tell the signatures that are valid.
  impl.operatorNamed hands back the operator that a name finds, as one of three kinds.
  spec.FindOp finds the operator.
  slices.Clone over strings: the same strings in a row of the call's own.
-/
import Derived.Test.YtcmhiindjponcaaQ3
import Derived.Test.YtcmhiindjponcaaQ2
import Derived.Maps.OwnSet
import Derived.WalkLawsBesides
import Derived.Lib.Hide
import Derived.Deep.RegionHeld3
import Derived.Laws.AppendOwn
namespace Go.Proofs.Ytcmhiindjponcaa
open Go.RowKit Go.Maps Go.WideMaps

/-- A call that answers whether X holds and leaves what was there. -/
def TellsB (X : Prop) (w : World) (e : Ending) (w' : World) : Prop := ∃ b, e = .returned (.bool b) ∧ (b = true ↔ X) ∧ Below w.heap.size w w'

set_option maxRecDepth 100000 in
set_option maxHeartbeats 400000 in
theorem iDistinct_any (v : Value) (ps : List ByteArray) (w : World) (hl : ps.length ≤ 1048576) (hs : ∀ p ∈ ps, p.size ≤ maxLen) (hv : StrsAt w v ps) :
    Calls Try.prog 58 #[v] w (TellsB ps.Nodup w) := by
  have hk := known_any v ps w (by omega) hs hv
  have HK := Lib.hid hk; clear hk
  obtain ⟨a, cap, rfl, _⟩ := hv
  go_enter Try.func58, Try.ntmps58
  go_wp2_with fail
  refine HK.out.mono ?_
  rintro e w1 ⟨m, rfl, hown, _, hb⟩
  have HB := Lib.hid hb; clear hb
  have HO := Lib.hid hown; clear hown
  go_wp2_with (first
    | (at_len; refine wpList_len_own _ rfl _ 147 rfl 9 4 Try.underlying147 (plainElem (H := Unit) Try.prog 4) m ps.length (Sset ps) rfl HO.out ?_))
  go_wp2
  go_ret
  refine ⟨_, rfl, ?_, HB.out⟩
  rw [← size_Sset (H := Unit) ps]
  simp
  omega

theorem firsts_step {ps : List ByteArray} {k : Nat} {p : ByteArray} (h : ∀ j q, j < k → ps[j]? = some q → NotYet ps q j) (hp : ps[k]? = some p) (hn : NotYet ps p k) :
    ∀ j q, j < k + 1 → ps[j]? = some q → NotYet ps q j := by
  intro j q hj hq
  by_cases e : j = k
  · subst e; rw [hp] at hq; cases hq; exact hn
  · exact h j q (by omega) hq
theorem nodup_firsts (ps : List ByteArray) : (∀ j q, j < ps.length → ps[j]? = some q → NotYet ps q j) ↔ ps.Nodup := by
  rw [List.Nodup, List.pairwise_iff_getElem]
  constructor
  · intro h i j hi hj hij e
    exact h j ps[j] hj (List.getElem?_eq_getElem hj) i ps[i] hij (List.getElem?_eq_getElem hi) e
  · intro h j q hj hq i p hij hp e
    have h1 := (List.getElem?_eq_some_iff.1 hq)
    have h2 := (List.getElem?_eq_some_iff.1 hp)
    obtain ⟨a1, a2⟩ := h1
    obtain ⟨b1, b2⟩ := h2
    exact h i j b1 a1 hij (by rw [a2, b2, e])
theorem idx_is {ps : List ByteArray} {p : ByteArray} {k : Nat} (hp : ps[k]? = some p) : Lib.idxOfS ps p = k ↔ NotYet ps p k := by
  constructor
  · intro h j q hj hq e
    subst e
    -- the first place is at most j
    have hl := (List.getElem?_eq_some_iff.1 hq).1
    have : ∃ i, i ≤ j ∧ NotYet ps q i ∧ ps[i]? = some q := by
      have aux : ∀ m i, i + m = j → NotYet ps q i → ∃ i, i ≤ j ∧ NotYet ps q i ∧ ps[i]? = some q := by
        intro m
        induction m with
        | zero => intro i hi hn; exact ⟨i, by omega, hn, by rw [show i = j by omega]; exact hq⟩
        | succ m ih =>
          intro i hi hn
          obtain ⟨r, hr⟩ : ∃ r, ps[i]? = some r := ⟨_, List.getElem?_eq_getElem (by omega)⟩
          by_cases e : r = q
          · exact ⟨i, by omega, hn, by rw [hr, e]⟩
          · exact ih (i + 1) (by omega) (notYet_next hn r hr e)
      exact aux j 0 (by omega) (fun a b hab => by omega)
    obtain ⟨i, hi, h1, h2⟩ := this
    rw [idx_hit h1 h2] at h
    omega
  · intro h; exact idx_hit h hp

set_option maxRecDepth 100000 in
set_option maxHeartbeats 400000 in
theorem sDistinct_empty (a : Option Addr) (cap : Nat) (w : World) :
    Calls Try.prog 61 #[.slice a 0 cap] w (TellsB ([] : List ByteArray).Nodup w) := by
  go_enter Try.func61, Try.ntmps61
  go_wp2
  refine wp_loop_rounds 1 ?_
  rw [rounds_succ]
  go_wp2
  go_ret
  exact ⟨true, rfl, by simp, Below.refl _ _⟩

set_option maxRecDepth 100000 in
set_option maxHeartbeats 800000 in
theorem sDistinct_some (b o cap : Nat) (ps : List ByteArray) (w : World) (hl : ps.length ≤ 9223372036854775807)
    (hc : ∀ i p, ps[i]? = some p → w.cell? ⟨b, o + i, none⟩ = some (.string p)) :
    Calls Try.prog 61 #[.slice (some ⟨b, o, none⟩) ps.length cap] w (TellsB ps.Nodup w) := by
  have hi : ∀ s, Calls Try.prog 104 #[.slice (some ⟨b, o, none⟩) ps.length cap, .string s] w (IdxEnd ps s w) := fun s => sIndex_some b o cap ps s w hl hc
  have HI := Lib.hid hi; clear hi
  have HC := Lib.hid hc; clear hc
  obtain ⟨n, hn⟩ : ∃ n, n = ps.length := ⟨_, rfl⟩
  rw [← hn] at hl HI ⊢
  have HN := Lib.hid hn; clear hn
  go_enter Try.func61, Try.ntmps61
  go_wp2
  go_loop [3] (fun i => ∃ k : Nat, k ≤ n ∧ i = .int .i64 k ∧ Hid (∀ j q, j < k → ps[j]? = some q → NotYet ps q j)) (fun i => n - (intOf i).toNat)
  case atStart => exact ⟨0, Nat.zero_le _, rfl, Lib.hid (fun j p hj => by omega)⟩
  case round =>
    obtain ⟨k, hk, rfl, HF⟩ := hrel
    by_cases hlt : k < n
    · obtain ⟨p, hp⟩ : ∃ p, ps[k]? = some p := ⟨_, List.getElem?_eq_getElem (by have := HN.out; omega)⟩
      have hcell := HC.out k p hp
      have HP := Lib.hid hp; clear hp
      go_wp2_with fail
      refine (HI.out p).mono ?_
      rintro e w1 ⟨rfl, rfl⟩
      by_cases hq : Lib.idxOfS ps p = k
      · have hb : (Lib.idxOfS ps p != (k : Int)) = false := by simpa using hq
        have HQ := Lib.hid hq; clear hq
        go_wp2
        go_round
        case rel => exact ⟨k + 1, by omega, by go_num, Lib.hid (firsts_step HF.out HP.out ((idx_is HP.out).1 HQ.out))⟩
        case measure => simp [intOf]; omega
      · have hb : (Lib.idxOfS ps p != (k : Int)) = true := by simpa using hq
        have HQ := Lib.hid hq; clear hq
        go_wp2
        go_ret
        refine ⟨false, rfl, ⟨fun h => by simp at h, fun h => ?_⟩, Below.refl _ _⟩
        exact absurd ((idx_is HP.out).2 ((nodup_firsts ps).2 h k p (by have := HN.out; omega) HP.out)) HQ.out
    · have HD : Hid (∀ j q, j < ps.length → ps[j]? = some q → NotYet ps q j) := Lib.hid (by
        have hkn : k = ps.length := by have := HN.out; omega
        rw [← hkn]; exact HF.out)
      go_wp2
      go_ret
      exact ⟨true, rfl, ⟨fun _ => (nodup_firsts ps).1 HD.out, fun _ => rfl⟩, Below.refl _ _⟩

theorem sDistinct_any (v : Value) (ps : List ByteArray) (w : World) (hl : ps.length ≤ 9223372036854775807) (hv : StrsAt w v ps) :
    Calls Try.prog 61 #[v] w (TellsB ps.Nodup w) := by
  obtain ⟨a, cap, rfl, hv⟩ := hv
  rcases hv with rfl | ⟨b, o, rfl, hv⟩
  · exact sDistinct_empty a cap w
  · exact sDistinct_some b o cap ps w hl hv

theorem both_same {X : Prop} {a b : Bool} (h : a = true ↔ X) (k : b = true ↔ X) : (a == b) = true ∧ (a != b) = false := by
  have : a = b := by cases a <;> cases b <;> simp_all
  subst this; simp

theorem size_of_total {ps : List ByteArray} {m : Nat} (h : ps.length + total ps ≤ m) : ∀ p ∈ ps, p.size ≤ m := by
  intro p hp
  obtain ⟨k, hk⟩ := List.mem_iff_getElem?.1 hp
  have h1 := take_next ps k p hk
  have h2 := total_take_le ps (k + 1)
  rw [h1, total_snoc] at h2
  omega

end Go.Proofs.Ytcmhiindjponcaa
namespace Go.Proofs.Ytcmhiindjponcaa
open Go.RowKit

/-- A lower-case letter or a digit. -/
def Cont (b : Int) : Prop := (97 ≤ b ∧ b ≤ 122) ∨ (48 ≤ b ∧ b ≤ 57)
/-- The byte at place k. -/
def byteAt (s : ByteArray) (k : Nat) : Int := if h : k < s.size then (s[k].toNat : Int) else 0
theorem byteAt_lt (s : ByteArray) (k : Nat) (h : k < s.size) : byteAt s k = (s[k].toNat : Int) := by simp [byteAt, h]
/-- A name whose first byte lies from lo to hi. -/
def Nm (lo hi : Int) (s : ByteArray) : Prop := 1 ≤ s.size ∧ s.size ≤ 8 ∧ lo ≤ byteAt s 0 ∧ byteAt s 0 ≤ hi ∧ ∀ k, 1 ≤ k → k < s.size → Cont (byteAt s k)
/-- A call that answers whether X holds and changes nothing. -/
def Tells (X : Prop) (w : World) (e : Ending) (w' : World) : Prop := ∃ b, e = .returned (.bool b) ∧ (b = true ↔ X) ∧ w' = w

theorem nm_apart (s : ByteArray) (h : Nm 97 122 s) (k : Nm 65 90 s) : False := by
  have := h.2.2.1; have := k.2.2.2.1; omega

set_option maxRecDepth 100000 in
theorem iCont_any (b : Int) (w : World) (h0 : 0 ≤ b) (h1 : b ≤ 255) :
    Calls Try.prog 124 #[.int .u8 b] w (Tells (Cont b) w) := by
  by_cases a1 : 97 ≤ b
  · by_cases a2 : b ≤ 122
    · go_enter Try.func124, Try.ntmps124
      go_wp2
      go_ret
      exact ⟨true, rfl, by simp [Cont]; omega, rfl⟩
    · have a4 : 48 ≤ b := by omega
      have a5 : ¬ b ≤ 57 := by omega
      go_enter Try.func124, Try.ntmps124
      go_wp2
      go_ret
      exact ⟨false, rfl, by simp [Cont]; omega, rfl⟩
  · by_cases a4 : 48 ≤ b
    · by_cases a5 : b ≤ 57
      · go_enter Try.func124, Try.ntmps124
        go_wp2
        go_ret
        exact ⟨true, rfl, by simp [Cont]; omega, rfl⟩
      · go_enter Try.func124, Try.ntmps124
        go_wp2
        go_ret
        exact ⟨false, rfl, by simp [Cont]; omega, rfl⟩
    · go_enter Try.func124, Try.ntmps124
      go_wp2
      go_ret
      exact ⟨false, rfl, by simp [Cont]; omega, rfl⟩

set_option maxRecDepth 100000 in
theorem sLower_any (b : Int) (w : World) (h0 : 0 ≤ b) (h1 : b ≤ 255) :
    Calls Try.prog 101 #[.int .u8 b] w (Tells (97 ≤ b ∧ b ≤ 122) w) := by
  by_cases a1 : 97 ≤ b
  · by_cases a2 : b ≤ 122
    · go_enter Try.func101, Try.ntmps101
      go_wp2
      go_ret
      exact ⟨true, rfl, by simp; omega, rfl⟩
    · go_enter Try.func101, Try.ntmps101
      go_wp2
      go_ret
      exact ⟨false, rfl, by simp; omega, rfl⟩
  · go_enter Try.func101, Try.ntmps101
    go_wp2
    go_ret
    exact ⟨false, rfl, by simp; omega, rfl⟩

set_option maxRecDepth 100000 in
theorem sDigit_any (b : Int) (w : World) (h0 : 0 ≤ b) (h1 : b ≤ 255) :
    Calls Try.prog 119 #[.int .u8 b] w (Tells (48 ≤ b ∧ b ≤ 57) w) := by
  by_cases a1 : 48 ≤ b
  · by_cases a2 : b ≤ 57
    · go_enter Try.func119, Try.ntmps119
      go_wp2
      go_ret
      exact ⟨true, rfl, by simp; omega, rfl⟩
    · go_enter Try.func119, Try.ntmps119
      go_wp2
      go_ret
      exact ⟨false, rfl, by simp; omega, rfl⟩
  · go_enter Try.func119, Try.ntmps119
    go_wp2
    go_ret
    exact ⟨false, rfl, by simp; omega, rfl⟩

set_option maxRecDepth 100000 in
theorem sIn_any (n lo hi : Int) (w : World) :
    Calls Try.prog 120 #[.int .i64 n, .int .i64 lo, .int .i64 hi] w (Tells (lo ≤ n ∧ n ≤ hi) w) := by
  by_cases a1 : lo ≤ n
  · by_cases a2 : n ≤ hi
    · go_enter Try.func120, Try.ntmps120
      go_wp2
      go_ret
      exact ⟨true, rfl, by simp [a2]; omega, rfl⟩
    · go_enter Try.func120, Try.ntmps120
      go_wp2
      go_ret
      exact ⟨false, rfl, by simp; omega, rfl⟩
  · go_enter Try.func120, Try.ntmps120
    go_wp2
    go_ret
    exact ⟨false, rfl, by simp; omega, rfl⟩

/-- What comes behind the first byte. -/
def Rest (s : ByteArray) : Prop := (∀ k, 1 ≤ k → k < s.size → Cont (byteAt s k)) ∧ 1 ≤ s.size ∧ s.size ≤ 8

theorem byte_range (b : UInt8) : 0 ≤ (b.toNat : Int) ∧ (b.toNat : Int) ≤ 255 := by have := b.toNat_lt; omega

set_option maxRecDepth 100000 in
set_option maxHeartbeats 800000 in
theorem sRest_any (s : ByteArray) (w : World) (hs : s.size ≤ 9223372036854775807) :
    Calls Try.prog 102 #[.string s] w (Tells (Rest s) w) := by
  go_enter Try.func102, Try.ntmps102
  go_wp2
  go_loop [3] (fun i => ∃ k : Nat, 1 ≤ k ∧ k ≤ max 1 s.size ∧ i = .int .i64 k ∧ Hid (∀ j, 1 ≤ j → j < k → j < s.size → Cont (byteAt s j))) (fun i => s.size - (intOf i).toNat)
  case atStart => exact ⟨1, Nat.le_refl _, by omega, rfl, Lib.hid (fun j h1 h2 => by omega)⟩
  case round =>
    obtain ⟨k, hk1, hk, rfl, HC⟩ := hrel
    by_cases hlt : k < s.size
    · obtain ⟨hb0, hb1⟩ := byte_range s[k]
      have HB := Lib.hid (byteAt_lt s k hlt)
      go_wp2_with fail
      refine (sLower_any _ _ hb0 hb1).mono ?_
      rintro e w1 ⟨b1, rfl, hq1, rfl⟩
      have HQ1 := Lib.hid hq1; clear hq1
      cases b1 with
      | true =>
        go_wp2
        go_round
        case rel =>
          refine ⟨k + 1, by omega, by omega, by go_num, Lib.hid fun j h1 h2 h3 => ?_⟩
          by_cases hj : j < k
          · exact HC.out j h1 hj h3
          · obtain rfl : j = k := by omega
            rw [HB.out]
            exact Or.inl (HQ1.out.1 (by simp))
        case measure => simp [intOf]; omega
      | false =>
        go_wp2_with fail
        refine (sDigit_any _ _ hb0 hb1).mono ?_
        rintro e w1 ⟨b2, rfl, hq2, rfl⟩
        have HQ2 := Lib.hid hq2; clear hq2
        cases b2 with
        | true =>
          go_wp2
          go_round
          case rel =>
            refine ⟨k + 1, by omega, by omega, by go_num, Lib.hid fun j h1 h2 h3 => ?_⟩
            by_cases hj : j < k
            · exact HC.out j h1 hj h3
            · obtain rfl : j = k := by omega
              rw [HB.out]
              exact Or.inr (HQ2.out.1 (by simp))
          case measure => simp [intOf]; omega
        | false =>
          go_wp2
          go_ret
          refine ⟨false, rfl, ⟨fun h => by simp at h, fun h => ?_⟩, rfl⟩
          rcases h.1 k hk1 hlt with h2 | h2
          · rw [HB.out] at h2; exact HQ1.out.2 h2
          · rw [HB.out] at h2; exact HQ2.out.2 h2
    · go_wp2_with fail
      refine (sIn_any _ _ _ _).mono ?_
      rintro e w1 ⟨b1, rfl, hq1, rfl⟩
      have HQ1 := Lib.hid hq1; clear hq1
      go_wp2
      go_ret
      refine ⟨b1, rfl, ?_, rfl⟩
      rw [HQ1.out]
      constructor
      · rintro ⟨h1, h2⟩
        exact ⟨fun j a b => HC.out j a (by omega) b, by omega, by omega⟩
      · rintro ⟨_, h1, h2⟩
        exact ⟨by omega, by omega⟩

set_option maxRecDepth 100000 in
set_option maxHeartbeats 800000 in
theorem iFrom_any (s : ByteArray) (lo hi : Int) (w : World) (hs : s.size ≤ 9223372036854775807) :
    Calls Try.prog 117 #[.string s, .int .u8 lo, .int .u8 hi] w (Tells (Nm lo hi s) w) := by
  by_cases h0 : s.size = 0
  · have h0' : ((s.size : Int) == 0) = true := by rw [h0]; rfl
    go_enter Try.func117, Try.ntmps117
    go_wp2
    go_ret
    exact ⟨false, rfl, ⟨fun h => by simp at h, fun h => by have := h.1; omega⟩, rfl⟩
  · have h0' : ((s.size : Int) == 0) = false := by rw [beq_eq_false_iff_ne]; omega
    by_cases h8 : 8 < s.size
    · go_enter Try.func117, Try.ntmps117
      go_wp2
      go_ret
      exact ⟨false, rfl, ⟨fun h => by simp at h, fun h => by have := h.2.1; omega⟩, rfl⟩
    · have hp : 0 < s.size := by omega
      have H0 := Lib.hid (byteAt_lt s 0 hp)
      by_cases hl : (s[0].toNat : Int) < lo
      · go_enter Try.func117, Try.ntmps117
        go_wp2
        go_ret
        exact ⟨false, rfl, ⟨fun h => by simp at h, fun h => by have := h.2.2.1; have := H0.out; omega⟩, rfl⟩
      · by_cases hh : hi < (s[0].toNat : Int)
        · go_enter Try.func117, Try.ntmps117
          go_wp2
          go_ret
          exact ⟨false, rfl, ⟨fun h => by simp at h, fun h => by have := h.2.2.2.1; have := H0.out; omega⟩, rfl⟩
        · go_enter Try.func117, Try.ntmps117
          go_wp2
          go_loop [7] (fun i => ∃ k : Nat, 1 ≤ k ∧ k ≤ s.size ∧ i = .int .i64 k ∧ Hid (∀ j, 1 ≤ j → j < k → Cont (byteAt s j))) (fun i => s.size - (intOf i).toNat)
          case atStart => exact ⟨1, Nat.le_refl _, by omega, rfl, Lib.hid (fun j h1 h2 => by omega)⟩
          case round =>
            obtain ⟨k, hk1, hk, rfl, HC⟩ := hrel
            by_cases hlt : k < s.size
            · obtain ⟨hb0, hb1⟩ := byte_range s[k]
              have HB := Lib.hid (byteAt_lt s k hlt)
              go_wp2_with fail
              refine (iCont_any _ _ hb0 hb1).mono ?_
              rintro e w1 ⟨b1, rfl, hq1, rfl⟩
              have HQ1 := Lib.hid hq1; clear hq1
              cases b1 with
              | true =>
                go_wp2
                go_round
                case rel =>
                  refine ⟨k + 1, by omega, by omega, by go_num, Lib.hid fun j h1 h2 => ?_⟩
                  by_cases hj : j < k
                  · exact HC.out j h1 hj
                  · obtain rfl : j = k := by omega
                    rw [HB.out]
                    exact HQ1.out.1 (by simp)
                case measure => simp [intOf]; omega
              | false =>
                go_wp2
                go_ret
                refine ⟨false, rfl, ⟨fun h => by simp at h, fun h => ?_⟩, rfl⟩
                have h2 := h.2.2.2.2 k hk1 hlt
                rw [HB.out] at h2
                exact HQ1.out.2 h2
            · go_wp2
              go_ret
              refine ⟨true, rfl, ⟨fun _ => ?_, fun _ => rfl⟩, rfl⟩
              refine ⟨by omega, by omega, ?_, ?_, fun j a b => HC.out j a (by omega)⟩
              · rw [H0.out]; omega
              · rw [H0.out]; omega

set_option maxRecDepth 100000 in
theorem iName_any (s : ByteArray) (w : World) (hs : s.size ≤ 9223372036854775807) :
    Calls Try.prog 98 #[.string s] w (Tells (Nm 97 122 s) w) := by
  go_enter Try.func98, Try.ntmps98
  go_wp2_with fail
  refine (iFrom_any s _ _ _ hs).mono ?_
  rintro e w1 ⟨b1, rfl, hq1, rfl⟩
  have HQ1 := Lib.hid hq1; clear hq1
  go_wp2
  go_ret
  exact ⟨b1, rfl, HQ1.out, rfl⟩

theorem no_empty (s : ByteArray) (h : s.size = 0) : s = ⟨#[]⟩ := by
  obtain ⟨d⟩ := s
  have : d = #[] := Array.eq_empty_of_size_eq_zero h
  rw [this]
theorem some_byte (s : ByteArray) (h : s.size ≠ 0) : s.toList.isEmpty = false ∧ ¬ s.toList = [] := by
  have h2 : ¬ s.toList = [] := by
    rw [ByteArray.toList_eq]
    intro e
    have := congrArg List.length e
    simp at this
    exact h (by simpa using this)
  exact ⟨by simpa using h2, h2⟩

theorem nm_rest {lo hi : Int} {s : ByteArray} : Nm lo hi s ↔ (lo ≤ byteAt s 0 ∧ byteAt s 0 ≤ hi) ∧ Rest s := by
  constructor
  · rintro ⟨a, b, c, d, e⟩; exact ⟨⟨c, d⟩, e, a, b⟩
  · rintro ⟨⟨c, d⟩, e, a, b⟩; exact ⟨a, b, c, d, e⟩
theorem nm_no {lo hi : Int} {s : ByteArray} (h : s.size = 0) : ¬ Nm lo hi s := fun k => by have := k.1; omega

set_option maxRecDepth 100000 in
set_option maxHeartbeats 400000 in
theorem sName_any (s : ByteArray) (w : World) (hs : s.size ≤ 9223372036854775807) :
    Calls Try.prog 59 #[.string s] w (Tells (Nm 97 122 s) w) := by
  by_cases h0 : s.size = 0
  · have hn := Lib.hid (nm_no (lo := 97) (hi := 122) h0)
    obtain rfl := no_empty s h0
    go_enter Try.func59, Try.ntmps59
    go_wp2
    go_ret
    exact ⟨false, rfl, ⟨fun h => by simp at h, fun h => absurd h hn.out⟩, rfl⟩
  · obtain ⟨hb, hb'⟩ := some_byte s h0
    have hp : 0 < s.size := by omega
    have H0 := Lib.hid (byteAt_lt s 0 hp)
    obtain ⟨hb0, hb1⟩ := byte_range s[0]
    go_enter Try.func59, Try.ntmps59
    go_wp2_with fail
    refine (sLower_any _ _ hb0 hb1).mono ?_
    rintro e w1 ⟨b1, rfl, hq1, rfl⟩
    have HQ1 := Lib.hid hq1; clear hq1
    cases b1 with
    | true =>
      go_wp2_with fail
      refine (sRest_any s _ hs).mono ?_
      rintro e w1 ⟨b2, rfl, hq2, rfl⟩
      have HQ2 := Lib.hid hq2; clear hq2
      go_wp2
      go_ret
      refine ⟨b2, rfl, ?_, rfl⟩
      rw [HQ2.out, nm_rest, H0.out]
      exact ⟨fun h => ⟨HQ1.out.1 (by simp), h⟩, fun h => h.2⟩
    | false =>
      go_wp2
      go_ret
      refine ⟨false, rfl, ⟨fun h => by simp at h, fun h => ?_⟩, rfl⟩
      rw [nm_rest, H0.out] at h
      exact HQ1.out.2 h.1

set_option maxRecDepth 100000 in
set_option maxHeartbeats 400000 in
theorem sVar_any (s : ByteArray) (w : World) (hs : s.size ≤ 9223372036854775807) :
    Calls Try.prog 121 #[.string s] w (Tells (Nm 65 90 s) w) := by
  by_cases h0 : s.size = 0
  · have hn := Lib.hid (nm_no (lo := 65) (hi := 90) h0)
    obtain rfl := no_empty s h0
    go_enter Try.func121, Try.ntmps121
    go_wp2
    go_ret
    exact ⟨false, rfl, ⟨fun h => by simp at h, fun h => absurd h hn.out⟩, rfl⟩
  · obtain ⟨hb, hb'⟩ := some_byte s h0
    have hp : 0 < s.size := by omega
    have H0 := Lib.hid (byteAt_lt s 0 hp)
    by_cases a1 : 65 ≤ (s[0].toNat : Int)
    · by_cases a2 : (s[0].toNat : Int) ≤ 90
      · go_enter Try.func121, Try.ntmps121
        go_wp2_with fail
        refine (sRest_any s _ hs).mono ?_
        rintro e w1 ⟨b2, rfl, hq2, rfl⟩
        have HQ2 := Lib.hid hq2; clear hq2
        go_wp2
        go_ret
        refine ⟨b2, rfl, ?_, rfl⟩
        rw [HQ2.out, nm_rest, H0.out]
        exact ⟨fun h => ⟨⟨by omega, by omega⟩, h⟩, fun h => h.2⟩
      · go_enter Try.func121, Try.ntmps121
        go_wp2
        go_ret
        refine ⟨false, rfl, ⟨fun h => by simp at h, fun h => ?_⟩, rfl⟩
        rw [nm_rest, H0.out] at h
        omega
    · go_enter Try.func121, Try.ntmps121
      go_wp2
      go_ret
      refine ⟨false, rfl, ⟨fun h => by simp at h, fun h => ?_⟩, rfl⟩
      rw [nm_rest, H0.out] at h
      omega

theorem tells_same {X : Prop} {a b : Bool} (h : a = true ↔ X) (k : b = true ↔ X) : (a == b) = true ∧ (a != b) = false := by
  have : a = b := by cases a <;> cases b <;> simp_all
  subst this; simp
end Go.Proofs.Ytcmhiindjponcaa
namespace Go.Proofs.Ytcmhiindjponcaa
open Go.RowKit

/-- The name of the sort of the words. -/
abbrev wordL : List UInt8 := [119, 111, 114, 100]
theorem word_ways (s : ByteArray) : (s.toList = [119, 111, 114, 100] ∧ (s.toList == [119, 111, 114, 100]) = true) ∨ (¬ s.toList = [119, 111, 114, 100] ∧ (s.toList == [119, 111, 114, 100]) = false) := by
  by_cases h : s.toList = [119, 111, 114, 100]
  · left; simp [h]
  · right; simp [h]
/-- A sort of a signature. -/
def SortOk (ps : List ByteArray) (s : ByteArray) : Prop := s.toList = [119, 111, 114, 100] ∨ s ∈ ps
/-- An operator of a signature. -/
def ValidOp (ps : List ByteArray) (d : OpD) : Prop := Nm 97 122 d.name ∧ builtinB d.name = false ∧ d.args.length ≤ 3 ∧ (∀ s ∈ d.args, SortOk ps s) ∧ SortOk ps d.res
def SortName (p : ByteArray) : Prop := Nm 97 122 p ∧ ¬ p.toList = [119, 111, 114, 100]
def ValidSig (ps : List ByteArray) (ds : List OpD) : Prop := ps.length ≤ 4 ∧ ps.Nodup ∧ ds.length ≤ 16 ∧ (ds.map OpD.name).Nodup ∧ (∀ p ∈ ps, SortName p) ∧ ∀ d ∈ ds, ValidOp ps d

theorem idx_ways (ps : List ByteArray) (s : ByteArray) : (Lib.idxOfS ps s = -1 ∧ s ∉ ps) ∨ (∃ k : Nat, Lib.idxOfS ps s = (k : Int) ∧ k < ps.length ∧ s ∈ ps) := by
  by_cases h : ∃ k, NotYet ps s k ∧ ps[k]? = some s
  · obtain ⟨k, h1, h2⟩ := h
    exact Or.inr ⟨k, idx_hit h1 h2, (List.getElem?_eq_some_iff.1 h2).1, List.mem_of_getElem? h2⟩
  · have hn : ∀ k, NotYet ps s k := by
      intro k
      induction k with
      | zero => intro j p hj; omega
      | succ k ih =>
        intro j p hj hp
        by_cases e : j = k
        · subst e
          intro e2
          exact h ⟨j, ih, by rw [hp, e2]⟩
        · exact ih j p (by omega) hp
    refine Or.inl ⟨idx_miss (hn _), fun hm => ?_⟩
    obtain ⟨j, hj⟩ := List.mem_iff_getElem?.1 hm
    exact hn (j + 1) j s (by omega) hj rfl

set_option maxRecDepth 100000 in
set_option maxHeartbeats 800000 in
theorem sSort_any (ua : Value) (bb : Option Addr) (bn bc : Nat) (ps : List ByteArray) (s : ByteArray) (w : World) (hl : ps.length ≤ 1048576) (ha : StrsAt w ua ps) :
    Calls Try.prog 103 #[sv ua (.slice bb bn bc), .string s] w (TellsB (SortOk ps s) w) := by
  have HA := Lib.hid ha
  obtain ⟨a0, c0, rfl⟩ := ha.slice
  clear ha
  have HBA : Hid (∀ o, Below w.heap.size w (w.alloc o)) := Lib.hid (fun o => (Below.refl _ _).alloc (Nat.le_refl _) _)
  rcases word_ways s with ⟨h1, h2⟩ | ⟨h1, h2⟩
  · have H1 := Lib.hid h1; clear h1
    go_enter Try.func103, Try.ntmps103
    go_wp2
    go_ret
    exact ⟨true, rfl, ⟨fun _ => Or.inl H1.out, fun _ => rfl⟩, HBA.out _⟩
  · have H1 := Lib.hid h1; clear h1
    go_enter Try.func103, Try.ntmps103
    go_wp2_with fail
    refine (sIndex_any _ ps s _ (by omega) (HA.out.below (HBA.out _))).mono ?_
    rintro e w1 ⟨rfl, rfl⟩
    rcases idx_ways ps s with ⟨hi, hm⟩ | ⟨k, hi, hk, hm⟩
    · rw [hi]
      have HM := Lib.hid hm; clear hm hi
      go_wp2
      go_ret
      exact ⟨false, rfl, ⟨fun h => by simp at h, fun h => by rcases h with h | h; exact absurd h H1.out; exact absurd h HM.out⟩, HBA.out _⟩
    · rw [hi]
      have HM := Lib.hid hm; clear hm hi
      go_wp2
      go_ret
      exact ⟨true, rfl, ⟨fun _ => Or.inr HM.out, fun _ => rfl⟩, HBA.out _⟩
theorem StrsAt.at {w : World} {u : Value} {ps : List ByteArray} (h : StrsAt w u ps) {k : Nat} {p : ByteArray} (hp : ps[k]? = some p) : ∃ b o cap, u = .slice (some ⟨b, o, none⟩) ps.length cap ∧ w.cell? ⟨b, o + k, none⟩ = some (.string p) := by
  obtain ⟨a, cap, rfl, h⟩ := h
  rcases h with rfl | ⟨b, o, rfl, h⟩
  · simp at hp
  · exact ⟨b, o, cap, rfl, h k p hp⟩
theorem OpsAt.at {w : World} {u : Value} {ds : List OpD} (h : OpsAt w u ds) {k : Nat} {d : OpD} (hp : ds[k]? = some d) : ∃ b o cap a' n' c', u = .slice (some ⟨b, o, none⟩) ds.length cap ∧ w.cell? ⟨b, o + k * 3, none⟩ = some (.string d.name) ∧
    w.cell? ⟨b, o + k * 3 + 1, none⟩ = some (.slice a' n' c') ∧ w.cell? ⟨b, o + k * 3 + 2, none⟩ = some (.string d.res) ∧ StrsAt w (.slice a' n' c') d.args := by
  obtain ⟨a, cap, rfl, h⟩ := h
  rcases h with rfl | ⟨b, o, rfl, h⟩
  · simp at hp
  · obtain ⟨u', c0, c1, c2, hs⟩ := h k d hp
    obtain ⟨a', c', rfl⟩ := hs.slice
    exact ⟨b, o, cap, a', _, c', rfl, c0, c1, c2, hs⟩

set_option maxRecDepth 100000 in
set_option maxHeartbeats 1600000 in
theorem sOp_any (ua u : Value) (bb : Option Addr) (bn bc : Nat) (ps : List ByteArray) (d : OpD) (w : World) (hl : ps.length ≤ 1048576) (hal : d.args.length ≤ 1048576) (hnm : d.name.size ≤ 1048576) (ha : StrsAt w ua ps) (hu : StrsAt w u d.args) :
    Calls Try.prog 60 #[sv ua (.slice bb bn bc), ov d.name u d.res] w (TellsB (ValidOp ps d) w) := by
  have HA := Lib.hid ha
  have HU := Lib.hid hu
  obtain ⟨a0, c0, rfl⟩ := ha.slice
  obtain ⟨a1, c1, rfl⟩ := hu.slice
  clear ha hu
  have HV : Hid (ValidOp ps d ↔ (Nm 97 122 d.name ∧ builtinB d.name = false ∧ d.args.length ≤ 3 ∧ (∀ s ∈ d.args, SortOk ps s) ∧ SortOk ps d.res)) := Lib.hid Iff.rfl
  obtain ⟨nm, xs, rs⟩ := d
  obtain ⟨X, hX⟩ : ∃ X, X = ValidOp ps ⟨nm, xs, rs⟩ := ⟨_, rfl⟩
  rw [← hX] at HV ⊢
  clear hX
  obtain ⟨W, hW⟩ : ∃ W, W = (w.alloc (.cells #[.slice a0 ps.length c0, .slice bb bn bc] 27)).alloc (.cells #[.string nm, .slice a1 xs.length c1, .string rs] 47) := ⟨_, rfl⟩
  have hbW : Below w.heap.size w W := by rw [hW]; exact ((Below.refl _ _).alloc (Nat.le_refl _) _).alloc (by simp) _
  have hWs : W.heap.size = w.heap.size + 1 + 1 := by rw [hW]; simp
  have r0 : W.heap[w.heap.size]? = some (.cells #[.slice a0 ps.length c0, .slice bb bn bc] 27 (0, 0)) := by rw [hW]; exact heap_mid _ _ _ rfl
  have r1 : W.heap[w.heap.size + 1]? = some (.cells #[.string nm, .slice a1 xs.length c1, .string rs] 47 (0, 0)) := by rw [hW]; exact heap_new _ _ (by simp)
  have HCS : Hid (∀ w', Below W.heap.size W w' → w'.cell? ⟨w.heap.size, 0, none⟩ = some (.slice a0 ps.length c0) ∧ w'.cell? ⟨w.heap.size, 1, none⟩ = some (.slice bb bn bc) ∧ w'.cell? ⟨w.heap.size + 1, 0, none⟩ = some (.string nm) ∧ w'.cell? ⟨w.heap.size + 1, 1, none⟩ = some (.slice a1 xs.length c1) ∧ w'.cell? ⟨w.heap.size + 1, 2, none⟩ = some (.string rs) ∧ Below W.heap.size W w') := Lib.hid (fun w' hb => by
    have q0 := (hb.block w.heap.size (by omega)).trans r0
    have q1 := (hb.block (w.heap.size + 1) (by omega)).trans r1
    refine ⟨?_, ?_, ?_, ?_, ?_, hb⟩
    · rw [cell_of_row w' _ 0 _ _ _ q0]; rfl
    · rw [cell_of_row w' _ 1 _ _ _ q0]; rfl
    · rw [cell_of_row w' _ 0 _ _ _ q1]; rfl
    · rw [cell_of_row w' _ 1 _ _ _ q1]; rfl
    · rw [cell_of_row w' _ 2 _ _ _ q1]; rfl)
  have HBW := Lib.hid hbW; clear hbW r0 r1 hWs
  have HAW : Hid (∀ w', Below W.heap.size W w' → StrsAt w' (.slice a0 ps.length c0) ps) := Lib.hid (fun w' hb => (HA.out.below HBW.out).below hb)
  have HUW : Hid (∀ w', Below W.heap.size W w' → StrsAt w' (.slice a1 xs.length c1) xs) := Lib.hid (fun w' hb => (HU.out.below HBW.out).below hb)
  have HSO : Hid (∀ w' s, Below W.heap.size W w' → Calls Try.prog 103 #[sv (.slice a0 ps.length c0) (.slice bb bn bc), .string s] w' (TellsB (SortOk ps s) w')) := Lib.hid (fun w' s hb => sSort_any _ bb bn bc ps s w' hl (HAW.out w' hb))
  obtain ⟨n, hn⟩ : ∃ n, n = xs.length := ⟨_, rfl⟩
  have hn' : xs.length = n := hn.symm
  have hal2 : n ≤ 1048576 := by rw [hn]; exact hal
  clear hal
  have hnm2 : nm.size ≤ 1048576 := hnm
  clear hnm
  rw [hn'] at HU hW HCS HUW
  rw [hn']
  have HN := Lib.hid hn; clear hn hn'
  obtain ⟨c0', c1', c2', c3', c4', _⟩ := HCS.out W (Below.refl _ _)
  go_enter Try.func60, Try.ntmps60
  go_wp2_with fail
  rw [← hW]
  clear hW c0' c1' c2' c3' c4'
  go_loopw [5] (fun i wr => ∃ k : Nat, k ≤ n ∧ i = .int .i64 k ∧ Hid (∀ s ∈ xs.take k, SortOk ps s) ∧ Hid (Below W.heap.size W wr)) (fun i _ => n - (intOf i).toNat)
  case atStart => exact ⟨0, Nat.zero_le _, rfl, Lib.hid (fun s hs => by simp at hs), Lib.hid (Below.refl _ _)⟩
  case round =>
    obtain ⟨k, hk, rfl, HO, HB⟩ := hrel
    obtain ⟨c0', c1', c2', c3', c4', _⟩ := HCS.out wr HB.out
    by_cases hlt : k < n
    · obtain ⟨p, hp⟩ : ∃ p, xs[k]? = some p := ⟨_, List.getElem?_eq_getElem (by have := HN.out; omega)⟩
      have HT := Lib.hid (take_next xs k p hp)
      have HPM := Lib.hid (List.mem_of_getElem? hp)
      obtain ⟨g, o, cc, ee, hc⟩ := (HUW.out wr HB.out).at hp
      clear hp
      simp only [Value.slice.injEq] at ee
      obtain ⟨rfl, _, rfl⟩ := ee
      have hblt : g < wr.heap.size := World.block_lt_of_cell? wr _ hc
      have HK : Hid (∀ w', Below wr.heap.size wr w' → w'.cell? ⟨w.heap.size, 0, none⟩ = some (.slice a0 ps.length c0) ∧ w'.cell? ⟨w.heap.size, 1, none⟩ = some (.slice bb bn bc) ∧ w'.cell? ⟨w.heap.size + 1, 1, none⟩ = some (.slice (some ⟨g, o, none⟩) n c1) ∧ w'.cell? ⟨g, o + k, none⟩ = some (.string p) ∧ Below wr.heap.size wr w') := Lib.hid (fun w' hb => by
        obtain ⟨q0, q1, _, q3, _, _⟩ := HCS.out w' (HB.out.trans (hb.mono HB.out.size))
        exact ⟨q0, q1, q3, by rw [hb.cell hblt]; exact hc, hb⟩)
      have HCALL : Hid (∀ w', Below wr.heap.size wr w' → Calls Try.prog 103 #[sv (.slice a0 ps.length c0) (.slice bb bn bc), .string p] w' (TellsB (SortOk ps p) w')) := Lib.hid (fun w' hb => HSO.out w' p (HB.out.trans (hb.mono HB.out.size)))
      clear c2' c4' hblt
      have hb0 : Below wr.heap.size wr wr := Below.refl _ _
      go_wp2
      go_region_held3 (fun w' => w'.cell? ⟨w.heap.size, 0, none⟩ = some (.slice a0 ps.length c0) ∧ w'.cell? ⟨w.heap.size, 1, none⟩ = some (.slice bb bn bc) ∧ w'.cell? ⟨w.heap.size + 1, 1, none⟩ = some (.slice (some ⟨g, o, none⟩) n c1) ∧ w'.cell? ⟨g, o + k, none⟩ = some (.string p) ∧ Below wr.heap.size wr w')
        (first | exact HK.out _ (by assumption) | exact HK.out _ (bel_drew (by assumption)) | exact HK.out _ (Below.drew (by assumption)) | exact HK.out _ (Below.trans (by assumption) (Below.mono (by assumption) (Below.size (by assumption)))) | go_keep)
        (first | (go_at_call 103; refine (HCALL.out _ (by first | assumption | exact Below.drew (by assumption))).mono ?_; rintro e w1 ⟨bq, rfl, hbq, hb1⟩))
      have HQ := Lib.hid hbq; clear hbq
      have HB2 := Lib.hid (HB.out.trans ((bel_drew hb1).mono HB.out.size)); clear hb1
      clear c0' c1' c3' hc
      cases bq with
      | false =>
        go_wp2
        go_ret
        exact ⟨false, rfl, ⟨fun h => by simp at h, fun hx => by have := HQ.out.2 ((HV.out.1 hx).2.2.2.1 p HPM.out); simp at this⟩, HBW.out.trans (HB2.out.mono HBW.out.size)⟩
      | true =>
        have HNX : Hid (∀ s ∈ xs.take (k + 1), SortOk ps s) := Lib.hid (fun s hs => by
          rw [HT.out] at hs
          rcases List.mem_append.1 hs with h | h
          · exact HO.out s h
          · simp at h; subst h; exact HQ.out.1 rfl)
        go_wp2
        go_roundw
        case rel => first | exact ⟨k + 1, by omega, by go_num, HNX, HB2⟩ | exact ⟨k + 1, by have := HN.out; omega, by omega, HNX⟩
        case measure => simp [intOf]; omega
    · have hkn : k = n := by omega
      have HF : Hid (∀ s ∈ xs, SortOk ps s) := Lib.hid (fun s hs => HO.out s (by rw [hkn, HN.out, List.take_length]; exact hs))
      have HNL : Hid (xs.length ≤ 3 ↔ n ≤ 3) := Lib.hid (by have := HN.out; omega)
      have HBF := Lib.hid (HBW.out.trans (HB.out.mono HBW.out.size))
      clear hkn
      go_wp2_with fail
      refine (sName_any nm _ (by omega)).mono ?_
      rintro e w1 ⟨b1, rfl, hq1, rfl⟩
      have HQ1 := Lib.hid hq1; clear hq1
      cases b1 with
      | false =>
        go_wp2
        go_ret
        exact ⟨false, rfl, ⟨fun h => by simp at h, fun hx => by have := HQ1.out.2 (HV.out.1 hx).1; simp at this⟩, HBF.out⟩
      | true =>
        go_wp2_with fail
        refine (sBuiltin_any nm _).mono ?_
        rintro e w1 ⟨rfl, rfl⟩
        obtain ⟨bb2, hbb2⟩ : ∃ b, b = builtinB nm := ⟨_, rfl⟩
        rw [← hbb2]
        have HB2 := Lib.hid hbb2; clear hbb2
        cases bb2 with
        | true =>
          go_wp2
          go_ret
          exact ⟨false, rfl, ⟨fun h => by simp at h, fun hx => by have := (HV.out.1 hx).2.1; rw [← HB2.out] at this; simp at this⟩, HBF.out⟩
        | false =>
          by_cases h3 : n ≤ 3
          · go_wp2_with fail
            refine (HSO.out _ rs HB.out).mono ?_
            rintro e w2 ⟨b4, rfl, hq4, hb4⟩
            have HQ4 := Lib.hid hq4; clear hq4
            have HBF2 := Lib.hid (HBF.out.trans (hb4.mono HBF.out.size)); clear hb4
            go_wp2
            go_ret
            refine ⟨b4, rfl, ⟨fun h => HV.out.2 ⟨HQ1.out.1 (by simp), HB2.out.symm, HNL.out.2 h3, HF.out, HQ4.out.1 h⟩, fun hx => HQ4.out.2 (HV.out.1 hx).2.2.2.2⟩, HBF2.out⟩
          · go_wp2
            go_ret
            exact ⟨false, rfl, ⟨fun h => by simp at h, fun hx => absurd (HNL.out.1 (HV.out.1 hx).2.2.1) h3⟩, HBF.out⟩
end Go.Proofs.Ytcmhiindjponcaa
namespace Go.Proofs.Ytcmhiindjponcaa
open Go.RowKit

/-- The three kinds' values. -/
abbrev vBuilt (nm : ByteArray) : Value := .iface 108 (.agg #[.string nm, .int .i64 2, .string kWord])
abbrev vDecl (nm : ByteArray) (n : Nat) (res : ByteArray) (u : Value) : Value := .iface 111 (.agg #[.string nm, .int .i64 n, .string res, u])
abbrev vMiss : Value := .iface 152 (.agg #[.string ⟨#[]⟩, .int .i64 0, .string ⟨#[]⟩])

/-- Which kind an operator is of. -/
def OperIs (o : Option OpD) (nm : ByteArray) (w : World) (v : Value) : Prop :=
  (builtinB nm = true ∧ o = some ⟨nm, [kWord, kWord], kWord⟩ ∧ v = vBuilt nm) ∨
  (∃ d a n c, o = some d ∧ d.name = nm ∧ n = d.args.length ∧ v = vDecl nm n d.res (.slice a n c) ∧ StrsAt w (.slice a n c) d.args) ∨
  (o = none ∧ v = vMiss)
def OperE (o : Option OpD) (nm : ByteArray) (w : World) (e : Ending) (w' : World) : Prop := ∃ v, e = .returned v ∧ OperIs o nm w' v ∧ Below w.heap.size w w'
theorem OperIs.below {o : Option OpD} {nm : ByteArray} {w w' : World} {v : Value} (h : OperIs o nm w v) (hb : Below w.heap.size w w') : OperIs o nm w' v := by
  rcases h with h | ⟨d, a, n, c, h1, h2, h3, h4, h5⟩ | h
  · exact Or.inl h
  · exact Or.inr (Or.inl ⟨d, a, n, c, h1, h2, h3, h4, h5.below hb⟩)
  · exact Or.inr (Or.inr h)

theorem asBB (v : Value) (W : World) : (Instr.typeAssert (.iface 108 v) 103 108 true).run Try.prog W = .ok (.tuple #[v, .bool true]) W := by kernel_rfl
theorem asDB (v : Value) (W : World) : (Instr.typeAssert (.iface 111 v) 103 108 true).run Try.prog W = .ok (.tuple #[.agg #[.string ByteArray.empty, .int .i64 0, .string ByteArray.empty], .bool false]) W := by kernel_rfl
theorem asDD (v : Value) (W : World) : (Instr.typeAssert (.iface 111 v) 103 111 true).run Try.prog W = .ok (.tuple #[v, .bool true]) W := by kernel_rfl
theorem asMB (v : Value) (W : World) : (Instr.typeAssert (.iface 152 v) 103 108 true).run Try.prog W = .ok (.tuple #[.agg #[.string ByteArray.empty, .int .i64 0, .string ByteArray.empty], .bool false]) W := by kernel_rfl
theorem asMD (v : Value) (W : World) : (Instr.typeAssert (.iface 152 v) 103 111 true).run Try.prog W = .ok (.tuple #[.agg #[.string ByteArray.empty, .int .i64 0, .string ByteArray.empty, .slice none 0 0], .bool false]) W := by kernel_rfl

set_option maxRecDepth 100000 in
set_option maxHeartbeats 3200000 in
theorem oper_any (x : Value) (nm : ByteArray) (ps : List ByteArray) (ds : List OpD) (w : World) (hn : ds.length ≤ 1048576) (ha : ∀ d ∈ ds, d.args.length ≤ 1048576) (hv : SigAt w x ps ds) :
    Calls Try.prog 67 #[x, .string nm] w (OperE (findD ds nm) nm w) := by
  obtain ⟨s, t, rfl, hs, ht⟩ := hv
  obtain ⟨sa, sc, rfl⟩ := hs.slice
  obtain ⟨ta, tc, rfl⟩ := ht.slice
  clear hs
  have HAL := Lib.hid ha; clear ha
  obtain ⟨m, hm⟩ : ∃ m, m = ps.length := ⟨_, rfl⟩
  obtain ⟨n, hnn⟩ : ∃ n, n = ds.length := ⟨_, rfl⟩
  rw [← hm, ← hnn]
  rw [← hnn] at ht hn
  have HN := Lib.hid hnn
  clear hm hnn
  obtain ⟨W, hW⟩ : ∃ W, W = w.alloc (.cells #[.slice sa m sc, .slice ta n tc] 27) := ⟨_, rfl⟩
  have hbW : Below w.heap.size w W := by rw [hW]; exact (Below.refl _ _).alloc (Nat.le_refl _) _
  have r0 : W.heap[w.heap.size]? = some (.cells #[.slice sa m sc, .slice ta n tc] 27 (0, 0)) := by rw [hW]; exact heap_new _ _ rfl
  have HT : Hid (∀ w', Below W.heap.size W w' → OpsAt w' (.slice ta n tc) ds) := Lib.hid (fun w' hb => (ht.below hbW).below hb)
  have HBW := Lib.hid hbW; clear hbW ht
  obtain ⟨c0, c1⟩ := (show W.cell? ⟨w.heap.size, 0, none⟩ = some (.slice sa m sc) ∧ W.cell? ⟨w.heap.size, 1, none⟩ = some (.slice ta n tc) from ⟨by rw [cell_of_row W _ 0 _ _ _ r0]; rfl, by rw [cell_of_row W _ 1 _ _ _ r0]; rfl⟩)
  obtain ⟨bq, hbq⟩ : ∃ b, b = builtinB nm := ⟨_, rfl⟩
  have HS := Lib.hid (iBuiltin_any nm W)
  unfold BuiltEnd at HS
  rw [← hbq] at HS
  have HBQ := Lib.hid hbq; clear hbq r0
  go_enter Try.func67, Try.ntmps67
  go_wp2_with fail
  rw [← hW]
  clear hW
  refine HS.out.mono ?_
  rintro e w1 ⟨rfl, hw1⟩
  obtain ⟨W, hWW⟩ : ∃ W, W = w1 := ⟨_, rfl⟩
  subst hw1
  subst hWW
  cases bq with
  | true =>
    have HFD := Lib.hid (findD_built (ds := ds) HBQ.out.symm)
    go_wp2
    go_ret
    exact ⟨_, rfl, Or.inl ⟨HBQ.out.symm, HFD.out, rfl⟩, HBW.out⟩
  | false =>
    go_wp2_with fail
    go_loopw [16] (fun i wr => ∃ k : Nat, k ≤ n ∧ i = .int .i64 k ∧ Hid (∀ d ∈ ds.take k, (d.name.toList == nm.toList) = false) ∧ Hid (Below W.heap.size W wr)) (fun i _ => n - (intOf i).toNat)
    case atStart => exact ⟨0, Nat.zero_le _, rfl, Lib.hid (fun s hs => by simp at hs), Lib.hid (Below.refl _ _)⟩
    case round =>
      obtain ⟨k, hk, rfl, HO, HB⟩ := hrel
      clear c0 c1
      by_cases hlt : k < n
      · obtain ⟨d, hd⟩ : ∃ d, ds[k]? = some d := ⟨_, List.getElem?_eq_getElem (by have := HN.out; omega)⟩
        obtain ⟨g, o, cc, a', n', c', ee, e0, e1, e2, hst⟩ := (HT.out _ HB.out).at hd
        have HD := Lib.hid hd; clear hd
        simp only [Value.slice.injEq] at ee
        obtain ⟨rfl, -, rfl⟩ := ee
        have hb1 : Below wr.heap.size wr (wr.alloc (.cells #[.string d.name, .slice a' n' c', .string d.res] 47)) := (Below.refl _ _).alloc (Nat.le_refl _) _
        have HSX := Lib.hid (hst.below hb1)
        have HBX := Lib.hid (HB.out.trans (hb1.mono HB.out.size))
        have HNL : Hid (n' = d.args.length) := Lib.hid hst.src.1
        clear hst hb1
        by_cases hq : d.name.toList = nm.toList
        · have hq1 : (d.name.toList == nm.toList) = true := by simpa using hq
          have HFD := Lib.hid (findD_at HBQ.out.symm HO.out HD.out hq1)
          have HNM : Hid (d.name = nm) := Lib.hid ((same_iff _ _).1 hq1)
          clear hq
          go_wp2
          go_ret
          exact ⟨_, rfl, Or.inr (Or.inl ⟨d, a', n', c', HFD.out, HNM.out, HNL.out, rfl, HSX.out⟩), HBW.out.trans (HBX.out.mono HBW.out.size)⟩
        · have hq1 : (d.name.toList == nm.toList) = false := by simpa using hq
          have HNX : Hid (∀ d ∈ ds.take (k + 1), (d.name.toList == nm.toList) = false) := Lib.hid (fun x hx => by
            rw [take_next ds k d HD.out] at hx
            rcases List.mem_append.1 hx with h | h
            · exact HO.out x h
            · simp at h; subst h; exact hq1)
          clear hq
          go_wp2
          go_roundw
          case rel => exact ⟨k + 1, by omega, by go_num, HNX, HBX⟩
          case measure => simp [intOf]; omega
      · have HFD := Lib.hid (findD_none (ds := ds) HBQ.out.symm (fun x hx => HO.out x (by rw [show k = ds.length by have := HN.out; omega, List.take_length]; exact hx)))
        go_wp2
        go_ret
        exact ⟨_, rfl, Or.inr (Or.inr ⟨HFD.out, rfl⟩), HBW.out.trans (HB.out.mono HBW.out.size)⟩
end Go.Proofs.Ytcmhiindjponcaa
namespace Go.Proofs.Ytcmhiindjponcaa
open Go.RowKit

/-- The argument's box and the result's. -/
def FBoxes (w : World) (a b : Value) (wr : World) : Prop :=
  wr.heap[w.heap.size]? = some (.cells #[a, b] 27 (0, 0)) ∧ wr.heap[w.heap.size + 1]? = some (.cells #[.string ⟨#[]⟩, .slice none 0 0, .string ⟨#[]⟩] 47 (0, 0)) ∧ Below w.heap.size w wr
theorem FBoxes.below {w wr w' : World} {a b : Value} (h : FBoxes w a b wr) (hb : Below wr.heap.size wr w') : FBoxes w a b w' := by
  have h1 : w.heap.size + 1 < wr.heap.size := (Array.getElem?_eq_some_iff.1 h.2.1).1
  exact ⟨(hb.block _ (by omega)).trans h.1, (hb.block _ (by omega)).trans h.2.1, h.2.2.trans (hb.mono h.2.2.size)⟩
theorem fboxes_new (w : World) (a b : Value) : FBoxes w a b ((w.alloc (.cells #[a, b] 27)).alloc (.cells #[.string ⟨#[]⟩, .slice none 0 0, .string ⟨#[]⟩] 47)) :=
  ⟨heap_mid _ _ _ rfl, heap_new _ _ (by simp), ((Below.refl _ _).alloc (Nat.le_refl _) _).alloc (by simp) _⟩

set_option maxRecDepth 100000 in
set_option maxHeartbeats 3200000 in
theorem sFind_any (x : Value) (nm : ByteArray) (ps : List ByteArray) (ds : List OpD) (w : World) (_hnm : nm.size ≤ 9223372036854775807) (hn : ds.length ≤ 1048576) (ha : ∀ d ∈ ds, d.args.length ≤ 1048576) (hv : SigAt w x ps ds) :
    Calls Try.prog 23 #[x, .string nm] w (FindE (findD ds nm) w) := by
  obtain ⟨i0, hi, hz0, hz1, hz2⟩ := info_parts infoStr'
  have HI := Lib.hid hi; clear hi
  have HZ0 := Lib.hid hz0; clear hz0
  have HZ1 := Lib.hid hz1; clear hz1
  have HZ2 := Lib.hid hz2; clear hz2
  obtain ⟨s, t, rfl, hs, ht⟩ := hv
  obtain ⟨sa, sc, rfl⟩ := hs.slice
  obtain ⟨ta, tc, rfl⟩ := ht.slice
  clear hs
  have HAL := Lib.hid ha; clear ha
  obtain ⟨W, hW⟩ : ∃ W, W = (w.alloc (.cells #[.slice sa ps.length sc, .slice ta ds.length tc] 27)).alloc (.cells #[.string ⟨#[]⟩, .slice none 0 0, .string ⟨#[]⟩] 47) := ⟨_, rfl⟩
  have HF : Hid (FBoxes w (.slice sa ps.length sc) (.slice ta ds.length tc) W) := Lib.hid (by rw [hW]; exact fboxes_new _ _ _)
  have HT : Hid (∀ w', Below W.heap.size W w' → OpsAt w' (.slice ta ds.length tc) ds) := Lib.hid (fun w' hb => (ht.below HF.out.2.2).below hb)
  clear ht
  obtain ⟨m, hm⟩ : ∃ m, m = ps.length := ⟨_, rfl⟩
  obtain ⟨n, hnn⟩ : ∃ n, n = ds.length := ⟨_, rfl⟩
  rw [← hm, ← hnn] at HF hW ⊢
  rw [← hnn] at HT hn
  have HN := Lib.hid hnn
  clear hm hnn
  obtain ⟨c0, c1⟩ := (show W.cell? ⟨w.heap.size, 0, none⟩ = some (.slice sa m sc) ∧ W.cell? ⟨w.heap.size, 1, none⟩ = some (.slice ta n tc) from ⟨by rw [cell_of_row W _ 0 _ _ _ HF.out.1]; rfl, by rw [cell_of_row W _ 1 _ _ _ HF.out.1]; rfl⟩)
  obtain ⟨bq, hbq⟩ : ∃ b, b = builtinB nm := ⟨_, rfl⟩
  have HS := Lib.hid (sBuiltin_any nm W)
  unfold BuiltEnd at HS
  rw [← hbq] at HS
  have HBQ := Lib.hid hbq; clear hbq
  go_enter Try.func23, Try.ntmps23
  go_wp2_with fail
  rw [← hW]
  clear hW
  refine HS.out.mono ?_
  rintro e w1 ⟨rfl, hw1⟩
  obtain ⟨W, hWW⟩ : ∃ W, W = w1 := ⟨_, rfl⟩
  subst hw1
  subst hWW
  obtain ⟨⟨y0, y1, y2⟩, g0, g1, g2⟩ := cells_of3 HF.out.2.1
  cases bq with
  | true =>
    have HFD := Lib.hid (findD_built (ds := ds) HBQ.out.symm)
    have hW1 : w.heap.size + 2 ≤ W.heap.size := (Array.getElem?_eq_some_iff.1 HF.out.2.1).1
    have hfx := HF.out.below ((Below.refl W.heap.size W).alloc (Nat.le_refl _) (.cells #[.string ⟨#[119, 111, 114, 100]⟩, .string ⟨#[119, 111, 114, 100]⟩] 9))
    obtain ⟨⟨z0, z1, z2⟩, f0, f1, f2⟩ := cells_of3 hfx.2.1
    have HFX := Lib.hid hfx; clear hfx
    go_wp2
    (try simp only [Exit.inBlock, Exit.then])
    refine bodyPost_ret (v := .tuple #[ov nm (.slice (some ⟨W.heap.size, 0, none⟩) 2 2) kWord, .bool true]) ?_ rfl ?_
    · refine results_op (a := 4) (b := 5) (t := 47) (ad := ⟨w.heap.size + 1, 0, none⟩) rfl rfl _ _ ?_
      go_simp
      try rfl
    · rw [HFD.out]
      exact FindE.fin (o := some ⟨nm, [kWord, kWord], kWord⟩) (B := W.heap.size) hW1 (World.ownsRow_lit (base := W.heap.size) (size := 1) (e := 9) W _ 2 (Nat.le_refl _) (by decide) rfl) HFX.out.2.2 _ _ _
  | false =>
    go_wp2_with fail
    go_loopw [6] (fun i wr => ∃ k : Nat, k ≤ n ∧ i = .int .i64 k ∧ Hid (∀ d ∈ ds.take k, (d.name.toList == nm.toList) = false) ∧ wr = W) (fun i _ => n - (intOf i).toNat)
    case atStart => exact ⟨0, Nat.zero_le _, rfl, Lib.hid (fun s hs => by simp at hs), rfl⟩
    case round =>
      obtain ⟨k, hk, rfl, HO, rfl⟩ := hrel
      by_cases hlt : k < n
      · obtain ⟨d, hd⟩ : ∃ d, ds[k]? = some d := ⟨_, List.getElem?_eq_getElem (by have := HN.out; omega)⟩
        obtain ⟨g, o, cc, a', n', c', ee, e0, e1, e2, hst⟩ := (HT.out _ (Below.refl _ _)).at hd
        have HD := Lib.hid hd; clear hd
        simp only [Value.slice.injEq] at ee
        obtain ⟨rfl, -, rfl⟩ := ee
        by_cases hq : d.name.toList = nm.toList
        · have hq1 : (d.name.toList == nm.toList) = true := by simpa using hq
          have HFD := Lib.hid (findD_at HBQ.out.symm HO.out HD.out hq1)
          have HST := Lib.hid hst; clear hst
          have hW1 : w.heap.size + 2 ≤ wr.heap.size := (Array.getElem?_eq_some_iff.1 HF.out.2.1).1
          obtain ⟨X1, hX1⟩ : ∃ X1, X1 = wr.alloc (.cells #[.string d.name, .slice a' n' c', .string d.res] 47) := ⟨_, rfl⟩
          obtain ⟨X2, hX2⟩ : ∃ X2, X2 = X1.alloc (.cells #[] 9) := ⟨_, rfl⟩
          have hz1 : X1.heap.size = wr.heap.size + 1 := by rw [hX1]; simp
          have hb1 : Below wr.heap.size wr X1 := by rw [hX1]; exact (Below.refl _ _).alloc (Nat.le_refl _) _
          have hb2 : Below wr.heap.size wr X2 := by rw [hX2]; exact hb1.alloc (by omega) _
          have r2 : X2.heap[wr.heap.size]? = some (.cells #[.string d.name, .slice a' n' c', .string d.res] 47 (0, 0)) := by rw [hX2, hX1]; exact heap_mid _ _ _ rfl
          have hlit := World.ownsRow_lit (base := wr.heap.size + 1) (size := 1) (e := 9) X1 #[] 0 (by omega) (by decide) rfl
          rw [← hX2, hz1] at hlit
          have HLIT := Lib.hid hlit; clear hlit
          have HSX := Lib.hid (HST.out.below hb2)
          have HFX := Lib.hid (HF.out.below hb2)
          have HDL := Lib.hid (HAL.out d (List.mem_of_getElem? HD.out))
          obtain ⟨hn', hsrc⟩ := HSX.out.src
          have HN' := Lib.hid hn'; clear hn'
          rcases hsrc with ⟨rfl, hargs⟩ | ⟨ad, rfl, hcells⟩
          · have h0 : n' = 0 := by rw [HN'.out, hargs]; rfl
            subst h0
            obtain ⟨Y, hY⟩ : ∃ Y, Y = (wr.alloc (.cells #[.string d.name, .slice (some ⟨wr.heap.size + 1, 0, none⟩) 0 0, .string d.res] 47)).alloc (.cells #[] 9) := ⟨_, rfl⟩
            have hbY : Below wr.heap.size wr Y := by rw [hY]; exact ((Below.refl _ _).alloc (Nat.le_refl _) _).alloc (by simp) _
            have rY : Y.heap[wr.heap.size]? = some (.cells #[.string d.name, .slice (some ⟨wr.heap.size + 1, 0, none⟩) 0 0, .string d.res] 47 (0, 0)) := by rw [hY]; exact heap_mid _ _ _ rfl
            have HFY := Lib.hid (HF.out.below hbY)
            have hlY := World.ownsRow_lit (base := wr.heap.size) (size := 1) (e := 9) (wr.alloc (.cells #[.string d.name, .slice (some ⟨wr.heap.size + 1, 0, none⟩) 0 0, .string d.res] 47)) #[] 0 (by simp) (by decide) rfl
            rw [← hY] at hlY
            have HLY := Lib.hid hlY; clear hlY
            obtain ⟨⟨z0, z1, z2⟩, f0, f1, f2⟩ := cells_of3 r2
            obtain ⟨⟨x0, x1, x2⟩, _⟩ := cells_of3 rY
            obtain ⟨⟨t0, t1, t2⟩, h0, h1, h2⟩ := cells_of3 HFY.out.2.1
            rw [hX2, hX1] at z0 z1 z2 f0 f1 f2
            rw [hY] at x0 x1 x2 t0 t1 t2 h0 h1 h2
            rw [hX2, hX1] at HLIT
            go_wp2_with (first | (at_builtin; refine wpList_append_none_cap _ rfl (.tmp 33) (.tmp 35) 24 rfl (wr.heap.size + 1) 9 i0 1 Try.underlying24 HI.out _ 0 [] rfl HLIT.out c' rfl ?_))
            (try simp only [Exit.inBlock, Exit.then])
            refine bodyPost_ret (v := .tuple #[ov d.name (.slice (some ⟨wr.heap.size + 1, 0, none⟩) 0 0) d.res, .bool true]) ?_ rfl ?_
            · refine results_op (a := 4) (b := 5) (t := 47) (ad := ⟨w.heap.size + 1, 0, none⟩) rfl rfl _ _ ?_
              go_simp
              try rfl
            · rw [HFD.out, ← hY]
              refine FindE.fin (o := some d) (B := wr.heap.size) hW1 ?_ HFY.out.2.2 _ _ _
              show Y.ownsRow wr.heap.size 9 1 _ d.args.length (d.args.map Value.string)
              rw [hargs]
              simpa using HLY.out
          · have HCE := Lib.hid hcells; clear hcells
            have HXB := Lib.hid (And.intro r2 HFX.out)
            have hsx2 : X2.heap.size = wr.heap.size + 2 := by rw [hX2]; simp [hz1]
            have HHB2 := Lib.hid hb2
            have hnb : n' ≤ 1048576 := by rw [HN'.out]; exact HDL.out
            have hnl : (d.args.map Value.string).length = n' * 1 := by rw [List.length_map, HN'.out]; omega
            obtain ⟨⟨z0, z1, z2⟩, f0, f1, f2⟩ := cells_of3 r2
            rw [hX2, hX1] at z0 z1 z2 f0 f1 f2
            have HLX : Hid ((((wr.alloc (.cells #[.string d.name, .slice (some ad) n' c', .string d.res] 47)).alloc (.cells #[] 9))).ownsRow (wr.heap.size + 1) 9 1 (.slice (some ⟨wr.heap.size + 1, 0, none⟩) 0 0) 0 []) := Lib.hid (by rw [← hX1, ← hX2]; exact HLIT.out)
            have HNL := Lib.hid hnl; clear hnl
            have HEQ : Hid ((wr.alloc (.cells #[.string d.name, .slice (some ad) n' c', .string d.res] 47)).alloc (.cells #[] 9) = X2) := Lib.hid (by rw [← hX1, ← hX2])
            clear hX1 hX2 hb1 hb2 r2 hz1
            go_wp2_with (first | (at_builtin; refine wpList_append_own _ rfl (.tmp 33) (.tmp 35) 24 rfl (wr.heap.size + 1) 9 i0 (.string ByteArray.empty) 1 16 Try.underlying24 HI.out HZ0.out HZ1.out HZ2.out rfl (by decide) _ _ _ rfl HLX.out ad n' c' (d.args.map Value.string) rfl HNL.out ?c1 ?c2 ?c3 ?c4 ?c5 ?_))
            case c1 => intro j a hj; rw [HEQ.out]; exact HCE.out j a hj
            case c2 => intro a _; rfl
            case c3 => unfold maxLen; omega
            case c4 => omega
            intro v' w1 hown hgrow _
            rw [HEQ.out] at hgrow
            obtain ⟨va, vc, rfl⟩ := own_formF hown
            have q1 : w1.heap[wr.heap.size]? = _ := (hgrow.block wr.heap.size (by omega) (by simp [Value.ownBlock])).trans HXB.out.1
            have q2 : w1.heap[w.heap.size + 1]? = _ := (hgrow.block (w.heap.size + 1) (by omega) (by simp [Value.ownBlock]; omega)).trans HXB.out.2.2.1
            have hbw : Below wr.heap.size wr w1 := HHB2.out.grown hgrow HHB2.out.size (fun j hj => by simp [Value.ownBlock] at hj; omega)
            have HBF := Lib.hid (HF.out.2.2.trans (hbw.mono HF.out.2.2.size))
            have hs1 := hbw.size
            obtain ⟨⟨x0, x1, x2⟩, p0, p1, p2⟩ := cells_of3 q1
            obtain ⟨⟨t0, t1, t2⟩, h0, h1, h2⟩ := cells_of3 q2
            have HOW := Lib.hid hown; clear hown hgrow hbw q1 q2 z0 z1 z2 f0 f1 f2
            go_wp2
            (try simp only [Exit.inBlock, Exit.then])
            refine bodyPost_ret (v := .tuple #[ov d.name (.slice va n' vc) d.res, .bool true]) ?_ rfl ?_
            · refine results_op (a := 4) (b := 5) (t := 47) (ad := ⟨w.heap.size + 1, 0, none⟩) rfl rfl _ _ ?_
              go_simp
              try rfl
            · rw [HFD.out]
              have hnn : n' = d.args.length := HN'.out
              refine FindE.fin (o := some d) (B := wr.heap.size + 1) (by omega) ?_ (HBF.out.setCell (by show w.heap.size ≤ wr.heap.size; omega) _) _ _ _
              show World.ownsRow _ (wr.heap.size + 1) 9 1 _ d.args.length (d.args.map Value.string)
              rw [← hnn]
              exact row_off HOW.out (by omega)
        · have hq1 : (d.name.toList == nm.toList) = false := by simpa using hq
          have HNX : Hid (∀ d ∈ ds.take (k + 1), (d.name.toList == nm.toList) = false) := Lib.hid (fun x hx => by
            rw [take_next ds k d HD.out] at hx
            rcases List.mem_append.1 hx with h | h
            · exact HO.out x h
            · simp at h; subst h; exact hq1)
          clear hq
          go_wp2
          go_roundw
          case rel => exact ⟨k + 1, by omega, by go_num, HNX, by first | rfl | trivial⟩
          case measure => simp [intOf]; omega
      · have HFD := Lib.hid (findD_none (ds := ds) HBQ.out.symm (fun x hx => HO.out x (by rw [show k = ds.length by have := HN.out; omega, List.take_length]; exact hx)))
        go_wp2
        (try simp only [Exit.inBlock, Exit.then])
        refine bodyPost_ret (v := .tuple #[ov ⟨#[]⟩ (.slice none 0 0) ⟨#[]⟩, .bool false]) ?_ rfl ?_
        · refine results_op (a := 4) (b := 5) (t := 47) (ad := ⟨w.heap.size + 1, 0, none⟩) rfl rfl _ _ ?_
          go_simp
          try rfl
        · rw [HFD.out]
          exact FindE.fin (o := none) (B := w.heap.size + 2) (Nat.le_refl _) ⟨rfl, Or.inl ⟨rfl, rfl⟩⟩ HF.out.2.2 _ _ _
end Go.Proofs.Ytcmhiindjponcaa
namespace Go.Proofs.Ytcmhiindjponcaa
open Go.RowKit

set_option maxRecDepth 100000 in
set_option maxHeartbeats 800000 in
theorem cloneS_none (cap : Nat) (w : World) : Calls Try.prog 69 #[.slice none 0 cap] w (CopyEnd [] w) := by
  have q22 : ∀ (w : World) (a : Option Addr) (n c n' c' : Nat), (binOp .eql 24 (.slice a n c) (.slice none n' c')).run Try.prog w = .ok (.bool a.isNone) w := fun w a n c n' c' => Lib.run_eql_slice_nil w _ _ a n c n' c' Try.underlying24
  go_enter Try.func69, Try.ntmps69
  go_wp2
  go_ret
  exact ⟨_, rfl, ⟨rfl, Or.inl ⟨rfl, rfl⟩⟩, Below.refl _ _⟩

set_option maxRecDepth 100000 in
set_option maxHeartbeats 800000 in
theorem cloneS_some (ad : Addr) (cap : Nat) (ps : List ByteArray) (w : World) (hl : ps.length ≤ 1048576) (hc : ∀ j p, ps[j]? = some p → w.cell? (ad.add j) = some (.string p)) :
    Calls Try.prog 69 #[.slice (some ad) ps.length cap] w (CopyEnd ps w) := by
  have q22 : ∀ (w : World) (a : Option Addr) (n c n' c' : Nat), (binOp .eql 24 (.slice a n c) (.slice none n' c')).run Try.prog w = .ok (.bool a.isNone) w := fun w a n c n' c' => Lib.run_eql_slice_nil w _ _ a n c n' c' Try.underlying24
  obtain ⟨i0, hi, hz0, hz1, hz2⟩ := info_parts infoStr'
  have HI := Lib.hid hi; clear hi
  have HZ0 := Lib.hid hz0; clear hz0
  have HZ1 := Lib.hid hz1; clear hz1
  have HZ2 := Lib.hid hz2; clear hz2
  have HC := Lib.hid hc; clear hc
  obtain ⟨m, hm⟩ : ∃ m, m = ps.length := ⟨_, rfl⟩
  rw [← hm] at hl ⊢
  have HM := Lib.hid hm; clear hm
  go_enter Try.func69, Try.ntmps69
  go_wp2_with (first | (at_builtin; refine wpList_append_own _ rfl (.tmp 5) (.tmp 6) 24 rfl w.heap.size 9 i0 (.string ByteArray.empty) 1 16 Try.underlying24 HI.out HZ0.out HZ1.out HZ2.out rfl (by decide) _ _ _ rfl (World.ownsRow_lit w #[] 0 (Nat.le_refl _) (by decide) rfl) ad m cap (ps.map Value.string) rfl (by simp [HM.out]) ?c1 ?c2 ?c3 ?c4 ?c5 ?_))
  case c1 =>
    intro j u hj
    rw [List.getElem?_map, Option.map_eq_some_iff] at hj
    obtain ⟨p, hp, rfl⟩ := hj
    exact Lib.cell?_alloc_some _ (HC.out j p hp)
  case c2 =>
    intro u hu
    obtain ⟨p, _, rfl⟩ := List.mem_map.1 hu
    rfl
  case c3 => unfold maxLen; omega
  case c4 => omega
  case c5 => simp
  intro v' w1 hown hgrow _
  have hb : Below w.heap.size w w1 := ((Below.refl _ _).alloc (Nat.le_refl _) _).grown hgrow (by simp) (fun k hk => by simp [Value.ownBlock] at hk; omega)
  have HO := Lib.hid hown; clear hown hgrow
  have HB := Lib.hid hb; clear hb
  go_wp2
  go_ret
  exact ⟨_, rfl, by rw [← HM.out]; simpa using HO.out, HB.out⟩

theorem cloneS_any (v : Value) (ps : List ByteArray) (w : World) (hl : ps.length ≤ 1048576) (hv : StrsAt w v ps) :
    Calls Try.prog 69 #[v] w (CopyEnd ps w) := by
  obtain ⟨a, cap, rfl, hv⟩ := hv
  rcases hv with rfl | ⟨b, o, rfl, hv⟩
  · cases a with
    | none =>
      exact cloneS_none cap w
    | some ad => exact cloneS_some ad cap [] w hl (fun j p hp => by simp at hp)
  · refine cloneS_some ⟨b, o, none⟩ cap ps w hl (fun j p hp => ?_)
    have e : (⟨b, o, none⟩ : Addr).add j = ⟨b, o + j, none⟩ := by
      unfold Addr.add
      split
      · rename_i h; subst h; rfl
      · rfl
    rw [e]; exact hv j p hp
end Go.Proofs.Ytcmhiindjponcaa
