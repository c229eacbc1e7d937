/-
  spec.IndexOf and impl.IndexOf return the index of the first element that is the string, or -1; the law on IndexOf answers true at every list and string.
-/
import Derived.Test.YtmnagbknmdagaaaStrs
import Derived.Test.YtmnagbknmdagaaaNamesM
import Derived.Test.YtmnagbknmdagaaaLaysN
import Derived.Shelf.Slices.Turned
namespace Go.Proofs.Ytmnagbknmdagaaa
open Go.RowKit

/-- The first k elements differ from s. -/
def NotYet (ps : List ByteArray) (s : ByteArray) (k : Nat) : Prop := ∀ j p, j < k → ps[j]? = some p → p ≠ s
theorem notYet_next {ps : List ByteArray} {s : ByteArray} {k : Nat} (h : NotYet ps s k) (p : ByteArray) (hp : ps[k]? = some p) (hne : p ≠ s) : NotYet ps s (k + 1) := by
  intro j q hj hq
  by_cases e : j = k
  · subst e; rw [hp] at hq; cases hq; exact hne
  · exact h j q (by omega) hq
theorem getD_at (ps : List ByteArray) (j : Nat) (hj : j < ps.length) : ps[j]? = some (ps.getD j ByteArray.empty) := by simp [List.getD, hj]
theorem idx_hit {ps : List ByteArray} {s : ByteArray} {k : Nat} (h : NotYet ps s k) (hk : ps[k]? = some s) : Lib.idxOfS ps s = k := by
  have hl := (List.getElem?_eq_some_iff.1 hk).1
  have := Lib.idxOfS_hit ps ps.length k s hl (Nat.le_refl _) (by simp [List.getD, hk]) (fun j hj => h j _ hj (getD_at ps j (by omega)))
  rwa [List.take_length] at this
theorem idx_miss {ps : List ByteArray} {s : ByteArray} (h : NotYet ps s ps.length) : Lib.idxOfS ps s = -1 := by
  have := Lib.idxOfS_miss ps ps.length s (fun j hj => h j _ hj (getD_at ps j hj))
  rwa [List.take_length] at this
/-- How an index answers: -1, or a place in the list. -/
theorem idx_range (ps : List ByteArray) (s : ByteArray) : -1 ≤ Lib.idxOfS ps s ∧ Lib.idxOfS ps s < ps.length ∨ ps = [] ∧ Lib.idxOfS ps s = -1 := by
  by_cases h0 : ps = []
  · right; subst h0; exact ⟨rfl, rfl⟩
  · left
    have hl : 0 < ps.length := List.length_pos_iff.2 h0
    by_cases h : ∃ k, NotYet ps s k ∧ ps[k]? = some s
    · obtain ⟨k, h1, h2⟩ := h
      have := (List.getElem?_eq_some_iff.1 h2).1
      rw [idx_hit h1 h2]; omega
    · have hn : ∀ k, NotYet ps s k := by
        intro k
        induction k with
        | zero => intro j p hj; omega
        | succ k ih =>
          cases hk : ps[k]? with
          | none => intro j p hj hp; by_cases e : j = k
                    · subst e; rw [hk] at hp; cases hp
                    · exact ih j p (by omega) hp
          | some p =>
            refine notYet_next ih p hk fun e => h ⟨k, ih, ?_⟩
            rw [hk, e]
      rw [idx_miss (hn _)]; omega

def IdxEnd (ps : List ByteArray) (s : ByteArray) (w : World) (e : Ending) (w' : World) : Prop := e = .returned (.int .i64 (Lib.idxOfS ps s)) ∧ w' = w

set_option maxRecDepth 100000 in
set_option maxHeartbeats 400000 in
theorem sIndex_empty (a : Option Addr) (cap : Nat) (s : ByteArray) (w : World) :
    Calls Try.prog 24 #[.slice a 0 cap, .string s] w (IdxEnd [] s w) := by
  go_enter Try.func24, Try.ntmps24
  go_wp2
  refine wp_loop_rounds 1 ?_
  rw [rounds_succ]
  go_wp2
  go_ret
  exact ⟨rfl, rfl⟩

set_option maxRecDepth 100000 in
set_option maxHeartbeats 400000 in
theorem sIndex_some (b o cap : Nat) (ps : List ByteArray) (s : ByteArray) (w : World) (hl : ps.length ≤ 9223372036854775807)
    (hc : ∀ i p, ps[i]? = some p → w.cell? ⟨b, o + i, none⟩ = some (.string p)) :
    Calls Try.prog 24 #[.slice (some ⟨b, o, none⟩) ps.length cap, .string s] w (IdxEnd ps s w) := by
  have HC := Lib.hid hc; clear hc
  obtain ⟨n, hn⟩ : ∃ n, n = ps.length := ⟨_, rfl⟩
  rw [← hn] at hl ⊢
  have HN := Lib.hid hn; clear hn
  go_enter Try.func24, Try.ntmps24
  go_wp2
  go_loop [5] (fun i => ∃ k : Nat, k ≤ n ∧ i = .int .i64 k ∧ Hid (NotYet ps s k)) (fun i => n - (intOf i).toNat)
  case atStart => exact ⟨0, Nat.zero_le _, rfl, Lib.hid (fun j p hj => by omega)⟩
  case round =>
    obtain ⟨k, hk, rfl, HY⟩ := hrel
    by_cases hlt : k < n
    · obtain ⟨p, hp⟩ : ∃ p, ps[k]? = some p := ⟨_, List.getElem?_eq_getElem (by have := HN.out; omega)⟩
      have hcell := HC.out k p hp
      have HP := Lib.hid hp; clear hp
      by_cases hq : p = s
      · have hb : (p.toList == s.toList) = true := (same_iff p s).2 hq
        have HQ := Lib.hid hq; clear hq
        go_wp2
        go_ret
        refine ⟨?_, rfl⟩
        rw [idx_hit HY.out (by rw [HP.out, HQ.out])]; rfl
      · have hb : (p.toList == s.toList) = false := by
          cases h : (p.toList == s.toList) with
          | false => rfl
          | true => exact absurd ((same_iff p s).1 h) hq
        have HQ := Lib.hid hq; clear hq
        go_wp2
        go_round
        case rel => exact ⟨k + 1, by omega, by go_num, Lib.hid (notYet_next HY.out p HP.out HQ.out)⟩
        case measure => simp [intOf]; omega
    · have HD : Hid (NotYet ps s ps.length) := Lib.hid (by
        have hkn : k = ps.length := by have := HN.out; omega
        rw [← hkn]; exact HY.out)
      go_wp2
      go_ret
      refine ⟨?_, rfl⟩
      rw [idx_miss HD.out]; rfl

theorem sIndex_any (v : Value) (ps : List ByteArray) (s : ByteArray) (w : World) (hl : ps.length ≤ 9223372036854775807) (hv : StrsAt w v ps) :
    Calls Try.prog 24 #[v, .string s] w (IdxEnd ps s w) := by
  obtain ⟨a, cap, rfl, hv⟩ := hv
  rcases hv with rfl | ⟨b, o, rfl, hv⟩
  · exact sIndex_empty a cap s w
  · exact sIndex_some b o cap ps s w hl hv

theorem lIndex_any (v : Value) (ps : List ByteArray) (s : ByteArray) (w : World) (hl : ps.length ≤ 9223372036854775807) (hv : StrsAt w v ps) :
    Calls Try.prog 36 #[v, .string s] w (IdxEnd ps s w) := by
  obtain ⟨a, cap, rfl, hv⟩ := hv
  rcases hv with rfl | ⟨b, o, rfl, hv⟩
  · exact Any.slices_Index_string_empty Try.lays109 a cap s w
  · have h := Any.slices_Index_string Try.lays109 b o ps.length cap ps s w (Nat.le_refl _) hl (fun j hj => hv j _ (getD_at ps j hj))
    rw [List.take_length] at h
    exact h

set_option maxRecDepth 100000 in
theorem iIndex_any (v : Value) (ps : List ByteArray) (s : ByteArray) (w : World) (hl : ps.length ≤ 9223372036854775807) (hv : StrsAt w v ps) :
    Calls Try.prog 17 #[v, .string s] w (IdxEnd ps s w) := by
  have HV := Lib.hid hv; clear hv
  go_enter Try.func17, Try.ntmps17
  go_wp2_with fail
  refine (lIndex_any v ps s _ hl HV.out).mono ?_
  rintro e w1 ⟨rfl, rfl⟩
  go_wp2
  go_ret
  exact ⟨rfl, rfl⟩

set_option maxRecDepth 100000 in
set_option maxHeartbeats 800000 in
theorem exIndex_any (v : Value) (ps : List ByteArray) (s : ByteArray) (w : World) (hpl : ps.length ≤ 9223372036854775807) (hps : ∀ p ∈ ps, p.size ≤ 9223372036854775807) (hv : StrsAt w v ps) :
    Calls Try.prog 6 #[v, .string s] w (TrueEnd w) := by
  have HV := Lib.hid hv; clear hv
  by_cases hs : 1048576 < s.size
  · go_enter Try.func6, Try.ntmps6
    go_wp2
    go_ret
    exact ⟨rfl, Below.refl _ _⟩
  · have hs2 : s.size ≤ 1048576 := by omega
    go_enter Try.func6, Try.ntmps6
    go_wp2_with fail
    refine (sz_any 1048576 v ps _ (by omega) (by omega) hpl hps HV.out).mono ?_
    rintro e w1 ⟨r, rfl, rfl, hr1, hr2⟩
    have HR := Lib.hid hr2; clear hr2
    by_cases hr : r < 0
    · go_wp2
      go_ret
      exact ⟨rfl, Below.refl _ _⟩
    · have hl := HR.out (by omega)
      have hl2 : ps.length + total ps ≤ 1048576 := by omega
      have HL := Lib.hid hl2; clear hl hl2
      go_wp2_with fail
      refine (copy_any v ps _ (by have := HL.out; omega) HV.out).mono ?_
      rintro e w2 ⟨v1, rfl, hown1, hb2⟩
      have HO1 := Lib.hid hown1; clear hown1
      have HB2 := Lib.hid hb2; clear hb2
      go_wp2_with fail
      refine (sIndex_any v1 ps s _ hpl (StrsAt.of_owns HO1.out)).mono ?_
      rintro e w3 ⟨rfl, rfl⟩
      go_wp2_with fail
      refine (copy_any v ps _ (by have := HL.out; omega) (HV.out.below HB2.out)).mono ?_
      rintro e w4 ⟨v2, rfl, hown2, hb4⟩
      have HO2 := Lib.hid hown2; clear hown2
      have HB4 := Lib.hid (HB2.out.trans (hb4.mono HB2.out.size)); clear hb4
      go_wp2_with fail
      refine (iIndex_any v2 ps s _ hpl (StrsAt.of_owns HO2.out)).mono ?_
      rintro e w5 ⟨rfl, rfl⟩
      have hq : (Lib.idxOfS ps s != Lib.idxOfS ps s) = false := by simp
      go_wp2_with fail
      refine (copy_any v ps _ (by have := HL.out; omega) (HV.out.below HB4.out)).mono ?_
      rintro e w6 ⟨v3, rfl, hown3, hb6⟩
      have HO3 := Lib.hid hown3; clear hown3
      have HO2c := Lib.hid (keep_own HO2.out hb6)
      have HB6 := Lib.hid (HB4.out.trans (hb6.mono HB4.out.size)); clear hb6
      go_wp2_with fail
      refine (eqStrs_any v2 v3 ps ps _ (by have := HL.out; omega) (StrsAt.of_owns HO2c.out) (StrsAt.of_owns HO3.out) rfl).mono ?_
      rintro e w7 ⟨rfl, q, rfl⟩
      have HB7 := Lib.hid (HB6.out.trans ((below_q w6 q).mono HB6.out.size))
      go_wp2
      go_ret
      exact ⟨rfl, HB7.out⟩
end Go.Proofs.Ytmnagbknmdagaaa
