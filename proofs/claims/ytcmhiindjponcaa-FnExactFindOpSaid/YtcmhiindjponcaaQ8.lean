/-
  spec.IndexOf and impl.IndexOf return the index of the first element that is the string, or -1; the law on IndexOf answers true at every list and string.
  impl.knownNames makes a set of a list's strings.
  impl.knownNames makes a set of a list's strings; spec.AllDistinct and impl.AllDistinct tell whether no string is there twice; the law on AllDistinct answers true at every list.
-/
import Derived.Test.YtcmhiindjponcaaQ4
import Derived.Test.YtcmhiindjponcaaQ7
import Derived.Test.YtcmhiindjponcaaQ1
import Derived.Test.YtcmhiindjponcaaQ2
import Derived.Shelf.Slices.Turned
import Derived.Maps.OwnSet
namespace Go.Proofs.Ytcmhiindjponcaa
open Go.RowKit

/-- The first k elements differ from s. -/
def NotYet (ps : List ByteArray) (s : ByteArray) (k : Nat) : Prop := ∀ j p, j < k → ps[j]? = some p → p ≠ s
theorem notYet_next {ps : List ByteArray} {s : ByteArray} {k : Nat} (h : NotYet ps s k) (p : ByteArray) (hp : ps[k]? = some p) (hne : p ≠ s) : NotYet ps s (k + 1) := by
  intro j q hj hq
  by_cases e : j = k
  · subst e; rw [hp] at hq; cases hq; exact hne
  · exact h j q (by omega) hq
theorem getD_at (ps : List ByteArray) (j : Nat) (hj : j < ps.length) : ps[j]? = some (ps.getD j ByteArray.empty) := by simp [List.getD, hj]
theorem idx_hit {ps : List ByteArray} {s : ByteArray} {k : Nat} (h : NotYet ps s k) (hk : ps[k]? = some s) : Lib.idxOfS ps s = k := by
  have hl := (List.getElem?_eq_some_iff.1 hk).1
  have := Lib.idxOfS_hit ps ps.length k s hl (Nat.le_refl _) (by simp [List.getD, hk]) (fun j hj => h j _ hj (getD_at ps j (by omega)))
  rwa [List.take_length] at this
theorem idx_miss {ps : List ByteArray} {s : ByteArray} (h : NotYet ps s ps.length) : Lib.idxOfS ps s = -1 := by
  have := Lib.idxOfS_miss ps ps.length s (fun j hj => h j _ hj (getD_at ps j hj))
  rwa [List.take_length] at this
/-- How an index answers: -1, or a place in the list. -/
theorem idx_range (ps : List ByteArray) (s : ByteArray) : -1 ≤ Lib.idxOfS ps s ∧ Lib.idxOfS ps s < ps.length ∨ ps = [] ∧ Lib.idxOfS ps s = -1 := by
  by_cases h0 : ps = []
  · right; subst h0; exact ⟨rfl, rfl⟩
  · left
    have hl : 0 < ps.length := List.length_pos_iff.2 h0
    by_cases h : ∃ k, NotYet ps s k ∧ ps[k]? = some s
    · obtain ⟨k, h1, h2⟩ := h
      have := (List.getElem?_eq_some_iff.1 h2).1
      rw [idx_hit h1 h2]; omega
    · have hn : ∀ k, NotYet ps s k := by
        intro k
        induction k with
        | zero => intro j p hj; omega
        | succ k ih =>
          cases hk : ps[k]? with
          | none => intro j p hj hp; by_cases e : j = k
                    · subst e; rw [hk] at hp; cases hp
                    · exact ih j p (by omega) hp
          | some p =>
            refine notYet_next ih p hk fun e => h ⟨k, ih, ?_⟩
            rw [hk, e]
      rw [idx_miss (hn _)]; omega

def IdxEnd (ps : List ByteArray) (s : ByteArray) (w : World) (e : Ending) (w' : World) : Prop := e = .returned (.int .i64 (Lib.idxOfS ps s)) ∧ w' = w

set_option maxRecDepth 100000 in
set_option maxHeartbeats 400000 in
theorem sIndex_empty (a : Option Addr) (cap : Nat) (s : ByteArray) (w : World) :
    Calls Try.prog 104 #[.slice a 0 cap, .string s] w (IdxEnd [] s w) := by
  go_enter Try.func104, Try.ntmps104
  go_wp2
  refine wp_loop_rounds 1 ?_
  rw [rounds_succ]
  go_wp2
  go_ret
  exact ⟨rfl, rfl⟩

set_option maxRecDepth 100000 in
set_option maxHeartbeats 400000 in
theorem sIndex_some (b o cap : Nat) (ps : List ByteArray) (s : ByteArray) (w : World) (hl : ps.length ≤ 9223372036854775807)
    (hc : ∀ i p, ps[i]? = some p → w.cell? ⟨b, o + i, none⟩ = some (.string p)) :
    Calls Try.prog 104 #[.slice (some ⟨b, o, none⟩) ps.length cap, .string s] w (IdxEnd ps s w) := by
  have HC := Lib.hid hc; clear hc
  obtain ⟨n, hn⟩ : ∃ n, n = ps.length := ⟨_, rfl⟩
  rw [← hn] at hl ⊢
  have HN := Lib.hid hn; clear hn
  go_enter Try.func104, Try.ntmps104
  go_wp2
  go_loop [5] (fun i => ∃ k : Nat, k ≤ n ∧ i = .int .i64 k ∧ Hid (NotYet ps s k)) (fun i => n - (intOf i).toNat)
  case atStart => exact ⟨0, Nat.zero_le _, rfl, Lib.hid (fun j p hj => by omega)⟩
  case round =>
    obtain ⟨k, hk, rfl, HY⟩ := hrel
    by_cases hlt : k < n
    · obtain ⟨p, hp⟩ : ∃ p, ps[k]? = some p := ⟨_, List.getElem?_eq_getElem (by have := HN.out; omega)⟩
      have hcell := HC.out k p hp
      have HP := Lib.hid hp; clear hp
      by_cases hq : p = s
      · have hb : (p.toList == s.toList) = true := (same_iff p s).2 hq
        have HQ := Lib.hid hq; clear hq
        go_wp2
        go_ret
        refine ⟨?_, rfl⟩
        rw [idx_hit HY.out (by rw [HP.out, HQ.out])]; rfl
      · have hb : (p.toList == s.toList) = false := by
          cases h : (p.toList == s.toList) with
          | false => rfl
          | true => exact absurd ((same_iff p s).1 h) hq
        have HQ := Lib.hid hq; clear hq
        go_wp2
        go_round
        case rel => exact ⟨k + 1, by omega, by go_num, Lib.hid (notYet_next HY.out p HP.out HQ.out)⟩
        case measure => simp [intOf]; omega
    · have HD : Hid (NotYet ps s ps.length) := Lib.hid (by
        have hkn : k = ps.length := by have := HN.out; omega
        rw [← hkn]; exact HY.out)
      go_wp2
      go_ret
      refine ⟨?_, rfl⟩
      rw [idx_miss HD.out]; rfl

theorem sIndex_any (v : Value) (ps : List ByteArray) (s : ByteArray) (w : World) (hl : ps.length ≤ 9223372036854775807) (hv : StrsAt w v ps) :
    Calls Try.prog 104 #[v, .string s] w (IdxEnd ps s w) := by
  obtain ⟨a, cap, rfl, hv⟩ := hv
  rcases hv with rfl | ⟨b, o, rfl, hv⟩
  · exact sIndex_empty a cap s w
  · exact sIndex_some b o cap ps s w hl hv

theorem lIndex_any (v : Value) (ps : List ByteArray) (s : ByteArray) (w : World) (hl : ps.length ≤ 9223372036854775807) (hv : StrsAt w v ps) :
    Calls Try.prog 118 #[v, .string s] w (IdxEnd ps s w) := by
  obtain ⟨a, cap, rfl, hv⟩ := hv
  rcases hv with rfl | ⟨b, o, rfl, hv⟩
  · exact Any.slices_Index_string_empty Try.lays109 a cap s w
  · have h := Any.slices_Index_string Try.lays109 b o ps.length cap ps s w (Nat.le_refl _) hl (fun j hj => hv j _ (getD_at ps j hj))
    rw [List.take_length] at h
    exact h

set_option maxRecDepth 100000 in
theorem iIndex_any (v : Value) (ps : List ByteArray) (s : ByteArray) (w : World) (hl : ps.length ≤ 9223372036854775807) (hv : StrsAt w v ps) :
    Calls Try.prog 99 #[v, .string s] w (IdxEnd ps s w) := by
  have HV := Lib.hid hv; clear hv
  go_enter Try.func99, Try.ntmps99
  go_wp2_with fail
  refine (lIndex_any v ps s _ hl HV.out).mono ?_
  rintro e w1 ⟨rfl, rfl⟩
  go_wp2
  go_ret
  exact ⟨rfl, rfl⟩

end Go.Proofs.Ytcmhiindjponcaa
namespace Go.Proofs.Ytcmhiindjponcaa
open Go.RowKit Go.Maps Go.WideMaps

theorem lawStr : Keyed Try.prog 9 := string_keyed Try.underlying9

/-- A set of the call's own that holds the strings ps. -/
def HoldsSet (w : World) (b : Nat) (ps : List ByteArray) : Prop := w.ownsMap Try.prog 9 (plainElem (H := Unit) Try.prog 4) b ps.length (Sset (H := Unit) ps)
def KnownEnd (ps : List ByteArray) (w : World) (e : Ending) (w' : World) : Prop :=
  ∃ b, e = .returned (.map (some b)) ∧ HoldsSet w' b ps ∧ w.heap.size ≤ b ∧ Below w.heap.size w w'

set_option maxRecDepth 100000 in
set_option maxHeartbeats 400000 in
theorem known_empty (a : Option Addr) (cap : Nat) (w : World) :
    Calls Try.prog 100 #[.slice a 0 cap] w (KnownEnd [] w) := by
  have hmm := @run_makeMap Try.prog
  go_enter Try.func100, Try.ntmps100
  go_wp2
  refine wp_loop_rounds 1 ?_
  rw [rounds_succ]
  go_wp2
  go_ret
  exact ⟨_, rfl, World.ownsMap_made _ _ _ _, Nat.le_refl _, (Below.refl _ _).alloc (Nat.le_refl _) _⟩

set_option maxRecDepth 100000 in
set_option maxHeartbeats 800000 in
theorem known_some (b o cap : Nat) (ps : List ByteArray) (w : World) (hl : ps.length ≤ 4194304) (hs : ∀ p ∈ ps, p.size ≤ maxLen)
    (hc : ∀ i p, ps[i]? = some p → w.cell? ⟨b, o + i, none⟩ = some (.string p)) :
    Calls Try.prog 100 #[.slice (some ⟨b, o, none⟩) ps.length cap] w (KnownEnd ps w) := by
  have HC := Lib.hid hc; clear hc
  have HS := Lib.hid hs; clear hs
  obtain ⟨n, hn⟩ : ∃ n, n = ps.length := ⟨_, rfl⟩
  rw [← hn] at hl ⊢
  have HN := Lib.hid hn; clear hn
  have hmm := @run_makeMap Try.prog
  go_enter Try.func100, Try.ntmps100
  go_wp2
  go_loopw [9] (fun i wr => ∃ k : Nat, k ≤ n ∧ i = .int .i64 k ∧ HoldsSet wr w.heap.size (ps.take k) ∧ Below w.heap.size w wr) (fun i _ => n - (intOf i).toNat)
  case atStart => exact ⟨0, Nat.zero_le _, rfl, World.ownsMap_made _ _ _ _, (Below.refl _ _).alloc (Nat.le_refl _) _⟩
  case round =>
    obtain ⟨k, hk, rfl, hown, hb⟩ := hrel
    have HB := Lib.hid hb; clear hb
    have HO := Lib.hid hown; clear hown
    by_cases hlt : k < n
    · obtain ⟨p, hp⟩ : ∃ p, ps[k]? = some p := ⟨_, List.getElem?_eq_getElem (by have := HN.out; omega)⟩
      have hc0 := HC.out k p hp
      have hcell : wr.cell? ⟨b, o + k, none⟩ = some (.string p) := by rw [HB.out.cell (World.block_lt_of_cell? w _ hc0)]; exact hc0
      clear hc0
      have hkey : keyOf Try.prog 9 (.string p) = some (.string (key p)) := WideMaps.keyOf_string_mk Try.underlying9 (HS.out p (List.mem_of_getElem? hp))
      have HK := Lib.hid hkey; clear hkey
      have hkl : (ps.take k).length = k := by rw [List.length_take]; have := HN.out; omega
      have HKL := Lib.hid hkl; clear hkl
      have hst : Sset (H := Unit) (ps.take (k + 1)) = (Sset (ps.take k)).put (.string (key p)) (.lit (.bool true)) := by rw [take_next ps k p hp, Sset_snoc]
      have HST := Lib.hid hst; clear hst hp
      go_wp2_with (first
        | (at_mapUpdate; refine wpList_mapUpdate_own _ rfl _ _ _ 147 rfl 9 4 lawStr Try.underlying147 (plainElem (H := Unit) Try.prog 4) w.heap.size (ps.take k).length _ rfl HO.out ?m1 _ _ _ rfl rfl HK.out _ [] (plainElem_bool Try.underlying4 true) ?_))
      case m1 => rw [HKL.out]; unfold maxLen; omega
      intro w1 hown1 hgrow1
      have hown2 : HoldsSet w1 w.heap.size (ps.take (k + 1)) := by
        unfold HoldsSet
        rw [HST.out]
        exact hown1.mono (by simp only [List.length_take]; have := HN.out; omega)
      have hb2 := HB.out.grown hgrow1 HB.out.size (fun j hj => by cases hj; exact Nat.le_refl _)
      have HO2 := Lib.hid hown2; clear hown1 hown2
      have HB2 := Lib.hid hb2; clear hb2 hgrow1
      go_wp2
      go_roundw
      case rel => exact ⟨k + 1, by omega, by go_num, HO2.out, HB2.out⟩
      case measure => simp [intOf]; omega
    · have HD : Hid (ps.take k = ps) := Lib.hid (by
        have hkn : k = ps.length := by have := HN.out; omega
        rw [hkn, List.take_length])
      go_wp2
      go_ret
      refine ⟨_, rfl, ?_, Nat.le_refl _, HB.out⟩
      have h := HO.out
      rw [HD.out] at h
      exact h

theorem known_any (v : Value) (ps : List ByteArray) (w : World) (hl : ps.length ≤ 4194304) (hs : ∀ p ∈ ps, p.size ≤ maxLen) (hv : StrsAt w v ps) :
    Calls Try.prog 100 #[v] w (KnownEnd ps w) := by
  obtain ⟨a, cap, rfl, hv⟩ := hv
  rcases hv with rfl | ⟨b, o, rfl, hv⟩
  · exact known_empty a cap w
  · exact known_some b o cap ps w hl hs hv
end Go.Proofs.Ytcmhiindjponcaa
namespace Go.Proofs.Ytcmhiindjponcaa
open Go.RowKit Go.Maps Go.WideMaps

/-- A call that answers whether X holds and leaves what was there. -/
def TellsB (X : Prop) (w : World) (e : Ending) (w' : World) : Prop := ∃ b, e = .returned (.bool b) ∧ (b = true ↔ X) ∧ Below w.heap.size w w'

set_option maxRecDepth 100000 in
set_option maxHeartbeats 400000 in
theorem iDistinct_any (v : Value) (ps : List ByteArray) (w : World) (hl : ps.length ≤ 1048576) (hs : ∀ p ∈ ps, p.size ≤ maxLen) (hv : StrsAt w v ps) :
    Calls Try.prog 58 #[v] w (TellsB ps.Nodup w) := by
  have hk := known_any v ps w (by omega) hs hv
  have HK := Lib.hid hk; clear hk
  obtain ⟨a, cap, rfl, _⟩ := hv
  go_enter Try.func58, Try.ntmps58
  go_wp2_with fail
  refine HK.out.mono ?_
  rintro e w1 ⟨m, rfl, hown, _, hb⟩
  have HB := Lib.hid hb; clear hb
  have HO := Lib.hid hown; clear hown
  go_wp2_with (first
    | (at_len; refine wpList_len_own _ rfl _ 147 rfl 9 4 Try.underlying147 (plainElem (H := Unit) Try.prog 4) m ps.length (Sset ps) rfl HO.out ?_))
  go_wp2
  go_ret
  refine ⟨_, rfl, ?_, HB.out⟩
  rw [← size_Sset (H := Unit) ps]
  simp
  omega

theorem firsts_step {ps : List ByteArray} {k : Nat} {p : ByteArray} (h : ∀ j q, j < k → ps[j]? = some q → NotYet ps q j) (hp : ps[k]? = some p) (hn : NotYet ps p k) :
    ∀ j q, j < k + 1 → ps[j]? = some q → NotYet ps q j := by
  intro j q hj hq
  by_cases e : j = k
  · subst e; rw [hp] at hq; cases hq; exact hn
  · exact h j q (by omega) hq
theorem nodup_firsts (ps : List ByteArray) : (∀ j q, j < ps.length → ps[j]? = some q → NotYet ps q j) ↔ ps.Nodup := by
  rw [List.Nodup, List.pairwise_iff_getElem]
  constructor
  · intro h i j hi hj hij e
    exact h j ps[j] hj (List.getElem?_eq_getElem hj) i ps[i] hij (List.getElem?_eq_getElem hi) e
  · intro h j q hj hq i p hij hp e
    have h1 := (List.getElem?_eq_some_iff.1 hq)
    have h2 := (List.getElem?_eq_some_iff.1 hp)
    obtain ⟨a1, a2⟩ := h1
    obtain ⟨b1, b2⟩ := h2
    exact h i j b1 a1 hij (by rw [a2, b2, e])
theorem idx_is {ps : List ByteArray} {p : ByteArray} {k : Nat} (hp : ps[k]? = some p) : Lib.idxOfS ps p = k ↔ NotYet ps p k := by
  constructor
  · intro h j q hj hq e
    subst e
    -- the first place is at most j
    have hl := (List.getElem?_eq_some_iff.1 hq).1
    have : ∃ i, i ≤ j ∧ NotYet ps q i ∧ ps[i]? = some q := by
      have aux : ∀ m i, i + m = j → NotYet ps q i → ∃ i, i ≤ j ∧ NotYet ps q i ∧ ps[i]? = some q := by
        intro m
        induction m with
        | zero => intro i hi hn; exact ⟨i, by omega, hn, by rw [show i = j by omega]; exact hq⟩
        | succ m ih =>
          intro i hi hn
          obtain ⟨r, hr⟩ : ∃ r, ps[i]? = some r := ⟨_, List.getElem?_eq_getElem (by omega)⟩
          by_cases e : r = q
          · exact ⟨i, by omega, hn, by rw [hr, e]⟩
          · exact ih (i + 1) (by omega) (notYet_next hn r hr e)
      exact aux j 0 (by omega) (fun a b hab => by omega)
    obtain ⟨i, hi, h1, h2⟩ := this
    rw [idx_hit h1 h2] at h
    omega
  · intro h; exact idx_hit h hp

set_option maxRecDepth 100000 in
set_option maxHeartbeats 400000 in
theorem sDistinct_empty (a : Option Addr) (cap : Nat) (w : World) :
    Calls Try.prog 61 #[.slice a 0 cap] w (TellsB ([] : List ByteArray).Nodup w) := by
  go_enter Try.func61, Try.ntmps61
  go_wp2
  refine wp_loop_rounds 1 ?_
  rw [rounds_succ]
  go_wp2
  go_ret
  exact ⟨true, rfl, by simp, Below.refl _ _⟩

set_option maxRecDepth 100000 in
set_option maxHeartbeats 800000 in
theorem sDistinct_some (b o cap : Nat) (ps : List ByteArray) (w : World) (hl : ps.length ≤ 9223372036854775807)
    (hc : ∀ i p, ps[i]? = some p → w.cell? ⟨b, o + i, none⟩ = some (.string p)) :
    Calls Try.prog 61 #[.slice (some ⟨b, o, none⟩) ps.length cap] w (TellsB ps.Nodup w) := by
  have hi : ∀ s, Calls Try.prog 104 #[.slice (some ⟨b, o, none⟩) ps.length cap, .string s] w (IdxEnd ps s w) := fun s => sIndex_some b o cap ps s w hl hc
  have HI := Lib.hid hi; clear hi
  have HC := Lib.hid hc; clear hc
  obtain ⟨n, hn⟩ : ∃ n, n = ps.length := ⟨_, rfl⟩
  rw [← hn] at hl HI ⊢
  have HN := Lib.hid hn; clear hn
  go_enter Try.func61, Try.ntmps61
  go_wp2
  go_loop [3] (fun i => ∃ k : Nat, k ≤ n ∧ i = .int .i64 k ∧ Hid (∀ j q, j < k → ps[j]? = some q → NotYet ps q j)) (fun i => n - (intOf i).toNat)
  case atStart => exact ⟨0, Nat.zero_le _, rfl, Lib.hid (fun j p hj => by omega)⟩
  case round =>
    obtain ⟨k, hk, rfl, HF⟩ := hrel
    by_cases hlt : k < n
    · obtain ⟨p, hp⟩ : ∃ p, ps[k]? = some p := ⟨_, List.getElem?_eq_getElem (by have := HN.out; omega)⟩
      have hcell := HC.out k p hp
      have HP := Lib.hid hp; clear hp
      go_wp2_with fail
      refine (HI.out p).mono ?_
      rintro e w1 ⟨rfl, rfl⟩
      by_cases hq : Lib.idxOfS ps p = k
      · have hb : (Lib.idxOfS ps p != (k : Int)) = false := by simpa using hq
        have HQ := Lib.hid hq; clear hq
        go_wp2
        go_round
        case rel => exact ⟨k + 1, by omega, by go_num, Lib.hid (firsts_step HF.out HP.out ((idx_is HP.out).1 HQ.out))⟩
        case measure => simp [intOf]; omega
      · have hb : (Lib.idxOfS ps p != (k : Int)) = true := by simpa using hq
        have HQ := Lib.hid hq; clear hq
        go_wp2
        go_ret
        refine ⟨false, rfl, ⟨fun h => by simp at h, fun h => ?_⟩, Below.refl _ _⟩
        exact absurd ((idx_is HP.out).2 ((nodup_firsts ps).2 h k p (by have := HN.out; omega) HP.out)) HQ.out
    · have HD : Hid (∀ j q, j < ps.length → ps[j]? = some q → NotYet ps q j) := Lib.hid (by
        have hkn : k = ps.length := by have := HN.out; omega
        rw [← hkn]; exact HF.out)
      go_wp2
      go_ret
      exact ⟨true, rfl, ⟨fun _ => (nodup_firsts ps).1 HD.out, fun _ => rfl⟩, Below.refl _ _⟩

theorem sDistinct_any (v : Value) (ps : List ByteArray) (w : World) (hl : ps.length ≤ 9223372036854775807) (hv : StrsAt w v ps) :
    Calls Try.prog 61 #[v] w (TellsB ps.Nodup w) := by
  obtain ⟨a, cap, rfl, hv⟩ := hv
  rcases hv with rfl | ⟨b, o, rfl, hv⟩
  · exact sDistinct_empty a cap w
  · exact sDistinct_some b o cap ps w hl hv

theorem both_same {X : Prop} {a b : Bool} (h : a = true ↔ X) (k : b = true ↔ X) : (a == b) = true ∧ (a != b) = false := by
  have : a = b := by cases a <;> cases b <;> simp_all
  subst this; simp

theorem size_of_total {ps : List ByteArray} {m : Nat} (h : ps.length + total ps ≤ m) : ∀ p ∈ ps, p.size ≤ m := by
  intro p hp
  obtain ⟨k, hk⟩ := List.mem_iff_getElem?.1 hp
  have h1 := take_next ps k p hk
  have h2 := total_take_le ps (k + 1)
  rw [h1, total_snoc] at h2
  omega

end Go.Proofs.Ytcmhiindjponcaa
