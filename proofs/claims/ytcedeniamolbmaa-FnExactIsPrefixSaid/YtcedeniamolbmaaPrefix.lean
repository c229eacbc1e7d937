/-
  spec.IsPrefix and impl.IsPrefix: whether a list of integers begins with another; the law on IsPrefix answers true at every two lists.
-/
import Derived.Test.YtcedeniamolbmaaInts
namespace Go.Proofs.Ytcedeniamolbmaa
open Go.RowKit

/-- The second list begins with the first. -/
def prefB (ps qs : List Int) : Bool := decide (ps.length ≤ qs.length ∧ qs.take ps.length = ps)
theorem prefB_yes {ps qs : List Int} (h : ps.length ≤ qs.length) (h2 : qs.take ps.length = ps) : prefB ps qs = true := by simp [prefB, h, h2]
theorem prefB_no {ps qs : List Int} {k : Nat} {p : Int} (hp : ps[k]? = some p) (h : qs[k]? ≠ some p) : prefB ps qs = false := by
  unfold prefB
  rw [decide_eq_false_iff_not]
  rintro ⟨_, h2⟩
  have hk := (List.getElem?_eq_some_iff.1 hp).1
  rw [← h2, List.getElem?_take, if_pos hk] at hp
  exact h hp
def BoolB (b : Bool) (w : World) (e : Ending) (w' : World) : Prop := e = .returned (.bool b) ∧ Below w.heap.size w w'
theorem take_next {ps qs : List Int} {k : Nat} {p q : Int} (h : qs.take k = ps.take k) (hp : ps[k]? = some p) (hq : qs[k]? = some q) (e : p = q) : qs.take (k + 1) = ps.take (k + 1) := by
  rw [takeI ps k p hp, takeI qs k q hq, h, e]

set_option maxRecDepth 100000 in
set_option maxHeartbeats 800000 in
theorem sPrefix_any (v u : Value) (ps qs : List Int) (w : World) (hl : ps.length ≤ 4194304) (hl2 : qs.length ≤ 4194304) (h1 : IntsAt w v ps) (h2 : IntsAt w u qs) :
    Calls Try.prog 28 #[v, u] w (BoolB (prefB ps qs) w) := by
  obtain ⟨a, cap, rfl⟩ := h1.slice
  obtain ⟨a', cap', rfl⟩ := h2.slice
  have H1 := Lib.hid h1; clear h1
  have H2 := Lib.hid h2; clear h2
  obtain ⟨n, hn⟩ : ∃ n, n = ps.length := ⟨_, rfl⟩
  obtain ⟨m, hm⟩ : ∃ m, m = qs.length := ⟨_, rfl⟩
  rw [← hn] at hl H1 ⊢
  rw [← hm] at hl2 H2 ⊢
  have HN := Lib.hid hn; clear hn
  have HM := Lib.hid hm; clear hm
  go_enter Try.func28, Try.ntmps28
  go_wp2
  go_loopw [5] (fun i wr => ∃ k q : Nat, k ≤ n ∧ k ≤ m ∧ i = .int .i64 k ∧ wr = w.drewN q ∧ Hid (qs.take k = ps.take k)) (fun i _ => n - (intOf i).toNat)
  case atStart => exact ⟨0, 0, Nat.zero_le _, Nat.zero_le _, rfl, rfl, Lib.hid rfl⟩
  case round =>
    obtain ⟨k, q, hk, hkm, rfl, rfl, HT⟩ := hrel
    by_cases hlt : k < n
    · obtain ⟨x, hx⟩ : ∃ x, ps[k]? = some x := ⟨_, List.getElem?_eq_getElem (by have := HN.out; omega)⟩
      by_cases hlt2 : k < m
      · obtain ⟨y, hy⟩ : ∃ y, qs[k]? = some y := ⟨_, List.getElem?_eq_getElem (by have := HM.out; omega)⟩
        obtain ⟨b, o, rfl, hc1⟩ := H1.out.at hx
        obtain ⟨b', o', rfl, hc2⟩ := H2.out.at hy
        have HX := Lib.hid (And.intro hx hy); clear hx hy
        by_cases hxy : x = y
        · have HE := Lib.hid (take_next HT.out HX.out.1 HX.out.2 hxy)
          have hne : (x != y) = false := by simp [hxy]
          clear hxy
          go_wp2
          go_quiet (fail)
          go_wp2
          go_roundw
          case rel => exact ⟨k + 1, _, by omega, by omega, by go_num, rfl, HE⟩
          case measure => simp [intOf]; omega
        · have hne : (x != y) = true := by simp [hxy]
          have HF := Lib.hid (prefB_no HX.out.1 (by rw [HX.out.2]; intro e; exact hxy (by cases e; rfl))); clear hxy
          go_wp2
          go_quiet (fail)
          go_wp2
          go_ret
          exact ⟨by rw [HF.out]; rfl, by first | exact (below_q w q).trans (below_q (w.drewN q) _) | exact below_q w _⟩
      · have hy : qs[k]? = none := List.getElem?_eq_none (by have := HM.out; omega)
        have HF := Lib.hid (prefB_no hx (by rw [hy]; simp)); clear hx hy
        go_wp2
        go_quiet (fail)
        go_wp2
        go_ret
        exact ⟨by rw [HF.out]; rfl, by first | exact (below_q w q).trans (below_q (w.drewN q) _) | exact below_q w _⟩
    · have hkn : k = n := by omega
      have HF : Hid (prefB ps qs = true) := Lib.hid (by
        have h := HT.out
        rw [hkn, HN.out, List.take_length] at h
        exact prefB_yes (by have := HN.out; have := HM.out; omega) h)
      clear hkn
      go_wp2
      go_ret
      exact ⟨by rw [HF.out]; rfl, below_q w q⟩

set_option maxRecDepth 100000 in
set_option maxHeartbeats 800000 in
/-- slices.Equal over integers. -/
theorem lEqual_any (v u : Value) (ps qs : List Int) (w : World) (hl : ps.length ≤ 4194304) (hlq : qs.length = ps.length) (h1 : IntsAt w v ps) (h2 : IntsAt w u qs) :
    Calls Try.prog 49 #[v, u] w (BoolB (decide (qs = ps)) w) := by
  obtain ⟨a, cap, rfl⟩ := h1.slice
  obtain ⟨a', cap', rfl⟩ := h2.slice
  have H1 := Lib.hid h1; clear h1
  have H2 := Lib.hid h2; clear h2
  obtain ⟨n, hn⟩ : ∃ n, n = ps.length := ⟨_, rfl⟩
  rw [hlq, ← hn] at H2 ⊢
  rw [← hn] at hl H1
  have HN := Lib.hid hn; clear hn
  have HLQ := Lib.hid hlq; clear hlq
  go_enter Try.func49, Try.ntmps49
  go_wp2
  go_loopw [13] (fun i wr => ∃ k q : Nat, k ≤ n ∧ i = .int .i64 k ∧ wr = w.drewN q ∧ Hid (qs.take k = ps.take k)) (fun i _ => n - (intOf i).toNat)
  case atStart => exact ⟨0, 0, Nat.zero_le _, rfl, rfl, Lib.hid rfl⟩
  case round =>
    obtain ⟨k, q, hk, rfl, rfl, HT⟩ := hrel
    by_cases hlt : k < n
    · obtain ⟨x, hx⟩ : ∃ x, ps[k]? = some x := ⟨_, List.getElem?_eq_getElem (by have := HN.out; omega)⟩
      obtain ⟨y, hy⟩ : ∃ y, qs[k]? = some y := ⟨_, List.getElem?_eq_getElem (by have := HN.out; have := HLQ.out; omega)⟩
      obtain ⟨b, o, rfl, hc1⟩ := H1.out.at hx
      obtain ⟨b', o', rfl, hc2⟩ := H2.out.at hy
      have HX := Lib.hid (And.intro hx hy); clear hx hy
      by_cases hxy : x = y
      · have HE := Lib.hid (take_next HT.out HX.out.1 HX.out.2 hxy)
        have hne : (x != y) = false := by simp [hxy]
        clear hxy
        go_wp2
        go_quiet (fail)
        go_wp2
        go_roundw
        case rel => exact ⟨k + 1, _, by omega, by go_num, rfl, HE⟩
        case measure => simp [intOf]; omega
      · have hne : (x != y) = true := by simp [hxy]
        have HF : Hid (decide (qs = ps) = false) := Lib.hid (decide_eq_false (fun e => hxy (by have h1 := HX.out.1; have h2 := HX.out.2; rw [e, h1] at h2; cases h2; rfl))); clear hxy
        go_wp2
        go_quiet (fail)
        go_wp2
        go_ret
        exact ⟨by rw [HF.out]; rfl, by first | exact (below_q w q).trans (below_q (w.drewN q) _) | exact below_q w _⟩
    · have hkn : k = n := by omega
      have HF : Hid (decide (qs = ps) = true) := Lib.hid (by
        have h := HT.out
        rw [hkn, List.take_of_length_le (by have := HN.out; have := HLQ.out; omega), List.take_of_length_le (by have := HN.out; omega)] at h
        exact decide_eq_true h)
      clear hkn
      go_wp2
      go_ret
      exact ⟨by rw [HF.out]; rfl, below_q w q⟩

theorem IntsAt.head {w : World} {a : Option Addr} {n cap : Nat} {qs : List Int} (h : IntsAt w (.slice a n cap) qs) {k : Nat} (hk : k ≤ n) : IntsAt w (.slice a k cap) (qs.take k) := by
  have hc := h.cap
  have hl := h.len
  refine ⟨a, cap, by rw [List.length_take, Nat.min_eq_left (by omega)], by rw [List.length_take]; omega, ?_⟩
  obtain ⟨a', c', e, _, hh⟩ := h
  cases e
  rcases hh with rfl | ⟨b, o, e2, hx⟩
  · left; simp
  · refine Or.inr ⟨b, o, e2, fun i p hp => ?_⟩
    rw [List.getElem?_take] at hp
    split at hp
    · exact hx i p hp
    · cases hp

set_option maxRecDepth 100000 in
set_option maxHeartbeats 800000 in
theorem iPrefix_any (v u : Value) (ps qs : List Int) (w : World) (hl : ps.length ≤ 4194304) (hl2 : qs.length ≤ 4194304) (h1 : IntsAt w v ps) (h2 : IntsAt w u qs) :
    Calls Try.prog 29 #[v, u] w (BoolB (prefB ps qs) w) := by
  obtain ⟨a, cap, rfl⟩ := h1.slice
  obtain ⟨a', cap', rfl⟩ := h2.slice
  have hcap := h2.cap
  by_cases hlt : ps.length ≤ qs.length
  · have HC := Lib.hid (lEqual_any _ _ ps (qs.take ps.length) w hl (by rw [List.length_take]; omega) h1 (h2.head hlt))
    have HF : Hid (decide (qs.take ps.length = ps) = prefB ps qs) := Lib.hid (by unfold prefB; simp [hlt])
    clear h1 h2
    obtain ⟨n, hn⟩ : ∃ n, n = ps.length := ⟨_, rfl⟩
    obtain ⟨m, hm⟩ : ∃ m, m = qs.length := ⟨_, rfl⟩
    rw [← hn] at hl hlt HC HF ⊢
    rw [← hm] at hl2 hcap hlt ⊢
    clear hn hm
    go_enter Try.func29, Try.ntmps29
    go_wp2_with fail
    refine HC.out.mono ?_
    rintro e w1 ⟨rfl, hb⟩
    go_wp2
    go_ret
    exact ⟨by first | rfl | (rw [HF.out]; rfl) | (rw [← HF.out]; rfl), hb⟩
  · have HF : Hid (prefB ps qs = false) := Lib.hid (by unfold prefB; simp [hlt])
    clear h1 h2
    go_enter Try.func29, Try.ntmps29
    go_wp2
    go_ret
    exact ⟨by rw [HF.out]; rfl, Below.refl _ _⟩
end Go.Proofs.Ytcedeniamolbmaa
