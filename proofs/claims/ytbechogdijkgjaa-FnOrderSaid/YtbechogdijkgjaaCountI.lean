/-
  impl.CountTerm and impl.DepthOfTerm, level by level, return how many terms there are in a term and how deep it is.
-/
import Derived.Test.YtbechogdijkgjaaArgsOf
namespace Go.Proofs.Ytbechogdijkgjaa
open Go.RowKit

/-- A term in a row of one cell's length. -/
theorem LevelAt.single {w : World} {h : Nat} {k n : Int} {s : ByteArray} {u : Value} {xs : List T} (b : Nat) (hs : s.size ≤ maxLen) (ha : ArgsAt w 0 h u xs)
    (c0 : w.cell? ⟨b, 0, none⟩ = some (.int .i64 k)) (c1 : w.cell? ⟨b, 1, none⟩ = some (.int .i64 n)) (c2 : w.cell? ⟨b, 2, none⟩ = some (.string s)) (c3 : w.cell? ⟨b, 3, none⟩ = some u) :
    LevelAt w (.slice (some ⟨b, 0, none⟩) 1 1) [.node k n s xs] := by
  refine ⟨h + 1, some ⟨b, 0, none⟩, 1, rfl, by simp [maxLen], Or.inr ⟨b, 0, rfl, Nat.zero_le _, fun i k' n' s' xs' hi => ?_⟩⟩
  match i, hi with
  | 0, hi =>
    simp at hi
    obtain ⟨rfl, rfl, rfl, rfl⟩ := hi
    exact ⟨hs, u, c0, c1, c2, c3, ha⟩
  | i + 1, hi => simp at hi

/-- The first level: the term alone, in a block behind its box. -/
theorem level_first (w : World) {lo h : Nat} {k n : Int} {s : ByteArray} {u : Value} {xs : List T} (hs : s.size ≤ maxLen) (ha : ArgsAt w lo h u xs) :
    LevelAt ((boxed w k n s u).alloc (.cells #[.int .i64 k, .int .i64 n, .string s, u] 26)) (.slice (some ⟨w.heap.size + 1, 0, none⟩) 1 1) [.node k n s xs] := by
  have hbs : (boxed w k n s u).heap.size = w.heap.size + 1 := by simp
  rw [← hbs]
  have hb : Below w.heap.size w (boxed (boxed w k n s u) k n s u) := (boxed_below w k n s u).trans ((boxed_below _ k n s u).mono (boxed_below w k n s u).size)
  obtain ⟨c0, c1, c2, c3⟩ := boxed_cells (Below.refl _ (boxed (boxed w k n s u) k n s u))
  exact LevelAt.single _ hs ((ha.low (Nat.zero_le _)).below hb) c0 c1 c2 c3

theorem single_c (t : T) : cS [t] = cT t := by simp [cS]
theorem single_d (t : T) : dS [t] = dT t := by simp [dS]

set_option maxRecDepth 100000 in
set_option maxHeartbeats 1600000 in
theorem countT_any (v : Value) (t : T) (lo h : Nat) (w : World) (ht : TermAt w lo h v t) (hw : wT t ≤ 1048576) :
    Calls Try.prog 17 #[v] w (NumB (cT t) w) := by
  obtain ⟨k, n, s, u, xs, rfl, rfl, hs, ha⟩ := ht
  obtain ⟨a, cap, rfl⟩ := ha.slice
  have hcb : cT (.node k n s xs) ≤ 1048577 := by have := cT_le (.node k n s xs); omega
  have HL := Lib.hid (level_first w (k := k) (n := n) hs ha)
  have HB0 : Hid (Below w.heap.size w ((boxed w k n s (.slice a xs.length cap)).alloc (.cells #[.int .i64 k, .int .i64 n, .string s, .slice a xs.length cap] 26))) := Lib.hid ((boxed_below w k n s _).trans ((boxed_below _ k n s _).mono (boxed_below w k n s _).size))
  have HC0 : Hid (0 + cS [T.node k n s xs] = cT (.node k n s xs)) := Lib.hid (by rw [single_c]; omega)
  obtain ⟨C, hC⟩ : ∃ C, C = cT (.node k n s xs) := ⟨_, rfl⟩
  rw [← hC] at hcb HC0 ⊢
  have hC1 : 1 ≤ C := by rw [hC, cT_node]; omega
  obtain ⟨t0, ht0⟩ : ∃ t0, t0 = T.node k n s xs := ⟨_, rfl⟩
  rw [← ht0] at HL HC0
  clear hs ha hw hC ht0
  go_enter Try.func17, Try.ntmps17
  go_wp2
  go_loopw [3, 4] (fun c v wr => ∃ (cn : Nat) (ts : List T), c = .int .i64 cn ∧ cn ≤ C ∧ Hid (cn + cS ts = C) ∧ Hid (LevelAt wr v ts) ∧ Hid (Below w.heap.size w wr)) (fun c _ _ => C - (intOf c).toNat)
  case atStart =>
    exact ⟨0, [t0], rfl, Nat.zero_le _, HC0, HL, HB0⟩
  case round =>
    obtain ⟨cn, ts, rfl, hcn, HC, HLV, HB⟩ := hrel
    obtain ⟨la, lc, rfl⟩ := HLV.out.slice
    have hk := cS_kids ts
    have hlk := len_le_cS (kids ts)
    have hlen : cn + ts.length ≤ C := by have := HC.out; omega
    have HNX : Hid (cn + ts.length + cS (kids ts) = C) := Lib.hid (by have := HC.out; omega)
    obtain ⟨m, hm⟩ : ∃ m, m = ts.length := ⟨_, rfl⟩
    rw [← hm] at hlen
    have HM := Lib.hid hm
    by_cases h0 : 0 < m
    · rw [← hm]
      rw [← hm] at HLV
      clear hm
      have HLK : Hid ((kids ts).length ≤ 1048576) := Lib.hid (by have := HC.out; have := HM.out; omega)
      clear hk hlk
      have hmz : (0 : Int) < (m : Int) := by omega
      go_wp2_with fail
      refine (argsOf_any _ ts _ HLV.out HLK.out (by have := HM.out; omega)).mono ?_
      rintro e w1 ⟨v1, rfl, hl1, hb1⟩
      have HL1 := Lib.hid hl1; clear hl1
      have HB1 := Lib.hid (HB.out.trans (hb1.mono HB.out.size)); clear hb1
      go_wp2
      go_roundw
      case rel => exact ⟨cn + m, kids ts, by go_num, by omega, Lib.hid (by rw [HM.out]; exact HNX.out), HL1, HB1⟩
      case measure => simp [intOf]; omega
    · have HD : Hid (cn = C) := Lib.hid (by
        have h1 : ts = [] := List.eq_nil_of_length_eq_zero (by omega)
        have h2 := HC.out
        rw [h1] at h2
        simp [cS] at h2
        exact h2)
      rw [← hm]
      have hm0 : m = 0 := by omega
      subst hm0
      clear hm
      go_wp2
      go_ret
      exact ⟨by rw [← HD.out]; rfl, HB.out⟩
set_option maxRecDepth 100000 in
set_option maxHeartbeats 1600000 in
theorem depthT_any (v : Value) (t : T) (lo h : Nat) (w : World) (ht : TermAt w lo h v t) (hw : wT t ≤ 1048576) :
    Calls Try.prog 19 #[v] w (NumB (dT t) w) := by
  obtain ⟨k, n, s, u, xs, rfl, rfl, hs, ha⟩ := ht
  obtain ⟨a, cap, rfl⟩ := ha.slice
  have hcb : cS [T.node k n s xs] ≤ 1048577 := by have := cT_le (.node k n s xs); rw [single_c]; omega
  have hdb : dT (.node k n s xs) ≤ 1048577 := by have := cT_le (.node k n s xs); have := dT_le (.node k n s xs); omega
  have HL := Lib.hid (level_first w (k := k) (n := n) hs ha)
  have HB0 : Hid (Below w.heap.size w ((boxed w k n s (.slice a xs.length cap)).alloc (.cells #[.int .i64 k, .int .i64 n, .string s, .slice a xs.length cap] 26))) := Lib.hid ((boxed_below w k n s _).trans ((boxed_below _ k n s _).mono (boxed_below w k n s _).size))
  have HC0 : Hid (0 + dS [T.node k n s xs] = dT (.node k n s xs)) := Lib.hid (by rw [single_d]; omega)
  obtain ⟨C, hC⟩ : ∃ C, C = dT (.node k n s xs) := ⟨_, rfl⟩
  rw [← hC] at hdb HC0 ⊢
  have hC1 : 1 ≤ C := by rw [hC, dT_node]; omega
  obtain ⟨t0, ht0⟩ : ∃ t0, t0 = T.node k n s xs := ⟨_, rfl⟩
  rw [← ht0] at HL HC0 hcb
  clear hs ha hw hC ht0
  go_enter Try.func19, Try.ntmps19
  go_wp2
  go_loopw [3, 4] (fun c v wr => ∃ (cn : Nat) (ts : List T), c = .int .i64 cn ∧ cn ≤ C ∧ Hid (cn + dS ts = C) ∧ cS ts ≤ 1048577 ∧ Hid (LevelAt wr v ts) ∧ Hid (Below w.heap.size w wr)) (fun c _ _ => C - (intOf c).toNat)
  case atStart =>
    exact ⟨0, [t0], rfl, Nat.zero_le _, HC0, hcb, HL, HB0⟩
  case round =>
    obtain ⟨cn, ts, rfl, hcn, HC, hcs, HLV, HB⟩ := hrel
    obtain ⟨la, lc, rfl⟩ := HLV.out.slice
    have hk := cS_kids ts
    have hlk := len_le_cS (kids ts)
    obtain ⟨m, hm⟩ : ∃ m, m = ts.length := ⟨_, rfl⟩
    have HM := Lib.hid hm
    by_cases h0 : 0 < m
    · rw [← hm]
      rw [← hm] at HLV
      clear hm
      have hd := dS_kids ts (by intro e; have := HM.out; rw [e] at this; simp at this; omega)
      have hlen : cn + 1 ≤ C := by have := HC.out; omega
      have HNX : Hid (cn + 1 + dS (kids ts) = C) := Lib.hid (by have := HC.out; omega)
      have hcs1 : cS (kids ts) ≤ 1048577 := by omega
      have hml : m ≤ 1048577 := by have := HM.out; omega
      clear hd
      have HLK : Hid ((kids ts).length ≤ 1048576) := Lib.hid (by have := HM.out; omega)
      clear hk hlk hcs
      have hmz : (0 : Int) < (m : Int) := by omega
      go_wp2_with fail
      refine (argsOf_any _ ts _ HLV.out HLK.out (by have := HM.out; omega)).mono ?_
      rintro e w1 ⟨v1, rfl, hl1, hb1⟩
      have HL1 := Lib.hid hl1; clear hl1
      have HB1 := Lib.hid (HB.out.trans (hb1.mono HB.out.size)); clear hb1
      go_wp2
      go_roundw
      case rel => exact ⟨cn + 1, kids ts, by go_num, by omega, HNX, hcs1, HL1, HB1⟩
      case measure => simp [intOf]; omega
    · have HD : Hid (cn = C) := Lib.hid (by
        have h1 : ts = [] := List.eq_nil_of_length_eq_zero (by omega)
        have h2 := HC.out
        rw [h1] at h2
        simp [dS] at h2
        exact h2)
      rw [← hm]
      have hm0 : m = 0 := by omega
      subst hm0
      clear hm
      go_wp2
      go_ret
      exact ⟨by rw [← HD.out]; rfl, HB.out⟩
end Go.Proofs.Ytbechogdijkgjaa
