/-
  laws.eqIntSS, markIntSS, heldIntSS: lists of lists of integers.
-/
import Derived.Test.YtooiiomfahomjaaIntsEq
import Derived.Test.YtooiiomfahomjaaIntsMark
import Derived.Test.YtooiiomfahomjaaPosSt
import Derived.Deep.RegionHeld3
namespace Go.Proofs.Ytooiiomfahomjaa
open Go.RowKit

/-- A list of lists that can be read. -/
def ListN (w : World) (B : Nat) (v : Value) (vs : List Value) (pss : List (List Int)) : Prop := w.ownsRow B 27 1 v pss.length vs ∧ ∀ (i : Nat) (q : List Int), pss[i]? = some q → ∃ u : Value, vs[i]? = some u ∧ IntsAt w u q
theorem ListN.below {w w' : World} {B : Nat} {v : Value} {vs : List Value} {pss : List (List Int)} (h : ListN w B v vs pss) (hb : Below w.heap.size w w') : ListN w' B v vs pss :=
  ⟨keep_own h.1 hb, fun i q hq => by obtain ⟨u, hu, hi⟩ := h.2 i q hq; exact ⟨u, hu, hi.below hb⟩⟩
theorem ListN.of_row {w : World} {B : Nat} {v : Value} {vs : List Value} {pss : List (List Int)} (h : w.ownsRow B 27 1 v pss.length vs) (hr : RowN w B vs pss) : ListN w B v vs pss :=
  ⟨h, fun i q hq => by obtain ⟨u, hu, ho⟩ := hr.2 i q hq; exact ⟨u, hu, IntsAt.of_owns ho⟩⟩
theorem ListN.form {w : World} {B : Nat} {v : Value} {vs : List Value} {pss : List (List Int)} (h : ListN w B v vs pss) : ∃ a c, v = .slice a pss.length c := by
  rcases own_slice h.1 with ⟨rfl, h0⟩ | ⟨g, c, rfl, _⟩
  · exact ⟨none, 0, by rw [h0]⟩
  · exact ⟨_, c, rfl⟩
theorem ListN.at {w : World} {B n c : Nat} {a : Option Addr} {vs : List Value} {pss : List (List Int)} (h : ListN w B (.slice a n c) vs pss) {i : Nat} {q : List Int} (hq : pss[i]? = some q) :
    ∃ g u, a = some ⟨g, 0, none⟩ ∧ w.cell? ⟨g, i, none⟩ = some u ∧ IntsAt w u q := by
  obtain ⟨u, hu, hi⟩ := h.2 i q hq
  have hlt := (List.getElem?_eq_some_iff.1 hq).1
  rcases own_slice h.1 with ⟨_, h0⟩ | ⟨g, c', e, _⟩
  · omega
  · simp only [Value.slice.injEq] at e
    obtain ⟨rfl, rfl, rfl⟩ := e
    exact ⟨g, u, rfl, (h.1.cellAt i (by omega)).trans hu, hi⟩

set_option maxRecDepth 100000 in
set_option maxHeartbeats 1600000 in
theorem eqSS_any (v u : Value) (vs us : List Value) (pss : List (List Int)) (B B' : Nat) (w : World) (hl : pss.length ≤ 9223372036854775807) (hq : ∀ q ∈ pss, q.length ≤ 9223372036854775807) (h1 : ListN w B v vs pss) (h2 : ListN w B' u us pss) :
    Calls Try.prog 15 #[v, u] w (TrueI w) := by
  obtain ⟨a, cap, rfl⟩ := h1.form
  obtain ⟨a', cap', rfl⟩ := h2.form
  have H1 := Lib.hid h1; clear h1
  have H2 := Lib.hid h2; clear h2
  have HQ := Lib.hid hq; clear hq
  obtain ⟨n, hn⟩ : ∃ n, n = pss.length := ⟨_, rfl⟩
  rw [← hn] at hl H1 H2 ⊢
  have HN := Lib.hid hn; clear hn
  go_enter Try.func15, Try.ntmps15
  go_wp2
  go_loopw [5] (fun i wr => ∃ k : Nat, k ≤ n ∧ i = .int .i64 k ∧ Below w.heap.size w wr) (fun i _ => n - (intOf i).toNat)
  case atStart => exact ⟨0, Nat.zero_le _, rfl, Below.refl _ _⟩
  case round =>
    obtain ⟨k, hk, rfl, hb⟩ := hrel
    by_cases hlt : k < n
    · obtain ⟨x, hx⟩ : ∃ x, pss[k]? = some x := ⟨_, List.getElem?_eq_getElem (by have := HN.out; omega)⟩
      obtain ⟨g, u1, rfl, hc1, hi1⟩ := (H1.out.below hb).at hx
      obtain ⟨g', u2, rfl, hc2, hi2⟩ := (H2.out.below hb).at hx
      have hxl := HQ.out x (List.mem_of_getElem? hx)
      obtain ⟨a1, c1, rfl⟩ := hi1.slice
      obtain ⟨a2, c2, rfl⟩ := hi2.slice
      have HB := Lib.hid hb; clear hb
      have HI := Lib.hid (And.intro hi1 hi2); clear hi1 hi2 hx
      go_wp2
      go_region_with (go_at_call 35; refine (eqInts_any _ _ x _ hxl (HI.out.1.below (by first | exact Below.refl _ _ | exact below_q _ _ | exact (Below.refl _ _).drew)) (HI.out.2.below (by first | exact Below.refl _ _ | exact below_q _ _ | exact (Below.refl _ _).drew))).mono ?_; rintro e w1 ⟨rfl, hb1⟩)
      all_goals (
        have HB1 : Hid (Below w.heap.size w w1) := Lib.hid (HB.out.trans ((by first | exact hb1 | exact ((Below.refl _ _).drew).trans hb1 | exact (below_q _ _).trans hb1 : Below wr.heap.size wr w1).mono HB.out.size))
        clear hb1
        go_wp2
        go_roundw)
      all_goals first
        | exact ⟨k + 1, by omega, by go_num, HB1.out⟩
        | (simp [intOf]; omega)
    · go_wp2
      go_ret
      exact ⟨rfl, hb⟩

def nsum (pss : List (List Int)) : Nat := (pss.map List.length).sum
def numsS (k : Nat) : List (List Int) → List (List Int)
  | [] => []
  | q :: r => nums k q.length :: numsS (k + q.length) r
theorem nsum_cons (q : List Int) (r : List (List Int)) : nsum (q :: r) = q.length + nsum r := by simp [nsum]
theorem nsum_take {pss : List (List Int)} {j : Nat} {q : List Int} (h : pss[j]? = some q) : nsum (pss.take (j + 1)) = nsum (pss.take j) + q.length := by
  have hlt := (List.getElem?_eq_some_iff.1 h).1
  have hx := (List.getElem?_eq_some_iff.1 h).2
  rw [List.take_succ_eq_append_getElem hlt, hx]
  simp [nsum]
theorem nsum_append (a b : List (List Int)) : nsum (a ++ b) = nsum a + nsum b := by simp [nsum]
theorem nsum_split (pss : List (List Int)) (j : Nat) : nsum pss = nsum (pss.take j) + nsum (pss.drop j) := by
  have := nsum_append (pss.take j) (pss.drop j)
  rw [List.take_append_drop] at this
  exact this
theorem numsS_length : ∀ (pss : List (List Int)) (k : Nat), (numsS k pss).length = pss.length
  | [], _ => rfl
  | q :: r, k => by rw [numsS, List.length_cons, numsS_length r, List.length_cons]
theorem numsS_snoc : ∀ (pss : List (List Int)) (k : Nat) (q : List Int), numsS k (pss ++ [q]) = numsS k pss ++ [nums (k + nsum pss) q.length]
  | [], k, q => by simp [numsS, nsum]
  | p :: r, k, q => by
    rw [List.cons_append, numsS, numsS_snoc r, numsS, nsum_cons, List.cons_append, Nat.add_assoc]
theorem numsS_at : ∀ (pss : List (List Int)) (k j : Nat) (q : List Int), pss[j]? = some q → (numsS k pss)[j]? = some (nums (k + nsum (pss.take j)) q.length)
  | [], _, _, _, h => by simp at h
  | p :: r, k, 0, q, h => by simp at h; subst h; simp [numsS, nsum]
  | p :: r, k, j + 1, q, h => by
    rw [numsS, List.getElem?_cons_succ, numsS_at r (k + p.length) j q (by simpa using h), List.take_succ_cons, nsum_cons, Nat.add_assoc]

/-- One element's row is written anew. -/
theorem RowN.put {w w' : World} {B : Nat} {vs : List Value} {P R : List (List Int)} {q q' : List Int} {u : Value} (h : RowN w B vs (P ++ q :: R)) (hs : vs.Pairwise Apart) (hu : vs[P.length]? = some u) (hg : w.grownBy w' u.ownBlock) (ho : w'.ownsRow B 3 1 u q'.length (q'.map iv)) : RowN w' B vs (P ++ q' :: R) := by
  refine ⟨by rw [h.1]; simp, fun i p hp => ?_⟩
  by_cases hi : i = P.length
  · subst hi
    rw [List.getElem?_append_right (Nat.le_refl _), Nat.sub_self] at hp
    simp at hp
    subst hp
    exact ⟨u, hu, ho⟩
  · have hp' : (P ++ q :: R)[i]? = some p := by
      rcases Nat.lt_or_gt_of_ne hi with h1 | h1
      · rw [List.getElem?_append_left h1] at hp ⊢; exact hp
      · rw [List.getElem?_append_right (by omega), List.getElem?_cons, if_neg (by omega)] at hp ⊢; exact hp
    obtain ⟨x, hx, hox⟩ := h.2 i p hp'
    refine ⟨x, hx, own_at hox fun k hk => hg.block k (hox.lt k hk).2 (fun e => ?_)⟩
    obtain ⟨h1, e1⟩ := List.getElem?_eq_some_iff.1 hx
    obtain ⟨h2, e2⟩ := List.getElem?_eq_some_iff.1 hu
    rw [List.pairwise_iff_getElem] at hs
    rcases Nat.lt_or_gt_of_ne hi with h3 | h3
    · have := hs i P.length h1 h2 h3
      rw [e1, e2] at this
      exact this k hk e.symm
    · have := hs P.length i h2 h1 h3
      rw [e1, e2] at this
      exact this k e.symm hk

def MarkE (B k : Nat) (v : Value) (vs : List Value) (pss : List (List Int)) (w : World) (e : Ending) (w' : World) : Prop := e = .returned (.int .i64 ((k : Int) + nsum pss)) ∧ w'.ownsRow B 27 1 v pss.length vs ∧ RowN w' B vs (numsS k pss) ∧ Below B w w'

set_option maxRecDepth 100000 in
set_option maxHeartbeats 1600000 in
theorem markSS_any (B k : Nat) (v : Value) (vs : List Value) (pss : List (List Int)) (w : World) (hB : B ≤ w.heap.size) (hkn : (k : Int) + nsum pss ≤ 9223372036854775807) (hl : pss.length ≤ 9223372036854775806) (hown : w.ownsRow B 27 1 v pss.length vs) (hr : RowN w B vs pss) (hs : vs.Pairwise Apart) :
    Calls Try.prog 18 #[v, .int .i64 k] w (MarkE B k v vs pss w) := by
  obtain ⟨a, cap, rfl⟩ := (ListN.of_row hown hr).form
  have HO := Lib.hid hown; clear hown
  have HR := Lib.hid hr; clear hr
  have HS := Lib.hid hs; clear hs
  have HK := Lib.hid hkn; clear hkn
  obtain ⟨n, hn⟩ : ∃ n, n = pss.length := ⟨_, rfl⟩
  rw [← hn] at hl HO ⊢
  have HN := Lib.hid hn; clear hn
  go_enter Try.func18, Try.ntmps18
  go_wp2
  go_loopw [1, 5] (fun q i wr => ∃ j c : Nat, j ≤ n ∧ i = .int .i64 j ∧ c = k + nsum (pss.take j) ∧ q = .int .i64 c ∧ Hid (wr.ownsRow B 27 1 (.slice a n cap) n vs ∧ RowN wr B vs (numsS k (pss.take j) ++ pss.drop j) ∧ Below B w wr)) (fun _ i _ => n - (intOf i).toNat)
  case atStart => exact ⟨0, k, Nat.zero_le _, rfl, by simp [nsum], rfl, Lib.hid ⟨HO.out, by simpa [numsS] using HR.out, Below.refl _ _⟩⟩
  case round =>
    obtain ⟨j, cc, hj, rfl, hc, rfl, HI⟩ := hrel
    by_cases hlt : j < n
    · obtain ⟨x, hx⟩ : ∃ x, pss[j]? = some x := ⟨_, List.getElem?_eq_getElem (by have := HN.out; omega)⟩
      have hjl : j < pss.length := by have := HN.out; omega
      have hxe : pss[j]'hjl = x := (List.getElem?_eq_some_iff.1 hx).2
      have hdrop : pss.drop j = x :: pss.drop (j + 1) := by rw [List.drop_eq_getElem_cons hjl, hxe]
      have htl : (numsS k (pss.take j)).length = j := by rw [numsS_length, List.length_take]; omega
      have hrow := HI.out.2.1
      rw [hdrop] at hrow
      obtain ⟨u, hu, hou⟩ := hrow.2 j x (by rw [List.getElem?_append_right (by omega), htl, Nat.sub_self]; rfl)
      obtain ⟨g, rfl⟩ : ∃ g, a = some ⟨g, 0, none⟩ := by
        rcases own_slice HI.out.1 with ⟨_, h0⟩ | ⟨g, c', e, _⟩
        · omega
        · simp only [Value.slice.injEq] at e; exact ⟨g, e.1⟩
      have hcell : wr.cell? ⟨g, j, none⟩ = some u := (HI.out.1.cellAt j (by omega)).trans hu
      have hsum := nsum_take hx
      have hsp := nsum_split pss (j + 1)
      have hkk := HK.out
      have hcx : (cc : Int) + x.length ≤ 9223372036854775807 := by omega
      obtain ⟨a1, c1, rfl⟩ := (IntsAt.of_owns hou).slice
      have HOU := Lib.hid hou; clear hou
      have HROW := Lib.hid hrow; clear hrow
      have HSUM := Lib.hid (And.intro hc hsum)
      have HU := Lib.hid hu
      have hts : pss.take (j + 1) = pss.take j ++ [x] := by rw [List.take_succ_eq_append_getElem hjl, hxe]
      have HX := Lib.hid (And.intro htl hts)
      clear hkk hsp hsum hc hu hts hdrop htl hxe hx hjl
      go_wp2_with fail
      refine (markInts_any B x.length cc _ _ _ hcx HOU.out).mono ?_
      rintro e w1 ⟨rfl, ho1, hg1⟩
      have hne : Value.slice a1 x.length c1 ≠ Value.slice (some ⟨g, 0, none⟩) n cap ∨ True := Or.inr trivial
      have hnew : w1.ownsRow B 27 1 (.slice (some ⟨g, 0, none⟩) n cap) n vs := own_at HI.out.1 fun k' hk' => hg1.block k' (HI.out.1.lt k' hk').2 (fun e => by
        obtain ⟨cs, h1⟩ := own_typed HOU.out e.symm
        obtain ⟨cs', h2⟩ := own_typed HI.out.1 hk'
        rw [h1] at h2; cases h2)
      have hrow1 : RowN w1 B vs (numsS k (pss.take (j + 1)) ++ pss.drop (j + 1)) := by
        have h1 := HROW.out.put (q' := nums cc x.length) HS.out (by rw [HX.out.1]; exact HU.out) hg1 (by rw [nums_length]; exact ho1)
        have h2 : numsS k (pss.take (j + 1)) = numsS k (pss.take j) ++ [nums cc x.length] := by
          rw [HX.out.2, numsS_snoc, ← HSUM.out.1]
        rw [h2, List.append_assoc]
        exact h1
      have hbel := HI.out.2.2.grown hg1 (Nat.le_trans hB HI.out.2.2.size) (fun k' hk' => (HOU.out.lt k' hk').1)
      have HI2 := Lib.hid (And.intro hnew (And.intro hrow1 hbel)); clear hnew hrow1 hbel ho1 hg1 hne
      go_wp2
      go_roundw
      case rel => exact ⟨j + 1, cc + x.length, by omega, by go_num, by have := HSUM.out; omega, by go_num, HI2⟩
      case measure => simp [intOf]; omega
    · have hje : j = n := by omega
      subst hje
      go_wp2
      go_ret
      have ht : pss.take j = pss := List.take_of_length_le (by have := HN.out; omega)
      have hd : pss.drop j = [] := List.drop_eq_nil_of_le (by have := HN.out; omega)
      have hf := HI.out
      rw [ht] at hc
      rw [ht, hd, List.append_nil] at hf
      refine ⟨by rw [hc]; simp, by rw [← HN.out]; exact hf.1, hf.2.1, hf.2.2⟩

set_option maxRecDepth 100000 in
set_option maxHeartbeats 1600000 in
theorem heldSS_any (B k : Nat) (v : Value) (vs : List Value) (pss : List (List Int)) (w : World) (hkn : (k : Int) + nsum pss ≤ 9223372036854775807) (hl : pss.length ≤ 9223372036854775806) (hown : ListN w B v vs (numsS k pss)) :
    Calls Try.prog 19 #[v, .int .i64 k] w (HeldI k (nsum pss) w) := by
  obtain ⟨a, cap, rfl⟩ := hown.form
  rw [numsS_length] at hown ⊢
  have HO := Lib.hid hown; clear hown
  have HK := Lib.hid hkn; clear hkn
  obtain ⟨n, hn⟩ : ∃ n, n = pss.length := ⟨_, rfl⟩
  rw [← hn] at hl HO ⊢
  have HN := Lib.hid hn; clear hn
  go_enter Try.func19, Try.ntmps19
  go_wp2
  go_loopw [1, 5] (fun q i wr => ∃ j c : Nat, j ≤ n ∧ i = .int .i64 j ∧ c = k + nsum (pss.take j) ∧ q = .int .i64 c ∧ Hid (Below w.heap.size w wr)) (fun _ i _ => n - (intOf i).toNat)
  case atStart => exact ⟨0, k, Nat.zero_le _, rfl, by simp [nsum], rfl, Lib.hid (Below.refl _ _)⟩
  case round =>
    obtain ⟨j, cc, hj, rfl, hc, rfl, HB⟩ := hrel
    by_cases hlt : j < n
    · obtain ⟨x, hx⟩ : ∃ x, pss[j]? = some x := ⟨_, List.getElem?_eq_getElem (by have := HN.out; omega)⟩
      have hsum := nsum_take hx
      have hsp := nsum_split pss (j + 1)
      have hkk := HK.out
      have hcx : (cc : Int) + x.length ≤ 9223372036854775807 := by omega
      obtain ⟨g, u, rfl, hcell, hi⟩ := (HO.out.below HB.out).at (numsS_at pss k j x hx)
      rw [← hc] at hi
      obtain ⟨a1, c1, rfl⟩ := hi.slice
      rw [nums_length] at hi hcell
      have HI := Lib.hid hi; clear hi
      have HSUM := Lib.hid (And.intro hc hsum)
      clear hkk hsp hsum hc hx
      go_wp2_with fail
      refine (heldInts_any x.length cc _ _ hcx HI.out).mono ?_
      rintro e w1 ⟨rfl, hb1⟩
      have HB1 := Lib.hid (HB.out.trans (hb1.mono HB.out.size)); clear hb1
      have hnn : ¬ ((cc : Int) + x.length < 0) := by omega
      have hnd : decide ((cc : Int) + x.length < 0) = false := by simp only [decide_eq_false_iff_not]; omega
      go_wp2
      go_roundw
      case rel => exact ⟨j + 1, cc + x.length, by omega, by go_num, by have := HSUM.out; omega, by go_num, HB1⟩
      case measure => simp [intOf]; omega
    · have hje : j = n := by omega
      subst hje
      go_wp2
      go_ret
      have ht : pss.take j = pss := List.take_of_length_le (by have := HN.out; omega)
      rw [ht] at hc
      exact ⟨by rw [hc]; simp, HB.out⟩
end Go.Proofs.Ytooiiomfahomjaa
