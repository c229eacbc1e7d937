/-
  A slice of integers: what it holds; laws.toIntS copies it, laws.eqIntS finds it equal to another.
-/
import Derived.Test.YtcedeniamolbmaaOwn
import Derived.OwnWalk
import Derived.WalkLawsBesides
import Derived.Lib.Hide
import Derived.BigQuiet
import Derived.Deep.QuietTactic
namespace Go.Proofs.Ytcedeniamolbmaa
open Go.RowKit

/-- An int's value. -/
abbrev iv (z : Int) : Value := .int .i64 z
/-- The slice value v holds the integers ps. -/
def IntsAt (w : World) (v : Value) (ps : List Int) : Prop :=
  ∃ a cap, v = .slice a ps.length cap ∧ ps.length ≤ cap ∧ (ps = [] ∨ ∃ b o, a = some ⟨b, o, none⟩ ∧ ∀ i p, ps[i]? = some p → w.cell? ⟨b, o + i, none⟩ = some (iv p))

theorem IntsAt.of_owns {w : World} {B : Nat} {e : TypeId} {v : Value} {ps : List Int} (h : w.ownsRow B e 1 v ps.length (ps.map iv)) : IntsAt w v ps := by
  rcases h.2 with ⟨rfl, h0⟩ | ⟨g, cap, cur, rfl, _, _, hn, _, _, _⟩
  · exact ⟨none, 0, by rw [h0], by omega, Or.inl (List.eq_nil_of_length_eq_zero h0)⟩
  · refine ⟨_, cap, rfl, hn, Or.inr ⟨g, 0, rfl, fun i p hp => ?_⟩⟩
    have hi : i < ps.length := (List.getElem?_eq_some_iff.1 hp).1
    rw [Nat.zero_add, h.cellAt i (by omega)]
    simp [hp]
theorem IntsAt.keep {w w' : World} {v : Value} {ps : List Int} (h : IntsAt w v ps) (hk : ∀ (ad : Addr) x, (∀ a n c, v = .slice (some a) n c → a.block = ad.block) → w.cell? ad = some x → w'.cell? ad = some x) : IntsAt w' v ps := by
  obtain ⟨a, cap, rfl, hc, h⟩ := h
  refine ⟨a, cap, rfl, hc, ?_⟩
  rcases h with h | ⟨b, o, rfl, h⟩
  · exact Or.inl h
  · exact Or.inr ⟨b, o, rfl, fun i p hp => hk _ _ (fun a n c e => by cases e; rfl) (h i p hp)⟩
theorem IntsAt.below {w w' : World} {v : Value} {ps : List Int} (h : IntsAt w v ps) (hb : Below w.heap.size w w') : IntsAt w' v ps :=
  h.keep fun ad x _ hc => by rw [hb.cell (World.block_lt_of_cell? w _ hc)]; exact hc
theorem IntsAt.slice {w : World} {v : Value} {ps : List Int} (h : IntsAt w v ps) : ∃ a cap, v = .slice a ps.length cap := by
  obtain ⟨a, cap, e, _⟩ := h; exact ⟨a, cap, e⟩
theorem IntsAt.at {w : World} {a : Option Addr} {n cap : Nat} {ps : List Int} (h : IntsAt w (.slice a n cap) ps) {i : Nat} {p : Int} (hp : ps[i]? = some p) : ∃ b o, a = some ⟨b, o, none⟩ ∧ w.cell? ⟨b, o + i, none⟩ = some (iv p) := by
  obtain ⟨a', cap', e, _, h⟩ := h
  cases e
  rcases h with rfl | ⟨b, o, rfl, h⟩
  · simp at hp
  · exact ⟨b, o, rfl, h i p hp⟩
theorem IntsAt.len {w : World} {a : Option Addr} {n cap : Nat} {ps : List Int} (h : IntsAt w (.slice a n cap) ps) : n = ps.length := by
  obtain ⟨a', cap', e, _, h⟩ := h; cases e; rfl
theorem IntsAt.cap {w : World} {a : Option Addr} {n cap : Nat} {ps : List Int} (h : IntsAt w (.slice a n cap) ps) : n ≤ cap := by
  obtain ⟨a', cap', e, hc, h⟩ := h; cases e; exact hc
theorem IntsAt.tail {w : World} {b o n cap : Nat} {p : Int} {ps : List Int} (h : IntsAt w (.slice (some ⟨b, o, none⟩) n cap) (p :: ps)) : IntsAt w (.slice (some ⟨b, o + 1, none⟩) ps.length (cap - 1)) ps := by
  have hc := h.cap
  have hl := h.len
  simp at hl
  refine ⟨_, _, rfl, by omega, Or.inr ⟨b, o + 1, rfl, fun j q hq => ?_⟩⟩
  obtain ⟨b', o', e, hx⟩ := h.at (i := j + 1) (p := q) (by simpa using hq)
  cases e
  rw [show o + 1 + j = o + (j + 1) by omega]; exact hx

theorem infoInt : (Try.prog.info? 3).map (fun i => (i.zero, i.size, i.bytes)) = some (some (iv 0), 1, 8) := by kernel_rfl

/-- A copy of the integers, in a slice of the call's own. -/
def CopyI (ps : List Int) (w : World) (e : Ending) (w' : World) : Prop :=
  ∃ v, e = .returned v ∧ w'.ownsRow w.heap.size 3 1 v ps.length (ps.map iv) ∧ Below w.heap.size w w'

theorem takeI (ps : List Int) (k : Nat) (p : Int) (h : ps[k]? = some p) : ps.take (k + 1) = ps.take k ++ [p] := by
  rw [List.take_add_one, h]; rfl
theorem copyI_set (ps : List Int) (ys : List Value) (k : Nat) (p : Int) (hp : ps[k]? = some p) (hy : k < ys.length) :
    ((ps.take k).map iv ++ ys.drop k).set k (iv p) = (ps.take (k + 1)).map iv ++ ys.drop (k + 1) := by
  have hk : k < ps.length := (List.getElem?_eq_some_iff.1 hp).1
  have hl : ((ps.take k).map iv).length = k := by simp; omega
  rw [List.set_append_right _ _ (by omega), hl, Nat.sub_self, takeI ps k p hp, List.drop_eq_getElem_cons hy, List.set_cons_zero, List.map_append, List.append_assoc]
  rfl

set_option maxRecDepth 100000 in
set_option maxHeartbeats 800000 in
theorem toInts_any (v : Value) (ps : List Int) (w : World) (hl : ps.length ≤ 1048576) (hv : IntsAt w v ps) :
    Calls Try.prog 17 #[v] w (CopyI ps w) := by
  obtain ⟨i0, hi, hz0, hz1, hz2⟩ := info_parts infoInt
  have HI := Lib.hid hi; clear hi
  have HZ0 := Lib.hid hz0; clear hz0
  have HZ1 := Lib.hid hz1; clear hz1
  have HZ2 := Lib.hid hz2; clear hz2
  obtain ⟨a, cap, rfl⟩ := hv.slice
  have HV := Lib.hid hv; clear hv
  obtain ⟨n, hn⟩ : ∃ n, n = ps.length := ⟨_, rfl⟩
  rw [← hn] at hl HV ⊢
  have HN := Lib.hid hn; clear hn
  go_enter Try.func17, Try.ntmps17
  go_wp2_with (first | (at_make; refine wpList_make_full _ rfl (.tmp 6) (.tmp 6) 27 rfl w.heap.size 3 i0 (iv 0) 1 Try.underlying27 HI.out HZ0.out HZ1.out _ _ _ _ n rfl rfl rfl rfl ?m1 ?m2 ?m3 ?_))
  case m1 => rw [HZ2.out]; omega
  case m2 => unfold maxLen; omega
  case m3 => exact Nat.le_refl _
  intro w1 hown hgrow
  have hb : Below w.heap.size w w1 := (Below.refl _ _).grown hgrow (Nat.le_refl _) (fun k hk => by cases hk)
  obtain ⟨ys, hys⟩ : ∃ ys, ys = (madeCells #[iv 0] n).toList := ⟨_, rfl⟩
  rw [← hys] at hown
  clear hys
  have hyl : ys.length = n := by simpa using hown.1
  have HYL := Lib.hid hyl; clear hyl
  have HO := Lib.hid hown; clear hown hgrow
  have HB := Lib.hid hb; clear hb
  go_wp2
  go_loopw [4] (fun i wr => ∃ k : Nat, k ≤ n ∧ i = .int .i64 k ∧ wr.ownsRow w.heap.size 3 1 (.slice (some ⟨w.heap.size, 0, none⟩) n n) n ((ps.take k).map iv ++ ys.drop k) ∧ Below w.heap.size w wr) (fun i _ => n - (intOf i).toNat)
  case atStart => exact ⟨0, Nat.zero_le _, rfl, by simpa using HO.out, HB.out⟩
  case round =>
    obtain ⟨k, hk, rfl, ho, hb⟩ := hrel
    have HO1 := Lib.hid ho; clear ho
    have HB1 := Lib.hid hb; clear hb
    by_cases hlt : k < n
    · obtain ⟨p, hp⟩ : ∃ p, ps[k]? = some p := ⟨_, List.getElem?_eq_getElem (by have := HN.out; omega)⟩
      obtain ⟨b, o, rfl, hcell⟩ := (HV.out.below HB1.out).at hp
      obtain ⟨u, hu⟩ : ∃ u, ((ps.take k).map iv ++ ys.drop k)[k]? = some u := ⟨_, List.getElem?_eq_getElem (by simp; have := HYL.out; have := HN.out; omega)⟩
      have hold : wr.cell? ⟨w.heap.size, k, none⟩ = some u := by rw [HO1.out.cellAt k (by omega), hu]
      have hfrz : wr.frozen? ⟨w.heap.size, k, none⟩ = false := HO1.out.frozenAt k
      have hst := HO1.out.stored k (iv p)
      rw [copyI_set ps ys k p hp (by have := HYL.out; omega)] at hst
      have HS := Lib.hid hst.1; clear hst hu hp
      go_wp2
      go_roundw
      case rel => exact ⟨k + 1, by omega, by go_num, HS.out, HB1.out.setCell (Nat.le_refl _) _⟩
      case measure => simp [intOf]; omega
    · have hkn : k = n := by omega
      go_wp2
      go_ret
      refine ⟨_, rfl, ?_, HB1.out⟩
      have h2 := HO1.out
      rw [hkn, List.drop_eq_nil_of_le (by have := HYL.out; omega), List.append_nil, HN.out, List.take_length] at h2
      rw [HN.out]
      exact h2

/-- An answer that leaves what was there. -/
def TrueI (w : World) (e : Ending) (w' : World) : Prop := e = .returned (.bool true) ∧ Below w.heap.size w w'

set_option maxRecDepth 100000 in
set_option maxHeartbeats 800000 in
theorem eqInts_any (v u : Value) (ps : List Int) (w : World) (hl : ps.length ≤ 9223372036854775807) (h1 : IntsAt w v ps) (h2 : IntsAt w u ps) :
    Calls Try.prog 19 #[v, u] w (TrueI w) := by
  obtain ⟨a, cap, rfl⟩ := h1.slice
  obtain ⟨a', cap', rfl⟩ := h2.slice
  have H1 := Lib.hid h1; clear h1
  have H2 := Lib.hid h2; clear h2
  obtain ⟨n, hn⟩ : ∃ n, n = ps.length := ⟨_, rfl⟩
  rw [← hn] at hl H1 H2 ⊢
  have HN := Lib.hid hn; clear hn
  go_enter Try.func19, Try.ntmps19
  go_wp2
  go_loopw [5] (fun i wr => ∃ k q : Nat, k ≤ n ∧ i = .int .i64 k ∧ wr = w.drewN q) (fun i _ => n - (intOf i).toNat)
  case atStart => exact ⟨0, 0, Nat.zero_le _, rfl, rfl⟩
  case round =>
    obtain ⟨k, q, hk, rfl, rfl⟩ := hrel
    by_cases hlt : k < n
    · obtain ⟨x, hx⟩ : ∃ x, ps[k]? = some x := ⟨_, List.getElem?_eq_getElem (by have := HN.out; omega)⟩
      obtain ⟨b, o, rfl, hc1⟩ := H1.out.at hx
      obtain ⟨b', o', rfl, hc2⟩ := H2.out.at hx
      have hxy : (x != x) = false := by simp
      clear hx
      go_wp2
      go_quiet (fail)
      go_wp2
      go_roundw
      case rel => exact ⟨k + 1, _, by omega, by go_num, rfl⟩
      case measure => simp [intOf]; omega
    · go_wp2
      go_ret
      exact ⟨rfl, below_q w q⟩

end Go.Proofs.Ytcedeniamolbmaa
