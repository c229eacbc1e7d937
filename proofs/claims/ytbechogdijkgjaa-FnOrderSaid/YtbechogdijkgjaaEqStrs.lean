/-
  laws.eqStringS returns true for two slices of the same strings; it changes nothing.
-/
import Derived.Test.YtbechogdijkgjaaRows
import Derived.WalkKit
import Derived.WalkSpells
import Derived.WalkLawsBesides
import Derived.Lib.Hide
import Derived.BigQuiet
import Derived.Deep.QuietTactic
namespace Go.Proofs.Ytbechogdijkgjaa
open Go.RowKit

/-- The slice value v holds the strings ps. -/
def StrsAt (w : World) (v : Value) (ps : List ByteArray) : Prop :=
  ∃ a cap, v = .slice a ps.length cap ∧ (ps = [] ∨ ∃ b o, a = some ⟨b, o, none⟩ ∧ ∀ i p, ps[i]? = some p → w.cell? ⟨b, o + i, none⟩ = some (.string p))

theorem StrsAt.of_owns {w : World} {B : Nat} {e : TypeId} {v : Value} {ps : List ByteArray} (h : w.ownsRow B e 1 v ps.length (ps.map Value.string)) : StrsAt w v ps := by
  rcases h.2 with ⟨rfl, h0⟩ | ⟨g, cap, cur, rfl, _, _, _, _, _, _⟩
  · exact ⟨none, 0, by rw [h0], Or.inl (List.eq_nil_of_length_eq_zero h0)⟩
  · refine ⟨_, cap, rfl, Or.inr ⟨g, 0, rfl, fun i p hp => ?_⟩⟩
    have hi : i < ps.length := (List.getElem?_eq_some_iff.1 hp).1
    rw [Nat.zero_add, h.cellAt i (by omega)]
    simp [hp]
theorem StrsAt.drewN {w : World} {v : Value} {ps : List ByteArray} (h : StrsAt w v ps) (n : Nat) : StrsAt (w.drewN n) v ps := by
  obtain ⟨a, cap, rfl, h⟩ := h
  refine ⟨a, cap, rfl, ?_⟩
  rcases h with h | ⟨b, o, rfl, h⟩
  · exact Or.inl h
  · exact Or.inr ⟨b, o, rfl, fun i p hp => by simpa using h i p hp⟩

set_option maxRecDepth 100000 in
set_option maxHeartbeats 400000 in
theorem eqStrs_empty (a b : Option Addr) (c d : Nat) (w : World) :
    Calls Try.prog 34 #[.slice a 0 c, .slice b 0 d] w fun e w' => e = .returned (.bool true) ∧ ∃ n, w' = w.drewN n := by
  go_enter Try.func34, Try.ntmps34
  go_wp2
  refine wp_loop_rounds 1 ?_
  rw [rounds_succ]
  go_wp2
  go_ret
  exact ⟨rfl, 0, rfl⟩

set_option maxRecDepth 100000 in
set_option maxHeartbeats 800000 in
theorem eqStrs_some (b o c b' o' c' : Nat) (ps qs : List ByteArray) (w : World) (hl : ps.length ≤ 9223372036854775807)
    (h1 : ∀ i p, ps[i]? = some p → w.cell? ⟨b, o + i, none⟩ = some (.string p)) (h2 : ∀ i p, qs[i]? = some p → w.cell? ⟨b', o' + i, none⟩ = some (.string p))
    (h : ps.map (·.data.toList) = qs.map (·.data.toList)) :
    Calls Try.prog 34 #[.slice (some ⟨b, o, none⟩) ps.length c, .slice (some ⟨b', o', none⟩) qs.length c'] w fun e w' => e = .returned (.bool true) ∧ ∃ n, w' = w.drewN n := by
  have hlq : qs.length = ps.length := by have := congrArg List.length h; simpa using this.symm
  have H1 := Lib.hid h1; clear h1
  have H2 := Lib.hid h2; clear h2
  have HH := Lib.hid h; clear h
  rw [hlq]
  have HLQ := Lib.hid hlq; clear hlq
  obtain ⟨n, hn⟩ : ∃ n, n = ps.length := ⟨_, rfl⟩
  rw [← hn] at hl ⊢
  have HN := Lib.hid hn; clear hn
  go_enter Try.func34, Try.ntmps34
  go_wp2
  go_loopw [5] (fun i wr => ∃ k q : Nat, k ≤ n ∧ i = .int .i64 k ∧ wr = w.drewN q) (fun i _ => n - (intOf i).toNat)
  case atStart => exact ⟨0, 0, Nat.zero_le _, rfl, rfl⟩
  case round =>
    obtain ⟨k, q, hk, rfl, rfl⟩ := hrel
    by_cases hlt : k < n
    · obtain ⟨x, hx⟩ : ∃ x, ps[k]? = some x := ⟨_, List.getElem?_eq_getElem (by have := HN.out; omega)⟩
      obtain ⟨y, hy⟩ : ∃ y, qs[k]? = some y := ⟨_, List.getElem?_eq_getElem (by have := HN.out; have := HLQ.out; omega)⟩
      have hc1 := H1.out k x hx
      have hc2 := H2.out k y hy
      have hxy : (x.toList == y.toList) = true := by
        have e := congrArg (·[k]?) HH.out
        simp only [List.getElem?_map, hx, hy, Option.map_some, Option.some.injEq] at e
        rw [ByteArray.toList_eq, ByteArray.toList_eq, e]; simp
      clear hx hy
      go_wp2
      go_quiet (fail)
      go_wp2
      go_roundw
      case rel => exact ⟨k + 1, _, by omega, by go_num, rfl⟩
      case measure => simp [intOf]; omega
    · go_wp2
      go_ret
      exact ⟨rfl, q, rfl⟩

/-- Two slices of the same strings are found equal. -/
theorem eqStrs_any (v u : Value) (ps qs : List ByteArray) (w : World) (hl : ps.length ≤ 9223372036854775807) (h1 : StrsAt w v ps) (h2 : StrsAt w u qs)
    (h : ps.map (·.data.toList) = qs.map (·.data.toList)) :
    Calls Try.prog 34 #[v, u] w fun e w' => e = .returned (.bool true) ∧ ∃ n, w' = w.drewN n := by
  have hlq : qs.length = ps.length := by have := congrArg List.length h; simpa using this.symm
  obtain ⟨a, c, rfl, h1⟩ := h1
  obtain ⟨a', c', rfl, h2⟩ := h2
  rcases h1 with rfl | ⟨b, o, rfl, h1⟩
  · have hq : qs = [] := List.eq_nil_of_length_eq_zero (by simpa using hlq)
    subst hq
    exact eqStrs_empty _ _ _ _ w
  · rcases h2 with rfl | ⟨b', o', rfl, h2⟩
    · have hp : ps = [] := List.eq_nil_of_length_eq_zero (by simpa using hlq.symm)
      subst hp
      exact eqStrs_empty _ _ _ _ w
    · exact eqStrs_some b o c b' o' c' ps qs w hl h1 h2 h
end Go.Proofs.Ytbechogdijkgjaa
