/-
  laws.markIntS writes numbers into a slice of integers, laws.heldIntS finds them there.
-/
import Derived.Test.YtooiiomfahomjaaInts
namespace Go.Proofs.Ytooiiomfahomjaa
open Go.RowKit

/-- The numbers k, k + 1, .., n of them. -/
def nums (k n : Nat) : List Int := (List.range n).map fun i => ((k + i : Nat) : Int)
theorem nums_length (k n : Nat) : (nums k n).length = n := by simp [nums]
theorem nums_succ (k n : Nat) : nums k (n + 1) = nums k n ++ [((k + n : Nat) : Int)] := by simp [nums, List.range_succ]
theorem nums_at (k n i : Nat) (h : i < n) : (nums k n)[i]? = some ((k + i : Nat) : Int) := by simp [nums, h]
theorem nums_set (k j : Nat) (xs : List Value) (h : j < xs.length) : ((nums k j).map iv ++ xs.drop j).set j (iv ((k + j : Nat) : Int)) = (nums k (j + 1)).map iv ++ xs.drop (j + 1) := by
  have hl : ((nums k j).map iv).length = j := by simp [nums_length]
  rw [List.set_append_right _ _ (by omega), hl, Nat.sub_self, nums_succ, List.drop_eq_getElem_cons h, List.set_cons_zero, List.map_append, List.append_assoc]
  rfl

def NumsEnd (B : Nat) (v : Value) (k n : Nat) (w : World) (e : Ending) (w' : World) : Prop :=
  e = .returned (.int .i64 ((k : Int) + n)) ∧ w'.ownsRow B 3 1 v n ((nums k n).map iv) ∧ w.grownBy w' v.ownBlock

theorem own_slice {w : World} {B n size : Nat} {e : TypeId} {v : Value} {xs : List Value} (h : w.ownsRow B e size v n xs) : (v = .slice none 0 0 ∧ n = 0) ∨ ∃ g cap, v = .slice (some ⟨g, 0, none⟩) n cap ∧ B ≤ g := by
  rcases h.2 with ⟨rfl, h0⟩ | ⟨g, cap, cur, rfl, hg, _⟩
  · exact Or.inl ⟨rfl, h0⟩
  · exact Or.inr ⟨g, cap, rfl, hg⟩

set_option maxRecDepth 100000 in
set_option maxHeartbeats 800000 in
theorem markInts_any (B n k : Nat) (v : Value) (xs : List Value) (w : World) (hkn : (k : Int) + n ≤ 9223372036854775807) (hown : w.ownsRow B 3 1 v n xs) :
    Calls Try.prog 38 #[v, .int .i64 k] w (NumsEnd B v k n w) := by
  rcases own_slice hown with ⟨rfl, rfl⟩ | ⟨g, cap, rfl, hg⟩
  · have hx : xs = [] := List.eq_nil_of_length_eq_zero (by simpa using hown.1)
    subst hx
    have HO := Lib.hid hown; clear hown
    go_enter Try.func38, Try.ntmps38
    go_wp2
    refine wp_loop_rounds 1 ?_
    rw [rounds_succ]
    go_wp2
    go_ret
    exact ⟨by simp, HO.out, grown_refl _ _⟩
  · have HO := Lib.hid hown; clear hown
    go_enter Try.func38, Try.ntmps38
    go_wp2
    go_loopw [1, 5] (fun q i wr => ∃ j : Nat, j ≤ n ∧ i = .int .i64 j ∧ q = .int .i64 ((k : Int) + j) ∧ wr.ownsRow B 3 1 (.slice (some ⟨g, 0, none⟩) n cap) n ((nums k j).map iv ++ xs.drop j) ∧ w.grownBy wr (some g)) (fun _ i _ => n - (intOf i).toNat)
    case atStart => exact ⟨0, Nat.zero_le _, rfl, by simp, by simpa [nums] using HO.out, grown_refl _ _⟩
    case round =>
      obtain ⟨j, hj, rfl, rfl, ho, hg⟩ := hrel
      have HG := Lib.hid hg; clear hg
      have HO1 := Lib.hid ho; clear ho
      by_cases hlt : j < n
      · have hxl : xs.length = n := by simpa using HO.out.1
        obtain ⟨u, hu⟩ : ∃ u, ((nums k j).map iv ++ xs.drop j)[j]? = some u := ⟨_, List.getElem?_eq_getElem (by simp [nums_length]; omega)⟩
        have hcell : wr.cell? ⟨g, j, none⟩ = some u := by rw [HO1.out.cellAt j (by omega), hu]
        have hfrz : wr.frozen? ⟨g, j, none⟩ = false := HO1.out.frozenAt j
        have hst := HO1.out.stored j (iv ((k + j : Nat) : Int))
        rw [nums_set k j xs (by omega)] at hst
        have HS := Lib.hid hst; clear hst hu
        have hcast : ((k + j : Nat) : Int) = (k : Int) + j := by omega
        rw [hcast] at HS
        clear hcast
        go_wp2
        go_roundw
        case rel => exact ⟨j + 1, by omega, by go_num, by go_num, HS.out.1, grown_trans HG.out HS.out.2⟩
        case measure => simp [intOf]; omega
      · have hje : j = n := by omega
        subst hje
        go_wp2
        go_ret
        refine ⟨rfl, ?_, HG.out⟩
        have h1 := HO1.out
        rw [List.drop_eq_nil_of_le (by have := HO.out.1; omega), List.append_nil] at h1
        exact h1

def HeldI (k n : Nat) (w : World) (e : Ending) (w' : World) : Prop := e = .returned (.int .i64 ((k : Int) + n)) ∧ Below w.heap.size w w'

set_option maxRecDepth 100000 in
set_option maxHeartbeats 800000 in
theorem heldInts_any (n k : Nat) (v : Value) (w : World) (hkn : (k : Int) + n ≤ 9223372036854775807) (hv : IntsAt w v (nums k n)) :
    Calls Try.prog 39 #[v, .int .i64 k] w (HeldI k n w) := by
  obtain ⟨a, cap, rfl⟩ := hv.slice
  rw [nums_length] at hv ⊢
  have HV := Lib.hid hv; clear hv
  go_enter Try.func39, Try.ntmps39
  go_wp2
  go_loopw [1, 5] (fun q i wr => ∃ j t : Nat, j ≤ n ∧ i = .int .i64 j ∧ q = .int .i64 ((k : Int) + j) ∧ wr = w.drewN t) (fun _ i _ => n - (intOf i).toNat)
  case atStart => exact ⟨0, 0, Nat.zero_le _, rfl, by simp, rfl⟩
  case round =>
    obtain ⟨j, t, hj, rfl, rfl, rfl⟩ := hrel
    by_cases hlt : j < n
    · obtain ⟨b, o, rfl, hc⟩ := HV.out.at (nums_at k n j hlt)
      have hcast : ((k + j : Nat) : Int) = (k : Int) + j := by omega
      rw [hcast] at hc
      clear hcast
      have hq : (((k : Int) + j) != ((k : Int) + j)) = false := by simp
      go_wp2
      try go_quiet (fail)
      go_wp2
      go_roundw
      case rel => exact ⟨j + 1, _, by omega, by go_num, by go_num, rfl⟩
      case measure => simp [intOf]; omega
    · have hje : j = n := by omega
      subst hje
      go_wp2
      go_ret
      exact ⟨rfl, below_q w t⟩
end Go.Proofs.Ytooiiomfahomjaa
