/-
  spec.ReduceWords: the built-in operators are evaluated from the inside out.
-/
import Derived.Test.YtidbokheeieifaaQ36
import Derived.Test.YtidbokheeieifaaQ20
import Derived.Test.YtidbokheeieifaaQ22
namespace Go.Proofs.Ytidbokheeieifaa
open Go.RowKit

set_option maxRecDepth 100000 in
set_option maxHeartbeats 1600000 in
theorem sWord_any (k n : Int) (s : ByteArray) (a : Option Addr) (m c : Nat) (w : World) :
    Calls Try.prog 61 #[tv k n s (.slice a m c)] w (AnsB (wordV k n s m) w) := by
  have HC := Lib.hid (fun w' => in_any n 0 3 w')
  have hb0 : Below w.heap.size w (w.alloc (.cells #[.int .i64 k, .int .i64 n, .string s, .slice a m c] 26)) := (Below.refl _ _).alloc (Nat.le_refl _) _
  have HB0 := Lib.hid hb0; clear hb0
  by_cases h1 : k = 3
  · have e1 : (k == 3) = true := by simpa using h1
    by_cases h2 : 0 ≤ n ∧ n ≤ 3
    · by_cases h3 : s.toList = []
      · by_cases h4 : m = 0
        · have HV : Hid (wordV k n s m = true) := Lib.hid ((wordV_iff _ _ _ _).2 ⟨h1, h2.1, h2.2, h3, h4⟩)
          have e2 : (decide (0 ≤ n) && decide (n ≤ 3)) = true := by simp [h2]
          have e3 : (s.toList == []) = true := by simpa using h3
          clear h1 h2 h3
          subst h4
          go_enter Try.func61, Try.ntmps61
          go_wp2_with fail
          refine (HC.out _).mono ?_
          rintro e w' ⟨rfl, rfl⟩
          rw [e2]
          go_wp2
          go_ret
          exact ⟨by rw [HV.out]; rfl, HB0.out⟩
        · have HV : Hid (wordV k n s m = false) := Lib.hid (by
            have := wordV_iff k n s m
            cases hh : wordV k n s m with
            | false => rfl
            | true => exact absurd (this.1 hh).2.2.2.2 h4)
          have e2 : (decide (0 ≤ n) && decide (n ≤ 3)) = true := by simp [h2]
          have e3 : (s.toList == []) = true := by simpa using h3
          clear h1 h2 h3
          go_enter Try.func61, Try.ntmps61
          go_wp2_with fail
          refine (HC.out _).mono ?_
          rintro e w' ⟨rfl, rfl⟩
          rw [e2]
          have e4 : ((m : Int) == 0) = false := by simp; omega
          go_wp2
          go_ret
          exact ⟨by rw [HV.out]; rfl, HB0.out⟩
      · have HV : Hid (wordV k n s m = false) := Lib.hid (by
          have := wordV_iff k n s m
          cases hh : wordV k n s m with
          | false => rfl
          | true => exact absurd (this.1 hh).2.2.2.1 h3)
        have e2 : (decide (0 ≤ n) && decide (n ≤ 3)) = true := by simp [h2]
        have e3 : (s.toList == []) = false := by simpa using h3
        clear h1 h2 h3
        go_enter Try.func61, Try.ntmps61
        go_wp2_with fail
        refine (HC.out _).mono ?_
        rintro e w' ⟨rfl, rfl⟩
        rw [e2]
        go_wp2
        go_ret
        exact ⟨by rw [HV.out]; rfl, HB0.out⟩
    · have HV : Hid (wordV k n s m = false) := Lib.hid (by
        have := wordV_iff k n s m
        cases hh : wordV k n s m with
        | false => rfl
        | true => exact absurd ⟨(this.1 hh).2.1, (this.1 hh).2.2.1⟩ h2)
      have e2 : (decide (0 ≤ n) && decide (n ≤ 3)) = false := by simp; omega
      clear h1 h2
      go_enter Try.func61, Try.ntmps61
      go_wp2_with fail
      refine (HC.out _).mono ?_
      rintro e w' ⟨rfl, rfl⟩
      rw [e2]
      go_wp2
      go_ret
      exact ⟨by rw [HV.out]; rfl, HB0.out⟩
  · have HV : Hid (wordV k n s m = false) := Lib.hid (by
      have := wordV_iff k n s m
      cases hh : wordV k n s m with
      | false => rfl
      | true => exact absurd (this.1 hh).1 h1)
    have e1 : (k == 3) = false := by simpa using h1
    clear h1
    go_enter Try.func61, Try.ntmps61
    go_wp2
    go_ret
    exact ⟨by rw [HV.out]; rfl, HB0.out⟩

theorem four (x : Int) (h0 : 0 ≤ x) (h1 : x ≤ 3) : x = 0 ∨ x = 1 ∨ x = 2 ∨ x = 3 := by omega

set_option maxRecDepth 100000 in
set_option maxHeartbeats 3200000 in
theorem sOp_any (s : ByteArray) (x y : Int) (w : World) (hx0 : 0 ≤ x) (hx1 : x ≤ 3) (hy0 : 0 ≤ y) (hy1 : y ≤ 3) :
    Calls Try.prog 62 #[.string s, .int .i64 x, .int .i64 y] w (fun e w' => e = .returned (.int .i64 (opW s x y)) ∧ w' = w) := by
  have hx := four x hx0 hx1
  have hy := four y hy0 hy1
  clear hx0 hx1 hy0 hy1
  by_cases h1 : (s.toList == [112, 108, 117, 115]) = true
  · have HO := Lib.hid (fun x y => show opW s x y = ((x + y).tmod 4 + 4).tmod 4 by unfold opW; rw [if_pos h1])
    rcases hx with rfl | rfl | rfl | rfl <;> rcases hy with rfl | rfl | rfl | rfl
    all_goals
      go_enter Try.func62, Try.ntmps62
      go_wp2
      go_ret
      exact ⟨by rw [HO.out]; rfl, rfl⟩
  · have h1' : (s.toList == [112, 108, 117, 115]) = false := by simpa using h1
    clear h1
    by_cases h2 : (s.toList == [109, 105, 110, 117, 115]) = true
    · have HO := Lib.hid (fun x y => show opW s x y = ((x - y).tmod 4 + 4).tmod 4 by unfold opW; rw [h1', if_neg (by simp), if_pos h2])
      rcases hx with rfl | rfl | rfl | rfl <;> rcases hy with rfl | rfl | rfl | rfl
      all_goals
        go_enter Try.func62, Try.ntmps62
        go_wp2
        go_ret
        exact ⟨by rw [HO.out]; rfl, rfl⟩
    · have h2' : (s.toList == [109, 105, 110, 117, 115]) = false := by simpa using h2
      clear h2
      have HO := Lib.hid (fun x y => show opW s x y = ((x * y).tmod 4 + 4).tmod 4 by unfold opW; rw [h1', h2', if_neg (by simp), if_neg (by simp)])
      rcases hx with rfl | rfl | rfl | rfl <;> rcases hy with rfl | rfl | rfl | rfl
      all_goals
        go_enter Try.func62, Try.ntmps62
        go_wp2
        go_ret
        exact ⟨by rw [HO.out]; rfl, rfl⟩
end Go.Proofs.Ytidbokheeieifaa
