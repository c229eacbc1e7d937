/-
  The library's comparisons (cmp.Compare, strings.Compare, cmp.Or), and impl.compareNodes on them.
-/
import Derived.Test.YtbechogdijkgjaaTermCmp
import Derived.Lib.Bytealg
namespace Go.Proofs.Ytbechogdijkgjaa
open Go.RowKit

set_option maxRecDepth 100000 in
set_option maxHeartbeats 400000 in
theorem nan_any (a : Int) (w : World) : Calls Try.prog 91 #[.int .i64 a] w fun e w' => e = .returned (.bool false) ∧ w' = w := by
  go_enter Try.func91, Try.ntmps91
  go_wp2
  go_ret
  exact ⟨by simp, rfl⟩

set_option maxRecDepth 100000 in
set_option maxHeartbeats 800000 in
theorem cmpInt_any (a b : Int) (w : World) : Calls Try.prog 77 #[.int .i64 a, .int .i64 b] w fun e w' => e = .returned (.int .i64 (cmpI a b)) ∧ w' = w := by
  have hc : (a < b ∧ cmpI a b = -1) ∨ (¬ a < b ∧ b < a ∧ cmpI a b = 1) ∨ (¬ a < b ∧ ¬ b < a ∧ cmpI a b = 0) := by
    unfold cmpI
    by_cases h1 : a < b
    · simp [h1]
    · by_cases h2 : b < a
      · simp [h1, h2]
      · simp [h1, h2]
  rcases hc with ⟨h1, e⟩ | ⟨h1, h2, e⟩ | ⟨h1, h2, e⟩ <;> rw [e] <;> clear e
  · go_enter Try.func77, Try.ntmps77
    go_wp2_with (go_at_call 91; refine (nan_any _ _).mono ?_; rintro e w1 ⟨rfl, rfl⟩)
    go_ret
    exact ⟨rfl, rfl⟩
  · go_enter Try.func77, Try.ntmps77
    go_wp2_with (go_at_call 91; refine (nan_any _ _).mono ?_; rintro e w1 ⟨rfl, rfl⟩)
    go_ret
    exact ⟨rfl, rfl⟩
  · go_enter Try.func77, Try.ntmps77
    go_wp2_with (go_at_call 91; refine (nan_any _ _).mono ?_; rintro e w1 ⟨rfl, rfl⟩)
    go_ret
    exact ⟨rfl, rfl⟩

theorem bytes_cmp : ∀ (a b : List UInt8), (Lib.compareBytes a b = -1 ∧ a < b) ∨ (Lib.compareBytes a b = 1 ∧ b < a) ∨ (Lib.compareBytes a b = 0 ∧ a = b)
  | [], [] => by simp [Lib.compareBytes]
  | [], _ :: _ => by simp [Lib.compareBytes]
  | _ :: _, [] => by simp [Lib.compareBytes]
  | x :: a, y :: b => by
    unfold Lib.compareBytes
    by_cases h1 : x < y
    · simp [h1, List.cons_lt_cons_iff]
    · by_cases h2 : y < x
      · simp [h1, h2, List.cons_lt_cons_iff]
      · have e : x = y := UInt8.le_antisymm (UInt8.not_lt.1 h2) (UInt8.not_lt.1 h1)
        subst e
        simp only [h1, if_false]
        rcases bytes_cmp a b with ⟨h, k⟩ | ⟨h, k⟩ | ⟨h, k⟩
        · exact Or.inl ⟨h, List.cons_lt_cons_iff.2 (Or.inr ⟨rfl, k⟩)⟩
        · exact Or.inr (Or.inl ⟨h, List.cons_lt_cons_iff.2 (Or.inr ⟨rfl, k⟩)⟩)
        · exact Or.inr (Or.inr ⟨h, by rw [k]⟩)
theorem bytes_cmpS (a b : ByteArray) : Lib.compareBytes a.data.toList b.data.toList = cmpS a b := by
  unfold cmpS
  rcases bytes_cmp (key a) (key b) with ⟨h, k⟩ | ⟨h, k⟩ | ⟨h, k⟩
  · rw [if_pos k]; exact h
  · have : ¬ key a < key b := fun q => lt_irr _ (lt_tr q k)
    rw [if_neg this, if_pos k]; exact h
  · rw [if_neg (by rw [k]; exact lt_irr _), if_neg (by rw [k]; exact lt_irr _)]; exact h

set_option maxRecDepth 100000 in
set_option maxHeartbeats 400000 in
theorem cmpStr1_any (a b : ByteArray) (w : World) : Calls Try.prog 92 #[.string a, .string b] w fun e w' => e = .returned (.int .i64 (cmpS a b)) ∧ w' = w := by
  rw [← bytes_cmpS]
  go_enter Try.func92, Try.ntmps92
  go_wp2
  rw [run_callFunc_extern Try.func100 (by kernel_rfl) (by kernel_rfl) (by kernel_rfl) (e := Extern.BytealgCompare.compare) (by kernel_rfl), Lib.run_compareString]
  simp only [Result.andThen]
  rw [Oper.upon_value]
  go_wp2
  go_ret
  exact ⟨rfl, rfl⟩
set_option maxRecDepth 100000 in
set_option maxHeartbeats 400000 in
theorem cmpStr_any (a b : ByteArray) (w : World) : Calls Try.prog 78 #[.string a, .string b] w fun e w' => e = .returned (.int .i64 (cmpS a b)) ∧ w' = w := by
  go_enter Try.func78, Try.ntmps78
  go_wp2_with (go_at_call 92; refine (cmpStr1_any _ _ _).mono ?_; rintro e w1 ⟨rfl, rfl⟩)
  go_ret
  exact ⟨rfl, rfl⟩

set_option maxRecDepth 100000 in
set_option maxHeartbeats 1600000 in
theorem or4_any (z0 z1 z2 z3 : Int) (b : Nat) (w : World) (c0 : w.cell? ⟨b, 0, none⟩ = some (.int .i64 z0)) (c1 : w.cell? ⟨b, 1, none⟩ = some (.int .i64 z1)) (c2 : w.cell? ⟨b, 2, none⟩ = some (.int .i64 z2)) (c3 : w.cell? ⟨b, 3, none⟩ = some (.int .i64 z3)) :
    Calls Try.prog 76 #[.slice (some ⟨b, 0, none⟩) 4 4] w fun e w' => e = .returned (.int .i64 (nz [z0, z1, z2, z3])) ∧ w' = w := by
  have hcl : ∀ (j : Nat) (z : Int), [z0, z1, z2, z3][j]? = some z → w.cell? ⟨b, j, none⟩ = some (.int .i64 z) := by
    intro j z hz
    match j, hz with
    | 0, hz => simp at hz; subst hz; exact c0
    | 1, hz => simp at hz; subst hz; exact c1
    | 2, hz => simp at hz; subst hz; exact c2
    | 3, hz => simp at hz; subst hz; exact c3
    | j + 4, hz => simp at hz
  have HCL := Lib.hid hcl; clear hcl c0 c1 c2 c3
  obtain ⟨L, hL⟩ : ∃ L, L = [z0, z1, z2, z3] := ⟨_, rfl⟩
  have hLl : L.length = 4 := by rw [hL]; rfl
  rw [← hL] at HCL ⊢
  have HLL := Lib.hid hLl; clear hLl hL z0 z1 z2 z3
  go_enter Try.func76, Try.ntmps76
  go_wp2
  go_loop [5, 8] (fun _ i => ∃ j : Nat, j ≤ 4 ∧ i = .int .i64 j ∧ Hid (∀ i, i < j → L[i]? = some 0)) (fun _ i => 4 - (intOf i).toNat)
  case atStart => exact ⟨0, by omega, rfl, Lib.hid (fun i hi => by omega)⟩
  case round =>
    obtain ⟨j, hj, rfl, HZ⟩ := hrel
    by_cases hlt : j < 4
    · obtain ⟨z, hz⟩ : ∃ z, L[j]? = some z := ⟨_, List.getElem?_eq_getElem (by have := HLL.out; omega)⟩
      have hcell := HCL.out j z hz
      have HZ2 := Lib.hid hz; clear hz
      by_cases hz0 : z = 0
      · subst hz0
        go_wp2
        go_round
        case rel =>
          refine ⟨j + 1, by omega, by go_num, Lib.hid (fun i hi => ?_)⟩
          by_cases hij : i = j
          · subst hij; exact HZ2.out
          · exact HZ.out i (by omega)
        case measure => simp [intOf]; omega
      · have hz1 : (z != 0) = true := by simpa using hz0
        go_wp2
        go_ret
        exact ⟨by rw [nz_at L j z HZ.out HZ2.out hz0]; rfl, rfl⟩
    · have hj4 : j = 4 := by omega
      subst hj4
      go_wp2
      go_ret
      exact ⟨by rw [nz_all L (fun i hi => HZ.out i (by have := HLL.out; omega))]; rfl, rfl⟩

theorem alloc4 (w : World) (x0 x1 x2 x3 : Value) (t : TypeId) {n : Nat} (h : n = w.heap.size) :
    (w.alloc (.cells #[x0, x1, x2, x3] t)).drew.cell? ⟨n, 0, none⟩ = some x0 ∧ (w.alloc (.cells #[x0, x1, x2, x3] t)).drew.cell? ⟨n, 1, none⟩ = some x1 ∧
    (w.alloc (.cells #[x0, x1, x2, x3] t)).drew.cell? ⟨n, 2, none⟩ = some x2 ∧ (w.alloc (.cells #[x0, x1, x2, x3] t)).drew.cell? ⟨n, 3, none⟩ = some x3 := by
  subst h
  have e : ∀ j, (w.alloc (.cells #[x0, x1, x2, x3] t)).drew.cell? ⟨w.heap.size, j, none⟩ = #[x0, x1, x2, x3][j]? := fun j => World.cell?_alloc_mark w #[x0, x1, x2, x3] t (0, 0) j
  exact ⟨e 0, e 1, e 2, e 3⟩
theorem or4_new (z0 z1 z2 z3 : Int) (n : Nat) (w : World) (h : n = w.heap.size) :
    Calls Try.prog 76 #[.slice (some ⟨n, 0, none⟩) 4 4] (w.alloc (.cells #[.int .i64 z0, .int .i64 z1, .int .i64 z2, .int .i64 z3] 3)).drew fun e w' => e = .returned (.int .i64 (nz [z0, z1, z2, z3])) ∧ w' = (w.alloc (.cells #[.int .i64 z0, .int .i64 z1, .int .i64 z2, .int .i64 z3] 3)).drew := by
  obtain ⟨c0, c1, c2, c3⟩ := alloc4 w (.int .i64 z0) (.int .i64 z1) (.int .i64 z2) (.int .i64 z3) 3 h
  exact or4_any z0 z1 z2 z3 n _ c0 c1 c2 c3

set_option maxRecDepth 100000 in
set_option maxHeartbeats 1600000 in
theorem node_any (k n : Int) (s : ByteArray) (a : Option Addr) (m cap : Nat) (k' n' : Int) (s' : ByteArray) (a' : Option Addr) (m' cap' : Nat) (w : World) :
    Calls Try.prog 51 #[tv k n s (.slice a m cap), tv k' n' s' (.slice a' m' cap')] w (NumB (nz (headC k n s m k' n' s' m')) w) := by
  have HB0 := Lib.hid (boxed2_below w k n s (.slice a m cap) k' n' s' (.slice a' m' cap'))
  have HK : Hid (∀ w', Below (boxed2 w k n s (.slice a m cap) k' n' s' (.slice a' m' cap')).heap.size (boxed2 w k n s (.slice a m cap) k' n' s' (.slice a' m' cap')) w' → _) := Lib.hid (fun w' hb => boxed2_all hb)
  have hall := HK.out _ (Below.refl _ _)
  obtain ⟨c0, c1, c2, c3, d0, d1, d2, d3, hb0⟩ := hall
  go_enter Try.func51, Try.ntmps51
  go_wp2
  go_region_held3 (fun w' => w'.cell? ⟨w.heap.size, 0, none⟩ = some (.int .i64 k) ∧ w'.cell? ⟨w.heap.size, 1, none⟩ = some (.int .i64 n) ∧ w'.cell? ⟨w.heap.size, 2, none⟩ = some (.string s) ∧ w'.cell? ⟨w.heap.size, 3, none⟩ = some (.slice a m cap) ∧
      w'.cell? ⟨w.heap.size + 1, 0, none⟩ = some (.int .i64 k') ∧ w'.cell? ⟨w.heap.size + 1, 1, none⟩ = some (.int .i64 n') ∧ w'.cell? ⟨w.heap.size + 1, 2, none⟩ = some (.string s') ∧ w'.cell? ⟨w.heap.size + 1, 3, none⟩ = some (.slice a' m' cap') ∧
      Below (boxed2 w k n s (.slice a m cap) k' n' s' (.slice a' m' cap')).heap.size (boxed2 w k n s (.slice a m cap) k' n' s' (.slice a' m' cap')) w')
    (first | exact HK.out _ (by assumption) | exact HK.out _ (Below.drew (by assumption)) | exact HK.out _ (below_alloc2 (by assumption) (Below.size (by assumption)) _) | exact HK.out _ (below_alloc2 (Below.drew (by assumption)) (Below.size (Below.drew (by assumption))) _) | go_keep)
    (first
      | (go_at_call 77; refine (cmpInt_any _ _ _).mono ?_; rintro e w1 ⟨rfl, rfl⟩)
      | (go_at_call 78; refine (cmpStr_any _ _ _).mono ?_; rintro e w1 ⟨rfl, rfl⟩)
      | (go_at_call 76; refine (or4_new _ _ _ _ _ _ (by simp)).mono ?_; rintro e w1 ⟨rfl, rfl⟩))
  have hbe : Below w.heap.size w (((boxed2 w k n s (.slice a m cap) k' n' s' (.slice a' m' cap')).alloc (.cells #[.int .i64 (cmpI k k'), .int .i64 (cmpI n n'), .int .i64 (cmpS s s'), .int .i64 (cmpI (m : Int) (m' : Int))] 3)).drew) :=
    (HB0.out.alloc HB0.out.size _).drew
  have HBE := Lib.hid hbe; clear hbe c0 c1 c2 c3 d0 d1 d2 d3 hb0
  go_wp2
  go_ret
  exact ⟨rfl, HBE.out⟩
end Go.Proofs.Ytbechogdijkgjaa
