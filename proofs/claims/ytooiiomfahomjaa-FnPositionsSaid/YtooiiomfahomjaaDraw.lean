/-
  The cursor over the bytes of a draw: what its functions hand back lies within bounds, and they write nothing but the cursor.
-/
import Derived.Test.YtooiiomfahomjaaOwn
import Derived.WalkLawsBesides
import Derived.Lib.Hide
namespace Go.Proofs.Ytooiiomfahomjaa
open Go.RowKit

theorem ofInt64_nat (m : Nat) (h : m < 18446744073709551616) : (BitVec.ofInt 64 (m : Int)).toNat = m := by
  rw [BitVec.ofInt_natCast, BitVec.toNat_ofNat]; exact Nat.mod_eq_of_lt h
theorem and_small (a : Int) (m : Nat) (hm : m < 4611686018427387904) : 0 ≤ bits .and .i64 a (m : Int) ∧ bits .and .i64 a (m : Int) ≤ m := by
  have e : bits .and .i64 a (m : Int) = IntKind.i64.wrap ((BitVec.ofInt 64 a &&& BitVec.ofInt 64 (m : Int)).toNat : Int) := rfl
  have hle : (BitVec.ofInt 64 a &&& BitVec.ofInt 64 (m : Int)).toNat ≤ m := by
    rw [BitVec.toNat_and, ofInt64_nat m (by omega)]; exact Nat.and_le_right
  rw [e, IntWalk.i64_in _ (by omega)]
  omega

theorem and_255 (a : Int) : 0 ≤ bits .and .i64 a 255 ∧ bits .and .i64 a 255 ≤ 255 := by simpa using and_small a 255 (by decide)

/-- The bytes of a draw: the slice value cv of len bytes, all of whose cells hold bytes, below block B. -/
def CodeAt (w : World) (B : Nat) (cv : Value) (len : Nat) : Prop :=
  len ≤ 1048576 ∧ ∃ a cap, cv = .slice a len cap ∧ (len = 0 ∨ ∃ b o, a = some ⟨b, o, none⟩ ∧ b < B ∧ ∀ j, j < len → ∃ z : Int, 0 ≤ z ∧ z ≤ 255 ∧ w.cell? ⟨b, o + j, none⟩ = some (.int .u8 z))
/-- The cursor in block B over these bytes. -/
def CurAt (w : World) (B : Nat) (cv : Value) (len : Nat) : Prop :=
  ∃ (i : Nat) (h : Int), i ≤ len ∧ w.heap[B]? = some (.cells #[cv, .int .i64 i, .int .i64 h] 71 (0, 0))

theorem CodeAt.grown {w w' : World} {B : Nat} {cv : Value} {len : Nat} (h : CodeAt w B cv len) (hB : B < w.heap.size) (hg : w.grownBy w' (some B)) : CodeAt w' B cv len := by
  obtain ⟨h1, a, cap, rfl, h2⟩ := h
  refine ⟨h1, a, cap, rfl, ?_⟩
  rcases h2 with h2 | ⟨b, o, rfl, hb, hc⟩
  · exact Or.inl h2
  · refine Or.inr ⟨b, o, rfl, hb, fun j hj => ?_⟩
    obtain ⟨z, z0, z1, hz⟩ := hc j hj
    exact ⟨z, z0, z1, hg.cell hz (by simp; have := hB; omega)⟩

/-- What a draw of a number hands back. -/
def NumEnd (lo hi : Int) (B : Nat) (cv : Value) (len : Nat) (w : World) (e : Ending) (w' : World) : Prop :=
  ∃ x : Int, e = .returned (.int .i64 x) ∧ lo ≤ x ∧ x ≤ hi ∧ CurAt w' B cv len ∧ w.grownBy w' (some B)

theorem grown_set (w : World) (B j : Nat) (v : Value) : w.grownBy (w.setCell ⟨B, j, none⟩ v) (some B) :=
  ⟨rfl, rfl, rfl, by simp [World.setCell], fun k _ hk => Below.heap_setCell _ _ _ _ (fun e => hk (by rw [e]))⟩

theorem grown_drewN {w w' : World} {row : Option Nat} (h : w.grownBy w' row) (q : Nat) : w.grownBy (w'.drewN q) row := ⟨h.os, h.tape, h.output, h.size, h.block⟩
theorem fin_one {w : World} {B len : Nat} {cv : Value} {i : Nat} {h v x : Int} (hi : i ≤ len) (hB : w.heap[B]? = some (.cells #[cv, .int .i64 i, .int .i64 h] 71 (0, 0))) (hx : 0 ≤ x ∧ x ≤ 255) (q r : Nat) :
    NumEnd 0 255 B cv len w (.returned (.int .i64 x)) (((w.setCell ⟨B, 2, none⟩ (.int .i64 v)).drewN q).drewN r) :=
  ⟨x, rfl, hx.1, hx.2, ⟨i, v, hi, heap_setCell_same w B 2 _ _ (.int .i64 v) hB⟩, grown_drewN (grown_drewN (grown_set w B 2 _) q) r⟩
theorem fin_two {w : World} {B len : Nat} {cv : Value} {i : Nat} {h v x : Int} (hi : i < len) (hB : w.heap[B]? = some (.cells #[cv, .int .i64 i, .int .i64 h] 71 (0, 0))) (hx : 0 ≤ x ∧ x ≤ 255) (q : Nat) :
    NumEnd 0 255 B cv len w (.returned (.int .i64 x)) (((w.setCell ⟨B, 2, none⟩ (.int .i64 v)).setCell ⟨B, 1, none⟩ (.int .i64 ((i : Int) + 1))).drewN q) := by
  have h1 := heap_setCell_same w B 2 _ _ (.int .i64 v) hB
  exact ⟨x, rfl, hx.1, hx.2, ⟨i + 1, v, hi, heap_setCell_same (w.setCell ⟨B, 2, none⟩ (.int .i64 v)) B 1 _ _ (.int .i64 ((i : Int) + 1)) h1⟩, grown_drewN (grown_trans (grown_set w B 2 _) (grown_set _ B 1 _)) q⟩

set_option maxRecDepth 100000 in
set_option maxHeartbeats 800000 in
theorem byte_any (B : Nat) (cv : Value) (len : Nat) (w : World) (hcode : CodeAt w B cv len) (hcur : CurAt w B cv len) :
    Calls Try.prog 56 #[.pointer (some ⟨B, 0, none⟩)] w (NumEnd 0 255 B cv len w) := by
  obtain ⟨i, h, hi, hB⟩ := hcur
  obtain ⟨hlen, a, cap, rfl, hc⟩ := hcode
  have c0 : w.cell? ⟨B, 0, none⟩ = some (.slice a len cap) := by rw [cell_of_row w B 0 _ _ _ hB]; rfl
  have c1 : w.cell? ⟨B, 1, none⟩ = some (.int .i64 i) := by rw [cell_of_row w B 1 _ _ _ hB]; rfl
  have c2 : w.cell? ⟨B, 2, none⟩ = some (.int .i64 h) := by rw [cell_of_row w B 2 _ _ _ hB]; rfl
  have f1 : w.frozen? ⟨B, 1, none⟩ = false := frozen_of_row w B 1 _ _ hB
  have f2 : w.frozen? ⟨B, 2, none⟩ = false := frozen_of_row w B 2 _ _ hB
  have HB := Lib.hid hB; clear hB
  by_cases hlt : i < len
  · have hd : decide ((i : Int) < (len : Int)) = true := by simp; omega
    rcases hc with h0 | ⟨b, o, rfl, hb, hc⟩
    · omega
    · obtain ⟨z, z0, z1, hz⟩ := hc i hlt
      clear hc
      have hne : b ≠ B := by omega
      clear hb
      go_enter Try.func56, Try.ntmps56
      go_wp2
      go_quiet (fail)
      go_wp2
      go_quiet (fail)
      go_wp2
      go_quiet (fail)
      go_wp2
      go_ret
      exact fin_two hlt HB.out (and_255 _) _
  · have hd : decide ((i : Int) < (len : Int)) = false := by simp; omega
    clear hc
    go_enter Try.func56, Try.ntmps56
    go_wp2
    go_quiet (fail)
    go_wp2
    go_quiet (fail)
    go_wp2
    go_ret
    exact fin_one hi HB.out (and_255 _) _ _

/-- What a draw leaves: the cursor over the same bytes, the bytes as they were. -/
theorem CurAt.lt {w : World} {B : Nat} {cv : Value} {len : Nat} (h : CurAt w B cv len) : B < w.heap.size := by
  obtain ⟨i, h, _, hB⟩ := h
  exact (Array.getElem?_eq_some_iff.1 hB).1

theorem mod_in (x : Int) {n : Nat} (h : 1 ≤ n) : 0 ≤ x % (n : Int) ∧ x % (n : Int) ≤ (n : Int) - 1 := by
  have h1 := Int.emod_nonneg x (show (n : Int) ≠ 0 by omega)
  have h2 := Int.emod_lt_of_pos x (show (0 : Int) < (n : Int) by omega)
  omega

set_option maxRecDepth 100000 in
set_option maxHeartbeats 800000 in
theorem below_any (B : Nat) (cv : Value) (len n : Nat) (w : World) (hn1 : 1 ≤ n) (hn2 : n ≤ 1000000) (hcode : CodeAt w B cv len) (hcur : CurAt w B cv len) :
    Calls Try.prog 41 #[.pointer (some ⟨B, 0, none⟩), .int .i64 n] w (NumEnd 0 ((n : Int) - 1) B cv len w) := by
  have HC := Lib.hid hcode; clear hcode
  have HU := Lib.hid hcur; clear hcur
  by_cases hs : n ≤ 256
  · go_enter Try.func41, Try.ntmps41
    go_wp2_with fail
    refine (byte_any B cv len _ HC.out HU.out).mono ?_
    rintro e w1 ⟨x, rfl, x0, x1, hu1, hg1⟩
    have HU1 := Lib.hid hu1; clear hu1
    have HG1 := Lib.hid hg1; clear hg1
    go_wp2
    go_ret
    exact ⟨x % (n : Int), rfl, (mod_in x hn1).1, (mod_in x hn1).2, HU1.out, HG1.out⟩
  · go_enter Try.func41, Try.ntmps41
    go_wp2_with fail
    refine (byte_any B cv len _ HC.out HU.out).mono ?_
    rintro e w1 ⟨x, rfl, x0, x1, hu1, hg1⟩
    have HU1 := Lib.hid hu1; clear hu1
    have HG1 := Lib.hid hg1; clear hg1
    go_wp2_with fail
    refine (byte_any B cv len _ (HC.out.grown HU.out.lt HG1.out) HU1.out).mono ?_
    rintro e w2 ⟨y, rfl, y0, y1, hu2, hg2⟩
    have HU2 := Lib.hid hu2; clear hu2
    have HG2 := Lib.hid (grown_trans HG1.out hg2); clear hg2
    go_wp2_with fail
    refine (byte_any B cv len _ (HC.out.grown HU.out.lt HG2.out) HU2.out).mono ?_
    rintro e w3 ⟨z, rfl, z0, z1, hu3, hg3⟩
    have HU3 := Lib.hid hu3; clear hu3
    have HG3 := Lib.hid (grown_trans HG2.out hg3); clear hg3
    go_wp2_with fail
    refine (byte_any B cv len _ (HC.out.grown HU.out.lt HG3.out) HU3.out).mono ?_
    rintro e w4 ⟨v, rfl, v0, v1, hu4, hg4⟩
    have HU4 := Lib.hid hu4; clear hu4
    have HG4 := Lib.hid (grown_trans HG3.out hg4); clear hg4
    go_wp2
    go_ret
    exact ⟨(x * 16777216 + y * 65536 + z * 256 + v) % (n : Int), rfl, (mod_in _ hn1).1, (mod_in _ hn1).2, HU4.out, HG4.out⟩
end Go.Proofs.Ytooiiomfahomjaa
