/-
  The cursor over the bytes of a draw: what its functions hand back lies within bounds, and they write nothing but the cursor.
  A new cursor; a choice out of a list of strings or of numbers; a drawn integer.
  A choice out of a list of numbers; a draw of one in so many.
  A slice of bytes that came in, as the draws take it.
  spec.l6Base, spec.l6Bent and the draws that use them: signatures that are drawn.
  A signature that is being drawn: what holds of it on the way. No walk.
-/
import Derived.Test.YtcmhiindjponcaaQ2
import Derived.Test.YtcmhiindjponcaaQ3
import Derived.WalkLawsBesides
import Derived.Lib.Hide
import Derived.BigQuiet
import Derived.Deep.QuietTactic
import Derived.ProofKit
import Derived.OwnWalk
import Derived.Laws.AppendOwn
import Derived.Deep.AppendLies
import Derived.OrdersHeld
import Derived.Deep.RegionHeld
namespace Go.Proofs.Ytcmhiindjponcaa
open Go.RowKit

theorem ofInt64_nat (m : Nat) (h : m < 18446744073709551616) : (BitVec.ofInt 64 (m : Int)).toNat = m := by
  rw [BitVec.ofInt_natCast, BitVec.toNat_ofNat]; exact Nat.mod_eq_of_lt h
theorem and_small (a : Int) (m : Nat) (hm : m < 4611686018427387904) : 0 ≤ bits .and .i64 a (m : Int) ∧ bits .and .i64 a (m : Int) ≤ m := by
  have e : bits .and .i64 a (m : Int) = IntKind.i64.wrap ((BitVec.ofInt 64 a &&& BitVec.ofInt 64 (m : Int)).toNat : Int) := rfl
  have hle : (BitVec.ofInt 64 a &&& BitVec.ofInt 64 (m : Int)).toNat ≤ m := by
    rw [BitVec.toNat_and, ofInt64_nat m (by omega)]; exact Nat.and_le_right
  rw [e, IntWalk.i64_in _ (by omega)]
  omega

theorem and_255 (a : Int) : 0 ≤ bits .and .i64 a 255 ∧ bits .and .i64 a 255 ≤ 255 := by simpa using and_small a 255 (by decide)

/-- The bytes of a draw: the slice value cv of len bytes, all of whose cells hold bytes, below block B. -/
def CodeAt (w : World) (B : Nat) (cv : Value) (len : Nat) : Prop :=
  len ≤ 1048576 ∧ ∃ a cap, cv = .slice a len cap ∧ (len = 0 ∨ ∃ b o, a = some ⟨b, o, none⟩ ∧ b < B ∧ ∀ j, j < len → ∃ z : Int, 0 ≤ z ∧ z ≤ 255 ∧ w.cell? ⟨b, o + j, none⟩ = some (.int .u8 z))
/-- The cursor in block B over these bytes. -/
def CurAt (w : World) (B : Nat) (cv : Value) (len : Nat) : Prop :=
  ∃ (i : Nat) (h : Int), i ≤ len ∧ w.heap[B]? = some (.cells #[cv, .int .i64 i, .int .i64 h] 127 (0, 0))

theorem CodeAt.grown {w w' : World} {B : Nat} {cv : Value} {len : Nat} (h : CodeAt w B cv len) (hB : B < w.heap.size) (hg : w.grownBy w' (some B)) : CodeAt w' B cv len := by
  obtain ⟨h1, a, cap, rfl, h2⟩ := h
  refine ⟨h1, a, cap, rfl, ?_⟩
  rcases h2 with h2 | ⟨b, o, rfl, hb, hc⟩
  · exact Or.inl h2
  · refine Or.inr ⟨b, o, rfl, hb, fun j hj => ?_⟩
    obtain ⟨z, z0, z1, hz⟩ := hc j hj
    exact ⟨z, z0, z1, hg.cell hz (by simp; have := hB; omega)⟩

/-- What a draw of a number hands back. -/
def NumEnd (lo hi : Int) (B : Nat) (cv : Value) (len : Nat) (w : World) (e : Ending) (w' : World) : Prop :=
  ∃ x : Int, e = .returned (.int .i64 x) ∧ lo ≤ x ∧ x ≤ hi ∧ CurAt w' B cv len ∧ w.grownBy w' (some B)

theorem grown_set (w : World) (B j : Nat) (v : Value) : w.grownBy (w.setCell ⟨B, j, none⟩ v) (some B) :=
  ⟨rfl, rfl, rfl, by simp [World.setCell], fun k _ hk => Below.heap_setCell _ _ _ _ (fun e => hk (by rw [e]))⟩

theorem grown_drewN {w w' : World} {row : Option Nat} (h : w.grownBy w' row) (q : Nat) : w.grownBy (w'.drewN q) row := ⟨h.os, h.tape, h.output, h.size, h.block⟩
theorem fin_one {w : World} {B len : Nat} {cv : Value} {i : Nat} {h v x : Int} (hi : i ≤ len) (hB : w.heap[B]? = some (.cells #[cv, .int .i64 i, .int .i64 h] 127 (0, 0))) (hx : 0 ≤ x ∧ x ≤ 255) (q r : Nat) :
    NumEnd 0 255 B cv len w (.returned (.int .i64 x)) (((w.setCell ⟨B, 2, none⟩ (.int .i64 v)).drewN q).drewN r) :=
  ⟨x, rfl, hx.1, hx.2, ⟨i, v, hi, heap_setCell_same w B 2 _ _ (.int .i64 v) hB⟩, grown_drewN (grown_drewN (grown_set w B 2 _) q) r⟩
theorem fin_two {w : World} {B len : Nat} {cv : Value} {i : Nat} {h v x : Int} (hi : i < len) (hB : w.heap[B]? = some (.cells #[cv, .int .i64 i, .int .i64 h] 127 (0, 0))) (hx : 0 ≤ x ∧ x ≤ 255) (q : Nat) :
    NumEnd 0 255 B cv len w (.returned (.int .i64 x)) (((w.setCell ⟨B, 2, none⟩ (.int .i64 v)).setCell ⟨B, 1, none⟩ (.int .i64 ((i : Int) + 1))).drewN q) := by
  have h1 := heap_setCell_same w B 2 _ _ (.int .i64 v) hB
  exact ⟨x, rfl, hx.1, hx.2, ⟨i + 1, v, hi, heap_setCell_same (w.setCell ⟨B, 2, none⟩ (.int .i64 v)) B 1 _ _ (.int .i64 ((i : Int) + 1)) h1⟩, grown_drewN (grown_trans (grown_set w B 2 _) (grown_set _ B 1 _)) q⟩

set_option maxRecDepth 100000 in
set_option maxHeartbeats 800000 in
theorem byte_any (B : Nat) (cv : Value) (len : Nat) (w : World) (hcode : CodeAt w B cv len) (hcur : CurAt w B cv len) :
    Calls Try.prog 110 #[.pointer (some ⟨B, 0, none⟩)] w (NumEnd 0 255 B cv len w) := by
  obtain ⟨i, h, hi, hB⟩ := hcur
  obtain ⟨hlen, a, cap, rfl, hc⟩ := hcode
  have c0 : w.cell? ⟨B, 0, none⟩ = some (.slice a len cap) := by rw [cell_of_row w B 0 _ _ _ hB]; rfl
  have c1 : w.cell? ⟨B, 1, none⟩ = some (.int .i64 i) := by rw [cell_of_row w B 1 _ _ _ hB]; rfl
  have c2 : w.cell? ⟨B, 2, none⟩ = some (.int .i64 h) := by rw [cell_of_row w B 2 _ _ _ hB]; rfl
  have f1 : w.frozen? ⟨B, 1, none⟩ = false := frozen_of_row w B 1 _ _ hB
  have f2 : w.frozen? ⟨B, 2, none⟩ = false := frozen_of_row w B 2 _ _ hB
  have HB := Lib.hid hB; clear hB
  by_cases hlt : i < len
  · have hd : decide ((i : Int) < (len : Int)) = true := by simp; omega
    rcases hc with h0 | ⟨b, o, rfl, hb, hc⟩
    · omega
    · obtain ⟨z, z0, z1, hz⟩ := hc i hlt
      clear hc
      have hne : b ≠ B := by omega
      clear hb
      go_enter Try.func110, Try.ntmps110
      go_wp2
      go_quiet (fail)
      go_wp2
      go_quiet (fail)
      go_wp2
      go_quiet (fail)
      go_wp2
      go_ret
      exact fin_two hlt HB.out (and_255 _) _
  · have hd : decide ((i : Int) < (len : Int)) = false := by simp; omega
    clear hc
    go_enter Try.func110, Try.ntmps110
    go_wp2
    go_quiet (fail)
    go_wp2
    go_quiet (fail)
    go_wp2
    go_ret
    exact fin_one hi HB.out (and_255 _) _ _

/-- What a draw leaves: the cursor over the same bytes, the bytes as they were. -/
theorem CurAt.lt {w : World} {B : Nat} {cv : Value} {len : Nat} (h : CurAt w B cv len) : B < w.heap.size := by
  obtain ⟨i, h, _, hB⟩ := h
  exact (Array.getElem?_eq_some_iff.1 hB).1

theorem mod_in (x : Int) {n : Nat} (h : 1 ≤ n) : 0 ≤ x % (n : Int) ∧ x % (n : Int) ≤ (n : Int) - 1 := by
  have h1 := Int.emod_nonneg x (show (n : Int) ≠ 0 by omega)
  have h2 := Int.emod_lt_of_pos x (show (0 : Int) < (n : Int) by omega)
  omega

set_option maxRecDepth 100000 in
set_option maxHeartbeats 800000 in
theorem below_any (B : Nat) (cv : Value) (len n : Nat) (w : World) (hn1 : 1 ≤ n) (hn2 : n ≤ 1000000) (hcode : CodeAt w B cv len) (hcur : CurAt w B cv len) :
    Calls Try.prog 88 #[.pointer (some ⟨B, 0, none⟩), .int .i64 n] w (NumEnd 0 ((n : Int) - 1) B cv len w) := by
  have HC := Lib.hid hcode; clear hcode
  have HU := Lib.hid hcur; clear hcur
  by_cases hs : n ≤ 256
  · go_enter Try.func88, Try.ntmps88
    go_wp2_with fail
    refine (byte_any B cv len _ HC.out HU.out).mono ?_
    rintro e w1 ⟨x, rfl, x0, x1, hu1, hg1⟩
    have HU1 := Lib.hid hu1; clear hu1
    have HG1 := Lib.hid hg1; clear hg1
    go_wp2
    go_ret
    exact ⟨x % (n : Int), rfl, (mod_in x hn1).1, (mod_in x hn1).2, HU1.out, HG1.out⟩
  · go_enter Try.func88, Try.ntmps88
    go_wp2_with fail
    refine (byte_any B cv len _ HC.out HU.out).mono ?_
    rintro e w1 ⟨x, rfl, x0, x1, hu1, hg1⟩
    have HU1 := Lib.hid hu1; clear hu1
    have HG1 := Lib.hid hg1; clear hg1
    go_wp2_with fail
    refine (byte_any B cv len _ (HC.out.grown HU.out.lt HG1.out) HU1.out).mono ?_
    rintro e w2 ⟨y, rfl, y0, y1, hu2, hg2⟩
    have HU2 := Lib.hid hu2; clear hu2
    have HG2 := Lib.hid (grown_trans HG1.out hg2); clear hg2
    go_wp2_with fail
    refine (byte_any B cv len _ (HC.out.grown HU.out.lt HG2.out) HU2.out).mono ?_
    rintro e w3 ⟨z, rfl, z0, z1, hu3, hg3⟩
    have HU3 := Lib.hid hu3; clear hu3
    have HG3 := Lib.hid (grown_trans HG2.out hg3); clear hg3
    go_wp2_with fail
    refine (byte_any B cv len _ (HC.out.grown HU.out.lt HG3.out) HU3.out).mono ?_
    rintro e w4 ⟨v, rfl, v0, v1, hu4, hg4⟩
    have HU4 := Lib.hid hu4; clear hu4
    have HG4 := Lib.hid (grown_trans HG3.out hg4); clear hg4
    go_wp2
    go_ret
    exact ⟨(x * 16777216 + y * 65536 + z * 256 + v) % (n : Int), rfl, (mod_in _ hn1).1, (mod_in _ hn1).2, HU4.out, HG4.out⟩
end Go.Proofs.Ytcmhiindjponcaa
namespace Go.Proofs.Ytcmhiindjponcaa
open Go.RowKit

def NewEnd (cv : Value) (len : Nat) (w : World) (e : Ending) (w' : World) : Prop :=
  e = .returned (.pointer (some ⟨w.heap.size, 0, none⟩)) ∧ CurAt w' w.heap.size cv len ∧ Below w.heap.size w w' ∧ w.heap.size < w'.heap.size

theorem and_30 (a : Int) : 0 ≤ bits .and .i64 a 1073741823 ∧ bits .and .i64 a 1073741823 ≤ 1073741823 := by simpa using and_small a 1073741823 (by decide)

theorem newEnd_of {w : World} {cv : Value} {len : Nat} (x : Int) : NewEnd cv len w (.returned (.pointer (some ⟨w.heap.size, 0, none⟩))) (w.alloc (.cells #[cv, .int .i64 0, .int .i64 x] 127)) := by
  refine ⟨rfl, ⟨0, x, Nat.zero_le _, ?_⟩, (Below.refl _ _).alloc (Nat.le_refl _) _, by simp⟩
  show (w.heap.push _)[w.heap.size]? = _
  simp

set_option maxRecDepth 100000 in
set_option maxHeartbeats 800000 in
theorem new_any (cv : Value) (len : Nat) (w : World) (hcode : CodeAt w w.heap.size cv len) :
    Calls Try.prog 44 #[cv] w (NewEnd cv len w) := by
  obtain ⟨hlen, a, cap, rfl, hc⟩ := hcode
  have HC := Lib.hid hc; clear hc
  go_enter Try.func44, Try.ntmps44
  go_wp2
  go_loop [3, 4] (fun q i => ∃ (k : Nat) (x : Int), k ≤ len ∧ i = .int .i64 k ∧ q = .int .i64 x ∧ 0 ≤ x ∧ x ≤ 1073741823) (fun _ i => len - (intOf i).toNat)
  case atStart => exact ⟨0, 26583 + len, Nat.zero_le _, rfl, rfl, by omega, by omega⟩
  case round =>
    obtain ⟨k, x, hk, rfl, rfl, hx0, hx1⟩ := hrel
    by_cases hgo : k < len ∧ k < 4000
    · obtain ⟨hlt, hlt2⟩ := hgo
      rcases HC.out with h0 | ⟨b, o, rfl, hb, hc⟩
      · omega
      · obtain ⟨z, z0, z1, hz⟩ := hc k hlt
        clear hc hb
        have hm := and_30 (x * 131 + z + 7)
        obtain ⟨hm0, hm1⟩ := hm
        go_wp2
        go_round
        case rel => exact ⟨k + 1, bits .and .i64 (x * 131 + z + 7) 1073741823, by omega, by go_num, rfl, hm0, hm1⟩
        case measure => simp [intOf]; omega
    · by_cases hlt : k < len
      · have hlt2 : ¬ k < 4000 := by omega
        clear hgo
        go_wp2
        go_ret
        exact newEnd_of _
      · clear hgo
        go_wp2
        go_ret
        exact newEnd_of _

def PickEnd (vs : List Value) (B : Nat) (cv : Value) (len : Nat) (w : World) (e : Ending) (w' : World) : Prop :=
  ∃ v, v ∈ vs ∧ e = .returned v ∧ CurAt w' B cv len ∧ w.grownBy w' (some B)

set_option maxRecDepth 100000 in
set_option maxHeartbeats 800000 in
theorem pick_any (B b cap : Nat) (cv : Value) (len : Nat) (ps : List ByteArray) (w : World) (h1 : 1 ≤ ps.length) (h2 : ps.length ≤ 1000) (hb : b ≠ B)
    (hc : ∀ i p, ps[i]? = some p → w.cell? ⟨b, i, none⟩ = some (.string p)) (hcode : CodeAt w B cv len) (hcur : CurAt w B cv len) :
    Calls Try.prog 47 #[.pointer (some ⟨B, 0, none⟩), .slice (some ⟨b, 0, none⟩) ps.length cap] w (PickEnd (ps.map Value.string) B cv len w) := by
  have HP := Lib.hid hc; clear hc
  have HC := Lib.hid hcode; clear hcode
  have HU := Lib.hid hcur; clear hcur
  go_enter Try.func47, Try.ntmps47
  go_wp2_with fail
  refine (below_any B cv len ps.length _ h1 (by omega) HC.out HU.out).mono ?_
  rintro e w1 ⟨x, rfl, x0, x1, hu1, hg1⟩
  obtain ⟨k, rfl⟩ : ∃ k : Nat, x = (k : Int) := ⟨x.toNat, by omega⟩
  have hk : k < ps.length := by omega
  obtain ⟨p, hp⟩ : ∃ p, ps[k]? = some p := ⟨_, List.getElem?_eq_getElem hk⟩
  have hcell : w1.cell? ⟨b, k, none⟩ = some (.string p) := hg1.cell (HP.out k p hp) (by simpa using hb)
  have HM := Lib.hid (List.mem_map_of_mem (f := Value.string) (List.mem_of_getElem? hp)); clear hp
  have HU1 := Lib.hid hu1; clear hu1
  have HG1 := Lib.hid hg1; clear hg1
  go_wp2
  go_ret
  exact ⟨_, HM.out, rfl, HU1.out, HG1.out⟩

theorem new_ints (w : World) (zs : List Int) (t : TypeId) : ∀ i z, zs[i]? = some z → (w.alloc (.cells (zs.map (Value.int .i64)).toArray t)).cell? ⟨w.heap.size, i, none⟩ = some (.int .i64 z) := fun i z h => by
  rw [World.cell?_alloc_mark w (zs.map (Value.int .i64)).toArray t (0, 0) i]
  simp [h]
theorem new_strs (w : World) (ps : List ByteArray) (t : TypeId) : ∀ i p, ps[i]? = some p → (w.alloc (.cells (ps.map Value.string).toArray t)).cell? ⟨w.heap.size, i, none⟩ = some (.string p) := fun i p h => by
  rw [World.cell?_alloc_mark w (ps.map Value.string).toArray t (0, 0) i]
  simp [h]
theorem CurAt.alloc {w : World} {B : Nat} {cv : Value} {len : Nat} (h : CurAt w B cv len) (o : Obj) : CurAt (w.alloc o) B cv len := by
  have hl := h.lt
  obtain ⟨i, x, hi, hB⟩ := h
  exact ⟨i, x, hi, by rw [Below.heap_alloc _ _ _ hl]; exact hB⟩
theorem CodeAt.alloc {w : World} {B : Nat} {cv : Value} {len : Nat} (h : CodeAt w B cv len) (hB : B < w.heap.size) (o : Obj) : CodeAt (w.alloc o) B cv len :=
  h.grown hB (World.grownBy_alloc w o (some B))

/-- A slice of bytes that came in serves in every later world. -/
theorem CodeAt.below {w w' : World} {cv : Value} {len : Nat} (h : CodeAt w w.heap.size cv len) (hb : Below w.heap.size w w') : CodeAt w' w'.heap.size cv len := by
  obtain ⟨h1, a, cap, rfl, h2⟩ := h
  refine ⟨h1, a, cap, rfl, ?_⟩
  rcases h2 with h2 | ⟨b, o, rfl, hlt, hc⟩
  · exact Or.inl h2
  · refine Or.inr ⟨b, o, rfl, Nat.lt_of_lt_of_le hlt hb.size, fun j hj => ?_⟩
    obtain ⟨z, z0, z1, hz⟩ := hc j hj
    exact ⟨z, z0, z1, by rw [hb.cell (by exact hlt)]; exact hz⟩
theorem CodeAt.at_new {w w' : World} {cv : Value} {len : Nat} (h : CodeAt w w.heap.size cv len) (hb : Below w.heap.size w w') : CodeAt w' w.heap.size cv len := by
  obtain ⟨h1, a, cap, rfl, h2⟩ := h
  refine ⟨h1, a, cap, rfl, ?_⟩
  rcases h2 with h2 | ⟨b, o, rfl, hlt, hc⟩
  · exact Or.inl h2
  · refine Or.inr ⟨b, o, rfl, hlt, fun j hj => ?_⟩
    obtain ⟨z, z0, z1, hz⟩ := hc j hj
    exact ⟨z, z0, z1, by rw [hb.cell (by exact hlt)]; exact hz⟩
theorem below_own {w w1 w2 : World} (hb : Below w.heap.size w w1) (hg : w1.grownBy w2 (some w.heap.size)) : Below w.heap.size w w2 :=
  hb.grown hg hb.size (fun k hk => by cases hk; exact Nat.le_refl _)
end Go.Proofs.Ytcmhiindjponcaa
namespace Go.Proofs.Ytcmhiindjponcaa
open Go.RowKit

set_option maxRecDepth 100000 in
set_option maxHeartbeats 800000 in
theorem pickInt_any (B b cap : Nat) (cv : Value) (len : Nat) (zs : List Int) (w : World) (h1 : 1 ≤ zs.length) (h2 : zs.length ≤ 1000) (hb : b ≠ B)
    (hc : ∀ i z, zs[i]? = some z → w.cell? ⟨b, i, none⟩ = some (.int .i64 z)) (hcode : CodeAt w B cv len) (hcur : CurAt w B cv len) :
    Calls Try.prog 52 #[.pointer (some ⟨B, 0, none⟩), .slice (some ⟨b, 0, none⟩) zs.length cap] w (PickEnd (zs.map (Value.int .i64)) B cv len w) := by
  have HP := Lib.hid hc; clear hc
  have HC := Lib.hid hcode; clear hcode
  have HU := Lib.hid hcur; clear hcur
  go_enter Try.func52, Try.ntmps52
  go_wp2_with fail
  refine (below_any B cv len zs.length _ h1 (by omega) HC.out HU.out).mono ?_
  rintro e w1 ⟨x, rfl, x0, x1, hu1, hg1⟩
  obtain ⟨k, rfl⟩ : ∃ k : Nat, x = (k : Int) := ⟨x.toNat, by omega⟩
  have hk : k < zs.length := by omega
  obtain ⟨z, hp⟩ : ∃ z, zs[k]? = some z := ⟨_, List.getElem?_eq_getElem hk⟩
  have hcell : w1.cell? ⟨b, k, none⟩ = some (.int .i64 z) := hg1.cell (HP.out k z hp) (by simpa using hb)
  have HM := Lib.hid (List.mem_map_of_mem (f := Value.int .i64) (List.mem_of_getElem? hp)); clear hp
  have HU1 := Lib.hid hu1; clear hu1
  have HG1 := Lib.hid hg1; clear hg1
  go_wp2
  go_ret
  exact ⟨_, HM.out, rfl, HU1.out, HG1.out⟩

def OnceEnd (B : Nat) (cv : Value) (len : Nat) (w : World) (e : Ending) (w' : World) : Prop :=
  ∃ q : Bool, e = .returned (.bool q) ∧ CurAt w' B cv len ∧ w.grownBy w' (some B)

set_option maxRecDepth 100000 in
set_option maxHeartbeats 400000 in
theorem once_any (B : Nat) (cv : Value) (len n : Nat) (w : World) (hn1 : 1 ≤ n) (hn2 : n ≤ 1000000) (hcode : CodeAt w B cv len) (hcur : CurAt w B cv len) :
    Calls Try.prog 89 #[.pointer (some ⟨B, 0, none⟩), .int .i64 n] w (OnceEnd B cv len w) := by
  have HC := Lib.hid hcode; clear hcode
  have HU := Lib.hid hcur; clear hcur
  go_enter Try.func89, Try.ntmps89
  go_wp2_with fail
  refine (below_any B cv len n _ hn1 hn2 HC.out HU.out).mono ?_
  rintro e w1 ⟨x, rfl, x0, x1, hu1, hg1⟩
  have HU1 := Lib.hid hu1; clear hu1
  have HG1 := Lib.hid hg1; clear hg1
  go_wp2
  go_ret
  exact ⟨_, rfl, HU1.out, HG1.out⟩
end Go.Proofs.Ytcmhiindjponcaa
namespace Go.Proofs.Ytcmhiindjponcaa
open Go.RowKit Go.ChangeShapes Go.WideShapes

theorem cByte : Try.prog.cellsOf 5 = 1 := by kernel_rfl
theorem codeAt_nil (W : World) (c : Nat) : CodeAt W W.heap.size (.slice none 0 c) 0 := ⟨by decide, none, c, rfl, Or.inl rfl⟩
theorem codeAt_of_open {W : World} {a : Addr} {len cap : Nat} {zs : List Int} (hl : len ≤ zs.length) (hlen : len ≤ 1048576)
    (hcell : ∀ i, i < zs.length → W.cell? (a.add i) = some (.int .u8 (zs.getD i 0))) (hwf : ∀ n ∈ zs, (Lit.int .u8 n).wf = true) : CodeAt W W.heap.size (.slice (some a) len cap) len := by
  refine ⟨hlen, some a, cap, rfl, ?_⟩
  by_cases h0 : len = 0
  · exact Or.inl h0
  · right
    have h := hcell 0 (by omega)
    have hs := World.cell?_spot h
    have hlt := World.block_lt_of_cell? W _ h
    obtain ⟨b, o, sp⟩ := a
    have hsp : sp = none := by simpa [Addr.add] using hs
    subst hsp
    refine ⟨b, o, rfl, by simpa [Addr.add] using hlt, fun j hj => ?_⟩
    have hx := hcell j (by omega)
    have e : (⟨b, o, none⟩ : Addr).add j = ⟨b, o + j, none⟩ := by
      unfold Addr.add
      split
      · rename_i h; subst h; rfl
      · rfl
    rw [e] at hx
    have hw := hwf (zs.getD j 0) (by
      have hj2 : j < zs.length := by omega
      simp only [List.getD_eq_getElem?_getD, List.getElem?_eq_getElem hj2, Option.getD_some]
      exact List.getElem_mem _)
    have hb : 0 ≤ zs.getD j 0 ∧ zs.getD j 0 ≤ 255 := by simpa [Lit.wf, IntKind.min, IntKind.max, IntKind.signed, IntKind.bits] using hw
    exact ⟨_, hb.1, hb.2, hx⟩
end Go.Proofs.Ytcmhiindjponcaa
namespace Go.Proofs.Ytcmhiindjponcaa
open Go.RowKit

abbrev tE : ByteArray := ⟨#[101]⟩
abbrev tK : ByteArray := ⟨#[107]⟩
abbrev tWord : ByteArray := ⟨#[119, 111, 114, 100]⟩
def baseSorts : List ByteArray := [tE, tK]
def baseOps : List OpD := [⟨⟨#[97]⟩, [], tE⟩, ⟨⟨#[98]⟩, [], tE⟩, ⟨⟨#[103]⟩, [tE], tE⟩, ⟨⟨#[102]⟩, [tE, tE], tE⟩, ⟨⟨#[104]⟩, [tE, tWord], tE⟩, ⟨⟨#[110, 117, 109]⟩, [tWord], tE⟩, ⟨⟨#[116, 111, 112]⟩, [tE], tK⟩]

/-- The slice value u holds the strings ps, in a block other than O and not below lo. -/
def StrsNe (w : World) (O lo : Nat) (u : Value) (ps : List ByteArray) : Prop :=
  ∃ a cap, u = .slice a ps.length cap ∧ (ps = [] ∨ ∃ b o, a = some ⟨b, o, none⟩ ∧ (b ≠ O ∧ lo ≤ b) ∧ ∀ i p, ps[i]? = some p → w.cell? ⟨b, o + i, none⟩ = some (.string p))
theorem StrsNe.at {w : World} {O lo : Nat} {u : Value} {ps : List ByteArray} (h : StrsNe w O lo u ps) : StrsAt w u ps := by
  obtain ⟨a, cap, rfl, h⟩ := h
  rcases h with h | ⟨b, o, rfl, _, h⟩
  · exact ⟨a, cap, rfl, Or.inl h⟩
  · exact ⟨_, cap, rfl, Or.inr ⟨b, o, rfl, h⟩⟩
theorem StrsNe.keep {w w' : World} {O lo : Nat} {u : Value} {ps : List ByteArray} (h : StrsNe w O lo u ps) (hk : ∀ (ad : Addr) (p : ByteArray), ad.block ≠ O → lo ≤ ad.block → w.cell? ad = some (.string p) → w'.cell? ad = some (.string p)) : StrsNe w' O lo u ps := by
  obtain ⟨a, cap, rfl, h⟩ := h
  rcases h with h | ⟨b, o, rfl, hb, h⟩
  · exact ⟨a, cap, rfl, Or.inl h⟩
  · exact ⟨_, cap, rfl, Or.inr ⟨b, o, rfl, hb, fun i p hp => hk _ _ hb.1 hb.2 (h i p hp)⟩⟩
/-- The cells of a row of operators; their arguments lie in blocks other than O. -/
def CellsOps (w : World) (O lo : Nat) : List OpD → List Value → Prop
  | [], vs => vs = []
  | d :: ds, vs => ∃ u rest, vs = .string d.name :: u :: .string d.res :: rest ∧ StrsNe w O lo u d.args ∧ CellsOps w O lo ds rest
theorem CellsOps.keep {w w' : World} {O lo : Nat} (hk : ∀ (ad : Addr) (p : ByteArray), ad.block ≠ O → lo ≤ ad.block → w.cell? ad = some (.string p) → w'.cell? ad = some (.string p)) : ∀ {ds : List OpD} {vs : List Value}, CellsOps w O lo ds vs → CellsOps w' O lo ds vs
  | [], _, e => e
  | _ :: _, _, ⟨u, rest, e, hs, hr⟩ => ⟨u, rest, e, hs.keep hk, hr.keep hk⟩
theorem CellsOps.snoc {w : World} {O lo : Nat} {d : OpD} {u : Value} (hs : StrsNe w O lo u d.args) : ∀ {ds : List OpD} {vs : List Value}, CellsOps w O lo ds vs → CellsOps w O lo (ds ++ [d]) (vs ++ [.string d.name, u, .string d.res])
  | [], _, e => by cases e; exact ⟨u, [], rfl, hs, rfl⟩
  | _ :: _, _, ⟨u', rest, e, hs', hr⟩ => ⟨u', _, by rw [e]; rfl, hs', hr.snoc hs⟩
theorem CellsOps.at {w : World} {O lo : Nat} : ∀ {ds : List OpD} {vs : List Value}, CellsOps w O lo ds vs → ∀ i d, ds[i]? = some d → ∃ u, vs[i * 3]? = some (.string d.name) ∧ vs[i * 3 + 1]? = some u ∧ vs[i * 3 + 2]? = some (.string d.res) ∧ StrsAt w u d.args
  | [], _, _ => by simp
  | _ :: _, _, ⟨u, rest, e, hs, hr⟩ => by
    intro i d hi
    cases i with
    | zero => simp at hi; subst hi; subst e; exact ⟨u, rfl, rfl, rfl, hs.at⟩
    | succ i =>
      simp at hi
      obtain ⟨u', x0, x1, x2, hs'⟩ := hr.at i d hi
      subst e
      exact ⟨u', by rw [show (i + 1) * 3 = i * 3 + 3 by omega]; simpa using x0, by rw [show (i + 1) * 3 + 1 = i * 3 + 1 + 3 by omega]; simpa using x1, by rw [show (i + 1) * 3 + 2 = i * 3 + 2 + 3 by omega]; simpa using x2, hs'⟩
theorem CellsOps.len {w : World} {O lo : Nat} : ∀ {ds : List OpD} {vs : List Value}, CellsOps w O lo ds vs → vs.length = ds.length * 3
  | [], _, e => by cases e; rfl
  | _ :: _, _, ⟨_, rest, e, _, hr⟩ => by subst e; have := hr.len; simp; omega
theorem CellsOps.ops {w : World} {O lo B n : Nat} {v : Value} {ds : List OpD} {vs : List Value} (h : CellsOps w O lo ds vs) (ho : w.ownsRow B 47 3 v n vs) (hn : n = ds.length) : OpsAt w v ds := by
  subst hn
  rcases ho.2 with ⟨rfl, h0⟩ | ⟨g, cap, cur, rfl, _⟩
  · exact ⟨none, 0, by rw [h0], Or.inl (List.eq_nil_of_length_eq_zero h0)⟩
  · refine ⟨_, cap, rfl, Or.inr ⟨g, 0, rfl, fun i d hd => ?_⟩⟩
    obtain ⟨u, x0, x1, x2, hs⟩ := h.at i d hd
    have hi : i < ds.length := (List.getElem?_eq_some_iff.1 hd).1
    refine ⟨u, ?_, ?_, ?_, hs⟩
    · rw [Nat.zero_add, ho.cellAt (i * 3) (by omega), x0]
    · rw [Nat.zero_add, ho.cellAt (i * 3 + 1) (by omega), x1]
    · rw [Nat.zero_add, ho.cellAt (i * 3 + 2) (by omega), x2]

/-- A signature's row of sorts and its row of operators, both the call's own. -/
def OwnSigAt (w0 : World) (u v : Value) (ps : List ByteArray) (ds : List OpD) (w : World) : Prop :=
  ∃ (S O : Nat) (cs co : Nat) (vs : List Value), u = .slice (some ⟨S, 0, none⟩) ps.length cs ∧ v = .slice (some ⟨O, 0, none⟩) ds.length co ∧ S ≠ O ∧ w.ownsRow w0.heap.size 9 1 u ps.length (ps.map Value.string) ∧ w.ownsRow w0.heap.size 47 3 v ds.length vs ∧ CellsOps w O w0.heap.size ds vs ∧ CellsOps w S w0.heap.size ds vs
def BaseEnd (w : World) (e : Ending) (w' : World) : Prop := ∃ u v, e = .returned (sv u v) ∧ OwnSigAt w u v baseSorts baseOps w' ∧ Below w.heap.size w w'

/-- New blocks, one behind the other. -/
def allocs (w : World) : List Obj → World
  | [] => w
  | o :: os => allocs (w.alloc o) os
theorem allocs_low : ∀ (os : List Obj) (w : World) (k : Nat), k < w.heap.size → (allocs w os).heap[k]? = w.heap[k]?
  | [], _, _, _ => rfl
  | o :: os, w, k, h => (allocs_low os (w.alloc o) k (by simp; omega)).trans (Below.heap_alloc w o k h)
theorem allocs_at : ∀ (os : List Obj) (w : World) (i : Nat) (o : Obj), os[i]? = some o → (allocs w os).heap[w.heap.size + i]? = some o
  | [], _, _, _, h => by simp at h
  | o :: os, w, 0, x, h => by
    simp at h
    subst h
    exact (allocs_low os (w.alloc o) w.heap.size (by simp)).trans (heap_new w o rfl)
  | o :: os, w, i + 1, x, h => by
    have h1 := allocs_at os (w.alloc o) i x (by simpa using h)
    have e : (w.alloc o).heap.size + i = w.heap.size + (i + 1) := by simp; omega
    rw [e] at h1
    exact h1
theorem allocs_below : ∀ (os : List Obj) (w : World), Below w.heap.size w (allocs w os)
  | [], _ => Below.refl _ _
  | o :: os, w => by
    have h : Below w.heap.size w (w.alloc o) := (Below.refl _ _).alloc (Nat.le_refl _) _
    exact h.trans ((allocs_below os (w.alloc o)).mono h.size)
theorem strs_row {w : World} {b O : Nat} {ps : List ByteArray} {t : TypeId} (h : w.heap[b]? = some (.cells (ps.map Value.string).toArray t (0, 0))) (lo : Nat) (hb : b ≠ O ∧ lo ≤ b) (c : Nat) : StrsNe w O lo (.slice (some ⟨b, 0, none⟩) ps.length c) ps := by
  refine ⟨_, c, rfl, Or.inr ⟨b, 0, rfl, hb, fun i p hp => ?_⟩⟩
  rw [cell_of_row w b (0 + i) _ _ _ h, Nat.zero_add]
  simp [hp]
theorem strs_nil (w : World) (O lo : Nat) : StrsNe w O lo (.slice none 0 0) [] := ⟨none, 0, rfl, Or.inl rfl⟩

set_option maxRecDepth 100000 in
set_option maxHeartbeats 3200000 in
theorem base_any (w : World) : Calls Try.prog 87 #[] w (BaseEnd w) := by
  go_enter Try.func87, Try.ntmps87
  go_wp2
  (try simp only [Exit.inBlock, Exit.then])
  obtain ⟨F, hF⟩ : ∃ F, F = allocs w [.cells #[.slice (some ⟨w.heap.size + 1, 0, none⟩) 2 2, .slice (some ⟨w.heap.size + 7, 0, none⟩) 7 7] 27, .cells #[.string tE, .string tK] 9, .cells #[.string tE] 9, .cells #[.string tE, .string tE] 9, .cells #[.string tE, .string tWord] 9, .cells #[.string tWord] 9, .cells #[.string tE] 9,
      .cells #[.string ⟨#[97]⟩, .slice none 0 0, .string tE, .string ⟨#[98]⟩, .slice none 0 0, .string tE, .string ⟨#[103]⟩, .slice (some ⟨w.heap.size + 2, 0, none⟩) 1 1, .string tE, .string ⟨#[102]⟩, .slice (some ⟨w.heap.size + 3, 0, none⟩) 2 2, .string tE, .string ⟨#[104]⟩, .slice (some ⟨w.heap.size + 4, 0, none⟩) 2 2, .string tE,
        .string ⟨#[110, 117, 109]⟩, .slice (some ⟨w.heap.size + 5, 0, none⟩) 1 1, .string tE, .string ⟨#[116, 111, 112]⟩, .slice (some ⟨w.heap.size + 6, 0, none⟩) 1 1, .string tK] 47] := ⟨_, rfl⟩
  have h0 : F.heap[w.heap.size + 0]? = some (.cells #[.slice (some ⟨w.heap.size + 1, 0, none⟩) 2 2, .slice (some ⟨w.heap.size + 7, 0, none⟩) 7 7] 27 (0, 0)) := by rw [hF]; exact allocs_at _ w 0 _ rfl
  have h1 : F.heap[w.heap.size + 1]? = some (.cells #[.string tE, .string tK] 9 (0, 0)) := by rw [hF]; exact allocs_at _ w 1 _ rfl
  have h2 : F.heap[w.heap.size + 2]? = some (.cells #[.string tE] 9 (0, 0)) := by rw [hF]; exact allocs_at _ w 2 _ rfl
  have h3 : F.heap[w.heap.size + 3]? = some (.cells #[.string tE, .string tE] 9 (0, 0)) := by rw [hF]; exact allocs_at _ w 3 _ rfl
  have h4 : F.heap[w.heap.size + 4]? = some (.cells #[.string tE, .string tWord] 9 (0, 0)) := by rw [hF]; exact allocs_at _ w 4 _ rfl
  have h5 : F.heap[w.heap.size + 5]? = some (.cells #[.string tWord] 9 (0, 0)) := by rw [hF]; exact allocs_at _ w 5 _ rfl
  have h6 : F.heap[w.heap.size + 6]? = some (.cells #[.string tE] 9 (0, 0)) := by rw [hF]; exact allocs_at _ w 6 _ rfl
  have h7 : F.heap[w.heap.size + 7]? = some (.cells #[.string ⟨#[97]⟩, .slice none 0 0, .string tE, .string ⟨#[98]⟩, .slice none 0 0, .string tE, .string ⟨#[103]⟩, .slice (some ⟨w.heap.size + 2, 0, none⟩) 1 1, .string tE, .string ⟨#[102]⟩, .slice (some ⟨w.heap.size + 3, 0, none⟩) 2 2, .string tE, .string ⟨#[104]⟩, .slice (some ⟨w.heap.size + 4, 0, none⟩) 2 2, .string tE,
        .string ⟨#[110, 117, 109]⟩, .slice (some ⟨w.heap.size + 5, 0, none⟩) 1 1, .string tE, .string ⟨#[116, 111, 112]⟩, .slice (some ⟨w.heap.size + 6, 0, none⟩) 1 1, .string tK] 47 (0, 0)) := by rw [hF]; exact allocs_at _ w 7 _ rfl
  have hb : Below w.heap.size w F := by rw [hF]; exact allocs_below _ w
  generalize hG : World.alloc _ _ = G
  have hFG : F = G := by rw [hF, ← hG]; rfl
  subst hFG
  clear hF hG
  have c0 := cell_of_row F w.heap.size 0 _ _ _ h0
  have c1 := cell_of_row F w.heap.size 1 _ _ _ h0
  simp at c0 c1
  refine bodyPost_ret (v := sv (.slice (some ⟨w.heap.size + 1, 0, none⟩) 2 2) (.slice (some ⟨w.heap.size + 7, 0, none⟩) 7 7)) ?hr rfl ?_
  case hr =>
    rw [results_cell (a := 0) (t := 27) (ad := ⟨w.heap.size, 0, none⟩) rfl rfl]
    go_simp
  refine ⟨_, _, rfl, ⟨w.heap.size + 1, w.heap.size + 7, 2, 7, _, rfl, rfl, by omega, ⟨rfl, Or.inr ⟨w.heap.size + 1, 2, _, rfl, by omega, h1, Nat.le_refl _, by decide, rfl, rfl⟩⟩, ⟨?_, Or.inr ⟨w.heap.size + 7, 7, _, rfl, by omega, h7, Nat.le_refl _, by decide, rfl, rfl⟩⟩, ?_⟩, hb⟩
  · rfl
  · constructor <;> refine ⟨_, _, rfl, strs_nil _ _ _, _, _, rfl, strs_nil _ _ _, _, _, rfl, strs_row (ps := [tE]) h2 _ (by omega) 1, _, _, rfl, strs_row (ps := [tE, tE]) h3 _ (by omega) 2, _, _, rfl, strs_row (ps := [tE, tWord]) h4 _ (by omega) 2, _, _, rfl, strs_row (ps := [tWord]) h5 _ (by omega) 1, _, _, rfl, strs_row (ps := [tE]) h6 _ (by omega) 1, rfl⟩
end Go.Proofs.Ytcmhiindjponcaa
namespace Go.Proofs.Ytcmhiindjponcaa
open Go.RowKit

/-- A signature that was drawn. -/
def BentEnd (B : Nat) (cv : Value) (len : Nat) (w : World) (e : Ending) (w' : World) : Prop :=
  ∃ u v ps ds, e = .returned (sv u v) ∧ SigAt w' (sv u v) ps ds ∧ ps.length ≤ 3 ∧ ds.length ≤ 8 ∧ (∀ d ∈ ds, d.args.length ≤ 4) ∧ CurAt w' B cv len ∧ w.grownBy w' (some B)

theorem CurAt.far {w : World} {B : Nat} {cv : Value} {len : Nat} (h : CurAt w B cv len) {g j : Nat} {v : Value} (hg : B ≠ g) : CurAt (w.setCell ⟨g, j, none⟩ v) B cv len := by
  obtain ⟨i, x, hi, hB⟩ := h
  exact ⟨i, x, hi, by rw [Below.heap_setCell _ _ _ _ hg]; exact hB⟩
theorem grown_far {w wr : World} {B : Nat} (h : w.grownBy wr (some B)) {g j : Nat} {v : Value} (hg : w.heap.size ≤ g) : w.grownBy (wr.setCell ⟨g, j, none⟩ v) (some B) :=
  ⟨h.os, h.tape, h.output, by simpa [World.setCell] using h.size, fun k hk hr => (Below.heap_setCell wr _ v k (fun e => by simp at e; omega)).trans (h.block k hk hr)⟩

theorem bent_fin {w wr : World} {B lo R0 O len : Nat} {cv u v : Value} {ps : List ByteArray} {ds : List OpD} {vs : List Value} (hs : wr.ownsRow lo 9 1 u ps.length (ps.map Value.string)) (ho : wr.ownsRow lo 47 3 v ds.length vs) (hc : CellsOps wr O lo ds vs)
    (h1 : ps.length ≤ 3) (h2 : ds.length ≤ 8) (h3 : ∀ d ∈ ds, d.args.length ≤ 4) (hR : R0 < lo) (hBR : B < R0) (hw : w.heap.size ≤ R0) (hcur : CurAt wr B cv len) (hg : w.grownBy wr (some B)) (v0 v1 : Value) :
    BentEnd B cv len w (.returned (sv u v)) ((wr.setCell ⟨R0, 0, none⟩ v0).setCell ⟨R0, 1, none⟩ v1) := by
  refine ⟨u, v, ps, ds, rfl, ⟨u, v, rfl, StrsAt.of_owns (row_off (row_off hs hR) hR), ?_⟩, h1, h2, h3, (hcur.far (by omega)).far (by omega), grown_far (grown_far hg hw) hw⟩
  refine CellsOps.ops (O := O) (lo := lo) (CellsOps.keep (fun ad v hO hl hv => ?_) hc) (row_off (row_off ho hR) hR) rfl
  rw [World.cell?_setCell_far _ _ _ _ (by show R0 ≠ ad.block; omega), World.cell?_setCell_far _ _ _ _ (by show R0 ≠ ad.block; omega)]
  exact hv

theorem cells_of2 {Y : World} {b : Nat} {x0 x1 : Value} {t : TypeId} (hb : Y.heap[b]? = some (.cells #[x0, x1] t (0, 0))) : (Y.cell? ⟨b, 0, none⟩ = some x0 ∧ Y.cell? ⟨b, 1, none⟩ = some x1) ∧ (Y.frozen? ⟨b, 0, none⟩ = false ∧ Y.frozen? ⟨b, 1, none⟩ = false) :=
  ⟨⟨by rw [cell_of_row Y b 0 _ _ _ hb]; rfl, by rw [cell_of_row Y b 1 _ _ _ hb]; rfl⟩, frozen_of_row Y b 0 _ _ hb, frozen_of_row Y b 1 _ _ hb⟩

/-- What is there when the draw has told which way the signature is bent. -/
def Mid (B : Nat) (cv : Value) (len : Nat) (w : World) (X S O cs co : Nat) (vs : List Value) (wr : World) : Prop :=
  (wr.heap[X]? = some (.cells #[.slice (some ⟨S, 0, none⟩) 2 cs, .slice (some ⟨O, 0, none⟩) 7 co] 27 (0, 0)) ∧ wr.heap[w.heap.size]? = some (.cells #[.slice none 0 0, .slice none 0 0] 27 (0, 0))) ∧
  (wr.ownsRow (w.heap.size + 1) 9 1 (.slice (some ⟨S, 0, none⟩) 2 cs) 2 (baseSorts.map Value.string) ∧ wr.ownsRow (w.heap.size + 1) 47 3 (.slice (some ⟨O, 0, none⟩) 7 co) 7 vs ∧ CellsOps wr O (w.heap.size + 1) baseOps vs ∧ CellsOps wr S (w.heap.size + 1) baseOps vs) ∧
  CurAt wr B cv len ∧ w.grownBy wr (some B) ∧ CodeAt wr B cv len


theorem Mid.kept {B len X S O cs co : Nat} {cv : Value} {w W wr : World} {vs : List Value} (h : Mid B cv len w X S O cs co vs W) (hB : B < w.heap.size) (hX : w.heap.size + 1 ≤ X) (hS : w.heap.size + 1 ≤ S) (hO : w.heap.size + 1 ≤ O) (hg : W.grownBy wr (some B)) (hu : CurAt wr B cv len) : Mid B cv len w X S O cs co vs wr := by
  obtain ⟨⟨m1, m2⟩, ⟨m3, m4, m5⟩, m6, m7, m8⟩ := h
  refine ⟨⟨?_, ?_⟩, ⟨m3.kept hg (Or.inr (fun e => by simp [Value.ownBlock] at e; omega)), m4.kept hg (Or.inr (fun e => by simp [Value.ownBlock] at e; omega)), CellsOps.keep (fun ad v _ hl hv => hg.cell hv (fun e => by simp at e; omega)) m5.1, CellsOps.keep (fun ad v _ hl hv => hg.cell hv (fun e => by simp at e; omega)) m5.2⟩, hu, grown_trans m7 hg, m8.grown (by have := m7.size; omega) hg⟩
  · exact (hg.block _ (Array.getElem?_eq_some_iff.1 m1).1 (fun e => by simp at e; omega)).trans m1
  · exact (hg.block _ (Array.getElem?_eq_some_iff.1 m2).1 (fun e => by simp at e; omega)).trans m2

/-- What is there when the signature is bent. -/
def MidG (B : Nat) (cv : Value) (len : Nat) (w : World) (X : Nat) (wr : World) : Prop :=
  ∃ (u v : Value) (ps : List ByteArray) (ds : List OpD) (vs : List Value) (O : Nat), (wr.heap[X]? = some (.cells #[u, v] 27 (0, 0)) ∧ wr.heap[w.heap.size]? = some (.cells #[.slice none 0 0, .slice none 0 0] 27 (0, 0))) ∧
    (wr.ownsRow (w.heap.size + 1) 9 1 u ps.length (ps.map Value.string) ∧ wr.ownsRow (w.heap.size + 1) 47 3 v ds.length vs ∧ CellsOps wr O (w.heap.size + 1) ds vs) ∧ (ps.length ≤ 3 ∧ ds.length ≤ 8 ∧ ∀ d ∈ ds, d.args.length ≤ 4) ∧ CurAt wr B cv len ∧ w.grownBy wr (some B)

theorem CellsOps.store {w : World} {O lo X : Nat} {u : Value} (hx : ∃ a n c, w.cell? ⟨X, 1, none⟩ = some (.slice a n c)) {ds : List OpD} {vs : List Value} (h : CellsOps w O lo ds vs) : CellsOps (w.setCell ⟨X, 1, none⟩ u) O lo ds vs :=
  CellsOps.keep (fun ad p _ _ hv => by
    by_cases e : ad = ⟨X, 1, none⟩
    · subst e
      obtain ⟨a, n, c, hx⟩ := hx
      rw [hx] at hv; simp at hv
    · rw [World.cell?_setCell_other _ _ _ _ (fun e2 => e e2.symm)]; exact hv) h

/-- An operator more. -/
theorem MidG.more {B len X S O cs co g cap q bB : Nat} {cv : Value} {w wr w6 : World} {vs : List Value} {sA sC : ByteArray} (h : Mid B cv len w X S O cs co vs wr) (hB : B < w.heap.size) (hX : w.heap.size + 1 ≤ X) (hO : w.heap.size + 1 ≤ O) (hXO : X ≠ O) (hXS : X ≠ S) (hSO : S ≠ O)
    (hb1 : w.heap.size + 1 ≤ bB) (hb2 : bB ≠ O) (hb3 : wr.heap[bB]? = some (.cells #[.string tE, .string tE, .string tE, .string tE] 9 (0, 0))) (hq : q ≤ 4)
    (ho : w6.ownsRow (w.heap.size + 1) 47 3 (.slice (some ⟨g, 0, none⟩) (7 + 1) cap) (7 + 1) (vs ++ [.string sA, .slice (some ⟨bB, 0, none⟩) q 4, .string sC])) (hg : wr.grownBy w6 (some O)) (hgg : some O = some g ∨ g = wr.heap.size) :
    MidG B cv len w X (w6.setCell ⟨X, 1, none⟩ (.slice (some ⟨g, 0, none⟩) (7 + 1) cap)) := by
  obtain ⟨⟨m1, m2⟩, ⟨m3, m4, m5⟩, m6, m7, m8⟩ := h
  have hXl := (Array.getElem?_eq_some_iff.1 m1).1
  have hRl := (Array.getElem?_eq_some_iff.1 m2).1
  have hSl := (m3.lt S rfl)
  have hBl := m6.lt
  have x1 : w6.heap[X]? = some (.cells #[.slice (some ⟨S, 0, none⟩) 2 cs, .slice (some ⟨O, 0, none⟩) 7 co] 27 (0, 0)) := (hg.block X hXl (fun e => by simp at e; omega)).trans m1
  have hgX : g ≠ X := by
    rcases hgg with e | e
    · injection e with e; omega
    · omega
  refine ⟨.slice (some ⟨S, 0, none⟩) 2 cs, .slice (some ⟨g, 0, none⟩) (7 + 1) cap, baseSorts, baseOps ++ [⟨sA, ([tE, tE, tE, tE] : List ByteArray).take q, sC⟩], vs ++ [.string sA, .slice (some ⟨bB, 0, none⟩) q 4, .string sC], O, ⟨?_, ?_⟩, ⟨?_, ?_, ?_⟩, ⟨by decide, by simp [baseOps], ?_⟩, ?_, ?_⟩
  · exact heap_setCell_same w6 X 1 _ _ _ x1
  · rw [Below.heap_setCell _ _ _ _ (by show w.heap.size ≠ X; omega)]
    exact (hg.block _ hRl (fun e => by simp at e; omega)).trans m2
  · exact row_keep' (m3.kept hg (Or.inr (fun e => by simp [Value.ownBlock] at e; omega))) (fun b hb => by
      simp [Value.ownBlock] at hb
      rw [Below.heap_setCell _ _ _ _ (by show b ≠ X; omega)])
  · exact row_keep' ho (fun b hb => by
      simp [Value.ownBlock] at hb
      rw [Below.heap_setCell _ _ _ _ (by show b ≠ X; omega)])
  · refine CellsOps.store ⟨some ⟨O, 0, none⟩, 7, co, by rw [cell_of_row _ _ 1 _ _ _ x1]; rfl⟩ (CellsOps.snoc ?_ (CellsOps.keep (fun ad p hO' _ hv => hg.cell hv (fun e => by simp at e; omega)) m5.1))
    have hr : w6.heap[bB]? = some (.cells #[.string tE, .string tE, .string tE, .string tE] 9 (0, 0)) := (hg.block bB (Array.getElem?_eq_some_iff.1 hb3).1 (fun e => by simp at e; omega)).trans hb3
    have hl : (([tE, tE, tE, tE] : List ByteArray).take q).length = q := by simp; omega
    refine ⟨_, 4, by show _ = Value.slice _ (List.take q _).length 4; rw [hl], Or.inr ⟨bB, 0, rfl, ⟨hb2, hb1⟩, fun i p hp => ?_⟩⟩
    have hp4 : ([tE, tE, tE, tE] : List ByteArray)[i]? = some p := by
      have hp' : (List.take q ([tE, tE, tE, tE] : List ByteArray))[i]? = some p := hp
      rw [List.getElem?_take] at hp'
      split at hp'
      · exact hp'
      · simp at hp'
    rw [Nat.zero_add, cell_of_row w6 bB i _ _ _ hr]
    match i, hp4 with
    | 0, h => simp at h; subst h; rfl
    | 1, h => simp at h; subst h; rfl
    | 2, h => simp at h; subst h; rfl
    | 3, h => simp at h; subst h; rfl
    | i + 4, h => simp at h
  · intro d hd
    rcases List.mem_append.1 hd with h | h
    · exact (by decide : ∀ d ∈ baseOps, d.args.length ≤ 4) d h
    · simp at h; subst h; simp; omega
  · obtain ⟨i, x, hi, hBB⟩ := m6
    refine CurAt.far ⟨i, x, hi, (hg.block B (Array.getElem?_eq_some_iff.1 hBB).1 (fun e => by simp at e; omega)).trans hBB⟩ (by omega)
  · refine grown_far ⟨hg.os.trans m7.os, hg.tape.trans m7.tape, hg.output.trans m7.output, Nat.le_trans m7.size hg.size, fun k hk hr => (hg.block k (by have := m7.size; omega) (fun e => by simp at e; omega)).trans (m7.block k hk hr)⟩ (by omega)

/-- The end: the result's box is written. -/
theorem MidG.fin {B len X : Nat} {cv : Value} {w wr : World} (h : MidG B cv len w X wr) (hB : B < w.heap.size) :
    ∃ u v, ((wr.cell? ⟨X, 0, none⟩ = some u ∧ wr.cell? ⟨X, 1, none⟩ = some v) ∧ (wr.cell? ⟨w.heap.size, 0, none⟩ = some (.slice none 0 0) ∧ wr.cell? ⟨w.heap.size, 1, none⟩ = some (.slice none 0 0)) ∧ (wr.frozen? ⟨w.heap.size, 0, none⟩ = false ∧ wr.frozen? ⟨w.heap.size, 1, none⟩ = false)) ∧
      (∃ a n c, u = .slice a n c) ∧ (∃ a n c, v = .slice a n c) ∧ ∀ v0 v1, BentEnd B cv len w (.returned (sv u v)) ((wr.setCell ⟨w.heap.size, 0, none⟩ v0).setCell ⟨w.heap.size, 1, none⟩ v1) := by
  obtain ⟨u, v, ps, ds, vs, O, ⟨m1, m2⟩, ⟨m3, m4, m5⟩, ⟨l1, l2, l3⟩, m6, m7⟩ := h
  obtain ⟨⟨c0, c1⟩, _⟩ := cells_of2 m1
  obtain ⟨d0, d1⟩ := cells_of2 m2
  refine ⟨u, v, ⟨⟨c0, c1⟩, d0, d1⟩, ?_, ?_, fun v0 v1 => bent_fin m3 m4 m5 l1 l2 l3 (by omega) hB (Nat.le_refl _) m6 m7 v0 v1⟩
  · rcases m3.2 with ⟨e, _⟩ | ⟨g, c, _, e, _⟩ <;> exact ⟨_, _, _, e⟩
  · rcases m4.2 with ⟨e, _⟩ | ⟨g, c, _, e, _⟩ <;> exact ⟨_, _, _, e⟩
end Go.Proofs.Ytcmhiindjponcaa
