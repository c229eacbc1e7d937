/-
  A new cursor; a choice out of a list of strings or of numbers; a drawn integer.
-/
import Derived.Test.YtjdcehnjdfhbnaaDoorDraw
import Derived.BigQuiet
import Derived.Deep.QuietTactic
namespace Go.Proofs.YtjdcehnjdfhbnaaDoor
open Go.RowKit

def NewEnd (cv : Value) (len : Nat) (w : World) (e : Ending) (w' : World) : Prop :=
  e = .returned (.pointer (some ⟨w.heap.size, 0, none⟩)) ∧ CurAt w' w.heap.size cv len ∧ Below w.heap.size w w' ∧ w.heap.size < w'.heap.size

theorem and_30 (a : Int) : 0 ≤ bits .and .i64 a 1073741823 ∧ bits .and .i64 a 1073741823 ≤ 1073741823 := by simpa using and_small a 1073741823 (by decide)

theorem newEnd_of {w : World} {cv : Value} {len : Nat} (x : Int) : NewEnd cv len w (.returned (.pointer (some ⟨w.heap.size, 0, none⟩))) (w.alloc (.cells #[cv, .int .i64 0, .int .i64 x] 51)) := by
  refine ⟨rfl, ⟨0, x, Nat.zero_le _, ?_⟩, (Below.refl _ _).alloc (Nat.le_refl _) _, by simp⟩
  show (w.heap.push _)[w.heap.size]? = _
  simp

set_option maxRecDepth 100000 in
set_option maxHeartbeats 800000 in
theorem new_any (cv : Value) (len : Nat) (w : World) (hcode : CodeAt w w.heap.size cv len) :
    Calls Tryd.prog 26 #[cv] w (NewEnd cv len w) := by
  obtain ⟨hlen, a, cap, rfl, hc⟩ := hcode
  have HC := Lib.hid hc; clear hc
  go_enter Tryd.func26, Tryd.ntmps26
  go_wp2
  go_loop [3, 4] (fun q i => ∃ (k : Nat) (x : Int), k ≤ len ∧ i = .int .i64 k ∧ q = .int .i64 x ∧ 0 ≤ x ∧ x ≤ 1073741823) (fun _ i => len - (intOf i).toNat)
  case atStart => exact ⟨0, 26583 + len, Nat.zero_le _, rfl, rfl, by omega, by omega⟩
  case round =>
    obtain ⟨k, x, hk, rfl, rfl, hx0, hx1⟩ := hrel
    by_cases hgo : k < len ∧ k < 4000
    · obtain ⟨hlt, hlt2⟩ := hgo
      rcases HC.out with h0 | ⟨b, o, rfl, hb, hc⟩
      · omega
      · obtain ⟨z, z0, z1, hz⟩ := hc k hlt
        clear hc hb
        have hm := and_30 (x * 131 + z + 7)
        obtain ⟨hm0, hm1⟩ := hm
        go_wp2
        go_round
        case rel => exact ⟨k + 1, bits .and .i64 (x * 131 + z + 7) 1073741823, by omega, by go_num, rfl, hm0, hm1⟩
        case measure => simp [intOf]; omega
    · by_cases hlt : k < len
      · have hlt2 : ¬ k < 4000 := by omega
        clear hgo
        go_wp2
        go_ret
        exact newEnd_of _
      · clear hgo
        go_wp2
        go_ret
        exact newEnd_of _

def PickEnd (vs : List Value) (B : Nat) (cv : Value) (len : Nat) (w : World) (e : Ending) (w' : World) : Prop :=
  ∃ v, v ∈ vs ∧ e = .returned v ∧ CurAt w' B cv len ∧ w.grownBy w' (some B)

set_option maxRecDepth 100000 in
set_option maxHeartbeats 800000 in
theorem pick_any (B b cap : Nat) (cv : Value) (len : Nat) (ps : List ByteArray) (w : World) (h1 : 1 ≤ ps.length) (h2 : ps.length ≤ 1000) (hb : b ≠ B)
    (hc : ∀ i p, ps[i]? = some p → w.cell? ⟨b, i, none⟩ = some (.string p)) (hcode : CodeAt w B cv len) (hcur : CurAt w B cv len) :
    Calls Tryd.prog 31 #[.pointer (some ⟨B, 0, none⟩), .slice (some ⟨b, 0, none⟩) ps.length cap] w (PickEnd (ps.map Value.string) B cv len w) := by
  have HP := Lib.hid hc; clear hc
  have HC := Lib.hid hcode; clear hcode
  have HU := Lib.hid hcur; clear hcur
  go_enter Tryd.func31, Tryd.ntmps31
  go_wp2_with fail
  refine (below_any B cv len ps.length _ h1 (by omega) HC.out HU.out).mono ?_
  rintro e w1 ⟨x, rfl, x0, x1, hu1, hg1⟩
  obtain ⟨k, rfl⟩ : ∃ k : Nat, x = (k : Int) := ⟨x.toNat, by omega⟩
  have hk : k < ps.length := by omega
  obtain ⟨p, hp⟩ : ∃ p, ps[k]? = some p := ⟨_, List.getElem?_eq_getElem hk⟩
  have hcell : w1.cell? ⟨b, k, none⟩ = some (.string p) := hg1.cell (HP.out k p hp) (by simpa using hb)
  have HM := Lib.hid (List.mem_map_of_mem (f := Value.string) (List.mem_of_getElem? hp)); clear hp
  have HU1 := Lib.hid hu1; clear hu1
  have HG1 := Lib.hid hg1; clear hg1
  go_wp2
  go_ret
  exact ⟨_, HM.out, rfl, HU1.out, HG1.out⟩

set_option maxRecDepth 100000 in
set_option maxHeartbeats 800000 in
theorem pickInt_any (B b cap : Nat) (cv : Value) (len : Nat) (zs : List Int) (w : World) (h1 : 1 ≤ zs.length) (h2 : zs.length ≤ 1000) (hb : b ≠ B)
    (hc : ∀ i z, zs[i]? = some z → w.cell? ⟨b, i, none⟩ = some (.int .i64 z)) (hcode : CodeAt w B cv len) (hcur : CurAt w B cv len) :
    Calls Tryd.prog 34 #[.pointer (some ⟨B, 0, none⟩), .slice (some ⟨b, 0, none⟩) zs.length cap] w (PickEnd (zs.map (Value.int .i64)) B cv len w) := by
  have HP := Lib.hid hc; clear hc
  have HC := Lib.hid hcode; clear hcode
  have HU := Lib.hid hcur; clear hcur
  go_enter Tryd.func34, Tryd.ntmps34
  go_wp2_with fail
  refine (below_any B cv len zs.length _ h1 (by omega) HC.out HU.out).mono ?_
  rintro e w1 ⟨x, rfl, x0, x1, hu1, hg1⟩
  obtain ⟨k, rfl⟩ : ∃ k : Nat, x = (k : Int) := ⟨x.toNat, by omega⟩
  have hk : k < zs.length := by omega
  obtain ⟨z, hp⟩ : ∃ z, zs[k]? = some z := ⟨_, List.getElem?_eq_getElem hk⟩
  have hcell : w1.cell? ⟨b, k, none⟩ = some (.int .i64 z) := hg1.cell (HP.out k z hp) (by simpa using hb)
  have HM := Lib.hid (List.mem_map_of_mem (f := Value.int .i64) (List.mem_of_getElem? hp)); clear hp
  have HU1 := Lib.hid hu1; clear hu1
  have HG1 := Lib.hid hg1; clear hg1
  go_wp2
  go_ret
  exact ⟨_, HM.out, rfl, HU1.out, HG1.out⟩

def OnceEnd (B : Nat) (cv : Value) (len : Nat) (w : World) (e : Ending) (w' : World) : Prop :=
  ∃ q : Bool, e = .returned (.bool q) ∧ CurAt w' B cv len ∧ w.grownBy w' (some B)

set_option maxRecDepth 100000 in
set_option maxHeartbeats 400000 in
theorem once_any (B : Nat) (cv : Value) (len n : Nat) (w : World) (hn1 : 1 ≤ n) (hn2 : n ≤ 1000000) (hcode : CodeAt w B cv len) (hcur : CurAt w B cv len) :
    Calls Tryd.prog 30 #[.pointer (some ⟨B, 0, none⟩), .int .i64 n] w (OnceEnd B cv len w) := by
  have HC := Lib.hid hcode; clear hcode
  have HU := Lib.hid hcur; clear hcur
  go_enter Tryd.func30, Tryd.ntmps30
  go_wp2_with fail
  refine (below_any B cv len n _ hn1 hn2 HC.out HU.out).mono ?_
  rintro e w1 ⟨x, rfl, x0, x1, hu1, hg1⟩
  have HU1 := Lib.hid hu1; clear hu1
  have HG1 := Lib.hid hg1; clear hg1
  go_wp2
  go_ret
  exact ⟨_, rfl, HU1.out, HG1.out⟩
end Go.Proofs.YtjdcehnjdfhbnaaDoor
