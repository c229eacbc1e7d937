/-
  A new cursor; a choice out of a list of strings or of numbers; a drawn integer.
-/
import Derived.Test.YtooiiomfahomjaaDraw
import Derived.BigQuiet
import Derived.Deep.QuietTactic
namespace Go.Proofs.Ytooiiomfahomjaa
open Go.RowKit

def NewEnd (cv : Value) (len : Nat) (w : World) (e : Ending) (w' : World) : Prop :=
  e = .returned (.pointer (some ⟨w.heap.size, 0, none⟩)) ∧ CurAt w' w.heap.size cv len ∧ Below w.heap.size w w' ∧ w.heap.size < w'.heap.size

theorem and_30 (a : Int) : 0 ≤ bits .and .i64 a 1073741823 ∧ bits .and .i64 a 1073741823 ≤ 1073741823 := by simpa using and_small a 1073741823 (by decide)

theorem newEnd_of {w : World} {cv : Value} {len : Nat} (x : Int) : NewEnd cv len w (.returned (.pointer (some ⟨w.heap.size, 0, none⟩))) (w.alloc (.cells #[cv, .int .i64 0, .int .i64 x] 71)) := by
  refine ⟨rfl, ⟨0, x, Nat.zero_le _, ?_⟩, (Below.refl _ _).alloc (Nat.le_refl _) _, by simp⟩
  show (w.heap.push _)[w.heap.size]? = _
  simp

set_option maxRecDepth 100000 in
set_option maxHeartbeats 800000 in
theorem new_any (cv : Value) (len : Nat) (w : World) (hcode : CodeAt w w.heap.size cv len) :
    Calls Try.prog 20 #[cv] w (NewEnd cv len w) := by
  obtain ⟨hlen, a, cap, rfl, hc⟩ := hcode
  have HC := Lib.hid hc; clear hc
  go_enter Try.func20, Try.ntmps20
  go_wp2
  go_loop [3, 4] (fun q i => ∃ (k : Nat) (x : Int), k ≤ len ∧ i = .int .i64 k ∧ q = .int .i64 x ∧ 0 ≤ x ∧ x ≤ 1073741823) (fun _ i => len - (intOf i).toNat)
  case atStart => exact ⟨0, 26583 + len, Nat.zero_le _, rfl, rfl, by omega, by omega⟩
  case round =>
    obtain ⟨k, x, hk, rfl, rfl, hx0, hx1⟩ := hrel
    by_cases hgo : k < len ∧ k < 4000
    · obtain ⟨hlt, hlt2⟩ := hgo
      rcases HC.out with h0 | ⟨b, o, rfl, hb, hc⟩
      · omega
      · obtain ⟨z, z0, z1, hz⟩ := hc k hlt
        clear hc hb
        have hm := and_30 (x * 131 + z + 7)
        obtain ⟨hm0, hm1⟩ := hm
        go_wp2
        go_round
        case rel => exact ⟨k + 1, bits .and .i64 (x * 131 + z + 7) 1073741823, by omega, by go_num, rfl, hm0, hm1⟩
        case measure => simp [intOf]; omega
    · by_cases hlt : k < len
      · have hlt2 : ¬ k < 4000 := by omega
        clear hgo
        go_wp2
        go_ret
        exact newEnd_of _
      · clear hgo
        go_wp2
        go_ret
        exact newEnd_of _

def PickEnd (vs : List Value) (B : Nat) (cv : Value) (len : Nat) (w : World) (e : Ending) (w' : World) : Prop :=
  ∃ v, v ∈ vs ∧ e = .returned v ∧ CurAt w' B cv len ∧ w.grownBy w' (some B)

set_option maxRecDepth 100000 in
set_option maxHeartbeats 800000 in
theorem pick_any (B b cap : Nat) (cv : Value) (len : Nat) (ps : List ByteArray) (w : World) (h1 : 1 ≤ ps.length) (h2 : ps.length ≤ 1000) (hb : b ≠ B)
    (hc : ∀ i p, ps[i]? = some p → w.cell? ⟨b, i, none⟩ = some (.string p)) (hcode : CodeAt w B cv len) (hcur : CurAt w B cv len) :
    Calls Try.prog 44 #[.pointer (some ⟨B, 0, none⟩), .slice (some ⟨b, 0, none⟩) ps.length cap] w (PickEnd (ps.map Value.string) B cv len w) := by
  have HP := Lib.hid hc; clear hc
  have HC := Lib.hid hcode; clear hcode
  have HU := Lib.hid hcur; clear hcur
  go_enter Try.func44, Try.ntmps44
  go_wp2_with fail
  refine (below_any B cv len ps.length _ h1 (by omega) HC.out HU.out).mono ?_
  rintro e w1 ⟨x, rfl, x0, x1, hu1, hg1⟩
  obtain ⟨k, rfl⟩ : ∃ k : Nat, x = (k : Int) := ⟨x.toNat, by omega⟩
  have hk : k < ps.length := by omega
  obtain ⟨p, hp⟩ : ∃ p, ps[k]? = some p := ⟨_, List.getElem?_eq_getElem hk⟩
  have hcell : w1.cell? ⟨b, k, none⟩ = some (.string p) := hg1.cell (HP.out k p hp) (by simpa using hb)
  have HM := Lib.hid (List.mem_map_of_mem (f := Value.string) (List.mem_of_getElem? hp)); clear hp
  have HU1 := Lib.hid hu1; clear hu1
  have HG1 := Lib.hid hg1; clear hg1
  go_wp2
  go_ret
  exact ⟨_, HM.out, rfl, HU1.out, HG1.out⟩

theorem new_ints (w : World) (zs : List Int) (t : TypeId) : ∀ i z, zs[i]? = some z → (w.alloc (.cells (zs.map (Value.int .i64)).toArray t)).cell? ⟨w.heap.size, i, none⟩ = some (.int .i64 z) := fun i z h => by
  rw [World.cell?_alloc_mark w (zs.map (Value.int .i64)).toArray t (0, 0) i]
  simp [h]
theorem new_strs (w : World) (ps : List ByteArray) (t : TypeId) : ∀ i p, ps[i]? = some p → (w.alloc (.cells (ps.map Value.string).toArray t)).cell? ⟨w.heap.size, i, none⟩ = some (.string p) := fun i p h => by
  rw [World.cell?_alloc_mark w (ps.map Value.string).toArray t (0, 0) i]
  simp [h]
theorem CurAt.alloc {w : World} {B : Nat} {cv : Value} {len : Nat} (h : CurAt w B cv len) (o : Obj) : CurAt (w.alloc o) B cv len := by
  have hl := h.lt
  obtain ⟨i, x, hi, hB⟩ := h
  exact ⟨i, x, hi, by rw [Below.heap_alloc _ _ _ hl]; exact hB⟩
theorem CodeAt.alloc {w : World} {B : Nat} {cv : Value} {len : Nat} (h : CodeAt w B cv len) (hB : B < w.heap.size) (o : Obj) : CodeAt (w.alloc o) B cv len :=
  h.grown hB (World.grownBy_alloc w o (some B))

/-- A slice of bytes that came in serves in every later world. -/
theorem CodeAt.below {w w' : World} {cv : Value} {len : Nat} (h : CodeAt w w.heap.size cv len) (hb : Below w.heap.size w w') : CodeAt w' w'.heap.size cv len := by
  obtain ⟨h1, a, cap, rfl, h2⟩ := h
  refine ⟨h1, a, cap, rfl, ?_⟩
  rcases h2 with h2 | ⟨b, o, rfl, hlt, hc⟩
  · exact Or.inl h2
  · refine Or.inr ⟨b, o, rfl, Nat.lt_of_lt_of_le hlt hb.size, fun j hj => ?_⟩
    obtain ⟨z, z0, z1, hz⟩ := hc j hj
    exact ⟨z, z0, z1, by rw [hb.cell (by exact hlt)]; exact hz⟩
theorem CodeAt.at_new {w w' : World} {cv : Value} {len : Nat} (h : CodeAt w w.heap.size cv len) (hb : Below w.heap.size w w') : CodeAt w' w.heap.size cv len := by
  obtain ⟨h1, a, cap, rfl, h2⟩ := h
  refine ⟨h1, a, cap, rfl, ?_⟩
  rcases h2 with h2 | ⟨b, o, rfl, hlt, hc⟩
  · exact Or.inl h2
  · refine Or.inr ⟨b, o, rfl, hlt, fun j hj => ?_⟩
    obtain ⟨z, z0, z1, hz⟩ := hc j hj
    exact ⟨z, z0, z1, by rw [hb.cell (by exact hlt)]; exact hz⟩
theorem below_own {w w1 w2 : World} (hb : Below w.heap.size w w1) (hg : w1.grownBy w2 (some w.heap.size)) : Below w.heap.size w w2 :=
  hb.grown hg hb.size (fun k hk => by cases hk; exact Nat.le_refl _)
end Go.Proofs.Ytooiiomfahomjaa
