/-
  slices.Grow onto nothing; slices.Concat of two slices of integers.
-/
import Derived.Test.YtcmhiindjponcaaDoorQ6
import Derived.Test.YtcmhiindjponcaaDoorQ4
import Derived.Deep.AppendLies
import Derived.Laws.AppendOwnNone
import Derived.Lib.AppendZerosOnto
import Derived.Lib.SliceRun
import Derived.Lib.Walk
namespace Go.Proofs.YtcmhiindjponcaaDoor
open Go.RowKit

theorem infoI : (Tryd.prog.info? 3).map (fun i => (i.zero, i.size, i.bytes)) = some (some (iv 0), 1, 8) := by kernel_rfl

/-- A slice without elements that has room. -/
def RoomE (w : World) (e : Ending) (w' : World) : Prop := ∃ g c, e = .returned (.slice (some ⟨g, 0, none⟩) 0 c) ∧ w'.ownsRow w.heap.size 3 1 (.slice (some ⟨g, 0, none⟩) 0 c) 0 [] ∧ Below w.heap.size w w'

set_option maxRecDepth 100000 in
set_option maxHeartbeats 1600000 in
theorem grow_any (n : Nat) (w : World) (h0 : 0 < n) (hn : n ≤ 8388608) : Calls Tryd.prog 34 #[.slice none 0 0, .int .i64 n] w (RoomE w) := by
  obtain ⟨i0, hi, hz0, hz1, hz2⟩ := info_parts infoI
  obtain ⟨G, hG⟩ : ∃ G, G = grownCap w n 0 3 := ⟨_, rfl⟩
  have hGn : n ≤ G := by rw [hG]; exact grownCap_ge w _ _ _
  have hGm : G ≤ maxLen := by rw [hG]; exact grownCap_le_maxLen w n 0 3 (by unfold maxLen; omega)
  have hG63 : G ≤ 9223372036854775807 := by unfold maxLen at hGm; omega
  have hrz : ∀ ty, (Builtin.append_ #[33, 3] ty #[.slice none 0 0, .int .i64 (n : Int)]).run Tryd.prog w =
      .ok (.slice (some ⟨w.heap.size, 0, none⟩) n G) (w.drew.alloc (.cells (Builtin.zeroCells (iv 0).cells n ++ Builtin.zeroCells (iv 0).cells (G - n)) 3)) := fun ty => by
    have h := Lib.run_append_grow_zeros w 33 3 ty 3 i0 (iv 0) .i64 .i64 Tryd.underlying33 Tryd.underlying3 hi hz0 none 0 0 [] (run_firstCells_none w.drew i0.size 0 0 0) n h0 (by omega) (by omega) (by omega) (by rw [hz2]; omega)
      (by rw [Nat.zero_add]; exact growslice_fits (by omega) (by rw [hz2]; omega))
    rw [Nat.zero_add, ← hG] at h
    simpa using h
  have hown : (w.drew.alloc (.cells (Builtin.zeroCells (iv 0).cells n ++ Builtin.zeroCells (iv 0).cells (G - n)) 3)).ownsRow w.heap.size 3 1 (.slice (some ⟨w.heap.size, 0, none⟩) 0 G) 0 [] :=
    ⟨rfl, Or.inr ⟨w.heap.size, G, _, rfl, Nat.le_refl _, heap_new w.drew _ rfl, Nat.zero_le _, hGm, by
      simp [Builtin.zeroCells, Value.cells]
      omega, rfl⟩⟩
  have HF : Hid (RoomE w (.returned (.slice (some ⟨w.heap.size, 0, none⟩) 0 G)) (w.drew.alloc (.cells (Builtin.zeroCells (iv 0).cells n ++ Builtin.zeroCells (iv 0).cells (G - n)) 3))) := Lib.hid ⟨_, _, rfl, hown, ((Below.refl _ _).drew).alloc (Nat.le_refl _) _⟩
  obtain ⟨cells, hcells⟩ : ∃ cells, cells = (Builtin.zeroCells (iv 0).cells n ++ Builtin.zeroCells (iv 0).cells (G - n)) := ⟨_, rfl⟩
  rw [← hcells] at hrz HF
  have h3 : (0 : Int) < (n : Int) := by omega
  have hGi : (0 : Int) ≤ (G : Int) := by omega
  clear hown hcells hG hGm hi hz0 hz1 hz2
  go_enter Tryd.func34, Tryd.ntmps34
  go_wp2_with (at_builtin; refine Lib.wpList_append_run _ rfl _ _ _ _ rfl _ _ rfl rfl _ _ (hrz _) ?_)
  all_goals (go_ret; exact HF.out)

/-- A slice of integers that may be nil, in a block. -/
def SrcI (w : World) (a : Option Addr) (c : Nat) (ps : List Int) : Prop := (a = none ∧ c = 0 ∧ ps = []) ∨ ∃ g, a = some ⟨g, 0, none⟩ ∧ 0 < ps.length ∧ ∀ (j : Nat) (u : Value), (ps.map iv)[j]? = some u → w.cell? ((⟨g, 0, none⟩ : Addr).add j) = some u
theorem SrcI.below {w w' : World} {a : Option Addr} {c : Nat} {ps : List Int} (h : SrcI w a c ps) (hb : Below w.heap.size w w') : SrcI w' a c ps := by
  rcases h with h | ⟨g, e, h0, hc⟩
  · exact Or.inl h
  · exact Or.inr ⟨g, e, h0, fun j u hu => by have := hc j u hu; rw [hb.cell (World.block_lt_of_cell? w _ this)]; exact this⟩
/-- Two slices put together, in a row of the call's own. -/
def CatE (qs : List Int) (w : World) (e : Ending) (w' : World) : Prop := ∃ v', e = .returned v' ∧ w'.ownsRow w.heap.size 3 1 v' qs.length (qs.map iv) ∧ Below w.heap.size w w' ∧ v' ≠ .slice none 0 0

set_option maxRecDepth 100000 in
set_option maxHeartbeats 3200000 in
theorem concat_any (b gi ci c c2 n : Nat) (a : Option Addr) (ps : List Int) (i : Int) (w : World) (hn : n = ps.length) (hpl : n ≤ 4194304) (h0 : w.cell? ⟨b, 0, none⟩ = some (.slice a n c)) (h1 : w.cell? ⟨b, 1, none⟩ = some (.slice (some ⟨gi, 0, none⟩) 1 ci)) (hi : w.cell? ⟨gi, 0, none⟩ = some (iv i)) (hs : SrcI w a c ps) :
    Calls Tryd.prog 17 #[.slice (some ⟨b, 0, none⟩) 2 c2] w (CatE (ps ++ [i]) w) := by
  obtain ⟨i0, hi0, hz0, hz1, hz2⟩ := info_parts infoI
  have HI := Lib.hid hi0; clear hi0
  have HZ0 := Lib.hid hz0; clear hz0
  have HZ1 := Lib.hid hz1; clear hz1
  have HZ2 := Lib.hid hz2; clear hz2
  have HN := Lib.hid hn; clear hn
  have HI1 := Lib.hid hi; clear hi
  have HS := Lib.hid hs; clear hs
  go_enter Tryd.func17, Tryd.ntmps17
  go_wp2
  go_loop [3, 11] (fun s t => ∃ k sz : Nat, k ≤ 2 ∧ t = .int .i64 k ∧ s = .int .i64 sz ∧ Hid (sz = if k = 0 then 0 else if k = 1 then n else n + 1)) (fun _ t => 2 - (intOf t).toNat)
  case atStart => exact ⟨0, 0, by omega, rfl, rfl, Lib.hid rfl⟩
  case round =>
    obtain ⟨k, sz, hk, rfl, rfl, HSZ⟩ := hrel
    rcases (by omega : k = 0 ∨ k = 1 ∨ k = 2) with rfl | rfl | rfl
    · obtain rfl : sz = 0 := HSZ.out
      clear HSZ
      go_wp2
      go_round
      case rel => exact ⟨1, n, by omega, by go_num, by go_num, Lib.hid rfl⟩
      case measure => simp [intOf]
    · obtain rfl : sz = n := HSZ.out
      clear HSZ
      go_wp2
      go_round
      case rel => exact ⟨2, sz + 1, by omega, by go_num, by go_num, Lib.hid rfl⟩
      case measure => simp [intOf]
    · obtain rfl : sz = n + 1 := HSZ.out
      clear HSZ
      have HG := Lib.hid (grow_any (n + 1) w (by omega) (by omega))
      rw [show (((n + 1 : Nat) : Int)) = (n : Int) + 1 by omega] at HG
      go_wp2_with fail
      refine HG.out.mono ?_
      rintro e w1 ⟨g1, c1, rfl, ho1, hb1⟩
      have HO1 := Lib.hid ho1; clear ho1
      have HB1 := Lib.hid hb1; clear hb1 HG
      go_wp2
      go_loopw [6, 27] (fun v t wr => ∃ (k : Nat) (ys : List Int) (g cc : Nat), k ≤ 2 ∧ t = .int .i64 k ∧ v = .slice (some ⟨g, 0, none⟩) ys.length cc ∧ Hid (ys = if k = 0 then [] else if k = 1 then ps else ps ++ [i]) ∧ Hid (wr.ownsRow w.heap.size 3 1 (.slice (some ⟨g, 0, none⟩) ys.length cc) ys.length (ys.map iv)) ∧ Hid (Below w.heap.size w wr)) (fun _ t _ => 2 - (intOf t).toNat)
      case atStart => exact ⟨0, [], g1, c1, by omega, rfl, rfl, Lib.hid rfl, HO1, HB1⟩
      case round =>
        clear HO1 HB1
        obtain ⟨k, ys, g, cc, hk, rfl, rfl, HY, HO, HB⟩ := hrel
        have d0 := cell_on HB.out h0
        have d1 := cell_on HB.out h1
        rcases (by omega : k = 0 ∨ k = 1 ∨ k = 2) with rfl | rfl | rfl
        · obtain rfl : ys = [] := HY.out
          clear HY
          rcases (HS.out.below HB.out) with ⟨rfl, rfl, hps⟩ | ⟨gs, rfl, hl, hc⟩
          · have hn0 : n = 0 := by rw [HN.out, hps]; rfl
            rw [hn0] at d0
            have HPS := Lib.hid hps; clear hps hn0 h0
            go_wp2_with (first | (at_builtin; refine wpList_append_own_none rfl (.tmp 31) (.tmp 32) 33 rfl w.heap.size 3 i0 1 Tryd.underlying33 HI.out _ _ _ rfl HO.out rfl ?_))
            go_roundw
            case rel => exact ⟨1, [], g, cc, by omega, by go_num, rfl, Lib.hid HPS.out.symm, HO, HB⟩
            case measure => simp [intOf]
          · have HC := Lib.hid hc; clear hc
            have HL : Hid (0 < ps.length ∧ ps.length ≤ 4194304 ∧ n = ps.length) := Lib.hid ⟨hl, by have := HN.out; omega, HN.out⟩
            have HZ : Hid (w.heap.size ≤ wr.heap.size) := Lib.hid HB.out.size
            clear hl
            go_wp2_with (first | (at_builtin; refine wpList_append_lies _ rfl (.tmp 31) (.tmp 32) 33 rfl w.heap.size 3 i0 (iv 0) 1 8 Tryd.underlying33 HI.out HZ0.out HZ1.out HZ2.out rfl (by decide) _ _ _ rfl HO.out ⟨gs, 0, none⟩ n c (ps.map iv) rfl (by rw [List.length_map, HL.out.2.2]; omega) HC.out (by intro u hu; obtain ⟨z, _, rfl⟩ := List.mem_map.1 hu; rfl) (by have := HL.out; omega) (by have := HL.out; unfold maxLen; simp; omega) (by have := HL.out; simp; omega) HZ.out _ rfl ?_))
            intro g3 c3 w3 ho3 hg3 ha3 hl3
            have HB3 : Hid (Below w.heap.size w w3) := Lib.hid (HB.out.grown hg3 HZ.out (fun j e => (HO.out.lt j e).1))
            have HN2 := HL.out.2.2
            rw [HN2] at ho3
            have HO3 := Lib.hid ho3
            clear hg3 ha3 hl3 ho3
            subst HN2
            go_wp2
            go_roundw
            case rel => exact ⟨1, ps, g3, c3, by omega, by go_num, rfl, Lib.hid rfl, HO3, HB3⟩
            case measure => simp [intOf]
        · obtain rfl : ys = ps := HY.out
          clear HY
          have HL : Hid (ys.length ≤ 4194304) := Lib.hid (by have := HN.out; omega)
          have HZ : Hid (w.heap.size ≤ wr.heap.size) := Lib.hid HB.out.size
          have HC : Hid (∀ (j : Nat) (u : Value), [iv i][j]? = some u → wr.cell? ((⟨gi, 0, none⟩ : Addr).add j) = some u) := Lib.hid (fun j u hj => by
            cases j with
            | zero => simp at hj; subst hj; exact cell_on HB.out HI1.out
            | succ j => simp at hj)
          go_wp2_with (first | (at_builtin; refine wpList_append_lies _ rfl (.tmp 31) (.tmp 32) 33 rfl w.heap.size 3 i0 (iv 0) 1 8 Tryd.underlying33 HI.out HZ0.out HZ1.out HZ2.out rfl (by decide) _ _ _ rfl HO.out ⟨gi, 0, none⟩ 1 ci [iv i] rfl rfl HC.out (by intro u hu; simp at hu; subst hu; rfl) (by decide) (by have := HL.out; unfold maxLen; omega) (by have := HL.out; omega) HZ.out _ rfl ?_))
          intro g3 c3 w3 ho3 hg3 ha3 hl3
          have HB3 : Hid (Below w.heap.size w w3) := Lib.hid (HB.out.grown hg3 HZ.out (fun j e => (HO.out.lt j e).1))
          have HO3 : Hid (w3.ownsRow w.heap.size 3 1 (.slice (some ⟨g3, 0, none⟩) (ys ++ [i]).length c3) (ys ++ [i]).length ((ys ++ [i]).map iv)) := Lib.hid (by
            rw [List.length_append, List.length_singleton, List.map_append]; exact ho3)
          have HLE : Hid ((ys ++ [i]).length = ys.length + 1) := Lib.hid (by simp)
          clear hg3 ha3 hl3 ho3
          go_wp2
          go_roundw
          case rel => exact ⟨2, ys ++ [i], g3, c3, by omega, by go_num, by rw [HLE.out], Lib.hid rfl, HO3, HB3⟩
          case measure => simp [intOf]
        · have HYE : Hid (ys = ps ++ [i]) := Lib.hid HY.out
          clear HY
          go_wp2
          go_ret
          exact ⟨_, rfl, by rw [← HYE.out]; exact HO.out, HB.out, by simp⟩
end Go.Proofs.YtcmhiindjponcaaDoor
