/-
  slices.Repeat of one string, twice.
-/
import Derived.Test.YtcmhiindjponcaaQ3
import Derived.Laws.CopyOwn
import Derived.Deep.RegionHeld3
namespace Go.Proofs.Ytcmhiindjponcaa
open Go.RowKit

theorem sizeStr : (Try.prog.info? 9).map (·.size) = some 1 := by kernel_rfl

def MulE (w : World) (e : Ending) (w' : World) : Prop := e = .returned (.tuple #[.int .u64 0, .int .u64 2]) ∧ w' = w
set_option maxRecDepth 100000 in
set_option maxHeartbeats 1600000 in
theorem mul64_any (w : World) : Calls Try.prog 123 #[.int .u64 1, .int .u64 2] w (MulE w) := by
  go_enter Try.func123, Try.ntmps123
  go_wp2
  go_ret2
  exact ⟨rfl, rfl⟩
set_option maxRecDepth 100000 in
set_option maxHeartbeats 1600000 in
theorem mul_any (w : World) : Calls Try.prog 107 #[.int .u64 1, .int .u64 2] w (MulE w) := by
  go_enter Try.func107, Try.ntmps107
  go_wp2_with fail
  refine (mul64_any w).mono ?_
  rintro e w1 ⟨rfl, rfl⟩
  go_wp2
  go_ret2
  exact ⟨rfl, rfl⟩

set_option maxRecDepth 100000 in
set_option maxHeartbeats 1600000 in
theorem repeat_two (g c : Nat) (s : ByteArray) (w : World) (hc : w.cell? ⟨g, 0, none⟩ = some (.string s)) :
    Calls Try.prog 68 #[.slice (some ⟨g, 0, none⟩) 1 c, .int .i64 2] w (CopyEnd [s, s] w) := by
  obtain ⟨i0, hi, hz0, hz1, hz2⟩ := info_parts infoStr'
  have HI := Lib.hid hi; clear hi
  have HZ0 := Lib.hid hz0; clear hz0
  have HZ1 := Lib.hid hz1; clear hz1
  have HZ2 := Lib.hid hz2; clear hz2
  go_enter Try.func68, Try.ntmps68
  go_wp2_with fail
  refine (mul_any w).mono ?_
  rintro e w1 ⟨rfl, hw1⟩
  subst hw1
  go_wp2_with (first | (at_make; refine wpList_make_full _ rfl (.tmp 29) (.tmp 29) 24 rfl w1.heap.size 9 i0 (.string ByteArray.empty) 1 Try.underlying24 HI.out HZ0.out HZ1.out _ _ _ _ 2 rfl rfl rfl rfl ?m1 ?m2 ?m3 ?_))
  case m1 => rw [HZ2.out]; decide
  case m2 => decide
  case m3 => exact Nat.le_refl _
  intro w2 hown hgrow
  have hb : Below w1.heap.size w1 w2 := (Below.refl _ _).grown hgrow (Nat.le_refl _) (fun k hk => by cases hk)
  have hrow : w2.heap[w1.heap.size]? = some (.cells [Value.string ByteArray.empty, .string ByteArray.empty].toArray 9 (0, 0)) := by
    rcases hown.2 with ⟨e, _⟩ | ⟨g', cap, cur, e, _, hg, _, _, hcs, htk⟩
    · simp at e
    · simp only [Value.slice.injEq, Option.some.injEq, Addr.mk.injEq] at e
      obtain ⟨⟨rfl, _⟩, _, rfl⟩ := e
      rw [hg]
      have hm : (madeCells #[Value.string ByteArray.empty] 2).toList = [.string ByteArray.empty, .string ByteArray.empty] := by simp [madeCells]; try rfl
      rw [hm] at htk
      have hc2 : cur.toList.length = 2 := by simpa using hcs
      rw [List.take_of_length_le (by omega)] at htk
      have : cur = [Value.string ByteArray.empty, .string ByteArray.empty].toArray := by rw [← htk]
      rw [this]
  have hsrc : ∀ (j : Nat) (v : Value), [Value.string s][j]? = some v → w2.cell? ((⟨g, 0, none⟩ : Addr).add j) = some v := by
    intro j v hj
    match j, hj with
    | 0, hj =>
      simp at hj
      subst hj
      have e : (⟨g, 0, none⟩ : Addr).add 0 = ⟨g, 0, none⟩ := rfl
      rw [e, hb.cell (World.block_lt_of_cell? w1 _ hc)]
      exact hc
    | j + 1, hj => simp at hj
  have HROW := Lib.hid hrow; clear hrow hown
  have HSRC := Lib.hid hsrc; clear hsrc
  have HB := Lib.hid hb; clear hb hgrow
  go_wp2_with (first | (refine wpList_copy_splice rfl (.tmp 31) (.tmp 32) 24 24 rfl 9 Try.underlying24 sizeStr (some ⟨w1.heap.size, 0, none⟩) (some ⟨g, 0, none⟩) 2 2 1 c rfl rfl w1.heap.size 0 [.string ByteArray.empty, .string ByteArray.empty] 9 HROW.out [.string s] rfl (fun _ => ⟨rfl, _, rfl, HSRC.out⟩) (by simp) (by intro v hv; simp at hv; subst hv; rfl) w1.heap.size w1 HB.out (Nat.le_refl _) ?_))
  intro w3 hr3 hb3
  have hr4 : w3.heap[w1.heap.size]? = some (.cells [Value.string s, .string ByteArray.empty].toArray 9 (0, 0)) := by
    have h := hr3.out
    simpa [splice] using h
  have hsrc4 : ∀ (j : Nat) (v : Value), [Value.string s][j]? = some v → w3.drew.cell? ((⟨w1.heap.size, 0, none⟩ : Addr).add j) = some v := by
    intro j v hj
    match j, hj with
    | 0, hj =>
      simp at hj
      subst hj
      have e : (⟨w1.heap.size, 0, none⟩ : Addr).add 0 = ⟨w1.heap.size, 0, none⟩ := rfl
      have h := cell_of_row w3.drew w1.heap.size 0 _ _ _ hr4
      rw [e, h]; rfl
    | j + 1, hj => simp at hj
  have HR4 := Lib.hid hr4; clear hr4 hr3
  have HS4 := Lib.hid hsrc4; clear hsrc4
  have HB3 := Lib.hid hb3; clear hb3
  go_wp2
  refine wp_loop_rounds 2 ?_
  rw [rounds_succ]
  go_wp2
  go_region_held3 (fun w' => Below w1.heap.size w1 w') (first | exact HB3.out.drew | assumption) (first | (refine step_copy_splice rfl (.tmp 41) (.tmp 44) 24 24 rfl 9 Try.underlying24 sizeStr (some ⟨w1.heap.size, 1, none⟩) (some ⟨w1.heap.size, 0, none⟩) 1 1 1 2 rfl rfl w1.heap.size 1 [.string s, .string ByteArray.empty] 9 HR4.out [.string s] rfl (fun _ => ⟨rfl, _, rfl, HS4.out⟩) (by simp) (by intro v hv; simp at hv; subst hv; rfl) w1.heap.size w1 HB3.out.drew (Nat.le_refl _) ?_; intro w5 hr5 hb5))
  have hr6 : w5.heap[w1.heap.size]? = some (.cells #[Value.string s, .string s] 9 (0, 0)) := by
    have h := hr5.out
    simpa [splice] using h
  have HR6 := Lib.hid hr6; clear hr6 hr5
  have HB5 := Lib.hid hb5; clear hb5
  go_wp2
  rw [rounds_succ]
  go_wp2
  go_ret
  refine ⟨_, rfl, ⟨rfl, Or.inr ⟨w1.heap.size, 2, _, rfl, Nat.le_refl _, HR6.out, Nat.le_refl _, by decide, rfl, rfl⟩⟩, HB5.out⟩
end Go.Proofs.Ytcmhiindjponcaa
