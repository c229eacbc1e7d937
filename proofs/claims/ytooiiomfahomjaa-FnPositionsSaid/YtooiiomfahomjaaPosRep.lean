/-
  spec.ReplaceAt: a copy of a term in which the subterm at a position is replaced, or a copy of the term.
-/
import Derived.Test.YtooiiomfahomjaaPosPut
import Derived.Test.YtooiiomfahomjaaLawGen0
namespace Go.Proofs.Ytooiiomfahomjaa
open Go.RowKit

/-- What ReplaceAt answers. -/
def repT (ps : List Int) (t u : T) : T := if (subT ps t).isSome then putT ps t u else t

theorem rest_fin {w wr : World} {ok : Bool} {k n : Int} {s : ByteArray} {a : Option Addr} {m c h : Nat} {x : T} (ht : TermAt wr (w.heap.size + 3) h (tv k n s (.slice a m c)) x) (hb : Below w.heap.size w wr) (v0 v1 v2 v3 : Value) :
    ResT ok x w (.returned (.tuple #[tv k n s (.slice a m c), .bool ok])) ((((wr.setCell ⟨w.heap.size + 2, 0, none⟩ v0).setCell ⟨w.heap.size + 2, 1, none⟩ v1).setCell ⟨w.heap.size + 2, 2, none⟩ v2).setCell ⟨w.heap.size + 2, 3, none⟩ v3) := by
  obtain ⟨k', n', s', a', m', c', h', e, ht', hb'⟩ := new_fin ht hb (b := w.heap.size + 2) (by omega) (by omega) v0 v1 v2 v3
  simp only [Ending.returned.injEq, Value.agg.injEq] at e
  simp at e
  obtain ⟨rfl, rfl, rfl, rfl, rfl, rfl⟩ := e
  exact ⟨_, _, _, _, _, _, _, rfl, ht', hb'⟩

set_option maxRecDepth 100000 in
set_option maxHeartbeats 1600000 in
theorem sRep_any (v p uv : Value) (t u : T) (ps : List Int) (lo lo2 h h2 : Nat) (w : World) (ht : TermAt w lo h v t) (hp : IntsAt w p ps) (hu : TermAt w lo2 h2 uv u) (hw : wT t ≤ 1048576) (hwu : wT u ≤ 1048576) (hl : ps.length ≤ 4194304) :
    Calls Try.prog 8 #[v, p, uv] w (ResT (subT ps t).isSome (repT ps t u) w) := by
  obtain ⟨k, n, s, a, m, cap, rfl⟩ := ht.shape
  obtain ⟨k2, n2, s2, a2, m2, cap2, rfl⟩ := hu.shape
  obtain ⟨pa, pc, rfl⟩ := hp.slice
  obtain ⟨W, hW⟩ : ∃ W, W = ((boxed (boxed w k n s (.slice a m cap)) k2 n2 s2 (.slice a2 m2 cap2)).alloc (.cells #[.int .i64 0, .int .i64 0, .string ⟨#[]⟩, .slice none 0 0] 26)) := ⟨_, rfl⟩
  obtain ⟨hz, r0, r1, r2, hb⟩ := box_three w _ _ _ _ _ _ _ _ hW
  have HT := Lib.hid (ht.below hb)
  have HP := Lib.hid (hp.below hb)
  have HU := Lib.hid (hu.below hb)
  have HB := Lib.hid hb; clear hb
  have HR := Lib.hid (And.intro r0 (And.intro r1 r2)); clear r0 r1 r2
  have HZ := Lib.hid hz; clear hz
  clear ht hp hu
  obtain ⟨q, hq⟩ : ∃ q, q = ps.length := ⟨_, rfl⟩
  rw [← hq] at HP ⊢
  clear hq
  go_enter Try.func8, Try.ntmps8
  go_wp2_with fail
  rw [← hW]
  clear hW
  refine (sAt_any _ _ t ps lo h _ HT.out HP.out hw hl).mono ?_
  rintro e w0 ⟨k1, n1, s1, a1, m1, c1, h1, rfl, _, hb0⟩
  obtain ⟨w1, hW1⟩ : ∃ W1, W1 = boxed w0 k1 n1 s1 (.slice a1 m1 c1) := ⟨_, rfl⟩
  have hb1 : Below W.heap.size W w1 := by rw [hW1]; exact hb0.trans ((boxed_below _ _ _ _ _).mono hb0.size)
  clear hb0
  have HB1 := Lib.hid hb1
  have HBW := Lib.hid (HB.out.trans (hb1.mono HB.out.size)); clear hb1
  have HR1 : Hid (∀ w', Below w1.heap.size w1 w' → w'.heap[w.heap.size]? = some (trow k n s (.slice a m cap)) ∧ w'.heap[w.heap.size + 1]? = some (trow k2 n2 s2 (.slice a2 m2 cap2)) ∧ w'.heap[w.heap.size + 2]? = some (trow 0 0 ByteArray.empty (.slice none 0 0))) := Lib.hid (fun w' hb => by
    have hz := HZ.out
    have hbb := HB1.out.trans (hb.mono HB1.out.size)
    exact ⟨(hbb.block _ (by omega)).trans HR.out.1, (hbb.block _ (by omega)).trans HR.out.2.1, (hbb.block _ (by omega)).trans HR.out.2.2⟩)
  obtain ⟨r0, r1, r2⟩ := HR1.out _ (Below.refl _ _)
  obtain ⟨⟨A0, A1, A2, A3⟩, _⟩ := cells_of4 r0
  obtain ⟨⟨B0, B1, B2, B3⟩, _⟩ := cells_of4 r1
  clear r0 r1 r2
  unfold boxed at hW1
  cases hs : subT ps t with
  | none =>
    have HC := Lib.hid (lcopy_any h _ t lo w1 (HT.out.below HB1.out) hw)
    have hrep : repT ps t u = t := by unfold repT; rw [hs]; rfl
    have HREP := Lib.hid hrep; clear hrep
    simp only [Option.isSome_none]
    rw [hW1] at A0 A1 A2 A3 B0 B1 B2 B3
    go_wp2_with fail
    rw [← hW1]
    rw [← hW1] at A0 A1 A2 A3 B0 B1 B2 B3
    clear hW1
    refine HC.out.mono ?_
    rintro e w5 ⟨k5, n5, s5, a5, m5, c5, rfl, ht5, hb5⟩
    obtain ⟨_, _, r2⟩ := HR1.out _ hb5
    obtain ⟨⟨y0, y1, y2, y3⟩, g0, g1, g2, g3⟩ := cells_of4 r2
    have HF : Hid (∀ v0 v1 v2 v3, ResT false (repT ps t u) w (.returned (.tuple #[tv k5 n5 s5 (.slice a5 m5 c5), .bool false])) ((((w5.setCell ⟨w.heap.size + 2, 0, none⟩ v0).setCell ⟨w.heap.size + 2, 1, none⟩ v1).setCell ⟨w.heap.size + 2, 2, none⟩ v2).setCell ⟨w.heap.size + 2, 3, none⟩ v3)) :=
      Lib.hid (fun v0 v1 v2 v3 => by rw [HREP.out]; exact rest_fin (ht5.low (by have := HZ.out; have := HB1.out.size; omega)) (HBW.out.trans (hb5.mono HBW.out.size)) _ _ _ _)
    clear ht5 hb5 r2 A0 A1 A2 A3 B0 B1 B2 B3
    go_wp2
    (try simp only [Exit.inBlock, Exit.then])
    refine bodyPost_ret (v := .tuple #[tv k5 n5 s5 (.slice a5 m5 c5), .bool false]) ?_ rfl ?_
    · refine results_ct (a := 6) (b := 7) (t := 26) (ad := ⟨w.heap.size + 2, 0, none⟩) rfl rfl _ _ ?_
      go_simp
    · rw [hs]; exact HF.out _ _ _ _
  | some y =>
    have HC := Lib.hid (put_any ps hl _ _ _ t u y lo lo2 h h2 w1 (HT.out.below HB1.out) (HP.out.below HB1.out) (HU.out.below HB1.out) hs hw hwu)
    have hrep : repT ps t u = putT ps t u := by unfold repT; rw [hs]; rfl
    have HREP := Lib.hid hrep; clear hrep
    simp only [Option.isSome_some]
    rw [hW1] at A0 A1 A2 A3 B0 B1 B2 B3
    go_wp2_with fail
    rw [← hW1]
    rw [← hW1] at A0 A1 A2 A3 B0 B1 B2 B3
    clear hW1
    refine HC.out.mono ?_
    rintro e w5 ⟨k5, n5, s5, a5, m5, c5, h5, rfl, ht5, hb5⟩
    obtain ⟨_, _, r2⟩ := HR1.out _ hb5
    obtain ⟨⟨y0, y1, y2, y3⟩, g0, g1, g2, g3⟩ := cells_of4 r2
    have HF : Hid (∀ v0 v1 v2 v3, ResT true (repT ps t u) w (.returned (.tuple #[tv k5 n5 s5 (.slice a5 m5 c5), .bool true])) ((((w5.setCell ⟨w.heap.size + 2, 0, none⟩ v0).setCell ⟨w.heap.size + 2, 1, none⟩ v1).setCell ⟨w.heap.size + 2, 2, none⟩ v2).setCell ⟨w.heap.size + 2, 3, none⟩ v3)) :=
      Lib.hid (fun v0 v1 v2 v3 => by rw [HREP.out]; exact rest_fin (ht5.low (by have := HZ.out; have := HB1.out.size; omega)) (HBW.out.trans (hb5.mono HBW.out.size)) _ _ _ _)
    clear ht5 hb5 r2 A0 A1 A2 A3 B0 B1 B2 B3
    go_wp2
    (try simp only [Exit.inBlock, Exit.then])
    refine bodyPost_ret (v := .tuple #[tv k5 n5 s5 (.slice a5 m5 c5), .bool true]) ?_ rfl ?_
    · refine results_ct (a := 6) (b := 7) (t := 26) (ad := ⟨w.heap.size + 2, 0, none⟩) rfl rfl _ _ ?_
      go_simp
    · rw [hs]; exact HF.out _ _ _ _
end Go.Proofs.Ytooiiomfahomjaa
