/-
  impl.RenameVars: a term with longer names of its variables, in memory of the call's own.
  impl.CountTerm and impl.DepthOfTerm, level by level, return how many terms there are in a term and how deep it is.
  laws.big tells whether a draw has more than 1048576 bytes.
-/
import Derived.Test.YteelakhaaipebaaQ14
import Derived.Test.YteelakhaaipebaaQ15
import Derived.Test.YteelakhaaipebaaQ36
import Derived.Test.YteelakhaaipebaaQ2
import Derived.WalkLawsBesides
import Derived.Lib.Hide
namespace Go.Proofs.Yteelakhaaipebaa
open Go.RowKit

set_option maxRecDepth 100000 in
set_option maxHeartbeats 1600000 in
theorem renC_any (x : ByteArray) (cb : Nat) (w0 : World) (hx : w0.cell? ⟨cb, 0, none⟩ = some (.string x)) (hxl : x.size ≤ 1048576) :
    CbOk 76 (.pointer (some ⟨cb, 0, none⟩)) (fun _ => none) (fun s => s ++ x) 0 w0 := by
  intro b o n s u W hW hlo hlt hn hs
  have hcx : W.cell? ⟨cb, 0, none⟩ = some (.string x) := by rw [hW.cell (World.block_lt_of_cell? w0 _ hx)]; exact hx
  have hc := hn.c2
  have hf := hn.f2
  have hz : ¬ 9223372036854775807 < s.size + x.size := by omega
  have hE : ∀ w' : World, w' = (W.drew).setCell ⟨b, o + 2, none⟩ (.string (s ++ x)) → CbE (fun _ => none) (fun s => s ++ x) 0 w0 b o s W (.returned (.bool false)) w' := fun w' e => by
    subst e
    exact ⟨false, rfl, hW.drew.setCell hlo _, by simp [World.setCell], fun j hj hne => Below.heap_setCell _ _ _ _ (fun e => hne (by simpa using e)), (fun e => absurd e (by decide)), fun _ => ⟨rfl, by simp [maxLen]; omega, rfl⟩⟩
  have HE := Lib.hid hE
  clear hE hW hn hx
  go_enter Try.func76, Try.ntmps76
  go_wp2
  go_region
  all_goals go_wp2
  all_goals go_ret
  all_goals exact HE.out _ rfl

set_option maxRecDepth 100000 in
set_option maxHeartbeats 1600000 in
theorem renI_any (v : Value) (t : T) (x : ByteArray) (lo h : Nat) (w : World) (ht : TermAt w lo h v t) (hw : wT t ≤ 4194303) (hx : x.size ≤ 1048576) :
    Calls Try.prog 26 #[v, .string x] w (CopyR h (mapT (fun _ => none) (fun s => s ++ x) t) w) := by
  have hcf : ∀ (args : Array Value) (W : World), (callFunc 76 args).run Try.prog W = .ok (.enter 76 args) W := fun _ _ => by kernel_rfl
  obtain ⟨k, n, s, a, m, cap, rfl⟩ := ht.shape
  obtain ⟨W0, hW0⟩ : ∃ W0, W0 = ((w.alloc (.cells #[.int .i64 k, .int .i64 n, .string s, .slice a m cap] 29)).alloc (.cells #[.string x] 9)).alloc (.cells #[.int .i64 0, .int .i64 0, .string ⟨#[]⟩, .slice none 0 0] 29) := ⟨_, rfl⟩
  have hB0 : Below w.heap.size w W0 := by rw [hW0]; exact (((Below.refl _ _).alloc (Nat.le_refl _) _).alloc (by simp) _).alloc (by simp; omega) _
  have r1 : W0.heap[w.heap.size + 1]? = some (.cells #[.string x] 9 (0, 0)) := by rw [hW0, Below.heap_alloc _ _ _ (by simp)]; exact heap_new _ _ (by simp)
  have r2 : W0.heap[w.heap.size + 2]? = some (trow 0 0 ByteArray.empty (.slice none 0 0)) := by rw [hW0]; exact heap_new _ _ (by simp)
  have hs0 : W0.heap.size = w.heap.size + 3 := by rw [hW0]; simp
  have hcx : W0.cell? ⟨w.heap.size + 1, 0, none⟩ = some (.string x) := by have := cell_of_row W0 (w.heap.size + 1) 0 _ _ _ r1; simpa using this
  have HC := Lib.hid (chg_any _ _ _ _ 0 _ t lo h W0 hcf (renC_any x (w.heap.size + 1) W0 hcx hx) (ht.below hB0) hw)
  have HB0 := Lib.hid hB0
  have HR2 := Lib.hid r2
  have HS0 := Lib.hid hs0
  clear hcf ht hw hB0 r1 r2 hs0 hcx
  go_enter Try.func26, Try.ntmps26
  go_wp2_with fail
  rw [← hW0]
  refine HC.out.mono ?_
  rintro e w1 ⟨k', n', s', u', xs', rfl, hef, hs', ho, hb⟩
  obtain ⟨ua, uc, rfl⟩ := ho.slice
  have HEF := Lib.hid hef
  obtain ⟨m', hm'⟩ : ∃ m', m' = xs'.length := ⟨_, rfl⟩
  have q1 : w1.heap[w.heap.size + 2]? = some (trow 0 0 ByteArray.empty (.slice none 0 0)) := (hb.block _ (by have := HS0.out; omega)).trans HR2.out
  obtain ⟨⟨y0, y1, y2, y3⟩, f0, f1, f2, f3⟩ := cells_of4 q1
  have HF := Lib.hid (fun v0 v1 v2 v3 => copy_fin2 (b := w.heap.size + 2) (k := k') (n := n') (v0 := v0) (v1 := v1) (v2 := v2) (v3 := v3) hs' ho (HB0.out.trans (hb.mono HB0.out.size)) (by omega) (by have := HS0.out; omega))
  rw [← hm'] at HF ⊢
  clear q1 ho hb hm' hW0 hef hs'
  go_wp2
  (try simp only [Exit.inBlock, Exit.then])
  refine bodyPost_ret (v := tv k' n' s' (.slice ua m' uc)) ?hr rfl ?_
  case hr =>
    rw [results_cell (a := 4) (t := 29) (ad := ⟨w.heap.size + 2, 0, none⟩) rfl rfl]
    go_simp
  rw [HEF.out]
  exact HF.out _ _ _ _
end Go.Proofs.Yteelakhaaipebaa
namespace Go.Proofs.Yteelakhaaipebaa
open Go.RowKit

set_option maxRecDepth 100000 in
set_option maxHeartbeats 1600000 in
theorem countT_any (v : Value) (t : T) (lo h : Nat) (w : World) (ht : TermAt w lo h v t) (hw : wT t ≤ 1048576) :
    Calls Try.prog 29 #[v] w (NumB (cT t) w) := by
  obtain ⟨k, n, s, u, xs, rfl, rfl, hs, ha⟩ := ht
  obtain ⟨a, cap, rfl⟩ := ha.slice
  have hcb : cT (.node k n s xs) ≤ 1048577 := by have := cT_le (.node k n s xs); omega
  have HL := Lib.hid (level_first w (k := k) (n := n) hs ha)
  have HB0 : Hid (Below w.heap.size w ((boxed w k n s (.slice a xs.length cap)).alloc (.cells #[.int .i64 k, .int .i64 n, .string s, .slice a xs.length cap] 29))) := Lib.hid ((boxed_below w k n s _).trans ((boxed_below _ k n s _).mono (boxed_below w k n s _).size))
  have HC0 : Hid (0 + cS [T.node k n s xs] = cT (.node k n s xs)) := Lib.hid (by rw [single_c]; omega)
  obtain ⟨C, hC⟩ : ∃ C, C = cT (.node k n s xs) := ⟨_, rfl⟩
  rw [← hC] at hcb HC0 ⊢
  have hC1 : 1 ≤ C := by rw [hC, cT_node]; omega
  obtain ⟨t0, ht0⟩ : ∃ t0, t0 = T.node k n s xs := ⟨_, rfl⟩
  rw [← ht0] at HL HC0
  clear hs ha hw hC ht0
  go_enter Try.func29, Try.ntmps29
  go_wp2
  go_loopw [3, 4] (fun c v wr => ∃ (cn : Nat) (ts : List T), c = .int .i64 cn ∧ cn ≤ C ∧ Hid (cn + cS ts = C) ∧ Hid (LevelAt wr v ts) ∧ Hid (Below w.heap.size w wr)) (fun c _ _ => C - (intOf c).toNat)
  case atStart =>
    exact ⟨0, [t0], rfl, Nat.zero_le _, HC0, HL, HB0⟩
  case round =>
    obtain ⟨cn, ts, rfl, hcn, HC, HLV, HB⟩ := hrel
    obtain ⟨la, lc, rfl⟩ := HLV.out.slice
    have hk := cS_kids ts
    have hlk := len_le_cS (kids ts)
    have hlen : cn + ts.length ≤ C := by have := HC.out; omega
    have HNX : Hid (cn + ts.length + cS (kids ts) = C) := Lib.hid (by have := HC.out; omega)
    obtain ⟨m, hm⟩ : ∃ m, m = ts.length := ⟨_, rfl⟩
    rw [← hm] at hlen
    have HM := Lib.hid hm
    by_cases h0 : 0 < m
    · rw [← hm]
      rw [← hm] at HLV
      clear hm
      have HLK : Hid ((kids ts).length ≤ 1048576) := Lib.hid (by have := HC.out; have := HM.out; omega)
      clear hk hlk
      have hmz : (0 : Int) < (m : Int) := by omega
      go_wp2_with fail
      refine (argsOf_any _ ts _ HLV.out HLK.out (by have := HM.out; omega)).mono ?_
      rintro e w1 ⟨v1, rfl, hl1, hb1⟩
      have HL1 := Lib.hid hl1; clear hl1
      have HB1 := Lib.hid (HB.out.trans (hb1.mono HB.out.size)); clear hb1
      go_wp2
      go_roundw
      case rel => exact ⟨cn + m, kids ts, by go_num, by omega, Lib.hid (by rw [HM.out]; exact HNX.out), HL1, HB1⟩
      case measure => simp [intOf]; omega
    · have HD : Hid (cn = C) := Lib.hid (by
        have h1 : ts = [] := List.eq_nil_of_length_eq_zero (by omega)
        have h2 := HC.out
        rw [h1] at h2
        simp [cS] at h2
        exact h2)
      rw [← hm]
      have hm0 : m = 0 := by omega
      subst hm0
      clear hm
      go_wp2
      go_ret
      exact ⟨by rw [← HD.out]; rfl, HB.out⟩
end Go.Proofs.Yteelakhaaipebaa
namespace Go.Proofs.Yteelakhaaipebaa
open Go.RowKit

def TrueAt (w : World) (e : Ending) (w' : World) : Prop := e = .returned (.bool true) ∧ Below w.heap.size w w'

set_option maxRecDepth 100000 in
set_option maxHeartbeats 400000 in
theorem big_any (a : Option Addr) (len cap : Nat) (w : World) :
    Calls Try.prog 11 #[.slice a len cap] w fun e w' => e = .returned (.bool (decide (1048576 < len))) ∧ w = w' := by
  go_enter Try.func11, Try.ntmps11
  go_wp2
  go_ret
  refine ⟨?_, rfl⟩
  rw [show decide (1048576 < len) = decide ((1048576 : Int) < (len : Int)) from decide_eq_decide.2 (by omega)]
  rfl
end Go.Proofs.Yteelakhaaipebaa
