/-
  impl.FindBind and impl.ApplySubst; the method apply of a substitution.
  laws.szTerm and laws.szTermS count what a term holds.
  laws.szBind and laws.szBindS count what a list of Binds holds.
  laws.toBind and laws.toBindS copy a list of Binds into memory of the call's own.
  laws.eqBind and laws.eqBindS: two readings of one list of Binds are equal.
-/
import Derived.Test.YtkgpkphacjjlgaaQ8
import Derived.Test.YtkgpkphacjjlgaaQ9
import Derived.Test.YtkgpkphacjjlgaaQ10
import Derived.Test.YtkgpkphacjjlgaaQ7
import Derived.Test.YtkgpkphacjjlgaaQ1
import Derived.WalkLawsBesides
import Derived.BigQuiet
import Derived.Deep.QuietTactic
import Derived.Deep.RegionHeld3
namespace Go.Proofs.Ytkgpkphacjjlgaa
open Go.RowKit Go.Maps Go.WideMaps

theorem resO_fin {w wr : World} {b B : Nat} {ok : Bool} {k n : Int} {s : ByteArray} {a : Option Addr} {m c h : Nat} {r : T} {xs : List T} (hr : r = .node k n s xs) (hs : s.size ≤ maxLen) (ho : OwnR (fun _ => True) wr h B wr.heap.size (.slice a m c) xs) (hb : Below w.heap.size w wr) (h1 : w.heap.size ≤ b) (h2 : b < B) (v0 v1 v2 v3 : Value) :
    ResO ok r w (.returned (.tuple #[tv k n s (.slice a m c), .bool ok])) ((((wr.setCell ⟨b, 0, none⟩ v0).setCell ⟨b, 1, none⟩ v1).setCell ⟨b, 2, none⟩ v2).setCell ⟨b, 3, none⟩ v3) := by
  have st : ∀ (W : World) (j : Nat) (v : Value), OwnR (fun _ => True) W h B wr.heap.size (.slice a m c) xs → OwnR (fun _ => True) (W.setCell ⟨b, j, none⟩ v) h B wr.heap.size (.slice a m c) xs := fun W j v o =>
    o.keep fun b' _ h1 _ => ⟨Below.heap_setCell _ _ _ _ (fun e => by simp at e; omega), trivial⟩
  exact ⟨k, n, s, a, m, c, h, xs, rfl, hr, hs, (st _ _ _ (st _ _ _ (st _ _ _ (st _ _ _ ho)))).wide (by omega) (by simp [World.setCell]), (((hb.setCell h1 _).setCell h1 _).setCell h1 _).setCell h1 _⟩

set_option maxRecDepth 100000 in
set_option maxHeartbeats 1600000 in
theorem iFindB_any (u : Value) (nm : ByteArray) (bs : List (ByteArray × T)) (lo h : Nat) (w : World) (hw : wBs bs ≤ 1048576) (hs : nm.size ≤ maxLen) (hv : BsAt w lo h u bs) :
    Calls Try.prog 39 #[u, .string nm] w (ResO (findB bs nm).isSome ((findB bs nm).getD zT) w) := by
  obtain ⟨W0, hW0⟩ : ∃ W0, W0 = w.alloc (.cells #[.int .i64 0, .int .i64 0, .string ⟨#[]⟩, .slice none 0 0] 29) := ⟨_, rfl⟩
  have hB0 : Below w.heap.size w W0 := by rw [hW0]; exact (Below.refl _ _).alloc (Nat.le_refl _) _
  have hs0 : W0.heap.size = w.heap.size + 1 := by rw [hW0]; simp
  have r0 : W0.heap[w.heap.size]? = some (trow 0 0 ByteArray.empty (.slice none 0 0)) := by rw [hW0]; exact heap_new _ _ rfl
  obtain ⟨l, hbv, hcall⟩ := subOf_any u bs lo h W0 (by have := wBs_len bs; omega) (hv.below hB0)
  obtain ⟨a, cap, rfl⟩ := hv.slice
  obtain ⟨ok, hok⟩ : ∃ ok, ok = (findB bs nm).isSome := ⟨_, rfl⟩
  obtain ⟨r, hr⟩ : ∃ r, r = (findB bs nm).getD zT := ⟨_, rfl⟩
  have HFI := Lib.hid (fun (b : Nat) (W : World) (h1 : TabAt b l W) (h2 : BsV W lo h bs l) => find_any b nm bs l lo h W h1 h2 hs hw)
  rw [← hok, ← hr] at HFI ⊢
  have HBV := Lib.hid hbv; have HC := Lib.hid hcall
  have HB0 := Lib.hid hB0; have HS0 := Lib.hid hs0; have HR0 := Lib.hid r0
  clear hv hbv hcall hB0 hs0 r0 hok hr hw
  go_enter Try.func39, Try.ntmps39
  go_wp2_with fail
  rw [← hW0]
  clear hW0
  refine HC.out.mono ?_
  rintro e w1 ⟨b, rfl, hbl, htab, hb1⟩
  have HT1 := Lib.hid (And.intro htab (HBV.out.below hb1))
  have HB1 := Lib.hid (HB0.out.trans (hb1.mono HB0.out.size))
  have HR1 : Hid (w1.heap[w.heap.size]? = some (trow 0 0 ByteArray.empty (.slice none 0 0)) ∧ w.heap.size + 1 ≤ w1.heap.size) := Lib.hid ⟨(hb1.block _ (by have := HS0.out; omega)).trans HR0.out, by have := hb1.size; have := HS0.out; omega⟩
  clear hbl htab hb1
  go_wp2_with fail
  refine (HFI.out b w1 HT1.out.1 HT1.out.2).mono ?_
  rintro e w5 ⟨k5, n5, s5, a5, m5, c5, h5, xs5, rfl, e5, hs5, ho5, hb5⟩
  have q1 : w5.heap[w.heap.size]? = some (trow 0 0 ByteArray.empty (.slice none 0 0)) := (hb5.block _ (by have := HR1.out.2; omega)).trans HR1.out.1
  obtain ⟨⟨y0, y1, y2, y3⟩, f0, f1, f2, f3⟩ := cells_of4 q1
  have HF := Lib.hid (fun v0 v1 v2 v3 => resO_fin (b := w.heap.size) (ok := ok) (v0 := v0) (v1 := v1) (v2 := v2) (v3 := v3) e5 hs5 ho5 (HB1.out.trans (hb5.mono HB1.out.size)) (Nat.le_refl _) (by have := HR1.out.2; omega))
  clear q1 ho5 hb5 hs5 e5
  go_wp2
  (try simp only [Exit.inBlock, Exit.then])
  refine bodyPost_ret (v := .tuple #[tv k5 n5 s5 (.slice a5 m5 c5), .bool ok]) ?_ rfl ?_
  · refine results_ct (a := 4) (b := 5) (t := 29) (ad := ⟨w.heap.size, 0, none⟩) rfl rfl _ _ ?_
    go_simp
  · exact HF.out _ _ _ _
theorem zq_new {w w' : World} (hb : Below (w.alloc (.cells #[.int .i64 0, .int .i64 0, .string ⟨#[]⟩, .slice none 0 0] 29)).heap.size (w.alloc (.cells #[.int .i64 0, .int .i64 0, .string ⟨#[]⟩, .slice none 0 0] 29)) w') : w'.heap[w.heap.size]? = some (trow 0 0 ⟨#[]⟩ (.slice none 0 0)) :=
  (hb.block _ (by simp)).trans (heap_new _ _ rfl)
theorem zq_drew {w w' : World} (hb : Below (w.drew.alloc (.cells #[.int .i64 0, .int .i64 0, .string ⟨#[]⟩, .slice none 0 0] 29)).heap.size (w.drew.alloc (.cells #[.int .i64 0, .int .i64 0, .string ⟨#[]⟩, .slice none 0 0] 29)) w') : w'.heap[w.heap.size]? = some (trow 0 0 ⟨#[]⟩ (.slice none 0 0)) := by
  have e := zq_new (w := w.drew) (w' := w') hb
  exact e

/-- The found term in its box. -/
def FoundBox (W : World) (h : Nat) (ok : Bool) (r : T) (pu vo : Value) (wc : World) : Prop :=
  ∃ B k' n' s' a' m' c' xs', pu = .pointer (some ⟨B, 0, none⟩) ∧ vo = .bool ok ∧ wc.heap[B]? = some (trow k' n' s' (.slice a' m' c')) ∧ r = .node k' n' s' xs' ∧ s'.size ≤ maxLen ∧ OwnR (fun _ => True) wc h W.heap.size wc.heap.size (.slice a' m' c') xs' ∧ Below W.heap.size W wc
theorem found_new {W w1 : World} {B h lo : Nat} {ok : Bool} {r : T} {k n : Int} {s : ByteArray} {a : Option Addr} {m c : Nat} {xs : List T} (hB : Below W.heap.size W w1) (e : r = .node k n s xs) (hs : s.size ≤ maxLen) (ho : OwnR (fun _ => True) w1 h lo w1.heap.size (.slice a m c) xs) (hlo : W.heap.size ≤ lo) (hb : B = w1.heap.size) :
    FoundBox W h ok r (.pointer (some ⟨B, 0, none⟩)) (.bool ok) (w1.alloc (.cells #[.int .i64 k, .int .i64 n, .string s, .slice a m c] 29)) := by
  subst hb
  have hb1 : Below w1.heap.size w1 (w1.alloc (.cells #[.int .i64 k, .int .i64 n, .string s, .slice a m c] 29)) := (Below.refl _ _).alloc (Nat.le_refl _) _
  refine ⟨_, k, n, s, a, m, c, xs, rfl, rfl, heap_new _ _ rfl, e, hs, ?_, hB.trans (hb1.mono hB.size)⟩
  exact (OwnR.keep (fun b _ _ b2 => ⟨hb1.block b b2, trivial⟩) ho).wide hlo hb1.size
theorem found_set {W w1 : World} {B h lo : Nat} {ok : Bool} {r : T} {x0 x1 x2 x3 : Value} {k n : Int} {s : ByteArray} {a : Option Addr} {m c : Nat} {xs : List T} (hB : Below W.heap.size W w1) (e : r = .node k n s xs) (hs : s.size ≤ maxLen) (ho : OwnR (fun _ => True) w1 h lo w1.heap.size (.slice a m c) xs) (hZ : w1.heap[B]? = some (.cells #[x0, x1, x2, x3] 29 (0, 0))) (hlo : B < lo) (hb : W.heap.size ≤ B) :
    FoundBox W h ok r (.pointer (some ⟨B, 0, none⟩)) (.bool ok) ((((w1.setCell ⟨B, 0, none⟩ (.int .i64 k)).setCell ⟨B, 1, none⟩ (.int .i64 n)).setCell ⟨B, 2, none⟩ (.string s)).setCell ⟨B, 3, none⟩ (.slice a m c)) := by
  have st : ∀ (X : World) (j : Nat) (v : Value), OwnR (fun _ => True) X h lo w1.heap.size (.slice a m c) xs → OwnR (fun _ => True) (X.setCell ⟨B, j, none⟩ v) h lo w1.heap.size (.slice a m c) xs := fun X j v o =>
    o.keep fun b' _ h1 _ => ⟨Below.heap_setCell _ _ _ _ (fun e => by simp at e; omega), trivial⟩
  refine ⟨_, k, n, s, a, m, c, xs, rfl, rfl, ?_, e, hs, (st _ _ _ (st _ _ _ (st _ _ _ (st _ _ _ ho)))).wide (by omega) (by simp [World.setCell]), (((hB.setCell hb _).setCell hb _).setCell hb _).setCell hb _⟩
  exact heap_set_at' (heap_set_at' (heap_set_at' (heap_set_at' hZ 0 _) 1 _) 2 _) 3 _

set_option maxRecDepth 100000 in
set_option maxHeartbeats 1600000 in
theorem appC_any (b sb : Nat) (bs : List (ByteArray × T)) (l : List (ByteArray × Value)) (lo h : Nat) (w0 : World) (ht : TabAt b l w0) (hbv : BsV w0 lo h bs l) (hw : wBs bs ≤ 1048576) (hsb : w0.cell? ⟨sb, 0, none⟩ = some (.map (some b))) :
    CbOk 95 (.pointer (some ⟨sb, 0, none⟩)) (findB bs) (fun s => s) h w0 := by
  intro nb no n s u W hW hlo hlt hn hs
  have hsl : s.size ≤ maxLen := by unfold maxLen; omega
  have hcs : W.cell? ⟨sb, 0, none⟩ = some (.map (some b)) := by rw [hW.cell (World.block_lt_of_cell? w0 _ hsb)]; exact hsb
  have hc2 := hn.c2
  have hcsa : ∀ o, (W.alloc o).cell? ⟨sb, 0, none⟩ = some (.map (some b)) := fun o => cell_on ((Below.refl _ _).alloc (Nat.le_refl _) o) hcs
  have hc2a : ∀ o, (W.alloc o).cell? ⟨nb, no + 2, none⟩ = some (.string s) := fun o => cell_on ((Below.refl _ _).alloc (Nat.le_refl _) o) hc2
  obtain ⟨ok, hok⟩ : ∃ ok, ok = (findB bs s).isSome := ⟨_, rfl⟩
  obtain ⟨r, hr⟩ : ∃ r, r = (findB bs s).getD zT := ⟨_, rfl⟩
  have HFI : Hid (∀ W', Below W.heap.size W W' → Calls Try.prog 63 #[.agg #[.map (some b)], .string s] W' (ResOH h ok r W')) := Lib.hid (fun W' hb => by
    have hb0 := hW.trans (hb.mono hW.size)
    rw [hok, hr]
    exact find_anyH b s bs l lo h W' (ht.below hb0) (hbv.below hb0) hsl hw)
  have HN := Lib.hid hn
  have HW := Lib.hid hW
  have HOK := Lib.hid (And.intro hok hr)
  clear hok hr ht hbv hW hn hw hsb
  have hd0 : Below W.heap.size W W.drew := Below.drew (Below.refl _ _)
  have hda : Below W.heap.size W (W.alloc (.cells #[.int .i64 0, .int .i64 0, .string ⟨#[]⟩, .slice none 0 0] 29)).drew := ((Below.refl _ _).alloc (Nat.le_refl _) _).drew
  go_enter Try.func95, Try.ntmps95
  go_wp2
  go_cut [4, 5] (fun pu vo wc => Hid (FoundBox W h ok r pu vo wc))
  case first =>
    go_region_law (first | (go_simp; go_at_call 63; refine (HFI.out _ (by first | exact hd0 | exact hd0.alloc (Nat.le_refl _) _)).mono ?_; rintro e w1 ⟨k1, n1, s1, a1, m1, c1, xs1, rfl, e1, hs1, ho1, hb1⟩; (first | (have hZ := zq_drew hb1; obtain ⟨⟨z0, z1, z2, z3⟩, y0, y1, y2, y3⟩ := cells_of4 hZ) | skip)))
    all_goals go_wp2_with fail
    all_goals go_meet
    all_goals first
      | (have hB1 : Below W.heap.size W w1 := by with_reducible exact bel_two hd0 hb1
         with_reducible refine Lib.hid (found_new hB1 e1 hs1 ho1 ?_ rfl)
         simp)
      | (have hB1 : Below W.heap.size W w1 := by with_reducible exact bel_two hda hb1
         with_reducible refine Lib.hid (found_set hB1 e1 hs1 ho1 hZ ?_ (Nat.le_refl _))
         simp)
  obtain ⟨B, k1, n1, s1, a1, m1, c1, xs1, rfl, rfl, hbox, hre, hs1, ho1, hbc⟩ := hcut.out
  have HFB := Lib.hid (And.intro hre (And.intro hs1 (And.intro ho1 hbc)))
  have hwc : wc.heap[nb]? = W.heap[nb]? := hbc.block nb hlt
  have hwl : nb < wc.heap.size := Nat.lt_of_lt_of_le hlt hbc.size
  clear hcut hcs hc2 hcsa hc2a hd0 hda HFI hre hs1 ho1
  cases ok with
  | false =>
    have HF : Hid (CbE (findB bs) (fun s => s) h w0 nb no s W (.returned (.bool false)) wc) := Lib.hid (by
      refine ⟨false, rfl, HW.out.trans (hbc.mono HW.out.size), hbc.size, fun j hj _ => hbc.block j hj, (fun e => absurd e (by decide)), fun _ => ⟨?_, hsl, ?_⟩⟩
      · cases e : findB bs s with
        | none => rfl
        | some t => have := HOK.out.1; rw [e] at this; cases this
      · rw [set_id HN.out.c2]; exact hwc)
    clear hbox hbc hwc hwl
    go_wp2
    go_ret
    exact HF.out
  | true =>
    obtain ⟨⟨x0, x1, x2, x3⟩, f0, f1, f2, f3⟩ := cells_of4 hbox
    have e0 : wc.cell? ⟨nb, no, none⟩ = some (.int .i64 1) := (cell_heap (ad := ⟨nb, no, none⟩) hwc).trans HN.out.c0
    have e1 : wc.cell? ⟨nb, no + 1, none⟩ = some (.int .i64 n) := (cell_heap (ad := ⟨nb, no + 1, none⟩) hwc).trans HN.out.c1
    have e2 : wc.cell? ⟨nb, no + 2, none⟩ = some (.string s) := (cell_heap (ad := ⟨nb, no + 2, none⟩) hwc).trans HN.out.c2
    have e3 : wc.cell? ⟨nb, no + 3, none⟩ = some u := (cell_heap (ad := ⟨nb, no + 3, none⟩) hwc).trans HN.out.c3
    have g0 : wc.frozen? ⟨nb, no, none⟩ = false := (hbc.frozen hlt).trans HN.out.f0
    have g1 : wc.frozen? ⟨nb, no + 1, none⟩ = false := (hbc.frozen hlt).trans HN.out.f1
    have g2 : wc.frozen? ⟨nb, no + 2, none⟩ = false := (hbc.frozen hlt).trans HN.out.f2
    have g3 : wc.frozen? ⟨nb, no + 3, none⟩ = false := (hbc.frozen hlt).trans HN.out.f3
    have HF : Hid (CbE (findB bs) (fun s => s) h w0 nb no s W (.returned (.bool true)) (cellsQ wc nb no k1 n1 s1 (.slice a1 m1 c1))) := Lib.hid (by
      obtain ⟨hre, hs1, ho1, hbc⟩ := HFB.out
      refine ⟨true, rfl, ((((HW.out.trans (hbc.mono HW.out.size)).setCell hlo _).setCell hlo _).setCell hlo _).setCell hlo _, by simp [World.setCell]; exact hbc.size, fun j hj hne => ?_, fun _ => ⟨k1, n1, s1, _, xs1, ?_, hs1, cellsQ_heap hwc, ?_⟩, (fun e => absurd e (by decide))⟩
      · have hh : ∀ (X : World) (q : Nat) (v : Value), (X.setCell ⟨nb, q, none⟩ v).heap[j]? = X.heap[j]? := fun X q v => Below.heap_setCell _ _ _ _ (fun e => hne (by simpa using e))
        unfold cellsQ
        rw [hh, hh, hh, hh]; exact hbc.block j hj
      · cases e : findB bs s with
        | none => have := HOK.out.1; rw [e] at this; cases this
        | some t =>
          have := HOK.out.2; rw [e] at this
          rw [← hre, this]; rfl
      · have hz : (cellsQ wc nb no k1 n1 s1 (.slice a1 m1 c1)).heap.size = wc.heap.size := by simp [World.setCell]
        rw [hz]
        refine ho1.keep fun b' _ b1 _ => ⟨?_, trivial⟩
        have hh : ∀ (X : World) (q : Nat) (v : Value), (X.setCell ⟨nb, q, none⟩ v).heap[b']? = X.heap[b']? := fun X q v => Below.heap_setCell _ _ _ _ (fun e => by simp at e; omega)
        unfold cellsQ
        rw [hh, hh, hh, hh])
    clear hbox hbc hwc hwl f0 f1 f2 f3
    go_wp2
    go_ret
    exact HF.out
end Go.Proofs.Ytkgpkphacjjlgaa
namespace Go.Proofs.Ytkgpkphacjjlgaa
open Go.RowKit

/-- What the count says. -/
def TSz (m : Nat) (left : Int) (w : World) (e : Ending) (w' : World) : Prop :=
  ∃ r : Int, e = .returned (.int .i64 r) ∧ Below w.heap.size w w' ∧ -1 ≤ r ∧ (0 ≤ r → r + m ≤ left)

def SzSAt (lo h : Nat) : Prop := ∀ (u : Value) (ts : List T) (left : Int) (w : World), ArgsAt w lo h u ts → 0 ≤ left → left ≤ 1048576 →
  Calls Try.prog 69 #[u, .int .i64 left] w (TSz (ts.length + wS ts) left w)

set_option maxRecDepth 100000 in
set_option maxHeartbeats 800000 in
theorem szT_of {lo h : Nat} (hS : SzSAt lo h) (k n : Int) (s : ByteArray) (u : Value) (xs : List T) (left : Int) (w : World) (hs : s.size ≤ maxLen) (ha : ArgsAt w lo h u xs) (h0 : 0 ≤ left) (h1 : left ≤ 1048576) :
    Calls Try.prog 26 #[tv k n s u, .int .i64 left] w (TSz (wT (.node k n s xs)) left w) := by
  have hs2 : s.size ≤ 9223372036854775807 := by unfold maxLen at hs; omega
  have hb0 : Below w.heap.size w (w.alloc (.cells #[.int .i64 k, .int .i64 n, .string s, u] 45)) := (Below.refl _ _).alloc (Nat.le_refl _) _
  have HA := Lib.hid (ha.below hb0); clear ha hs
  have HB0 := Lib.hid hb0; clear hb0
  have HW := Lib.hid (wT_node k n s xs)
  by_cases hneg : left - (s.size : Int) < 0
  · go_enter Try.func26, Try.ntmps26
    go_wp2
    go_ret
    exact ⟨-1, rfl, HB0.out, by omega, fun h => by omega⟩
  · go_enter Try.func26, Try.ntmps26
    go_wp2_with fail
    refine (hS u xs (left - (s.size : Int)) _ HA.out (by omega) (by omega)).mono ?_
    rintro e w1 ⟨r, rfl, hb1, hr1, hr2⟩
    have HR := Lib.hid hr2; clear hr2
    have HB1 := Lib.hid (HB0.out.trans (hb1.mono HB0.out.size)); clear hb1
    by_cases hr : r < 0
    · go_wp2
      go_ret
      exact ⟨-1, rfl, HB1.out, by omega, fun h => by omega⟩
    · go_wp2
      go_ret
      refine ⟨r, rfl, HB1.out, by omega, fun h => ?_⟩
      have h2 := HR.out (by omega)
      rw [HW.out]
      omega

set_option maxRecDepth 100000 in
set_option maxHeartbeats 400000 in
theorem szS_empty (left : Int) (a : Option Addr) (cap : Nat) (w : World) (h0 : 0 ≤ left) (h1 : left ≤ 1048576) :
    Calls Try.prog 69 #[.slice a 0 cap, .int .i64 left] w (TSz 0 left w) := by
  have hd : decide (left < 0) = false := by simp; omega
  go_enter Try.func69, Try.ntmps69
  go_wp2
  refine wp_loop_rounds 1 ?_
  rw [rounds_succ]
  go_wp2
  go_ret
  exact ⟨left, rfl, Below.refl _ _, by omega, fun _ => by omega⟩

set_option maxRecDepth 100000 in
set_option maxHeartbeats 1600000 in
theorem szS_some {lo h : Nat} (hS : SzSAt lo h) (b o cap : Nat) (ts : List T) (left : Int) (w : World) (h0 : 0 ≤ left) (h1 : left ≤ 1048576) (hl : ts.length ≤ maxLen)
    (hc : RowAt w lo h b o ts) :
    Calls Try.prog 69 #[.slice (some ⟨b, o, none⟩) ts.length cap, .int .i64 left] w (TSz (ts.length + wS ts) left w) := by
  have HC := Lib.hid hc; clear hc
  have HSS := Lib.hid hS; clear hS
  obtain ⟨n, hn⟩ : ∃ n, n = ts.length := ⟨_, rfl⟩
  have hl2 : ts.length ≤ 9223372036854775807 := by unfold maxLen at hl; omega
  clear hl
  rw [← hn] at hl2 ⊢
  have HN := Lib.hid hn; clear hn
  by_cases hbig : left < n
  · have hd : decide (left - (n : Int) < 0) = true := by simp; omega
    go_enter Try.func69, Try.ntmps69
    go_wp2
    go_ret
    exact ⟨-1, rfl, Below.refl _ _, by omega, fun h => by omega⟩
  · have hd : decide (left - (n : Int) < 0) = false := by simp; omega
    go_enter Try.func69, Try.ntmps69
    go_wp2
    go_loopw [1, 5] (fun q i wr => ∃ (k : Nat) (x : Int), k ≤ n ∧ i = .int .i64 k ∧ q = .int .i64 x ∧ 0 ≤ x ∧ x ≤ left ∧ Hid (x + n + wS (ts.take k) ≤ left) ∧ Below w.heap.size w wr) (fun _ i _ => n - (intOf i).toNat)
    case atStart => exact ⟨0, left - n, Nat.zero_le _, rfl, rfl, by omega, by omega, Lib.hid (by simp [wS]), Below.refl _ _⟩
    case round =>
      obtain ⟨k, x, hk, rfl, rfl, hx0, hx1, HX, hb⟩ := hrel
      have HB := Lib.hid hb; clear hb
      by_cases hlt : k < n
      · obtain ⟨t, ht⟩ : ∃ t, ts[k]? = some t := ⟨_, List.getElem?_eq_getElem (by have := HN.out; omega)⟩
        obtain ⟨tk', tn, tsn, txs⟩ := t
        obtain ⟨hsz, u', c0, c1, c2, c3, har⟩ := HC.out k _ _ _ _ ht
        have keep : ∀ {ad : Addr} {v : Value}, w.cell? ad = some v → wr.cell? ad = some v := fun {ad} {v} hv => by rw [HB.out.cell (World.block_lt_of_cell? w _ hv)]; exact hv
        have d0 := keep c0
        have d1 := keep c1
        have d2 := keep c2
        have d3 := keep c3
        clear c0 c1 c2 c3 keep
        have HAR := Lib.hid (har.below HB.out); clear har
        have HT := Lib.hid (tk ts k _ ht)
        have HSZ := Lib.hid hsz; clear hsz ht
        go_wp2_with fail
        refine (szT_of HSS.out tk' tn tsn u' txs x _ HSZ.out HAR.out hx0 (by omega)).mono ?_
        rintro e w1 ⟨r, rfl, hb1, hr1, hr2⟩
        have HR := Lib.hid hr2; clear hr2
        have HB1 := Lib.hid (HB.out.trans (hb1.mono HB.out.size)); clear hb1
        by_cases hr : r < 0
        · go_wp2
          go_ret
          exact ⟨-1, rfl, HB1.out, by omega, fun h => by omega⟩
        · have hx := HR.out (by omega)
          have HX2 : Hid (r + n + wS (ts.take (k + 1)) ≤ left) := Lib.hid (by rw [HT.out, wS_snoc]; have := HX.out; omega)
          clear hx
          have hrl : r ≤ left := by have := HX2.out; omega
          go_wp2
          go_roundw
          case rel => exact ⟨k + 1, r, by omega, by go_num, rfl, by omega, hrl, HX2, HB1.out⟩
          case measure => simp [intOf]; omega
      · have hkn : k = n := by omega
        have HD : Hid (x + n + wS ts ≤ left) := Lib.hid (by
          have h2 := HX.out
          rw [hkn, HN.out, List.take_length] at h2
          have := HN.out; omega)
        clear hkn
        go_wp2
        go_ret
        exact ⟨x, rfl, HB.out, by omega, fun _ => by have := HD.out; omega⟩

theorem szS_any (lo : Nat) : ∀ h, SzSAt lo h
  | 0 => fun u ts left w ha h0 h1 => by
    obtain ⟨rfl, a, cap, rfl⟩ := ha
    have := szS_empty left a cap w h0 h1
    simpa [wS] using this
  | h + 1 => fun u ts left w ha h0 h1 => by
    rcases ha.cases with ⟨rfl, a, cap, rfl⟩ | ⟨h', b, o, cap, e, rfl, hl, _, hc⟩
    · have := szS_empty left a cap w h0 h1
      simpa [wS] using this
    · obtain rfl : h = h' := by omega
      exact szS_some (szS_any lo h) b o cap ts left w h0 h1 hl hc

theorem szT_any (v : Value) (t : T) (lo h : Nat) (left : Int) (w : World) (ht : TermAt w lo h v t) (h0 : 0 ≤ left) (h1 : left ≤ 1048576) :
    Calls Try.prog 26 #[v, .int .i64 left] w (TSz (wT t) left w) := by
  obtain ⟨k, n, s, u, xs, rfl, rfl, hs, ha⟩ := ht
  exact szT_of (szS_any lo h) k n s u xs left w hs ha h0 h1
end Go.Proofs.Ytkgpkphacjjlgaa
namespace Go.Proofs.Ytkgpkphacjjlgaa
open Go.RowKit

set_option maxRecDepth 100000 in
set_option maxHeartbeats 800000 in
theorem szBind_any {lo h : Nat} (p : ByteArray) (k n : Int) (s : ByteArray) (u : Value) (xs : List T) (left : Int) (w : World) (hp : p.size ≤ maxLen) (hs : s.size ≤ maxLen) (ha : ArgsAt w lo h u xs) (h0 : 0 ≤ left) (h1 : left ≤ 1048576) :
    Calls Try.prog 81 #[bv p k n s u, .int .i64 left] w (TSz (p.size + wT (.node k n s xs)) left w) := by
  have hp2 : p.size ≤ 9223372036854775807 := by unfold maxLen at hp; omega
  have hb0 : Below w.heap.size w (w.alloc (.cells #[.string p, .int .i64 k, .int .i64 n, .string s, u] 126)) := (Below.refl _ _).alloc (Nat.le_refl _) _
  have HA : Hid (TermAt (w.alloc (.cells #[.string p, .int .i64 k, .int .i64 n, .string s, u] 126)) lo h (tv k n s u) (.node k n s xs)) := Lib.hid ⟨_, _, _, _, xs, rfl, rfl, hs, ha.below hb0⟩
  clear ha hs
  have HB0 := Lib.hid hb0; clear hb0
  obtain ⟨tw, htw⟩ : ∃ tw, tw = wT (.node k n s xs) := ⟨_, rfl⟩
  have HC := Lib.hid (fun (l : Int) (a : 0 ≤ l) (b : l ≤ 1048576) => szT_any _ (.node k n s xs) lo h l _ HA.out a b)
  rw [← htw] at HC ⊢
  clear htw hp
  by_cases hneg : left - (p.size : Int) < 0
  · go_enter Try.func81, Try.ntmps81
    go_wp2
    go_ret
    exact ⟨-1, rfl, HB0.out, by omega, fun h => by omega⟩
  · go_enter Try.func81, Try.ntmps81
    go_wp2_with fail
    refine (HC.out (left - (p.size : Int)) (by omega) (by omega)).mono ?_
    rintro e w1 ⟨r, rfl, hb1, hr1, hr2⟩
    have HR := Lib.hid hr2; clear hr2
    have HB1 := Lib.hid (HB0.out.trans (hb1.mono HB0.out.size)); clear hb1
    by_cases hr : r < 0
    · go_wp2
      go_ret
      exact ⟨-1, rfl, HB1.out, by omega, fun h => by omega⟩
    · go_wp2
      go_ret
      refine ⟨r, rfl, HB1.out, by omega, fun h => ?_⟩
      have h2 := HR.out (by omega)
      omega

set_option maxRecDepth 100000 in
set_option maxHeartbeats 1600000 in
theorem szBs_any (u : Value) (bs : List (ByteArray × T)) (lo h : Nat) (left : Int) (w : World) (hu : BsAt w lo h u bs) (h0 : 0 ≤ left) (h1 : left ≤ 1048576) :
    Calls Try.prog 36 #[u, .int .i64 left] w (TSz (wBs bs) left w) := by
  have hl := hu.len
  have HC := Lib.hid hu
  obtain ⟨a, cap, rfl⟩ := hu.slice
  clear hu
  obtain ⟨n, hn⟩ : ∃ n, n = bs.length := ⟨_, rfl⟩
  have hl2 : bs.length ≤ 9223372036854775807 := by unfold maxLen at hl; omega
  clear hl
  rw [← hn] at hl2 HC ⊢
  have HN := Lib.hid hn; clear hn
  by_cases hbig : left < n
  · have hd : decide (left - (n : Int) < 0) = true := by simp; omega
    go_enter Try.func36, Try.ntmps36
    go_wp2
    go_ret
    exact ⟨-1, rfl, Below.refl _ _, by omega, fun h => by omega⟩
  · have hd : decide (left - (n : Int) < 0) = false := by simp; omega
    go_enter Try.func36, Try.ntmps36
    go_wp2
    go_loopw [1, 5] (fun q i wr => ∃ (k : Nat) (x : Int), k ≤ n ∧ i = .int .i64 k ∧ q = .int .i64 x ∧ 0 ≤ x ∧ x ≤ left ∧ Hid (x + n + wBs (bs.take k) ≤ left + k) ∧ Below w.heap.size w wr) (fun _ i _ => n - (intOf i).toNat)
    case atStart => exact ⟨0, left - n, Nat.zero_le _, rfl, rfl, by omega, by omega, Lib.hid (by simp [wBs]), Below.refl _ _⟩
    case round =>
      obtain ⟨k, x, hk, rfl, rfl, hx0, hx1, HX, hb⟩ := hrel
      have HB := Lib.hid hb; clear hb
      by_cases hlt : k < n
      · obtain ⟨y, ht⟩ : ∃ y, bs[k]? = some y := ⟨_, List.getElem?_eq_getElem (by have := HN.out; omega)⟩
        obtain ⟨b, o, c', p, tk', tn, tsn, txs, u', e, rfl, _, hps, hsz, c0, c1, c2, c3, c4, har⟩ := HC.out.at ht
        obtain ⟨rfl, -, rfl⟩ : a = some ⟨b, o, none⟩ ∧ n = bs.length ∧ cap = c' := by simpa using e
        have d0 := cell_on HB.out c0
        have d1 := cell_on HB.out c1
        have d2 := cell_on HB.out c2
        have d3 := cell_on HB.out c3
        have d4 := cell_on HB.out c4
        clear c0 c1 c2 c3 c4 e
        have HAR := Lib.hid (har.below HB.out); clear har
        have HT := Lib.hid (tk bs k _ ht)
        have HSZ := Lib.hid (And.intro hps hsz); clear hsz hps ht
        go_wp2_with fail
        refine (szBind_any p tk' tn tsn u' txs x _ HSZ.out.1 HSZ.out.2 HAR.out hx0 (by omega)).mono ?_
        rintro e w1 ⟨r, rfl, hb1, hr1, hr2⟩
        have HR := Lib.hid hr2; clear hr2
        have HB1 := Lib.hid (HB.out.trans (hb1.mono HB.out.size)); clear hb1
        by_cases hr : r < 0
        · go_wp2
          go_ret
          exact ⟨-1, rfl, HB1.out, by omega, fun h => by omega⟩
        · have hx := HR.out (by omega)
          have HX2 : Hid (r + n + wBs (bs.take (k + 1)) ≤ left + (k + 1 : Nat)) := Lib.hid (by rw [HT.out, wBs_snoc]; have := HX.out; simp only; omega)
          have hrl : r ≤ left := by have h1 := HX2.out; have h2 := wBs_len (bs.take (k + 1)); rw [List.length_take] at h2; have h3 := HN.out; omega
          clear hx
          go_wp2
          go_roundw
          case rel => exact ⟨k + 1, r, by omega, by go_num, rfl, by omega, hrl, HX2, HB1.out⟩
          case measure => simp [intOf]; omega
      · have hkn : k = n := by omega
        have HD : Hid (x + wBs bs ≤ left) := Lib.hid (by
          have h2 := HX.out
          rw [hkn, HN.out, List.take_length] at h2
          omega)
        clear hkn
        go_wp2
        go_ret
        exact ⟨x, rfl, HB.out, by omega, fun _ => by have := HD.out; omega⟩
end Go.Proofs.Ytkgpkphacjjlgaa
namespace Go.Proofs.Ytkgpkphacjjlgaa
open Go.RowKit

theorem infoBind : (Try.prog.info? 87).map (fun i => (i.zero, i.size, i.bytes)) = some (some (.agg #[.string ByteArray.empty, .int .i64 0, .int .i64 0, .string ByteArray.empty, .slice none 0 0]), 5, 72) := by kernel_rfl

/-- A copy of a Bind. -/
def CopyBd (h : Nat) (p : ByteArray) (t : T) (w : World) (e : Ending) (w' : World) : Prop :=
  ∃ k n s u xs, e = .returned (bv p k n s u) ∧ t = .node k n s xs ∧ (ArgsAt w' w.heap.size h u xs ∧ OwnA w' h w.heap.size w'.heap.size u xs) ∧ Below w.heap.size w w'

set_option maxRecDepth 100000 in
set_option maxHeartbeats 800000 in
theorem toBind_any {lo h : Nat} (p : ByteArray) (k n : Int) (s : ByteArray) (u : Value) (xs : List T) (w : World) (hs : s.size ≤ maxLen) (ha : ArgsAt w lo h u xs) (hw : wT (.node k n s xs) ≤ 1048576) :
    Calls Try.prog 82 #[bv p k n s u] w (CopyBd h p (.node k n s xs) w) := by
  obtain ⟨W, hW⟩ : ∃ W, W = ((w.alloc (.cells #[.string p, .int .i64 k, .int .i64 n, .string s, u] 126)).alloc (.cells #[.string ⟨#[]⟩, .int .i64 0, .int .i64 0, .string ⟨#[]⟩, .slice none 0 0] 87)).alloc (.cells #[.string p, .int .i64 0, .int .i64 0, .string ⟨#[]⟩, .slice none 0 0] 87) := ⟨_, rfl⟩
  have hWs : W.heap.size = w.heap.size + 1 + 1 + 1 := by rw [hW]; simp
  have r1 : W.heap[w.heap.size + 1]? = some (.cells #[.string ⟨#[]⟩, .int .i64 0, .int .i64 0, .string ⟨#[]⟩, .slice none 0 0] 87 (0, 0)) := by rw [hW]; exact heap_mid _ _ _ (by simp)
  have r2 : W.heap[w.heap.size + 1 + 1]? = some (.cells #[.string p, .int .i64 0, .int .i64 0, .string ⟨#[]⟩, .slice none 0 0] 87 (0, 0)) := by rw [hW]; exact heap_new _ _ (by simp)
  have hbW : Below w.heap.size w W := by rw [hW]; exact (((Below.refl _ _).alloc (Nat.le_refl _) _).alloc (by simp) _).alloc (by simp; omega) _
  have HC := Lib.hid (toT_own (tv k n s u) (.node k n s xs) lo h W ⟨_, _, _, _, xs, rfl, rfl, hs, ha.below hbW⟩ hw)
  clear ha hw
  have HBW := Lib.hid hbW; clear hbW
  have HWS := Lib.hid hWs; clear hWs
  go_enter Try.func82, Try.ntmps82
  go_wp2_with fail
  rw [← hW]
  clear hW
  refine HC.out.mono ?_
  rintro e w1 ⟨k', n', s', u1, xs', rfl, he, hs', ⟨ha1, ho1⟩, hb1⟩
  cases he
  obtain ⟨ua, uc, rfl⟩ := ha1.slice
  have q1 := hb1.block (w.heap.size + 1) (by have := HWS.out; omega)
  have q2 := hb1.block (w.heap.size + 1 + 1) (by have := HWS.out; omega)
  rw [r1] at q1
  rw [r2] at q2
  clear r1 r2
  have a0 := cell_of_row w1 (w.heap.size + 1) 0 _ _ _ q1
  have a1 := cell_of_row w1 (w.heap.size + 1) 1 _ _ _ q1
  have a2 := cell_of_row w1 (w.heap.size + 1) 2 _ _ _ q1
  have a3 := cell_of_row w1 (w.heap.size + 1) 3 _ _ _ q1
  have a4 := cell_of_row w1 (w.heap.size + 1) 4 _ _ _ q1
  have f0 := frozen_of_row w1 (w.heap.size + 1) 0 _ _ q1
  have f1 := frozen_of_row w1 (w.heap.size + 1) 1 _ _ q1
  have f2 := frozen_of_row w1 (w.heap.size + 1) 2 _ _ q1
  have f3 := frozen_of_row w1 (w.heap.size + 1) 3 _ _ q1
  have f4 := frozen_of_row w1 (w.heap.size + 1) 4 _ _ q1
  have b0 := cell_of_row w1 (w.heap.size + 1 + 1) 0 _ _ _ q2
  have b1 := cell_of_row w1 (w.heap.size + 1 + 1) 1 _ _ _ q2
  have b2 := cell_of_row w1 (w.heap.size + 1 + 1) 2 _ _ _ q2
  have b3 := cell_of_row w1 (w.heap.size + 1 + 1) 3 _ _ _ q2
  have b4 := cell_of_row w1 (w.heap.size + 1 + 1) 4 _ _ _ q2
  have g1 := frozen_of_row w1 (w.heap.size + 1 + 1) 1 _ _ q2
  have g2 := frozen_of_row w1 (w.heap.size + 1 + 1) 2 _ _ q2
  have g3 := frozen_of_row w1 (w.heap.size + 1 + 1) 3 _ _ q2
  have g4 := frozen_of_row w1 (w.heap.size + 1 + 1) 4 _ _ q2
  simp at a0 a1 a2 a3 a4 b0 b1 b2 b3 b4
  clear q1 q2 hs'
  have HF : Hid (∀ v1 v2 v3 v4 y0 y1 y2 y3 y4, CopyBd h p (.node k n s xs) w (.returned (bv p k n s (.slice ua xs.length uc)))
      (((((((((w1.setCell ⟨w.heap.size + 1 + 1, 1, none⟩ v1).setCell ⟨w.heap.size + 1 + 1, 2, none⟩ v2).setCell ⟨w.heap.size + 1 + 1, 3, none⟩ v3).setCell ⟨w.heap.size + 1 + 1, 4, none⟩ v4).setCell ⟨w.heap.size + 1, 0, none⟩ y0).setCell ⟨w.heap.size + 1, 1, none⟩ y1).setCell ⟨w.heap.size + 1, 2, none⟩ y2).setCell ⟨w.heap.size + 1, 3, none⟩ y3).setCell ⟨w.heap.size + 1, 4, none⟩ y4)) := Lib.hid (fun v1 v2 v3 v4 y0 y1 y2 y3 y4 => by
    have h4 := HWS.out
    have hb := HBW.out.trans (hb1.mono HBW.out.size)
    have hlt : ∀ B : Nat, B < W.heap.size → ∀ i, some B = some i → i < W.heap.size := fun B h i e => by cases e; exact h
    have stA : ∀ (X : World) (B j : Nat) (v : Value), B < W.heap.size → ArgsAt X W.heap.size h (.slice ua xs.length uc) xs → ArgsAt (X.setCell ⟨B, j, none⟩ v) W.heap.size h (.slice ua xs.length uc) xs := fun X B j v hB q => ArgsAt.grown q (set_grown X B j v) (hlt B hB)
    have stO : ∀ (X : World) (B j : Nat) (v : Value), B < W.heap.size → OwnA X h W.heap.size w1.heap.size (.slice ua xs.length uc) xs → OwnA (X.setCell ⟨B, j, none⟩ v) h W.heap.size w1.heap.size (.slice ua xs.length uc) xs := fun X B j v hB q => q.off (Or.inl hB) j v
    have stB : ∀ (X : World) (B j : Nat) (v : Value), w.heap.size ≤ B → Below w.heap.size w X → Below w.heap.size w (X.setCell ⟨B, j, none⟩ v) := fun X B j v hB q => q.setCell hB v
    refine ⟨k, n, s, _, xs, rfl, rfl, ⟨ArgsAt.low (lo := W.heap.size) (by omega) ?_, OwnA.wide (by omega) (by simp [World.setCell]) (lo := W.heap.size) (hi := w1.heap.size) ?_⟩, ?_⟩
    · iterate 9 refine stA _ _ _ _ (by omega) ?_
      exact ha1
    · iterate 9 refine stO _ _ _ _ (by omega) ?_
      exact ho1
    · iterate 9 refine stB _ _ _ _ (by omega) ?_
      exact hb)
  clear ha1 ho1 hb1
  go_wp2
  (try simp only [Exit.inBlock, Exit.then])
  refine bodyPost_ret (v := bv p k n s (.slice ua xs.length uc)) ?hr rfl ?_
  case hr =>
    rw [results_cell (a := 2) (t := 87) (ad := ⟨w.heap.size + 1, 0, none⟩) rfl rfl]
    go_simp
  exact HF.out _ _ _ _ _ _ _ _ _

/-- How far the copy of a row has come; the rows below it lie in blocks up to B. -/
def CopyRelB (h g n k B : Nat) (bs : List (ByteArray × T)) (w : World) : Prop :=
  ∃ (xs : List Value) (U : Nat → Value) (L R : Nat → Nat), w.ownsRow g 87 5 (.slice (some ⟨g, 0, none⟩) n n) n xs ∧ (∀ i p kk nn s txs, i < k → bs[i]? = some (p, T.node kk nn s txs) →
    (p.size ≤ maxLen ∧ s.size ≤ maxLen) ∧ xs[i * 5]? = some (.string p) ∧ xs[i * 5 + 1]? = some (.int .i64 kk) ∧ xs[i * 5 + 2]? = some (.int .i64 nn) ∧ xs[i * 5 + 3]? = some (.string s) ∧ xs[i * 5 + 4]? = some (U i) ∧ ArgsAt w (g + 1) h (U i) txs ∧ OwnA w h (L i) (R i) (U i) txs) ∧
    (∀ i, i < k → g < L i ∧ L i ≤ R i ∧ R i ≤ B) ∧ (∀ i j, i < j → j < k → R i ≤ L j)
theorem CopyRelB.below {h g n k B : Nat} {bs : List (ByteArray × T)} {w w' : World} (c : CopyRelB h g n k B bs w) (hb : Below w.heap.size w w') (hB : B ≤ w.heap.size) : CopyRelB h g n k B bs w' := by
  obtain ⟨xs, U, L, R, ho, hx, hl, hd⟩ := c
  refine ⟨xs, U, L, R, keep_own ho hb, fun i p kk nn s txs hi ht => ?_, hl, hd⟩
  obtain ⟨hs, x0, x1, x2, x3, x4, ha, hoa⟩ := hx i p kk nn s txs hi ht
  exact ⟨hs, x0, x1, x2, x3, x4, ha.below hb, hoa.keep fun b b1 b2 => hb.block b (by have := hl i hi; omega)⟩
theorem CopyRelB.cells {h g n k B : Nat} {bs : List (ByteArray × T)} {w : World} (c : CopyRelB h g n k B bs w) (hk : k < n) (j : Nat) (hj : j < 5) :
    (∃ v, w.cell? ⟨g, k * 5 + j, none⟩ = some v) ∧ w.frozen? ⟨g, k * 5 + j, none⟩ = false := by
  obtain ⟨xs, U, L, R, ho, _⟩ := c
  have hl := ho.1
  refine ⟨?_, ho.frozenAt _⟩
  rw [ho.cellAt (k * 5 + j) (by omega)]
  exact ⟨_, List.getElem?_eq_getElem (by omega)⟩
theorem set5 {xs : List Value} {a q : Nat} {v0 v1 v2 v3 v4 : Value} (h0 : a ≠ q) (h1 : a + 1 ≠ q) (h2 : a + 2 ≠ q) (h3 : a + 3 ≠ q) (h4 : a + 4 ≠ q) :
    (((((xs.set a v0).set (a + 1) v1).set (a + 2) v2).set (a + 3) v3).set (a + 4) v4)[q]? = xs[q]? := by
  rw [List.getElem?_set_ne h4, List.getElem?_set_ne h3, List.getElem?_set_ne h2, List.getElem?_set_ne h1, List.getElem?_set_ne h0]
/-- A Bind's five cells. -/
abbrev cells5 (w : World) (g k : Nat) (p : ByteArray) (kk nn : Int) (s : ByteArray) (u : Value) : World :=
  ((((w.setCell ⟨g, k * 5, none⟩ (.string p)).setCell ⟨g, k * 5 + 1, none⟩ (.int .i64 kk)).setCell ⟨g, k * 5 + 2, none⟩ (.int .i64 nn)).setCell ⟨g, k * 5 + 3, none⟩ (.string s)).setCell ⟨g, k * 5 + 4, none⟩ u
theorem cells5_heap (w : World) (g k : Nat) (p : ByteArray) (kk nn : Int) (s : ByteArray) (u : Value) {b : Nat} (h : b ≠ g) : (cells5 w g k p kk nn s u).heap[b]? = w.heap[b]? := by
  unfold cells5
  rw [Below.heap_setCell _ _ _ _ (by exact h), Below.heap_setCell _ _ _ _ (by exact h), Below.heap_setCell _ _ _ _ (by exact h), Below.heap_setCell _ _ _ _ (by exact h), Below.heap_setCell _ _ _ _ (by exact h)]
theorem CopyRelB.step {h g n k B B' : Nat} {bs : List (ByteArray × T)} {w : World} (c : CopyRelB h g n k B bs w) (hk : k < n) {p : ByteArray} {kk nn : Int} {s : ByteArray} {txs : List T} {u : Value} (ht : bs[k]? = some (p, T.node kk nn s txs)) (hs : p.size ≤ maxLen ∧ s.size ≤ maxLen) (ha : ArgsAt w (g + 1) h u txs)
    (hoa : OwnA w h B B' u txs) (hgB : g < B) (hBB : B ≤ B') : CopyRelB h g n (k + 1) B' bs (cells5 w g k p kk nn s u) := by
  obtain ⟨xs, U, L, R, ho, hx, hlr, hd⟩ := c
  have hl : xs.length = n * 5 := ho.1
  have o1 := (ho.stored (k * 5) (.string p)).1
  have o2 := (o1.stored (k * 5 + 1) (.int .i64 kk)).1
  have o3 := (o2.stored (k * 5 + 2) (.int .i64 nn)).1
  have o4 := (o3.stored (k * 5 + 3) (.string s)).1
  have o5 := (o4.stored (k * 5 + 4) u).1
  have hoth : ∀ b, b ≠ g → (cells5 w g k p kk nn s u).heap[b]? = w.heap[b]? := fun b hb => cells5_heap _ _ _ _ _ _ _ _ hb
  have up : ∀ {u' : Value} {txs' : List T}, ArgsAt w (g + 1) h u' txs' → ArgsAt (cells5 w g k p kk nn s u) (g + 1) h u' txs' := fun q =>
    q.keep fun ad v hlo hv => by rw [cell_heap (hoth ad.block (by omega))]; exact hv
  have upo : ∀ {u' : Value} {txs' : List T} {l r : Nat}, g < l → OwnA w h l r u' txs' → OwnA (cells5 w g k p kk nn s u) h l r u' txs' :=
    fun hgl q => q.keep fun b b1 _ => hoth b (by omega)
  refine ⟨_, fun i => if i = k then u else U i, fun i => if i = k then B else L i, fun i => if i = k then B' else R i, o5, fun i p' kk' nn' s' txs' hi ht' => ?_, fun i hi => ?_, fun i j hij hj => ?_⟩
  · by_cases hik : i = k
    · subst hik
      rw [ht] at ht'
      cases ht'
      refine ⟨hs, ?_, ?_, ?_, ?_, ?_, by simpa using up ha, by simpa using upo hgB hoa⟩
      all_goals (simp [List.getElem?_set]; omega)
    · obtain ⟨hs', x0, x1, x2, x3, x4, ha', hoa'⟩ := hx i p' kk' nn' s' txs' (by omega) ht'
      refine ⟨hs', ?_, ?_, ?_, ?_, ?_, by simpa [hik] using up ha', by simpa [hik] using upo (hlr i (by omega)).1 hoa'⟩
      · rw [set5 (by omega) (by omega) (by omega) (by omega) (by omega)]; exact x0
      · rw [set5 (by omega) (by omega) (by omega) (by omega) (by omega)]; exact x1
      · rw [set5 (by omega) (by omega) (by omega) (by omega) (by omega)]; exact x2
      · rw [set5 (by omega) (by omega) (by omega) (by omega) (by omega)]; exact x3
      · rw [set5 (by omega) (by omega) (by omega) (by omega) (by omega)]; simpa [hik] using x4
  · by_cases hik : i = k
    · simp [hik]; omega
    · have := hlr i (by omega)
      simp [hik]; omega
  · have hik : i ≠ k := by omega
    by_cases hjk : j = k
    · have := hlr i (by omega)
      simp [hik, hjk]; omega
    · simpa [hik, hjk] using hd i j hij (by omega)
theorem CopyRelB.done {h g n B : Nat} {bs : List (ByteArray × T)} {w : World} (c : CopyRelB h g n n B bs w) (hn : n = bs.length) (hl : n ≤ maxLen) (hB : g < B) : BsObj g B h (.slice (some ⟨g, 0, none⟩) n n) bs w := by
  obtain ⟨xs, U, L, R, ho, hx, hlr, hd⟩ := c
  have hii : ∀ {i : Nat} {x : ByteArray × T}, bs[i]? = some x → i < n := fun {i} {t} ht => by have := (List.getElem?_eq_some_iff.1 ht).1; omega
  constructor
  · refine ⟨_, n, by rw [hn], by omega, Or.inr ⟨g, 0, rfl, Nat.le_refl _, fun i p kk nn s txs ht => ?_⟩⟩
    have hi := hii ht
    obtain ⟨hs, x0, x1, x2, x3, x4, ha, _⟩ := hx i p kk nn s txs hi ht
    refine ⟨hs.1, hs.2, U i, ?_, ?_, ?_, ?_, ?_, ha.low (by omega)⟩
    · rw [Nat.zero_add, ho.cellAt (i * 5) (by omega), x0]
    · rw [Nat.zero_add, ho.cellAt (i * 5 + 1) (by omega), x1]
    · rw [Nat.zero_add, ho.cellAt (i * 5 + 2) (by omega), x2]
    · rw [Nat.zero_add, ho.cellAt (i * 5 + 3) (by omega), x3]
    · rw [Nat.zero_add, ho.cellAt (i * 5 + 4) (by omega), x4]
  · subst hn
    refine ⟨_, _, rfl, Or.inr ⟨g, xs, U, L, R, rfl, Nat.le_refl _, hB, ho, fun i p kk nn s txs ht => ?_, fun i j hij hj => Or.inl (hd i j hij hj)⟩⟩
    obtain ⟨_, _, _, _, _, x4, _, hoa⟩ := hx i p kk nn s txs (hii ht) ht
    have := hlr i (hii ht)
    exact ⟨x4, by omega, by omega, by omega, hoa⟩

/-- A copy of a list of Binds. -/
def CopyBs (h : Nat) (bs : List (ByteArray × T)) (w : World) (e : Ending) (w' : World) : Prop := ∃ v, e = .returned v ∧ BsObj w.heap.size w'.heap.size h v bs w' ∧ Below w.heap.size w w'

set_option maxRecDepth 100000 in
set_option maxHeartbeats 1600000 in
theorem toBs_any (v : Value) (bs : List (ByteArray × T)) (lo h : Nat) (w : World) (hw : wBs bs ≤ 1048576) (hv : BsAt w lo h v bs) :
    Calls Try.prog 38 #[v] w (CopyBs h bs w) := by
  obtain ⟨i0, hi, hz0, hz1, hz2⟩ := info_parts infoBind
  have HI := Lib.hid hi; clear hi
  have HZ0 := Lib.hid hz0; clear hz0
  have HZ1 := Lib.hid hz1; clear hz1
  have HZ2 := Lib.hid hz2; clear hz2
  have HC := Lib.hid hv
  obtain ⟨a, cap, rfl⟩ := hv.slice
  clear hv
  have HWT := Lib.hid hw
  obtain ⟨n, hn⟩ : ∃ n, n = bs.length := ⟨_, rfl⟩
  have hl : n ≤ 1048576 := by have := wBs_len bs; omega
  clear hw
  rw [← hn] at HC ⊢
  have HN := Lib.hid hn; clear hn
  go_enter Try.func38, Try.ntmps38
  go_wp2_with (first | (at_make; refine wpList_make_full _ rfl (.tmp 6) (.tmp 6) 24 rfl w.heap.size 87 i0 (.agg #[.string ByteArray.empty, .int .i64 0, .int .i64 0, .string ByteArray.empty, .slice none 0 0]) 5 Try.underlying24 HI.out HZ0.out HZ1.out _ _ _ _ n rfl rfl rfl rfl ?m1 ?m2 ?m3 ?_))
  case m1 => rw [HZ2.out]; omega
  case m2 => unfold maxLen; omega
  case m3 => exact Nat.le_refl _
  intro w1 hown hgrow
  have hb : Below w.heap.size w w1 := (Below.refl _ _).grown hgrow (Nat.le_refl _) (fun k hk => by cases hk)
  have hrel0 : CopyRelB h w.heap.size n 0 w1.heap.size bs w1 := ⟨_, fun _ => undef, fun _ => 0, fun _ => 0, hown, fun i _ _ _ _ _ hi => by omega, fun i hi => by omega, fun i j hij hj => by omega⟩
  have HR0 := Lib.hid hrel0; clear hrel0 hown
  have hsz : w.heap.size < w1.heap.size := by
    obtain ⟨_, _, _, _, ho, _⟩ := HR0.out
    exact (ho.lt w.heap.size rfl).2
  have HB := Lib.hid hb; clear hb hgrow
  go_wp2
  go_loopw [4] (fun i wr => ∃ k : Nat, k ≤ n ∧ i = .int .i64 k ∧ Hid (CopyRelB h w.heap.size n k wr.heap.size bs wr) ∧ Hid (Below w.heap.size w wr) ∧ w.heap.size < wr.heap.size) (fun i _ => n - (intOf i).toNat)
  case atStart => exact ⟨0, Nat.zero_le _, rfl, HR0, HB, hsz⟩
  case round =>
    obtain ⟨k, hk, rfl, HR, HBR, hsr⟩ := hrel
    by_cases hlt : k < n
    · obtain ⟨y, ht⟩ : ∃ y, bs[k]? = some y := ⟨_, List.getElem?_eq_getElem (by have := HN.out; omega)⟩
      obtain ⟨b, o, c', p, tk', tn, tsn, txs, u', e, rfl, _, hps, hszn, c0, c1, c2, c3, c4, har⟩ := HC.out.at ht
      obtain ⟨rfl, -, rfl⟩ : a = some ⟨b, o, none⟩ ∧ n = bs.length ∧ cap = c' := by simpa using e
      have d0 := cell_on HBR.out c0
      have d1 := cell_on HBR.out c1
      have d2 := cell_on HBR.out c2
      have d3 := cell_on HBR.out c3
      have d4 := cell_on HBR.out c4
      clear c0 c1 c2 c3 c4 e
      have HAR := Lib.hid (har.below HBR.out); clear har
      have hwt := wBs_mem ht
      have HWX : Hid (wT (.node tk' tn tsn txs) ≤ 1048576) := Lib.hid (by have := HWT.out; simp only at hwt; omega)
      clear hwt
      have HTT := Lib.hid ht; clear ht
      have HSZ := Lib.hid (And.intro hps hszn); clear hszn hps
      go_wp2_with fail
      refine (toBind_any p tk' tn tsn u' txs _ HSZ.out.2 HAR.out HWX.out).mono ?_
      rintro e w2 ⟨kk, nn, ss, u2, xx, rfl, he, ⟨ha2, ho2⟩, hb2⟩
      cases he
      have HR2 := Lib.hid (HR.out.below hb2 (by simp))
      have HB2 := Lib.hid (HBR.out.trans (hb2.mono HBR.out.size))
      have hs2' := hb2.size
      obtain ⟨⟨o0, g0⟩, f0⟩ := HR2.out.cells hlt 0 (by omega)
      obtain ⟨⟨o1, g1⟩, f1⟩ := HR2.out.cells hlt 1 (by omega)
      obtain ⟨⟨o2, g2⟩, f2⟩ := HR2.out.cells hlt 2 (by omega)
      obtain ⟨⟨o3, g3⟩, f3⟩ := HR2.out.cells hlt 3 (by omega)
      obtain ⟨⟨o4, g4⟩, f4⟩ := HR2.out.cells hlt 4 (by omega)
      rw [Nat.add_zero] at g0 f0
      have ha3 : ArgsAt w2 (w.heap.size + 1) h u2 txs := ha2.low (by omega)
      obtain ⟨ua, uc, rfl⟩ := ha2.slice
      have HST := Lib.hid (HR2.out.step hlt HTT.out HSZ.out ha3 (ho2.wide (by simp) (Nat.le_refl _)) (by omega) (by omega)); clear ha2 ha3 hs2' hb2 ho2
      go_wp2
      go_roundw
      case rel => exact ⟨k + 1, by omega, by go_num, Lib.hid (by simpa using HST.out), Lib.hid (((((HB2.out.setCell (Nat.le_refl _) _).setCell (Nat.le_refl _) _).setCell (Nat.le_refl _) _).setCell (Nat.le_refl _) _).setCell (Nat.le_refl _) _), by have := HB2.out.size; have := HR2.out; simp; obtain ⟨_, _, _, _, ho, _⟩ := this; exact (ho.lt w.heap.size rfl).2⟩
      case measure => simp [intOf]; omega
    · have hkn : k = n := by omega
      subst hkn
      have HD := Lib.hid (HR.out.done HN.out (by unfold maxLen; omega) hsr)
      go_wp2
      go_ret
      exact ⟨_, rfl, HD.out, HBR.out⟩

/-- Copied, with what it reads as for two heights. -/
theorem BsAt.two {w : World} {lo lo' h h' : Nat} {u v : Value} {bs : List (ByteArray × T)} (a : BsAt w lo h u bs) (b : BsAt w lo' h' v bs) : BsAt w lo (max h h') u bs ∧ BsAt w lo' (max h h') v bs := ⟨a.le (Nat.le_max_left _ _), b.le (Nat.le_max_right _ _)⟩
end Go.Proofs.Ytkgpkphacjjlgaa
namespace Go.Proofs.Ytkgpkphacjjlgaa
open Go.RowKit

set_option maxRecDepth 100000 in
set_option maxHeartbeats 800000 in
theorem eqBind_any {lo lo' h : Nat} (p : ByteArray) (k n : Int) (s : ByteArray) (u u' : Value) (xs : List T) (w : World) (hs : s.size ≤ maxLen) (ha : ArgsAt w lo h u xs) (ha' : ArgsAt w lo' h u' xs) :
    Calls Try.prog 83 #[bv p k n s u, bv p k n s u'] w (TrueB w) := by
  have hb0 : Below w.heap.size w ((w.alloc (.cells #[.string p, .int .i64 k, .int .i64 n, .string s, u] 87)).alloc (.cells #[.string p, .int .i64 k, .int .i64 n, .string s, u'] 87)) := ((Below.refl _ _).alloc (Nat.le_refl _) _).alloc (by simp) _
  have hc := eqT_any (tv k n s u) (tv k n s u') (.node k n s xs) lo lo' h _ ⟨_, _, _, _, xs, rfl, rfl, hs, ha.below hb0⟩ ⟨_, _, _, _, xs, rfl, rfl, hs, ha'.below hb0⟩
  have HC := Lib.hid hc; clear hc ha ha'
  have HB0 := Lib.hid hb0; clear hb0
  have e3 : (p.toList == p.toList) = true := by simp
  go_enter Try.func83, Try.ntmps83
  go_wp2_with fail
  refine HC.out.mono ?_
  rintro e w1 ⟨rfl, hb1⟩
  have HB1 := Lib.hid (HB0.out.trans (hb1.mono HB0.out.size)); clear hb1
  go_wp2
  go_ret
  exact ⟨rfl, HB1.out⟩

set_option maxRecDepth 100000 in
set_option maxHeartbeats 1600000 in
theorem eqBs_any (u v : Value) (bs : List (ByteArray × T)) (lo lo' h : Nat) (w : World) (hl : bs.length ≤ 9223372036854775807) (hu : BsAt w lo h u bs) (hv : BsAt w lo' h v bs) :
    Calls Try.prog 40 #[u, v] w (TrueB w) := by
  have HC := Lib.hid hu
  have HC' := Lib.hid hv
  obtain ⟨a, cap, rfl⟩ := hu.slice
  obtain ⟨a', cap', rfl⟩ := hv.slice
  clear hu hv
  obtain ⟨n, hn⟩ : ∃ n, n = bs.length := ⟨_, rfl⟩
  rw [← hn] at hl HC HC' ⊢
  have HN := Lib.hid hn; clear hn
  go_enter Try.func40, Try.ntmps40
  go_wp2
  go_loopw [5] (fun i wr => ∃ k : Nat, k ≤ n ∧ i = .int .i64 k ∧ Hid (Below w.heap.size w wr)) (fun i _ => n - (intOf i).toNat)
  case atStart => exact ⟨0, Nat.zero_le _, rfl, Lib.hid (Below.refl _ _)⟩
  case round =>
    obtain ⟨k, hk, rfl, HB⟩ := hrel
    by_cases hlt : k < n
    · obtain ⟨y, ht⟩ : ∃ y, bs[k]? = some y := ⟨_, List.getElem?_eq_getElem (by have := HN.out; omega)⟩
      obtain ⟨b, o, c', p, tk', tn, tsn, txs, u1, e, rfl, _, _, hsz, c0, c1, c2, c3, c4, har⟩ := HC.out.at ht
      obtain ⟨b2, o2, c2', _, _, _, _, _, u2, e', e2, _, _, _, d0, d1, d2, d3, d4, har'⟩ := HC'.out.at ht
      cases e2
      obtain ⟨rfl, -, rfl⟩ : a = some ⟨b, o, none⟩ ∧ n = bs.length ∧ cap = c' := by simpa using e
      obtain ⟨rfl, -, rfl⟩ : a' = some ⟨b2, o2, none⟩ ∧ n = bs.length ∧ cap' = c2' := by simpa using e'
      have HK : Hid (∀ w', Below wr.heap.size wr w' → (w'.cell? ⟨b, o + k * 5, none⟩ = some (.string p) ∧ w'.cell? ⟨b, o + k * 5 + 1, none⟩ = some (.int .i64 tk') ∧ w'.cell? ⟨b, o + k * 5 + 2, none⟩ = some (.int .i64 tn) ∧ w'.cell? ⟨b, o + k * 5 + 3, none⟩ = some (.string tsn) ∧ w'.cell? ⟨b, o + k * 5 + 4, none⟩ = some u1 ∧
          w'.cell? ⟨b2, o2 + k * 5, none⟩ = some (.string p) ∧ w'.cell? ⟨b2, o2 + k * 5 + 1, none⟩ = some (.int .i64 tk') ∧ w'.cell? ⟨b2, o2 + k * 5 + 2, none⟩ = some (.int .i64 tn) ∧ w'.cell? ⟨b2, o2 + k * 5 + 3, none⟩ = some (.string tsn) ∧ w'.cell? ⟨b2, o2 + k * 5 + 4, none⟩ = some u2 ∧ Below wr.heap.size wr w')) := Lib.hid (fun w' hb => by
        have hq := HB.out.trans (hb.mono HB.out.size)
        exact ⟨cell_on hq c0, cell_on hq c1, cell_on hq c2, cell_on hq c3, cell_on hq c4, cell_on hq d0, cell_on hq d1, cell_on hq d2, cell_on hq d3, cell_on hq d4, hb⟩)
      have HCALL : Hid (∀ w', Below wr.heap.size wr w' → Calls Try.prog 83 #[bv p tk' tn tsn u1, bv p tk' tn tsn u2] w' (TrueB w')) := Lib.hid (fun w' hb => by
        have hq := HB.out.trans (hb.mono HB.out.size)
        exact eqBind_any p tk' tn tsn u1 u2 txs w' hsz (har.below hq) (har'.below hq))
      clear c0 c1 c2 c3 c4 d0 d1 d2 d3 d4 e e' ht har har' hsz
      obtain ⟨c0, c1, c2, c3, c4, d0, d1, d2, d3, d4, hb0⟩ := HK.out _ (Below.refl _ _)
      go_wp2
      go_region_held3 (fun w' => w'.cell? ⟨b, o + k * 5, none⟩ = some (.string p) ∧ w'.cell? ⟨b, o + k * 5 + 1, none⟩ = some (.int .i64 tk') ∧ w'.cell? ⟨b, o + k * 5 + 2, none⟩ = some (.int .i64 tn) ∧ w'.cell? ⟨b, o + k * 5 + 3, none⟩ = some (.string tsn) ∧ w'.cell? ⟨b, o + k * 5 + 4, none⟩ = some u1 ∧
          w'.cell? ⟨b2, o2 + k * 5, none⟩ = some (.string p) ∧ w'.cell? ⟨b2, o2 + k * 5 + 1, none⟩ = some (.int .i64 tk') ∧ w'.cell? ⟨b2, o2 + k * 5 + 2, none⟩ = some (.int .i64 tn) ∧ w'.cell? ⟨b2, o2 + k * 5 + 3, none⟩ = some (.string tsn) ∧ w'.cell? ⟨b2, o2 + k * 5 + 4, none⟩ = some u2 ∧ Below wr.heap.size wr w')
        (first | exact HK.out _ (by assumption) | exact HK.out _ (bel_drew (by assumption)) | exact HK.out _ (Below.drew (by assumption)) | exact HK.out _ (Below.trans (by assumption) (Below.mono (by assumption) (Below.size (by assumption)))) | go_keep)
        (first | (go_at_call 83; refine (HCALL.out _ (by first | assumption | exact Below.drew (by assumption))).mono ?_; rintro e w1 ⟨rfl, hb1⟩))
      have HB2 := Lib.hid (HB.out.trans ((bel_drew hb1).mono HB.out.size)); clear hb1
      go_wp2
      go_roundw
      case rel => exact ⟨k + 1, by omega, by go_num, HB2⟩
      case measure => simp [intOf]; omega
    · go_wp2
      go_ret
      exact ⟨rfl, HB.out⟩
theorem eqBs_two (u v : Value) (bs : List (ByteArray × T)) (lo lo' h h' : Nat) (w : World) (hl : bs.length ≤ 9223372036854775807) (hu : BsAt w lo h u bs) (hv : BsAt w lo' h' v bs) :
    Calls Try.prog 40 #[u, v] w (TrueB w) :=
  eqBs_any u v bs lo lo' (max h h') w hl (hu.two hv).1 (hu.two hv).2
end Go.Proofs.Ytkgpkphacjjlgaa
