/-
  impl.FindBind and impl.ApplySubst; the method apply of a substitution.
-/
import Derived.Test.YtidbokheeieifaaGreatDoorQ16
import Derived.Test.YtidbokheeieifaaGreatDoorQ12
namespace Go.Proofs.YtidbokheeieifaaGreatDoor
open Go.RowKit Go.Maps Go.WideMaps

theorem resO_fin {w wr : World} {b B : Nat} {ok : Bool} {k n : Int} {s : ByteArray} {a : Option Addr} {m c h : Nat} {r : T} {xs : List T} (hr : r = .node k n s xs) (hs : s.size ≤ maxLen) (ho : OwnR (fun _ => True) wr h B wr.heap.size (.slice a m c) xs) (hb : Below w.heap.size w wr) (h1 : w.heap.size ≤ b) (h2 : b < B) (v0 v1 v2 v3 : Value) :
    ResO ok r w (.returned (.tuple #[tv k n s (.slice a m c), .bool ok])) ((((wr.setCell ⟨b, 0, none⟩ v0).setCell ⟨b, 1, none⟩ v1).setCell ⟨b, 2, none⟩ v2).setCell ⟨b, 3, none⟩ v3) := by
  have st : ∀ (W : World) (j : Nat) (v : Value), OwnR (fun _ => True) W h B wr.heap.size (.slice a m c) xs → OwnR (fun _ => True) (W.setCell ⟨b, j, none⟩ v) h B wr.heap.size (.slice a m c) xs := fun W j v o =>
    o.keep fun b' _ h1 _ => ⟨Below.heap_setCell _ _ _ _ (fun e => by simp at e; omega), trivial⟩
  exact ⟨k, n, s, a, m, c, h, xs, rfl, hr, hs, (st _ _ _ (st _ _ _ (st _ _ _ (st _ _ _ ho)))).wide (by omega) (by simp [World.setCell]), (((hb.setCell h1 _).setCell h1 _).setCell h1 _).setCell h1 _⟩

theorem zq_new {w w' : World} (hb : Below (w.alloc (.cells #[.int .i64 0, .int .i64 0, .string ⟨#[]⟩, .slice none 0 0] 26)).heap.size (w.alloc (.cells #[.int .i64 0, .int .i64 0, .string ⟨#[]⟩, .slice none 0 0] 26)) w') : w'.heap[w.heap.size]? = some (trow 0 0 ⟨#[]⟩ (.slice none 0 0)) :=
  (hb.block _ (by simp)).trans (heap_new _ _ rfl)
theorem zq_drew {w w' : World} (hb : Below (w.drew.alloc (.cells #[.int .i64 0, .int .i64 0, .string ⟨#[]⟩, .slice none 0 0] 26)).heap.size (w.drew.alloc (.cells #[.int .i64 0, .int .i64 0, .string ⟨#[]⟩, .slice none 0 0] 26)) w') : w'.heap[w.heap.size]? = some (trow 0 0 ⟨#[]⟩ (.slice none 0 0)) := by
  have e := zq_new (w := w.drew) (w' := w') hb
  exact e

/-- The found term in its box. -/
def FoundBox (W : World) (h : Nat) (ok : Bool) (r : T) (pu vo : Value) (wc : World) : Prop :=
  ∃ B k' n' s' a' m' c' xs', pu = .pointer (some ⟨B, 0, none⟩) ∧ vo = .bool ok ∧ wc.heap[B]? = some (trow k' n' s' (.slice a' m' c')) ∧ r = .node k' n' s' xs' ∧ s'.size ≤ maxLen ∧ OwnR (fun _ => True) wc h W.heap.size wc.heap.size (.slice a' m' c') xs' ∧ Below W.heap.size W wc
theorem found_new {W w1 : World} {B h lo : Nat} {ok : Bool} {r : T} {k n : Int} {s : ByteArray} {a : Option Addr} {m c : Nat} {xs : List T} (hB : Below W.heap.size W w1) (e : r = .node k n s xs) (hs : s.size ≤ maxLen) (ho : OwnR (fun _ => True) w1 h lo w1.heap.size (.slice a m c) xs) (hlo : W.heap.size ≤ lo) (hb : B = w1.heap.size) :
    FoundBox W h ok r (.pointer (some ⟨B, 0, none⟩)) (.bool ok) (w1.alloc (.cells #[.int .i64 k, .int .i64 n, .string s, .slice a m c] 26)) := by
  subst hb
  have hb1 : Below w1.heap.size w1 (w1.alloc (.cells #[.int .i64 k, .int .i64 n, .string s, .slice a m c] 26)) := (Below.refl _ _).alloc (Nat.le_refl _) _
  refine ⟨_, k, n, s, a, m, c, xs, rfl, rfl, heap_new _ _ rfl, e, hs, ?_, hB.trans (hb1.mono hB.size)⟩
  exact (OwnR.keep (fun b _ _ b2 => ⟨hb1.block b b2, trivial⟩) ho).wide hlo hb1.size
theorem found_set {W w1 : World} {B h lo : Nat} {ok : Bool} {r : T} {x0 x1 x2 x3 : Value} {k n : Int} {s : ByteArray} {a : Option Addr} {m c : Nat} {xs : List T} (hB : Below W.heap.size W w1) (e : r = .node k n s xs) (hs : s.size ≤ maxLen) (ho : OwnR (fun _ => True) w1 h lo w1.heap.size (.slice a m c) xs) (hZ : w1.heap[B]? = some (.cells #[x0, x1, x2, x3] 26 (0, 0))) (hlo : B < lo) (hb : W.heap.size ≤ B) :
    FoundBox W h ok r (.pointer (some ⟨B, 0, none⟩)) (.bool ok) ((((w1.setCell ⟨B, 0, none⟩ (.int .i64 k)).setCell ⟨B, 1, none⟩ (.int .i64 n)).setCell ⟨B, 2, none⟩ (.string s)).setCell ⟨B, 3, none⟩ (.slice a m c)) := by
  have st : ∀ (X : World) (j : Nat) (v : Value), OwnR (fun _ => True) X h lo w1.heap.size (.slice a m c) xs → OwnR (fun _ => True) (X.setCell ⟨B, j, none⟩ v) h lo w1.heap.size (.slice a m c) xs := fun X j v o =>
    o.keep fun b' _ h1 _ => ⟨Below.heap_setCell _ _ _ _ (fun e => by simp at e; omega), trivial⟩
  refine ⟨_, k, n, s, a, m, c, xs, rfl, rfl, ?_, e, hs, (st _ _ _ (st _ _ _ (st _ _ _ (st _ _ _ ho)))).wide (by omega) (by simp [World.setCell]), (((hB.setCell hb _).setCell hb _).setCell hb _).setCell hb _⟩
  exact heap_set_at' (heap_set_at' (heap_set_at' (heap_set_at' hZ 0 _) 1 _) 2 _) 3 _

set_option maxRecDepth 100000 in
set_option maxHeartbeats 1600000 in
theorem appC_any (b sb : Nat) (bs : List (ByteArray × T)) (l : List (ByteArray × Value)) (lo h : Nat) (w0 : World) (ht : TabAt b l w0) (hbv : BsV w0 lo h bs l) (hw : wBs bs ≤ 1048576) (hsb : w0.cell? ⟨sb, 0, none⟩ = some (.map (some b))) :
    CbOk 56 (.pointer (some ⟨sb, 0, none⟩)) (findB bs) (fun s => s) h w0 := by
  intro nb no n s u W hW hlo hlt hn hs
  have hsl : s.size ≤ maxLen := by unfold maxLen; omega
  have hcs : W.cell? ⟨sb, 0, none⟩ = some (.map (some b)) := by rw [hW.cell (World.block_lt_of_cell? w0 _ hsb)]; exact hsb
  have hc2 := hn.c2
  have hcsa : ∀ o, (W.alloc o).cell? ⟨sb, 0, none⟩ = some (.map (some b)) := fun o => cell_on ((Below.refl _ _).alloc (Nat.le_refl _) o) hcs
  have hc2a : ∀ o, (W.alloc o).cell? ⟨nb, no + 2, none⟩ = some (.string s) := fun o => cell_on ((Below.refl _ _).alloc (Nat.le_refl _) o) hc2
  obtain ⟨ok, hok⟩ : ∃ ok, ok = (findB bs s).isSome := ⟨_, rfl⟩
  obtain ⟨r, hr⟩ : ∃ r, r = (findB bs s).getD zT := ⟨_, rfl⟩
  have HFI : Hid (∀ W', Below W.heap.size W W' → Calls Tryz.prog 57 #[.agg #[.map (some b)], .string s] W' (ResOH h ok r W')) := Lib.hid (fun W' hb => by
    have hb0 := hW.trans (hb.mono hW.size)
    rw [hok, hr]
    exact find_anyH b s bs l lo h W' (ht.below hb0) (hbv.below hb0) hsl hw)
  have HN := Lib.hid hn
  have HW := Lib.hid hW
  have HOK := Lib.hid (And.intro hok hr)
  clear hok hr ht hbv hW hn hw hsb
  have hd0 : Below W.heap.size W W.drew := Below.drew (Below.refl _ _)
  have hda : Below W.heap.size W (W.alloc (.cells #[.int .i64 0, .int .i64 0, .string ⟨#[]⟩, .slice none 0 0] 26)).drew := ((Below.refl _ _).alloc (Nat.le_refl _) _).drew
  go_enter Tryz.func56, Tryz.ntmps56
  go_wp2
  go_cut [4, 5] (fun pu vo wc => Hid (FoundBox W h ok r pu vo wc))
  case first =>
    go_region_law (first | (go_simp; go_at_call 57; refine (HFI.out _ (by first | exact hd0 | exact hd0.alloc (Nat.le_refl _) _)).mono ?_; rintro e w1 ⟨k1, n1, s1, a1, m1, c1, xs1, rfl, e1, hs1, ho1, hb1⟩; (first | (have hZ := zq_drew hb1; obtain ⟨⟨z0, z1, z2, z3⟩, y0, y1, y2, y3⟩ := cells_of4 hZ) | skip)))
    all_goals go_wp2_with fail
    all_goals go_meet
    all_goals first
      | (have hB1 : Below W.heap.size W w1 := by with_reducible exact bel_two hd0 hb1
         with_reducible refine Lib.hid (found_new hB1 e1 hs1 ho1 ?_ rfl)
         simp)
      | (have hB1 : Below W.heap.size W w1 := by with_reducible exact bel_two hda hb1
         with_reducible refine Lib.hid (found_set hB1 e1 hs1 ho1 hZ ?_ (Nat.le_refl _))
         simp)
  obtain ⟨B, k1, n1, s1, a1, m1, c1, xs1, rfl, rfl, hbox, hre, hs1, ho1, hbc⟩ := hcut.out
  have HFB := Lib.hid (And.intro hre (And.intro hs1 (And.intro ho1 hbc)))
  have hwc : wc.heap[nb]? = W.heap[nb]? := hbc.block nb hlt
  have hwl : nb < wc.heap.size := Nat.lt_of_lt_of_le hlt hbc.size
  clear hcut hcs hc2 hcsa hc2a hd0 hda HFI hre hs1 ho1
  cases ok with
  | false =>
    have HF : Hid (CbE (findB bs) (fun s => s) h w0 nb no s W (.returned (.bool false)) wc) := Lib.hid (by
      refine ⟨false, rfl, HW.out.trans (hbc.mono HW.out.size), hbc.size, fun j hj _ => hbc.block j hj, (fun e => absurd e (by decide)), fun _ => ⟨?_, hsl, ?_⟩⟩
      · cases e : findB bs s with
        | none => rfl
        | some t => have := HOK.out.1; rw [e] at this; cases this
      · rw [set_id HN.out.c2]; exact hwc)
    clear hbox hbc hwc hwl
    go_wp2
    go_ret
    exact HF.out
  | true =>
    obtain ⟨⟨x0, x1, x2, x3⟩, f0, f1, f2, f3⟩ := cells_of4 hbox
    have e0 : wc.cell? ⟨nb, no, none⟩ = some (.int .i64 1) := (cell_heap (ad := ⟨nb, no, none⟩) hwc).trans HN.out.c0
    have e1 : wc.cell? ⟨nb, no + 1, none⟩ = some (.int .i64 n) := (cell_heap (ad := ⟨nb, no + 1, none⟩) hwc).trans HN.out.c1
    have e2 : wc.cell? ⟨nb, no + 2, none⟩ = some (.string s) := (cell_heap (ad := ⟨nb, no + 2, none⟩) hwc).trans HN.out.c2
    have e3 : wc.cell? ⟨nb, no + 3, none⟩ = some u := (cell_heap (ad := ⟨nb, no + 3, none⟩) hwc).trans HN.out.c3
    have g0 : wc.frozen? ⟨nb, no, none⟩ = false := (hbc.frozen hlt).trans HN.out.f0
    have g1 : wc.frozen? ⟨nb, no + 1, none⟩ = false := (hbc.frozen hlt).trans HN.out.f1
    have g2 : wc.frozen? ⟨nb, no + 2, none⟩ = false := (hbc.frozen hlt).trans HN.out.f2
    have g3 : wc.frozen? ⟨nb, no + 3, none⟩ = false := (hbc.frozen hlt).trans HN.out.f3
    have HF : Hid (CbE (findB bs) (fun s => s) h w0 nb no s W (.returned (.bool true)) (cellsQ wc nb no k1 n1 s1 (.slice a1 m1 c1))) := Lib.hid (by
      obtain ⟨hre, hs1, ho1, hbc⟩ := HFB.out
      refine ⟨true, rfl, ((((HW.out.trans (hbc.mono HW.out.size)).setCell hlo _).setCell hlo _).setCell hlo _).setCell hlo _, by simp [World.setCell]; exact hbc.size, fun j hj hne => ?_, fun _ => ⟨k1, n1, s1, _, xs1, ?_, hs1, cellsQ_heap hwc, ?_⟩, (fun e => absurd e (by decide))⟩
      · have hh : ∀ (X : World) (q : Nat) (v : Value), (X.setCell ⟨nb, q, none⟩ v).heap[j]? = X.heap[j]? := fun X q v => Below.heap_setCell _ _ _ _ (fun e => hne (by simpa using e))
        unfold cellsQ
        rw [hh, hh, hh, hh]; exact hbc.block j hj
      · cases e : findB bs s with
        | none => have := HOK.out.1; rw [e] at this; cases this
        | some t =>
          have := HOK.out.2; rw [e] at this
          rw [← hre, this]; rfl
      · have hz : (cellsQ wc nb no k1 n1 s1 (.slice a1 m1 c1)).heap.size = wc.heap.size := by simp [World.setCell]
        rw [hz]
        refine ho1.keep fun b' _ b1 _ => ⟨?_, trivial⟩
        have hh : ∀ (X : World) (q : Nat) (v : Value), (X.setCell ⟨nb, q, none⟩ v).heap[b']? = X.heap[b']? := fun X q v => Below.heap_setCell _ _ _ _ (fun e => by simp at e; omega)
        unfold cellsQ
        rw [hh, hh, hh, hh])
    clear hbox hbc hwc hwl f0 f1 f2 f3
    go_wp2
    go_ret
    exact HF.out
end Go.Proofs.YtidbokheeieifaaGreatDoor
