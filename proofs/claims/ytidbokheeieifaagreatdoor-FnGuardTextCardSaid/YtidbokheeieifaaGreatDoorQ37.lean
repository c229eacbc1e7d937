/-
  spec.ApplyToGuard and impl.ApplyToGuard apply a substitution to both sides of a guard.
-/
import Derived.Test.YtidbokheeieifaaGreatDoorQ12
import Derived.Test.YtidbokheeieifaaGreatDoorQ13
import Derived.Test.YtidbokheeieifaaGreatDoorQ36
import Derived.Test.YtidbokheeieifaaGreatDoorQ18
import Derived.Test.YtidbokheeieifaaGreatDoorQ10
namespace Go.Proofs.YtidbokheeieifaaGreatDoor
open Go.RowKit Go.Maps Go.WideMaps

/-- A side that was made: what its value reads as, and whose its rows are. -/
def Part (lo hi H : Nat) (k n : Int) (s : ByteArray) (u : Value) (t : T) (w : World) : Prop := ∃ xs, t = .node k n s xs ∧ s.size ≤ maxLen ∧ OwnR (fun _ => True) w H lo hi u xs
theorem Part.below {lo hi H : Nat} {k n : Int} {s : ByteArray} {u : Value} {t : T} {w w' : World} (p : Part lo hi H k n s u t w) (hb : Below w.heap.size w w') (hh : hi ≤ w.heap.size) : Part lo hi H k n s u t w' := by
  obtain ⟨xs, e, hs, ho⟩ := p
  exact ⟨xs, e, hs, ho.keep fun b _ _ b2 => ⟨hb.block b (by omega), trivial⟩⟩
theorem OwnA.leB {w : World} : ∀ {h h' lo hi : Nat} {u : Value} {ts : List T}, h ≤ h' → OwnA w h lo hi u ts → OwnA w h' lo hi u ts
  | 0, 0, _, _, _, _, _, k => k
  | 0, h' + 1, _, _, _, _, _, ⟨e, a, cap, e2⟩ => by subst e; exact ⟨a, cap, e2, Or.inl rfl⟩
  | h + 1, 0, _, _, _, _, hle, _ => by omega
  | h + 1, h' + 1, _, _, _, _, hle, ⟨a, cap, e, hc⟩ => by
    refine ⟨a, cap, e, ?_⟩
    rcases hc with hc | ⟨g, xs, U, L, R, ea, h1, h2, ho, hx, hd⟩
    · exact Or.inl hc
    · refine Or.inr ⟨g, xs, U, L, R, ea, h1, h2, ho, fun i k n s txs hi => ?_, hd⟩
      obtain ⟨x3, l1, l2, l3, hr⟩ := hx i k n s txs hi
      exact ⟨x3, l1, l2, l3, hr.leB (by omega)⟩
theorem capg_fin {w wE : World} {b H H' lo hi lo' hi' : Nat} {kd : Int} {k n : Int} {s : ByteArray} {u : Value} {tl : T} {k' n' : Int} {s' : ByteArray} {u' : Value} {tr : T} (pl : Part lo hi H k n s u tl wE) (pr : Part lo' hi' H' k' n' s' u' tr wE)
    (hw : w.heap.size ≤ b) (h1 : b < lo) (h2 : b < lo') (h3 : hi ≤ wE.heap.size) (h4 : hi' ≤ wE.heap.size) (hd : hi ≤ lo' ∨ hi' ≤ lo) (hb : Below w.heap.size w wE) (y0 y1 y2 y3 y4 y5 y6 y7 y8 : Value) :
    CopyGO (max H H') ⟨kd, tl, tr⟩ w (.returned (gv kd k n s u k' n' s' u'))
      (((((((((wE.setCell ⟨b, 0, none⟩ y0).setCell ⟨b, 1, none⟩ y1).setCell ⟨b, 2, none⟩ y2).setCell ⟨b, 3, none⟩ y3).setCell ⟨b, 4, none⟩ y4).setCell ⟨b, 5, none⟩ y5).setCell ⟨b, 6, none⟩ y6).setCell ⟨b, 7, none⟩ y7).setCell ⟨b, 8, none⟩ y8) := by
  obtain ⟨X, hX⟩ : ∃ X, X = (((((((((wE.setCell ⟨b, 0, none⟩ y0).setCell ⟨b, 1, none⟩ y1).setCell ⟨b, 2, none⟩ y2).setCell ⟨b, 3, none⟩ y3).setCell ⟨b, 4, none⟩ y4).setCell ⟨b, 5, none⟩ y5).setCell ⟨b, 6, none⟩ y6).setCell ⟨b, 7, none⟩ y7).setCell ⟨b, 8, none⟩ y8) := ⟨_, rfl⟩
  have hh : ∀ c, b < c → X.heap[c]? = wE.heap[c]? := fun c hc => by rw [hX, set9_heap (by omega)]
  have hz : X.heap.size = wE.heap.size := by rw [hX]; simp [World.setCell]
  have hbx : Below w.heap.size w X := by
    rw [hX]
    iterate 9 refine Below.setCell ?_ (by simp; try omega) _
    exact hb
  rw [← hX]
  obtain ⟨xl, el, hsl, ol⟩ := pl
  obtain ⟨xr, er, hsr, or'⟩ := pr
  have ol2 : OwnR (fun _ => True) X H lo hi u xl := ol.keep fun c _ c1 _ => ⟨hh c (by omega), trivial⟩
  have or2 : OwnR (fun _ => True) X H' lo' hi' u' xr := or'.keep fun c _ c1 _ => ⟨hh c (by omega), trivial⟩
  exact ⟨k, n, s, u, xl, k', n', s', u', xr, rfl, el, er, ⟨hsl, hsr⟩, ⟨(ol2.args (by omega)).le (Nat.le_max_left _ _), (or2.args (by omega)).le (Nat.le_max_right _ _)⟩, ⟨lo, hi, lo', hi', by omega, by omega, by omega, by omega, hd, ol2.own.leB (Nat.le_max_left _ _), or2.own.leB (Nat.le_max_right _ _)⟩, hbx⟩
theorem readg_fin {w wE : World} {b H lo : Nat} {kd : Int} {k n : Int} {s : ByteArray} {u : Value} {tl : T} {k' n' : Int} {s' : ByteArray} {u' : Value} {tr : T} (pl : TermAt wE lo H (tv k n s u) tl) (pr : TermAt wE lo H (tv k' n' s' u') tr)
    (hw : w.heap.size ≤ b) (h1 : b < lo) (hb : Below w.heap.size w wE) (y0 y1 y2 y3 y4 y5 y6 y7 y8 : Value) :
    ReadGO H ⟨kd, tl, tr⟩ w (.returned (gv kd k n s u k' n' s' u'))
      (((((((((wE.setCell ⟨b, 0, none⟩ y0).setCell ⟨b, 1, none⟩ y1).setCell ⟨b, 2, none⟩ y2).setCell ⟨b, 3, none⟩ y3).setCell ⟨b, 4, none⟩ y4).setCell ⟨b, 5, none⟩ y5).setCell ⟨b, 6, none⟩ y6).setCell ⟨b, 7, none⟩ y7).setCell ⟨b, 8, none⟩ y8) := by
  obtain ⟨X, hX⟩ : ∃ X, X = (((((((((wE.setCell ⟨b, 0, none⟩ y0).setCell ⟨b, 1, none⟩ y1).setCell ⟨b, 2, none⟩ y2).setCell ⟨b, 3, none⟩ y3).setCell ⟨b, 4, none⟩ y4).setCell ⟨b, 5, none⟩ y5).setCell ⟨b, 6, none⟩ y6).setCell ⟨b, 7, none⟩ y7).setCell ⟨b, 8, none⟩ y8) := ⟨_, rfl⟩
  have hh : ∀ c, b < c → X.heap[c]? = wE.heap[c]? := fun c hc => by rw [hX, set9_heap (by omega)]
  have hbx : Below w.heap.size w X := by
    rw [hX]
    iterate 9 refine Below.setCell ?_ (by simp; try omega) _
    exact hb
  rw [← hX]
  have hsm : Same lo wE.heap.size wE X := fun c c1 _ => hh c (by omega)
  exact ⟨_, rfl, ⟨k, n, s, u, k', n', s', u', rfl, (pl.same hsm).low (by omega), (pr.same hsm).low (by omega)⟩, hbx⟩
theorem cells_of9f {Y : World} {b : Nat} {x0 x1 x2 x3 x4 x5 x6 x7 x8 : Value} {t : TypeId} (hb : Y.heap[b]? = some (.cells #[x0, x1, x2, x3, x4, x5, x6, x7, x8] t (0, 0))) :
    Y.frozen? ⟨b, 0, none⟩ = false ∧ Y.frozen? ⟨b, 1, none⟩ = false ∧ Y.frozen? ⟨b, 2, none⟩ = false ∧ Y.frozen? ⟨b, 3, none⟩ = false ∧ Y.frozen? ⟨b, 4, none⟩ = false ∧ Y.frozen? ⟨b, 5, none⟩ = false ∧ Y.frozen? ⟨b, 6, none⟩ = false ∧ Y.frozen? ⟨b, 7, none⟩ = false ∧ Y.frozen? ⟨b, 8, none⟩ = false :=
  ⟨frozen_of_row Y b 0 _ _ hb, frozen_of_row Y b 1 _ _ hb, frozen_of_row Y b 2 _ _ hb, frozen_of_row Y b 3 _ _ hb, frozen_of_row Y b 4 _ _ hb, frozen_of_row Y b 5 _ _ hb, frozen_of_row Y b 6 _ _ hb, frozen_of_row Y b 7 _ _ hb, frozen_of_row Y b 8 _ _ hb⟩

/-- A substitution applied to both sides. -/
def appG (F : ByteArray → Option T) (g : Gd) : Gd := ⟨g.kd, mapT F (fun s => s) g.l, mapT F (fun s => s) g.r⟩

set_option maxRecDepth 100000 in
set_option maxHeartbeats 3200000 in
theorem sApG_any (ub : Value) (bs : List (ByteArray × T)) (v : Value) (g : Gd) (lo lo2 h h0 : Nat) (w : World) (hv : BsAt w lo h ub bs) (hw : wBs bs ≤ 1048576) (htm : GAt w lo2 h0 v g) (hwt : wG g ≤ 1048576) :
    Calls Tryz.prog 15 #[ub, v] w (ReadGO (h0 + h + 1) (appG (findB bs) g) w) := by
  obtain ⟨k, n, s, u, k', n', s', u', rfl, ht1, ht2⟩ := htm
  have hw1 : wT g.l ≤ 1048576 := by unfold wG at hwt; omega
  have hw2 : wT g.r ≤ 1048576 := by unfold wG at hwt; omega
  obtain ⟨W0, hW0⟩ : ∃ W0, W0 = (w.alloc (.cells #[.int .i64 g.kd, .int .i64 k, .int .i64 n, .string s, u, .int .i64 k', .int .i64 n', .string s', u'] 28)).alloc (.cells #[.int .i64 0, .int .i64 0, .int .i64 0, .string ⟨#[]⟩, .slice none 0 0, .int .i64 0, .int .i64 0, .string ⟨#[]⟩, .slice none 0 0] 28) := ⟨_, rfl⟩
  have hB0 : Below w.heap.size w W0 := by rw [hW0]; exact ((Below.refl _ _).alloc (Nat.le_refl _) _).alloc (by simp) _
  have hs0 : W0.heap.size = w.heap.size + 2 := by rw [hW0]; simp
  have r0 : W0.heap[w.heap.size]? = some (grow 28 g.kd k n s u k' n' s' u') := by rw [hW0, Below.heap_alloc _ _ _ (by simp)]; exact heap_new w _ rfl
  have r1 : W0.heap[w.heap.size + 1]? = some (grow 28 0 0 0 ⟨#[]⟩ (.slice none 0 0) 0 0 ⟨#[]⟩ (.slice none 0 0)) := by rw [hW0]; exact heap_new _ _ (by simp)
  have hR : ∀ w', Below W0.heap.size W0 w' → (w'.cell? ⟨w.heap.size, 0, none⟩ = some (.int .i64 g.kd) ∧ w'.cell? ⟨w.heap.size, 1, none⟩ = some (.int .i64 k) ∧ w'.cell? ⟨w.heap.size, 2, none⟩ = some (.int .i64 n) ∧ w'.cell? ⟨w.heap.size, 3, none⟩ = some (.string s) ∧ w'.cell? ⟨w.heap.size, 4, none⟩ = some u ∧ w'.cell? ⟨w.heap.size, 5, none⟩ = some (.int .i64 k') ∧ w'.cell? ⟨w.heap.size, 6, none⟩ = some (.int .i64 n') ∧ w'.cell? ⟨w.heap.size, 7, none⟩ = some (.string s') ∧ w'.cell? ⟨w.heap.size, 8, none⟩ = some u' ∧ Below W0.heap.size W0 w') := fun w' hb => by
    obtain ⟨x0, x1, x2, x3, x4, x5, x6, x7, x8⟩ := cells_of9 ((hb.block w.heap.size (by omega)).trans r0)
    exact ⟨x0, x1, x2, x3, x4, x5, x6, x7, x8, hb⟩
  have HR := Lib.hid hR; clear hR
  have HZ : Hid (∀ w', Below W0.heap.size W0 w' → w'.heap[w.heap.size + 1]? = some (grow 28 0 0 0 ⟨#[]⟩ (.slice none 0 0) 0 0 ⟨#[]⟩ (.slice none 0 0))) := Lib.hid (fun w' hb => (hb.block _ (by omega)).trans r1)
  have HS0 := Lib.hid hs0
  have HEG : Hid (appG (findB bs) g = ⟨g.kd, mapT (findB bs) (fun s => s) g.l, mapT (findB bs) (fun s => s) g.r⟩) := Lib.hid rfl
  obtain ⟨tl, htl⟩ : ∃ t, t = mapT (findB bs) (fun s => s) g.l := ⟨_, rfl⟩
  obtain ⟨tr, htr⟩ : ∃ t, t = mapT (findB bs) (fun s => s) g.r := ⟨_, rfl⟩
  rw [← htl, ← htr] at HEG
  have HAL := Lib.hid (fun (W : World) (hB : Below W0.heap.size W0 W) => sApp_any bs hw h h0 ub (tv k n s u) g.l lo lo2 W ((hv.below hB0).below hB) ((ht1.below hB0).below hB) hw1)
  have HAR := Lib.hid (fun (W : World) (hB : Below W0.heap.size W0 W) => sApp_any bs hw h h0 ub (tv k' n' s' u') g.r lo lo2 W ((hv.below hB0).below hB) ((ht2.below hB0).below hB) hw2)
  rw [← htl] at HAL
  rw [← htr] at HAR
  obtain ⟨au, cu, rfl⟩ := hv.slice
  obtain ⟨lb, hlb⟩ : ∃ l, l = bs.length := ⟨_, rfl⟩
  rw [← hlb] at HAL HAR ⊢
  have HB0 := Lib.hid hB0
  clear hv ht1 ht2 hB0 hs0 hw hwt hw1 hw2 htl htr hlb r0 r1
  have hd0 : Below W0.heap.size W0 W0.drew := Below.drew (Below.refl _ _)
  go_enter Tryz.func15, Tryz.ntmps15
  go_upto_region 1 with fail
  rw [← hW0]
  clear hW0
  obtain ⟨c0, c1, c2, c3, c4, c5, c6, c7, c8, _⟩ := HR.out _ (Below.refl _ _)
  clear hd0
  have HKS : Hid (∀ w', Below W0.heap.size W0 w' → (w'.cell? ⟨w.heap.size, 0, none⟩ = some (.int .i64 g.kd) ∧ w'.cell? ⟨w.heap.size, 1, none⟩ = some (.int .i64 k) ∧ w'.cell? ⟨w.heap.size, 2, none⟩ = some (.int .i64 n) ∧ w'.cell? ⟨w.heap.size, 3, none⟩ = some (.string s) ∧ w'.cell? ⟨w.heap.size, 4, none⟩ = some u ∧ w'.cell? ⟨w.heap.size, 5, none⟩ = some (.int .i64 k') ∧ w'.cell? ⟨w.heap.size, 6, none⟩ = some (.int .i64 n') ∧ w'.cell? ⟨w.heap.size, 7, none⟩ = some (.string s') ∧ w'.cell? ⟨w.heap.size, 8, none⟩ = some u')) := Lib.hid (fun w' hb => by
    obtain ⟨x0, x1, x2, x3, x4, x5, x6, x7, x8, _⟩ := HR.out _ hb
    exact ⟨x0, x1, x2, x3, x4, x5, x6, x7, x8⟩)
  have HKV : Hid (∀ (w1 : World), Below W0.heap.size W0 w1 → ∀ (y0 y1 y2 y3 y4 y5 y6 y7 y8 : Value), (fun w' => w'.cell? ⟨w.heap.size, 0, none⟩ = some (.int .i64 g.kd) ∧ w'.cell? ⟨w.heap.size, 1, none⟩ = some (.int .i64 k) ∧ w'.cell? ⟨w.heap.size, 2, none⟩ = some (.int .i64 n) ∧ w'.cell? ⟨w.heap.size, 3, none⟩ = some (.string s) ∧ w'.cell? ⟨w.heap.size, 4, none⟩ = some u ∧ w'.cell? ⟨w.heap.size, 5, none⟩ = some (.int .i64 k') ∧ w'.cell? ⟨w.heap.size, 6, none⟩ = some (.int .i64 n') ∧ w'.cell? ⟨w.heap.size, 7, none⟩ = some (.string s') ∧ w'.cell? ⟨w.heap.size, 8, none⟩ = some u') (((((((((w1.setCell ⟨w.heap.size + 1, 0, none⟩ y0).setCell ⟨w.heap.size + 1, 1, none⟩ y1).setCell ⟨w.heap.size + 1, 2, none⟩ y2).setCell ⟨w.heap.size + 1, 3, none⟩ y3).setCell ⟨w.heap.size + 1, 4, none⟩ y4).setCell ⟨w.heap.size + 1, 5, none⟩ y5).setCell ⟨w.heap.size + 1, 6, none⟩ y6).setCell ⟨w.heap.size + 1, 7, none⟩ y7).setCell ⟨w.heap.size + 1, 8, none⟩ y8)) := Lib.hid (fun w1 hb y0 y1 y2 y3 y4 y5 y6 y7 y8 => by
    obtain ⟨x0, x1, x2, x3, x4, x5, x6, x7, x8⟩ := HKS.out w1 hb
    have hc : ∀ (ad : Addr) v, ad.block = w.heap.size → w1.cell? ad = some v → (((((((((w1.setCell ⟨w.heap.size + 1, 0, none⟩ y0).setCell ⟨w.heap.size + 1, 1, none⟩ y1).setCell ⟨w.heap.size + 1, 2, none⟩ y2).setCell ⟨w.heap.size + 1, 3, none⟩ y3).setCell ⟨w.heap.size + 1, 4, none⟩ y4).setCell ⟨w.heap.size + 1, 5, none⟩ y5).setCell ⟨w.heap.size + 1, 6, none⟩ y6).setCell ⟨w.heap.size + 1, 7, none⟩ y7).setCell ⟨w.heap.size + 1, 8, none⟩ y8).cell? ad = some v := fun ad v he hv => by
      rw [cell_heap (set9_heap (by omega) y0 y1 y2 y3 y4 y5 y6 y7 y8)]; exact hv
    exact ⟨hc _ _ rfl x0, hc _ _ rfl x1, hc _ _ rfl x2, hc _ _ rfl x3, hc _ _ rfl x4, hc _ _ rfl x5, hc _ _ rfl x6, hc _ _ rfl x7, hc _ _ rfl x8⟩)
  have HF0 := Lib.hid True.intro
  have hbb0 := Below.refl W0.heap.size W0
  go_region_held3 (fun w' => w'.cell? ⟨w.heap.size, 0, none⟩ = some (.int .i64 g.kd) ∧ w'.cell? ⟨w.heap.size, 1, none⟩ = some (.int .i64 k) ∧ w'.cell? ⟨w.heap.size, 2, none⟩ = some (.int .i64 n) ∧ w'.cell? ⟨w.heap.size, 3, none⟩ = some (.string s) ∧ w'.cell? ⟨w.heap.size, 4, none⟩ = some u ∧ w'.cell? ⟨w.heap.size, 5, none⟩ = some (.int .i64 k') ∧ w'.cell? ⟨w.heap.size, 6, none⟩ = some (.int .i64 n') ∧ w'.cell? ⟨w.heap.size, 7, none⟩ = some (.string s') ∧ w'.cell? ⟨w.heap.size, 8, none⟩ = some u')
    (first | with_reducible exact HKV.out _ (by with_reducible assumption) _ _ _ _ _ _ _ _ _ | with_reducible exact HKS.out _ (by with_reducible assumption) | with_reducible exact HKS.out _ (bel_drew (by with_reducible assumption)) | with_reducible exact HKS.out _ (Below.drew (by with_reducible assumption)) | go_keep)
    (first
      | (clear HF0; go_at_call 35; refine (HAL.out _ (by first | exact Below.refl _ _ | exact Below.drew (Below.refl _ _) | assumption | exact Below.drew (by assumption))).mono ?_; rintro e wL ⟨kl, nl, sl, al, ml, cl, rfl, htl0, hbl⟩; have hBl : Below W0.heap.size W0 wL := (by first | exact hbl | exact bel_drew hbl); have HTL := Lib.hid (htl0.low (lo' := W0.heap.size) (Nat.le_refl _)); clear htl0 hbl; have HFA := Lib.hid True.intro)
      | (clear HFA; go_at_call 35; refine (HAR.out _ (by first | assumption | exact Below.drew (by assumption))).mono ?_; rintro e wR ⟨kr, nr, sr, ar, mr, cr, rfl, htr0, hbr⟩; have HBR : Hid (Below wL.heap.size wL wR) := Lib.hid (by first | exact hbr | exact bel_drew hbr); have hBr : Below W0.heap.size W0 wR := bel_two hBl HBR.out; have HTR := Lib.hid (htr0.low (lo' := W0.heap.size) hBl.size); have hz9 := HZ.out _ hBr; obtain ⟨z0, z1, z2, z3, z4, z5, z6, z7, z8⟩ := cells_of9 hz9; obtain ⟨y0, y1, y2, y3, y4, y5, y6, y7, y8⟩ := cells_of9f hz9; clear htr0 hbr hz9))
  have HF := Lib.hid (fun y0 y1 y2 y3 y4 y5 y6 y7 y8 => readg_fin (w := w) (wE := wR) (b := w.heap.size + 1) (kd := g.kd) (HTL.out.below HBR.out) HTR.out (by omega) (by have := HS0.out; omega) (HB0.out.trans (hBr.mono HB0.out.size)) y0 y1 y2 y3 y4 y5 y6 y7 y8)
  clear hBl hBr HTL HTR
  go_wp2
  (try simp only [Exit.inBlock, Exit.then])
  refine bodyPost_ret (v := gv g.kd kl nl sl (.slice al ml cl) kr nr sr (.slice ar mr cr)) ?hr rfl ?_
  case hr =>
    rw [results_cell (a := 4) (t := 28) (ad := ⟨w.heap.size + 1, 0, none⟩) rfl rfl]
    go_simp
  rw [HEG.out]
  exact HF.out _ _ _ _ _ _ _ _ _

set_option maxRecDepth 100000 in
set_option maxHeartbeats 3200000 in
theorem iApG_any (ub : Value) (bs : List (ByteArray × T)) (v : Value) (g : Gd) (lo lo2 h h0 : Nat) (w : World) (hv : BsAt w lo h ub bs) (hw : wBs bs ≤ 1048576) (htm : GAt w lo2 h0 v g) (hwt : wG g ≤ 1048576) :
    Calls Tryz.prog 14 #[ub, v] w (CopyGO (max (h0 + h) (h0 + h)) (appG (findB bs) g) w) := by
  obtain ⟨k, n, s, u, k', n', s', u', rfl, ht1, ht2⟩ := htm
  have hw1 : wT g.l ≤ 1048576 := by unfold wG at hwt; omega
  have hw2 : wT g.r ≤ 1048576 := by unfold wG at hwt; omega
  obtain ⟨W0, hW0⟩ : ∃ W0, W0 = (w.alloc (.cells #[.int .i64 g.kd, .int .i64 k, .int .i64 n, .string s, u, .int .i64 k', .int .i64 n', .string s', u'] 28)).alloc (.cells #[.int .i64 0, .int .i64 0, .int .i64 0, .string ⟨#[]⟩, .slice none 0 0, .int .i64 0, .int .i64 0, .string ⟨#[]⟩, .slice none 0 0] 28) := ⟨_, rfl⟩
  have hB0 : Below w.heap.size w W0 := by rw [hW0]; exact ((Below.refl _ _).alloc (Nat.le_refl _) _).alloc (by simp) _
  have hs0 : W0.heap.size = w.heap.size + 2 := by rw [hW0]; simp
  have r0 : W0.heap[w.heap.size]? = some (grow 28 g.kd k n s u k' n' s' u') := by rw [hW0, Below.heap_alloc _ _ _ (by simp)]; exact heap_new w _ rfl
  have r1 : W0.heap[w.heap.size + 1]? = some (grow 28 0 0 0 ⟨#[]⟩ (.slice none 0 0) 0 0 ⟨#[]⟩ (.slice none 0 0)) := by rw [hW0]; exact heap_new _ _ (by simp)
  have hR : ∀ w', Below W0.heap.size W0 w' → (w'.cell? ⟨w.heap.size, 0, none⟩ = some (.int .i64 g.kd) ∧ w'.cell? ⟨w.heap.size, 1, none⟩ = some (.int .i64 k) ∧ w'.cell? ⟨w.heap.size, 2, none⟩ = some (.int .i64 n) ∧ w'.cell? ⟨w.heap.size, 3, none⟩ = some (.string s) ∧ w'.cell? ⟨w.heap.size, 4, none⟩ = some u ∧ w'.cell? ⟨w.heap.size, 5, none⟩ = some (.int .i64 k') ∧ w'.cell? ⟨w.heap.size, 6, none⟩ = some (.int .i64 n') ∧ w'.cell? ⟨w.heap.size, 7, none⟩ = some (.string s') ∧ w'.cell? ⟨w.heap.size, 8, none⟩ = some u' ∧ Below W0.heap.size W0 w') := fun w' hb => by
    obtain ⟨x0, x1, x2, x3, x4, x5, x6, x7, x8⟩ := cells_of9 ((hb.block w.heap.size (by omega)).trans r0)
    exact ⟨x0, x1, x2, x3, x4, x5, x6, x7, x8, hb⟩
  have HR := Lib.hid hR; clear hR
  have HZ : Hid (∀ w', Below W0.heap.size W0 w' → w'.heap[w.heap.size + 1]? = some (grow 28 0 0 0 ⟨#[]⟩ (.slice none 0 0) 0 0 ⟨#[]⟩ (.slice none 0 0))) := Lib.hid (fun w' hb => (hb.block _ (by omega)).trans r1)
  have HS0 := Lib.hid hs0
  have HEG : Hid (appG (findB bs) g = ⟨g.kd, mapT (findB bs) (fun s => s) g.l, mapT (findB bs) (fun s => s) g.r⟩) := Lib.hid rfl
  obtain ⟨tl, htl⟩ : ∃ t, t = mapT (findB bs) (fun s => s) g.l := ⟨_, rfl⟩
  obtain ⟨tr, htr⟩ : ∃ t, t = mapT (findB bs) (fun s => s) g.r := ⟨_, rfl⟩
  rw [← htl, ← htr] at HEG
  obtain ⟨l, hbv, hcall⟩ := subOf_any ub bs lo h W0 (by have := wBs_len bs; omega) (hv.below hB0)
  have HT := Lib.hid (And.intro (ht1.below hB0) (ht2.below hB0))
  have HAL := Lib.hid (fun (b : Nat) (W1 W : World) (hB1 : Below W0.heap.size W0 W1) (h1 : TabAt b l W1) (hB : Below W1.heap.size W1 W) => appI_any b bs l (tv k n s u) g.l lo lo2 h h0 W (h1.below hB) ((hbv.below hB1).below hB) hw ((HT.out.1.below hB1).below hB) (by omega))
  have HAR := Lib.hid (fun (b : Nat) (W1 W : World) (hB1 : Below W0.heap.size W0 W1) (h1 : TabAt b l W1) (hB : Below W1.heap.size W1 W) => appI_any b bs l (tv k' n' s' u') g.r lo lo2 h h0 W (h1.below hB) ((hbv.below hB1).below hB) hw ((HT.out.2.below hB1).below hB) (by omega))
  rw [← htl] at HAL
  rw [← htr] at HAR
  have HC := Lib.hid hcall
  obtain ⟨au, cu, rfl⟩ := hv.slice
  obtain ⟨lb, hlb⟩ : ∃ l, l = bs.length := ⟨_, rfl⟩
  rw [← hlb] at HC ⊢
  have HB0 := Lib.hid hB0
  clear hv ht1 ht2 hcall hB0 hs0 hw hwt hw1 hw2 htl htr hbv hlb
  go_enter Tryz.func14, Tryz.ntmps14
  go_wp2_with fail
  rw [← hW0]
  clear hW0 r0 r1
  refine HC.out.mono ?_
  rintro e w1 ⟨b, rfl, hbl, htab, hb1⟩
  obtain ⟨W1, hW1⟩ : ∃ W1, W1 = w1.alloc (.cells #[.map (some b)] 57) := ⟨_, rfl⟩
  have hB1 : Below W0.heap.size W0 W1 := by rw [hW1]; exact hb1.alloc hb1.size _
  have q1 : W1.heap[w1.heap.size]? = some (.cells #[.map (some b)] 57 (0, 0)) := by rw [hW1]; exact heap_new _ _ rfl
  have htab1 : TabAt b l W1 := htab.below (by rw [hW1]; exact (Below.refl _ _).alloc (Nat.le_refl _) _)
  have HM : Hid (∀ w', Below W1.heap.size W1 w' → w'.cell? ⟨w1.heap.size, 0, none⟩ = some (.map (some b))) := Lib.hid (fun w' hb => by
    have := cell_of_row w' w1.heap.size 0 _ _ _ ((hb.block _ (Array.getElem?_eq_some_iff.1 q1).1).trans q1)
    simpa using this)
  have HTB := Lib.hid (And.intro hB1 htab1)
  have HW1S := Lib.hid hb1.size
  clear hbl htab hb1 hB1 q1 htab1
  have hd0 : Below W1.heap.size W1 W1.drew := Below.drew (Below.refl _ _)
  have HRR : Hid (∀ w', Below W1.heap.size W1 w' → Below W0.heap.size W0 w') := Lib.hid (fun w' hb => bel_two HTB.out.1 hb)
  have m0 := HM.out _ (Below.refl _ _)
  obtain ⟨c0, c1, c2, c3, c4, c5, c6, c7, c8, _⟩ := HR.out _ (HRR.out _ (Below.refl _ _))
  go_upto_region 2 with fail
  rw [← hW1]
  clear hW1
  have HK : Hid (∀ w', Below W1.heap.size W1 w' → (w'.cell? ⟨w.heap.size, 0, none⟩ = some (.int .i64 g.kd) ∧ w'.cell? ⟨w.heap.size, 1, none⟩ = some (.int .i64 k) ∧ w'.cell? ⟨w.heap.size, 2, none⟩ = some (.int .i64 n) ∧ w'.cell? ⟨w.heap.size, 3, none⟩ = some (.string s) ∧ w'.cell? ⟨w.heap.size, 4, none⟩ = some u ∧ w'.cell? ⟨w.heap.size, 5, none⟩ = some (.int .i64 k') ∧ w'.cell? ⟨w.heap.size, 6, none⟩ = some (.int .i64 n') ∧ w'.cell? ⟨w.heap.size, 7, none⟩ = some (.string s') ∧ w'.cell? ⟨w.heap.size, 8, none⟩ = some u' ∧ w'.cell? ⟨w1.heap.size, 0, none⟩ = some (.map (some b)))) := Lib.hid (fun w' hb => by
    obtain ⟨x0, x1, x2, x3, x4, x5, x6, x7, x8, _⟩ := HR.out _ (HRR.out _ hb)
    exact ⟨x0, x1, x2, x3, x4, x5, x6, x7, x8, HM.out _ hb⟩)
  have HLT : Hid (w1.heap.size ≠ w.heap.size + 1) := Lib.hid (by have h1 := HS0.out; have h2 := HTB.out.1.size; have h3 := HW1S.out; omega)
  have HKV : Hid (∀ (w9 : World), Below W1.heap.size W1 w9 → ∀ (y0 y1 y2 y3 y4 y5 y6 y7 y8 : Value), (fun w' => w'.cell? ⟨w.heap.size, 0, none⟩ = some (.int .i64 g.kd) ∧ w'.cell? ⟨w.heap.size, 1, none⟩ = some (.int .i64 k) ∧ w'.cell? ⟨w.heap.size, 2, none⟩ = some (.int .i64 n) ∧ w'.cell? ⟨w.heap.size, 3, none⟩ = some (.string s) ∧ w'.cell? ⟨w.heap.size, 4, none⟩ = some u ∧ w'.cell? ⟨w.heap.size, 5, none⟩ = some (.int .i64 k') ∧ w'.cell? ⟨w.heap.size, 6, none⟩ = some (.int .i64 n') ∧ w'.cell? ⟨w.heap.size, 7, none⟩ = some (.string s') ∧ w'.cell? ⟨w.heap.size, 8, none⟩ = some u' ∧ w'.cell? ⟨w1.heap.size, 0, none⟩ = some (.map (some b))) (((((((((w9.setCell ⟨w.heap.size + 1, 0, none⟩ y0).setCell ⟨w.heap.size + 1, 1, none⟩ y1).setCell ⟨w.heap.size + 1, 2, none⟩ y2).setCell ⟨w.heap.size + 1, 3, none⟩ y3).setCell ⟨w.heap.size + 1, 4, none⟩ y4).setCell ⟨w.heap.size + 1, 5, none⟩ y5).setCell ⟨w.heap.size + 1, 6, none⟩ y6).setCell ⟨w.heap.size + 1, 7, none⟩ y7).setCell ⟨w.heap.size + 1, 8, none⟩ y8)) := Lib.hid (fun w9 hb y0 y1 y2 y3 y4 y5 y6 y7 y8 => by
    obtain ⟨x0, x1, x2, x3, x4, x5, x6, x7, x8, x9⟩ := HK.out w9 hb
    have hc : ∀ (ad : Addr) v, ad.block ≠ w.heap.size + 1 → w9.cell? ad = some v → (((((((((w9.setCell ⟨w.heap.size + 1, 0, none⟩ y0).setCell ⟨w.heap.size + 1, 1, none⟩ y1).setCell ⟨w.heap.size + 1, 2, none⟩ y2).setCell ⟨w.heap.size + 1, 3, none⟩ y3).setCell ⟨w.heap.size + 1, 4, none⟩ y4).setCell ⟨w.heap.size + 1, 5, none⟩ y5).setCell ⟨w.heap.size + 1, 6, none⟩ y6).setCell ⟨w.heap.size + 1, 7, none⟩ y7).setCell ⟨w.heap.size + 1, 8, none⟩ y8).cell? ad = some v := fun ad v he hv => by
      rw [cell_heap (set9_heap he y0 y1 y2 y3 y4 y5 y6 y7 y8)]; exact hv
    exact ⟨hc _ _ (by simp) x0, hc _ _ (by simp) x1, hc _ _ (by simp) x2, hc _ _ (by simp) x3, hc _ _ (by simp) x4, hc _ _ (by simp) x5, hc _ _ (by simp) x6, hc _ _ (by simp) x7, hc _ _ (by simp) x8, hc _ _ HLT.out x9⟩)
  clear hd0
  have HF0 := Lib.hid True.intro
  have hbb0 := Below.refl W1.heap.size W1
  go_region_held3 (fun w' => w'.cell? ⟨w.heap.size, 0, none⟩ = some (.int .i64 g.kd) ∧ w'.cell? ⟨w.heap.size, 1, none⟩ = some (.int .i64 k) ∧ w'.cell? ⟨w.heap.size, 2, none⟩ = some (.int .i64 n) ∧ w'.cell? ⟨w.heap.size, 3, none⟩ = some (.string s) ∧ w'.cell? ⟨w.heap.size, 4, none⟩ = some u ∧ w'.cell? ⟨w.heap.size, 5, none⟩ = some (.int .i64 k') ∧ w'.cell? ⟨w.heap.size, 6, none⟩ = some (.int .i64 n') ∧ w'.cell? ⟨w.heap.size, 7, none⟩ = some (.string s') ∧ w'.cell? ⟨w.heap.size, 8, none⟩ = some u' ∧ w'.cell? ⟨w1.heap.size, 0, none⟩ = some (.map (some b)))
    (first | with_reducible exact HKV.out _ (by with_reducible assumption) _ _ _ _ _ _ _ _ _ | with_reducible exact HK.out _ (by with_reducible assumption) | with_reducible exact HK.out _ (bel_drew (by with_reducible assumption)) | with_reducible exact HK.out _ (Below.drew (by with_reducible assumption)) | go_keep)
    (first
      | (clear HF0; go_at_call 34; refine (HAL.out b W1 _ HTB.out.1 HTB.out.2 (by first | exact Below.refl _ _ | exact Below.drew (Below.refl _ _) | assumption | exact Below.drew (by assumption))).mono ?_; rintro e wL ⟨kl, nl, sl, vl, xl, rfl, hel, hsl, hol, hbl⟩; obtain ⟨al, cl, rfl⟩ := hol.slice; obtain ⟨ml, hml⟩ : ∃ m, m = xl.length := ⟨_, rfl⟩; rw [← hml] at hol ⊢; have hBl : Below W1.heap.size W1 wL := (by first | exact hbl | exact bel_drew hbl); have HPL := Lib.hid (show Part W1.heap.size wL.heap.size (h0 + h) kl nl sl (.slice al ml cl) tl wL from ⟨xl, hel, hsl, hol⟩); clear hel hsl hol hml hbl; have HFA := Lib.hid True.intro)
      | (clear HFA; go_at_call 34; refine (HAR.out b W1 _ HTB.out.1 HTB.out.2 (by first | assumption | exact Below.drew (by assumption))).mono ?_; rintro e wR ⟨kr, nr, sr, vr, xr, rfl, her, hsr, hor, hbr⟩; obtain ⟨ar, cr, rfl⟩ := hor.slice; obtain ⟨mr, hmr⟩ : ∃ m, m = xr.length := ⟨_, rfl⟩; rw [← hmr] at hor ⊢; have HBR : Hid (Below wL.heap.size wL wR) := Lib.hid (by first | exact hbr | exact bel_drew hbr); have hBr : Below W1.heap.size W1 wR := bel_two hBl HBR.out; have HPR := Lib.hid (show Part wL.heap.size wR.heap.size (h0 + h) kr nr sr (.slice ar mr cr) tr wR from ⟨xr, her, hsr, hor⟩); have hz9 := HZ.out _ (HRR.out _ hBr); obtain ⟨z0, z1, z2, z3, z4, z5, z6, z7, z8⟩ := cells_of9 hz9; obtain ⟨y0, y1, y2, y3, y4, y5, y6, y7, y8⟩ := cells_of9f hz9; clear her hsr hor hmr hbr hz9))
  have HF := Lib.hid (fun y0 y1 y2 y3 y4 y5 y6 y7 y8 => capg_fin (w := w) (wE := wR) (b := w.heap.size + 1) (kd := g.kd) (HPL.out.below HBR.out (Nat.le_refl _)) HPR.out (by omega) (by have := HTB.out.1.size; have := HS0.out; omega) (by have := HTB.out.1.size; have := hBl.size; have := HS0.out; omega) HBR.out.size (Nat.le_refl _) (Or.inl (Nat.le_refl _)) (HB0.out.trans ((HRR.out _ hBr).mono HB0.out.size)) y0 y1 y2 y3 y4 y5 y6 y7 y8)
  clear hBl hBr HPL HPR
  go_wp2
  (try simp only [Exit.inBlock, Exit.then])
  refine bodyPost_ret (v := gv g.kd kl nl sl (.slice al ml cl) kr nr sr (.slice ar mr cr)) ?hr rfl ?_
  case hr =>
    rw [results_cell (a := 4) (t := 28) (ad := ⟨w.heap.size + 1, 0, none⟩) rfl rfl]
    go_simp
  rw [HEG.out]
  exact HF.out _ _ _ _ _ _ _ _ _

end Go.Proofs.YtidbokheeieifaaGreatDoor
