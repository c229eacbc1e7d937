/-
  impl.HoldsGuard: whether a guard is true.
-/
import Derived.Test.YtidbokheeieifaaQ42
import Derived.Test.YtidbokheeieifaaQ41
import Derived.Test.YtidbokheeieifaaQ31
namespace Go.Proofs.Ytidbokheeieifaa
open Go.RowKit

abbrev zTo : Obj := .cells #[.int .i64 0, .int .i64 0, .string ⟨#[]⟩, .slice none 0 0] 26
theorem z2a {w w' : World} (hb : Below ((w.alloc zTo).alloc zTo).heap.size ((w.alloc zTo).alloc zTo) w') : w'.heap[w.heap.size]? = some (trow 0 0 ⟨#[]⟩ (.slice none 0 0)) :=
  (hb.block _ (by simp; omega)).trans ((Below.heap_alloc _ _ _ (by simp)).trans (heap_new _ _ rfl))
theorem z2b {w w' : World} (hb : Below ((w.alloc zTo).alloc zTo).heap.size ((w.alloc zTo).alloc zTo) w') : w'.heap[w.heap.size + 1]? = some (trow 0 0 ⟨#[]⟩ (.slice none 0 0)) :=
  (hb.block _ (by simp)).trans (heap_new _ _ (by simp))
theorem TermAt.move {w w' : World} {lo lo' h : Nat} {v : Value} {t : T} (q : TermAt w lo h v t) (hlo : lo' ≤ lo) (hs : ∀ b, lo ≤ b → b < w.heap.size → w'.heap[b]? = w.heap[b]?) : TermAt w' lo' h v t := (q.same hs).low hlo
theorem set4_off (X : World) {B d : Nat} (hd : d ≠ B) (v0 v1 v2 v3 : Value) : ((((X.setCell ⟨B, 0, none⟩ v0).setCell ⟨B, 1, none⟩ v1).setCell ⟨B, 2, none⟩ v2).setCell ⟨B, 3, none⟩ v3).heap[d]? = X.heap[d]? := by
  have e : ∀ (Z : World) (q : Nat) (v : Value), (Z.setCell ⟨B, q, none⟩ v).heap[d]? = Z.heap[d]? := fun Z q v => Below.heap_setCell _ _ _ _ (by simp; omega)
  rw [e, e, e, e]
theorem set4_at {X : World} {B : Nat} {x0 x1 x2 x3 : Value} (q : X.heap[B]? = some (.cells #[x0, x1, x2, x3] 26 (0, 0))) (v0 v1 v2 v3 : Value) : ((((X.setCell ⟨B, 0, none⟩ v0).setCell ⟨B, 1, none⟩ v1).setCell ⟨B, 2, none⟩ v2).setCell ⟨B, 3, none⟩ v3).heap[B]? = some (.cells #[v0, v1, v2, v3] 26 (0, 0)) :=
  heap_set_atK (heap_set_atK (heap_set_atK (heap_set_atK q 0 _) 1 _) 2 _) 3 _
theorem set4_bel {W X : World} {B : Nat} (hb : Below W.heap.size W X) (h : W.heap.size ≤ B) (v0 v1 v2 v3 : Value) : Below W.heap.size W ((((X.setCell ⟨B, 0, none⟩ v0).setCell ⟨B, 1, none⟩ v1).setCell ⟨B, 2, none⟩ v2).setCell ⟨B, 3, none⟩ v3) := (((hb.setCell h _).setCell h _).setCell h _).setCell h _
/-- Two terms were answered, two boxes are there, both are put in. -/
theorem two_set {W wl wr X : World} {BA BB lol lor Hl Hr ml cl mr cr : Nat} {rl rr : T} {kl nl kr nr : Int} {sl sr : ByteArray} {al ar : Option Addr} {x0 x1 x2 x3 y0 y1 y2 y3 : Value}
    (htl : TermAt wl lol Hl (tv kl nl sl (.slice al ml cl)) rl) (htr : TermAt wr lor Hr (tv kr nr sr (.slice ar mr cr)) rr) (hlX : Below wl.heap.size wl X) (hrX : Below wr.heap.size wr X) (hWX : Below W.heap.size W X)
    (qA : X.heap[BA]? = some (.cells #[x0, x1, x2, x3] 26 (0, 0))) (qB : X.heap[BB]? = some (.cells #[y0, y1, y2, y3] 26 (0, 0)))
    (hn : BA ≠ BB ∧ W.heap.size ≤ BA ∧ W.heap.size ≤ BB ∧ (BA < lol ∨ wl.heap.size ≤ BA) ∧ (BB < lol ∨ wl.heap.size ≤ BB) ∧ (BA < lor ∨ wr.heap.size ≤ BA) ∧ (BB < lor ∨ wr.heap.size ≤ BB) ∧ W.heap.size ≤ lol ∧ W.heap.size ≤ lor) :
    TwoBox W rl rr (.pointer (some ⟨BA, 0, none⟩)) (.pointer (some ⟨BB, 0, none⟩)) ((((((((X.setCell ⟨BA, 0, none⟩ (.int .i64 kl)).setCell ⟨BA, 1, none⟩ (.int .i64 nl)).setCell ⟨BA, 2, none⟩ (.string sl)).setCell ⟨BA, 3, none⟩ (.slice al ml cl)).setCell ⟨BB, 0, none⟩ (.int .i64 kr)).setCell ⟨BB, 1, none⟩ (.int .i64 nr)).setCell ⟨BB, 2, none⟩ (.string sr)).setCell ⟨BB, 3, none⟩ (.slice ar mr cr)) := by
  obtain ⟨n1, n2, n3, n4, n5, n6, n7, n8, n9⟩ := hn
  obtain ⟨Y, hY⟩ : ∃ Y, Y = ((((X.setCell ⟨BA, 0, none⟩ (.int .i64 kl)).setCell ⟨BA, 1, none⟩ (.int .i64 nl)).setCell ⟨BA, 2, none⟩ (.string sl)).setCell ⟨BA, 3, none⟩ (.slice al ml cl)) := ⟨_, rfl⟩
  have hYA : Y.heap[BA]? = some (trow kl nl sl (.slice al ml cl)) := by rw [hY]; exact set4_at qA _ _ _ _
  have hYo : ∀ d, d ≠ BA → Y.heap[d]? = X.heap[d]? := fun d hd => by rw [hY]; exact set4_off X hd _ _ _ _
  have hYb : Below W.heap.size W Y := by rw [hY]; exact set4_bel hWX n2 _ _ _ _
  rw [← hY]
  have hZB := set4_at ((hYo BB (Ne.symm n1)).trans qB) (.int .i64 kr) (.int .i64 nr) (.string sr) (.slice ar mr cr)
  have hZA := (set4_off Y n1 (.int .i64 kr) (.int .i64 nr) (.string sr) (.slice ar mr cr)).trans hYA
  refine ⟨BA, BB, kl, nl, sl, al, ml, cl, Hl, kr, nr, sr, ar, mr, cr, Hr, rfl, rfl, hZA, hZB, htl.move n8 ?_, htr.move n9 ?_, set4_bel hYb n3 _ _ _ _⟩
  · intro b b1 b2
    rw [set4_off Y (by omega), hYo b (by omega)]
    exact hlX.block b b2
  · intro b b1 b2
    rw [set4_off Y (by omega), hYo b (by omega)]
    exact hrX.block b b2
theorem z2y (w : World) : ((w.alloc zTo).alloc zTo).heap[w.heap.size]? = some (trow 0 0 ⟨#[]⟩ (.slice none 0 0)) := z2a (Below.refl _ _)
theorem z1y (w : World) : (w.alloc zTo).heap[w.heap.size]? = some (trow 0 0 ⟨#[]⟩ (.slice none 0 0)) := heap_new _ _ rfl
theorem keep_al {w : World} {b : Nat} {o : Obj} (h : w.heap[b]? = some o) (o2 : Obj) : (w.alloc o2).heap[b]? = some o := zk_keep h (al_belK w o2)
theorem two_of {W wl wr Z : World} {BA BB lol lor Hl Hr ml cl mr cr : Nat} {rl rr : T} {kl nl kr nr : Int} {sl sr : ByteArray} {al ar : Option Addr}
    (htl : TermAt wl lol Hl (tv kl nl sl (.slice al ml cl)) rl) (htr : TermAt wr lor Hr (tv kr nr sr (.slice ar mr cr)) rr) (hlX : Below wl.heap.size wl Z) (hrX : Below wr.heap.size wr Z) (hWX : Below W.heap.size W Z)
    (qA : Z.heap[BA]? = some (trow kl nl sl (.slice al ml cl))) (qB : Z.heap[BB]? = some (trow kr nr sr (.slice ar mr cr))) (h8 : W.heap.size ≤ lol) (h9 : W.heap.size ≤ lor) :
    TwoBox W rl rr (.pointer (some ⟨BA, 0, none⟩)) (.pointer (some ⟨BB, 0, none⟩)) Z :=
  ⟨BA, BB, kl, nl, sl, al, ml, cl, Hl, kr, nr, sr, ar, mr, cr, Hr, rfl, rfl, qA, qB, (htl.below hlX).low h8, (htr.below hrX).low h9, hWX⟩
abbrev lTo (k n : Int) (s : ByteArray) (u : Value) : Obj := .cells #[.int .i64 k, .int .i64 n, .string s, u] 26
theorem two_lr {W wl wr : World} {lol lor Hl Hr ml cl mr cr : Nat} {rl rr : T} {kl nl kr nr : Int} {sl sr : ByteArray} {al ar : Option Addr}
    (htl : TermAt wl lol Hl (tv kl nl sl (.slice al ml cl)) rl) (htr : TermAt wr lor Hr (tv kr nr sr (.slice ar mr cr)) rr) (hlX : Below wl.heap.size wl wr) (hWX : Below W.heap.size W wr) (h8 : W.heap.size ≤ lol) (h9 : W.heap.size ≤ lor) :
    TwoBox W rl rr (.pointer (some ⟨wr.heap.size, 0, none⟩)) (.pointer (some ⟨wr.heap.size + 1, 0, none⟩)) ((wr.alloc (lTo kl nl sl (.slice al ml cl))).alloc (lTo kr nr sr (.slice ar mr cr))) :=
  two_of htl htr (bel_alK (bel_alK hlX _) _) (bel_alK (al_belK _ _) _) (bel_alK (bel_alK hWX _) _) (keep_al (heap_new _ _ rfl) _) (heap_new _ _ (by simp)) h8 h9
theorem two_rl {W wl wr : World} {lol lor Hl Hr ml cl mr cr : Nat} {rl rr : T} {kl nl kr nr : Int} {sl sr : ByteArray} {al ar : Option Addr}
    (htl : TermAt wl lol Hl (tv kl nl sl (.slice al ml cl)) rl) (htr : TermAt wr lor Hr (tv kr nr sr (.slice ar mr cr)) rr) (hlX : Below wl.heap.size wl wr) (hWX : Below W.heap.size W wr) (h8 : W.heap.size ≤ lol) (h9 : W.heap.size ≤ lor) :
    TwoBox W rl rr (.pointer (some ⟨wr.heap.size + 1, 0, none⟩)) (.pointer (some ⟨wr.heap.size, 0, none⟩)) ((wr.alloc (lTo kr nr sr (.slice ar mr cr))).alloc (lTo kl nl sl (.slice al ml cl))) :=
  two_of htl htr (bel_alK (bel_alK hlX _) _) (bel_alK (al_belK _ _) _) (bel_alK (bel_alK hWX _) _) (heap_new _ _ (by simp)) (keep_al (heap_new _ _ rfl) _) h8 h9
theorem two_ls {W wl wr : World} {BB lol lor Hl Hr ml cl mr cr : Nat} {rl rr : T} {kl nl kr nr : Int} {sl sr : ByteArray} {al ar : Option Addr} {y0 y1 y2 y3 : Value}
    (htl : TermAt wl lol Hl (tv kl nl sl (.slice al ml cl)) rl) (htr : TermAt wr lor Hr (tv kr nr sr (.slice ar mr cr)) rr) (hlX : Below wl.heap.size wl wr) (hWX : Below W.heap.size W wr)
    (qB : wr.heap[BB]? = some (.cells #[y0, y1, y2, y3] 26 (0, 0)))
    (hn : BB ≠ wr.heap.size ∧ W.heap.size ≤ BB ∧ (BB < lol ∨ wl.heap.size ≤ BB) ∧ (BB < lor ∨ wr.heap.size ≤ BB) ∧ W.heap.size ≤ lol ∧ W.heap.size ≤ lor) :
    TwoBox W rl rr (.pointer (some ⟨wr.heap.size, 0, none⟩)) (.pointer (some ⟨BB, 0, none⟩)) (((((wr.alloc (lTo kl nl sl (.slice al ml cl))).setCell ⟨BB, 0, none⟩ (.int .i64 kr)).setCell ⟨BB, 1, none⟩ (.int .i64 nr)).setCell ⟨BB, 2, none⟩ (.string sr)).setCell ⟨BB, 3, none⟩ (.slice ar mr cr)) := by
  obtain ⟨n1, n3, n5, n7, n8, n9⟩ := hn
  obtain ⟨Y, hY⟩ : ∃ Y, Y = wr.alloc (lTo kl nl sl (.slice al ml cl)) := ⟨_, rfl⟩
  have hYA : Y.heap[wr.heap.size]? = some (trow kl nl sl (.slice al ml cl)) := by rw [hY]; exact heap_new _ _ rfl
  have hYB := keep_al qB (lTo kl nl sl (.slice al ml cl))
  have hYl := bel_alK hlX (lTo kl nl sl (.slice al ml cl))
  have hYr := al_belK wr (lTo kl nl sl (.slice al ml cl))
  have hYW := bel_alK hWX (lTo kl nl sl (.slice al ml cl))
  rw [← hY] at hYB hYl hYr hYW ⊢
  have hZB := set4_at hYB (.int .i64 kr) (.int .i64 nr) (.string sr) (.slice ar mr cr)
  have hZA := (set4_off Y (Ne.symm n1) (.int .i64 kr) (.int .i64 nr) (.string sr) (.slice ar mr cr)).trans hYA
  refine ⟨wr.heap.size, BB, kl, nl, sl, al, ml, cl, Hl, kr, nr, sr, ar, mr, cr, Hr, rfl, rfl, hZA, hZB, htl.move n8 ?_, htr.move n9 ?_, set4_bel hYW n3 _ _ _ _⟩
  · intro b b1 b2
    rw [set4_off Y (by omega)]
    exact hYl.block b b2
  · intro b b1 b2
    rw [set4_off Y (by omega)]
    exact hYr.block b b2

set_option maxRecDepth 100000 in
set_option maxHeartbeats 6400000 in
theorem iHolds_any (v : Value) (g : Gd) (lo h : Nat) (w : World) (hv : GAt w lo h v g) (hw : wG g ≤ 1048576) :
    Calls Try.prog 16 #[v] w (AnsB (holdsG g) w) := by
  obtain ⟨k, n, s, u, k', n', s', u', rfl, ht1, ht2⟩ := hv
  obtain ⟨kd, t1, t2⟩ := g
  have hw1 : wT t1 ≤ 1048576 := by unfold wG at hw; simp only at hw; omega
  have hw2 : wT t2 ≤ 1048576 := by unfold wG at hw; simp only at hw; omega
  clear hw
  obtain ⟨W, hW⟩ : ∃ W, W = w.alloc (.cells #[.int .i64 kd, .int .i64 k, .int .i64 n, .string s, u, .int .i64 k', .int .i64 n', .string s', u'] 31) := ⟨_, rfl⟩
  have hb0 : Below w.heap.size w W := by rw [hW]; exact (Below.refl _ _).alloc (Nat.le_refl _) _
  have hr : W.heap[w.heap.size]? = some (grow 31 kd k n s u k' n' s' u') := by rw [hW]; exact heap_new _ _ rfl
  have HGB : Hid (∀ w', Below W.heap.size W w' → w'.heap[w.heap.size]? = some (grow 31 kd k n s u k' n' s' u')) := Lib.hid (fun w' hb => (hb.block _ (Array.getElem?_eq_some_iff.1 hr).1).trans hr)
  have HT1 := Lib.hid (ht1.below hb0); clear ht1
  have HT2 := Lib.hid (ht2.below hb0); clear ht2
  have HB0 := Lib.hid hb0; clear hb0 hr
  have HC12 : Hid (cT t1 ≤ 4294967296 ∧ cT t2 ≤ 4294967296) := Lib.hid ⟨by have := cT_le t1; omega, by have := cT_le t2; omega⟩
  have HCR : Hid (cT (redT t1) ≤ 4294967296 ∧ cT (redT t2) ≤ 4294967296) := Lib.hid ⟨Nat.le_trans (cT_red t1) HC12.out.1, Nat.le_trans (cT_red t2) HC12.out.2⟩

  obtain ⟨d0, d1, d2, d3, d4, d5, d6, d7, d8⟩ := cells_of9 (HGB.out _ (Below.refl _ _))
  clear d0 d5 d6 d7 d8
  go_enter Try.func16, Try.ntmps16
  rw [hW] at d1 d2 d3 d4
  go_wp2_with fail
  rw [← hW]
  clear hW d1 d2 d3 d4
  refine (groundT_any _ t1 _ _ W HT1.out hw1).mono ?_
  rintro e w3 ⟨bl, rfl, hbl, hb3⟩
  have HB3 := Lib.hid hb3
  have HGL := Lib.hid hbl
  clear hbl hb3
  cases bl with
  | false =>
    have HN : Hid (holdsG ⟨kd, t1, t2⟩ = false) := Lib.hid (holds_var (Or.inl (fun e => by have := HGL.out.2 e; cases this)))
    have HE := Lib.hid (HB0.out.trans (HB3.out.mono HB0.out.size))
    go_wp2
    go_ret
    exact ⟨by rw [HN.out]; rfl, HE.out⟩
  | true =>
  have HV1 := Lib.hid (HGL.out.1 rfl)
  obtain ⟨_, _, _, _, _, d5, d6, d7, d8⟩ := cells_of9 (HGB.out _ HB3.out)
  go_wp2_with fail
  refine (groundT_any _ t2 _ _ w3 (HT2.out.below HB3.out) hw2).mono ?_
  rintro e W9 ⟨br, rfl, hbr, hb4⟩
  have HGR := Lib.hid hbr
  have HB9 := Lib.hid (bel_two HB3.out hb4)
  clear hbr hb4 d5 d6 d7 d8
  cases br with
  | false =>
    have HN : Hid (holdsG ⟨kd, t1, t2⟩ = false) := Lib.hid (holds_var (Or.inr (fun e => by have := HGR.out.2 e; cases this)))
    have HE := Lib.hid (HB0.out.trans (HB9.out.mono HB0.out.size))
    go_wp2
    go_ret
    exact ⟨by rw [HN.out]; rfl, HE.out⟩
  | true =>
  have HV := Lib.hid (And.intro HV1.out (HGR.out.1 rfl))
  have HD : Hid (∀ w', Below W9.heap.size W9 w' → w'.cell? ⟨w.heap.size, 1, none⟩ = some (.int .i64 k) ∧ w'.cell? ⟨w.heap.size, 2, none⟩ = some (.int .i64 n) ∧ w'.cell? ⟨w.heap.size, 3, none⟩ = some (.string s) ∧ w'.cell? ⟨w.heap.size, 4, none⟩ = some u ∧ w'.cell? ⟨w.heap.size, 5, none⟩ = some (.int .i64 k') ∧ w'.cell? ⟨w.heap.size, 6, none⟩ = some (.int .i64 n') ∧ w'.cell? ⟨w.heap.size, 7, none⟩ = some (.string s') ∧ w'.cell? ⟨w.heap.size, 8, none⟩ = some u') := Lib.hid (fun w' hb => by
    obtain ⟨_, x1, x2, x3, x4, x5, x6, x7, x8⟩ := cells_of9 (HGB.out _ (bel_two HB9.out hb))
    exact ⟨x1, x2, x3, x4, x5, x6, x7, x8⟩)
  have HC1 := Lib.hid (fun (w' : World) (hb : Below W9.heap.size W9 w') => iRed_any (tv k n s u) t1 lo h w' (HT1.out.below (bel_two HB9.out hb)) HC12.out.1)
  have HC2 := Lib.hid (fun (w' : World) (hb : Below W9.heap.size W9 w') => iRed_any (tv k' n' s' u') t2 lo h w' (HT2.out.below (bel_two HB9.out hb)) HC12.out.2)
  have HC0D : Hid (Below W9.heap.size W9 W9.drew) := Lib.hid (Below.drew (Below.refl _ _))
  go_upto_region 3 with fail
  go_cut [3, 4] (fun pA pB wc => Hid (TwoBox W9 (redT t1) (redT t2) pA pB wc))
  case first =>
    refine wp_region_held_drew (S := fun w' => w'.cell? ⟨w.heap.size, 1, none⟩ = some (.int .i64 k) ∧ w'.cell? ⟨w.heap.size, 2, none⟩ = some (.int .i64 n) ∧ w'.cell? ⟨w.heap.size, 3, none⟩ = some (.string s) ∧ w'.cell? ⟨w.heap.size, 4, none⟩ = some u ∧ w'.cell? ⟨w.heap.size, 5, none⟩ = some (.int .i64 k') ∧ w'.cell? ⟨w.heap.size, 6, none⟩ = some (.int .i64 n') ∧ w'.cell? ⟨w.heap.size, 7, none⟩ = some (.string s') ∧ w'.cell? ⟨w.heap.size, 8, none⟩ = some u') (by kernel_rfl) (HD.out _ HC0D.out) (fun hHeld => ?_)
    refine wpAnyH_take (i := 0) (oi := { dst := some 15, op := Op.fieldAddr 31 (Operand.tmp 1) 1, type := 0, pos := "l09_guard.go:77", after := #[], guard := none }) (v := ?vf0) rfl (by kernel_rfl) (by kernel_rfl) (by kernel_rfl) (fun _ _ _ h => h) (Or.inl ⟨by rfl, ?yf0⟩) hHeld ?rf0
    case yf0 => (intro w hSw; (try dsimp only at hSw); go_simp; try with_reducible rfl)
    (try simp only [Act.put, List.setIfInBounds_toArray, List.set_cons_zero, List.set_cons_succ])
    refine wpAnyH_take (i := 1) (oi := { dst := some 16, op := Op.load 26 (Operand.tmp 15), type := 26, pos := "l09_guard.go:77", after := #[{ on := 0, ground := Ground.data }], guard := none }) (v := ?vf1) rfl (by kernel_rfl) (by kernel_rfl) (by kernel_rfl) (fun _ _ _ h => h) (Or.inl ⟨by rfl, ?yf1⟩) hHeld ?rf1
    case yf1 => (intro w hSw; (try dsimp only at hSw); go_simp; try with_reducible rfl)
    (try simp only [Act.put, List.setIfInBounds_toArray, List.set_cons_zero, List.set_cons_succ])
    refine wpAnyH_take (i := 3) (oi := { dst := some 18, op := Op.fieldAddr 31 (Operand.tmp 1) 2, type := 0, pos := "l09_guard.go:77", after := #[], guard := none }) (v := ?vf3) rfl (by kernel_rfl) (by kernel_rfl) (by kernel_rfl) (fun _ _ _ h => h) (Or.inl ⟨by rfl, ?yf3⟩) hHeld ?rf3
    case yf3 => (intro w hSw; (try dsimp only at hSw); go_simp; try with_reducible rfl)
    (try simp only [Act.put, List.setIfInBounds_toArray, List.set_cons_zero, List.set_cons_succ])
    refine wpAnyH_take (i := 4) (oi := { dst := some 19, op := Op.load 26 (Operand.tmp 18), type := 26, pos := "l09_guard.go:77", after := #[{ on := 3, ground := Ground.data }], guard := none }) (v := ?vf4) rfl (by kernel_rfl) (by kernel_rfl) (by kernel_rfl) (fun _ _ _ h => h) (Or.inl ⟨by rfl, ?yf4⟩) hHeld ?rf4
    case yf4 => (intro w hSw; (try dsimp only at hSw); go_simp; try with_reducible rfl)
    (try simp only [Act.put, List.setIfInBounds_toArray, List.set_cons_zero, List.set_cons_succ])
    obtain ⟨c0, hc0⟩ : ∃ z, z = W9.drew := ⟨_, rfl⟩
    have HB0c : Hid (Below W9.heap.size W9 c0) := Lib.hid (by rw [hc0]; exact HC0D.out)
    have hz0c : W9.heap.size ≤ c0.heap.size := HB0c.out.size
    rw [← hc0]
    clear hc0
    refine wpAnyH_ready (rs := [2, 6, 7]) (by kernel_rfl) (by simp) ?_
    refine AllReadyH.cons (o := { dst := some 17, op := Op.call { callee := Callee.value (Operand.func 12), args := #[Operand.tmp 16], argTypes := #[26] }, type := 26, pos := "l09_guard.go:77", after := #[{ on := 1, ground := Ground.data }], guard := none }) rfl (fun K hK => ?_) (AllReadyH.cons (o := { dst := some 3, op := Op.alloc 26, type := 0, pos := "l09_guard.go:77", after := #[], guard := none }) rfl (fun K hK => ?_) (AllReadyH.cons (o := { dst := some 4, op := Op.alloc 26, type := 0, pos := "l09_guard.go:77", after := #[], guard := none }) rfl (fun K hK => ?_) AllReadyH.nil))
    · (go_simp; refine (HC1.out _ HB0c.out).mono ?_; rintro e c1 ⟨Hl, kl, nl, sl, al, ml, cl, rfl, htl, hs1⟩; go_wp2_with fail)
      have HTl := Lib.hid htl
      have hz1 : c0.heap.size ≤ c1.heap.size := hs1.size
      clear htl
      have HS1 := Lib.hid hs1
      have HB1 := Lib.hid (bel_two HB0c.out hs1)
      clear hs1
      refine hK.out _ _ (HD.out _ HB1.out) (fun hHeld => ?_)
      clear hK K
      (try simp only [Act.put, List.setIfInBounds_toArray, List.set_cons_zero, List.set_cons_succ])
      refine wpAnyH_ready (rs := [5, 6, 7]) (by kernel_rfl) (by simp) ?_
      refine AllReadyH.cons (o := { dst := some 20, op := Op.call { callee := Callee.value (Operand.func 12), args := #[Operand.tmp 19], argTypes := #[26] }, type := 26, pos := "l09_guard.go:77", after := #[{ on := 4, ground := Ground.data }, { on := 2, ground := Ground.chain }], guard := none }) rfl (fun K hK => ?_) (AllReadyH.cons (o := { dst := some 3, op := Op.alloc 26, type := 0, pos := "l09_guard.go:77", after := #[], guard := none }) rfl (fun K hK => ?_) (AllReadyH.cons (o := { dst := some 4, op := Op.alloc 26, type := 0, pos := "l09_guard.go:77", after := #[], guard := none }) rfl (fun K hK => ?_) AllReadyH.nil))
      · (go_simp; refine (HC2.out _ HB1.out).mono ?_; rintro e c2 ⟨Hr, kr, nr, sr, ar, mr, cr, rfl, htr, hs2⟩; go_wp2_with fail)
        have HTr := Lib.hid htr
        have hz2 : c1.heap.size ≤ c2.heap.size := hs2.size
        clear htr
        have HS2 := Lib.hid hs2
        have HB2 := Lib.hid (bel_two HB1.out hs2)
        clear hs2
        refine hK.out _ _ (HD.out _ HB2.out) (fun hHeld => ?_)
        clear hK K
        (try simp only [Act.put, List.setIfInBounds_toArray, List.set_cons_zero, List.set_cons_succ])
        refine wpAnyH_ready (rs := [6, 7]) (by kernel_rfl) (by simp) ?_
        refine AllReadyH.cons (o := { dst := some 3, op := Op.alloc 26, type := 0, pos := "l09_guard.go:77", after := #[], guard := none }) rfl (fun K hK => ?_) (AllReadyH.cons (o := { dst := some 4, op := Op.alloc 26, type := 0, pos := "l09_guard.go:77", after := #[], guard := none }) rfl (fun K hK => ?_) AllReadyH.nil)
        · go_simp
          obtain ⟨c3, hc3⟩ : ∃ z, z = c2.alloc zTo := ⟨_, rfl⟩
          rw [← hc3]
          have hs3 : Below c2.heap.size c2 c3 := by rw [hc3]; exact (Below.refl _ _).alloc (Nat.le_refl _) _
          have HRA : Hid (c3.heap[c2.heap.size]? = some (trow 0 0 ⟨#[]⟩ (.slice none 0 0))) := Lib.hid (by rw [hc3]; exact heap_new _ _ rfl)
          have hz3 : c2.heap.size + 1 ≤ c3.heap.size := by rw [hc3]; simp
          clear hc3
          have HS3 := Lib.hid hs3
          have HB3 := Lib.hid (bel_two HB2.out hs3)
          clear hs3
          refine hK.out _ _ (HD.out _ HB3.out) (fun hHeld => ?_)
          clear hK K
          (try simp only [Act.put, List.setIfInBounds_toArray, List.set_cons_zero, List.set_cons_succ])
          refine wpAnyH_ready (rs := [7]) (by kernel_rfl) (by simp) ?_
          refine AllReadyH.cons (o := { dst := some 4, op := Op.alloc 26, type := 0, pos := "l09_guard.go:77", after := #[], guard := none }) rfl (fun K hK => ?_) AllReadyH.nil
          · go_simp
            obtain ⟨c4, hc4⟩ : ∃ z, z = c3.alloc zTo := ⟨_, rfl⟩
            rw [← hc4]
            have hs4 : Below c3.heap.size c3 c4 := by rw [hc4]; exact (Below.refl _ _).alloc (Nat.le_refl _) _
            have HRB : Hid (c4.heap[c3.heap.size]? = some (trow 0 0 ⟨#[]⟩ (.slice none 0 0))) := Lib.hid (by rw [hc4]; exact heap_new _ _ rfl)
            have hz4 : c3.heap.size + 1 ≤ c4.heap.size := by rw [hc4]; simp
            clear hc4
            have HS4 := Lib.hid hs4
            have HB4 := Lib.hid (bel_two HB3.out hs4)
            clear hs4
            refine hK.out _ _ (HD.out _ HB4.out) (fun hHeld => ?_)
            clear hK K
            (try simp only [Act.put, List.setIfInBounds_toArray, List.set_cons_zero, List.set_cons_succ])
            have qA : c4.heap[c2.heap.size]? = some (trow 0 0 ⟨#[]⟩ (.slice none 0 0)) := (HS4.out.block c2.heap.size (by omega)).trans HRA.out
            have qB : c4.heap[c3.heap.size]? = some (trow 0 0 ⟨#[]⟩ (.slice none 0 0)) := ((Below.refl c4.heap.size c4).block c3.heap.size (by omega)).trans HRB.out
            obtain ⟨⟨za0, za1, za2, za3⟩, ya0, ya1, ya2, ya3⟩ := cells_of4 qA
            have hn : c2.heap.size ≠ c3.heap.size := by omega
            refine wpAnyH_ready (rs := [8]) (by kernel_rfl) (by simp) ?_
            refine AllReadyH.cons (o := { dst := none, op := Op.store 26 (Operand.tmp 3) (Operand.tmp 17), type := 0, pos := "l09_guard.go:77", after := #[{ on := 6, ground := Ground.data }, { on := 2, ground := Ground.data }, { on := 5, ground := Ground.chain }, { on := 0, ground := Ground.phase }, { on := 1, ground := Ground.phase }, { on := 2, ground := Ground.phase }, { on := 3, ground := Ground.textOnly Departure.lateStores }, { on := 4, ground := Ground.textOnly Departure.lateStores }, { on := 5, ground := Ground.textOnly Departure.lateStoresUnsure }, { on := 6, ground := Ground.phase }, { on := 7, ground := Ground.phase }], guard := none }) rfl (fun K hK => ?_) AllReadyH.nil
            go_simp
            obtain ⟨Y, hY⟩ : ∃ Y, Y = ((((c4.setCell ⟨c2.heap.size, 0, none⟩ (.int .i64 kl)).setCell ⟨c2.heap.size, 1, none⟩ (.int .i64 nl)).setCell ⟨c2.heap.size, 2, none⟩ (.string sl)).setCell ⟨c2.heap.size, 3, none⟩ (.slice al ml cl)) := ⟨_, rfl⟩
            rw [← hY]
            have HBY : Hid (Below W9.heap.size W9 Y) := Lib.hid (by rw [hY]; exact set4_bel HB4.out (by omega) _ _ _ _)
            have qY : Y.heap[c3.heap.size]? = some (trow 0 0 ⟨#[]⟩ (.slice none 0 0)) := by rw [hY]; exact (set4_off c4 (Ne.symm hn) _ _ _ _).trans qB
            have HYE := Lib.hid hY
            clear hY
            refine hK.out _ _ (HD.out _ HBY.out) (fun hHeld => ?_)
            clear hK K
            (try simp only [Act.put, List.setIfInBounds_toArray, List.set_cons_zero, List.set_cons_succ])
            clear za0 za1 za2 za3 ya0 ya1 ya2 ya3
            obtain ⟨⟨za0, za1, za2, za3⟩, ya0, ya1, ya2, ya3⟩ := cells_of4 qY
            refine wpAnyH_ready (rs := [9]) (by kernel_rfl) (by simp) ?_
            refine AllReadyH.cons (o := { dst := none, op := Op.store 26 (Operand.tmp 4) (Operand.tmp 20), type := 0, pos := "l09_guard.go:77", after := #[{ on := 7, ground := Ground.data }, { on := 5, ground := Ground.data }, { on := 8, ground := Ground.chain }, { on := 0, ground := Ground.phase }, { on := 1, ground := Ground.phase }, { on := 2, ground := Ground.phase }, { on := 3, ground := Ground.phase }, { on := 4, ground := Ground.phase }, { on := 5, ground := Ground.phase }, { on := 6, ground := Ground.phase }, { on := 7, ground := Ground.phase }, { on := 8, ground := Ground.phase }], guard := none }) rfl (fun K hK => ?_) AllReadyH.nil
            go_simp
            refine hK.out _ _ (HD.out _ (set4_bel HBY.out (by omega) _ _ _ _)) (fun hHeld => ?_)
            clear hK K
            (try simp only [Act.put, List.setIfInBounds_toArray, List.set_cons_zero, List.set_cons_succ])
            refine wpAnyH_done (by kernel_rfl) ?_ _
            go_wp2_with fail
            go_meet
            rw [HYE.out]
            exact Lib.hid (two_set HTl.out HTr.out (bel_two (bel_two HS2.out HS3.out) HS4.out) (bel_two HS3.out HS4.out) HB4.out qA qB ⟨hn, by omega, by omega, by omega, by omega, by omega, by omega, by omega, by omega⟩)
        · go_simp
          obtain ⟨c3, hc3⟩ : ∃ z, z = c2.alloc zTo := ⟨_, rfl⟩
          rw [← hc3]
          have hs3 : Below c2.heap.size c2 c3 := by rw [hc3]; exact (Below.refl _ _).alloc (Nat.le_refl _) _
          have HRB : Hid (c3.heap[c2.heap.size]? = some (trow 0 0 ⟨#[]⟩ (.slice none 0 0))) := Lib.hid (by rw [hc3]; exact heap_new _ _ rfl)
          have hz3 : c2.heap.size + 1 ≤ c3.heap.size := by rw [hc3]; simp
          clear hc3
          have HS3 := Lib.hid hs3
          have HB3 := Lib.hid (bel_two HB2.out hs3)
          clear hs3
          refine hK.out _ _ (HD.out _ HB3.out) (fun hHeld => ?_)
          clear hK K
          (try simp only [Act.put, List.setIfInBounds_toArray, List.set_cons_zero, List.set_cons_succ])
          refine wpAnyH_ready (rs := [6]) (by kernel_rfl) (by simp) ?_
          refine AllReadyH.cons (o := { dst := some 3, op := Op.alloc 26, type := 0, pos := "l09_guard.go:77", after := #[], guard := none }) rfl (fun K hK => ?_) AllReadyH.nil
          · go_simp
            obtain ⟨c4, hc4⟩ : ∃ z, z = c3.alloc zTo := ⟨_, rfl⟩
            rw [← hc4]
            have hs4 : Below c3.heap.size c3 c4 := by rw [hc4]; exact (Below.refl _ _).alloc (Nat.le_refl _) _
            have HRA : Hid (c4.heap[c3.heap.size]? = some (trow 0 0 ⟨#[]⟩ (.slice none 0 0))) := Lib.hid (by rw [hc4]; exact heap_new _ _ rfl)
            have hz4 : c3.heap.size + 1 ≤ c4.heap.size := by rw [hc4]; simp
            clear hc4
            have HS4 := Lib.hid hs4
            have HB4 := Lib.hid (bel_two HB3.out hs4)
            clear hs4
            refine hK.out _ _ (HD.out _ HB4.out) (fun hHeld => ?_)
            clear hK K
            (try simp only [Act.put, List.setIfInBounds_toArray, List.set_cons_zero, List.set_cons_succ])
            have qA : c4.heap[c3.heap.size]? = some (trow 0 0 ⟨#[]⟩ (.slice none 0 0)) := ((Below.refl c4.heap.size c4).block c3.heap.size (by omega)).trans HRA.out
            have qB : c4.heap[c2.heap.size]? = some (trow 0 0 ⟨#[]⟩ (.slice none 0 0)) := (HS4.out.block c2.heap.size (by omega)).trans HRB.out
            obtain ⟨⟨za0, za1, za2, za3⟩, ya0, ya1, ya2, ya3⟩ := cells_of4 qA
            have hn : c3.heap.size ≠ c2.heap.size := by omega
            refine wpAnyH_ready (rs := [8]) (by kernel_rfl) (by simp) ?_
            refine AllReadyH.cons (o := { dst := none, op := Op.store 26 (Operand.tmp 3) (Operand.tmp 17), type := 0, pos := "l09_guard.go:77", after := #[{ on := 6, ground := Ground.data }, { on := 2, ground := Ground.data }, { on := 5, ground := Ground.chain }, { on := 0, ground := Ground.phase }, { on := 1, ground := Ground.phase }, { on := 2, ground := Ground.phase }, { on := 3, ground := Ground.textOnly Departure.lateStores }, { on := 4, ground := Ground.textOnly Departure.lateStores }, { on := 5, ground := Ground.textOnly Departure.lateStoresUnsure }, { on := 6, ground := Ground.phase }, { on := 7, ground := Ground.phase }], guard := none }) rfl (fun K hK => ?_) AllReadyH.nil
            go_simp
            obtain ⟨Y, hY⟩ : ∃ Y, Y = ((((c4.setCell ⟨c3.heap.size, 0, none⟩ (.int .i64 kl)).setCell ⟨c3.heap.size, 1, none⟩ (.int .i64 nl)).setCell ⟨c3.heap.size, 2, none⟩ (.string sl)).setCell ⟨c3.heap.size, 3, none⟩ (.slice al ml cl)) := ⟨_, rfl⟩
            rw [← hY]
            have HBY : Hid (Below W9.heap.size W9 Y) := Lib.hid (by rw [hY]; exact set4_bel HB4.out (by omega) _ _ _ _)
            have qY : Y.heap[c2.heap.size]? = some (trow 0 0 ⟨#[]⟩ (.slice none 0 0)) := by rw [hY]; exact (set4_off c4 (Ne.symm hn) _ _ _ _).trans qB
            have HYE := Lib.hid hY
            clear hY
            refine hK.out _ _ (HD.out _ HBY.out) (fun hHeld => ?_)
            clear hK K
            (try simp only [Act.put, List.setIfInBounds_toArray, List.set_cons_zero, List.set_cons_succ])
            clear za0 za1 za2 za3 ya0 ya1 ya2 ya3
            obtain ⟨⟨za0, za1, za2, za3⟩, ya0, ya1, ya2, ya3⟩ := cells_of4 qY
            refine wpAnyH_ready (rs := [9]) (by kernel_rfl) (by simp) ?_
            refine AllReadyH.cons (o := { dst := none, op := Op.store 26 (Operand.tmp 4) (Operand.tmp 20), type := 0, pos := "l09_guard.go:77", after := #[{ on := 7, ground := Ground.data }, { on := 5, ground := Ground.data }, { on := 8, ground := Ground.chain }, { on := 0, ground := Ground.phase }, { on := 1, ground := Ground.phase }, { on := 2, ground := Ground.phase }, { on := 3, ground := Ground.phase }, { on := 4, ground := Ground.phase }, { on := 5, ground := Ground.phase }, { on := 6, ground := Ground.phase }, { on := 7, ground := Ground.phase }, { on := 8, ground := Ground.phase }], guard := none }) rfl (fun K hK => ?_) AllReadyH.nil
            go_simp
            refine hK.out _ _ (HD.out _ (set4_bel HBY.out (by omega) _ _ _ _)) (fun hHeld => ?_)
            clear hK K
            (try simp only [Act.put, List.setIfInBounds_toArray, List.set_cons_zero, List.set_cons_succ])
            refine wpAnyH_done (by kernel_rfl) ?_ _
            go_wp2_with fail
            go_meet
            rw [HYE.out]
            exact Lib.hid (two_set HTl.out HTr.out (bel_two (bel_two HS2.out HS3.out) HS4.out) (bel_two HS3.out HS4.out) HB4.out qA qB ⟨hn, by omega, by omega, by omega, by omega, by omega, by omega, by omega, by omega⟩)
      · go_simp
        obtain ⟨c2, hc2⟩ : ∃ z, z = c1.alloc zTo := ⟨_, rfl⟩
        rw [← hc2]
        have hs2 : Below c1.heap.size c1 c2 := by rw [hc2]; exact (Below.refl _ _).alloc (Nat.le_refl _) _
        have HRA : Hid (c2.heap[c1.heap.size]? = some (trow 0 0 ⟨#[]⟩ (.slice none 0 0))) := Lib.hid (by rw [hc2]; exact heap_new _ _ rfl)
        have hz2 : c1.heap.size + 1 ≤ c2.heap.size := by rw [hc2]; simp
        clear hc2
        have HS2 := Lib.hid hs2
        have HB2 := Lib.hid (bel_two HB1.out hs2)
        clear hs2
        refine hK.out _ _ (HD.out _ HB2.out) (fun hHeld => ?_)
        clear hK K
        (try simp only [Act.put, List.setIfInBounds_toArray, List.set_cons_zero, List.set_cons_succ])
        refine wpAnyH_ready (rs := [5, 7]) (by kernel_rfl) (by simp) ?_
        refine AllReadyH.cons (o := { dst := some 20, op := Op.call { callee := Callee.value (Operand.func 12), args := #[Operand.tmp 19], argTypes := #[26] }, type := 26, pos := "l09_guard.go:77", after := #[{ on := 4, ground := Ground.data }, { on := 2, ground := Ground.chain }], guard := none }) rfl (fun K hK => ?_) (AllReadyH.cons (o := { dst := some 4, op := Op.alloc 26, type := 0, pos := "l09_guard.go:77", after := #[], guard := none }) rfl (fun K hK => ?_) AllReadyH.nil)
        · (go_simp; refine (HC2.out _ HB2.out).mono ?_; rintro e c3 ⟨Hr, kr, nr, sr, ar, mr, cr, rfl, htr, hs3⟩; go_wp2_with fail)
          have HTr := Lib.hid htr
          have hz3 : c2.heap.size ≤ c3.heap.size := hs3.size
          clear htr
          have HS3 := Lib.hid hs3
          have HB3 := Lib.hid (bel_two HB2.out hs3)
          clear hs3
          refine hK.out _ _ (HD.out _ HB3.out) (fun hHeld => ?_)
          clear hK K
          (try simp only [Act.put, List.setIfInBounds_toArray, List.set_cons_zero, List.set_cons_succ])
          refine wpAnyH_ready (rs := [7]) (by kernel_rfl) (by simp) ?_
          refine AllReadyH.cons (o := { dst := some 4, op := Op.alloc 26, type := 0, pos := "l09_guard.go:77", after := #[], guard := none }) rfl (fun K hK => ?_) AllReadyH.nil
          · go_simp
            obtain ⟨c4, hc4⟩ : ∃ z, z = c3.alloc zTo := ⟨_, rfl⟩
            rw [← hc4]
            have hs4 : Below c3.heap.size c3 c4 := by rw [hc4]; exact (Below.refl _ _).alloc (Nat.le_refl _) _
            have HRB : Hid (c4.heap[c3.heap.size]? = some (trow 0 0 ⟨#[]⟩ (.slice none 0 0))) := Lib.hid (by rw [hc4]; exact heap_new _ _ rfl)
            have hz4 : c3.heap.size + 1 ≤ c4.heap.size := by rw [hc4]; simp
            clear hc4
            have HS4 := Lib.hid hs4
            have HB4 := Lib.hid (bel_two HB3.out hs4)
            clear hs4
            refine hK.out _ _ (HD.out _ HB4.out) (fun hHeld => ?_)
            clear hK K
            (try simp only [Act.put, List.setIfInBounds_toArray, List.set_cons_zero, List.set_cons_succ])
            have qA : c4.heap[c1.heap.size]? = some (trow 0 0 ⟨#[]⟩ (.slice none 0 0)) := ((bel_two HS3.out HS4.out).block c1.heap.size (by omega)).trans HRA.out
            have qB : c4.heap[c3.heap.size]? = some (trow 0 0 ⟨#[]⟩ (.slice none 0 0)) := ((Below.refl c4.heap.size c4).block c3.heap.size (by omega)).trans HRB.out
            obtain ⟨⟨za0, za1, za2, za3⟩, ya0, ya1, ya2, ya3⟩ := cells_of4 qA
            have hn : c1.heap.size ≠ c3.heap.size := by omega
            refine wpAnyH_ready (rs := [8]) (by kernel_rfl) (by simp) ?_
            refine AllReadyH.cons (o := { dst := none, op := Op.store 26 (Operand.tmp 3) (Operand.tmp 17), type := 0, pos := "l09_guard.go:77", after := #[{ on := 6, ground := Ground.data }, { on := 2, ground := Ground.data }, { on := 5, ground := Ground.chain }, { on := 0, ground := Ground.phase }, { on := 1, ground := Ground.phase }, { on := 2, ground := Ground.phase }, { on := 3, ground := Ground.textOnly Departure.lateStores }, { on := 4, ground := Ground.textOnly Departure.lateStores }, { on := 5, ground := Ground.textOnly Departure.lateStoresUnsure }, { on := 6, ground := Ground.phase }, { on := 7, ground := Ground.phase }], guard := none }) rfl (fun K hK => ?_) AllReadyH.nil
            go_simp
            obtain ⟨Y, hY⟩ : ∃ Y, Y = ((((c4.setCell ⟨c1.heap.size, 0, none⟩ (.int .i64 kl)).setCell ⟨c1.heap.size, 1, none⟩ (.int .i64 nl)).setCell ⟨c1.heap.size, 2, none⟩ (.string sl)).setCell ⟨c1.heap.size, 3, none⟩ (.slice al ml cl)) := ⟨_, rfl⟩
            rw [← hY]
            have HBY : Hid (Below W9.heap.size W9 Y) := Lib.hid (by rw [hY]; exact set4_bel HB4.out (by omega) _ _ _ _)
            have qY : Y.heap[c3.heap.size]? = some (trow 0 0 ⟨#[]⟩ (.slice none 0 0)) := by rw [hY]; exact (set4_off c4 (Ne.symm hn) _ _ _ _).trans qB
            have HYE := Lib.hid hY
            clear hY
            refine hK.out _ _ (HD.out _ HBY.out) (fun hHeld => ?_)
            clear hK K
            (try simp only [Act.put, List.setIfInBounds_toArray, List.set_cons_zero, List.set_cons_succ])
            clear za0 za1 za2 za3 ya0 ya1 ya2 ya3
            obtain ⟨⟨za0, za1, za2, za3⟩, ya0, ya1, ya2, ya3⟩ := cells_of4 qY
            refine wpAnyH_ready (rs := [9]) (by kernel_rfl) (by simp) ?_
            refine AllReadyH.cons (o := { dst := none, op := Op.store 26 (Operand.tmp 4) (Operand.tmp 20), type := 0, pos := "l09_guard.go:77", after := #[{ on := 7, ground := Ground.data }, { on := 5, ground := Ground.data }, { on := 8, ground := Ground.chain }, { on := 0, ground := Ground.phase }, { on := 1, ground := Ground.phase }, { on := 2, ground := Ground.phase }, { on := 3, ground := Ground.phase }, { on := 4, ground := Ground.phase }, { on := 5, ground := Ground.phase }, { on := 6, ground := Ground.phase }, { on := 7, ground := Ground.phase }, { on := 8, ground := Ground.phase }], guard := none }) rfl (fun K hK => ?_) AllReadyH.nil
            go_simp
            refine hK.out _ _ (HD.out _ (set4_bel HBY.out (by omega) _ _ _ _)) (fun hHeld => ?_)
            clear hK K
            (try simp only [Act.put, List.setIfInBounds_toArray, List.set_cons_zero, List.set_cons_succ])
            refine wpAnyH_done (by kernel_rfl) ?_ _
            go_wp2_with fail
            go_meet
            rw [HYE.out]
            exact Lib.hid (two_set HTl.out HTr.out (bel_two (bel_two HS2.out HS3.out) HS4.out) HS4.out HB4.out qA qB ⟨hn, by omega, by omega, by omega, by omega, by omega, by omega, by omega, by omega⟩)
        · go_simp
          obtain ⟨c3, hc3⟩ : ∃ z, z = c2.alloc zTo := ⟨_, rfl⟩
          rw [← hc3]
          have hs3 : Below c2.heap.size c2 c3 := by rw [hc3]; exact (Below.refl _ _).alloc (Nat.le_refl _) _
          have HRB : Hid (c3.heap[c2.heap.size]? = some (trow 0 0 ⟨#[]⟩ (.slice none 0 0))) := Lib.hid (by rw [hc3]; exact heap_new _ _ rfl)
          have hz3 : c2.heap.size + 1 ≤ c3.heap.size := by rw [hc3]; simp
          clear hc3
          have HS3 := Lib.hid hs3
          have HB3 := Lib.hid (bel_two HB2.out hs3)
          clear hs3
          refine hK.out _ _ (HD.out _ HB3.out) (fun hHeld => ?_)
          clear hK K
          (try simp only [Act.put, List.setIfInBounds_toArray, List.set_cons_zero, List.set_cons_succ])
          refine wpAnyH_ready (rs := [5]) (by kernel_rfl) (by simp) ?_
          refine AllReadyH.cons (o := { dst := some 20, op := Op.call { callee := Callee.value (Operand.func 12), args := #[Operand.tmp 19], argTypes := #[26] }, type := 26, pos := "l09_guard.go:77", after := #[{ on := 4, ground := Ground.data }, { on := 2, ground := Ground.chain }], guard := none }) rfl (fun K hK => ?_) AllReadyH.nil
          · (go_simp; refine (HC2.out _ HB3.out).mono ?_; rintro e c4 ⟨Hr, kr, nr, sr, ar, mr, cr, rfl, htr, hs4⟩; go_wp2_with fail)
            have HTr := Lib.hid htr
            have hz4 : c3.heap.size ≤ c4.heap.size := hs4.size
            clear htr
            have HS4 := Lib.hid hs4
            have HB4 := Lib.hid (bel_two HB3.out hs4)
            clear hs4
            refine hK.out _ _ (HD.out _ HB4.out) (fun hHeld => ?_)
            clear hK K
            (try simp only [Act.put, List.setIfInBounds_toArray, List.set_cons_zero, List.set_cons_succ])
            have qA : c4.heap[c1.heap.size]? = some (trow 0 0 ⟨#[]⟩ (.slice none 0 0)) := ((bel_two HS3.out HS4.out).block c1.heap.size (by omega)).trans HRA.out
            have qB : c4.heap[c2.heap.size]? = some (trow 0 0 ⟨#[]⟩ (.slice none 0 0)) := (HS4.out.block c2.heap.size (by omega)).trans HRB.out
            obtain ⟨⟨za0, za1, za2, za3⟩, ya0, ya1, ya2, ya3⟩ := cells_of4 qA
            have hn : c1.heap.size ≠ c2.heap.size := by omega
            refine wpAnyH_ready (rs := [8]) (by kernel_rfl) (by simp) ?_
            refine AllReadyH.cons (o := { dst := none, op := Op.store 26 (Operand.tmp 3) (Operand.tmp 17), type := 0, pos := "l09_guard.go:77", after := #[{ on := 6, ground := Ground.data }, { on := 2, ground := Ground.data }, { on := 5, ground := Ground.chain }, { on := 0, ground := Ground.phase }, { on := 1, ground := Ground.phase }, { on := 2, ground := Ground.phase }, { on := 3, ground := Ground.textOnly Departure.lateStores }, { on := 4, ground := Ground.textOnly Departure.lateStores }, { on := 5, ground := Ground.textOnly Departure.lateStoresUnsure }, { on := 6, ground := Ground.phase }, { on := 7, ground := Ground.phase }], guard := none }) rfl (fun K hK => ?_) AllReadyH.nil
            go_simp
            obtain ⟨Y, hY⟩ : ∃ Y, Y = ((((c4.setCell ⟨c1.heap.size, 0, none⟩ (.int .i64 kl)).setCell ⟨c1.heap.size, 1, none⟩ (.int .i64 nl)).setCell ⟨c1.heap.size, 2, none⟩ (.string sl)).setCell ⟨c1.heap.size, 3, none⟩ (.slice al ml cl)) := ⟨_, rfl⟩
            rw [← hY]
            have HBY : Hid (Below W9.heap.size W9 Y) := Lib.hid (by rw [hY]; exact set4_bel HB4.out (by omega) _ _ _ _)
            have qY : Y.heap[c2.heap.size]? = some (trow 0 0 ⟨#[]⟩ (.slice none 0 0)) := by rw [hY]; exact (set4_off c4 (Ne.symm hn) _ _ _ _).trans qB
            have HYE := Lib.hid hY
            clear hY
            refine hK.out _ _ (HD.out _ HBY.out) (fun hHeld => ?_)
            clear hK K
            (try simp only [Act.put, List.setIfInBounds_toArray, List.set_cons_zero, List.set_cons_succ])
            clear za0 za1 za2 za3 ya0 ya1 ya2 ya3
            obtain ⟨⟨za0, za1, za2, za3⟩, ya0, ya1, ya2, ya3⟩ := cells_of4 qY
            refine wpAnyH_ready (rs := [9]) (by kernel_rfl) (by simp) ?_
            refine AllReadyH.cons (o := { dst := none, op := Op.store 26 (Operand.tmp 4) (Operand.tmp 20), type := 0, pos := "l09_guard.go:77", after := #[{ on := 7, ground := Ground.data }, { on := 5, ground := Ground.data }, { on := 8, ground := Ground.chain }, { on := 0, ground := Ground.phase }, { on := 1, ground := Ground.phase }, { on := 2, ground := Ground.phase }, { on := 3, ground := Ground.phase }, { on := 4, ground := Ground.phase }, { on := 5, ground := Ground.phase }, { on := 6, ground := Ground.phase }, { on := 7, ground := Ground.phase }, { on := 8, ground := Ground.phase }], guard := none }) rfl (fun K hK => ?_) AllReadyH.nil
            go_simp
            refine hK.out _ _ (HD.out _ (set4_bel HBY.out (by omega) _ _ _ _)) (fun hHeld => ?_)
            clear hK K
            (try simp only [Act.put, List.setIfInBounds_toArray, List.set_cons_zero, List.set_cons_succ])
            refine wpAnyH_done (by kernel_rfl) ?_ _
            go_wp2_with fail
            go_meet
            rw [HYE.out]
            exact Lib.hid (two_set HTl.out HTr.out (bel_two (bel_two HS2.out HS3.out) HS4.out) (Below.refl c4.heap.size c4) HB4.out qA qB ⟨hn, by omega, by omega, by omega, by omega, by omega, by omega, by omega, by omega⟩)
      · go_simp
        obtain ⟨c2, hc2⟩ : ∃ z, z = c1.alloc zTo := ⟨_, rfl⟩
        rw [← hc2]
        have hs2 : Below c1.heap.size c1 c2 := by rw [hc2]; exact (Below.refl _ _).alloc (Nat.le_refl _) _
        have HRB : Hid (c2.heap[c1.heap.size]? = some (trow 0 0 ⟨#[]⟩ (.slice none 0 0))) := Lib.hid (by rw [hc2]; exact heap_new _ _ rfl)
        have hz2 : c1.heap.size + 1 ≤ c2.heap.size := by rw [hc2]; simp
        clear hc2
        have HS2 := Lib.hid hs2
        have HB2 := Lib.hid (bel_two HB1.out hs2)
        clear hs2
        refine hK.out _ _ (HD.out _ HB2.out) (fun hHeld => ?_)
        clear hK K
        (try simp only [Act.put, List.setIfInBounds_toArray, List.set_cons_zero, List.set_cons_succ])
        refine wpAnyH_ready (rs := [5, 6]) (by kernel_rfl) (by simp) ?_
        refine AllReadyH.cons (o := { dst := some 20, op := Op.call { callee := Callee.value (Operand.func 12), args := #[Operand.tmp 19], argTypes := #[26] }, type := 26, pos := "l09_guard.go:77", after := #[{ on := 4, ground := Ground.data }, { on := 2, ground := Ground.chain }], guard := none }) rfl (fun K hK => ?_) (AllReadyH.cons (o := { dst := some 3, op := Op.alloc 26, type := 0, pos := "l09_guard.go:77", after := #[], guard := none }) rfl (fun K hK => ?_) AllReadyH.nil)
        · (go_simp; refine (HC2.out _ HB2.out).mono ?_; rintro e c3 ⟨Hr, kr, nr, sr, ar, mr, cr, rfl, htr, hs3⟩; go_wp2_with fail)
          have HTr := Lib.hid htr
          have hz3 : c2.heap.size ≤ c3.heap.size := hs3.size
          clear htr
          have HS3 := Lib.hid hs3
          have HB3 := Lib.hid (bel_two HB2.out hs3)
          clear hs3
          refine hK.out _ _ (HD.out _ HB3.out) (fun hHeld => ?_)
          clear hK K
          (try simp only [Act.put, List.setIfInBounds_toArray, List.set_cons_zero, List.set_cons_succ])
          refine wpAnyH_ready (rs := [6]) (by kernel_rfl) (by simp) ?_
          refine AllReadyH.cons (o := { dst := some 3, op := Op.alloc 26, type := 0, pos := "l09_guard.go:77", after := #[], guard := none }) rfl (fun K hK => ?_) AllReadyH.nil
          · go_simp
            obtain ⟨c4, hc4⟩ : ∃ z, z = c3.alloc zTo := ⟨_, rfl⟩
            rw [← hc4]
            have hs4 : Below c3.heap.size c3 c4 := by rw [hc4]; exact (Below.refl _ _).alloc (Nat.le_refl _) _
            have HRA : Hid (c4.heap[c3.heap.size]? = some (trow 0 0 ⟨#[]⟩ (.slice none 0 0))) := Lib.hid (by rw [hc4]; exact heap_new _ _ rfl)
            have hz4 : c3.heap.size + 1 ≤ c4.heap.size := by rw [hc4]; simp
            clear hc4
            have HS4 := Lib.hid hs4
            have HB4 := Lib.hid (bel_two HB3.out hs4)
            clear hs4
            refine hK.out _ _ (HD.out _ HB4.out) (fun hHeld => ?_)
            clear hK K
            (try simp only [Act.put, List.setIfInBounds_toArray, List.set_cons_zero, List.set_cons_succ])
            have qA : c4.heap[c3.heap.size]? = some (trow 0 0 ⟨#[]⟩ (.slice none 0 0)) := ((Below.refl c4.heap.size c4).block c3.heap.size (by omega)).trans HRA.out
            have qB : c4.heap[c1.heap.size]? = some (trow 0 0 ⟨#[]⟩ (.slice none 0 0)) := ((bel_two HS3.out HS4.out).block c1.heap.size (by omega)).trans HRB.out
            obtain ⟨⟨za0, za1, za2, za3⟩, ya0, ya1, ya2, ya3⟩ := cells_of4 qA
            have hn : c3.heap.size ≠ c1.heap.size := by omega
            refine wpAnyH_ready (rs := [8]) (by kernel_rfl) (by simp) ?_
            refine AllReadyH.cons (o := { dst := none, op := Op.store 26 (Operand.tmp 3) (Operand.tmp 17), type := 0, pos := "l09_guard.go:77", after := #[{ on := 6, ground := Ground.data }, { on := 2, ground := Ground.data }, { on := 5, ground := Ground.chain }, { on := 0, ground := Ground.phase }, { on := 1, ground := Ground.phase }, { on := 2, ground := Ground.phase }, { on := 3, ground := Ground.textOnly Departure.lateStores }, { on := 4, ground := Ground.textOnly Departure.lateStores }, { on := 5, ground := Ground.textOnly Departure.lateStoresUnsure }, { on := 6, ground := Ground.phase }, { on := 7, ground := Ground.phase }], guard := none }) rfl (fun K hK => ?_) AllReadyH.nil
            go_simp
            obtain ⟨Y, hY⟩ : ∃ Y, Y = ((((c4.setCell ⟨c3.heap.size, 0, none⟩ (.int .i64 kl)).setCell ⟨c3.heap.size, 1, none⟩ (.int .i64 nl)).setCell ⟨c3.heap.size, 2, none⟩ (.string sl)).setCell ⟨c3.heap.size, 3, none⟩ (.slice al ml cl)) := ⟨_, rfl⟩
            rw [← hY]
            have HBY : Hid (Below W9.heap.size W9 Y) := Lib.hid (by rw [hY]; exact set4_bel HB4.out (by omega) _ _ _ _)
            have qY : Y.heap[c1.heap.size]? = some (trow 0 0 ⟨#[]⟩ (.slice none 0 0)) := by rw [hY]; exact (set4_off c4 (Ne.symm hn) _ _ _ _).trans qB
            have HYE := Lib.hid hY
            clear hY
            refine hK.out _ _ (HD.out _ HBY.out) (fun hHeld => ?_)
            clear hK K
            (try simp only [Act.put, List.setIfInBounds_toArray, List.set_cons_zero, List.set_cons_succ])
            clear za0 za1 za2 za3 ya0 ya1 ya2 ya3
            obtain ⟨⟨za0, za1, za2, za3⟩, ya0, ya1, ya2, ya3⟩ := cells_of4 qY
            refine wpAnyH_ready (rs := [9]) (by kernel_rfl) (by simp) ?_
            refine AllReadyH.cons (o := { dst := none, op := Op.store 26 (Operand.tmp 4) (Operand.tmp 20), type := 0, pos := "l09_guard.go:77", after := #[{ on := 7, ground := Ground.data }, { on := 5, ground := Ground.data }, { on := 8, ground := Ground.chain }, { on := 0, ground := Ground.phase }, { on := 1, ground := Ground.phase }, { on := 2, ground := Ground.phase }, { on := 3, ground := Ground.phase }, { on := 4, ground := Ground.phase }, { on := 5, ground := Ground.phase }, { on := 6, ground := Ground.phase }, { on := 7, ground := Ground.phase }, { on := 8, ground := Ground.phase }], guard := none }) rfl (fun K hK => ?_) AllReadyH.nil
            go_simp
            refine hK.out _ _ (HD.out _ (set4_bel HBY.out (by omega) _ _ _ _)) (fun hHeld => ?_)
            clear hK K
            (try simp only [Act.put, List.setIfInBounds_toArray, List.set_cons_zero, List.set_cons_succ])
            refine wpAnyH_done (by kernel_rfl) ?_ _
            go_wp2_with fail
            go_meet
            rw [HYE.out]
            exact Lib.hid (two_set HTl.out HTr.out (bel_two (bel_two HS2.out HS3.out) HS4.out) HS4.out HB4.out qA qB ⟨hn, by omega, by omega, by omega, by omega, by omega, by omega, by omega, by omega⟩)
        · go_simp
          obtain ⟨c3, hc3⟩ : ∃ z, z = c2.alloc zTo := ⟨_, rfl⟩
          rw [← hc3]
          have hs3 : Below c2.heap.size c2 c3 := by rw [hc3]; exact (Below.refl _ _).alloc (Nat.le_refl _) _
          have HRA : Hid (c3.heap[c2.heap.size]? = some (trow 0 0 ⟨#[]⟩ (.slice none 0 0))) := Lib.hid (by rw [hc3]; exact heap_new _ _ rfl)
          have hz3 : c2.heap.size + 1 ≤ c3.heap.size := by rw [hc3]; simp
          clear hc3
          have HS3 := Lib.hid hs3
          have HB3 := Lib.hid (bel_two HB2.out hs3)
          clear hs3
          refine hK.out _ _ (HD.out _ HB3.out) (fun hHeld => ?_)
          clear hK K
          (try simp only [Act.put, List.setIfInBounds_toArray, List.set_cons_zero, List.set_cons_succ])
          refine wpAnyH_ready (rs := [5]) (by kernel_rfl) (by simp) ?_
          refine AllReadyH.cons (o := { dst := some 20, op := Op.call { callee := Callee.value (Operand.func 12), args := #[Operand.tmp 19], argTypes := #[26] }, type := 26, pos := "l09_guard.go:77", after := #[{ on := 4, ground := Ground.data }, { on := 2, ground := Ground.chain }], guard := none }) rfl (fun K hK => ?_) AllReadyH.nil
          · (go_simp; refine (HC2.out _ HB3.out).mono ?_; rintro e c4 ⟨Hr, kr, nr, sr, ar, mr, cr, rfl, htr, hs4⟩; go_wp2_with fail)
            have HTr := Lib.hid htr
            have hz4 : c3.heap.size ≤ c4.heap.size := hs4.size
            clear htr
            have HS4 := Lib.hid hs4
            have HB4 := Lib.hid (bel_two HB3.out hs4)
            clear hs4
            refine hK.out _ _ (HD.out _ HB4.out) (fun hHeld => ?_)
            clear hK K
            (try simp only [Act.put, List.setIfInBounds_toArray, List.set_cons_zero, List.set_cons_succ])
            have qA : c4.heap[c2.heap.size]? = some (trow 0 0 ⟨#[]⟩ (.slice none 0 0)) := (HS4.out.block c2.heap.size (by omega)).trans HRA.out
            have qB : c4.heap[c1.heap.size]? = some (trow 0 0 ⟨#[]⟩ (.slice none 0 0)) := ((bel_two HS3.out HS4.out).block c1.heap.size (by omega)).trans HRB.out
            obtain ⟨⟨za0, za1, za2, za3⟩, ya0, ya1, ya2, ya3⟩ := cells_of4 qA
            have hn : c2.heap.size ≠ c1.heap.size := by omega
            refine wpAnyH_ready (rs := [8]) (by kernel_rfl) (by simp) ?_
            refine AllReadyH.cons (o := { dst := none, op := Op.store 26 (Operand.tmp 3) (Operand.tmp 17), type := 0, pos := "l09_guard.go:77", after := #[{ on := 6, ground := Ground.data }, { on := 2, ground := Ground.data }, { on := 5, ground := Ground.chain }, { on := 0, ground := Ground.phase }, { on := 1, ground := Ground.phase }, { on := 2, ground := Ground.phase }, { on := 3, ground := Ground.textOnly Departure.lateStores }, { on := 4, ground := Ground.textOnly Departure.lateStores }, { on := 5, ground := Ground.textOnly Departure.lateStoresUnsure }, { on := 6, ground := Ground.phase }, { on := 7, ground := Ground.phase }], guard := none }) rfl (fun K hK => ?_) AllReadyH.nil
            go_simp
            obtain ⟨Y, hY⟩ : ∃ Y, Y = ((((c4.setCell ⟨c2.heap.size, 0, none⟩ (.int .i64 kl)).setCell ⟨c2.heap.size, 1, none⟩ (.int .i64 nl)).setCell ⟨c2.heap.size, 2, none⟩ (.string sl)).setCell ⟨c2.heap.size, 3, none⟩ (.slice al ml cl)) := ⟨_, rfl⟩
            rw [← hY]
            have HBY : Hid (Below W9.heap.size W9 Y) := Lib.hid (by rw [hY]; exact set4_bel HB4.out (by omega) _ _ _ _)
            have qY : Y.heap[c1.heap.size]? = some (trow 0 0 ⟨#[]⟩ (.slice none 0 0)) := by rw [hY]; exact (set4_off c4 (Ne.symm hn) _ _ _ _).trans qB
            have HYE := Lib.hid hY
            clear hY
            refine hK.out _ _ (HD.out _ HBY.out) (fun hHeld => ?_)
            clear hK K
            (try simp only [Act.put, List.setIfInBounds_toArray, List.set_cons_zero, List.set_cons_succ])
            clear za0 za1 za2 za3 ya0 ya1 ya2 ya3
            obtain ⟨⟨za0, za1, za2, za3⟩, ya0, ya1, ya2, ya3⟩ := cells_of4 qY
            refine wpAnyH_ready (rs := [9]) (by kernel_rfl) (by simp) ?_
            refine AllReadyH.cons (o := { dst := none, op := Op.store 26 (Operand.tmp 4) (Operand.tmp 20), type := 0, pos := "l09_guard.go:77", after := #[{ on := 7, ground := Ground.data }, { on := 5, ground := Ground.data }, { on := 8, ground := Ground.chain }, { on := 0, ground := Ground.phase }, { on := 1, ground := Ground.phase }, { on := 2, ground := Ground.phase }, { on := 3, ground := Ground.phase }, { on := 4, ground := Ground.phase }, { on := 5, ground := Ground.phase }, { on := 6, ground := Ground.phase }, { on := 7, ground := Ground.phase }, { on := 8, ground := Ground.phase }], guard := none }) rfl (fun K hK => ?_) AllReadyH.nil
            go_simp
            refine hK.out _ _ (HD.out _ (set4_bel HBY.out (by omega) _ _ _ _)) (fun hHeld => ?_)
            clear hK K
            (try simp only [Act.put, List.setIfInBounds_toArray, List.set_cons_zero, List.set_cons_succ])
            refine wpAnyH_done (by kernel_rfl) ?_ _
            go_wp2_with fail
            go_meet
            rw [HYE.out]
            exact Lib.hid (two_set HTl.out HTr.out (bel_two (bel_two HS2.out HS3.out) HS4.out) (Below.refl c4.heap.size c4) HB4.out qA qB ⟨hn, by omega, by omega, by omega, by omega, by omega, by omega, by omega, by omega⟩)
    · go_simp
      obtain ⟨c1, hc1⟩ : ∃ z, z = c0.alloc zTo := ⟨_, rfl⟩
      rw [← hc1]
      have hs1 : Below c0.heap.size c0 c1 := by rw [hc1]; exact (Below.refl _ _).alloc (Nat.le_refl _) _
      have HRA : Hid (c1.heap[c0.heap.size]? = some (trow 0 0 ⟨#[]⟩ (.slice none 0 0))) := Lib.hid (by rw [hc1]; exact heap_new _ _ rfl)
      have hz1 : c0.heap.size + 1 ≤ c1.heap.size := by rw [hc1]; simp
      clear hc1
      have HS1 := Lib.hid hs1
      have HB1 := Lib.hid (bel_two HB0c.out hs1)
      clear hs1
      refine hK.out _ _ (HD.out _ HB1.out) (fun hHeld => ?_)
      clear hK K
      (try simp only [Act.put, List.setIfInBounds_toArray, List.set_cons_zero, List.set_cons_succ])
      refine wpAnyH_ready (rs := [2, 7]) (by kernel_rfl) (by simp) ?_
      refine AllReadyH.cons (o := { dst := some 17, op := Op.call { callee := Callee.value (Operand.func 12), args := #[Operand.tmp 16], argTypes := #[26] }, type := 26, pos := "l09_guard.go:77", after := #[{ on := 1, ground := Ground.data }], guard := none }) rfl (fun K hK => ?_) (AllReadyH.cons (o := { dst := some 4, op := Op.alloc 26, type := 0, pos := "l09_guard.go:77", after := #[], guard := none }) rfl (fun K hK => ?_) AllReadyH.nil)
      · (go_simp; refine (HC1.out _ HB1.out).mono ?_; rintro e c2 ⟨Hl, kl, nl, sl, al, ml, cl, rfl, htl, hs2⟩; go_wp2_with fail)
        have HTl := Lib.hid htl
        have hz2 : c1.heap.size ≤ c2.heap.size := hs2.size
        clear htl
        have HS2 := Lib.hid hs2
        have HB2 := Lib.hid (bel_two HB1.out hs2)
        clear hs2
        refine hK.out _ _ (HD.out _ HB2.out) (fun hHeld => ?_)
        clear hK K
        (try simp only [Act.put, List.setIfInBounds_toArray, List.set_cons_zero, List.set_cons_succ])
        refine wpAnyH_ready (rs := [5, 7]) (by kernel_rfl) (by simp) ?_
        refine AllReadyH.cons (o := { dst := some 20, op := Op.call { callee := Callee.value (Operand.func 12), args := #[Operand.tmp 19], argTypes := #[26] }, type := 26, pos := "l09_guard.go:77", after := #[{ on := 4, ground := Ground.data }, { on := 2, ground := Ground.chain }], guard := none }) rfl (fun K hK => ?_) (AllReadyH.cons (o := { dst := some 4, op := Op.alloc 26, type := 0, pos := "l09_guard.go:77", after := #[], guard := none }) rfl (fun K hK => ?_) AllReadyH.nil)
        · (go_simp; refine (HC2.out _ HB2.out).mono ?_; rintro e c3 ⟨Hr, kr, nr, sr, ar, mr, cr, rfl, htr, hs3⟩; go_wp2_with fail)
          have HTr := Lib.hid htr
          have hz3 : c2.heap.size ≤ c3.heap.size := hs3.size
          clear htr
          have HS3 := Lib.hid hs3
          have HB3 := Lib.hid (bel_two HB2.out hs3)
          clear hs3
          refine hK.out _ _ (HD.out _ HB3.out) (fun hHeld => ?_)
          clear hK K
          (try simp only [Act.put, List.setIfInBounds_toArray, List.set_cons_zero, List.set_cons_succ])
          refine wpAnyH_ready (rs := [7]) (by kernel_rfl) (by simp) ?_
          refine AllReadyH.cons (o := { dst := some 4, op := Op.alloc 26, type := 0, pos := "l09_guard.go:77", after := #[], guard := none }) rfl (fun K hK => ?_) AllReadyH.nil
          · go_simp
            obtain ⟨c4, hc4⟩ : ∃ z, z = c3.alloc zTo := ⟨_, rfl⟩
            rw [← hc4]
            have hs4 : Below c3.heap.size c3 c4 := by rw [hc4]; exact (Below.refl _ _).alloc (Nat.le_refl _) _
            have HRB : Hid (c4.heap[c3.heap.size]? = some (trow 0 0 ⟨#[]⟩ (.slice none 0 0))) := Lib.hid (by rw [hc4]; exact heap_new _ _ rfl)
            have hz4 : c3.heap.size + 1 ≤ c4.heap.size := by rw [hc4]; simp
            clear hc4
            have HS4 := Lib.hid hs4
            have HB4 := Lib.hid (bel_two HB3.out hs4)
            clear hs4
            refine hK.out _ _ (HD.out _ HB4.out) (fun hHeld => ?_)
            clear hK K
            (try simp only [Act.put, List.setIfInBounds_toArray, List.set_cons_zero, List.set_cons_succ])
            have qA : c4.heap[c0.heap.size]? = some (trow 0 0 ⟨#[]⟩ (.slice none 0 0)) := ((bel_two (bel_two HS2.out HS3.out) HS4.out).block c0.heap.size (by omega)).trans HRA.out
            have qB : c4.heap[c3.heap.size]? = some (trow 0 0 ⟨#[]⟩ (.slice none 0 0)) := ((Below.refl c4.heap.size c4).block c3.heap.size (by omega)).trans HRB.out
            obtain ⟨⟨za0, za1, za2, za3⟩, ya0, ya1, ya2, ya3⟩ := cells_of4 qA
            have hn : c0.heap.size ≠ c3.heap.size := by omega
            refine wpAnyH_ready (rs := [8]) (by kernel_rfl) (by simp) ?_
            refine AllReadyH.cons (o := { dst := none, op := Op.store 26 (Operand.tmp 3) (Operand.tmp 17), type := 0, pos := "l09_guard.go:77", after := #[{ on := 6, ground := Ground.data }, { on := 2, ground := Ground.data }, { on := 5, ground := Ground.chain }, { on := 0, ground := Ground.phase }, { on := 1, ground := Ground.phase }, { on := 2, ground := Ground.phase }, { on := 3, ground := Ground.textOnly Departure.lateStores }, { on := 4, ground := Ground.textOnly Departure.lateStores }, { on := 5, ground := Ground.textOnly Departure.lateStoresUnsure }, { on := 6, ground := Ground.phase }, { on := 7, ground := Ground.phase }], guard := none }) rfl (fun K hK => ?_) AllReadyH.nil
            go_simp
            obtain ⟨Y, hY⟩ : ∃ Y, Y = ((((c4.setCell ⟨c0.heap.size, 0, none⟩ (.int .i64 kl)).setCell ⟨c0.heap.size, 1, none⟩ (.int .i64 nl)).setCell ⟨c0.heap.size, 2, none⟩ (.string sl)).setCell ⟨c0.heap.size, 3, none⟩ (.slice al ml cl)) := ⟨_, rfl⟩
            rw [← hY]
            have HBY : Hid (Below W9.heap.size W9 Y) := Lib.hid (by rw [hY]; exact set4_bel HB4.out (by omega) _ _ _ _)
            have qY : Y.heap[c3.heap.size]? = some (trow 0 0 ⟨#[]⟩ (.slice none 0 0)) := by rw [hY]; exact (set4_off c4 (Ne.symm hn) _ _ _ _).trans qB
            have HYE := Lib.hid hY
            clear hY
            refine hK.out _ _ (HD.out _ HBY.out) (fun hHeld => ?_)
            clear hK K
            (try simp only [Act.put, List.setIfInBounds_toArray, List.set_cons_zero, List.set_cons_succ])
            clear za0 za1 za2 za3 ya0 ya1 ya2 ya3
            obtain ⟨⟨za0, za1, za2, za3⟩, ya0, ya1, ya2, ya3⟩ := cells_of4 qY
            refine wpAnyH_ready (rs := [9]) (by kernel_rfl) (by simp) ?_
            refine AllReadyH.cons (o := { dst := none, op := Op.store 26 (Operand.tmp 4) (Operand.tmp 20), type := 0, pos := "l09_guard.go:77", after := #[{ on := 7, ground := Ground.data }, { on := 5, ground := Ground.data }, { on := 8, ground := Ground.chain }, { on := 0, ground := Ground.phase }, { on := 1, ground := Ground.phase }, { on := 2, ground := Ground.phase }, { on := 3, ground := Ground.phase }, { on := 4, ground := Ground.phase }, { on := 5, ground := Ground.phase }, { on := 6, ground := Ground.phase }, { on := 7, ground := Ground.phase }, { on := 8, ground := Ground.phase }], guard := none }) rfl (fun K hK => ?_) AllReadyH.nil
            go_simp
            refine hK.out _ _ (HD.out _ (set4_bel HBY.out (by omega) _ _ _ _)) (fun hHeld => ?_)
            clear hK K
            (try simp only [Act.put, List.setIfInBounds_toArray, List.set_cons_zero, List.set_cons_succ])
            refine wpAnyH_done (by kernel_rfl) ?_ _
            go_wp2_with fail
            go_meet
            rw [HYE.out]
            exact Lib.hid (two_set HTl.out HTr.out (bel_two HS3.out HS4.out) HS4.out HB4.out qA qB ⟨hn, by omega, by omega, by omega, by omega, by omega, by omega, by omega, by omega⟩)
        · go_simp
          obtain ⟨c3, hc3⟩ : ∃ z, z = c2.alloc zTo := ⟨_, rfl⟩
          rw [← hc3]
          have hs3 : Below c2.heap.size c2 c3 := by rw [hc3]; exact (Below.refl _ _).alloc (Nat.le_refl _) _
          have HRB : Hid (c3.heap[c2.heap.size]? = some (trow 0 0 ⟨#[]⟩ (.slice none 0 0))) := Lib.hid (by rw [hc3]; exact heap_new _ _ rfl)
          have hz3 : c2.heap.size + 1 ≤ c3.heap.size := by rw [hc3]; simp
          clear hc3
          have HS3 := Lib.hid hs3
          have HB3 := Lib.hid (bel_two HB2.out hs3)
          clear hs3
          refine hK.out _ _ (HD.out _ HB3.out) (fun hHeld => ?_)
          clear hK K
          (try simp only [Act.put, List.setIfInBounds_toArray, List.set_cons_zero, List.set_cons_succ])
          refine wpAnyH_ready (rs := [5]) (by kernel_rfl) (by simp) ?_
          refine AllReadyH.cons (o := { dst := some 20, op := Op.call { callee := Callee.value (Operand.func 12), args := #[Operand.tmp 19], argTypes := #[26] }, type := 26, pos := "l09_guard.go:77", after := #[{ on := 4, ground := Ground.data }, { on := 2, ground := Ground.chain }], guard := none }) rfl (fun K hK => ?_) AllReadyH.nil
          · (go_simp; refine (HC2.out _ HB3.out).mono ?_; rintro e c4 ⟨Hr, kr, nr, sr, ar, mr, cr, rfl, htr, hs4⟩; go_wp2_with fail)
            have HTr := Lib.hid htr
            have hz4 : c3.heap.size ≤ c4.heap.size := hs4.size
            clear htr
            have HS4 := Lib.hid hs4
            have HB4 := Lib.hid (bel_two HB3.out hs4)
            clear hs4
            refine hK.out _ _ (HD.out _ HB4.out) (fun hHeld => ?_)
            clear hK K
            (try simp only [Act.put, List.setIfInBounds_toArray, List.set_cons_zero, List.set_cons_succ])
            have qA : c4.heap[c0.heap.size]? = some (trow 0 0 ⟨#[]⟩ (.slice none 0 0)) := ((bel_two (bel_two HS2.out HS3.out) HS4.out).block c0.heap.size (by omega)).trans HRA.out
            have qB : c4.heap[c2.heap.size]? = some (trow 0 0 ⟨#[]⟩ (.slice none 0 0)) := (HS4.out.block c2.heap.size (by omega)).trans HRB.out
            obtain ⟨⟨za0, za1, za2, za3⟩, ya0, ya1, ya2, ya3⟩ := cells_of4 qA
            have hn : c0.heap.size ≠ c2.heap.size := by omega
            refine wpAnyH_ready (rs := [8]) (by kernel_rfl) (by simp) ?_
            refine AllReadyH.cons (o := { dst := none, op := Op.store 26 (Operand.tmp 3) (Operand.tmp 17), type := 0, pos := "l09_guard.go:77", after := #[{ on := 6, ground := Ground.data }, { on := 2, ground := Ground.data }, { on := 5, ground := Ground.chain }, { on := 0, ground := Ground.phase }, { on := 1, ground := Ground.phase }, { on := 2, ground := Ground.phase }, { on := 3, ground := Ground.textOnly Departure.lateStores }, { on := 4, ground := Ground.textOnly Departure.lateStores }, { on := 5, ground := Ground.textOnly Departure.lateStoresUnsure }, { on := 6, ground := Ground.phase }, { on := 7, ground := Ground.phase }], guard := none }) rfl (fun K hK => ?_) AllReadyH.nil
            go_simp
            obtain ⟨Y, hY⟩ : ∃ Y, Y = ((((c4.setCell ⟨c0.heap.size, 0, none⟩ (.int .i64 kl)).setCell ⟨c0.heap.size, 1, none⟩ (.int .i64 nl)).setCell ⟨c0.heap.size, 2, none⟩ (.string sl)).setCell ⟨c0.heap.size, 3, none⟩ (.slice al ml cl)) := ⟨_, rfl⟩
            rw [← hY]
            have HBY : Hid (Below W9.heap.size W9 Y) := Lib.hid (by rw [hY]; exact set4_bel HB4.out (by omega) _ _ _ _)
            have qY : Y.heap[c2.heap.size]? = some (trow 0 0 ⟨#[]⟩ (.slice none 0 0)) := by rw [hY]; exact (set4_off c4 (Ne.symm hn) _ _ _ _).trans qB
            have HYE := Lib.hid hY
            clear hY
            refine hK.out _ _ (HD.out _ HBY.out) (fun hHeld => ?_)
            clear hK K
            (try simp only [Act.put, List.setIfInBounds_toArray, List.set_cons_zero, List.set_cons_succ])
            clear za0 za1 za2 za3 ya0 ya1 ya2 ya3
            obtain ⟨⟨za0, za1, za2, za3⟩, ya0, ya1, ya2, ya3⟩ := cells_of4 qY
            refine wpAnyH_ready (rs := [9]) (by kernel_rfl) (by simp) ?_
            refine AllReadyH.cons (o := { dst := none, op := Op.store 26 (Operand.tmp 4) (Operand.tmp 20), type := 0, pos := "l09_guard.go:77", after := #[{ on := 7, ground := Ground.data }, { on := 5, ground := Ground.data }, { on := 8, ground := Ground.chain }, { on := 0, ground := Ground.phase }, { on := 1, ground := Ground.phase }, { on := 2, ground := Ground.phase }, { on := 3, ground := Ground.phase }, { on := 4, ground := Ground.phase }, { on := 5, ground := Ground.phase }, { on := 6, ground := Ground.phase }, { on := 7, ground := Ground.phase }, { on := 8, ground := Ground.phase }], guard := none }) rfl (fun K hK => ?_) AllReadyH.nil
            go_simp
            refine hK.out _ _ (HD.out _ (set4_bel HBY.out (by omega) _ _ _ _)) (fun hHeld => ?_)
            clear hK K
            (try simp only [Act.put, List.setIfInBounds_toArray, List.set_cons_zero, List.set_cons_succ])
            refine wpAnyH_done (by kernel_rfl) ?_ _
            go_wp2_with fail
            go_meet
            rw [HYE.out]
            exact Lib.hid (two_set HTl.out HTr.out (bel_two HS3.out HS4.out) (Below.refl c4.heap.size c4) HB4.out qA qB ⟨hn, by omega, by omega, by omega, by omega, by omega, by omega, by omega, by omega⟩)
      · go_simp
        obtain ⟨c2, hc2⟩ : ∃ z, z = c1.alloc zTo := ⟨_, rfl⟩
        rw [← hc2]
        have hs2 : Below c1.heap.size c1 c2 := by rw [hc2]; exact (Below.refl _ _).alloc (Nat.le_refl _) _
        have HRB : Hid (c2.heap[c1.heap.size]? = some (trow 0 0 ⟨#[]⟩ (.slice none 0 0))) := Lib.hid (by rw [hc2]; exact heap_new _ _ rfl)
        have hz2 : c1.heap.size + 1 ≤ c2.heap.size := by rw [hc2]; simp
        clear hc2
        have HS2 := Lib.hid hs2
        have HB2 := Lib.hid (bel_two HB1.out hs2)
        clear hs2
        refine hK.out _ _ (HD.out _ HB2.out) (fun hHeld => ?_)
        clear hK K
        (try simp only [Act.put, List.setIfInBounds_toArray, List.set_cons_zero, List.set_cons_succ])
        refine wpAnyH_ready (rs := [2]) (by kernel_rfl) (by simp) ?_
        refine AllReadyH.cons (o := { dst := some 17, op := Op.call { callee := Callee.value (Operand.func 12), args := #[Operand.tmp 16], argTypes := #[26] }, type := 26, pos := "l09_guard.go:77", after := #[{ on := 1, ground := Ground.data }], guard := none }) rfl (fun K hK => ?_) AllReadyH.nil
        · (go_simp; refine (HC1.out _ HB2.out).mono ?_; rintro e c3 ⟨Hl, kl, nl, sl, al, ml, cl, rfl, htl, hs3⟩; go_wp2_with fail)
          have HTl := Lib.hid htl
          have hz3 : c2.heap.size ≤ c3.heap.size := hs3.size
          clear htl
          have HS3 := Lib.hid hs3
          have HB3 := Lib.hid (bel_two HB2.out hs3)
          clear hs3
          refine hK.out _ _ (HD.out _ HB3.out) (fun hHeld => ?_)
          clear hK K
          (try simp only [Act.put, List.setIfInBounds_toArray, List.set_cons_zero, List.set_cons_succ])
          refine wpAnyH_ready (rs := [5]) (by kernel_rfl) (by simp) ?_
          refine AllReadyH.cons (o := { dst := some 20, op := Op.call { callee := Callee.value (Operand.func 12), args := #[Operand.tmp 19], argTypes := #[26] }, type := 26, pos := "l09_guard.go:77", after := #[{ on := 4, ground := Ground.data }, { on := 2, ground := Ground.chain }], guard := none }) rfl (fun K hK => ?_) AllReadyH.nil
          · (go_simp; refine (HC2.out _ HB3.out).mono ?_; rintro e c4 ⟨Hr, kr, nr, sr, ar, mr, cr, rfl, htr, hs4⟩; go_wp2_with fail)
            have HTr := Lib.hid htr
            have hz4 : c3.heap.size ≤ c4.heap.size := hs4.size
            clear htr
            have HS4 := Lib.hid hs4
            have HB4 := Lib.hid (bel_two HB3.out hs4)
            clear hs4
            refine hK.out _ _ (HD.out _ HB4.out) (fun hHeld => ?_)
            clear hK K
            (try simp only [Act.put, List.setIfInBounds_toArray, List.set_cons_zero, List.set_cons_succ])
            have qA : c4.heap[c0.heap.size]? = some (trow 0 0 ⟨#[]⟩ (.slice none 0 0)) := ((bel_two (bel_two HS2.out HS3.out) HS4.out).block c0.heap.size (by omega)).trans HRA.out
            have qB : c4.heap[c1.heap.size]? = some (trow 0 0 ⟨#[]⟩ (.slice none 0 0)) := ((bel_two HS3.out HS4.out).block c1.heap.size (by omega)).trans HRB.out
            obtain ⟨⟨za0, za1, za2, za3⟩, ya0, ya1, ya2, ya3⟩ := cells_of4 qA
            have hn : c0.heap.size ≠ c1.heap.size := by omega
            refine wpAnyH_ready (rs := [8]) (by kernel_rfl) (by simp) ?_
            refine AllReadyH.cons (o := { dst := none, op := Op.store 26 (Operand.tmp 3) (Operand.tmp 17), type := 0, pos := "l09_guard.go:77", after := #[{ on := 6, ground := Ground.data }, { on := 2, ground := Ground.data }, { on := 5, ground := Ground.chain }, { on := 0, ground := Ground.phase }, { on := 1, ground := Ground.phase }, { on := 2, ground := Ground.phase }, { on := 3, ground := Ground.textOnly Departure.lateStores }, { on := 4, ground := Ground.textOnly Departure.lateStores }, { on := 5, ground := Ground.textOnly Departure.lateStoresUnsure }, { on := 6, ground := Ground.phase }, { on := 7, ground := Ground.phase }], guard := none }) rfl (fun K hK => ?_) AllReadyH.nil
            go_simp
            obtain ⟨Y, hY⟩ : ∃ Y, Y = ((((c4.setCell ⟨c0.heap.size, 0, none⟩ (.int .i64 kl)).setCell ⟨c0.heap.size, 1, none⟩ (.int .i64 nl)).setCell ⟨c0.heap.size, 2, none⟩ (.string sl)).setCell ⟨c0.heap.size, 3, none⟩ (.slice al ml cl)) := ⟨_, rfl⟩
            rw [← hY]
            have HBY : Hid (Below W9.heap.size W9 Y) := Lib.hid (by rw [hY]; exact set4_bel HB4.out (by omega) _ _ _ _)
            have qY : Y.heap[c1.heap.size]? = some (trow 0 0 ⟨#[]⟩ (.slice none 0 0)) := by rw [hY]; exact (set4_off c4 (Ne.symm hn) _ _ _ _).trans qB
            have HYE := Lib.hid hY
            clear hY
            refine hK.out _ _ (HD.out _ HBY.out) (fun hHeld => ?_)
            clear hK K
            (try simp only [Act.put, List.setIfInBounds_toArray, List.set_cons_zero, List.set_cons_succ])
            clear za0 za1 za2 za3 ya0 ya1 ya2 ya3
            obtain ⟨⟨za0, za1, za2, za3⟩, ya0, ya1, ya2, ya3⟩ := cells_of4 qY
            refine wpAnyH_ready (rs := [9]) (by kernel_rfl) (by simp) ?_
            refine AllReadyH.cons (o := { dst := none, op := Op.store 26 (Operand.tmp 4) (Operand.tmp 20), type := 0, pos := "l09_guard.go:77", after := #[{ on := 7, ground := Ground.data }, { on := 5, ground := Ground.data }, { on := 8, ground := Ground.chain }, { on := 0, ground := Ground.phase }, { on := 1, ground := Ground.phase }, { on := 2, ground := Ground.phase }, { on := 3, ground := Ground.phase }, { on := 4, ground := Ground.phase }, { on := 5, ground := Ground.phase }, { on := 6, ground := Ground.phase }, { on := 7, ground := Ground.phase }, { on := 8, ground := Ground.phase }], guard := none }) rfl (fun K hK => ?_) AllReadyH.nil
            go_simp
            refine hK.out _ _ (HD.out _ (set4_bel HBY.out (by omega) _ _ _ _)) (fun hHeld => ?_)
            clear hK K
            (try simp only [Act.put, List.setIfInBounds_toArray, List.set_cons_zero, List.set_cons_succ])
            refine wpAnyH_done (by kernel_rfl) ?_ _
            go_wp2_with fail
            go_meet
            rw [HYE.out]
            exact Lib.hid (two_set HTl.out HTr.out HS4.out (Below.refl c4.heap.size c4) HB4.out qA qB ⟨hn, by omega, by omega, by omega, by omega, by omega, by omega, by omega, by omega⟩)
    · go_simp
      obtain ⟨c1, hc1⟩ : ∃ z, z = c0.alloc zTo := ⟨_, rfl⟩
      rw [← hc1]
      have hs1 : Below c0.heap.size c0 c1 := by rw [hc1]; exact (Below.refl _ _).alloc (Nat.le_refl _) _
      have HRB : Hid (c1.heap[c0.heap.size]? = some (trow 0 0 ⟨#[]⟩ (.slice none 0 0))) := Lib.hid (by rw [hc1]; exact heap_new _ _ rfl)
      have hz1 : c0.heap.size + 1 ≤ c1.heap.size := by rw [hc1]; simp
      clear hc1
      have HS1 := Lib.hid hs1
      have HB1 := Lib.hid (bel_two HB0c.out hs1)
      clear hs1
      refine hK.out _ _ (HD.out _ HB1.out) (fun hHeld => ?_)
      clear hK K
      (try simp only [Act.put, List.setIfInBounds_toArray, List.set_cons_zero, List.set_cons_succ])
      refine wpAnyH_ready (rs := [2, 6]) (by kernel_rfl) (by simp) ?_
      refine AllReadyH.cons (o := { dst := some 17, op := Op.call { callee := Callee.value (Operand.func 12), args := #[Operand.tmp 16], argTypes := #[26] }, type := 26, pos := "l09_guard.go:77", after := #[{ on := 1, ground := Ground.data }], guard := none }) rfl (fun K hK => ?_) (AllReadyH.cons (o := { dst := some 3, op := Op.alloc 26, type := 0, pos := "l09_guard.go:77", after := #[], guard := none }) rfl (fun K hK => ?_) AllReadyH.nil)
      · (go_simp; refine (HC1.out _ HB1.out).mono ?_; rintro e c2 ⟨Hl, kl, nl, sl, al, ml, cl, rfl, htl, hs2⟩; go_wp2_with fail)
        have HTl := Lib.hid htl
        have hz2 : c1.heap.size ≤ c2.heap.size := hs2.size
        clear htl
        have HS2 := Lib.hid hs2
        have HB2 := Lib.hid (bel_two HB1.out hs2)
        clear hs2
        refine hK.out _ _ (HD.out _ HB2.out) (fun hHeld => ?_)
        clear hK K
        (try simp only [Act.put, List.setIfInBounds_toArray, List.set_cons_zero, List.set_cons_succ])
        refine wpAnyH_ready (rs := [5, 6]) (by kernel_rfl) (by simp) ?_
        refine AllReadyH.cons (o := { dst := some 20, op := Op.call { callee := Callee.value (Operand.func 12), args := #[Operand.tmp 19], argTypes := #[26] }, type := 26, pos := "l09_guard.go:77", after := #[{ on := 4, ground := Ground.data }, { on := 2, ground := Ground.chain }], guard := none }) rfl (fun K hK => ?_) (AllReadyH.cons (o := { dst := some 3, op := Op.alloc 26, type := 0, pos := "l09_guard.go:77", after := #[], guard := none }) rfl (fun K hK => ?_) AllReadyH.nil)
        · (go_simp; refine (HC2.out _ HB2.out).mono ?_; rintro e c3 ⟨Hr, kr, nr, sr, ar, mr, cr, rfl, htr, hs3⟩; go_wp2_with fail)
          have HTr := Lib.hid htr
          have hz3 : c2.heap.size ≤ c3.heap.size := hs3.size
          clear htr
          have HS3 := Lib.hid hs3
          have HB3 := Lib.hid (bel_two HB2.out hs3)
          clear hs3
          refine hK.out _ _ (HD.out _ HB3.out) (fun hHeld => ?_)
          clear hK K
          (try simp only [Act.put, List.setIfInBounds_toArray, List.set_cons_zero, List.set_cons_succ])
          refine wpAnyH_ready (rs := [6]) (by kernel_rfl) (by simp) ?_
          refine AllReadyH.cons (o := { dst := some 3, op := Op.alloc 26, type := 0, pos := "l09_guard.go:77", after := #[], guard := none }) rfl (fun K hK => ?_) AllReadyH.nil
          · go_simp
            obtain ⟨c4, hc4⟩ : ∃ z, z = c3.alloc zTo := ⟨_, rfl⟩
            rw [← hc4]
            have hs4 : Below c3.heap.size c3 c4 := by rw [hc4]; exact (Below.refl _ _).alloc (Nat.le_refl _) _
            have HRA : Hid (c4.heap[c3.heap.size]? = some (trow 0 0 ⟨#[]⟩ (.slice none 0 0))) := Lib.hid (by rw [hc4]; exact heap_new _ _ rfl)
            have hz4 : c3.heap.size + 1 ≤ c4.heap.size := by rw [hc4]; simp
            clear hc4
            have HS4 := Lib.hid hs4
            have HB4 := Lib.hid (bel_two HB3.out hs4)
            clear hs4
            refine hK.out _ _ (HD.out _ HB4.out) (fun hHeld => ?_)
            clear hK K
            (try simp only [Act.put, List.setIfInBounds_toArray, List.set_cons_zero, List.set_cons_succ])
            have qA : c4.heap[c3.heap.size]? = some (trow 0 0 ⟨#[]⟩ (.slice none 0 0)) := ((Below.refl c4.heap.size c4).block c3.heap.size (by omega)).trans HRA.out
            have qB : c4.heap[c0.heap.size]? = some (trow 0 0 ⟨#[]⟩ (.slice none 0 0)) := ((bel_two (bel_two HS2.out HS3.out) HS4.out).block c0.heap.size (by omega)).trans HRB.out
            obtain ⟨⟨za0, za1, za2, za3⟩, ya0, ya1, ya2, ya3⟩ := cells_of4 qA
            have hn : c3.heap.size ≠ c0.heap.size := by omega
            refine wpAnyH_ready (rs := [8]) (by kernel_rfl) (by simp) ?_
            refine AllReadyH.cons (o := { dst := none, op := Op.store 26 (Operand.tmp 3) (Operand.tmp 17), type := 0, pos := "l09_guard.go:77", after := #[{ on := 6, ground := Ground.data }, { on := 2, ground := Ground.data }, { on := 5, ground := Ground.chain }, { on := 0, ground := Ground.phase }, { on := 1, ground := Ground.phase }, { on := 2, ground := Ground.phase }, { on := 3, ground := Ground.textOnly Departure.lateStores }, { on := 4, ground := Ground.textOnly Departure.lateStores }, { on := 5, ground := Ground.textOnly Departure.lateStoresUnsure }, { on := 6, ground := Ground.phase }, { on := 7, ground := Ground.phase }], guard := none }) rfl (fun K hK => ?_) AllReadyH.nil
            go_simp
            obtain ⟨Y, hY⟩ : ∃ Y, Y = ((((c4.setCell ⟨c3.heap.size, 0, none⟩ (.int .i64 kl)).setCell ⟨c3.heap.size, 1, none⟩ (.int .i64 nl)).setCell ⟨c3.heap.size, 2, none⟩ (.string sl)).setCell ⟨c3.heap.size, 3, none⟩ (.slice al ml cl)) := ⟨_, rfl⟩
            rw [← hY]
            have HBY : Hid (Below W9.heap.size W9 Y) := Lib.hid (by rw [hY]; exact set4_bel HB4.out (by omega) _ _ _ _)
            have qY : Y.heap[c0.heap.size]? = some (trow 0 0 ⟨#[]⟩ (.slice none 0 0)) := by rw [hY]; exact (set4_off c4 (Ne.symm hn) _ _ _ _).trans qB
            have HYE := Lib.hid hY
            clear hY
            refine hK.out _ _ (HD.out _ HBY.out) (fun hHeld => ?_)
            clear hK K
            (try simp only [Act.put, List.setIfInBounds_toArray, List.set_cons_zero, List.set_cons_succ])
            clear za0 za1 za2 za3 ya0 ya1 ya2 ya3
            obtain ⟨⟨za0, za1, za2, za3⟩, ya0, ya1, ya2, ya3⟩ := cells_of4 qY
            refine wpAnyH_ready (rs := [9]) (by kernel_rfl) (by simp) ?_
            refine AllReadyH.cons (o := { dst := none, op := Op.store 26 (Operand.tmp 4) (Operand.tmp 20), type := 0, pos := "l09_guard.go:77", after := #[{ on := 7, ground := Ground.data }, { on := 5, ground := Ground.data }, { on := 8, ground := Ground.chain }, { on := 0, ground := Ground.phase }, { on := 1, ground := Ground.phase }, { on := 2, ground := Ground.phase }, { on := 3, ground := Ground.phase }, { on := 4, ground := Ground.phase }, { on := 5, ground := Ground.phase }, { on := 6, ground := Ground.phase }, { on := 7, ground := Ground.phase }, { on := 8, ground := Ground.phase }], guard := none }) rfl (fun K hK => ?_) AllReadyH.nil
            go_simp
            refine hK.out _ _ (HD.out _ (set4_bel HBY.out (by omega) _ _ _ _)) (fun hHeld => ?_)
            clear hK K
            (try simp only [Act.put, List.setIfInBounds_toArray, List.set_cons_zero, List.set_cons_succ])
            refine wpAnyH_done (by kernel_rfl) ?_ _
            go_wp2_with fail
            go_meet
            rw [HYE.out]
            exact Lib.hid (two_set HTl.out HTr.out (bel_two HS3.out HS4.out) HS4.out HB4.out qA qB ⟨hn, by omega, by omega, by omega, by omega, by omega, by omega, by omega, by omega⟩)
        · go_simp
          obtain ⟨c3, hc3⟩ : ∃ z, z = c2.alloc zTo := ⟨_, rfl⟩
          rw [← hc3]
          have hs3 : Below c2.heap.size c2 c3 := by rw [hc3]; exact (Below.refl _ _).alloc (Nat.le_refl _) _
          have HRA : Hid (c3.heap[c2.heap.size]? = some (trow 0 0 ⟨#[]⟩ (.slice none 0 0))) := Lib.hid (by rw [hc3]; exact heap_new _ _ rfl)
          have hz3 : c2.heap.size + 1 ≤ c3.heap.size := by rw [hc3]; simp
          clear hc3
          have HS3 := Lib.hid hs3
          have HB3 := Lib.hid (bel_two HB2.out hs3)
          clear hs3
          refine hK.out _ _ (HD.out _ HB3.out) (fun hHeld => ?_)
          clear hK K
          (try simp only [Act.put, List.setIfInBounds_toArray, List.set_cons_zero, List.set_cons_succ])
          refine wpAnyH_ready (rs := [5]) (by kernel_rfl) (by simp) ?_
          refine AllReadyH.cons (o := { dst := some 20, op := Op.call { callee := Callee.value (Operand.func 12), args := #[Operand.tmp 19], argTypes := #[26] }, type := 26, pos := "l09_guard.go:77", after := #[{ on := 4, ground := Ground.data }, { on := 2, ground := Ground.chain }], guard := none }) rfl (fun K hK => ?_) AllReadyH.nil
          · (go_simp; refine (HC2.out _ HB3.out).mono ?_; rintro e c4 ⟨Hr, kr, nr, sr, ar, mr, cr, rfl, htr, hs4⟩; go_wp2_with fail)
            have HTr := Lib.hid htr
            have hz4 : c3.heap.size ≤ c4.heap.size := hs4.size
            clear htr
            have HS4 := Lib.hid hs4
            have HB4 := Lib.hid (bel_two HB3.out hs4)
            clear hs4
            refine hK.out _ _ (HD.out _ HB4.out) (fun hHeld => ?_)
            clear hK K
            (try simp only [Act.put, List.setIfInBounds_toArray, List.set_cons_zero, List.set_cons_succ])
            have qA : c4.heap[c2.heap.size]? = some (trow 0 0 ⟨#[]⟩ (.slice none 0 0)) := (HS4.out.block c2.heap.size (by omega)).trans HRA.out
            have qB : c4.heap[c0.heap.size]? = some (trow 0 0 ⟨#[]⟩ (.slice none 0 0)) := ((bel_two (bel_two HS2.out HS3.out) HS4.out).block c0.heap.size (by omega)).trans HRB.out
            obtain ⟨⟨za0, za1, za2, za3⟩, ya0, ya1, ya2, ya3⟩ := cells_of4 qA
            have hn : c2.heap.size ≠ c0.heap.size := by omega
            refine wpAnyH_ready (rs := [8]) (by kernel_rfl) (by simp) ?_
            refine AllReadyH.cons (o := { dst := none, op := Op.store 26 (Operand.tmp 3) (Operand.tmp 17), type := 0, pos := "l09_guard.go:77", after := #[{ on := 6, ground := Ground.data }, { on := 2, ground := Ground.data }, { on := 5, ground := Ground.chain }, { on := 0, ground := Ground.phase }, { on := 1, ground := Ground.phase }, { on := 2, ground := Ground.phase }, { on := 3, ground := Ground.textOnly Departure.lateStores }, { on := 4, ground := Ground.textOnly Departure.lateStores }, { on := 5, ground := Ground.textOnly Departure.lateStoresUnsure }, { on := 6, ground := Ground.phase }, { on := 7, ground := Ground.phase }], guard := none }) rfl (fun K hK => ?_) AllReadyH.nil
            go_simp
            obtain ⟨Y, hY⟩ : ∃ Y, Y = ((((c4.setCell ⟨c2.heap.size, 0, none⟩ (.int .i64 kl)).setCell ⟨c2.heap.size, 1, none⟩ (.int .i64 nl)).setCell ⟨c2.heap.size, 2, none⟩ (.string sl)).setCell ⟨c2.heap.size, 3, none⟩ (.slice al ml cl)) := ⟨_, rfl⟩
            rw [← hY]
            have HBY : Hid (Below W9.heap.size W9 Y) := Lib.hid (by rw [hY]; exact set4_bel HB4.out (by omega) _ _ _ _)
            have qY : Y.heap[c0.heap.size]? = some (trow 0 0 ⟨#[]⟩ (.slice none 0 0)) := by rw [hY]; exact (set4_off c4 (Ne.symm hn) _ _ _ _).trans qB
            have HYE := Lib.hid hY
            clear hY
            refine hK.out _ _ (HD.out _ HBY.out) (fun hHeld => ?_)
            clear hK K
            (try simp only [Act.put, List.setIfInBounds_toArray, List.set_cons_zero, List.set_cons_succ])
            clear za0 za1 za2 za3 ya0 ya1 ya2 ya3
            obtain ⟨⟨za0, za1, za2, za3⟩, ya0, ya1, ya2, ya3⟩ := cells_of4 qY
            refine wpAnyH_ready (rs := [9]) (by kernel_rfl) (by simp) ?_
            refine AllReadyH.cons (o := { dst := none, op := Op.store 26 (Operand.tmp 4) (Operand.tmp 20), type := 0, pos := "l09_guard.go:77", after := #[{ on := 7, ground := Ground.data }, { on := 5, ground := Ground.data }, { on := 8, ground := Ground.chain }, { on := 0, ground := Ground.phase }, { on := 1, ground := Ground.phase }, { on := 2, ground := Ground.phase }, { on := 3, ground := Ground.phase }, { on := 4, ground := Ground.phase }, { on := 5, ground := Ground.phase }, { on := 6, ground := Ground.phase }, { on := 7, ground := Ground.phase }, { on := 8, ground := Ground.phase }], guard := none }) rfl (fun K hK => ?_) AllReadyH.nil
            go_simp
            refine hK.out _ _ (HD.out _ (set4_bel HBY.out (by omega) _ _ _ _)) (fun hHeld => ?_)
            clear hK K
            (try simp only [Act.put, List.setIfInBounds_toArray, List.set_cons_zero, List.set_cons_succ])
            refine wpAnyH_done (by kernel_rfl) ?_ _
            go_wp2_with fail
            go_meet
            rw [HYE.out]
            exact Lib.hid (two_set HTl.out HTr.out (bel_two HS3.out HS4.out) (Below.refl c4.heap.size c4) HB4.out qA qB ⟨hn, by omega, by omega, by omega, by omega, by omega, by omega, by omega, by omega⟩)
      · go_simp
        obtain ⟨c2, hc2⟩ : ∃ z, z = c1.alloc zTo := ⟨_, rfl⟩
        rw [← hc2]
        have hs2 : Below c1.heap.size c1 c2 := by rw [hc2]; exact (Below.refl _ _).alloc (Nat.le_refl _) _
        have HRA : Hid (c2.heap[c1.heap.size]? = some (trow 0 0 ⟨#[]⟩ (.slice none 0 0))) := Lib.hid (by rw [hc2]; exact heap_new _ _ rfl)
        have hz2 : c1.heap.size + 1 ≤ c2.heap.size := by rw [hc2]; simp
        clear hc2
        have HS2 := Lib.hid hs2
        have HB2 := Lib.hid (bel_two HB1.out hs2)
        clear hs2
        refine hK.out _ _ (HD.out _ HB2.out) (fun hHeld => ?_)
        clear hK K
        (try simp only [Act.put, List.setIfInBounds_toArray, List.set_cons_zero, List.set_cons_succ])
        refine wpAnyH_ready (rs := [2]) (by kernel_rfl) (by simp) ?_
        refine AllReadyH.cons (o := { dst := some 17, op := Op.call { callee := Callee.value (Operand.func 12), args := #[Operand.tmp 16], argTypes := #[26] }, type := 26, pos := "l09_guard.go:77", after := #[{ on := 1, ground := Ground.data }], guard := none }) rfl (fun K hK => ?_) AllReadyH.nil
        · (go_simp; refine (HC1.out _ HB2.out).mono ?_; rintro e c3 ⟨Hl, kl, nl, sl, al, ml, cl, rfl, htl, hs3⟩; go_wp2_with fail)
          have HTl := Lib.hid htl
          have hz3 : c2.heap.size ≤ c3.heap.size := hs3.size
          clear htl
          have HS3 := Lib.hid hs3
          have HB3 := Lib.hid (bel_two HB2.out hs3)
          clear hs3
          refine hK.out _ _ (HD.out _ HB3.out) (fun hHeld => ?_)
          clear hK K
          (try simp only [Act.put, List.setIfInBounds_toArray, List.set_cons_zero, List.set_cons_succ])
          refine wpAnyH_ready (rs := [5]) (by kernel_rfl) (by simp) ?_
          refine AllReadyH.cons (o := { dst := some 20, op := Op.call { callee := Callee.value (Operand.func 12), args := #[Operand.tmp 19], argTypes := #[26] }, type := 26, pos := "l09_guard.go:77", after := #[{ on := 4, ground := Ground.data }, { on := 2, ground := Ground.chain }], guard := none }) rfl (fun K hK => ?_) AllReadyH.nil
          · (go_simp; refine (HC2.out _ HB3.out).mono ?_; rintro e c4 ⟨Hr, kr, nr, sr, ar, mr, cr, rfl, htr, hs4⟩; go_wp2_with fail)
            have HTr := Lib.hid htr
            have hz4 : c3.heap.size ≤ c4.heap.size := hs4.size
            clear htr
            have HS4 := Lib.hid hs4
            have HB4 := Lib.hid (bel_two HB3.out hs4)
            clear hs4
            refine hK.out _ _ (HD.out _ HB4.out) (fun hHeld => ?_)
            clear hK K
            (try simp only [Act.put, List.setIfInBounds_toArray, List.set_cons_zero, List.set_cons_succ])
            have qA : c4.heap[c1.heap.size]? = some (trow 0 0 ⟨#[]⟩ (.slice none 0 0)) := ((bel_two HS3.out HS4.out).block c1.heap.size (by omega)).trans HRA.out
            have qB : c4.heap[c0.heap.size]? = some (trow 0 0 ⟨#[]⟩ (.slice none 0 0)) := ((bel_two (bel_two HS2.out HS3.out) HS4.out).block c0.heap.size (by omega)).trans HRB.out
            obtain ⟨⟨za0, za1, za2, za3⟩, ya0, ya1, ya2, ya3⟩ := cells_of4 qA
            have hn : c1.heap.size ≠ c0.heap.size := by omega
            refine wpAnyH_ready (rs := [8]) (by kernel_rfl) (by simp) ?_
            refine AllReadyH.cons (o := { dst := none, op := Op.store 26 (Operand.tmp 3) (Operand.tmp 17), type := 0, pos := "l09_guard.go:77", after := #[{ on := 6, ground := Ground.data }, { on := 2, ground := Ground.data }, { on := 5, ground := Ground.chain }, { on := 0, ground := Ground.phase }, { on := 1, ground := Ground.phase }, { on := 2, ground := Ground.phase }, { on := 3, ground := Ground.textOnly Departure.lateStores }, { on := 4, ground := Ground.textOnly Departure.lateStores }, { on := 5, ground := Ground.textOnly Departure.lateStoresUnsure }, { on := 6, ground := Ground.phase }, { on := 7, ground := Ground.phase }], guard := none }) rfl (fun K hK => ?_) AllReadyH.nil
            go_simp
            obtain ⟨Y, hY⟩ : ∃ Y, Y = ((((c4.setCell ⟨c1.heap.size, 0, none⟩ (.int .i64 kl)).setCell ⟨c1.heap.size, 1, none⟩ (.int .i64 nl)).setCell ⟨c1.heap.size, 2, none⟩ (.string sl)).setCell ⟨c1.heap.size, 3, none⟩ (.slice al ml cl)) := ⟨_, rfl⟩
            rw [← hY]
            have HBY : Hid (Below W9.heap.size W9 Y) := Lib.hid (by rw [hY]; exact set4_bel HB4.out (by omega) _ _ _ _)
            have qY : Y.heap[c0.heap.size]? = some (trow 0 0 ⟨#[]⟩ (.slice none 0 0)) := by rw [hY]; exact (set4_off c4 (Ne.symm hn) _ _ _ _).trans qB
            have HYE := Lib.hid hY
            clear hY
            refine hK.out _ _ (HD.out _ HBY.out) (fun hHeld => ?_)
            clear hK K
            (try simp only [Act.put, List.setIfInBounds_toArray, List.set_cons_zero, List.set_cons_succ])
            clear za0 za1 za2 za3 ya0 ya1 ya2 ya3
            obtain ⟨⟨za0, za1, za2, za3⟩, ya0, ya1, ya2, ya3⟩ := cells_of4 qY
            refine wpAnyH_ready (rs := [9]) (by kernel_rfl) (by simp) ?_
            refine AllReadyH.cons (o := { dst := none, op := Op.store 26 (Operand.tmp 4) (Operand.tmp 20), type := 0, pos := "l09_guard.go:77", after := #[{ on := 7, ground := Ground.data }, { on := 5, ground := Ground.data }, { on := 8, ground := Ground.chain }, { on := 0, ground := Ground.phase }, { on := 1, ground := Ground.phase }, { on := 2, ground := Ground.phase }, { on := 3, ground := Ground.phase }, { on := 4, ground := Ground.phase }, { on := 5, ground := Ground.phase }, { on := 6, ground := Ground.phase }, { on := 7, ground := Ground.phase }, { on := 8, ground := Ground.phase }], guard := none }) rfl (fun K hK => ?_) AllReadyH.nil
            go_simp
            refine hK.out _ _ (HD.out _ (set4_bel HBY.out (by omega) _ _ _ _)) (fun hHeld => ?_)
            clear hK K
            (try simp only [Act.put, List.setIfInBounds_toArray, List.set_cons_zero, List.set_cons_succ])
            refine wpAnyH_done (by kernel_rfl) ?_ _
            go_wp2_with fail
            go_meet
            rw [HYE.out]
            exact Lib.hid (two_set HTl.out HTr.out HS4.out (Below.refl c4.heap.size c4) HB4.out qA qB ⟨hn, by omega, by omega, by omega, by omega, by omega, by omega, by omega, by omega⟩)
  obtain ⟨BA, BB, kl, nl, sl, al, ml, cl, Hl, kr, nr, sr, ar, mr, cr, Hr, rfl, rfl, hRA, hRB, hX, hY, hBC⟩ := hcut.out
  clear hcut
  have HBC := Lib.hid (bel_two HB9.out hBC)
  have HX := Lib.hid hX
  have HY := Lib.hid hY
  have HRA := Lib.hid hRA
  have HRB := Lib.hid hRB
  clear hRA hRB hX hY hBC HC1 HC2 HD HC0D
  by_cases k1 : kd = 1
  · subst k1
    obtain ⟨d0, _⟩ := cells_of9 (HGB.out _ HBC.out)
    obtain ⟨⟨a0, a1, a2, a3⟩, _⟩ := cells_of4 HRA.out
    obtain ⟨⟨b0, b1, b2, b3⟩, _⟩ := cells_of4 HRB.out
    go_wp2_with fail
    refine (equalTI_anyK _ _ (redT t1) (redT t2) _ _ _ _ _ HX.out HY.out HCR.out.1).mono ?_
    rintro e w9 ⟨b, ⟨rfl, hb9⟩, hq⟩
    have HQ : Hid (holdsG ⟨1, t1, t2⟩ = b) := Lib.hid (bool_eq ((holds_1 HV.out.1 HV.out.2 rfl).trans hq.symm))
    have HB9 := Lib.hid (HB0.out.trans ((bel_two HBC.out hb9).mono HB0.out.size))
    clear hq hb9 a0 a1 a2 a3 b0 b1 b2 b3 d0
    go_wp2
    go_ret
    exact ⟨by rw [HQ.out]; rfl, HB9.out⟩
  have k1b : (kd == 1) = false := by simpa using k1
  by_cases k2 : kd = 2
  · subst k2
    obtain ⟨d0, _⟩ := cells_of9 (HGB.out _ HBC.out)
    obtain ⟨⟨a0, a1, a2, a3⟩, _⟩ := cells_of4 HRA.out
    obtain ⟨⟨b0, b1, b2, b3⟩, _⟩ := cells_of4 HRB.out
    go_wp2_with fail
    refine (equalTI_anyK _ _ (redT t1) (redT t2) _ _ _ _ _ HX.out HY.out HCR.out.1).mono ?_
    rintro e w9 ⟨b, ⟨rfl, hb9⟩, hq⟩
    have HQ : Hid (holdsG ⟨2, t1, t2⟩ = !b) := Lib.hid (bool_eq ((holds_2 HV.out.1 HV.out.2 rfl).trans (by rw [← hq]; cases b <;> simp)))
    have HB9 := Lib.hid (HB0.out.trans ((bel_two HBC.out hb9).mono HB0.out.size))
    clear hq hb9 a0 a1 a2 a3 b0 b1 b2 b3 d0
    go_wp2
    go_ret
    exact ⟨by rw [HQ.out]; rfl, HB9.out⟩
  have k2b : (kd == 2) = false := by simpa using k2
  by_cases k3 : kd = 3
  · subst k3
    have HQ : Hid (holdsG ⟨3, t1, t2⟩ = (wordV kl nl sl ml && (wordV kr nr sr mr && decide (nl < nr)))) := Lib.hid (by
      rw [holds_3 HV.out.1 HV.out.2 rfl]
      obtain ⟨x1, x2, _⟩ := word_of HX.out
      obtain ⟨x3, x4, _⟩ := word_of HY.out
      simp only
      rw [x1, x2, x3, x4])
    obtain ⟨d0, _⟩ := cells_of9 (HGB.out _ HBC.out)
    obtain ⟨⟨a0, a1, a2, a3⟩, _⟩ := cells_of4 HRA.out
    clear k1 k2
    go_wp2_with fail
    refine (iWord_any kl nl sl al ml cl _ (word_of HX.out).2.2).mono ?_
    rintro e w9 ⟨rfl, hb9⟩
    have HB9 := Lib.hid (bel_two HBC.out hb9)
    have HRB9 := Lib.hid ((hb9.block _ (Array.getElem?_eq_some_iff.1 HRB.out).1).trans HRB.out)
    have HRA9 := Lib.hid ((hb9.block _ (Array.getElem?_eq_some_iff.1 HRA.out).1).trans HRA.out)
    clear hb9 a0 a1 a2 a3 d0
    cases hwl : wordV kl nl sl ml with
    | false =>
      have HN : Hid (holdsG ⟨3, t1, t2⟩ = false) := Lib.hid (by rw [HQ.out, hwl]; rfl)
      have HE := Lib.hid (HB0.out.trans (HB9.out.mono HB0.out.size))
      clear hwl
      go_wp2
      go_ret
      exact ⟨by rw [HN.out]; rfl, HE.out⟩
    | true =>
    obtain ⟨⟨b0, b1, b2, b3⟩, _⟩ := cells_of4 HRB9.out
    go_wp2_with fail
    refine (iWord_any kr nr sr ar mr cr _ (word_of HY.out).2.2).mono ?_
    rintro e w10 ⟨rfl, hb10⟩
    have HE := Lib.hid (HB0.out.trans ((bel_two HB9.out hb10).mono HB0.out.size))
    obtain ⟨⟨a0, a1, a2, a3⟩, _⟩ := cells_of4 ((hb10.block _ (Array.getElem?_eq_some_iff.1 HRA9.out).1).trans HRA9.out)
    obtain ⟨⟨b0', b1', b2', b3'⟩, _⟩ := cells_of4 ((hb10.block _ (Array.getElem?_eq_some_iff.1 HRB9.out).1).trans HRB9.out)
    clear hb10 b0 b1 b2 b3
    cases hwr : wordV kr nr sr mr with
    | false =>
      have HN : Hid (holdsG ⟨3, t1, t2⟩ = false) := Lib.hid (by rw [HQ.out, hwl, hwr]; rfl)
      clear hwl hwr
      go_wp2
      go_ret
      exact ⟨by rw [HN.out]; rfl, HE.out⟩
    | true =>
      have HN : Hid (holdsG ⟨3, t1, t2⟩ = decide (nl < nr)) := Lib.hid (by rw [HQ.out, hwl, hwr]; rfl)
      clear hwl hwr
      go_wp2
      go_ret
      exact ⟨by rw [HN.out]; rfl, HE.out⟩
  have k3b : (kd == 3) = false := by simpa using k3
  have HN : Hid (holdsG ⟨kd, t1, t2⟩ = false) := Lib.hid (holds_o k1 k2 k3)
  obtain ⟨d0, _⟩ := cells_of9 (HGB.out _ HBC.out)
  have HE := Lib.hid (HB0.out.trans (HBC.out.mono HB0.out.size))
  clear k1 k2 k3
  go_wp2
  go_ret
  exact ⟨by rw [HN.out]; rfl, HE.out⟩

end Go.Proofs.Ytidbokheeieifaa
