/-
  An argument of a law in a block of its own. No walk.
  What the contracts of functions that return a term share. No walk.
  The law on ParseTerm answers true at every string.
  What the library's table of powers of ten holds when the call begins.
  What the listed package-level variables hold when the call begins, and one start in which they do.
-/
import Derived.Test.YtooiiomfahomjaaDoorQ5
import Derived.Test.YtooiiomfahomjaaDoorQ6
import Derived.Test.YtooiiomfahomjaaDoorQ36
import Derived.Test.YtooiiomfahomjaaDoorQ23
import Derived.Test.YtooiiomfahomjaaDoorQ29
import Derived.Test.YtooiiomfahomjaaDoorQ31
import Derived.Test.YtooiiomfahomjaaDoorQ32
import Derived.Test.YtooiiomfahomjaaDoorQ14
import Derived.Test.YtooiiomfahomjaaDoorQ15
import Derived.ProofKit
import Derived.SizedLaws
import Derived.LaidMore
import Derived.OpenShut
import Derived.Stop.Joined
import Derived.Stop.LaidErr
import Derived.LaidHandle
import Derived.MakeChecks
namespace Go.Proofs.YtooiiomfahomjaaDoor
open Go.RowKit

theorem bel_two {w a b : World} (h : Below w.heap.size w a) (k : Below a.heap.size a b) : Below w.heap.size w b := h.trans (k.mono h.size)
/-- An argument in a block of its own. -/
abbrev boxedL (w : World) (k n : Int) (s : ByteArray) (u : Value) : World := w.alloc (.cells #[.int .i64 k, .int .i64 n, .string s, u] 40)
theorem boxedL_below (w : World) (k n : Int) (s : ByteArray) (u : Value) : Below w.heap.size w (boxedL w k n s u) := (Below.refl _ _).alloc (Nat.le_refl _) _
theorem boxedL_cells {w wr : World} {k n : Int} {s : ByteArray} {u : Value} (hb : Below (boxedL w k n s u).heap.size (boxedL w k n s u) wr) :
    wr.cell? ⟨w.heap.size, 0, none⟩ = some (.int .i64 k) ∧ wr.cell? ⟨w.heap.size, 1, none⟩ = some (.int .i64 n) ∧ wr.cell? ⟨w.heap.size, 2, none⟩ = some (.string s) ∧ wr.cell? ⟨w.heap.size, 3, none⟩ = some u := by
  have hlt : w.heap.size < (boxedL w k n s u).heap.size := by simp
  have c : ∀ j v, #[Value.int .i64 k, .int .i64 n, .string s, u][j]? = some v → wr.cell? ⟨w.heap.size, j, none⟩ = some v := by
    intro j v hv
    rw [hb.cell (by exact hlt), World.cell?_alloc_mark w _ 40 (0, 0) j]
    exact hv
  exact ⟨c 0 _ rfl, c 1 _ rfl, c 2 _ rfl, c 3 _ rfl⟩
end Go.Proofs.YtooiiomfahomjaaDoor
namespace Go.Proofs.YtooiiomfahomjaaDoor
open Go.RowKit

theorem keep_at {w w' : World} {B n size : Nat} {e : TypeId} {v : Value} {xs : List Value} (h : w.ownsRow B e size v n xs) (hk : ∀ k, v.ownBlock = some k → w'.heap[k]? = w.heap[k]?) : w'.ownsRow B e size v n xs := by
  refine ⟨h.1, ?_⟩
  rcases h.2 with hn | ⟨g, cap, cur, rfl, hg, hc, rest⟩
  · exact Or.inl hn
  · exact Or.inr ⟨g, cap, cur, rfl, hg, by rw [hk g rfl]; exact hc, rest⟩
theorem Out.own {w w' : World} {lo hi B n size : Nat} {e : TypeId} {v : Value} {xs : List Value} (h : Out lo hi w w') (ho : w.ownsRow B e size v n xs) (hk : ∀ k, v.ownBlock = some k → k < lo ∨ hi ≤ k) : w'.ownsRow B e size v n xs :=
  keep_at ho fun k hv => h.2.2.2.2 k (ho.lt k hv).2 (hk k hv)
theorem Out.under {w w' : World} {lo hi B : Nat} (h : Out lo hi w w') (hB : B ≤ lo) (hB2 : B ≤ w.heap.size) : Below B w w' :=
  ⟨h.1, h.2.1, h.2.2.1, h.2.2.2.1, fun k hk => h.2.2.2.2 k (by omega) (Or.inl (by omega))⟩
theorem TermAt.le {w : World} {lo h h' : Nat} {v : Value} {t : T} (k : TermAt w lo h v t) (hle : h ≤ h') : TermAt w lo h' v t := by
  obtain ⟨k, n, s, u, xs, e1, e2, hs, ha⟩ := k
  exact ⟨k, n, s, u, xs, e1, e2, hs, ha.le hle⟩
/-- An answer that is a term, in rows of the call's own, and a word. -/
def ResO (ok : Bool) (r : T) (w : World) (e : Ending) (w' : World) : Prop :=
  ∃ k n s a m c h xs, e = .returned (.tuple #[tv k n s (.slice a m c), .bool ok]) ∧ r = .node k n s xs ∧ s.size ≤ maxLen ∧ OwnR (fun _ => True) w' h w.heap.size w'.heap.size (.slice a m c) xs ∧ Below w.heap.size w w'
/-- The same, read alone. -/
def ResT (ok : Bool) (r : T) (w : World) (e : Ending) (w' : World) : Prop :=
  ∃ k n s a m c h, e = .returned (.tuple #[tv k n s (.slice a m c), .bool ok]) ∧ TermAt w' w.heap.size h (tv k n s (.slice a m c)) r ∧ Below w.heap.size w w'

/-- The blocks from lo to hi are as they were. -/
def Same (lo hi : Nat) (w w' : World) : Prop := ∀ b, lo ≤ b → b < hi → w'.heap[b]? = w.heap[b]?
theorem Same.below {lo hi : Nat} {w w1 w2 : World} (h : Same lo hi w w1) (hb : Below w1.heap.size w1 w2) (hh : hi ≤ w1.heap.size) : Same lo hi w w2 := fun b h1 h2 => (hb.block b (by omega)).trans (h b h1 h2)
theorem Same.of_below {lo hi : Nat} {w w1 : World} (hb : Below w.heap.size w w1) (hh : hi ≤ w.heap.size) : Same lo hi w w1 := fun b _ h2 => hb.block b (by omega)
theorem Same.out {lo hi l2 h2 : Nat} {w w1 w2 : World} (h : Same lo hi w w1) (ho : Out l2 h2 w1 w2) (hh : hi ≤ w1.heap.size) (hd : hi ≤ l2 ∨ h2 ≤ lo) : Same lo hi w w2 := fun b b1 b2 => (ho.2.2.2.2 b (by omega) (by omega)).trans (h b b1 b2)
theorem Same.grown {lo hi : Nat} {w w1 w2 : World} {row : Option Nat} (h : Same lo hi w w1) (hg : w1.grownBy w2 row) (hh : hi ≤ w1.heap.size) (hd : ∀ k, row = some k → k < lo ∨ hi ≤ k) : Same lo hi w w2 := fun b b1 b2 =>
  (hg.block b (by omega) (fun e => by have := hd b e.symm; omega)).trans (h b b1 b2)
/-- A term's box and rows in blocks that are as they were. -/
theorem same_term {w w' : World} {lo hi b h : Nat} {k n : Int} {s : ByteArray} {u : Value} {xs : List T} (hs : Same lo (b + 1) w w') (ho : OwnR (fun _ => True) w h lo hi u xs) (hhi : hi ≤ b + 1) (hr : w.heap[b]? = some (trow k n s u)) (hlo : lo ≤ b) (hsz : s.size ≤ maxLen) :
    w'.heap[b]? = some (trow k n s u) ∧ OwnR (fun _ => True) w' h lo hi u xs ∧ TermAt w' lo h (tv k n s u) (.node k n s xs) := by
  have ho' : OwnR (fun _ => True) w' h lo hi u xs := ho.keep fun c _ c1 c2 => ⟨hs c c1 (by omega), trivial⟩
  exact ⟨(hs b hlo (by omega)).trans hr, ho', ⟨k, n, s, u, xs, rfl, rfl, hsz, ho'.args (Nat.le_refl _)⟩⟩
end Go.Proofs.YtooiiomfahomjaaDoor
namespace Go.Proofs.YtooiiomfahomjaaDoor
open Go.RowKit

open Classical in
/-- The valid term whose representation the text is. -/
noncomputable def parT (L : List UInt8) : Option T := if h : L.length ≤ 600 ∧ ∃ t, ValidT t ∧ textL t = L then some h.2.choose else none
theorem parT_some {L : List UInt8} {t : T} (h : ValidT t ∧ textL t = L ∧ L.length ≤ 600) : parT L = some t := by
  have hx : L.length ≤ 600 ∧ ∃ t, ValidT t ∧ textL t = L := ⟨h.2.2, t, h.1, h.2.1⟩
  unfold parT
  rw [dif_pos hx]
  exact congrArg some (text_inj hx.2.choose_spec.1.2.2 h.1.2.2 (hx.2.choose_spec.2.trans h.2.1.symm))
theorem parT_none {L : List UInt8} (h : 600 < L.length ∨ ∀ t, ValidT t → textL t ≠ L) : parT L = none := by
  unfold parT
  rw [dif_neg]
  rintro ⟨h1, t, h2, h3⟩
  rcases h with h | h
  · omega
  · exact h t h2 h3
/-- What parsing gives, of the program and of its model. -/
def ResP (L : List UInt8) (w : World) (e : Ending) (w' : World) : Prop := ResO (parT L).isSome ((parT L).getD zT) w e w' ∧ wT ((parT L).getD zT) ≤ 4000
theorem zT_w : wT zT ≤ 4000 := by rw [wT_node]; simp [wS]
theorem resP_no {L : List UInt8} {w w' : World} (h : 600 < L.length ∨ ∀ t, ValidT t → textL t ≠ L) (hb : Below w.heap.size w w') : ResP L w (.returned (.tuple #[tv 0 0 ByteArray.empty (.slice none 0 0), .bool false])) w' := by
  unfold ResP
  rw [parT_none h]
  exact ⟨⟨0, 0, ByteArray.empty, none, 0, 0, 0, [], rfl, rfl, Nat.zero_le _, OwnR.nil _ _ _ _ _ _ _, hb⟩, zT_w⟩
theorem resP_yes {L : List UInt8} {w w' : World} {k n : Int} {nm : ByteArray} {a : Option Addr} {m c H : Nat} {xs : List T} (h : ValidT (.node k n nm xs) ∧ textL (.node k n nm xs) = L ∧ L.length ≤ 600) (hw : wT (.node k n nm xs) ≤ 4000) (hnm : nm.size ≤ maxLen) (ho : OwnR (fun _ => True) w' H (w.heap.size + 1) w'.heap.size (.slice a m c) xs) (hb : Below w.heap.size w w') :
    ResP L w (.returned (.tuple #[tv k n nm (.slice a m c), .bool true])) w' := by
  unfold ResP
  rw [parT_some h]
  exact ⟨⟨k, n, nm, a, m, c, H, xs, rfl, rfl, hnm, ho.wide (by omega) (Nat.le_refl _), hb⟩, hw⟩
theorem resP_s {L : List UInt8} {w w' : World} {e : Ending} (h : ParseSEnd L w e w') : ResP L w e w' := by
  obtain ⟨hb, ⟨k, n, nm, a, c, xs, H, rfl, hv, hw, hnm, ho⟩ | ⟨rfl, hno⟩⟩ := h
  · exact resP_yes hv hw hnm ho hb
  · exact resP_no hno hb
theorem resP_i {L : List UInt8} {w w' : World} {e : Ending} (h : ParseEnd L w e w') : ResP L w e w' := by
  obtain ⟨hb, ⟨t, k, n, nm, a, m, c, xs, H, rfl, rfl, hv, hw, hnm, ho⟩ | ⟨rfl, hno⟩⟩ := h
  · exact resP_yes hv hw hnm ho hb
  · exact resP_no hno hb

/-- laws.eqTerm, whatever the heights of the readings. -/
theorem eqT_twoP (v v' : Value) (t : T) (lo lo' h h' : Nat) (w : World) (ht : TermAt w lo h v t) (ht' : TermAt w lo' h' v' t) : Calls Tryd.prog 20 #[v, v'] w (TrueB w) :=
  eqT_any v v' t lo lo' (max h h') w (ht.le (Nat.le_max_left _ _)) (ht'.le (Nat.le_max_right _ _))

set_option maxRecDepth 100000 in
set_option maxHeartbeats 3200000 in
theorem exParseT_any (s : ByteArray) (w : World) (hs : s.size ≤ 281474976710656) (ht : TabsAt w) :
    Calls Tryd.prog 5 #[.string s] w (TrueEnd w) := by
  by_cases hbig : 1048576 < s.size
  · go_enter Tryd.func5, Tryd.ntmps5
    go_wp2
    go_ret
    exact ⟨rfl, Below.refl _ _⟩
  have hs20 : s.size ≤ 1048576 := by omega
  obtain ⟨ok, hok⟩ : ∃ ok, ok = (parT s.data.toList).isSome := ⟨_, rfl⟩
  obtain ⟨r0, hr0⟩ : ∃ r0, r0 = (parT s.data.toList).getD zT := ⟨_, rfl⟩
  have HSP : Hid (∀ w, Calls Tryd.prog 21 #[.string s] w (fun e w' => ResO ok r0 w e w' ∧ wT r0 ≤ 4000)) := Lib.hid (fun w => by
    rw [hok, hr0]; exact (sParse_any s w (by omega)).mono fun _ _ h => resP_s h)
  have HIM : Hid (∀ w, TabsAt w → Calls Tryd.prog 22 #[.string s] w (fun e w' => ResO ok r0 w e w' ∧ wT r0 ≤ 4000)) := Lib.hid (fun w h => by
    rw [hok, hr0]; exact (parseI_any s w (by omega) h).mono fun _ _ h => resP_i h)
  have hokk : (ok != ok) = false := by simp
  clear hok hr0 hbig
  have HT := Lib.hid ht; clear ht
  go_enter Tryd.func5, Tryd.ntmps5
  go_wp2_with fail
  refine (HSP.out w).mono ?_
  rintro e w4 ⟨⟨kw, nw, sw, aw, mw, cw, hw, xw, rfl, ew, hsw, how, hb4⟩, hrw⟩
  have HRW := Lib.hid hrw; clear hrw
  have HB4 := Lib.hid hb4
  have ht4 : TermAt w4 w.heap.size hw (tv kw nw sw (.slice aw mw cw)) r0 := ⟨_, _, _, _, xw, rfl, ew, hsw, how.args (Nat.le_refl _)⟩
  clear hb4 ew hsw how
  obtain ⟨W4, hW4⟩ : ∃ W4, W4 = boxed w4 kw nw sw (.slice aw mw cw) := ⟨_, rfl⟩
  have hb4 : Below w4.heap.size w4 W4 := by rw [hW4]; exact boxed_below _ _ _ _ _
  have HTW := Lib.hid (ht4.below hb4); clear ht4
  have HCW : Hid (∀ w', Below W4.heap.size W4 w' → w'.cell? ⟨w4.heap.size, 0, none⟩ = some (.int .i64 kw) ∧ w'.cell? ⟨w4.heap.size, 1, none⟩ = some (.int .i64 nw) ∧ w'.cell? ⟨w4.heap.size, 2, none⟩ = some (.string sw) ∧ w'.cell? ⟨w4.heap.size, 3, none⟩ = some (.slice aw mw cw)) :=
    Lib.hid (fun w' hb => by rw [hW4] at hb; exact boxed_cells hb)
  have HBW := Lib.hid (HB4.out.trans (hb4.mono HB4.out.size)); clear hb4 HSP
  have HTB := Lib.hid (HT.out.below HBW.out HT.out.low)
  unfold boxed at hW4
  go_wp2_with fail
  rw [← hW4]
  clear hW4
  refine (HIM.out W4 HTB.out).mono ?_
  rintro e w7 ⟨⟨kg, ng, sg, ag, mg, cg, hg, xg, rfl, eg, hsg, hog, hb7⟩, _⟩
  have HW7 := Lib.hid hb7
  have hs67 := hb7.size
  clear hb7
  have HCG : Hid (1 + 3 * cS xg ≤ 4194304) := Lib.hid (by have hw := HRW.out; rw [eg, wT_node] at hw; have := cS_le xg; omega)
  obtain ⟨W7, hW7⟩ : ∃ W7, W7 = boxed w7 kg ng sg (.slice ag mg cg) := ⟨_, rfl⟩
  have hb7b : Below w7.heap.size w7 W7 := by rw [hW7]; exact boxed_below _ _ _ _ _
  have hz7 : W7.heap.size = w7.heap.size + 1 := by rw [hW7]; simp
  have hrow7 : W7.heap[w7.heap.size]? = some (trow kg ng sg (.slice ag mg cg)) := by rw [hW7]; exact heap_new _ _ rfl
  have hog7 : OwnR (fun _ => True) W7 hg W4.heap.size w7.heap.size (.slice ag mg cg) xg := OwnR.keep (Q := fun _ => True) (w := w7) (fun b _ _ b2 => ⟨hb7b.block b b2, trivial⟩) hog
  have HGS : Hid (∀ w', Same W4.heap.size (w7.heap.size + 1) W7 w' → w'.heap[w7.heap.size]? = some (trow kg ng sg (.slice ag mg cg)) ∧ OwnR (fun _ => True) w' hg W4.heap.size w7.heap.size (.slice ag mg cg) xg ∧ TermAt w' W4.heap.size hg (tv kg ng sg (.slice ag mg cg)) r0) :=
    Lib.hid (fun w' hs => by rw [eg]; exact same_term hs hog7 (Nat.le_succ _) hrow7 hs67 hsg)
  have HW7b := Lib.hid (bel_two HW7.out hb7b)
  have HSM7 : Hid (Same W4.heap.size (w7.heap.size + 1) W7 W7) := Lib.hid (fun _ _ _ => rfl)
  clear hog hb7b hog7 hrow7 HW7
  -- the answers agree
  obtain ⟨q0, q1, q2, q3⟩ := HCW.out _ HW7b.out
  unfold boxed at hW7
  rw [hW7] at q0 q1 q2 q3
  go_wp2_with fail
  rw [← hW7] at q0 q1 q2 q3 ⊢
  clear hW7
  refine (eqT_twoP _ _ r0 _ _ _ _ _ (HGS.out _ HSM7.out).2.2 (HTW.out.below HW7b.out)).mono ?_
  rintro e w8 ⟨rfl, hb8⟩
  have HW8 := Lib.hid (bel_two HW7b.out hb8)
  have HSM8 := Lib.hid (HSM7.out.below hb8 (by omega))
  have hs78 := hb8.size
  clear hb8 q0 q1 q2 q3 HW7b HSM7
  -- the answer is marked
  obtain ⟨g0, g1, g2, g3⟩ := (cells_of4 (HGS.out _ HSM8.out).1).1
  go_wp2_with fail
  refine (markPT_any kg ng sg _ xg hg W4.heap.size w7.heap.size 1 _ (HGS.out _ HSM8.out).2.1.own (by omega) (by omega) (by have := HCG.out; omega)).mono ?_
  rintro e w16 ⟨⟨rfl, ho16⟩, ha16⟩
  have HW16 := Lib.hid (HW8.out.trans (ho16.under (B := W4.heap.size) (Nat.le_refl _) HW8.out.size))
  have hrow16 : w16.heap[w7.heap.size]? = some (trow kg ng sg (.slice ag mg cg)) := (ho16.2.2.2.2 _ (by omega) (Or.inr (Nat.le_refl _))).trans (HGS.out _ HSM8.out).1
  have hs1516 := ho16.2.2.2.1
  have HG16 : Hid (∀ w', Below w16.heap.size w16 w' → ArgsAt w' 0 hg (.slice ag mg cg) (mkS 1 xg) ∧ w'.heap[w7.heap.size]? = some (trow kg ng sg (.slice ag mg cg))) := Lib.hid (fun w' hb => ⟨(ha16.args (fun _ _ => Nat.zero_le _)).below hb, (hb.block _ (by omega)).trans hrow16⟩)
  clear ho16 ha16 hrow16 g0 g1 g2 g3 HSM8 HW8 HGS
  obtain ⟨g0, g1, g2, g3⟩ := (cells_of4 (HG16.out _ (Below.refl _ _)).2).1
  go_wp2_with fail
  refine (heldT_any kg ng sg _ xg 0 hg 1 _ (HG16.out _ (Below.refl _ _)).1 (by omega) (by have := HCG.out; omega)).mono ?_
  rintro e w17 ⟨rfl, hb17⟩
  have HG17 := Lib.hid hb17
  have HW17 := Lib.hid (bel_two HW16.out hb17)
  clear hb17 g0 g1 g2 g3 HW16
  have hpos2 : ¬ ((1 + 3 * cS xg : Nat) : Int) < 0 := by omega
  have heq2 : (((1 + 3 * cS xg : Nat) : Int) != ((1 + 3 * cS xg : Nat) : Int)) = false := by simp
  -- another call
  have HTB2 := Lib.hid (HTB.out.below HW17.out HTB.out.low)
  go_wp2_with fail
  refine (HIM.out w17 HTB2.out).mono ?_
  rintro e w20 ⟨⟨kh, nh, sh, ah, mh, ch, hh, xh, rfl, eh, hsh, hoh, hb20⟩, _⟩
  have hth : TermAt w20 w17.heap.size hh (tv kh nh sh (.slice ah mh ch)) r0 := ⟨_, _, _, _, xh, rfl, eh, hsh, hoh.args (Nat.le_refl _)⟩
  obtain ⟨W20, hW20⟩ : ∃ W20, W20 = boxed w20 kh nh sh (.slice ah mh ch) := ⟨_, rfl⟩
  have hb20b : Below w20.heap.size w20 W20 := by rw [hW20]; exact boxed_below _ _ _ _ _
  have HTH := Lib.hid (hth.below hb20b)
  have HG20 := Lib.hid (bel_two (bel_two HG17.out hb20) hb20b)
  have HW20 := Lib.hid (bel_two (bel_two HW17.out hb20) hb20b)
  clear hth hoh hsh eh hb20 hb20b HG17 HW17
  obtain ⟨q0, q1, q2, q3⟩ := HCW.out _ HW20.out
  unfold boxed at hW20
  rw [hW20] at q0 q1 q2 q3
  go_wp2_with fail
  rw [← hW20] at q0 q1 q2 q3 ⊢
  clear hW20
  refine (eqT_twoP _ _ r0 _ _ _ _ _ HTH.out (HTW.out.below HW20.out)).mono ?_
  rintro e w21 ⟨rfl, hb21⟩
  have HG21 := Lib.hid (bel_two HG20.out hb21)
  have HW21 := Lib.hid (bel_two HW20.out hb21)
  clear hb21 q0 q1 q2 q3 HG20 HW20
  obtain ⟨g0, g1, g2, g3⟩ := (cells_of4 (HG16.out _ HG21.out).2).1
  go_wp2_with fail
  refine (heldT_any kg ng sg _ xg 0 hg 1 _ (HG16.out _ HG21.out).1 (by omega) (by have := HCG.out; omega)).mono ?_
  rintro e w22 ⟨rfl, hb22⟩
  have HEND := Lib.hid (HBW.out.trans ((bel_two HW21.out hb22).mono HBW.out.size))
  clear hb22 g0 g1 g2 g3
  go_wp2
  go_ret
  exact ⟨rfl, HEND.out⟩
end Go.Proofs.YtooiiomfahomjaaDoor
namespace Go.Proofs.YtooiiomfahomjaaDoor
open Go.ChangeShapes Go.WideShapes Go.RowKit

theorem own : ownKnob Tryd.prog.godebug = none := by kernel_rfl
theorem tPow : (Tryd.prog.globals[0]?).map (·.type) = some 136 := by kernel_rfl
theorem cU64 : Tryd.prog.cellsOf 125 = 1 := by kernel_rfl
theorem cPow : Tryd.prog.cellsOf 136 = 20 := by kernel_rfl
theorem powData : (Rows.laid_internal_strconv_uint64pow10 : DataW Unit) = Lib.tabData .u64 Lib.pow10Tab := by kernel_rfl

/-- From the three tables' list. -/
theorem pow_of_laid {W : World} {r : List (String × DataW Unit)} (h : laidMet Tryd.prog ((powName, Rows.laid_internal_strconv_uint64pow10) :: r) W) : PowTab W := by
  rw [powData] at h
  exact Lib.tabIs_of_head gPow tPow Tryd.underlying136 Tryd.underlying125 cU64 cPow h

theorem PowTab.low {W : World} (h : PowTab W) : 0 < W.heap.size := by
  have h1 := World.var?_cell gPow h 0
  have h2 : ((Lib.pow10Tab.map fun z => Value.int .u64 z).toArray)[0]? = some (.int .u64 1) := by simp [Lib.pow10Tab]
  rw [h2] at h1
  exact World.block_lt_of_cell? W _ h1

end Go.Proofs.YtooiiomfahomjaaDoor
namespace Go.Proofs.YtooiiomfahomjaaDoor
open Go.ChangeShapes Go.WideShapes Go.RowKit

theorem var_low {P : Program} {w : World} {n : String} {g : Nat} {cs : Array Value} (hg : P.globalNamed n = some g) (h : w.var? P n = some cs) : g < w.heap.size := by
  unfold World.var? at h
  rw [hg] at h
  simp only [Option.bind_some] at h
  rcases Nat.lt_or_ge g w.heap.size with hl | hl
  · exact hl
  · rw [Array.getElem?_eq_none hl] at h
    simp at h

def bruName : String := (Rows.fnExactParseTermRow.named.getD 4 "x")
theorem gBru : Tryd.prog.globalNamed bruName = some 3 := by kernel_rfl
theorem low_of_laid {W : World} {d : DataW Unit} {r : List (String × DataW Unit)} (h : laidMet Tryd.prog ((bruName, d) :: r) W) : 3 < W.heap.size := by
  obtain ⟨ps, ⟨g', t', cs, fuel, p, q, hg', ht', hvar, hd, _, _⟩, _⟩ := h
  exact var_low gBru hvar

theorem tSyn : (Tryd.prog.globals[4]?).map (·.type) = some 100 := by kernel_rfl
theorem tRng : (Tryd.prog.globals[5]?).map (·.type) = some 100 := by kernel_rfl
theorem cErr : Tryd.prog.cellsOf 160 = 1 := by kernel_rfl
theorem cStr : Tryd.prog.cellsOf 9 = 1 := by kernel_rfl
theorem star : "*" ++ "errors.errorString" = "*errors.errorString" := by decide
theorem rowErr (u : TypeId) (h : Tryd.prog.typeName? 3 u = some "*errors.errorString") : u = 158 :=
  typeName_ptr_named (nm := "errors.errorString") (by rw [star]; kernel_rfl) (by kernel_rfl) (by decide) u (by rw [star]; exact h)
theorem errs_of_laid {W : World} {r : List (String × DataW Unit)} (h : laidMet Tryd.prog ((rngName, Rows.laid_strconv_ErrRange) :: (synName, Rows.laid_strconv_ErrSyntax) :: r) W) : ErrVars W := by
  obtain ⟨a0, s0, hv0, -, -, -⟩ := laid_sentinel h gRng tRng Tryd.underlying100 rowErr Tryd.underlying158 Tryd.underlying160 rfl rfl Tryd.underlying9 cErr cStr
  obtain ⟨a1, s1, hv1, -, -, -⟩ := laid_sentinel h.tail gSyn tSyn Tryd.underlying100 rowErr Tryd.underlying158 Tryd.underlying160 rfl rfl Tryd.underlying9 cErr cStr
  exact ⟨⟨_, _, hv1⟩, _, _, hv0⟩

/-- A string that came in takes less than 2^48 bytes. -/
theorem string_short {H : Type} {P : Program} {ts : List TypeId} {ds : List (DataW H)} {s : ByteArray} {j t : Nat}
    (hsz : (DataW.weightsEach P ts ds).all (· ≤ reachBytes) = true) (ht : ts[j]? = some t) (hd : ds[j]? = some (.lit (.string s.data.toList))) : s.size ≤ 281474976710656 := by
  have h1 := sized_string hsz (j := j) (t := t) ht hd
  have h2 := reachBytes_lt
  have e1 : s.size = s.data.size := rfl
  have e2 : s.data.toList.length = s.data.size := Array.length_toList
  have e3 : (2 : Nat) ^ 47 = 140737488355328 := by decide
  omega
end Go.Proofs.YtooiiomfahomjaaDoor
