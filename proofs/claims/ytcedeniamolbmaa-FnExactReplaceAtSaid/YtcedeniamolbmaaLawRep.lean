/-
  The law on ReplaceAt answers true at every two terms and list of integers.
-/
import Derived.Test.YtcedeniamolbmaaRepI
import Derived.Deep.RegionHeld3
import Derived.Deep.DeepCutAuto
namespace Go.Proofs.Ytcedeniamolbmaa
open Go.RowKit

/-- Two arguments in blocks of their own. -/
abbrev boxedL2 (w : World) (k n : Int) (s : ByteArray) (u : Value) (k' n' : Int) (s' : ByteArray) (u' : Value) : World := boxedL (boxedL w k n s u) k' n' s' u'
theorem boxedL2_below (w : World) (k n : Int) (s : ByteArray) (u : Value) (k' n' : Int) (s' : ByteArray) (u' : Value) : Below w.heap.size w (boxedL2 w k n s u k' n' s' u') :=
  (boxedL_below w k n s u).trans ((boxedL_below (boxedL w k n s u) k' n' s' u').mono (by simp))
theorem boxedL2_cells {w wr : World} {k n : Int} {s : ByteArray} {u : Value} {k' n' : Int} {s' : ByteArray} {u' : Value} (hb : Below (boxedL2 w k n s u k' n' s' u').heap.size (boxedL2 w k n s u k' n' s' u') wr) :
    wr.cell? ⟨w.heap.size, 0, none⟩ = some (.int .i64 k) ∧ wr.cell? ⟨w.heap.size, 1, none⟩ = some (.int .i64 n) ∧ wr.cell? ⟨w.heap.size, 2, none⟩ = some (.string s) ∧ wr.cell? ⟨w.heap.size, 3, none⟩ = some u ∧
    wr.cell? ⟨w.heap.size + 1, 0, none⟩ = some (.int .i64 k') ∧ wr.cell? ⟨w.heap.size + 1, 1, none⟩ = some (.int .i64 n') ∧ wr.cell? ⟨w.heap.size + 1, 2, none⟩ = some (.string s') ∧ wr.cell? ⟨w.heap.size + 1, 3, none⟩ = some u' := by
  have h1 : Below (boxedL w k n s u).heap.size (boxedL w k n s u) wr := (boxedL_below _ _ _ _ _).trans (hb.mono (by simp))
  have e : (boxedL w k n s u).heap.size = w.heap.size + 1 := by simp
  obtain ⟨c0, c1, c2, c3⟩ := boxedL_cells h1
  obtain ⟨d0, d1, d2, d3⟩ := boxedL_cells hb
  rw [e] at d0 d1 d2 d3
  exact ⟨c0, c1, c2, c3, d0, d1, d2, d3⟩

theorem bel_al {w w' : World} (h : Below w.heap.size w w') (o : Obj) : Below w.heap.size w (w'.alloc o) := h.alloc h.size o
theorem al_bel (w : World) (o : Obj) : Below w.heap.size w (w.alloc o) := (Below.refl _ _).alloc (Nat.le_refl _) o
/-- A new box of a term, and what it holds later. -/
theorem zb_new {w w' : World} (hb : Below (w.alloc (.cells #[.int .i64 0, .int .i64 0, .string ⟨#[]⟩, .slice none 0 0] 26)).heap.size (w.alloc (.cells #[.int .i64 0, .int .i64 0, .string ⟨#[]⟩, .slice none 0 0] 26)) w') : w'.heap[w.heap.size]? = some (.cells #[.int .i64 0, .int .i64 0, .string ⟨#[]⟩, .slice none 0 0] 26 (0, 0)) :=
  (hb.block _ (by simp)).trans (heap_new _ _ rfl)
theorem zb_drew {w w' : World} (hb : Below (w.drew.alloc (.cells #[.int .i64 0, .int .i64 0, .string ⟨#[]⟩, .slice none 0 0] 26)).heap.size (w.drew.alloc (.cells #[.int .i64 0, .int .i64 0, .string ⟨#[]⟩, .slice none 0 0] 26)) w') : w'.heap[w.heap.size]? = some (.cells #[.int .i64 0, .int .i64 0, .string ⟨#[]⟩, .slice none 0 0] 26 (0, 0)) := by
  have e := zb_new (w := w.drew) (w' := w') hb
  exact e
theorem zb_keep {w w' : World} {b : Nat} {o : Obj} (h : w.heap[b]? = some o) (hb : Below w.heap.size w w') : w'.heap[b]? = some o := (hb.block b (Array.getElem?_eq_some_iff.1 h).1).trans h
/-- The answer of a call in a box. -/
def BoxAns (base : World) (ok : Bool) (r0 : T) (x o : Value) (w' : World) : Prop :=
  ∃ b k n s a m c h, x = .pointer (some ⟨b, 0, none⟩) ∧ o = .bool ok ∧ base.heap.size ≤ b ∧ w'.heap[b]? = some (trow k n s (.slice a m c)) ∧ TermAt w' 0 h (tv k n s (.slice a m c)) r0 ∧ Below base.heap.size base w'
theorem boxAns_of {base w4 w' : World} {ok : Bool} {r0 : T} {b h lo : Nat} {k n : Int} {s : ByteArray} {a : Option Addr} {m c : Nat} (hB : Below base.heap.size base w4) (ht : TermAt w4 lo h (tv k n s (.slice a m c)) r0) (hlo : b < lo ∨ w4.heap.size ≤ b) (hb : base.heap.size ≤ b) (hk : ∀ d, d < w4.heap.size → d ≠ b → w'.heap[d]? = w4.heap[d]?) (hs : w4.heap.size ≤ w'.heap.size)
    (hos : w'.os = w4.os) (htp : w'.tape = w4.tape) (hout : w'.output = w4.output) (hr : w'.heap[b]? = some (trow k n s (.slice a m c))) : BoxAns base ok r0 (.pointer (some ⟨b, 0, none⟩)) (.bool ok) w' := by
  refine ⟨b, k, n, s, a, m, c, h, rfl, rfl, hb, hr, ?_, ?_⟩
  · obtain ⟨k2, n2, s2, u2, xs, e1, e2, hs2, ha⟩ := ht
    refine ⟨k2, n2, s2, u2, xs, e1, e2, hs2, (ha.keep fun ad v hlo2 hv => ?_).low (Nat.zero_le _)⟩
    have hlt := World.block_lt_of_cell? w4 _ hv
    rw [World.cell?_of_block (hk ad.block hlt (by omega))]; exact hv
  · exact ⟨hos.trans hB.os, htp.trans hB.tape, hout.trans hB.output, by have := hB.size; omega, fun d hd => (hk d (by have := hB.size; omega) (by omega)).trans (hB.block d hd)⟩

theorem boxAns_new {base w4 : World} {ok : Bool} {r0 : T} {h lo : Nat} {k n : Int} {s : ByteArray} {a : Option Addr} {m c : Nat} (hB : Below base.heap.size base w4) (ht : TermAt w4 lo h (tv k n s (.slice a m c)) r0) :
    BoxAns base ok r0 (.pointer (some ⟨w4.heap.size, 0, none⟩)) (.bool ok) (w4.alloc (.cells #[.int .i64 k, .int .i64 n, .string s, .slice a m c] 26)) :=
  boxAns_of hB ht (Or.inr (Nat.le_refl _)) hB.size (fun d hd _ => Below.heap_alloc _ _ _ hd) (by simp) rfl rfl rfl (heap_new _ _ rfl)
theorem boxAns_set {base w4 : World} {ok : Bool} {r0 : T} {b h lo : Nat} {x0 x1 x2 x3 : Value} {k n : Int} {s : ByteArray} {a : Option Addr} {m c : Nat} (hB : Below base.heap.size base w4) (ht : TermAt w4 lo h (tv k n s (.slice a m c)) r0) (hZ : w4.heap[b]? = some (.cells #[x0, x1, x2, x3] 26 (0, 0))) (hlo : b < lo) (hb : base.heap.size ≤ b) :
    BoxAns base ok r0 (.pointer (some ⟨b, 0, none⟩)) (.bool ok) ((((w4.setCell ⟨b, 0, none⟩ (.int .i64 k)).setCell ⟨b, 1, none⟩ (.int .i64 n)).setCell ⟨b, 2, none⟩ (.string s)).setCell ⟨b, 3, none⟩ (.slice a m c)) := by
  have e : ∀ (Z : World) (q : Nat) (v : Value) (d : Nat), d ≠ b → (Z.setCell ⟨b, q, none⟩ v).heap[d]? = Z.heap[d]? := fun Z q v d hd => Below.heap_setCell _ _ _ _ (by simp; omega)
  exact boxAns_of hB ht (Or.inl hlo) hb (fun d _ hd => by rw [e _ _ _ _ hd, e _ _ _ _ hd, e _ _ _ _ hd, e _ _ _ _ hd]) (by simp [World.setCell]) rfl rfl rfl (set4_row hZ _ _ _ _)

set_option maxRecDepth 100000 in
set_option maxHeartbeats 6400000 in
theorem exRep_any (v p uv : Value) (t u : T) (ps : List Int) (h h' : Nat) (w : World) (ht : TermAt w 0 h v t) (hpl : ps.length ≤ maxLen) (hp : IntsAt w p ps) (hu : TermAt w 0 h' uv u) :
    Calls Try.prog 5 #[v, p, uv] w (TrueI w) := by
  obtain ⟨k0, n0, s0, u0, rfl⟩ := ht.form
  obtain ⟨k1, n1, s1, u1, rfl⟩ := hu.form
  obtain ⟨pa, pc, rfl⟩ := hp.slice
  obtain ⟨n, hn⟩ : ∃ n, n = ps.length := ⟨_, rfl⟩
  rw [← hn] at hp ⊢
  have hn2 : n ≤ 9223372036854775807 := by rw [hn]; unfold maxLen at hpl; omega
  clear hpl
  have HN := Lib.hid hn; clear hn
  obtain ⟨WB, hWB⟩ : ∃ WB, WB = boxedL2 w k0 n0 s0 u0 k1 n1 s1 u1 := ⟨_, rfl⟩
  have hb0 : Below w.heap.size w WB := by rw [hWB]; exact boxedL2_below _ _ _ _ _ _ _ _ _
  have HB0 := Lib.hid hb0
  have HQ : Hid (∀ w', Below WB.heap.size WB w' → TermAt w' 0 h (tv k0 n0 s0 u0) t) := Lib.hid (fun w' hb => (ht.below hb0).below hb)
  have HQU : Hid (∀ w', Below WB.heap.size WB w' → TermAt w' 0 h' (tv k1 n1 s1 u1) u) := Lib.hid (fun w' hb => (hu.below hb0).below hb)
  have HQP : Hid (∀ w', Below WB.heap.size WB w' → IntsAt w' (.slice pa n pc) ps) := Lib.hid (fun w' hb => (hp.below hb0).below hb)
  have HCB : Hid (∀ w', Below WB.heap.size WB w' → w'.cell? ⟨w.heap.size, 0, none⟩ = some (.int .i64 k0) ∧ w'.cell? ⟨w.heap.size, 1, none⟩ = some (.int .i64 n0) ∧ w'.cell? ⟨w.heap.size, 2, none⟩ = some (.string s0) ∧ w'.cell? ⟨w.heap.size, 3, none⟩ = some u0 ∧ w'.cell? ⟨w.heap.size + 1, 0, none⟩ = some (.int .i64 k1) ∧ w'.cell? ⟨w.heap.size + 1, 1, none⟩ = some (.int .i64 n1) ∧ w'.cell? ⟨w.heap.size + 1, 2, none⟩ = some (.string s1) ∧ w'.cell? ⟨w.heap.size + 1, 3, none⟩ = some u1) := Lib.hid (fun w' hb => by rw [hWB] at hb; exact boxedL2_cells hb)
  unfold boxedL2 boxedL at hWB
  clear ht hp hu hb0
  by_cases hs : 1048576 < n
  · go_enter Try.func5, Try.ntmps5
    go_wp2
    rw [← hWB]
    go_ret
    exact ⟨rfl, HB0.out⟩
  have hnn : n ≤ 1048576 := by omega
  have HNL : Hid (ps.length ≤ 1048576) := Lib.hid (by have := HN.out; omega)
  go_enter Try.func5, Try.ntmps5
  go_wp2_with fail
  rw [← hWB]
  clear hWB
  refine (szT_any _ t 0 h 1048576 _ (HQ.out _ (Below.refl _ _)) (by omega) (by omega)).mono ?_
  rintro e w1 ⟨r, rfl, hb1, hr1, hr2⟩
  have HB1 := Lib.hid hb1; clear hb1
  have HR := Lib.hid hr2; clear hr2
  by_cases hr : r < 0
  · go_wp2
    go_ret
    exact ⟨rfl, HB0.out.trans (HB1.out.mono HB0.out.size)⟩
  have HW : Hid (wT t ≤ 1048576) := Lib.hid (by have := HR.out (by omega); omega)
  obtain ⟨c0, c1, c2, c3, d0, d1, d2, d3⟩ := HCB.out _ HB1.out
  go_wp2_with fail
  refine (szT_any _ u 0 h' r _ (HQU.out _ HB1.out) (by omega) (by have := HR.out (by omega); omega)).mono ?_
  rintro e w2 ⟨r2, rfl, hb2, hr21, hr22⟩
  have HB2 := Lib.hid (bel_two HB1.out hb2)
  have HR2 := Lib.hid hr22; clear hr22 hb2 c0 c1 c2 c3 d0 d1 d2 d3
  by_cases hrr : r2 < 0
  · go_wp2
    go_ret
    exact ⟨rfl, HB0.out.trans (HB2.out.mono HB0.out.size)⟩
  have HWU : Hid (wT u ≤ 1048576) := Lib.hid (by have := HR.out (by omega); have := HR2.out (by omega); omega)
  obtain ⟨ok, hok⟩ : ∃ ok, ok = (subT ps t).isSome := ⟨_, rfl⟩
  obtain ⟨r0, hr0⟩ : ∃ r0, r0 = repT ps t u := ⟨_, rfl⟩
  have HSP : Hid (∀ (v p x : Value) (lo lo2 h h2 : Nat) (w : World), TermAt w lo h v t → IntsAt w p ps → TermAt w lo2 h2 x u → Calls Try.prog 11 #[v, p, x] w (ResT ok r0 w)) := Lib.hid (fun v p x lo lo2 h h2 w h1 h3 h4 => by
    rw [hok, hr0]; exact sRep_any v p x t u ps lo lo2 h h2 w h1 h3 h4 HW.out HWU.out (by have := HNL.out; omega))
  have HIM : Hid (∀ (v p x : Value) (lo lo2 h h2 : Nat) (w : World), TermAt w lo h v t → IntsAt w p ps → TermAt w lo2 h2 x u → Calls Try.prog 10 #[v, p, x] w (ResO ok r0 w)) := Lib.hid (fun v p x lo lo2 h h2 w h1 h3 h4 => by
    rw [hok, hr0]; exact iRep_any v p x t u ps lo lo2 h h2 w h1 h3 h4 HW.out HWU.out (by have := HNL.out; omega))
  have HIT : Hid (∀ (v p x : Value) (lo lo2 h h2 : Nat) (w : World), TermAt w lo h v t → IntsAt w p ps → TermAt w lo2 h2 x u → Calls Try.prog 10 #[v, p, x] w (ResT ok r0 w)) := Lib.hid (fun v p x lo lo2 h h2 w h1 h3 h4 => (HIM.out v p x lo lo2 h h2 w h1 h3 h4).mono fun e w' q => by
    obtain ⟨k, n, s, a, m, c, hh, xs, e1, e2, hs, ho, hb⟩ := q
    exact ⟨k, n, s, a, m, c, hh, e1, ⟨_, _, _, _, xs, rfl, e2, hs, ho.args (Nat.le_refl _)⟩, hb⟩)
  have HRW : Hid (wT r0 ≤ 2097152) := Lib.hid (by
    rw [hr0]
    unfold repT
    cases e : subT ps t with
    | none => simp; have := HW.out; omega
    | some x => simp; have := putT_w ps t u x e; have := HW.out; have := HWU.out; omega)
  have hokk : (ok != ok) = false := by simp
  clear hok hr0
  have HKS : Hid (∀ w', Below w2.heap.size w2 w' → (w'.cell? ⟨w.heap.size, 0, none⟩ = some (.int .i64 k0) ∧ w'.cell? ⟨w.heap.size, 1, none⟩ = some (.int .i64 n0) ∧ w'.cell? ⟨w.heap.size, 2, none⟩ = some (.string s0) ∧ w'.cell? ⟨w.heap.size, 3, none⟩ = some u0 ∧ w'.cell? ⟨w.heap.size + 1, 0, none⟩ = some (.int .i64 k1) ∧ w'.cell? ⟨w.heap.size + 1, 1, none⟩ = some (.int .i64 n1) ∧ w'.cell? ⟨w.heap.size + 1, 2, none⟩ = some (.string s1) ∧ w'.cell? ⟨w.heap.size + 1, 3, none⟩ = some u1 ∧ Below w2.heap.size w2 w')) := Lib.hid (fun w' hb => by
    obtain ⟨c0, c1, c2, c3, d0, d1, d2, d3⟩ := HCB.out w' (bel_two HB2.out hb)
    exact ⟨c0, c1, c2, c3, d0, d1, d2, d3, hb⟩)
  have HTAS : Hid (∀ w', Below w2.heap.size w2 w' → TermAt w' 0 h (tv k0 n0 s0 u0) t) := Lib.hid (fun w' hb => HQ.out _ (bel_two HB2.out hb))
  have HUAS : Hid (∀ w', Below w2.heap.size w2 w' → TermAt w' 0 h' (tv k1 n1 s1 u1) u) := Lib.hid (fun w' hb => HQU.out _ (bel_two HB2.out hb))
  have HPAS : Hid (∀ w', Below w2.heap.size w2 w' → IntsAt w' (.slice pa n pc) ps) := Lib.hid (fun w' hb => HQP.out _ (bel_two HB2.out hb))
  obtain ⟨c0, c1, c2, c3, d0, d1, d2, d3, hb0⟩ := HKS.out _ (Below.refl _ _)
  go_wp2
  go_cut [8, 9] (fun x o wc => Hid (BoxAns w2 ok r0 x o wc))
  case first =>
    have hb00 : Below w2.heap.size w2 w2.drew := Below.drew (Below.refl _ _)
    go_region_held3 (fun w' => w'.cell? ⟨w.heap.size, 0, none⟩ = some (.int .i64 k0) ∧ w'.cell? ⟨w.heap.size, 1, none⟩ = some (.int .i64 n0) ∧ w'.cell? ⟨w.heap.size, 2, none⟩ = some (.string s0) ∧ w'.cell? ⟨w.heap.size, 3, none⟩ = some u0 ∧ w'.cell? ⟨w.heap.size + 1, 0, none⟩ = some (.int .i64 k1) ∧ w'.cell? ⟨w.heap.size + 1, 1, none⟩ = some (.int .i64 n1) ∧ w'.cell? ⟨w.heap.size + 1, 2, none⟩ = some (.string s1) ∧ w'.cell? ⟨w.heap.size + 1, 3, none⟩ = some u1 ∧ Below w2.heap.size w2 w')
      (first | exact HKS.out _ (by assumption) | exact HKS.out _ (bel_al (by assumption) _) | exact HKS.out _ (Below.drew (by assumption)) | exact HKS.out _ (bel_al (Below.drew (by assumption)) _) | exact HKS.out _ ((((hB4.setCell (by first | exact hBu.size | exact hBp.size | exact hBa.size | exact Nat.le_refl _) _).setCell (by first | exact hBu.size | exact hBp.size | exact hBa.size | exact Nat.le_refl _) _).setCell (by first | exact hBu.size | exact hBp.size | exact hBa.size | exact Nat.le_refl _) _).setCell (by first | exact hBu.size | exact hBp.size | exact hBa.size | exact Nat.le_refl _) _) | exact HKS.out _ (bel_al hB4 _) | exact HKS.out _ (((((bel_al hB4 _).setCell hB4.size _).setCell hB4.size _).setCell hB4.size _).setCell hB4.size _) | go_keep)
      (first
        | (go_at_call_of 16 (Value.agg #[Value.int IntKind.i64 k0, Value.int IntKind.i64 n0, Value.string s0, u0]); refine (toT_any _ t 0 h _ (HTAS.out _ (by first | exact hb00 | exact bel_al hb00 _)) HW.out).mono ?_; rintro e wa ⟨va, rfl, hta, hba⟩; have hBa : Below w2.heap.size w2 wa := (by first | exact bel_two hb00 hba | exact bel_two (bel_al hb00 _) hba); (first | (have hZ := zb_drew hba) | skip))
        | (go_at_call 17; refine (toInts_any _ ps _ HNL.out (HPAS.out _ (by first | exact hBa | exact bel_al hBa _))).mono ?_; rintro e wp ⟨vp, rfl, op, hbp⟩; have hpp := IntsAt.of_owns op; have hBp : Below w2.heap.size w2 wp := (by first | exact bel_two hBa hbp | exact bel_two (bel_al hBa _) hbp); have htp : TermAt wp _ h va t := (by first | exact hta.below hbp | exact (hta.below (al_bel wa _)).below hbp); (first | (have hZ2 := zb_keep hZ hbp) | (have hZ2 := zb_new hbp) | skip); clear op)
        | (go_at_call_of 16 (Value.agg #[Value.int IntKind.i64 k1, Value.int IntKind.i64 n1, Value.string s1, u1]); refine (toT_any _ u 0 h' _ (HUAS.out _ (by first | exact hBp | exact bel_al hBp _)) HWU.out).mono ?_; rintro e wu ⟨vu, rfl, htu, hbu⟩; have hBu : Below w2.heap.size w2 wu := (by first | exact bel_two hBp hbu | exact bel_two (bel_al hBp _) hbu); have htp2 : TermAt wu _ h va t := (by first | exact htp.below hbu | exact (htp.below (al_bel wp _)).below hbu); have hpp2 : IntsAt wu vp ps := (by first | exact hpp.below hbu | exact (hpp.below (al_bel wp _)).below hbu); (first | (have hZ3 := zb_keep hZ2 hbu) | (have hZ3 := zb_new hbu) | skip))
        | (go_at_call 11; refine (HSP.out _ _ _ _ _ _ _ _ (by first | exact htp2 | exact htp2.below (al_bel wu _)) (by first | exact hpp2 | exact hpp2.below (al_bel wu _)) (by first | exact htu | exact htu.below (al_bel wu _))).mono ?_; rintro e w4 ⟨kw, nw, sw, aw, mw, cw, hw, rfl, ht4, hb4⟩; have hB4 : Below w2.heap.size w2 w4 := (by first | exact bel_two hBu hb4 | exact bel_two (bel_al hBu _) hb4); (first | (have hZ4 := zb_keep hZ3 hb4; obtain ⟨⟨z0, z1, z2, z3⟩, y0, y1, y2, y3⟩ := cells_of4 hZ4) | (have hZ4 := zb_new hb4; obtain ⟨⟨z0, z1, z2, z3⟩, y0, y1, y2, y3⟩ := cells_of4 hZ4) | skip)))
    all_goals go_wp2_with fail
    all_goals go_meet
    · exact Lib.hid (boxAns_new hB4 ht4)
    all_goals exact Lib.hid (boxAns_set hB4 ht4 hZ4 (by have h1 := hbu.size; have h2 := hbp.size; have h3 := hba.size; simp at h1 h2 h3 ⊢ <;> omega) (by first | exact hBu.size | exact hBp.size | exact hBa.size | exact Nat.le_refl _))
  obtain ⟨bW, kw, nw, sw, aw, mw, cw, hw, e8, e9, hbW, hrW, htW, hBW⟩ := hcut.out
  subst e8
  subst e9
  clear hcut hb0 c0 c1 c2 c3 d0 d1 d2 d3 HKS HTAS HUAS HPAS HSP
  have hbWl : bW < wc.heap.size := (Array.getElem?_eq_some_iff.1 hrW).1
  have HTW := Lib.hid htW
  have HCW : Hid (∀ w', Below wc.heap.size wc w' → w'.cell? ⟨bW, 0, none⟩ = some (.int .i64 kw) ∧ w'.cell? ⟨bW, 1, none⟩ = some (.int .i64 nw) ∧ w'.cell? ⟨bW, 2, none⟩ = some (.string sw) ∧ w'.cell? ⟨bW, 3, none⟩ = some (.slice aw mw cw)) :=
    Lib.hid (fun w' hb => (cells_of4 ((hb.block bW hbWl).trans hrW)).1)
  have HBW := Lib.hid (bel_two HB2.out hBW)
  have HBU : Hid (∀ w', Below wc.heap.size wc w' → Below WB.heap.size WB w') := Lib.hid (fun w' hb => HBW.out.trans (hb.mono HBW.out.size))
  clear hbW hrW htW hBW hbWl

  -- the first argument, copied
  obtain ⟨c0, c1, c2, c3, d0, d1, d2, d3⟩ := HCB.out _ HBW.out
  go_wp2_with fail
  refine (toT_own _ t 0 h _ (HQ.out _ HBW.out) HW.out).mono ?_
  rintro e w5 ⟨kx, nx, sx, ux, xsx, rfl, etx, hsx, ⟨hax, hox⟩, hb5⟩
  obtain ⟨ax, cx, rfl⟩ := hax.slice
  obtain ⟨mx, hmx⟩ : ∃ mx, mx = xsx.length := ⟨_, rfl⟩
  rw [← hmx] at hax hox ⊢
  have htx : TermAt w5 wc.heap.size h (tv kx nx sx (.slice ax mx cx)) t := ⟨_, _, _, _, xsx, rfl, etx, hsx, hax⟩
  have HCX : Hid (cS xsx ≤ 1048576) := Lib.hid (by have hw := HW.out; rw [etx, wT_node] at hw; have := cS_le xsx; omega)
  clear hax hsx etx hmx c0 c1 c2 c3 d0 d1 d2 d3
  obtain ⟨W5, hW5⟩ : ∃ W5, W5 = boxed w5 kx nx sx (.slice ax mx cx) := ⟨_, rfl⟩
  have hb5b : Below w5.heap.size w5 W5 := by rw [hW5]; exact boxed_below _ _ _ _ _
  have hz5 : W5.heap.size = w5.heap.size + 1 := by rw [hW5]; simp
  have HTX := Lib.hid (htx.below hb5b); clear htx
  have HOX : Hid (OwnA W5 h wc.heap.size w5.heap.size (.slice ax mx cx) xsx) := Lib.hid (hox.keep fun b _ b2 => hb5b.block b b2); clear hox
  have HXC : Hid (∀ w', Below W5.heap.size W5 w' → w'.cell? ⟨w5.heap.size, 0, none⟩ = some (.int .i64 kx) ∧ w'.cell? ⟨w5.heap.size, 1, none⟩ = some (.int .i64 nx) ∧ w'.cell? ⟨w5.heap.size, 2, none⟩ = some (.string sx) ∧ w'.cell? ⟨w5.heap.size, 3, none⟩ = some (.slice ax mx cx)) :=
    Lib.hid (fun w' hb => by rw [hW5] at hb; exact boxed_cells hb)
  have HW5 := Lib.hid (bel_two hb5 hb5b)
  have hs45 := hb5.size
  clear hb5 hb5b
  unfold boxed at hW5
  go_wp2_with fail
  rw [← hW5]
  clear hW5
  refine (toInts_any _ ps _ HNL.out (HQP.out _ (HBU.out _ HW5.out))).mono ?_
  rintro e w6 ⟨x1, rfl, o6, hb6⟩
  have HX1 := Lib.hid o6; clear o6
  have HX6 := Lib.hid hb6
  have HW6 := Lib.hid (bel_two HW5.out hb6)
  have hs56 := hb6.size
  have HXL : Hid (∀ k, x1.ownBlock = some k → W5.heap.size ≤ k ∧ k < w6.heap.size) := Lib.hid (fun k hk => HX1.out.lt k hk)
  clear hb6
  -- the third argument, copied
  obtain ⟨c0, c1, c2, c3, d0, d1, d2, d3⟩ := HCB.out _ (HBU.out _ HW6.out)
  go_wp2_with fail
  refine (toT_own _ u 0 h' _ (HQU.out _ (HBU.out _ HW6.out)) HWU.out).mono ?_
  rintro e w6b ⟨ky, ny, sy, uy, xsy, rfl, ety, hsy, ⟨hay, hoy⟩, hb6b⟩
  obtain ⟨ay, cy, rfl⟩ := hay.slice
  obtain ⟨my, hmy⟩ : ∃ my, my = xsy.length := ⟨_, rfl⟩
  rw [← hmy] at hay hoy ⊢
  have hty : TermAt w6b w6.heap.size h' (tv ky ny sy (.slice ay my cy)) u := ⟨_, _, _, _, xsy, rfl, ety, hsy, hay⟩
  have HCY : Hid (cS xsy ≤ 1048576) := Lib.hid (by have hw := HWU.out; rw [ety, wT_node] at hw; have := cS_le xsy; omega)
  clear hay hsy ety hmy c0 c1 c2 c3 d0 d1 d2 d3
  obtain ⟨W6, hW6⟩ : ∃ W6, W6 = boxed w6b ky ny sy (.slice ay my cy) := ⟨_, rfl⟩
  have hb6c : Below w6b.heap.size w6b W6 := by rw [hW6]; exact boxed_below _ _ _ _ _
  have hz6 : W6.heap.size = w6b.heap.size + 1 := by rw [hW6]; simp
  have hb66 : Below w6.heap.size w6 W6 := bel_two hb6b hb6c
  have HTY := Lib.hid (hty.below hb6c); clear hty
  have HOY : Hid (OwnA W6 h' w6.heap.size w6b.heap.size (.slice ay my cy) xsy) := Lib.hid (hoy.keep fun b _ b2 => hb6c.block b b2); clear hoy
  have HYR : Hid (W6.heap[w6b.heap.size]? = some (trow ky ny sy (.slice ay my cy))) := Lib.hid (by rw [hW6]; exact heap_new _ _ rfl)
  have HYC : Hid (∀ w', Below W6.heap.size W6 w' → w'.cell? ⟨w6b.heap.size, 0, none⟩ = some (.int .i64 ky) ∧ w'.cell? ⟨w6b.heap.size, 1, none⟩ = some (.int .i64 ny) ∧ w'.cell? ⟨w6b.heap.size, 2, none⟩ = some (.string sy) ∧ w'.cell? ⟨w6b.heap.size, 3, none⟩ = some (.slice ay my cy)) :=
    Lib.hid (fun w' hb => by rw [hW6] at hb; exact boxed_cells hb)
  have HX6b := Lib.hid (bel_two HX6.out hb66)
  have HW6b := Lib.hid (bel_two HW6.out hb66)
  have HX1a := Lib.hid (keep_own HX1.out hb66)
  have hs66 := hb6b.size
  clear hb6b hb6c hb66
  obtain ⟨p0, p1, p2, p3⟩ := HXC.out _ HX6b.out
  unfold boxed at hW6
  rw [hW6] at p0 p1 p2 p3
  go_wp2_with fail
  rw [← hW6] at p0 p1 p2 p3 ⊢
  clear hW6
  refine (HIM.out _ x1 _ _ _ h h' _ (HTX.out.below HX6b.out) (IntsAt.of_owns HX1a.out) HTY.out).mono ?_
  rintro e w7 ⟨kg, ng, sg, ag, mg, cg, hg, xg, rfl, eg, hsg, hog, hb7⟩
  have HX7 := Lib.hid (bel_two HX6b.out hb7)
  have HW7 := Lib.hid (bel_two HW6b.out hb7)
  have HY7 := Lib.hid hb7
  have HX1b := Lib.hid (keep_own HX1a.out hb7)
  have hs67 := hb7.size
  clear hb7 p0 p1 p2 p3 HX1a
  have HCG : Hid (1 + 3 * cS xg ≤ 6291457) := Lib.hid (by have hw := HRW.out; rw [eg, wT_node] at hw; have := cS_le xg; omega)
  obtain ⟨W7, hW7⟩ : ∃ W7, W7 = boxed w7 kg ng sg (.slice ag mg cg) := ⟨_, rfl⟩
  have hb7b : Below w7.heap.size w7 W7 := by rw [hW7]; exact boxed_below _ _ _ _ _
  have hz7 : W7.heap.size = w7.heap.size + 1 := by rw [hW7]; simp
  have hrow7 : W7.heap[w7.heap.size]? = some (trow kg ng sg (.slice ag mg cg)) := by rw [hW7]; exact heap_new _ _ rfl
  have hog7 : OwnR (fun _ => True) W7 hg W6.heap.size w7.heap.size (.slice ag mg cg) xg := hog.keep fun b _ _ b2 => ⟨hb7b.block b b2, trivial⟩
  have HGS : Hid (∀ w', Same W6.heap.size (w7.heap.size + 1) W7 w' → w'.heap[w7.heap.size]? = some (trow kg ng sg (.slice ag mg cg)) ∧ OwnR (fun _ => True) w' hg W6.heap.size w7.heap.size (.slice ag mg cg) xg ∧ TermAt w' W6.heap.size hg (tv kg ng sg (.slice ag mg cg)) r0) :=
    Lib.hid (fun w' hs => by rw [eg]; exact same_term hs hog7 (Nat.le_succ _) hrow7 hs67 hsg)
  have HX7b := Lib.hid (bel_two HX7.out hb7b)
  have HW7b := Lib.hid (bel_two HW7.out hb7b)
  have HY7b := Lib.hid (bel_two HY7.out hb7b)
  have HX1c := Lib.hid (keep_own HX1b.out hb7b)
  have HSM7 : Hid (Same W6.heap.size (w7.heap.size + 1) W7 W7) := Lib.hid (fun _ _ _ => rfl)
  clear hog hb7b hog7 hrow7 HX1b HX7 HW7 HY7
  -- the answers agree
  obtain ⟨q0, q1, q2, q3⟩ := HCW.out _ HW7b.out
  unfold boxed at hW7
  rw [hW7] at q0 q1 q2 q3
  go_wp2_with fail
  rw [← hW7] at q0 q1 q2 q3 ⊢
  clear hW7
  refine (eqT_two _ _ r0 _ _ _ _ _ (HGS.out _ HSM7.out).2.2 (HTW.out.below HW7b.out)).mono ?_
  rintro e w8 ⟨rfl, hb8⟩
  have HX8 := Lib.hid (bel_two HX7b.out hb8)
  have HW8 := Lib.hid (bel_two HW7b.out hb8)
  have HY8 := Lib.hid (bel_two HY7b.out hb8)
  have HX1d := Lib.hid (keep_own HX1c.out hb8)
  have HSM8 := Lib.hid (HSM7.out.below hb8 (by omega))
  have hs78 := hb8.size
  clear hb8 q0 q1 q2 q3 HX7b HW7b HY7b HX1c HSM7
  -- the first argument is as it was
  have h8 : ∀ w', Below w8.heap.size w8 w' → (w'.cell? ⟨w5.heap.size, 0, none⟩ = some (.int .i64 kx) ∧ w'.cell? ⟨w5.heap.size, 1, none⟩ = some (.int .i64 nx) ∧ w'.cell? ⟨w5.heap.size, 2, none⟩ = some (.string sx) ∧ w'.cell? ⟨w5.heap.size, 3, none⟩ = some (.slice ax mx cx) ∧ w'.cell? ⟨w.heap.size, 0, none⟩ = some (.int .i64 k0) ∧ w'.cell? ⟨w.heap.size, 1, none⟩ = some (.int .i64 n0) ∧ w'.cell? ⟨w.heap.size, 2, none⟩ = some (.string s0) ∧ w'.cell? ⟨w.heap.size, 3, none⟩ = some u0 ∧ Below w8.heap.size w8 w') := by
    intro w' hb
    obtain ⟨p0, p1, p2, p3⟩ := HXC.out _ (bel_two HX8.out hb)
    obtain ⟨b0, b1, b2, b3, e0, e1, e2, e3⟩ := HCB.out _ (HBU.out _ (bel_two HW8.out hb))
    exact ⟨p0, p1, p2, p3, b0, b1, b2, b3, hb⟩
  have HK := Lib.hid h8; clear h8
  obtain ⟨p0, p1, p2, p3, b0, b1, b2, b3, hb0⟩ := HK.out _ (Below.refl _ _)
  have HT5 : Hid (∀ w', Below w8.heap.size w8 w' → TermAt w' 0 h (tv k0 n0 s0 u0) t) := Lib.hid (fun w' hb => HQ.out _ (HBU.out _ (bel_two HW8.out hb)))
  have HX6b : Hid (∀ w', Below w8.heap.size w8 w' → TermAt w' 0 h (tv kx nx sx (.slice ax mx cx)) t) := Lib.hid (fun w' hb => (HTX.out.below (bel_two HX8.out hb)).low (Nat.zero_le _))
  go_wp2
  go_region_held3 (fun w' => w'.cell? ⟨w5.heap.size, 0, none⟩ = some (.int .i64 kx) ∧ w'.cell? ⟨w5.heap.size, 1, none⟩ = some (.int .i64 nx) ∧ w'.cell? ⟨w5.heap.size, 2, none⟩ = some (.string sx) ∧ w'.cell? ⟨w5.heap.size, 3, none⟩ = some (.slice ax mx cx) ∧ w'.cell? ⟨w.heap.size, 0, none⟩ = some (.int .i64 k0) ∧ w'.cell? ⟨w.heap.size, 1, none⟩ = some (.int .i64 n0) ∧ w'.cell? ⟨w.heap.size, 2, none⟩ = some (.string s0) ∧ w'.cell? ⟨w.heap.size, 3, none⟩ = some u0 ∧ Below w8.heap.size w8 w')
    (first | exact HK.out _ (by assumption) | exact HK.out _ (bel_drew (by assumption)) | exact HK.out _ (Below.drew (by assumption)) | exact HK.out _ (bel_two (bel_drew (by assumption)) (by assumption)) | go_keep)
    (first
      | (go_at_call 16; refine (toT_any _ t 0 h _ (HT5.out _ (by first | assumption | exact Below.drew (by assumption))) HW.out).mono ?_; rintro e w9 ⟨v3, rfl, ht9, hb9⟩)
      | (go_at_call 18; refine (eqT_any _ v3 t _ _ h _ (HX6b.out _ (by first | assumption | exact bel_drew (by assumption) | exact Below.drew (by assumption))) (by first | exact ht9 | exact ht9.below (Below.drew (Below.refl _ _)))).mono ?_; rintro e w10 ⟨rfl, hb10⟩))
  have hbq : Below w8.heap.size w8 w10 := bel_two (bel_drew hb9) hb10
  clear HX6b HT5 HK p0 p1 p2 p3 b0 b1 b2 b3 hb0 hb9 hb10 ht9
  have HX10 := Lib.hid (bel_two HX8.out hbq)
  have HW10 := Lib.hid (bel_two HW8.out hbq)
  have HY10 := Lib.hid (bel_two HY8.out hbq)
  have HX1e := Lib.hid (keep_own HX1d.out hbq)
  have HSM10 := Lib.hid (HSM8.out.below hbq (by omega))
  have hs810 := hbq.size
  clear hbq HX8 HW8 HY8 HX1d HSM8
  -- the second argument is as it was
  go_wp2_with fail
  refine (toInts_any _ ps _ HNL.out (HQP.out _ (HBU.out _ HW10.out))).mono ?_
  rintro e w11 ⟨p11, rfl, o11, hb11⟩
  have HX11 := Lib.hid (bel_two HX10.out hb11)
  have HW11 := Lib.hid (bel_two HW10.out hb11)
  have HY11 := Lib.hid (bel_two HY10.out hb11)
  have HX1f := Lib.hid (keep_own HX1e.out hb11)
  have HSM11 := Lib.hid (HSM10.out.below hb11 (by omega))
  have HP11 := Lib.hid (IntsAt.of_owns o11)
  have hs1011 := hb11.size
  clear hb11 o11 HX10 HW10 HY10 HX1e HSM10
  go_wp2_with fail
  refine (eqInts_any x1 p11 ps _ (by have := HNL.out; omega) (IntsAt.of_owns HX1f.out) HP11.out).mono ?_
  rintro e w12 ⟨rfl, hb12⟩
  have HX12 := Lib.hid (bel_two HX11.out hb12)
  have HW12 := Lib.hid (bel_two HW11.out hb12)
  have HY12 := Lib.hid (bel_two HY11.out hb12)
  have HX1g := Lib.hid (keep_own HX1f.out hb12)
  have HSM12 := Lib.hid (HSM11.out.below hb12 (by omega))
  have hs1112 := hb12.size
  clear hb12 HX11 HW11 HY11 HX1f HSM11 HP11
  -- the third argument is as it was
  have h8 : ∀ w', Below w12.heap.size w12 w' → (w'.cell? ⟨w6b.heap.size, 0, none⟩ = some (.int .i64 ky) ∧ w'.cell? ⟨w6b.heap.size, 1, none⟩ = some (.int .i64 ny) ∧ w'.cell? ⟨w6b.heap.size, 2, none⟩ = some (.string sy) ∧ w'.cell? ⟨w6b.heap.size, 3, none⟩ = some (.slice ay my cy) ∧ w'.cell? ⟨w.heap.size + 1, 0, none⟩ = some (.int .i64 k1) ∧ w'.cell? ⟨w.heap.size + 1, 1, none⟩ = some (.int .i64 n1) ∧ w'.cell? ⟨w.heap.size + 1, 2, none⟩ = some (.string s1) ∧ w'.cell? ⟨w.heap.size + 1, 3, none⟩ = some u1 ∧ Below w12.heap.size w12 w') := by
    intro w' hb
    obtain ⟨p0, p1, p2, p3⟩ := HYC.out _ (bel_two HY12.out hb)
    obtain ⟨b0, b1, b2, b3, e0, e1, e2, e3⟩ := HCB.out _ (HBU.out _ (bel_two HW12.out hb))
    exact ⟨p0, p1, p2, p3, e0, e1, e2, e3, hb⟩
  have HK := Lib.hid h8; clear h8
  obtain ⟨p0, p1, p2, p3, b0, b1, b2, b3, hb0⟩ := HK.out _ (Below.refl _ _)
  have HT5 : Hid (∀ w', Below w12.heap.size w12 w' → TermAt w' 0 h' (tv k1 n1 s1 u1) u) := Lib.hid (fun w' hb => HQU.out _ (HBU.out _ (bel_two HW12.out hb)))
  have HX6b : Hid (∀ w', Below w12.heap.size w12 w' → TermAt w' 0 h' (tv ky ny sy (.slice ay my cy)) u) := Lib.hid (fun w' hb => (HTY.out.below (bel_two HY12.out hb)).low (Nat.zero_le _))
  go_wp2
  go_region_held3 (fun w' => w'.cell? ⟨w6b.heap.size, 0, none⟩ = some (.int .i64 ky) ∧ w'.cell? ⟨w6b.heap.size, 1, none⟩ = some (.int .i64 ny) ∧ w'.cell? ⟨w6b.heap.size, 2, none⟩ = some (.string sy) ∧ w'.cell? ⟨w6b.heap.size, 3, none⟩ = some (.slice ay my cy) ∧ w'.cell? ⟨w.heap.size + 1, 0, none⟩ = some (.int .i64 k1) ∧ w'.cell? ⟨w.heap.size + 1, 1, none⟩ = some (.int .i64 n1) ∧ w'.cell? ⟨w.heap.size + 1, 2, none⟩ = some (.string s1) ∧ w'.cell? ⟨w.heap.size + 1, 3, none⟩ = some u1 ∧ Below w12.heap.size w12 w')
    (first | exact HK.out _ (by assumption) | exact HK.out _ (bel_drew (by assumption)) | exact HK.out _ (Below.drew (by assumption)) | exact HK.out _ (bel_two (bel_drew (by assumption)) (by assumption)) | go_keep)
    (first
      | (go_at_call 16; refine (toT_any _ u 0 h' _ (HT5.out _ (by first | assumption | exact Below.drew (by assumption))) HWU.out).mono ?_; rintro e w13 ⟨v3, rfl, ht9, hb9⟩)
      | (go_at_call 18; refine (eqT_any _ v3 u _ _ h' _ (HX6b.out _ (by first | assumption | exact bel_drew (by assumption) | exact Below.drew (by assumption))) (by first | exact ht9 | exact ht9.below (Below.drew (Below.refl _ _)))).mono ?_; rintro e w14 ⟨rfl, hb10⟩))
  have hbq : Below w12.heap.size w12 w14 := bel_two (bel_drew hb9) hb10
  clear HX6b HT5 HK p0 p1 p2 p3 b0 b1 b2 b3 hb0 hb9 hb10 ht9
  have HX14 := Lib.hid (bel_two HX12.out hbq)
  have HW14 := Lib.hid (bel_two HW12.out hbq)
  have HY14 := Lib.hid (bel_two HY12.out hbq)
  have HX1k := Lib.hid (keep_own HX1g.out hbq)
  have HSM14 := Lib.hid (HSM12.out.below hbq (by omega))
  have HSY14 : Hid (Same w6.heap.size (w6b.heap.size + 1) W6 w14) := Lib.hid (Same.of_below HY14.out (by omega))
  have hs1214 := hbq.size
  clear hbq HX12 HW12 HY12 HY14 HX1g HSM12
  -- the arguments are marked
  obtain ⟨p0, p1, p2, p3⟩ := HXC.out _ HX14.out
  go_wp2_with fail
  refine (markPT_any kx nx sx _ xsx h wc.heap.size w5.heap.size 1 _ (HOX.out.keep fun b _ b2 => HX14.out.block b (by omega)) (by omega) (by omega) (by have := HCX.out; omega)).mono ?_
  rintro e w15 ⟨⟨rfl, ho15⟩, _⟩
  have HW15 := Lib.hid (HW14.out.trans (ho15.under (B := wc.heap.size) (Nat.le_refl _) HW14.out.size))
  have HX1h := Lib.hid (ho15.own HX1k.out (fun k hk => Or.inr (by have := HXL.out k hk; omega)))
  have HSM15 := Lib.hid (HSM14.out.out ho15 (by omega) (Or.inr (by omega)))
  have HSY15 := Lib.hid (HSY14.out.out ho15 (by omega) (Or.inr (by omega)))
  have hs1415 := ho15.2.2.2.1
  clear ho15 p0 p1 p2 p3 HX14 HX1k HSM14 HSY14 HW14
  go_wp2_with fail
  refine (markInts_any _ ps.length (1 + 3 * cS xsx) x1 _ _ (by have := HCX.out; have := HNL.out; omega) HX1h.out).mono ?_
  rintro e w16 ⟨rfl, ho16, hg16⟩
  have HW16 := Lib.hid (HW15.out.grown hg16 HW15.out.size (fun k hk => by have := HXL.out k hk; omega))
  have HSM16 := Lib.hid (HSM15.out.grown hg16 (by omega) (fun k hk => Or.inl (by have := HXL.out k hk; omega)))
  have HSY16 := Lib.hid (HSY15.out.grown hg16 (by omega) (fun k hk => Or.inl (HXL.out k hk).2))
  have hs1516 := hg16.size
  clear ho16 hg16 HX1h HSM15 HSY15 HW15
  have hrowY : w16.heap[w6b.heap.size]? = some (trow ky ny sy (.slice ay my cy)) := (HSY16.out _ hs66 (Nat.lt_succ_self _)).trans HYR.out
  obtain ⟨p0, p1, p2, p3⟩ := (cells_of4 hrowY).1
  go_wp2_with fail
  have hcast : 1 + 3 * (cS xsx : Int) + (ps.length : Int) = ((1 + 3 * cS xsx + ps.length : Nat) : Int) := by omega
  rw [hcast]
  refine (markPT_any ky ny sy _ xsy h' w6.heap.size w6b.heap.size (1 + 3 * cS xsx + ps.length) _ (HOY.out.keep fun b b1 b2 => HSY16.out b b1 (by omega)) (by omega) (by omega) (by have := HCX.out; have := HCY.out; have := HNL.out; omega)).mono ?_
  rintro e w17 ⟨⟨rfl, ho17⟩, _⟩
  have HW17 := Lib.hid (HW16.out.trans (ho17.under (B := wc.heap.size) (by omega) HW16.out.size))
  have HSM17 := Lib.hid (HSM16.out.out ho17 (by omega) (Or.inr (by omega)))
  have hs1617 := ho17.2.2.2.1
  clear ho17 p0 p1 p2 p3 hrowY hcast HSM16 HSY16 HW16
  have hpos : ¬ ((1 + 3 * cS xsx + ps.length + 3 * cS xsy : Nat) : Int) < 0 := by omega
  obtain ⟨g0, g1, g2, g3⟩ := (cells_of4 (HGS.out _ HSM17.out).1).1
  obtain ⟨q0, q1, q2, q3⟩ := HCW.out _ HW17.out
  go_wp2_with fail
  refine (eqT_two _ _ r0 _ _ _ _ _ (HGS.out _ HSM17.out).2.2 (HTW.out.below HW17.out)).mono ?_
  rintro e w18 ⟨rfl, hb18⟩
  have HW18 := Lib.hid (bel_two HW17.out hb18)
  have HSM18 := Lib.hid (HSM17.out.below hb18 (by omega))
  have hs1718 := hb18.size
  clear hb18 q0 q1 q2 q3 g0 g1 g2 g3 HW17 HSM17
  -- the answer is marked
  obtain ⟨g0, g1, g2, g3⟩ := (cells_of4 (HGS.out _ HSM18.out).1).1
  go_wp2_with fail
  refine (markPT_any kg ng sg _ xg hg W6.heap.size w7.heap.size 1 _ (HGS.out _ HSM18.out).2.1.own (by omega) (by omega) (by have := HCG.out; omega)).mono ?_
  rintro e w19 ⟨⟨rfl, ho19⟩, ha19⟩
  have HW19 := Lib.hid (HW18.out.trans (ho19.under (B := wc.heap.size) (by omega) HW18.out.size))
  have hrow19 : w19.heap[w7.heap.size]? = some (trow kg ng sg (.slice ag mg cg)) := (ho19.2.2.2.2 _ (by omega) (Or.inr (Nat.le_refl _))).trans (HGS.out _ HSM18.out).1
  have hs1819 := ho19.2.2.2.1
  have HG19 : Hid (∀ w', Below w19.heap.size w19 w' → ArgsAt w' 0 hg (.slice ag mg cg) (mkS 1 xg) ∧ w'.heap[w7.heap.size]? = some (trow kg ng sg (.slice ag mg cg))) := Lib.hid (fun w' hb => ⟨(ha19.args (fun _ _ => Nat.zero_le _)).below hb, (hb.block _ (by omega)).trans hrow19⟩)
  clear ho19 ha19 hrow19 g0 g1 g2 g3 HSM18 HW18 HGS
  obtain ⟨g0, g1, g2, g3⟩ := (cells_of4 (HG19.out _ (Below.refl _ _)).2).1
  go_wp2_with fail
  refine (heldT_any kg ng sg _ xg 0 hg 1 _ (HG19.out _ (Below.refl _ _)).1 (by omega) (by have := HCG.out; omega)).mono ?_
  rintro e w20 ⟨rfl, hb20⟩
  have HG20 := Lib.hid hb20
  have HW20 := Lib.hid (bel_two HW19.out hb20)
  have HBB20 := Lib.hid (HBU.out _ HW20.out)
  clear hb20 g0 g1 g2 g3 HW19
  have hpos2 : ¬ ((1 + 3 * cS xg : Nat) : Int) < 0 := by omega
  have heq2 : (((1 + 3 * cS xg : Nat) : Int) != ((1 + 3 * cS xg : Nat) : Int)) = false := by simp
  -- another call
  have HKR : Hid (∀ w', Below w20.heap.size w20 w' → (w'.cell? ⟨w.heap.size, 0, none⟩ = some (.int .i64 k0) ∧ w'.cell? ⟨w.heap.size, 1, none⟩ = some (.int .i64 n0) ∧ w'.cell? ⟨w.heap.size, 2, none⟩ = some (.string s0) ∧ w'.cell? ⟨w.heap.size, 3, none⟩ = some u0 ∧ w'.cell? ⟨w.heap.size + 1, 0, none⟩ = some (.int .i64 k1) ∧ w'.cell? ⟨w.heap.size + 1, 1, none⟩ = some (.int .i64 n1) ∧ w'.cell? ⟨w.heap.size + 1, 2, none⟩ = some (.string s1) ∧ w'.cell? ⟨w.heap.size + 1, 3, none⟩ = some u1 ∧ Below w20.heap.size w20 w')) := Lib.hid (fun w' hb => by
    obtain ⟨c0, c1, c2, c3, d0, d1, d2, d3⟩ := HCB.out w' (bel_two HBB20.out hb)
    exact ⟨c0, c1, c2, c3, d0, d1, d2, d3, hb⟩)
  have HTAR : Hid (∀ w', Below w20.heap.size w20 w' → TermAt w' 0 h (tv k0 n0 s0 u0) t) := Lib.hid (fun w' hb => HQ.out _ (bel_two HBB20.out hb))
  have HUAR : Hid (∀ w', Below w20.heap.size w20 w' → TermAt w' 0 h' (tv k1 n1 s1 u1) u) := Lib.hid (fun w' hb => HQU.out _ (bel_two HBB20.out hb))
  have HPAR : Hid (∀ w', Below w20.heap.size w20 w' → IntsAt w' (.slice pa n pc) ps) := Lib.hid (fun w' hb => HQP.out _ (bel_two HBB20.out hb))
  obtain ⟨c0, c1, c2, c3, d0, d1, d2, d3, hb0⟩ := HKR.out _ (Below.refl _ _)
  go_wp2
  go_cut [18, 19] (fun x o wc => Hid (BoxAns w20 ok r0 x o wc))
  case first =>
    have hb00 : Below w20.heap.size w20 w20.drew := Below.drew (Below.refl _ _)
    go_region_held3 (fun w' => w'.cell? ⟨w.heap.size, 0, none⟩ = some (.int .i64 k0) ∧ w'.cell? ⟨w.heap.size, 1, none⟩ = some (.int .i64 n0) ∧ w'.cell? ⟨w.heap.size, 2, none⟩ = some (.string s0) ∧ w'.cell? ⟨w.heap.size, 3, none⟩ = some u0 ∧ w'.cell? ⟨w.heap.size + 1, 0, none⟩ = some (.int .i64 k1) ∧ w'.cell? ⟨w.heap.size + 1, 1, none⟩ = some (.int .i64 n1) ∧ w'.cell? ⟨w.heap.size + 1, 2, none⟩ = some (.string s1) ∧ w'.cell? ⟨w.heap.size + 1, 3, none⟩ = some u1 ∧ Below w20.heap.size w20 w')
      (first | exact HKR.out _ (by assumption) | exact HKR.out _ (bel_al (by assumption) _) | exact HKR.out _ (Below.drew (by assumption)) | exact HKR.out _ (bel_al (Below.drew (by assumption)) _) | exact HKR.out _ ((((hB4.setCell (by first | exact hBu.size | exact hBp.size | exact hBa.size | exact Nat.le_refl _) _).setCell (by first | exact hBu.size | exact hBp.size | exact hBa.size | exact Nat.le_refl _) _).setCell (by first | exact hBu.size | exact hBp.size | exact hBa.size | exact Nat.le_refl _) _).setCell (by first | exact hBu.size | exact hBp.size | exact hBa.size | exact Nat.le_refl _) _) | exact HKR.out _ (bel_al hB4 _) | exact HKR.out _ (((((bel_al hB4 _).setCell hB4.size _).setCell hB4.size _).setCell hB4.size _).setCell hB4.size _) | go_keep)
      (first
        | (go_at_call_of 16 (Value.agg #[Value.int IntKind.i64 k0, Value.int IntKind.i64 n0, Value.string s0, u0]); refine (toT_any _ t 0 h _ (HTAR.out _ (by first | exact hb00 | exact bel_al hb00 _)) HW.out).mono ?_; rintro e wa ⟨va, rfl, hta, hba⟩; have hBa : Below w20.heap.size w20 wa := (by first | exact bel_two hb00 hba | exact bel_two (bel_al hb00 _) hba); (first | (have hZ := zb_drew hba) | skip))
        | (go_at_call 17; refine (toInts_any _ ps _ HNL.out (HPAR.out _ (by first | exact hBa | exact bel_al hBa _))).mono ?_; rintro e wp ⟨vp, rfl, op, hbp⟩; have hpp := IntsAt.of_owns op; have hBp : Below w20.heap.size w20 wp := (by first | exact bel_two hBa hbp | exact bel_two (bel_al hBa _) hbp); have htp : TermAt wp _ h va t := (by first | exact hta.below hbp | exact (hta.below (al_bel wa _)).below hbp); (first | (have hZ2 := zb_keep hZ hbp) | (have hZ2 := zb_new hbp) | skip); clear op)
        | (go_at_call_of 16 (Value.agg #[Value.int IntKind.i64 k1, Value.int IntKind.i64 n1, Value.string s1, u1]); refine (toT_any _ u 0 h' _ (HUAR.out _ (by first | exact hBp | exact bel_al hBp _)) HWU.out).mono ?_; rintro e wu ⟨vu, rfl, htu, hbu⟩; have hBu : Below w20.heap.size w20 wu := (by first | exact bel_two hBp hbu | exact bel_two (bel_al hBp _) hbu); have htp2 : TermAt wu _ h va t := (by first | exact htp.below hbu | exact (htp.below (al_bel wp _)).below hbu); have hpp2 : IntsAt wu vp ps := (by first | exact hpp.below hbu | exact (hpp.below (al_bel wp _)).below hbu); (first | (have hZ3 := zb_keep hZ2 hbu) | (have hZ3 := zb_new hbu) | skip))
        | (go_at_call 10; refine (HIT.out _ _ _ _ _ _ _ _ (by first | exact htp2 | exact htp2.below (al_bel wu _)) (by first | exact hpp2 | exact hpp2.below (al_bel wu _)) (by first | exact htu | exact htu.below (al_bel wu _))).mono ?_; rintro e w4 ⟨kw2, nw2, sw2, aw2, mw2, cw2, hw2, rfl, ht4, hb4⟩; have hB4 : Below w20.heap.size w20 w4 := (by first | exact bel_two hBu hb4 | exact bel_two (bel_al hBu _) hb4); (first | (have hZ4 := zb_keep hZ3 hb4; obtain ⟨⟨z0, z1, z2, z3⟩, y0, y1, y2, y3⟩ := cells_of4 hZ4) | (have hZ4 := zb_new hb4; obtain ⟨⟨z0, z1, z2, z3⟩, y0, y1, y2, y3⟩ := cells_of4 hZ4) | skip)))
    all_goals go_wp2_with fail
    all_goals go_meet
    · exact Lib.hid (boxAns_new hB4 ht4)
    all_goals exact Lib.hid (boxAns_set hB4 ht4 hZ4 (by have h1 := hbu.size; have h2 := hbp.size; have h3 := hba.size; simp at h1 h2 h3 ⊢ <;> omega) (by first | exact hBu.size | exact hBp.size | exact hBa.size | exact Nat.le_refl _))
  obtain ⟨bH, kh, nh, sh, ah, mh, ch, hh, e8, e9, hbH, hrH, htH, hBH⟩ := hcut.out
  subst e8
  subst e9
  clear hcut hb0 c0 c1 c2 c3 d0 d1 d2 d3 HKR HTAR HUAR HPAR HIM HIT
  have HTH := Lib.hid htH
  have HG21 := Lib.hid (bel_two HG20.out hBH)
  have HW21 := Lib.hid (bel_two HW20.out hBH)
  obtain ⟨p0, p1, p2, p3⟩ := (cells_of4 hrH).1
  obtain ⟨q0, q1, q2, q3⟩ := HCW.out _ HW21.out
  clear hbH hrH htH hBH
  go_wp2_with fail
  refine (eqT_two _ _ r0 _ _ _ _ _ HTH.out (HTW.out.below HW21.out)).mono ?_
  rintro e w22 ⟨rfl, hb22⟩
  have HG22 := Lib.hid (bel_two HG21.out hb22)
  have HW22 := Lib.hid (bel_two HW21.out hb22)
  clear hb22 p0 p1 p2 p3 q0 q1 q2 q3 HG21 HW21
  obtain ⟨g0, g1, g2, g3⟩ := (cells_of4 (HG19.out _ HG22.out).2).1
  go_wp2_with fail
  refine (heldT_any kg ng sg _ xg 0 hg 1 _ (HG19.out _ HG22.out).1 (by omega) (by have := HCG.out; omega)).mono ?_
  rintro e w23 ⟨rfl, hb23⟩
  have HW23 := Lib.hid (bel_two HW22.out hb23)
  have HEND := Lib.hid (HB0.out.trans ((HBU.out _ HW23.out).mono HB0.out.size))
  clear hb23 g0 g1 g2 g3
  go_wp2
  go_ret
  exact ⟨rfl, HEND.out⟩
end Go.Proofs.Ytcedeniamolbmaa
