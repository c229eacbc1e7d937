/-
  The law on all positions answers true at every draw: its walk.
-/
import Derived.Test.YtcmhiindjponcaaDoorQ12
import Derived.Test.YtcmhiindjponcaaDoorQ13
import Derived.Test.YtcmhiindjponcaaDoorQ19
import Derived.Test.YtcmhiindjponcaaDoorQ21
import Derived.Test.YtcmhiindjponcaaDoorQ22
import Derived.Test.YtcmhiindjponcaaDoorQ24
import Derived.Deep.RegionHeld3
namespace Go.Proofs.YtcmhiindjponcaaDoor
open Go.RowKit

theorem bel_al {w a : World} (h : Below w.heap.size w a) (o : Obj) : Below w.heap.size w (a.alloc o) := h.alloc h.size o
theorem bel_st {w a : World} {j i : Nat} {v : Value} (h : Below w.heap.size w a) (hj : w.heap.size ≤ j) : Below w.heap.size w (a.setCell ⟨j, i, none⟩ v) := h.setCell hj v
abbrev zObj : Obj := .cells #[.int .i64 0, .int .i64 0, .string ⟨#[]⟩, .slice none 0 0] 26
theorem zb_call {wr w5 : World} (hb5 : Below ((wr.alloc zObj).drew).heap.size ((wr.alloc zObj).drew) w5) : w5.heap[wr.heap.size]? = some (.cells #[.int .i64 0, .int .i64 0, .string ⟨#[]⟩, .slice none 0 0] 26 (0, 0)) :=
  (hb5.block wr.heap.size (by simp)).trans (heap_new wr _ rfl)
set_option maxRecDepth 100000 in
set_option maxHeartbeats 6400000 in
theorem allPos_any (a : Option Addr) (len cap : Nat) (w : World) (hcode : len ≤ 1048576 → CodeAt w w.heap.size (.slice a len cap) len) (ht : PowTab w) (hp : 0 < w.heap.size) :
    Calls Tryd.prog 3 #[.slice a len cap] w (TrueAt w) := by
  have HC := Lib.hid hcode; clear hcode
  have HT : Hid (∀ w', Below w.heap.size w w' → PowTab w' ∧ 0 < w'.heap.size) := Lib.hid (fun w' hb => ⟨ht.below hb hp, Nat.lt_of_lt_of_le hp hb.size⟩)
  clear ht hp
  by_cases hbig : 1048576 < len
  · have hd : decide (1048576 < len) = true := by simpa using hbig
    have HK := Lib.hid (big_any a len cap w)
    rw [hd] at HK
    go_enter Tryd.func3, Tryd.ntmps3
    go_wp2_with fail
    refine HK.out.mono ?_
    rintro e w1 ⟨rfl, rfl⟩
    go_wp2
    go_ret
    exact ⟨rfl, Below.refl _ _⟩
  have hd : decide (1048576 < len) = false := by simpa using hbig
  have HK := Lib.hid (big_any a len cap w)
  rw [hd] at HK
  have HC1 := Lib.hid (HC.out (by omega))
  clear hbig hd HC
  go_enter Tryd.func3, Tryd.ntmps3
  go_wp2_with fail
  refine HK.out.mono ?_
  rintro e w0 ⟨rfl, rfl⟩
  clear HK
  go_wp2_with fail
  refine (drawAll_any _ len _ HC1.out).mono ?_
  rintro e w1 ⟨k, n, nm, ta, m, c, t, h, rfl, ht1, hw, hb1⟩
  have hct : cT t ≤ 1001 := by have := cT_le t; omega
  have hpl : ∀ q ∈ posT t, q.length ≤ 1001 := fun q hq => Nat.le_trans (pos_len hq) hct
  have hpn : (posT t).length ≤ 1001 := by rw [posT_length]; exact hct
  have HPS : Hid (∀ q ∈ posT t, q.length ≤ 1001 ∧ Fits q ∧ (subT q t).isSome = true) := Lib.hid (fun q hq => by
    obtain ⟨x, hx⟩ := posT_sub t q hq
    exact ⟨hpl q hq, sub_fits q t x hx hct, by rw [hx]; rfl⟩)
  have HW : Hid (wT t ≤ 1048576) := Lib.hid (by omega)
  clear hpl hct
  obtain ⟨W1, hW1⟩ : ∃ W1, W1 = boxed w1 k n nm (.slice ta m c) := ⟨_, rfl⟩
  have hbb : Below w1.heap.size w1 W1 := by rw [hW1]; exact boxed_below _ _ _ _ _
  have HB1 := Lib.hid (bel_two hb1 hbb)
  have HTA : Hid (∀ w', Below W1.heap.size W1 w' → TermAt w' w.heap.size h (tv k n nm (.slice ta m c)) t) := Lib.hid (fun w' hb => (ht1.below hbb).below hb)
  have HK1 : Hid (∀ w', Below W1.heap.size W1 w' → w'.cell? ⟨w1.heap.size, 0, none⟩ = some (.int .i64 k) ∧ w'.cell? ⟨w1.heap.size, 1, none⟩ = some (.int .i64 n) ∧ w'.cell? ⟨w1.heap.size, 2, none⟩ = some (.string nm) ∧ w'.cell? ⟨w1.heap.size, 3, none⟩ = some (.slice ta m c)) := Lib.hid (fun w' hb => boxed_cells (by rw [← hW1]; exact hb))
  clear hw hb1 hbb ht1
  unfold boxed at hW1
  go_wp2_with fail
  rw [← hW1]
  clear hW1
  refine (posI_any k n nm ta m c t h W1 ((HTA.out _ (Below.refl _ _)).low (Nat.zero_le _)) HW.out).mono ?_
  rintro e w2 ⟨v2, rv, rfl, hown2, hrow2, _, hb2⟩
  rw [hrow2.1] at hown2
  have hl2 := ListN.of_row hown2 hrow2
  obtain ⟨va, vc, rfl⟩ := hl2.form
  have HL2 : Hid (∀ w', Below w2.heap.size w2 w' → ListN w' W1.heap.size (.slice va (posT t).length vc) rv (posT t)) := Lib.hid (fun w' hb => hl2.below hb)
  have HB2 := Lib.hid hb2
  clear hl2 hown2 hrow2 hb2
  obtain ⟨c0, c1, c2, c3⟩ := HK1.out _ HB2.out
  go_wp2_with fail
  refine (sCount_any _ h _ t _ (HTA.out _ HB2.out) HW.out).mono ?_
  rintro e w3 ⟨rfl, hb3⟩
  have HB3 := Lib.hid hb3; clear hb3 c0 c1 c2 c3
  rw [← posT_length]
  obtain ⟨N, hN⟩ : ∃ N, N = (posT t).length := ⟨_, rfl⟩
  rw [← hN] at hpn ⊢
  have HL3 : Hid (∀ w', Below w2.heap.size w2 w' → ListN w' W1.heap.size (.slice va N vc) rv (posT t)) := Lib.hid (fun w' hb => by rw [hN]; exact HL2.out w' hb)
  have HN := Lib.hid hN
  clear hN HL2
  have hnn : ((N : Int) != (N : Int)) = false := by simp
  go_wp2_with fail
  go_loopw [5] (fun i wr => ∃ j : Nat, j ≤ N ∧ i = .int .i64 j ∧ Hid (Below w2.heap.size w2 wr)) (fun i _ => N - (intOf i).toNat)
  case atStart => exact ⟨0, Nat.zero_le _, rfl, HB3⟩
  case round =>
    obtain ⟨j, hj, rfl, HB⟩ := hrel
    by_cases hlt : j < N
    · obtain ⟨x, hx⟩ : ∃ x, (posT t)[j]? = some x := ⟨_, List.getElem?_eq_getElem (by have := HN.out; omega)⟩
      obtain ⟨hxl, hxf, hxs⟩ := HPS.out x (List.mem_of_getElem? hx)
      obtain ⟨g, u, rfl, hc1, hi1⟩ := (HL3.out _ HB.out).at hx
      obtain ⟨a1, ac1, rfl⟩ := hi1.slice
      have HI1 := Lib.hid hi1; clear hi1
      have HXF := Lib.hid (And.intro hxf hxs); clear hxf hxs
      have HCL : Hid (∀ w', Below wr.heap.size wr w' → (w'.cell? ⟨w1.heap.size, 0, none⟩ = some (.int .i64 k) ∧ w'.cell? ⟨w1.heap.size, 1, none⟩ = some (.int .i64 n) ∧ w'.cell? ⟨w1.heap.size, 2, none⟩ = some (.string nm) ∧ w'.cell? ⟨w1.heap.size, 3, none⟩ = some (.slice ta m c) ∧ w'.cell? ⟨g, j, none⟩ = some (.slice a1 x.length ac1) ∧ Below wr.heap.size wr w')) := Lib.hid (fun w' hb => by
        obtain ⟨q0, q1, q2, q3⟩ := HK1.out _ (bel_two HB2.out (bel_two HB.out hb))
        exact ⟨q0, q1, q2, q3, (hb.cell (World.block_lt_of_cell? wr _ hc1)).trans hc1, hb⟩)
      clear hx hc1
      obtain ⟨c0, c1, c2, c3, l1, hb0⟩ := HCL.out _ (Below.refl _ _)
      have HAT : Hid (∀ w', Below wr.heap.size wr w' → Calls Tryd.prog 8 #[tv k n nm (.slice ta m c), .slice a1 x.length ac1] w' (SubT (subT x t) w')) := Lib.hid (fun w' hb =>
        sAt_any _ _ t x _ h w' (HTA.out _ (bel_two HB2.out (bel_two HB.out hb))) (HI1.out.below hb) HW.out (by omega))
      go_upto_region 11 with fail
      go_cut [7] (fun v wc => v = .bool true ∧ Hid (Below wr.heap.size wr wc))
      case first =>
        obtain ⟨d0, d1, d2, d3, e1, _⟩ := HCL.out _ ((bel_al (Below.refl _ wr) (.cells #[.int .i64 0, .int .i64 0, .string ⟨#[]⟩, .slice none 0 0] 26)).drew)
        go_region_with (first
          | (go_at_call 8; refine (HAT.out wr.drew ((Below.refl _ wr).drew)).mono ?_; rintro e w5 ⟨kx, nx, sx, ax, mx, cx, hx, rfl, _, hb5⟩; have hb6 : Below wr.heap.size wr w5 := bel_two (Below.refl _ wr).drew hb5; obtain ⟨r0, r1, r2, r3, e2, _⟩ := HCL.out w5 hb6)
          | (go_at_call 8; refine (HAT.out ((wr.alloc zObj).drew) ((bel_al (Below.refl _ wr) _).drew)).mono ?_; rintro e w5 ⟨kx, nx, sx, ax, mx, cx, hx, rfl, _, hb5⟩; have hb6 : Below wr.heap.size wr w5 := bel_two ((bel_al (Below.refl _ wr) _).drew) hb5; obtain ⟨r0, r1, r2, r3, e2, _⟩ := HCL.out w5 hb6; obtain ⟨⟨y0, y1, y2, y3⟩, y4, y5, y6, y7⟩ := cells4e (zb_call hb5)))
        all_goals (
          go_wp2_with fail
          go_meet
          exact ⟨by rw [HXF.out.2], Lib.hid (by (repeat' (first | assumption | exact Below.refl _ _ | refine Below.drew ?_ | refine bel_al ?_ _ | refine bel_st ?_ (by first | exact Nat.le_refl _ | omega) | refine bel_two ?_ (by assumption))))⟩)
      obtain ⟨rfl, HBC⟩ := hcut
      clear c0 c1 c2 c3 l1 hb0
      have HCE : Hid (∀ w', Below wc.heap.size wc w' → w'.cell? ⟨g, j, none⟩ = some (.slice a1 x.length ac1) ∧ IntsAt w' (.slice a1 x.length ac1) x ∧ Below w.heap.size w w') := Lib.hid (fun w' hb => by
        have hb2 := bel_two HBC.out hb
        obtain ⟨_, _, _, _, q5, _⟩ := HCL.out w' hb2
        exact ⟨q5, HI1.out.below hb2, bel_two HB1.out (bel_two HB2.out (bel_two HB.out hb2))⟩)
      have HIF : Hid (∀ w', Below wc.heap.size wc w' → Calls Tryd.prog 10 #[.slice a1 x.length ac1] w' (fun e w2 => e = .returned (.string (fmtP x)) ∧ Below w'.heap.size w' w2)) := Lib.hid (fun w' hb => by
        obtain ⟨_, q2, q3⟩ := HCE.out w' hb
        obtain ⟨t1, t2⟩ := HT.out w' q3
        exact iFmtPos_any _ x w' (by omega) HXF.out.1 q2 t1 t2)
      have HSF : Hid (∀ w', Below wc.heap.size wc w' → Calls Tryd.prog 11 #[.slice a1 x.length ac1] w' (fun e w2 => e = .returned (.string (fmtP x)) ∧ Below w'.heap.size w' w2)) := Lib.hid (fun w' hb => by
        obtain ⟨_, q2, q3⟩ := HCE.out w' hb
        exact sFmtPos_any _ x w' (by omega) HXF.out.1 q2)
      have hff : (!((fmtP x).toList == (fmtP x).toList)) = false := by simp
      obtain ⟨l1, _, _⟩ := HCE.out _ (Below.refl _ wc)
      obtain ⟨f, hf⟩ : ∃ f, f = fmtP x := ⟨_, rfl⟩
      rw [← hf] at HIF HSF hff
      clear hf
      go_upto_region 12 with fail
      go_cut [77] (fun v wd => v = .bool false ∧ Hid (Below wc.heap.size wc wd))
      case first =>
        have HS : Hid (∀ w', Below wc.heap.size wc w' → (w'.cell? ⟨g, j, none⟩ = some (.slice a1 x.length ac1) ∧ Below wc.heap.size wc w')) := Lib.hid (fun w' hb => ⟨(HCE.out w' hb).1, hb⟩)
        have hcap := (HCE.out _ (Below.refl _ wc)).2.1.cap
        have HIP : Hid (∀ q, x.length = q + 1 → ∀ w', Below wc.heap.size wc w' → Calls Tryd.prog 9 #[.slice a1 q ac1, .slice a1 (q + 1) ac1] w' (fun e w2 => e = .returned (.bool true) ∧ Below w'.heap.size w' w2)) := Lib.hid (fun q hq w' hb => by
          obtain ⟨_, q2, _⟩ := HCE.out w' hb
          have hl : (x.take q).length = q := by rw [List.length_take]; omega
          have h1 := q2.head (k := q) (by omega)
          have hyes : prefB (x.take q) x = true := prefB_yes (by omega) (by rw [hl])
          have h2 := iPrefix_any _ _ (x.take q) x w' (by omega) (by omega) h1 q2
          rw [hyes, hq] at h2
          exact h2)
        by_cases hx0 : x.length = 0
        · rw [hx0] at l1 HIF HSF HS
          clear HIP HCE HCL hcap HXF HPS HL3 HTA HK1 HAT
          have hSD := HS.out wc.drew ((Below.refl _ wc).drew)
          refine wp_region_held_drew (S := fun w' => w'.cell? ⟨g, j, none⟩ = some (.slice a1 0 ac1) ∧ Below wc.heap.size wc w') (by kernel_rfl) hSD (fun hHeld => ?_)
          refine wpAnyH_take (i := 0) (oi := { dst := some 36, op := Op.move (Operand.tmp 7), type := 4, pos := "laws.go:268", after := #[], guard := none }) (v := ?v0) rfl (by kernel_rfl) (by kernel_rfl) (by kernel_rfl) (fun _ _ _ h => h) (Or.inl ⟨by rfl, ?y0⟩) hHeld ?r0
          case y0 => (intro w hSw; (try dsimp only at hSw); go_simp; try with_reducible rfl)
          (try simp only [Act.put, List.setIfInBounds_toArray, List.set_cons_zero, List.set_cons_succ])
          refine wpAnyH_take (i := 1) (oi := { dst := some 37, op := Op.unOp UnOp.not 4 (Operand.tmp 36), type := 4, pos := "laws.go:268", after := #[{ on := 0, ground := Ground.data }], guard := none }) (v := ?v1) rfl (by kernel_rfl) (by kernel_rfl) (by kernel_rfl) (fun _ _ _ h => h) (Or.inl ⟨by rfl, ?y1⟩) hHeld ?r1
          case y1 => (intro w hSw; (try dsimp only at hSw); go_simp; try with_reducible rfl)
          (try simp only [Act.put, List.setIfInBounds_toArray, List.set_cons_zero, List.set_cons_succ])
          refine wpAnyH_take (i := 2) (oi := { dst := some 38, op := Op.move (Operand.tmp 37), type := 4, pos := "laws.go:268", after := #[{ on := 1, ground := Ground.data }], guard := none }) (v := ?v2) rfl (by kernel_rfl) (by kernel_rfl) (by kernel_rfl) (fun _ _ _ h => h) (Or.inl ⟨by rfl, ?y2⟩) hHeld ?r2
          case y2 => (intro w hSw; (try dsimp only at hSw); go_simp; try with_reducible rfl)
          (try simp only [Act.put, List.setIfInBounds_toArray, List.set_cons_zero, List.set_cons_succ])
          refine wpAnyH_take (i := 3) (oi := { dst := some 39, op := Op.move (Operand.tmp 4), type := 28, pos := "laws.go:268", after := #[{ on := 2, ground := Ground.guard }], guard := some (2, false) }) (v := ?v3) rfl (by kernel_rfl) (by kernel_rfl) (by kernel_rfl) (fun _ _ _ h => h) (Or.inl ⟨by rfl, ?y3⟩) hHeld ?r3
          case y3 => (intro w hSw; (try dsimp only at hSw); go_simp; try with_reducible rfl)
          (try simp only [Act.put, List.setIfInBounds_toArray, List.set_cons_zero, List.set_cons_succ])
          refine wpAnyH_take (i := 4) (oi := { dst := some 40, op := Op.move (Operand.tmp 5), type := 3, pos := "laws.go:268", after := #[{ on := 2, ground := Ground.guard }], guard := some (2, false) }) (v := ?v4) rfl (by kernel_rfl) (by kernel_rfl) (by kernel_rfl) (fun _ _ _ h => h) (Or.inl ⟨by rfl, ?y4⟩) hHeld ?r4
          case y4 => (intro w hSw; (try dsimp only at hSw); go_simp; try with_reducible rfl)
          (try simp only [Act.put, List.setIfInBounds_toArray, List.set_cons_zero, List.set_cons_succ])
          refine wpAnyH_take (i := 5) (oi := { dst := some 41, op := Op.indexAddr 28 (Operand.tmp 39) (Operand.tmp 40), type := 0, pos := "laws.go:268", after := #[{ on := 3, ground := Ground.data }, { on := 4, ground := Ground.data }, { on := 2, ground := Ground.guard }], guard := some (2, false) }) (v := ?v5) rfl (by kernel_rfl) (by kernel_rfl) (by kernel_rfl) (fun _ _ _ h => h) (Or.inl ⟨by rfl, ?y5⟩) hHeld ?r5
          case y5 => (intro w hSw; (try dsimp only at hSw); go_simp; try with_reducible rfl)
          (try simp only [Act.put, List.setIfInBounds_toArray, List.set_cons_zero, List.set_cons_succ])
          refine wpAnyH_take (i := 6) (oi := { dst := some 42, op := Op.load 33 (Operand.tmp 41), type := 33, pos := "laws.go:268", after := #[{ on := 5, ground := Ground.data }, { on := 2, ground := Ground.guard }], guard := some (2, false) }) (v := ?v6) rfl (by kernel_rfl) (by kernel_rfl) (by kernel_rfl) (fun _ _ _ h => h) (Or.inl ⟨by rfl, ?y6⟩) hHeld ?r6
          case y6 => (intro w hSw; (try dsimp only at hSw); go_simp; try with_reducible rfl)
          (try simp only [Act.put, List.setIfInBounds_toArray, List.set_cons_zero, List.set_cons_succ])
          refine wpAnyH_take (i := 7) (oi := { dst := some 43, op := Op.call { callee := Callee.builtin Builtin.len, args := #[Operand.tmp 42], argTypes := #[33] }, type := 3, pos := "laws.go:268", after := #[{ on := 6, ground := Ground.data }, { on := 2, ground := Ground.guard }], guard := some (2, false) }) (v := ?v7) rfl (by kernel_rfl) (by kernel_rfl) (by kernel_rfl) (fun _ _ _ h => h) (Or.inl ⟨by rfl, ?y7⟩) hHeld ?r7
          case y7 => (intro w hSw; (try dsimp only at hSw); go_simp; try with_reducible rfl)
          (try simp only [Act.put, List.setIfInBounds_toArray, List.set_cons_zero, List.set_cons_succ])
          refine wpAnyH_take (i := 8) (oi := { dst := some 44, op := Op.binOp BinOp.gtr 3 (Operand.tmp 43) (Operand.const (Value.int IntKind.i64 0)) 3, type := 4, pos := "laws.go:268", after := #[{ on := 7, ground := Ground.data }, { on := 2, ground := Ground.guard }], guard := some (2, false) }) (v := ?v8) rfl (by kernel_rfl) (by kernel_rfl) (by kernel_rfl) (fun _ _ _ h => h) (Or.inl ⟨by rfl, ?y8⟩) hHeld ?r8
          case y8 => (intro w hSw; (try dsimp only at hSw); go_simp; try with_reducible rfl)
          (try simp only [Act.put, List.setIfInBounds_toArray, List.set_cons_zero, List.set_cons_succ])
          refine wpAnyH_take (i := 9) (oi := { dst := some 45, op := Op.move (Operand.tmp 44), type := 4, pos := "laws.go:268", after := #[{ on := 8, ground := Ground.data }, { on := 2, ground := Ground.chain }, { on := 2, ground := Ground.guard }], guard := some (2, false) }) (v := ?v9) rfl (by kernel_rfl) (by kernel_rfl) (by kernel_rfl) (fun _ _ _ h => h) (Or.inl ⟨by rfl, ?y9⟩) hHeld ?r9
          case y9 => (intro w hSw; (try dsimp only at hSw); go_simp; try with_reducible rfl)
          (try simp only [Act.put, List.setIfInBounds_toArray, List.set_cons_zero, List.set_cons_succ])
          refine wpAnyH_take (i := 10) (oi := { dst := some 46, op := Op.move (Operand.tmp 4), type := 28, pos := "laws.go:268", after := #[{ on := 9, ground := Ground.guard }], guard := some (9, true) }) (v := undef) rfl (by kernel_rfl) (by kernel_rfl) (by kernel_rfl) (fun _ _ _ h => h) (Or.inr ⟨by rfl, rfl⟩) hHeld ?_
          (try simp only [Act.put, List.setIfInBounds_toArray, List.set_cons_zero, List.set_cons_succ])
          refine wpAnyH_take (i := 11) (oi := { dst := some 47, op := Op.move (Operand.tmp 5), type := 3, pos := "laws.go:268", after := #[{ on := 9, ground := Ground.guard }], guard := some (9, true) }) (v := undef) rfl (by kernel_rfl) (by kernel_rfl) (by kernel_rfl) (fun _ _ _ h => h) (Or.inr ⟨by rfl, rfl⟩) hHeld ?_
          (try simp only [Act.put, List.setIfInBounds_toArray, List.set_cons_zero, List.set_cons_succ])
          refine wpAnyH_take (i := 12) (oi := { dst := some 48, op := Op.indexAddr 28 (Operand.tmp 46) (Operand.tmp 47), type := 0, pos := "laws.go:268", after := #[{ on := 10, ground := Ground.data }, { on := 11, ground := Ground.data }, { on := 9, ground := Ground.guard }], guard := some (9, true) }) (v := undef) rfl (by kernel_rfl) (by kernel_rfl) (by kernel_rfl) (fun _ _ _ h => h) (Or.inr ⟨by rfl, rfl⟩) hHeld ?_
          (try simp only [Act.put, List.setIfInBounds_toArray, List.set_cons_zero, List.set_cons_succ])
          refine wpAnyH_take (i := 13) (oi := { dst := some 49, op := Op.load 33 (Operand.tmp 48), type := 33, pos := "laws.go:268", after := #[{ on := 12, ground := Ground.data }, { on := 9, ground := Ground.guard }], guard := some (9, true) }) (v := undef) rfl (by kernel_rfl) (by kernel_rfl) (by kernel_rfl) (fun _ _ _ h => h) (Or.inr ⟨by rfl, rfl⟩) hHeld ?_
          (try simp only [Act.put, List.setIfInBounds_toArray, List.set_cons_zero, List.set_cons_succ])
          refine wpAnyH_take (i := 14) (oi := { dst := some 50, op := Op.move (Operand.tmp 4), type := 28, pos := "laws.go:268", after := #[{ on := 9, ground := Ground.guard }], guard := some (9, true) }) (v := undef) rfl (by kernel_rfl) (by kernel_rfl) (by kernel_rfl) (fun _ _ _ h => h) (Or.inr ⟨by rfl, rfl⟩) hHeld ?_
          (try simp only [Act.put, List.setIfInBounds_toArray, List.set_cons_zero, List.set_cons_succ])
          refine wpAnyH_take (i := 15) (oi := { dst := some 51, op := Op.move (Operand.tmp 5), type := 3, pos := "laws.go:268", after := #[{ on := 9, ground := Ground.guard }], guard := some (9, true) }) (v := undef) rfl (by kernel_rfl) (by kernel_rfl) (by kernel_rfl) (fun _ _ _ h => h) (Or.inr ⟨by rfl, rfl⟩) hHeld ?_
          (try simp only [Act.put, List.setIfInBounds_toArray, List.set_cons_zero, List.set_cons_succ])
          refine wpAnyH_take (i := 16) (oi := { dst := some 52, op := Op.indexAddr 28 (Operand.tmp 50) (Operand.tmp 51), type := 0, pos := "laws.go:268", after := #[{ on := 14, ground := Ground.data }, { on := 15, ground := Ground.data }, { on := 9, ground := Ground.guard }], guard := some (9, true) }) (v := undef) rfl (by kernel_rfl) (by kernel_rfl) (by kernel_rfl) (fun _ _ _ h => h) (Or.inr ⟨by rfl, rfl⟩) hHeld ?_
          (try simp only [Act.put, List.setIfInBounds_toArray, List.set_cons_zero, List.set_cons_succ])
          refine wpAnyH_take (i := 17) (oi := { dst := some 53, op := Op.load 33 (Operand.tmp 52), type := 33, pos := "laws.go:268", after := #[{ on := 16, ground := Ground.data }, { on := 9, ground := Ground.guard }], guard := some (9, true) }) (v := undef) rfl (by kernel_rfl) (by kernel_rfl) (by kernel_rfl) (fun _ _ _ h => h) (Or.inr ⟨by rfl, rfl⟩) hHeld ?_
          (try simp only [Act.put, List.setIfInBounds_toArray, List.set_cons_zero, List.set_cons_succ])
          refine wpAnyH_take (i := 18) (oi := { dst := some 54, op := Op.call { callee := Callee.builtin Builtin.len, args := #[Operand.tmp 53], argTypes := #[33] }, type := 3, pos := "laws.go:268", after := #[{ on := 17, ground := Ground.data }, { on := 9, ground := Ground.guard }], guard := some (9, true) }) (v := undef) rfl (by kernel_rfl) (by kernel_rfl) (by kernel_rfl) (fun _ _ _ h => h) (Or.inr ⟨by rfl, rfl⟩) hHeld ?_
          (try simp only [Act.put, List.setIfInBounds_toArray, List.set_cons_zero, List.set_cons_succ])
          refine wpAnyH_take (i := 19) (oi := { dst := some 55, op := Op.binOp BinOp.sub 3 (Operand.tmp 54) (Operand.const (Value.int IntKind.i64 1)) 3, type := 3, pos := "laws.go:268", after := #[{ on := 18, ground := Ground.data }, { on := 9, ground := Ground.guard }], guard := some (9, true) }) (v := undef) rfl (by kernel_rfl) (by kernel_rfl) (by kernel_rfl) (fun _ _ _ h => h) (Or.inr ⟨by rfl, rfl⟩) hHeld ?_
          (try simp only [Act.put, List.setIfInBounds_toArray, List.set_cons_zero, List.set_cons_succ])
          refine wpAnyH_take (i := 20) (oi := { dst := some 56, op := Op.slice 33 (Operand.tmp 49) none (some (Operand.tmp 55)) none, type := 33, pos := "laws.go:268", after := #[{ on := 13, ground := Ground.data }, { on := 19, ground := Ground.data }, { on := 9, ground := Ground.guard }], guard := some (9, true) }) (v := undef) rfl (by kernel_rfl) (by kernel_rfl) (by kernel_rfl) (fun _ _ _ h => h) (Or.inr ⟨by rfl, rfl⟩) hHeld ?_
          (try simp only [Act.put, List.setIfInBounds_toArray, List.set_cons_zero, List.set_cons_succ])
          refine wpAnyH_take (i := 21) (oi := { dst := some 57, op := Op.move (Operand.tmp 4), type := 28, pos := "laws.go:268", after := #[{ on := 9, ground := Ground.guard }], guard := some (9, true) }) (v := undef) rfl (by kernel_rfl) (by kernel_rfl) (by kernel_rfl) (fun _ _ _ h => h) (Or.inr ⟨by rfl, rfl⟩) hHeld ?_
          (try simp only [Act.put, List.setIfInBounds_toArray, List.set_cons_zero, List.set_cons_succ])
          refine wpAnyH_take (i := 22) (oi := { dst := some 58, op := Op.move (Operand.tmp 5), type := 3, pos := "laws.go:268", after := #[{ on := 9, ground := Ground.guard }], guard := some (9, true) }) (v := undef) rfl (by kernel_rfl) (by kernel_rfl) (by kernel_rfl) (fun _ _ _ h => h) (Or.inr ⟨by rfl, rfl⟩) hHeld ?_
          (try simp only [Act.put, List.setIfInBounds_toArray, List.set_cons_zero, List.set_cons_succ])
          refine wpAnyH_take (i := 23) (oi := { dst := some 59, op := Op.indexAddr 28 (Operand.tmp 57) (Operand.tmp 58), type := 0, pos := "laws.go:268", after := #[{ on := 21, ground := Ground.data }, { on := 22, ground := Ground.data }, { on := 9, ground := Ground.guard }], guard := some (9, true) }) (v := undef) rfl (by kernel_rfl) (by kernel_rfl) (by kernel_rfl) (fun _ _ _ h => h) (Or.inr ⟨by rfl, rfl⟩) hHeld ?_
          (try simp only [Act.put, List.setIfInBounds_toArray, List.set_cons_zero, List.set_cons_succ])
          refine wpAnyH_take (i := 24) (oi := { dst := some 60, op := Op.load 33 (Operand.tmp 59), type := 33, pos := "laws.go:268", after := #[{ on := 23, ground := Ground.data }, { on := 9, ground := Ground.guard }], guard := some (9, true) }) (v := undef) rfl (by kernel_rfl) (by kernel_rfl) (by kernel_rfl) (fun _ _ _ h => h) (Or.inr ⟨by rfl, rfl⟩) hHeld ?_
          (try simp only [Act.put, List.setIfInBounds_toArray, List.set_cons_zero, List.set_cons_succ])
          refine wpAnyH_take (i := 25) (oi := { dst := some 61, op := Op.call { callee := Callee.value (Operand.func 9), args := #[Operand.tmp 56, Operand.tmp 60], argTypes := #[33, 33] }, type := 4, pos := "laws.go:268", after := #[{ on := 20, ground := Ground.data }, { on := 24, ground := Ground.data }, { on := 9, ground := Ground.chain }, { on := 9, ground := Ground.guard }], guard := some (9, true) }) (v := undef) rfl (by kernel_rfl) (by kernel_rfl) (by kernel_rfl) (fun _ _ _ h => h) (Or.inr ⟨by rfl, rfl⟩) hHeld ?_
          (try simp only [Act.put, List.setIfInBounds_toArray, List.set_cons_zero, List.set_cons_succ])
          refine wpAnyH_take (i := 26) (oi := { dst := some 62, op := Op.unOp UnOp.not 4 (Operand.tmp 61), type := 4, pos := "laws.go:268", after := #[{ on := 25, ground := Ground.data }, { on := 9, ground := Ground.guard }], guard := some (9, true) }) (v := undef) rfl (by kernel_rfl) (by kernel_rfl) (by kernel_rfl) (fun _ _ _ h => h) (Or.inr ⟨by rfl, rfl⟩) hHeld ?_
          (try simp only [Act.put, List.setIfInBounds_toArray, List.set_cons_zero, List.set_cons_succ])
          refine wpAnyH_take (i := 27) (oi := { dst := some 63, op := Op.pick (Operand.tmp 45) (Operand.tmp 62) (Operand.const (Value.bool false)), type := 4, pos := "laws.go:268", after := #[{ on := 9, ground := Ground.data }, { on := 26, ground := Ground.data }, { on := 2, ground := Ground.guard }], guard := some (2, false) }) (v := ?v27) rfl (by kernel_rfl) (by kernel_rfl) (by kernel_rfl) (fun _ _ _ h => h) (Or.inl ⟨by rfl, ?y27⟩) hHeld ?r27
          case y27 => (intro w hSw; (try dsimp only at hSw); go_simp; try with_reducible rfl)
          (try simp only [Act.put, List.setIfInBounds_toArray, List.set_cons_zero, List.set_cons_succ])
          refine wpAnyH_take (i := 28) (oi := { dst := some 64, op := Op.pick (Operand.tmp 38) (Operand.const (Value.bool true)) (Operand.tmp 63), type := 4, pos := "laws.go:268", after := #[{ on := 2, ground := Ground.data }, { on := 27, ground := Ground.data }], guard := none }) (v := ?v28) rfl (by kernel_rfl) (by kernel_rfl) (by kernel_rfl) (fun _ _ _ h => h) (Or.inl ⟨by rfl, ?y28⟩) hHeld ?r28
          case y28 => (intro w hSw; (try dsimp only at hSw); go_simp; try with_reducible rfl)
          (try simp only [Act.put, List.setIfInBounds_toArray, List.set_cons_zero, List.set_cons_succ])
          refine wpAnyH_take (i := 29) (oi := { dst := some 65, op := Op.move (Operand.tmp 64), type := 4, pos := "laws.go:268", after := #[{ on := 28, ground := Ground.data }, { on := 25, ground := Ground.chain }], guard := none }) (v := ?v29) rfl (by kernel_rfl) (by kernel_rfl) (by kernel_rfl) (fun _ _ _ h => h) (Or.inl ⟨by rfl, ?y29⟩) hHeld ?r29
          case y29 => (intro w hSw; (try dsimp only at hSw); go_simp; try with_reducible rfl)
          (try simp only [Act.put, List.setIfInBounds_toArray, List.set_cons_zero, List.set_cons_succ])
          refine wpAnyH_take (i := 30) (oi := { dst := some 66, op := Op.move (Operand.tmp 4), type := 28, pos := "laws.go:268", after := #[{ on := 29, ground := Ground.guard }], guard := some (29, false) }) (v := ?v30) rfl (by kernel_rfl) (by kernel_rfl) (by kernel_rfl) (fun _ _ _ h => h) (Or.inl ⟨by rfl, ?y30⟩) hHeld ?r30
          case y30 => (intro w hSw; (try dsimp only at hSw); go_simp; try with_reducible rfl)
          (try simp only [Act.put, List.setIfInBounds_toArray, List.set_cons_zero, List.set_cons_succ])
          refine wpAnyH_take (i := 31) (oi := { dst := some 67, op := Op.move (Operand.tmp 5), type := 3, pos := "laws.go:268", after := #[{ on := 29, ground := Ground.guard }], guard := some (29, false) }) (v := ?v31) rfl (by kernel_rfl) (by kernel_rfl) (by kernel_rfl) (fun _ _ _ h => h) (Or.inl ⟨by rfl, ?y31⟩) hHeld ?r31
          case y31 => (intro w hSw; (try dsimp only at hSw); go_simp; try with_reducible rfl)
          (try simp only [Act.put, List.setIfInBounds_toArray, List.set_cons_zero, List.set_cons_succ])
          refine wpAnyH_take (i := 32) (oi := { dst := some 68, op := Op.indexAddr 28 (Operand.tmp 66) (Operand.tmp 67), type := 0, pos := "laws.go:268", after := #[{ on := 30, ground := Ground.data }, { on := 31, ground := Ground.data }, { on := 29, ground := Ground.guard }], guard := some (29, false) }) (v := ?v32) rfl (by kernel_rfl) (by kernel_rfl) (by kernel_rfl) (fun _ _ _ h => h) (Or.inl ⟨by rfl, ?y32⟩) hHeld ?r32
          case y32 => (intro w hSw; (try dsimp only at hSw); go_simp; try with_reducible rfl)
          (try simp only [Act.put, List.setIfInBounds_toArray, List.set_cons_zero, List.set_cons_succ])
          refine wpAnyH_take (i := 33) (oi := { dst := some 69, op := Op.load 33 (Operand.tmp 68), type := 33, pos := "laws.go:268", after := #[{ on := 32, ground := Ground.data }, { on := 29, ground := Ground.guard }], guard := some (29, false) }) (v := ?v33) rfl (by kernel_rfl) (by kernel_rfl) (by kernel_rfl) (fun _ _ _ h => h) (Or.inl ⟨by rfl, ?y33⟩) hHeld ?r33
          case y33 => (intro w hSw; (try dsimp only at hSw); go_simp; try with_reducible rfl)
          (try simp only [Act.put, List.setIfInBounds_toArray, List.set_cons_zero, List.set_cons_succ])
          refine wpAnyH_take (i := 35) (oi := { dst := some 71, op := Op.move (Operand.tmp 4), type := 28, pos := "laws.go:268", after := #[{ on := 29, ground := Ground.guard }], guard := some (29, false) }) (v := ?v35) rfl (by kernel_rfl) (by kernel_rfl) (by kernel_rfl) (fun _ _ _ h => h) (Or.inl ⟨by rfl, ?y35⟩) hHeld ?r35
          case y35 => (intro w hSw; (try dsimp only at hSw); go_simp; try with_reducible rfl)
          (try simp only [Act.put, List.setIfInBounds_toArray, List.set_cons_zero, List.set_cons_succ])
          refine wpAnyH_take (i := 36) (oi := { dst := some 72, op := Op.move (Operand.tmp 5), type := 3, pos := "laws.go:268", after := #[{ on := 29, ground := Ground.guard }], guard := some (29, false) }) (v := ?v36) rfl (by kernel_rfl) (by kernel_rfl) (by kernel_rfl) (fun _ _ _ h => h) (Or.inl ⟨by rfl, ?y36⟩) hHeld ?r36
          case y36 => (intro w hSw; (try dsimp only at hSw); go_simp; try with_reducible rfl)
          (try simp only [Act.put, List.setIfInBounds_toArray, List.set_cons_zero, List.set_cons_succ])
          refine wpAnyH_take (i := 37) (oi := { dst := some 73, op := Op.indexAddr 28 (Operand.tmp 71) (Operand.tmp 72), type := 0, pos := "laws.go:268", after := #[{ on := 35, ground := Ground.data }, { on := 36, ground := Ground.data }, { on := 29, ground := Ground.guard }], guard := some (29, false) }) (v := ?v37) rfl (by kernel_rfl) (by kernel_rfl) (by kernel_rfl) (fun _ _ _ h => h) (Or.inl ⟨by rfl, ?y37⟩) hHeld ?r37
          case y37 => (intro w hSw; (try dsimp only at hSw); go_simp; try with_reducible rfl)
          (try simp only [Act.put, List.setIfInBounds_toArray, List.set_cons_zero, List.set_cons_succ])
          refine wpAnyH_take (i := 38) (oi := { dst := some 74, op := Op.load 33 (Operand.tmp 73), type := 33, pos := "laws.go:268", after := #[{ on := 37, ground := Ground.data }, { on := 29, ground := Ground.guard }], guard := some (29, false) }) (v := ?v38) rfl (by kernel_rfl) (by kernel_rfl) (by kernel_rfl) (fun _ _ _ h => h) (Or.inl ⟨by rfl, ?y38⟩) hHeld ?r38
          case y38 => (intro w hSw; (try dsimp only at hSw); go_simp; try with_reducible rfl)
          (try simp only [Act.put, List.setIfInBounds_toArray, List.set_cons_zero, List.set_cons_succ])
          refine wpAnyH_ready (rs := [34]) (by kernel_rfl) (by simp) ?_
          refine AllReadyH.cons (o := { dst := some 70, op := Op.call { callee := Callee.value (Operand.func 10), args := #[Operand.tmp 69], argTypes := #[33] }, type := 9, pos := "laws.go:268", after := #[{ on := 33, ground := Ground.data }, { on := 29, ground := Ground.chain }, { on := 29, ground := Ground.guard }], guard := some (29, false) }) rfl (fun K hK => ?_) AllReadyH.nil
          (go_simp; refine (HIF.out _ (by (repeat' (first | assumption | exact Below.refl _ _ | refine Below.drew ?_ | refine bel_al ?_ _ | refine bel_st ?_ (by first | exact Nat.le_refl _ | omega) | refine bel_two ?_ (by assumption))))).mono ?_; rintro e w7 ⟨rfl, hb7⟩; go_wp2_with fail; refine hK.out _ _ (HS.out w7 (by (repeat' (first | assumption | exact Below.refl _ _ | refine Below.drew ?_ | refine bel_al ?_ _ | refine bel_st ?_ (by first | exact Nat.le_refl _ | omega) | refine bel_two ?_ (by assumption))))) (fun hHeld => ?_))
          clear hK K
          (try simp only [Act.put, List.setIfInBounds_toArray, List.set_cons_zero, List.set_cons_succ])
          refine wpAnyH_ready (rs := [39]) (by kernel_rfl) (by simp) ?_
          refine AllReadyH.cons (o := { dst := some 75, op := Op.call { callee := Callee.value (Operand.func 11), args := #[Operand.tmp 74], argTypes := #[33] }, type := 9, pos := "laws.go:268", after := #[{ on := 38, ground := Ground.data }, { on := 34, ground := Ground.chain }, { on := 29, ground := Ground.guard }], guard := some (29, false) }) rfl (fun K hK => ?_) AllReadyH.nil
          (go_simp; refine (HSF.out _ (by (repeat' (first | assumption | exact Below.refl _ _ | refine Below.drew ?_ | refine bel_al ?_ _ | refine bel_st ?_ (by first | exact Nat.le_refl _ | omega) | refine bel_two ?_ (by assumption))))).mono ?_; rintro e w8 ⟨rfl, hb8⟩; go_wp2_with fail; refine hK.out _ _ (HS.out w8 (by (repeat' (first | assumption | exact Below.refl _ _ | refine Below.drew ?_ | refine bel_al ?_ _ | refine bel_st ?_ (by first | exact Nat.le_refl _ | omega) | refine bel_two ?_ (by assumption))))) (fun hHeld => ?_))
          clear hK K
          (try simp only [Act.put, List.setIfInBounds_toArray, List.set_cons_zero, List.set_cons_succ])
          refine wpAnyH_take (i := 40) (oi := { dst := some 76, op := Op.binOp BinOp.neq 9 (Operand.tmp 70) (Operand.tmp 75) 9, type := 4, pos := "laws.go:268", after := #[{ on := 34, ground := Ground.data }, { on := 39, ground := Ground.data }, { on := 29, ground := Ground.guard }], guard := some (29, false) }) (v := ?v407) rfl (by kernel_rfl) (by kernel_rfl) (by kernel_rfl) (fun _ _ _ h => h) (Or.inl ⟨by rfl, ?y407⟩) hHeld ?r407
          case y407 => (intro w hSw; (try dsimp only at hSw); go_simp; try with_reducible rfl)
          (try simp only [Act.put, List.setIfInBounds_toArray, List.set_cons_zero, List.set_cons_succ])
          refine wpAnyH_take (i := 41) (oi := { dst := some 77, op := Op.pick (Operand.tmp 65) (Operand.const (Value.bool true)) (Operand.tmp 76), type := 4, pos := "laws.go:268", after := #[{ on := 29, ground := Ground.data }, { on := 40, ground := Ground.data }], guard := none }) (v := ?v417) rfl (by kernel_rfl) (by kernel_rfl) (by kernel_rfl) (fun _ _ _ h => h) (Or.inl ⟨by rfl, ?y417⟩) hHeld ?r417
          case y417 => (intro w hSw; (try dsimp only at hSw); go_simp; try with_reducible rfl)
          (try simp only [Act.put, List.setIfInBounds_toArray, List.set_cons_zero, List.set_cons_succ])
          refine wpAnyH_done (by kernel_rfl) ?_ _
          go_wp2_with fail
          go_meet
          exact ⟨rfl, Lib.hid (by (repeat' (first | assumption | exact Below.refl _ _ | refine Below.drew ?_ | refine bel_al ?_ _ | refine bel_st ?_ (by first | exact Nat.le_refl _ | omega) | refine bel_two ?_ (by assumption))))⟩
        · obtain ⟨q, hq⟩ : ∃ q, x.length = q + 1 := ⟨x.length - 1, by omega⟩
          obtain ⟨y, hy⟩ : ∃ y, x[0]? = some y := ⟨_, List.getElem?_eq_getElem (by omega)⟩
          obtain ⟨ab, ao, rfl, _⟩ := (HCE.out _ (Below.refl _ wc)).2.1.at hy
          clear hy
          have HP := Lib.hid (HIP.out q hq)
          rw [hq] at l1 HIF HSF HS hcap hxl
          have hqz : decide ((0 : Int) < (q : Int) + 1) = true := by simp only [decide_eq_true_eq]; omega
          have hqi : (q : Int) + 1 - 1 = (q : Int) := by omega
          have hq0 : (0 : Int) ≤ (q : Int) := by omega
          have hq2 : q ≤ 1000 := by omega
          have hqw : IntKind.i64.wrap (q : Int) = (q : Int) := IntWalk.i64_in _ (by omega)
          have hqw2 : IntKind.i64.wrap ((q : Int) + 1 - 1) = (q : Int) := by rw [hqi]; exact hqw
          have hqc : (q : Int) ≤ (ac1 : Int) := by omega
          clear HIP HCE HCL HXF HPS HL3 HTA HK1 HAT hx0 hq
          go_region_held3 (fun w' => w'.cell? ⟨g, j, none⟩ = some (.slice (some ⟨ab, ao, none⟩) (q + 1) ac1) ∧ Below wc.heap.size wc w')
            (first | exact HS.out _ (by (repeat' (first | assumption | exact Below.refl _ _ | refine Below.drew ?_ | refine bel_al ?_ _ | refine bel_st ?_ (by first | exact Nat.le_refl _ | omega) | refine bel_two ?_ (by assumption)))) | go_keep)
            (first
              | (go_at_call 9; refine (HP.out _ (by (repeat' (first | assumption | exact Below.refl _ _ | refine Below.drew ?_ | refine bel_al ?_ _ | refine bel_st ?_ (by first | exact Nat.le_refl _ | omega) | refine bel_two ?_ (by assumption))))).mono ?_; rintro e w6 ⟨rfl, hb6⟩)
              | (go_at_call 10; refine (HIF.out _ (by (repeat' (first | assumption | exact Below.refl _ _ | refine Below.drew ?_ | refine bel_al ?_ _ | refine bel_st ?_ (by first | exact Nat.le_refl _ | omega) | refine bel_two ?_ (by assumption))))).mono ?_; rintro e w7 ⟨rfl, hb7⟩)
              | (go_at_call 11; refine (HSF.out _ (by (repeat' (first | assumption | exact Below.refl _ _ | refine Below.drew ?_ | refine bel_al ?_ _ | refine bel_st ?_ (by first | exact Nat.le_refl _ | omega) | refine bel_two ?_ (by assumption))))).mono ?_; rintro e w8 ⟨rfl, hb8⟩))
          all_goals (
            go_wp2_with fail
            go_meet
            exact ⟨rfl, Lib.hid (by (repeat' (first | assumption | exact Below.refl _ _ | refine Below.drew ?_ | refine bel_al ?_ _ | refine bel_st ?_ (by first | exact Nat.le_refl _ | omega) | refine bel_two ?_ (by assumption))))⟩)
      obtain ⟨rfl, HBD⟩ := hcut
      have HBN := Lib.hid (bel_two HB.out (bel_two HBC.out HBD.out))
      clear l1 HCE HIF HSF HBD HBC HCL
      go_wp2
      go_roundw
      case rel => exact ⟨j + 1, by omega, by go_num, HBN⟩
      case measure => simp [intOf]; omega
    · have hje : j = N := by omega
      subst hje
      have HBW := Lib.hid (bel_two HB1.out (bel_two HB2.out HB.out))
      have HCC := Lib.hid (HC1.out.below HBW.out)
      clear HPS HTA HK1 HL3
      go_wp2_with fail
      refine (drawPre_any _ len _ HCC.out).mono ?_
      rintro e w5 ⟨pv, qv, ps, qs, rfl, hi1, hi2, hl1, hl2, hb5⟩
      have HI := Lib.hid (And.intro hi1 hi2)
      have HB5 := Lib.hid (bel_two HBW.out hb5)
      have HI5 : Hid (∀ w', Below w5.heap.size w5 w' → Calls Tryd.prog 9 #[pv, qv] w' (BoolB (prefB ps qs) w')) := Lib.hid (fun w' hb => iPrefix_any _ _ ps qs w' (by omega) (by omega) (HI.out.1.below hb) (HI.out.2.below hb))
      have HS5 : Hid (∀ w', Below w5.heap.size w5 w' → Calls Tryd.prog 13 #[pv, qv] w' (BoolB (prefB ps qs) w')) := Lib.hid (fun w' hb => sPrefix_any _ _ ps qs w' (by omega) (by omega) (HI.out.1.below hb) (HI.out.2.below hb))
      obtain ⟨b, hbb⟩ : ∃ b, b = prefB ps qs := ⟨_, rfl⟩
      rw [← hbb] at HI5 HS5
      have hbe : (b == b) = true := by simp
      clear hi1 hi2 hb5 hbb
      go_wp2_with fail
      refine (HI5.out _ (by (repeat' (first | assumption | exact Below.refl _ _ | refine Below.drew ?_ | refine bel_al ?_ _ | refine bel_st ?_ (by first | exact Nat.le_refl _ | omega) | refine bel_two ?_ (by assumption))))).mono ?_
      rintro e w6 ⟨rfl, hb6⟩
      go_wp2_with fail
      refine (HS5.out _ (by (repeat' (first | assumption | exact Below.refl _ _ | refine Below.drew ?_ | refine bel_al ?_ _ | refine bel_st ?_ (by first | exact Nat.le_refl _ | omega) | refine bel_two ?_ (by assumption))))).mono ?_
      rintro e w7 ⟨rfl, hb7⟩
      have HB7 := Lib.hid (bel_two HB5.out (bel_two hb6 hb7))
      clear hb6 hb7
      go_wp2
      go_ret
      exact ⟨by simp, HB7.out⟩
end Go.Proofs.YtcmhiindjponcaaDoor
