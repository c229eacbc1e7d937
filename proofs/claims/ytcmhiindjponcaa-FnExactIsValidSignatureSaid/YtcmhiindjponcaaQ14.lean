/-
  laws.eqOp, laws.eqOpS and laws.eqSignature answer true at two readings of one signature.
  The law on IsValidSignature answers true at every signature.
-/
import Derived.Test.YtcmhiindjponcaaQ9
import Derived.Test.YtcmhiindjponcaaQ13
namespace Go.Proofs.Ytcmhiindjponcaa
open Go.RowKit

/-- The six cells of two structs, and that what was there is there. -/
def Cells6 (wr : World) (b o b' o' : Nat) (d : OpD) (u u' : Value) (w' : World) : Prop :=
  w'.cell? ⟨b, o, none⟩ = some (.string d.name) ∧ w'.cell? ⟨b, o + 1, none⟩ = some u ∧ w'.cell? ⟨b, o + 2, none⟩ = some (.string d.res) ∧
  w'.cell? ⟨b', o', none⟩ = some (.string d.name) ∧ w'.cell? ⟨b', o' + 1, none⟩ = some u' ∧ w'.cell? ⟨b', o' + 2, none⟩ = some (.string d.res) ∧ Below wr.heap.size wr w'
theorem Cells6.on {wr w' : World} {b o b' o' : Nat} {d : OpD} {u u' : Value} (h : Cells6 wr b o b' o' d u u' wr) (hb : Below wr.heap.size wr w') : Cells6 wr b o b' o' d u u' w' := by
  obtain ⟨c0, c1, c2, d0, d1, d2, _⟩ := h
  have keep : ∀ {ad : Addr} {v : Value}, wr.cell? ad = some v → w'.cell? ad = some v := fun {ad} {v} hv => by rw [hb.cell (World.block_lt_of_cell? wr _ hv)]; exact hv
  exact ⟨keep c0, keep c1, keep c2, keep d0, keep d1, keep d2, hb⟩

set_option maxRecDepth 100000 in
set_option maxHeartbeats 800000 in
theorem eqOp_any (d : OpD) (u u' : Value) (w : World) (hl : d.args.length ≤ 9223372036854775807) (ha : StrsAt w u d.args) (ha' : StrsAt w u' d.args) :
    Calls Try.prog 31 #[ov d.name u d.res, ov d.name u' d.res] w (TrueB w) := by
  obtain ⟨a0, c0, rfl⟩ := ha.slice
  obtain ⟨a1, c1, rfl⟩ := ha'.slice
  obtain ⟨nm, ps, rs⟩ := d
  have hb0 : Below w.heap.size w ((w.alloc (.cells #[.string nm, .slice a0 ps.length c0, .string rs] 47)).alloc (.cells #[.string nm, .slice a1 ps.length c1, .string rs] 47)) := ((Below.refl _ _).alloc (Nat.le_refl _) _).alloc (by simp) _
  have hc := eqStrs_any _ _ ps ps _ hl (StrsAt.below ha hb0) (StrsAt.below ha' hb0) rfl
  have HC := Lib.hid hc; clear hc ha ha'
  have HB0 := Lib.hid hb0; clear hb0
  have e1 : (nm.toList == nm.toList) = true := by simp
  have e2 : (rs.toList == rs.toList) = true := by simp
  go_enter Try.func31, Try.ntmps31
  go_wp2_with fail
  refine HC.out.mono ?_
  rintro e w1 ⟨rfl, q, rfl⟩
  have HB1 := Lib.hid (HB0.out.trans ((below_q _ q).mono HB0.out.size))
  go_wp2
  go_ret
  exact ⟨rfl, HB1.out⟩

set_option maxRecDepth 100000 in
set_option maxHeartbeats 400000 in
theorem eqOps_empty (a b : Option Addr) (c d : Nat) (w : World) :
    Calls Try.prog 75 #[.slice a 0 c, .slice b 0 d] w (TrueB w) := by
  go_enter Try.func75, Try.ntmps75
  go_wp2
  refine wp_loop_rounds 1 ?_
  rw [rounds_succ]
  go_wp2
  go_ret
  exact ⟨rfl, Below.refl _ _⟩

/-- What the cells of a row of operators hold. -/
def OpRow (w : World) (b o : Nat) (ds : List OpD) : Prop := ∀ i d, ds[i]? = some d → ∃ u', w.cell? ⟨b, o + i * 3, none⟩ = some (.string d.name) ∧ w.cell? ⟨b, o + i * 3 + 1, none⟩ = some u' ∧ w.cell? ⟨b, o + i * 3 + 2, none⟩ = some (.string d.res) ∧ StrsAt w u' d.args

set_option maxRecDepth 100000 in
set_option maxHeartbeats 1600000 in
theorem eqOps_some (b o cap b' o' cap' : Nat) (ds : List OpD) (w : World) (hl : ds.length ≤ 1048576) (hal : ∀ d ∈ ds, d.args.length ≤ 1048576) (hc : OpRow w b o ds) (hc' : OpRow w b' o' ds) :
    Calls Try.prog 75 #[.slice (some ⟨b, o, none⟩) ds.length cap, .slice (some ⟨b', o', none⟩) ds.length cap'] w (TrueB w) := by
  have HC := Lib.hid hc; clear hc
  have HC' := Lib.hid hc'; clear hc'
  have HAL := Lib.hid hal; clear hal
  obtain ⟨n, hn⟩ : ∃ n, n = ds.length := ⟨_, rfl⟩
  rw [← hn] at hl ⊢
  have HN := Lib.hid hn; clear hn
  go_enter Try.func75, Try.ntmps75
  go_wp2
  go_loopw [5] (fun i wr => ∃ k : Nat, k ≤ n ∧ i = .int .i64 k ∧ Hid (Below w.heap.size w wr)) (fun i _ => n - (intOf i).toNat)
  case atStart => exact ⟨0, Nat.zero_le _, rfl, Lib.hid (Below.refl _ _)⟩
  case round =>
    obtain ⟨k, hk, rfl, HB⟩ := hrel
    by_cases hlt : k < n
    · obtain ⟨d, ht⟩ : ∃ d, ds[k]? = some d := ⟨_, List.getElem?_eq_getElem (by have := HN.out; omega)⟩
      obtain ⟨u1, c0, c1, c2, har⟩ := HC.out k _ ht
      obtain ⟨u2, d0, d1, d2, har'⟩ := HC'.out k _ ht
      have keep : ∀ {ad : Addr} {v : Value}, w.cell? ad = some v → wr.cell? ad = some v := fun {ad} {v} hv => by rw [HB.out.cell (World.block_lt_of_cell? w _ hv)]; exact hv
      have h6 : Cells6 wr b (o + k * 3) b' (o' + k * 3) d u1 u2 wr := ⟨keep c0, keep c1, keep c2, keep d0, keep d1, keep d2, Below.refl _ _⟩
      have HAR := Lib.hid (har.below HB.out); clear har
      have HAR' := Lib.hid (har'.below HB.out); clear har'
      have HDL := Lib.hid (HAL.out d (List.mem_of_getElem? ht))
      clear c0 c1 c2 d0 d1 d2 keep ht
      have HK : Hid (∀ w', Below wr.heap.size wr w' → Cells6 wr b (o + k * 3) b' (o' + k * 3) d u1 u2 w') := Lib.hid (fun w' hb => h6.on hb)
      have HCALL : Hid (∀ w', Below wr.heap.size wr w' → Calls Try.prog 31 #[ov d.name u1 d.res, ov d.name u2 d.res] w' (TrueB w')) := Lib.hid (fun w' hb => eqOp_any d u1 u2 w' (by have := HDL.out; omega) (HAR.out.below hb) (HAR'.out.below hb))
      obtain ⟨c0, c1, c2, d0, d1, d2, hb0⟩ := h6
      go_wp2
      go_region_held3 (fun w' => w'.cell? ⟨b, o + k * 3, none⟩ = some (.string d.name) ∧ w'.cell? ⟨b, o + k * 3 + 1, none⟩ = some u1 ∧ w'.cell? ⟨b, o + k * 3 + 2, none⟩ = some (.string d.res) ∧
          w'.cell? ⟨b', o' + k * 3, none⟩ = some (.string d.name) ∧ w'.cell? ⟨b', o' + k * 3 + 1, none⟩ = some u2 ∧ w'.cell? ⟨b', o' + k * 3 + 2, none⟩ = some (.string d.res) ∧ Below wr.heap.size wr w')
        (first | exact HK.out _ (by assumption) | exact HK.out _ (bel_drew (by assumption)) | exact HK.out _ (Below.drew (by assumption)) | exact HK.out _ (Below.trans (by assumption) (Below.mono (by assumption) (Below.size (by assumption)))) | go_keep)
        (first | (go_at_call 31; refine (HCALL.out _ (by first | assumption | exact Below.drew (by assumption))).mono ?_; rintro e w1 ⟨rfl, hb1⟩))
      have HB2 := Lib.hid (HB.out.trans ((bel_drew hb1).mono HB.out.size)); clear hb1
      go_wp2
      go_roundw
      case rel => exact ⟨k + 1, by omega, by go_num, HB2⟩
      case measure => simp [intOf]; omega
    · go_wp2
      go_ret
      exact ⟨rfl, HB.out⟩

theorem eqOps_any (u v : Value) (ds : List OpD) (w : World) (hl : ds.length ≤ 1048576) (hal : ∀ d ∈ ds, d.args.length ≤ 1048576) (hu : OpsAt w u ds) (hv : OpsAt w v ds) :
    Calls Try.prog 75 #[u, v] w (TrueB w) := by
  obtain ⟨a, c, rfl, hu⟩ := hu
  obtain ⟨a', c', rfl, hv⟩ := hv
  rcases hu with rfl | ⟨b, o, rfl, hu⟩
  · exact eqOps_empty _ _ _ _ w
  · rcases hv with rfl | ⟨b', o', rfl, hv⟩
    · exact eqOps_empty _ _ _ _ w
    · exact eqOps_some b o c b' o' c' ds w hl hal hu hv

set_option maxRecDepth 100000 in
set_option maxHeartbeats 800000 in
theorem eqSig_any (x y : Value) (ps : List ByteArray) (ds : List OpD) (w : World) (hp : ps.length ≤ 1048576) (hl : ds.length ≤ 1048576) (hal : ∀ d ∈ ds, d.args.length ≤ 1048576) (hx : SigAt w x ps ds) (hy : SigAt w y ps ds) :
    Calls Try.prog 30 #[x, y] w (TrueB w) := by
  obtain ⟨s, t, rfl, hs, ht⟩ := hx
  obtain ⟨s', t', rfl, hs', ht'⟩ := hy
  have HS := Lib.hid hs
  have HT := Lib.hid ht
  have HS' := Lib.hid hs'
  have HT' := Lib.hid ht'
  obtain ⟨sa, sc, rfl⟩ := hs.slice
  obtain ⟨ta, tc, rfl⟩ := ht.slice
  obtain ⟨sa', sc', rfl⟩ := hs'.slice
  obtain ⟨ta', tc', rfl⟩ := ht'.slice
  have HAL := Lib.hid hal
  clear hs ht hs' ht' hal
  have hb0 : Below w.heap.size w ((w.alloc (.cells #[.slice sa ps.length sc, .slice ta ds.length tc] 27)).alloc (.cells #[.slice sa' ps.length sc', .slice ta' ds.length tc'] 27)) := ((Below.refl _ _).alloc (Nat.le_refl _) _).alloc (by simp) _
  have HB0 := Lib.hid hb0; clear hb0
  go_enter Try.func30, Try.ntmps30
  go_wp2_with fail
  refine (eqStrs_any _ _ ps ps _ (by omega) (HS.out.below HB0.out) (HS'.out.below HB0.out) rfl).mono ?_
  rintro e w1 ⟨rfl, q, rfl⟩
  have HB1 := Lib.hid (HB0.out.trans ((below_q _ q).mono HB0.out.size))
  go_wp2_with fail
  refine (eqOps_any _ _ ds _ hl HAL.out (HT.out.below HB1.out) (HT'.out.below HB1.out)).mono ?_
  rintro e w2 ⟨rfl, hb2⟩
  have HB2 := Lib.hid (HB1.out.trans (hb2.mono HB1.out.size)); clear hb2
  go_wp2
  go_ret
  exact ⟨rfl, HB2.out⟩
end Go.Proofs.Ytcmhiindjponcaa
namespace Go.Proofs.Ytcmhiindjponcaa
open Go.RowKit

/-- The two cells of a signature's box. -/
def BoxS (w : World) (b : Nat) (x y : Value) : Prop := w.cell? ⟨b, 0, none⟩ = some x ∧ w.cell? ⟨b, 1, none⟩ = some y
theorem BoxS.below {w w' : World} {b : Nat} {x y : Value} (h : BoxS w b x y) (hb : Below w.heap.size w w') : BoxS w' b x y := by
  obtain ⟨c0, c1⟩ := h
  exact ⟨by rw [hb.cell (World.block_lt_of_cell? w _ c0)]; exact c0, by rw [hb.cell (World.block_lt_of_cell? w _ c1)]; exact c1⟩
theorem BoxS.new (w : World) (x y : Value) (t : TypeId) : BoxS (w.alloc (.cells #[x, y] t)) w.heap.size x y := by
  have r := heap_new w (.cells #[x, y] t) rfl
  exact ⟨by rw [cell_of_row _ _ 0 _ _ _ r]; rfl, by rw [cell_of_row _ _ 1 _ _ _ r]; rfl⟩

set_option maxRecDepth 100000 in
set_option maxHeartbeats 3200000 in
theorem exValidS_any (x : Value) (ps : List ByteArray) (ds : List OpD) (w : World) (hp : StrsOk ps) (hd : OpsOk ds) (hv : SigAt w x ps ds) :
    Calls Try.prog 6 #[x] w (TrueEnd w) := by
  have HV := Lib.hid hv
  obtain ⟨s, t, rfl, hs, ht⟩ := hv
  obtain ⟨sa, sc, rfl⟩ := hs.slice
  obtain ⟨ta, tc, rfl⟩ := ht.slice
  clear hs ht
  have HP := Lib.hid hp
  have HD := Lib.hid hd
  clear hp hd
  obtain ⟨W, hW⟩ : ∃ W, W = w.alloc (.cells #[.slice sa ps.length sc, .slice ta ds.length tc] 55) := ⟨_, rfl⟩
  have hbW : Below w.heap.size w W := by rw [hW]; exact (Below.refl _ _).alloc (Nat.le_refl _) _
  have HX0 : Hid (BoxS W w.heap.size (.slice sa ps.length sc) (.slice ta ds.length tc)) := Lib.hid (by rw [hW]; exact BoxS.new _ _ _ _)
  obtain ⟨c0, c1⟩ := HX0.out
  have HBW := Lib.hid hbW; clear hbW
  have HVW : Hid (∀ w', Below W.heap.size W w' → SigAt w' (sv (.slice sa ps.length sc) (.slice ta ds.length tc)) ps ds) := Lib.hid (fun w' hb => by
    obtain ⟨a, b, e, h1, h2⟩ := HV.out
    exact ⟨a, b, e, (h1.below HBW.out).below hb, (h2.below HBW.out).below hb⟩)
  clear HV
  obtain ⟨m, hm⟩ : ∃ m, m = ps.length := ⟨_, rfl⟩
  obtain ⟨n, hn⟩ : ∃ n, n = ds.length := ⟨_, rfl⟩
  rw [← hm, ← hn] at HX0 hW HVW ⊢
  rw [← hm] at c0
  rw [← hn] at c1
  clear hm hn
  go_enter Try.func6, Try.ntmps6
  go_wp2_with fail
  rw [← hW]
  clear hW
  refine (szSig_any 1048576 _ ps ds W (by omega) (by omega) HP.out HD.out (HVW.out _ (Below.refl _ _))).mono ?_
  rintro e w1 ⟨r, rfl, hb1, hr1, hr2, hr3⟩
  have HB1 := Lib.hid hb1; clear hb1
  have HR := Lib.hid hr3; clear hr3
  clear c0 c1
  by_cases hr : r < 0
  · go_wp2
    go_ret
    exact ⟨rfl, HBW.out.trans (HB1.out.mono HBW.out.size)⟩
  have hsm := HR.out (by omega)
  have HSM := Lib.hid hsm; clear hsm HR
  obtain ⟨c0, c1⟩ := HX0.out.below HB1.out
  -- the model
  go_wp2_with fail
  refine (toSig_any _ ps ds w1 (small_len HSM.out) HSM.out.2.1 (small_args HSM.out) (HVW.out _ HB1.out)).mono ?_
  intro e w2 hc
  obtain ⟨u, v, rfl, hs2, hb2⟩ := hc.at
  clear hc c0 c1
  have HS2 := Lib.hid hs2; clear hs2
  have HB2 := Lib.hid (HB1.out.trans (hb2.mono HB1.out.size)); clear hb2
  go_wp2_with fail
  refine (sValid_any _ ps ds w2 HSM.out HS2.out).mono ?_
  rintro e w3 ⟨b1, rfl, hq1, hb3⟩
  have HQ1 := Lib.hid hq1; clear hq1
  have HB3 := Lib.hid (HB2.out.trans (hb3.mono HB2.out.size)); clear hb3
  obtain ⟨c0, c1⟩ := HX0.out.below HB3.out
  -- the function
  go_wp2_with fail
  refine (toSig_any _ ps ds w3 (small_len HSM.out) HSM.out.2.1 (small_args HSM.out) (HVW.out _ HB3.out)).mono ?_
  intro e w4 hc
  obtain ⟨u4, v4, rfl, hs4, hb4⟩ := hc.at
  clear hc c0 c1
  obtain ⟨_, _, e4, f4, g4⟩ := hs4
  have HS4 : Hid (SigAt w4 (sv u4 v4) ps ds) := Lib.hid ⟨_, _, e4, f4, g4⟩
  simp only [Value.agg.injEq, Array.mk.injEq, List.cons.injEq, and_true] at e4
  obtain ⟨rfl, rfl⟩ := e4
  obtain ⟨ua, uc, rfl⟩ := f4.slice
  obtain ⟨va, vc, rfl⟩ := g4.slice
  clear f4 g4
  have HB4 := Lib.hid (HB3.out.trans (hb4.mono HB3.out.size)); clear hb4
  obtain ⟨W5, hW5⟩ : ∃ W5, W5 = w4.alloc (.cells #[.slice ua ps.length uc, .slice va ds.length vc] 27) := ⟨_, rfl⟩
  have hb5 : Below w4.heap.size w4 W5 := by rw [hW5]; exact (Below.refl _ _).alloc (Nat.le_refl _) _
  have HX5 : Hid (BoxS W5 w4.heap.size (.slice ua ps.length uc) (.slice va ds.length vc)) := Lib.hid (by rw [hW5]; exact BoxS.new _ _ _ _)
  have HS5 : Hid (∀ w', Below W5.heap.size W5 w' → SigAt w' (sv (.slice ua ps.length uc) (.slice va ds.length vc)) ps ds) := Lib.hid (fun w' hb => by
    obtain ⟨a, b, e, h1, h2⟩ := HS4.out
    exact ⟨a, b, e, (h1.below hb5).below hb, (h2.below hb5).below hb⟩)
  have HB5 := Lib.hid (HB4.out.trans (hb5.mono HB4.out.size)); clear hb5
  go_wp2_with fail
  rw [← hW5]
  clear hW5
  refine (iValid_any _ ps ds W5 HSM.out (HS5.out _ (Below.refl _ _))).mono ?_
  rintro e w6 ⟨b2, rfl, hq2, hb6⟩
  obtain ⟨t1, t2⟩ := both_same hq2 HQ1.out
  clear hq2
  have HB6 := Lib.hid (HB5.out.trans (hb6.mono HB5.out.size))
  have HKB : Hid (∀ w', Below w6.heap.size w6 w' → w'.cell? ⟨w4.heap.size, 0, none⟩ = some (.slice ua ps.length uc) ∧ w'.cell? ⟨w4.heap.size, 1, none⟩ = some (.slice va ds.length vc) ∧ w'.cell? ⟨w.heap.size, 0, none⟩ = some (.slice sa m sc) ∧ w'.cell? ⟨w.heap.size, 1, none⟩ = some (.slice ta n tc) ∧ Below w6.heap.size w6 w') := Lib.hid (fun w' hb => by
    have h1 := (HX5.out.below hb6).below hb
    have h2 := HX0.out.below (HB6.out.trans (hb.mono HB6.out.size))
    exact ⟨h1.1, h1.2, h2.1, h2.2, hb⟩)
  have HS6 : Hid (∀ w', Below w6.heap.size w6 w' → SigAt w' (sv (.slice ua ps.length uc) (.slice va ds.length vc)) ps ds) := Lib.hid (fun w' hb => HS5.out w' (hb6.trans (hb.mono hb6.size)))
  have HV6 : Hid (∀ w', Below w6.heap.size w6 w' → SigAt w' (sv (.slice sa m sc) (.slice ta n tc)) ps ds) := Lib.hid (fun w' hb => HVW.out w' (HB6.out.trans (hb.mono HB6.out.size)))
  have HT7 : Hid (∀ w', Below w6.heap.size w6 w' → Calls Try.prog 29 #[sv (.slice sa m sc) (.slice ta n tc)] w' (CopySig ps ds w')) := Lib.hid (fun w' hb => toSig_any _ ps ds w' (small_len HSM.out) HSM.out.2.1 (small_args HSM.out) (HV6.out w' hb))
  clear hb6
  obtain ⟨c0, c1, c2, c3, hb0⟩ := HKB.out _ (Below.refl _ _)
  go_wp2_with fail
  go_region_held3 (fun w' => w'.cell? ⟨w4.heap.size, 0, none⟩ = some (.slice ua ps.length uc) ∧ w'.cell? ⟨w4.heap.size, 1, none⟩ = some (.slice va ds.length vc) ∧ w'.cell? ⟨w.heap.size, 0, none⟩ = some (.slice sa m sc) ∧ w'.cell? ⟨w.heap.size, 1, none⟩ = some (.slice ta n tc) ∧ Below w6.heap.size w6 w')
    (first | exact HKB.out _ (by (repeat' (first | assumption | exact Below.refl _ _ | refine Below.drew ?_ | refine bel_alo ?_ _ | refine bel_tw ?_ (by assumption)))) | go_keep)
    (first
      | (go_at_call 29; refine (HT7.out _ (by (repeat' (first | assumption | exact Below.refl _ _ | refine Below.drew ?_ | refine bel_alo ?_ _ | refine bel_tw ?_ (by assumption))))).mono ?_; intro e w7 hc; obtain ⟨u7, v7, rfl, hs7, hb7⟩ := hc.at)
      | (go_at_call 30; refine (eqSig_any _ _ ps ds _ (small_len HSM.out) HSM.out.2.1 (small_args HSM.out) (HS6.out _ (by (repeat' (first | assumption | exact Below.refl _ _ | refine Below.drew ?_ | refine bel_alo ?_ _ | refine bel_tw ?_ (by assumption))))) hs7).mono ?_; rintro e w8 ⟨rfl, hb8⟩))
  all_goals (
    have HB8 : Hid (Below w6.heap.size w6 w8) := Lib.hid (by (repeat' (first | assumption | exact Below.refl _ _ | refine Below.drew ?_ | refine bel_alo ?_ _ | refine bel_tw ?_ (by assumption))))
    have HBF := Lib.hid (HBW.out.trans ((HB6.out.trans (HB8.out.mono HB6.out.size)).mono HBW.out.size))
    clear c0 c1 c2 c3
    go_wp2
    go_ret
    exact ⟨rfl, HBF.out⟩)
end Go.Proofs.Ytcmhiindjponcaa
