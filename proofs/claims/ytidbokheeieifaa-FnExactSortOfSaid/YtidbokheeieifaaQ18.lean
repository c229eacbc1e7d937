/-
  laws.eqOp, laws.eqOpS and laws.eqSignature answer true at two readings of one signature.
-/
import Derived.Test.YtidbokheeieifaaQ3
import Derived.Test.YtidbokheeieifaaQ17
namespace Go.Proofs.Ytidbokheeieifaa
open Go.RowKit

/-- The six cells of two structs, and that what was there is there. -/
def Cells6 (wr : World) (b o b' o' : Nat) (d : OpD) (u u' : Value) (w' : World) : Prop :=
  w'.cell? ⟨b, o, none⟩ = some (.string d.name) ∧ w'.cell? ⟨b, o + 1, none⟩ = some u ∧ w'.cell? ⟨b, o + 2, none⟩ = some (.string d.res) ∧
  w'.cell? ⟨b', o', none⟩ = some (.string d.name) ∧ w'.cell? ⟨b', o' + 1, none⟩ = some u' ∧ w'.cell? ⟨b', o' + 2, none⟩ = some (.string d.res) ∧ Below wr.heap.size wr w'
theorem Cells6.on {wr w' : World} {b o b' o' : Nat} {d : OpD} {u u' : Value} (h : Cells6 wr b o b' o' d u u' wr) (hb : Below wr.heap.size wr w') : Cells6 wr b o b' o' d u u' w' := by
  obtain ⟨c0, c1, c2, d0, d1, d2, _⟩ := h
  have keep : ∀ {ad : Addr} {v : Value}, wr.cell? ad = some v → w'.cell? ad = some v := fun {ad} {v} hv => by rw [hb.cell (World.block_lt_of_cell? wr _ hv)]; exact hv
  exact ⟨keep c0, keep c1, keep c2, keep d0, keep d1, keep d2, hb⟩

set_option maxRecDepth 100000 in
set_option maxHeartbeats 800000 in
theorem eqOp_any (d : OpD) (u u' : Value) (w : World) (hl : d.args.length ≤ 9223372036854775807) (ha : StrsAt w u d.args) (ha' : StrsAt w u' d.args) :
    Calls Try.prog 122 #[ov d.name u d.res, ov d.name u' d.res] w (TrueB w) := by
  obtain ⟨a0, c0, rfl⟩ := ha.slice
  obtain ⟨a1, c1, rfl⟩ := ha'.slice
  obtain ⟨nm, ps, rs⟩ := d
  have hb0 : Below w.heap.size w ((w.alloc (.cells #[.string nm, .slice a0 ps.length c0, .string rs] 109)).alloc (.cells #[.string nm, .slice a1 ps.length c1, .string rs] 109)) := ((Below.refl _ _).alloc (Nat.le_refl _) _).alloc (by simp) _
  have hc := eqStrs_any _ _ ps ps _ hl (StrsAt.below ha hb0) (StrsAt.below ha' hb0) rfl
  have HC := Lib.hid hc; clear hc ha ha'
  have HB0 := Lib.hid hb0; clear hb0
  have e1 : (nm.toList == nm.toList) = true := by simp
  have e2 : (rs.toList == rs.toList) = true := by simp
  go_enter Try.func122, Try.ntmps122
  go_wp2_with fail
  refine HC.out.mono ?_
  rintro e w1 ⟨rfl, q, rfl⟩
  have HB1 := Lib.hid (HB0.out.trans ((below_q _ q).mono HB0.out.size))
  go_wp2
  go_ret
  exact ⟨rfl, HB1.out⟩

set_option maxRecDepth 100000 in
set_option maxHeartbeats 400000 in
theorem eqOps_empty (a b : Option Addr) (c d : Nat) (w : World) :
    Calls Try.prog 81 #[.slice a 0 c, .slice b 0 d] w (TrueB w) := by
  go_enter Try.func81, Try.ntmps81
  go_wp2
  refine wp_loop_rounds 1 ?_
  rw [rounds_succ]
  go_wp2
  go_ret
  exact ⟨rfl, Below.refl _ _⟩

/-- What the cells of a row of operators hold. -/
def OpRow (w : World) (b o : Nat) (ds : List OpD) : Prop := ∀ i d, ds[i]? = some d → ∃ u', w.cell? ⟨b, o + i * 3, none⟩ = some (.string d.name) ∧ w.cell? ⟨b, o + i * 3 + 1, none⟩ = some u' ∧ w.cell? ⟨b, o + i * 3 + 2, none⟩ = some (.string d.res) ∧ StrsAt w u' d.args

set_option maxRecDepth 100000 in
set_option maxHeartbeats 1600000 in
theorem eqOps_some (b o cap b' o' cap' : Nat) (ds : List OpD) (w : World) (hl : ds.length ≤ 1048576) (hal : ∀ d ∈ ds, d.args.length ≤ 1048576) (hc : OpRow w b o ds) (hc' : OpRow w b' o' ds) :
    Calls Try.prog 81 #[.slice (some ⟨b, o, none⟩) ds.length cap, .slice (some ⟨b', o', none⟩) ds.length cap'] w (TrueB w) := by
  have HC := Lib.hid hc; clear hc
  have HC' := Lib.hid hc'; clear hc'
  have HAL := Lib.hid hal; clear hal
  obtain ⟨n, hn⟩ : ∃ n, n = ds.length := ⟨_, rfl⟩
  rw [← hn] at hl ⊢
  have HN := Lib.hid hn; clear hn
  go_enter Try.func81, Try.ntmps81
  go_wp2
  go_loopw [5] (fun i wr => ∃ k : Nat, k ≤ n ∧ i = .int .i64 k ∧ Hid (Below w.heap.size w wr)) (fun i _ => n - (intOf i).toNat)
  case atStart => exact ⟨0, Nat.zero_le _, rfl, Lib.hid (Below.refl _ _)⟩
  case round =>
    obtain ⟨k, hk, rfl, HB⟩ := hrel
    by_cases hlt : k < n
    · obtain ⟨d, ht⟩ : ∃ d, ds[k]? = some d := ⟨_, List.getElem?_eq_getElem (by have := HN.out; omega)⟩
      obtain ⟨u1, c0, c1, c2, har⟩ := HC.out k _ ht
      obtain ⟨u2, d0, d1, d2, har'⟩ := HC'.out k _ ht
      have keep : ∀ {ad : Addr} {v : Value}, w.cell? ad = some v → wr.cell? ad = some v := fun {ad} {v} hv => by rw [HB.out.cell (World.block_lt_of_cell? w _ hv)]; exact hv
      have h6 : Cells6 wr b (o + k * 3) b' (o' + k * 3) d u1 u2 wr := ⟨keep c0, keep c1, keep c2, keep d0, keep d1, keep d2, Below.refl _ _⟩
      have HAR := Lib.hid (har.below HB.out); clear har
      have HAR' := Lib.hid (har'.below HB.out); clear har'
      have HDL := Lib.hid (HAL.out d (List.mem_of_getElem? ht))
      clear c0 c1 c2 d0 d1 d2 keep ht
      have HK : Hid (∀ w', Below wr.heap.size wr w' → Cells6 wr b (o + k * 3) b' (o' + k * 3) d u1 u2 w') := Lib.hid (fun w' hb => h6.on hb)
      have HCALL : Hid (∀ w', Below wr.heap.size wr w' → Calls Try.prog 122 #[ov d.name u1 d.res, ov d.name u2 d.res] w' (TrueB w')) := Lib.hid (fun w' hb => eqOp_any d u1 u2 w' (by have := HDL.out; omega) (HAR.out.below hb) (HAR'.out.below hb))
      obtain ⟨c0, c1, c2, d0, d1, d2, hb0⟩ := h6
      go_wp2
      go_region_held3 (fun w' => w'.cell? ⟨b, o + k * 3, none⟩ = some (.string d.name) ∧ w'.cell? ⟨b, o + k * 3 + 1, none⟩ = some u1 ∧ w'.cell? ⟨b, o + k * 3 + 2, none⟩ = some (.string d.res) ∧
          w'.cell? ⟨b', o' + k * 3, none⟩ = some (.string d.name) ∧ w'.cell? ⟨b', o' + k * 3 + 1, none⟩ = some u2 ∧ w'.cell? ⟨b', o' + k * 3 + 2, none⟩ = some (.string d.res) ∧ Below wr.heap.size wr w')
        (first | exact HK.out _ (by assumption) | exact HK.out _ (bel_drew (by assumption)) | exact HK.out _ (Below.drew (by assumption)) | exact HK.out _ (Below.trans (by assumption) (Below.mono (by assumption) (Below.size (by assumption)))) | go_keep)
        (first | (go_at_call 122; refine (HCALL.out _ (by first | assumption | exact Below.drew (by assumption))).mono ?_; rintro e w1 ⟨rfl, hb1⟩))
      have HB2 := Lib.hid (HB.out.trans ((bel_drew hb1).mono HB.out.size)); clear hb1
      go_wp2
      go_roundw
      case rel => exact ⟨k + 1, by omega, by go_num, HB2⟩
      case measure => simp [intOf]; omega
    · go_wp2
      go_ret
      exact ⟨rfl, HB.out⟩

theorem eqOps_any (u v : Value) (ds : List OpD) (w : World) (hl : ds.length ≤ 1048576) (hal : ∀ d ∈ ds, d.args.length ≤ 1048576) (hu : OpsAt w u ds) (hv : OpsAt w v ds) :
    Calls Try.prog 81 #[u, v] w (TrueB w) := by
  obtain ⟨a, c, rfl, hu⟩ := hu
  obtain ⟨a', c', rfl, hv⟩ := hv
  rcases hu with rfl | ⟨b, o, rfl, hu⟩
  · exact eqOps_empty _ _ _ _ w
  · rcases hv with rfl | ⟨b', o', rfl, hv⟩
    · exact eqOps_empty _ _ _ _ w
    · exact eqOps_some b o c b' o' c' ds w hl hal hu hv

set_option maxRecDepth 100000 in
set_option maxHeartbeats 800000 in
theorem eqSig_any (x y : Value) (ps : List ByteArray) (ds : List OpD) (w : World) (hp : ps.length ≤ 1048576) (hl : ds.length ≤ 1048576) (hal : ∀ d ∈ ds, d.args.length ≤ 1048576) (hx : SigAt w x ps ds) (hy : SigAt w y ps ds) :
    Calls Try.prog 27 #[x, y] w (TrueB w) := by
  obtain ⟨s, t, rfl, hs, ht⟩ := hx
  obtain ⟨s', t', rfl, hs', ht'⟩ := hy
  have HS := Lib.hid hs
  have HT := Lib.hid ht
  have HS' := Lib.hid hs'
  have HT' := Lib.hid ht'
  obtain ⟨sa, sc, rfl⟩ := hs.slice
  obtain ⟨ta, tc, rfl⟩ := ht.slice
  obtain ⟨sa', sc', rfl⟩ := hs'.slice
  obtain ⟨ta', tc', rfl⟩ := ht'.slice
  have HAL := Lib.hid hal
  clear hs ht hs' ht' hal
  have hb0 : Below w.heap.size w ((w.alloc (.cells #[.slice sa ps.length sc, .slice ta ds.length tc] 49)).alloc (.cells #[.slice sa' ps.length sc', .slice ta' ds.length tc'] 49)) := ((Below.refl _ _).alloc (Nat.le_refl _) _).alloc (by simp) _
  have HB0 := Lib.hid hb0; clear hb0
  go_enter Try.func27, Try.ntmps27
  go_wp2_with fail
  refine (eqStrs_any _ _ ps ps _ (by omega) (HS.out.below HB0.out) (HS'.out.below HB0.out) rfl).mono ?_
  rintro e w1 ⟨rfl, q, rfl⟩
  have HB1 := Lib.hid (HB0.out.trans ((below_q _ q).mono HB0.out.size))
  go_wp2_with fail
  refine (eqOps_any _ _ ds _ hl HAL.out (HT.out.below HB1.out) (HT'.out.below HB1.out)).mono ?_
  rintro e w2 ⟨rfl, hb2⟩
  have HB2 := Lib.hid (HB1.out.trans (hb2.mono HB1.out.size)); clear hb2
  go_wp2
  go_ret
  exact ⟨rfl, HB2.out⟩
end Go.Proofs.Ytidbokheeieifaa
