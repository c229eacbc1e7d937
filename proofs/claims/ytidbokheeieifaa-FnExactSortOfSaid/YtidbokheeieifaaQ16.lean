/-
  laws.szOp, laws.szOpS and laws.szSignature count what a signature holds; they change nothing.
-/
import Derived.Test.YtidbokheeieifaaQ3
namespace Go.Proofs.Ytidbokheeieifaa
open Go.RowKit

/-- An operator of a size that the laws look at. -/
def SmallO (d : OpD) : Prop := d.name.size ≤ 1048576 ∧ d.args.length + total d.args ≤ 1048576 ∧ d.res.size ≤ 1048576
def SzO (left : Int) (X : Prop) (w : World) (e : Ending) (w' : World) : Prop :=
  ∃ r : Int, e = .returned (.int .i64 r) ∧ Below w.heap.size w w' ∧ -1 ≤ r ∧ r ≤ left ∧ (0 ≤ r → X)

set_option maxRecDepth 100000 in
set_option maxHeartbeats 800000 in
theorem szOp_any (left : Int) (d : OpD) (u : Value) (w : World) (h0 : 0 ≤ left) (h1 : left ≤ 1048576) (hd : OpOk d) (ha : StrsAt w u d.args) :
    Calls Try.prog 117 #[ov d.name u d.res, .int .i64 left] w (SzO left (SmallO d) w) := by
  have HA := Lib.hid ha
  obtain ⟨a0, c0, rfl⟩ := ha.slice
  have HD := Lib.hid hd
  obtain ⟨nm, ps, rs⟩ := d
  clear ha
  have hn0 : nm.size ≤ maxLen := hd.1
  have hr0 : rs.size ≤ maxLen := hd.2.2
  unfold maxLen at hn0 hr0
  clear hd
  by_cases hn : left < nm.size
  · have hc : left - (nm.size : Int) < 0 := by omega
    go_enter Try.func117, Try.ntmps117
    go_wp2
    go_ret
    exact ⟨-1, rfl, (Below.refl _ _).alloc (Nat.le_refl _) _, by omega, by omega, fun h => by omega⟩
  have hc : ¬ left - (nm.size : Int) < 0 := by omega
  go_enter Try.func117, Try.ntmps117
  go_wp2_with fail
  refine (sz_any (left - nm.size) _ ps _ (by omega) (by omega) (by have := HD.out.2.1.1; unfold maxLen at this; exact Nat.le_trans this (by decide)) (fun p hp => by have := HD.out.2.1.2 p hp; unfold maxLen at this; omega) (HA.out.below ((Below.refl _ _).alloc (Nat.le_refl _) _))).mono ?_
  rintro e w1 ⟨r, rfl, rfl, hr1, hr2⟩
  have HR := Lib.hid hr2; clear hr2
  by_cases hr : r < 0
  · go_wp2
    go_ret
    exact ⟨-1, rfl, (Below.refl _ _).alloc (Nat.le_refl _) _, by omega, by omega, fun h => by omega⟩
  have hl := HR.out (by omega)
  obtain ⟨hl1, hl2⟩ := hl
  have HL := Lib.hid hl1; clear hl1
  by_cases hrs : r < rs.size
  · have hc2 : r - (rs.size : Int) < 0 := by omega
    go_wp2
    go_ret
    exact ⟨-1, rfl, (Below.refl _ _).alloc (Nat.le_refl _) _, by omega, by omega, fun h => by omega⟩
  have hc2 : ¬ r - (rs.size : Int) < 0 := by omega
  go_wp2
  go_ret
  exact ⟨r - rs.size, rfl, (Below.refl _ _).alloc (Nat.le_refl _) _, by omega, by omega, fun _ => ⟨by show nm.size ≤ _; omega, by have := HL.out; show ps.length + total ps ≤ _; omega, by show rs.size ≤ _; omega⟩⟩

set_option maxRecDepth 100000 in
set_option maxHeartbeats 400000 in
theorem szOps_empty (left : Int) (a : Option Addr) (cap : Nat) (w : World) (h0 : 0 ≤ left) (h1 : left ≤ 1048576) :
    Calls Try.prog 69 #[.slice a 0 cap, .int .i64 left] w (SzO left True w) := by
  have hd : decide (left < 0) = false := by simp; omega
  go_enter Try.func69, Try.ntmps69
  go_wp2
  refine wp_loop_rounds 1 ?_
  rw [rounds_succ]
  go_wp2
  go_ret
  exact ⟨left, rfl, Below.refl _ _, by omega, by omega, fun _ => trivial⟩

set_option maxRecDepth 100000 in
set_option maxHeartbeats 800000 in
theorem szOps_some (left : Int) (b o cap : Nat) (ds : List OpD) (w : World) (h0 : 0 ≤ left) (h1 : left ≤ 1048576) (hd : OpsOk ds)
    (hc : ∀ i d, ds[i]? = some d → ∃ u', w.cell? ⟨b, o + i * 3, none⟩ = some (.string d.name) ∧ w.cell? ⟨b, o + i * 3 + 1, none⟩ = some u' ∧ w.cell? ⟨b, o + i * 3 + 2, none⟩ = some (.string d.res) ∧ StrsAt w u' d.args) :
    Calls Try.prog 69 #[.slice (some ⟨b, o, none⟩) ds.length cap, .int .i64 left] w (SzO left (ds.length ≤ 1048576 ∧ ∀ d ∈ ds, SmallO d) w) := by
  have HC := Lib.hid hc; clear hc
  have HD := Lib.hid hd
  have hl : ds.length ≤ maxLen := hd.1
  unfold maxLen at hl
  clear hd
  obtain ⟨n, hn⟩ : ∃ n, n = ds.length := ⟨_, rfl⟩
  rw [← hn] at hl ⊢
  have HN := Lib.hid hn; clear hn
  by_cases hbig : left < n
  · have hd : decide (left - (n : Int) < 0) = true := by simp; omega
    go_enter Try.func69, Try.ntmps69
    go_wp2
    go_ret
    exact ⟨-1, rfl, Below.refl _ _, by omega, by omega, fun h => by omega⟩
  have hd : decide (left - (n : Int) < 0) = false := by simp; omega
  go_enter Try.func69, Try.ntmps69
  go_wp2
  go_loopw [1, 5] (fun q i wr => ∃ (k : Nat) (x : Int), k ≤ n ∧ i = .int .i64 k ∧ q = .int .i64 x ∧ 0 ≤ x ∧ x ≤ left ∧ Hid (∀ d ∈ ds.take k, SmallO d) ∧ Hid (Below w.heap.size w wr)) (fun _ i _ => n - (intOf i).toNat)
  case atStart => exact ⟨0, left - n, Nat.zero_le _, rfl, rfl, by omega, by omega, Lib.hid (fun d hd => by simp at hd), Lib.hid (Below.refl _ _)⟩
  case round =>
    obtain ⟨k, x, hk, rfl, rfl, hx0, hx1, HX, HBR⟩ := hrel
    by_cases hlt : k < n
    · obtain ⟨d, ht⟩ : ∃ d, ds[k]? = some d := ⟨_, List.getElem?_eq_getElem (by have := HN.out; omega)⟩
      obtain ⟨u', c0, c1, c2, har⟩ := HC.out k _ ht
      have keep : ∀ {ad : Addr} {v : Value}, w.cell? ad = some v → wr.cell? ad = some v := fun {ad} {v} hv => by rw [HBR.out.cell (World.block_lt_of_cell? w _ hv)]; exact hv
      have d0 := keep c0
      have d1 := keep c1
      have d2 := keep c2
      clear c0 c1 c2 keep
      have HAR := Lib.hid (har.below HBR.out); clear har
      have HDO := Lib.hid (HD.out.2 d (List.mem_of_getElem? ht))
      have HT := Lib.hid (take_next ds k d ht); clear ht
      go_wp2_with fail
      refine (szOp_any x d u' _ hx0 (by omega) HDO.out HAR.out).mono ?_
      rintro e w2 ⟨r, rfl, hb2, hr1, hr2, hr3⟩
      have HB2 := Lib.hid (HBR.out.trans (hb2.mono HBR.out.size)); clear hb2
      have HR3 := Lib.hid hr3; clear hr3
      by_cases hr : r < 0
      · go_wp2
        go_ret
        exact ⟨-1, rfl, HB2.out, by omega, by omega, fun h => by omega⟩
      go_wp2
      go_roundw
      case rel =>
        refine ⟨k + 1, r, by omega, by go_num, rfl, by omega, by omega, Lib.hid (fun d' hd' => ?_), HB2⟩
        rw [HT.out] at hd'
        rcases List.mem_append.1 hd' with h | h
        · exact HX.out d' h
        · simp at h; subst h; exact HR3.out (by omega)
      case measure => simp [intOf]; omega
    · have hkn : k = n := by omega
      have HF : Hid (∀ d ∈ ds, SmallO d) := Lib.hid (fun d hd => HX.out d (by rw [hkn, HN.out, List.take_length]; exact hd))
      go_wp2
      go_ret
      exact ⟨x, rfl, HBR.out, by omega, by omega, fun _ => ⟨by omega, HF.out⟩⟩

theorem szOps_any (left : Int) (v : Value) (ds : List OpD) (w : World) (h0 : 0 ≤ left) (h1 : left ≤ 1048576) (hd : OpsOk ds) (hv : OpsAt w v ds) :
    Calls Try.prog 69 #[v, .int .i64 left] w (SzO left (ds.length ≤ 1048576 ∧ ∀ d ∈ ds, SmallO d) w) := by
  obtain ⟨a, cap, rfl, hv⟩ := hv
  rcases hv with rfl | ⟨b, o, rfl, hv⟩
  · exact (szOps_empty left a cap w h0 h1).mono fun _ _ ⟨r, e, hb, x, y, _⟩ => ⟨r, e, hb, x, y, fun _ => ⟨by simp, fun d hd => by cases hd⟩⟩
  · exact szOps_some left b o cap ds w h0 h1 hd hv

/-- A signature of a size that the laws look at. -/
def SmallSig (ps : List ByteArray) (ds : List OpD) : Prop := (ps.length + total ps ≤ 1048576) ∧ ds.length ≤ 1048576 ∧ ∀ d ∈ ds, SmallO d

set_option maxRecDepth 100000 in
set_option maxHeartbeats 800000 in
theorem szSig_any (left : Int) (x : Value) (ps : List ByteArray) (ds : List OpD) (w : World) (h0 : 0 ≤ left) (h1 : left ≤ 1048576) (hp : StrsOk ps) (hd : OpsOk ds) (hv : SigAt w x ps ds) :
    Calls Try.prog 19 #[x, .int .i64 left] w (SzO left (SmallSig ps ds) w) := by
  obtain ⟨s, t, rfl, hs, ht⟩ := hv
  have HS := Lib.hid hs
  have HT := Lib.hid ht
  obtain ⟨sa, sc, rfl⟩ := hs.slice
  obtain ⟨ta, tc, rfl⟩ := ht.slice
  have HP := Lib.hid hp
  have HD := Lib.hid hd
  clear hs ht hp hd
  have hba : ∀ o, Below w.heap.size w (w.alloc o) := fun o => (Below.refl _ _).alloc (Nat.le_refl _) _
  have HBA := Lib.hid hba; clear hba
  go_enter Try.func19, Try.ntmps19
  go_wp2_with fail
  refine (sz_any left _ ps _ h0 h1 (by have := HP.out.1; unfold maxLen at this; exact Nat.le_trans this (by decide)) (fun p hp => by have := HP.out.2 p hp; unfold maxLen at this; omega) (HS.out.below (HBA.out _))).mono ?_
  rintro e w1 ⟨r, rfl, rfl, hr1, hr2⟩
  have HR := Lib.hid hr2; clear hr2
  by_cases hr : r < 0
  · go_wp2
    go_ret
    exact ⟨-1, rfl, HBA.out _, by omega, by omega, fun h => by omega⟩
  have hl := HR.out (by omega)
  obtain ⟨hl1, hl2⟩ := hl
  have HL := Lib.hid hl1; clear hl1
  go_wp2_with fail
  refine (szOps_any r _ ds _ (by omega) (by omega) HD.out (HT.out.below (HBA.out _))).mono ?_
  rintro e w2 ⟨r2, rfl, hb2, hr3, hr4, hr5⟩
  have HB2 := Lib.hid ((HBA.out _).trans (hb2.mono (HBA.out _).size)); clear hb2
  have HR5 := Lib.hid hr5; clear hr5
  by_cases hr6 : r2 < 0
  · go_wp2
    go_ret
    exact ⟨-1, rfl, HB2.out, by omega, by omega, fun h => by omega⟩
  go_wp2
  go_ret
  exact ⟨r2, rfl, HB2.out, by omega, by omega, fun _ => ⟨by have := HL.out; omega, HR5.out (by omega)⟩⟩
end Go.Proofs.Ytidbokheeieifaa
