/-
  laws.szVarSortS, laws.toVarSortS and laws.eqVarSortS.
-/
import Derived.Test.YtidbokheeieifaaQ4
import Derived.Test.YtidbokheeieifaaQ16
import Derived.Test.YtidbokheeieifaaQ18
namespace Go.Proofs.Ytidbokheeieifaa
open Go.RowKit

abbrev vp (p : ByteArray × ByteArray) : Value := .agg #[.string p.1, .string p.2]
/-- A variable with its sort, of a size that a machine holds; of a size that the laws look at. -/
def VarOk (p : ByteArray × ByteArray) : Prop := p.1.size ≤ maxLen ∧ p.2.size ≤ maxLen
def VarsOk (vs : List (ByteArray × ByteArray)) : Prop := vs.length ≤ maxLen ∧ ∀ p ∈ vs, VarOk p
def SmallV (p : ByteArray × ByteArray) : Prop := p.1.size ≤ 1048576 ∧ p.2.size ≤ 1048576

set_option maxRecDepth 100000 in
set_option maxHeartbeats 800000 in
theorem szVar_any (left : Int) (p : ByteArray × ByteArray) (w : World) (h0 : 0 ≤ left) (h1 : left ≤ 1048576) (hd : VarOk p) :
    Calls Try.prog 71 #[vp p, .int .i64 left] w (SzO left (SmallV p) w) := by
  obtain ⟨a, b⟩ := p
  have hn0 : a.size ≤ maxLen := hd.1
  have hr0 : b.size ≤ maxLen := hd.2
  unfold maxLen at hn0 hr0
  clear hd
  by_cases hn : left < a.size
  · have hc : left - (a.size : Int) < 0 := by omega
    go_enter Try.func71, Try.ntmps71
    go_wp2
    go_ret
    exact ⟨-1, rfl, (Below.refl _ _).alloc (Nat.le_refl _) _, by omega, by omega, fun h => by omega⟩
  have hc : ¬ left - (a.size : Int) < 0 := by omega
  obtain ⟨r, hr⟩ : ∃ r, r = left - (a.size : Int) := ⟨_, rfl⟩
  have hr0 : 0 ≤ r := by omega
  have hr1 : r ≤ left := by omega
  by_cases hn2 : left - (a.size : Int) < b.size
  · have hc2 : left - (a.size : Int) - (b.size : Int) < 0 := by omega
    go_enter Try.func71, Try.ntmps71
    go_wp2
    go_ret
    exact ⟨-1, rfl, (Below.refl _ _).alloc (Nat.le_refl _) _, by omega, by omega, fun h => by omega⟩
  have hc2 : ¬ left - (a.size : Int) - (b.size : Int) < 0 := by omega
  go_enter Try.func71, Try.ntmps71
  go_wp2
  go_ret
  exact ⟨left - a.size - b.size, rfl, (Below.refl _ _).alloc (Nat.le_refl _) _, by omega, by omega, fun _ => ⟨by show a.size ≤ _; omega, by show b.size ≤ _; omega⟩⟩

set_option maxRecDepth 100000 in
set_option maxHeartbeats 400000 in
theorem szVars_empty (left : Int) (a : Option Addr) (cap : Nat) (w : World) (h0 : 0 ≤ left) (h1 : left ≤ 1048576) :
    Calls Try.prog 21 #[.slice a 0 cap, .int .i64 left] w (SzO left True w) := by
  have hd : decide (left < 0) = false := by simp; omega
  go_enter Try.func21, Try.ntmps21
  go_wp2
  refine wp_loop_rounds 1 ?_
  rw [rounds_succ]
  go_wp2
  go_ret
  exact ⟨left, rfl, Below.refl _ _, by omega, by omega, fun _ => trivial⟩

set_option maxRecDepth 100000 in
set_option maxHeartbeats 800000 in
theorem szVars_some (left : Int) (b o cap : Nat) (vs : List (ByteArray × ByteArray)) (w : World) (h0 : 0 ≤ left) (h1 : left ≤ 1048576) (hd : VarsOk vs)
    (hc : ∀ i p, vs[i]? = some p → w.cell? ⟨b, o + i * 2, none⟩ = some (.string p.1) ∧ w.cell? ⟨b, o + i * 2 + 1, none⟩ = some (.string p.2)) :
    Calls Try.prog 21 #[.slice (some ⟨b, o, none⟩) vs.length cap, .int .i64 left] w (SzO left (vs.length ≤ 1048576 ∧ ∀ p ∈ vs, SmallV p) w) := by
  have HC := Lib.hid hc; clear hc
  have HD := Lib.hid hd
  have hl : vs.length ≤ maxLen := hd.1
  unfold maxLen at hl
  clear hd
  obtain ⟨n, hn⟩ : ∃ n, n = vs.length := ⟨_, rfl⟩
  rw [← hn] at hl ⊢
  have HN := Lib.hid hn; clear hn
  by_cases hbig : left < n
  · have hd : decide (left - (n : Int) < 0) = true := by simp; omega
    go_enter Try.func21, Try.ntmps21
    go_wp2
    go_ret
    exact ⟨-1, rfl, Below.refl _ _, by omega, by omega, fun h => by omega⟩
  have hd : decide (left - (n : Int) < 0) = false := by simp; omega
  go_enter Try.func21, Try.ntmps21
  go_wp2
  go_loopw [1, 5] (fun q i wr => ∃ (k : Nat) (x : Int), k ≤ n ∧ i = .int .i64 k ∧ q = .int .i64 x ∧ 0 ≤ x ∧ x ≤ left ∧ Hid (∀ p ∈ vs.take k, SmallV p) ∧ Hid (Below w.heap.size w wr)) (fun _ i _ => n - (intOf i).toNat)
  case atStart => exact ⟨0, left - n, Nat.zero_le _, rfl, rfl, by omega, by omega, Lib.hid (fun d hd => by simp at hd), Lib.hid (Below.refl _ _)⟩
  case round =>
    obtain ⟨k, x, hk, rfl, rfl, hx0, hx1, HX, HBR⟩ := hrel
    by_cases hlt : k < n
    · obtain ⟨p, ht⟩ : ∃ p, vs[k]? = some p := ⟨_, List.getElem?_eq_getElem (by have := HN.out; omega)⟩
      obtain ⟨c0, c1⟩ := HC.out k _ ht
      have keep : ∀ {ad : Addr} {v : Value}, w.cell? ad = some v → wr.cell? ad = some v := fun {ad} {v} hv => by rw [HBR.out.cell (World.block_lt_of_cell? w _ hv)]; exact hv
      have d0 := keep c0
      have d1 := keep c1
      clear c0 c1 keep
      have HDO := Lib.hid (HD.out.2 p (List.mem_of_getElem? ht))
      have HT := Lib.hid ht; clear ht
      obtain ⟨p1, p2⟩ := p
      go_wp2_with fail
      refine (szVar_any x (p1, p2) _ hx0 (by omega) HDO.out).mono ?_
      rintro e w2 ⟨r, rfl, hb2, hr1, hr2, hr3⟩
      have HB2 := Lib.hid (HBR.out.trans (hb2.mono HBR.out.size)); clear hb2
      have HR3 := Lib.hid hr3; clear hr3
      by_cases hr : r < 0
      · go_wp2
        go_ret
        exact ⟨-1, rfl, HB2.out, by omega, by omega, fun h => by omega⟩
      go_wp2
      go_roundw
      case rel =>
        refine ⟨k + 1, r, by omega, by go_num, rfl, by omega, by omega, Lib.hid (fun d' hd' => ?_), HB2⟩
        rw [List.take_add_one, HT.out] at hd'
        rcases List.mem_append.1 hd' with h | h
        · exact HX.out d' h
        · simp at h; subst h; exact HR3.out (by omega)
      case measure => simp [intOf]; omega
    · have hkn : k = n := by omega
      have HF : Hid (∀ p ∈ vs, SmallV p) := Lib.hid (fun d hd => HX.out d (by rw [hkn, HN.out, List.take_length]; exact hd))
      go_wp2
      go_ret
      exact ⟨x, rfl, HBR.out, by omega, by omega, fun _ => ⟨by omega, HF.out⟩⟩

theorem szVars_any (left : Int) (v : Value) (vs : List (ByteArray × ByteArray)) (w : World) (h0 : 0 ≤ left) (h1 : left ≤ 1048576) (hd : VarsOk vs) (hv : VsAt w v vs) :
    Calls Try.prog 21 #[v, .int .i64 left] w (SzO left (vs.length ≤ 1048576 ∧ ∀ p ∈ vs, SmallV p) w) := by
  obtain ⟨a, cap, rfl, hv⟩ := hv
  rcases hv with rfl | ⟨b, o, rfl, hv⟩
  · exact (szVars_empty left a cap w h0 h1).mono fun _ _ ⟨r, e, hb, x, y, _⟩ => ⟨r, e, hb, x, y, fun _ => ⟨by simp, fun d hd => by cases hd⟩⟩
  · exact szVars_some left b o cap vs w h0 h1 hd hv

/-! ### two readings of one list -/
set_option maxRecDepth 100000 in
set_option maxHeartbeats 800000 in
theorem eqVar_any (p : ByteArray × ByteArray) (w : World) : Calls Try.prog 83 #[vp p, vp p] w (TrueB w) := by
  obtain ⟨a, b⟩ := p
  have e1 : (a.toList == a.toList) = true := by simp
  have e2 : (b.toList == b.toList) = true := by simp
  have HB : Hid (∀ o o', Below w.heap.size w ((w.alloc o).alloc o')) := Lib.hid (fun o o' => ((Below.refl _ _).alloc (Nat.le_refl _) _).alloc (by simp) _)
  go_enter Try.func83, Try.ntmps83
  go_wp2
  go_ret
  exact ⟨rfl, HB.out _ _⟩

set_option maxRecDepth 100000 in
set_option maxHeartbeats 400000 in
theorem eqVars_empty (a b : Option Addr) (c d : Nat) (w : World) :
    Calls Try.prog 29 #[.slice a 0 c, .slice b 0 d] w (TrueB w) := by
  go_enter Try.func29, Try.ntmps29
  go_wp2
  refine wp_loop_rounds 1 ?_
  rw [rounds_succ]
  go_wp2
  go_ret
  exact ⟨rfl, Below.refl _ _⟩

/-- The four cells of two structs, and that what was there is there. -/
def Cells4V (wr : World) (b o b' o' : Nat) (p1 p2 : ByteArray) (w' : World) : Prop :=
  (w'.cell? ⟨b, o, none⟩ = some (.string p1) ∧ w'.cell? ⟨b, o + 1, none⟩ = some (.string p2) ∧ w'.cell? ⟨b', o', none⟩ = some (.string p1) ∧ w'.cell? ⟨b', o' + 1, none⟩ = some (.string p2)) ∧ Below wr.heap.size wr w'
theorem Cells4V.on {wr w' : World} {b o b' o' : Nat} {p1 p2 : ByteArray} (h : Cells4V wr b o b' o' p1 p2 wr) (hb : Below wr.heap.size wr w') : Cells4V wr b o b' o' p1 p2 w' := by
  obtain ⟨⟨c0, c1, d0, d1⟩, _⟩ := h
  have keep : ∀ {ad : Addr} {v : Value}, wr.cell? ad = some v → w'.cell? ad = some v := fun {ad} {v} hv => by rw [hb.cell (World.block_lt_of_cell? wr _ hv)]; exact hv
  exact ⟨⟨keep c0, keep c1, keep d0, keep d1⟩, hb⟩

set_option maxRecDepth 100000 in
set_option maxHeartbeats 1600000 in
theorem eqVars_some (b o cap b' o' cap' : Nat) (vs : List (ByteArray × ByteArray)) (w : World) (hl : vs.length ≤ 1048576)
    (hc : ∀ i p, vs[i]? = some p → w.cell? ⟨b, o + i * 2, none⟩ = some (.string p.1) ∧ w.cell? ⟨b, o + i * 2 + 1, none⟩ = some (.string p.2))
    (hc' : ∀ i p, vs[i]? = some p → w.cell? ⟨b', o' + i * 2, none⟩ = some (.string p.1) ∧ w.cell? ⟨b', o' + i * 2 + 1, none⟩ = some (.string p.2)) :
    Calls Try.prog 29 #[.slice (some ⟨b, o, none⟩) vs.length cap, .slice (some ⟨b', o', none⟩) vs.length cap'] w (TrueB w) := by
  have HC := Lib.hid hc; clear hc
  have HC' := Lib.hid hc'; clear hc'
  obtain ⟨n, hn⟩ : ∃ n, n = vs.length := ⟨_, rfl⟩
  rw [← hn] at hl ⊢
  have HN := Lib.hid hn; clear hn
  go_enter Try.func29, Try.ntmps29
  go_wp2
  go_loopw [5] (fun i wr => ∃ k : Nat, k ≤ n ∧ i = .int .i64 k ∧ Hid (Below w.heap.size w wr)) (fun i _ => n - (intOf i).toNat)
  case atStart => exact ⟨0, Nat.zero_le _, rfl, Lib.hid (Below.refl _ _)⟩
  case round =>
    obtain ⟨k, hk, rfl, HB⟩ := hrel
    by_cases hlt : k < n
    · obtain ⟨p, ht⟩ : ∃ p, vs[k]? = some p := ⟨_, List.getElem?_eq_getElem (by have := HN.out; omega)⟩
      obtain ⟨c0, c1⟩ := HC.out k _ ht
      obtain ⟨d0, d1⟩ := HC'.out k _ ht
      obtain ⟨p1, p2⟩ := p
      have keep : ∀ {ad : Addr} {v : Value}, w.cell? ad = some v → wr.cell? ad = some v := fun {ad} {v} hv => by rw [HB.out.cell (World.block_lt_of_cell? w _ hv)]; exact hv
      have h6 : Cells4V wr b (o + k * 2) b' (o' + k * 2) p1 p2 wr := ⟨⟨keep c0, keep c1, keep d0, keep d1⟩, Below.refl _ _⟩
      clear c0 c1 d0 d1 keep ht
      have HK : Hid (∀ w', Below wr.heap.size wr w' → Cells4V wr b (o + k * 2) b' (o' + k * 2) p1 p2 w') := Lib.hid (fun w' hb => h6.on hb)
      obtain ⟨⟨c0, c1, d0, d1⟩, hb0⟩ := h6
      go_wp2
      go_region_held3 (fun w' => (w'.cell? ⟨b, o + k * 2, none⟩ = some (.string p1) ∧ w'.cell? ⟨b, o + k * 2 + 1, none⟩ = some (.string p2) ∧
          w'.cell? ⟨b', o' + k * 2, none⟩ = some (.string p1) ∧ w'.cell? ⟨b', o' + k * 2 + 1, none⟩ = some (.string p2)) ∧ Below wr.heap.size wr w')
        (first | exact HK.out _ (by assumption) | exact HK.out _ (bel_drew (by assumption)) | exact HK.out _ (Below.drew (by assumption)) | exact HK.out _ (Below.trans (by assumption) (Below.mono (by assumption) (Below.size (by assumption)))))
        (first | (go_at_call 83; refine (eqVar_any (p1, p2) _).mono ?_; rintro e w1 ⟨rfl, hb1⟩))
      have HB2 := Lib.hid (HB.out.trans ((bel_drew hb1).mono HB.out.size)); clear hb1
      go_wp2
      go_roundw
      case rel => exact ⟨k + 1, by omega, by go_num, HB2⟩
      case measure => simp [intOf]; omega
    · go_wp2
      go_ret
      exact ⟨rfl, HB.out⟩

theorem eqVars_any (u v : Value) (vs : List (ByteArray × ByteArray)) (w : World) (hl : vs.length ≤ 1048576) (hu : VsAt w u vs) (hv : VsAt w v vs) :
    Calls Try.prog 29 #[u, v] w (TrueB w) := by
  obtain ⟨a, c, rfl, hu⟩ := hu
  obtain ⟨a', c', rfl, hv⟩ := hv
  rcases hu with rfl | ⟨b, o, rfl, hu⟩
  · exact eqVars_empty _ _ _ _ w
  · rcases hv with rfl | ⟨b', o', rfl, hv⟩
    · exact eqVars_empty _ _ _ _ w
    · exact eqVars_some b o c b' o' c' vs w hl hu hv
end Go.Proofs.Ytidbokheeieifaa
