/-
  laws.eqTerm and laws.eqTermS answer true at two terms that are one tree.
-/
import Derived.Test.YtidbokheeieifaaQ2
import Derived.WalkLawsBesides
import Derived.BigQuiet
import Derived.Deep.QuietTactic
import Derived.Deep.RegionHeld3
namespace Go.Proofs.Ytidbokheeieifaa
open Go.RowKit

/-- The eight cells of two structs, and that what was there is there. -/
def Cells8 (wr : World) (b o b' o' : Nat) (k n : Int) (s : ByteArray) (u u' : Value) (w' : World) : Prop :=
  w'.cell? ⟨b, o, none⟩ = some (.int .i64 k) ∧ w'.cell? ⟨b, o + 1, none⟩ = some (.int .i64 n) ∧ w'.cell? ⟨b, o + 2, none⟩ = some (.string s) ∧ w'.cell? ⟨b, o + 3, none⟩ = some u ∧
  w'.cell? ⟨b', o', none⟩ = some (.int .i64 k) ∧ w'.cell? ⟨b', o' + 1, none⟩ = some (.int .i64 n) ∧ w'.cell? ⟨b', o' + 2, none⟩ = some (.string s) ∧ w'.cell? ⟨b', o' + 3, none⟩ = some u' ∧ Below wr.heap.size wr w'

theorem Cells8.on {wr w' : World} {b o b' o' : Nat} {k n : Int} {s : ByteArray} {u u' : Value} (h : Cells8 wr b o b' o' k n s u u' wr) (hb : Below wr.heap.size wr w') : Cells8 wr b o b' o' k n s u u' w' := by
  obtain ⟨c0, c1, c2, c3, d0, d1, d2, d3, _⟩ := h
  have keep : ∀ {ad : Addr} {v : Value}, wr.cell? ad = some v → w'.cell? ad = some v := fun {ad} {v} hv => by rw [hb.cell (World.block_lt_of_cell? wr _ hv)]; exact hv
  exact ⟨keep c0, keep c1, keep c2, keep c3, keep d0, keep d1, keep d2, keep d3, hb⟩

def TrueB (w : World) (e : Ending) (w' : World) : Prop := e = .returned (.bool true) ∧ Below w.heap.size w w'

def EqSAt (lo lo' h : Nat) : Prop := ∀ (u u' : Value) (ts : List T) (w : World), ArgsAt w lo h u ts → ArgsAt w lo' h u' ts →
  Calls Try.prog 82 #[u, u'] w (TrueB w)

set_option maxRecDepth 100000 in
set_option maxHeartbeats 800000 in
theorem eqT_of {lo lo' h : Nat} (hS : EqSAt lo lo' h) (k n : Int) (s : ByteArray) (u u' : Value) (xs : List T) (w : World) (ha : ArgsAt w lo h u xs) (ha' : ArgsAt w lo' h u' xs) :
    Calls Try.prog 28 #[tv k n s u, tv k n s u'] w (TrueB w) := by
  have hb0 : Below w.heap.size w ((w.alloc (.cells #[.int .i64 k, .int .i64 n, .string s, u] 26)).alloc (.cells #[.int .i64 k, .int .i64 n, .string s, u'] 26)) := ((Below.refl _ _).alloc (Nat.le_refl _) _).alloc (by simp) _
  have hc := hS u u' xs _ (ha.below hb0) (ha'.below hb0)
  have HC := Lib.hid hc; clear hc ha ha'
  have HB0 := Lib.hid hb0; clear hb0
  have e1 : (k != k) = false := by simp
  have e2 : (n != n) = false := by simp
  have e3 : (s.toList == s.toList) = true := by simp
  go_enter Try.func28, Try.ntmps28
  go_wp2_with fail
  refine HC.out.mono ?_
  rintro e w1 ⟨rfl, hb1⟩
  have HB1 := Lib.hid (HB0.out.trans (hb1.mono HB0.out.size)); clear hb1
  go_wp2
  go_ret
  exact ⟨rfl, HB1.out⟩

set_option maxRecDepth 100000 in
set_option maxHeartbeats 400000 in
theorem eqS_empty (a b : Option Addr) (c d : Nat) (w : World) :
    Calls Try.prog 82 #[.slice a 0 c, .slice b 0 d] w (TrueB w) := by
  go_enter Try.func82, Try.ntmps82
  go_wp2
  refine wp_loop_rounds 1 ?_
  rw [rounds_succ]
  go_wp2
  go_ret
  exact ⟨rfl, Below.refl _ _⟩

set_option maxRecDepth 100000 in
set_option maxHeartbeats 1600000 in
theorem eqS_some {lo lo' h : Nat} (hS : EqSAt lo lo' h) (b o cap b' o' cap' : Nat) (ts : List T) (w : World) (hl : ts.length ≤ maxLen) (hc : RowAt w lo h b o ts) (hc' : RowAt w lo' h b' o' ts) :
    Calls Try.prog 82 #[.slice (some ⟨b, o, none⟩) ts.length cap, .slice (some ⟨b', o', none⟩) ts.length cap'] w (TrueB w) := by
  have HC := Lib.hid hc; clear hc
  have HC' := Lib.hid hc'; clear hc'
  have HSS := Lib.hid hS; clear hS
  obtain ⟨n, hn⟩ : ∃ n, n = ts.length := ⟨_, rfl⟩
  have hl2 : ts.length ≤ 9223372036854775807 := by unfold maxLen at hl; omega
  clear hl
  rw [← hn] at hl2 ⊢
  have HN := Lib.hid hn; clear hn
  go_enter Try.func82, Try.ntmps82
  go_wp2
  go_loopw [5] (fun i wr => ∃ k : Nat, k ≤ n ∧ i = .int .i64 k ∧ Hid (Below w.heap.size w wr)) (fun i _ => n - (intOf i).toNat)
  case atStart => exact ⟨0, Nat.zero_le _, rfl, Lib.hid (Below.refl _ _)⟩
  case round =>
    obtain ⟨k, hk, rfl, HB⟩ := hrel
    by_cases hlt : k < n
    · obtain ⟨t, ht⟩ : ∃ t, ts[k]? = some t := ⟨_, List.getElem?_eq_getElem (by have := HN.out; omega)⟩
      obtain ⟨tk', tn, tsn, txs⟩ := t
      obtain ⟨_, u1, c0, c1, c2, c3, har⟩ := HC.out k _ _ _ _ ht
      obtain ⟨_, u2, d0, d1, d2, d3, har'⟩ := HC'.out k _ _ _ _ ht
      have keep : ∀ {ad : Addr} {v : Value}, w.cell? ad = some v → wr.cell? ad = some v := fun {ad} {v} hv => by rw [HB.out.cell (World.block_lt_of_cell? w _ hv)]; exact hv
      have h8 : Cells8 wr b (o + k * 4) b' (o' + k * 4) tk' tn tsn u1 u2 wr := ⟨keep c0, keep c1, keep c2, keep c3, keep d0, keep d1, keep d2, keep d3, Below.refl _ _⟩
      have HAR := Lib.hid (har.below HB.out); clear har
      have HAR' := Lib.hid (har'.below HB.out); clear har'
      clear c0 c1 c2 c3 d0 d1 d2 d3 keep ht
      have HK : Hid (∀ w', Below wr.heap.size wr w' → Cells8 wr b (o + k * 4) b' (o' + k * 4) tk' tn tsn u1 u2 w') := Lib.hid (fun w' hb => h8.on hb)
      have HCALL : Hid (∀ w', Below wr.heap.size wr w' → Calls Try.prog 28 #[tv tk' tn tsn u1, tv tk' tn tsn u2] w' (TrueB w')) := Lib.hid (fun w' hb => eqT_of HSS.out tk' tn tsn u1 u2 txs w' (HAR.out.below hb) (HAR'.out.below hb))
      obtain ⟨c0, c1, c2, c3, d0, d1, d2, d3, hb0⟩ := h8
      go_wp2
      go_region_held3 (fun w' => w'.cell? ⟨b, o + k * 4, none⟩ = some (.int .i64 tk') ∧ w'.cell? ⟨b, o + k * 4 + 1, none⟩ = some (.int .i64 tn) ∧ w'.cell? ⟨b, o + k * 4 + 2, none⟩ = some (.string tsn) ∧ w'.cell? ⟨b, o + k * 4 + 3, none⟩ = some u1 ∧
          w'.cell? ⟨b', o' + k * 4, none⟩ = some (.int .i64 tk') ∧ w'.cell? ⟨b', o' + k * 4 + 1, none⟩ = some (.int .i64 tn) ∧ w'.cell? ⟨b', o' + k * 4 + 2, none⟩ = some (.string tsn) ∧ w'.cell? ⟨b', o' + k * 4 + 3, none⟩ = some u2 ∧ Below wr.heap.size wr w')
        (first | exact HK.out _ (by assumption) | exact HK.out _ (bel_drew (by assumption)) | exact HK.out _ (Below.drew (by assumption)) | exact HK.out _ (Below.trans (by assumption) (Below.mono (by assumption) (Below.size (by assumption)))) | go_keep)
        (first | (go_at_call 28; refine (HCALL.out _ (by first | assumption | exact Below.drew (by assumption))).mono ?_; rintro e w1 ⟨rfl, hb1⟩))
      have HB2 := Lib.hid (HB.out.trans ((bel_drew hb1).mono HB.out.size)); clear hb1
      go_wp2
      go_roundw
      case rel => exact ⟨k + 1, by omega, by go_num, HB2⟩
      case measure => simp [intOf]; omega
    · go_wp2
      go_ret
      exact ⟨rfl, HB.out⟩

theorem eqS_any (lo lo' : Nat) : ∀ h, EqSAt lo lo' h
  | 0 => fun u u' ts w ha ha' => by
    obtain ⟨rfl, a, cap, rfl⟩ := ha
    obtain ⟨_, a', cap', rfl⟩ := ha'
    exact eqS_empty a a' cap cap' w
  | h + 1 => fun u u' ts w ha ha' => by
    rcases ha.cases with ⟨rfl, a, cap, rfl⟩ | ⟨h1, b, o, cap, e, rfl, hl, _, hc⟩
    · obtain ⟨a', cap', rfl⟩ := ha'.slice
      exact eqS_empty a a' cap cap' w
    · obtain rfl : h = h1 := by omega
      rcases ha'.cases with ⟨rfl, a', cap', rfl⟩ | ⟨h2, b', o', cap', e2, rfl, _, _, hc'⟩
      · exact eqS_empty _ a' cap cap' w
      · obtain rfl : h = h2 := by omega
        exact eqS_some (eqS_any lo lo' h) b o cap b' o' cap' ts w hl hc hc'

/-- laws.eqTerm, at two readings of one tree. -/
theorem eqT_any (v v' : Value) (t : T) (lo lo' h : Nat) (w : World) (ht : TermAt w lo h v t) (ht' : TermAt w lo' h v' t) :
    Calls Try.prog 28 #[v, v'] w (TrueB w) := by
  obtain ⟨k, n, s, u, xs, rfl, rfl, hs, ha⟩ := ht
  obtain ⟨k', n', s', u', xs', rfl, e, hs', ha'⟩ := ht'
  cases e
  exact eqT_of (eqS_any lo lo' h) k n s u u' xs w ha ha'
end Go.Proofs.Ytidbokheeieifaa
