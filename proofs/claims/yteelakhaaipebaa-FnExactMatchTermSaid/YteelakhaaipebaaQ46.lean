/-
  laws.eqBind and laws.eqBindS: two readings of one list of Binds are equal.
-/
import Derived.Test.YteelakhaaipebaaQ20
import Derived.Deep.RegionHeld3
namespace Go.Proofs.Yteelakhaaipebaa
open Go.RowKit

set_option maxRecDepth 100000 in
set_option maxHeartbeats 800000 in
theorem eqBind_any {lo lo' h : Nat} (p : ByteArray) (k n : Int) (s : ByteArray) (u u' : Value) (xs : List T) (w : World) (hs : s.size ≤ maxLen) (ha : ArgsAt w lo h u xs) (ha' : ArgsAt w lo' h u' xs) :
    Calls Try.prog 99 #[bv p k n s u, bv p k n s u'] w (TrueB w) := by
  have hb0 : Below w.heap.size w ((w.alloc (.cells #[.string p, .int .i64 k, .int .i64 n, .string s, u] 86)).alloc (.cells #[.string p, .int .i64 k, .int .i64 n, .string s, u'] 86)) := ((Below.refl _ _).alloc (Nat.le_refl _) _).alloc (by simp) _
  have hc := eqT_any (tv k n s u) (tv k n s u') (.node k n s xs) lo lo' h _ ⟨_, _, _, _, xs, rfl, rfl, hs, ha.below hb0⟩ ⟨_, _, _, _, xs, rfl, rfl, hs, ha'.below hb0⟩
  have HC := Lib.hid hc; clear hc ha ha'
  have HB0 := Lib.hid hb0; clear hb0
  have e3 : (p.toList == p.toList) = true := by simp
  go_enter Try.func99, Try.ntmps99
  go_wp2_with fail
  refine HC.out.mono ?_
  rintro e w1 ⟨rfl, hb1⟩
  have HB1 := Lib.hid (HB0.out.trans (hb1.mono HB0.out.size)); clear hb1
  go_wp2
  go_ret
  exact ⟨rfl, HB1.out⟩

set_option maxRecDepth 100000 in
set_option maxHeartbeats 1600000 in
theorem eqBs_any (u v : Value) (bs : List (ByteArray × T)) (lo lo' h : Nat) (w : World) (hl : bs.length ≤ 9223372036854775807) (hu : BsAt w lo h u bs) (hv : BsAt w lo' h v bs) :
    Calls Try.prog 50 #[u, v] w (TrueB w) := by
  have HC := Lib.hid hu
  have HC' := Lib.hid hv
  obtain ⟨a, cap, rfl⟩ := hu.slice
  obtain ⟨a', cap', rfl⟩ := hv.slice
  clear hu hv
  obtain ⟨n, hn⟩ : ∃ n, n = bs.length := ⟨_, rfl⟩
  rw [← hn] at hl HC HC' ⊢
  have HN := Lib.hid hn; clear hn
  go_enter Try.func50, Try.ntmps50
  go_wp2
  go_loopw [5] (fun i wr => ∃ k : Nat, k ≤ n ∧ i = .int .i64 k ∧ Hid (Below w.heap.size w wr)) (fun i _ => n - (intOf i).toNat)
  case atStart => exact ⟨0, Nat.zero_le _, rfl, Lib.hid (Below.refl _ _)⟩
  case round =>
    obtain ⟨k, hk, rfl, HB⟩ := hrel
    by_cases hlt : k < n
    · obtain ⟨y, ht⟩ : ∃ y, bs[k]? = some y := ⟨_, List.getElem?_eq_getElem (by have := HN.out; omega)⟩
      obtain ⟨b, o, c', p, tk', tn, tsn, txs, u1, e, rfl, _, _, hsz, c0, c1, c2, c3, c4, har⟩ := HC.out.at ht
      obtain ⟨b2, o2, c2', _, _, _, _, _, u2, e', e2, _, _, _, d0, d1, d2, d3, d4, har'⟩ := HC'.out.at ht
      cases e2
      obtain ⟨rfl, -, rfl⟩ : a = some ⟨b, o, none⟩ ∧ n = bs.length ∧ cap = c' := by simpa using e
      obtain ⟨rfl, -, rfl⟩ : a' = some ⟨b2, o2, none⟩ ∧ n = bs.length ∧ cap' = c2' := by simpa using e'
      have HK : Hid (∀ w', Below wr.heap.size wr w' → (w'.cell? ⟨b, o + k * 5, none⟩ = some (.string p) ∧ w'.cell? ⟨b, o + k * 5 + 1, none⟩ = some (.int .i64 tk') ∧ w'.cell? ⟨b, o + k * 5 + 2, none⟩ = some (.int .i64 tn) ∧ w'.cell? ⟨b, o + k * 5 + 3, none⟩ = some (.string tsn) ∧ w'.cell? ⟨b, o + k * 5 + 4, none⟩ = some u1 ∧
          w'.cell? ⟨b2, o2 + k * 5, none⟩ = some (.string p) ∧ w'.cell? ⟨b2, o2 + k * 5 + 1, none⟩ = some (.int .i64 tk') ∧ w'.cell? ⟨b2, o2 + k * 5 + 2, none⟩ = some (.int .i64 tn) ∧ w'.cell? ⟨b2, o2 + k * 5 + 3, none⟩ = some (.string tsn) ∧ w'.cell? ⟨b2, o2 + k * 5 + 4, none⟩ = some u2 ∧ Below wr.heap.size wr w')) := Lib.hid (fun w' hb => by
        have hq := HB.out.trans (hb.mono HB.out.size)
        exact ⟨cell_on hq c0, cell_on hq c1, cell_on hq c2, cell_on hq c3, cell_on hq c4, cell_on hq d0, cell_on hq d1, cell_on hq d2, cell_on hq d3, cell_on hq d4, hb⟩)
      have HCALL : Hid (∀ w', Below wr.heap.size wr w' → Calls Try.prog 99 #[bv p tk' tn tsn u1, bv p tk' tn tsn u2] w' (TrueB w')) := Lib.hid (fun w' hb => by
        have hq := HB.out.trans (hb.mono HB.out.size)
        exact eqBind_any p tk' tn tsn u1 u2 txs w' hsz (har.below hq) (har'.below hq))
      clear c0 c1 c2 c3 c4 d0 d1 d2 d3 d4 e e' ht har har' hsz
      obtain ⟨c0, c1, c2, c3, c4, d0, d1, d2, d3, d4, hb0⟩ := HK.out _ (Below.refl _ _)
      go_wp2
      go_region_held3 (fun w' => w'.cell? ⟨b, o + k * 5, none⟩ = some (.string p) ∧ w'.cell? ⟨b, o + k * 5 + 1, none⟩ = some (.int .i64 tk') ∧ w'.cell? ⟨b, o + k * 5 + 2, none⟩ = some (.int .i64 tn) ∧ w'.cell? ⟨b, o + k * 5 + 3, none⟩ = some (.string tsn) ∧ w'.cell? ⟨b, o + k * 5 + 4, none⟩ = some u1 ∧
          w'.cell? ⟨b2, o2 + k * 5, none⟩ = some (.string p) ∧ w'.cell? ⟨b2, o2 + k * 5 + 1, none⟩ = some (.int .i64 tk') ∧ w'.cell? ⟨b2, o2 + k * 5 + 2, none⟩ = some (.int .i64 tn) ∧ w'.cell? ⟨b2, o2 + k * 5 + 3, none⟩ = some (.string tsn) ∧ w'.cell? ⟨b2, o2 + k * 5 + 4, none⟩ = some u2 ∧ Below wr.heap.size wr w')
        (first | exact HK.out _ (by assumption) | exact HK.out _ (bel_drew (by assumption)) | exact HK.out _ (Below.drew (by assumption)) | exact HK.out _ (Below.trans (by assumption) (Below.mono (by assumption) (Below.size (by assumption)))) | go_keep)
        (first | (go_at_call 99; refine (HCALL.out _ (by first | assumption | exact Below.drew (by assumption))).mono ?_; rintro e w1 ⟨rfl, hb1⟩))
      have HB2 := Lib.hid (HB.out.trans ((bel_drew hb1).mono HB.out.size)); clear hb1
      go_wp2
      go_roundw
      case rel => exact ⟨k + 1, by omega, by go_num, HB2⟩
      case measure => simp [intOf]; omega
    · go_wp2
      go_ret
      exact ⟨rfl, HB.out⟩
theorem eqBs_two (u v : Value) (bs : List (ByteArray × T)) (lo lo' h h' : Nat) (w : World) (hl : bs.length ≤ 9223372036854775807) (hu : BsAt w lo h u bs) (hv : BsAt w lo' h' v bs) :
    Calls Try.prog 50 #[u, v] w (TrueB w) :=
  eqBs_any u v bs lo lo' (max h h') w hl (hu.two hv).1 (hu.two hv).2
end Go.Proofs.Yteelakhaaipebaa
