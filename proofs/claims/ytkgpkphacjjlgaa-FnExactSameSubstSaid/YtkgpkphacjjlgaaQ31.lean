/-
  laws.szTerm and laws.szTermS count what a term holds.
  laws.szBind and laws.szBindS count what a list of Binds holds.
  laws.eqBind and laws.eqBindS: two readings of one list of Binds are equal.
-/
import Derived.Test.YtkgpkphacjjlgaaQ1
import Derived.Test.YtkgpkphacjjlgaaQ10
import Derived.Test.YtkgpkphacjjlgaaQ28
import Derived.WalkLawsBesides
import Derived.BigQuiet
import Derived.Deep.QuietTactic
import Derived.Deep.RegionHeld3
namespace Go.Proofs.Ytkgpkphacjjlgaa
open Go.RowKit

/-- What the count says. -/
def TSz (m : Nat) (left : Int) (w : World) (e : Ending) (w' : World) : Prop :=
  ∃ r : Int, e = .returned (.int .i64 r) ∧ Below w.heap.size w w' ∧ -1 ≤ r ∧ (0 ≤ r → r + m ≤ left)

def SzSAt (lo h : Nat) : Prop := ∀ (u : Value) (ts : List T) (left : Int) (w : World), ArgsAt w lo h u ts → 0 ≤ left → left ≤ 1048576 →
  Calls Try.prog 69 #[u, .int .i64 left] w (TSz (ts.length + wS ts) left w)

set_option maxRecDepth 100000 in
set_option maxHeartbeats 800000 in
theorem szT_of {lo h : Nat} (hS : SzSAt lo h) (k n : Int) (s : ByteArray) (u : Value) (xs : List T) (left : Int) (w : World) (hs : s.size ≤ maxLen) (ha : ArgsAt w lo h u xs) (h0 : 0 ≤ left) (h1 : left ≤ 1048576) :
    Calls Try.prog 26 #[tv k n s u, .int .i64 left] w (TSz (wT (.node k n s xs)) left w) := by
  have hs2 : s.size ≤ 9223372036854775807 := by unfold maxLen at hs; omega
  have hb0 : Below w.heap.size w (w.alloc (.cells #[.int .i64 k, .int .i64 n, .string s, u] 45)) := (Below.refl _ _).alloc (Nat.le_refl _) _
  have HA := Lib.hid (ha.below hb0); clear ha hs
  have HB0 := Lib.hid hb0; clear hb0
  have HW := Lib.hid (wT_node k n s xs)
  by_cases hneg : left - (s.size : Int) < 0
  · go_enter Try.func26, Try.ntmps26
    go_wp2
    go_ret
    exact ⟨-1, rfl, HB0.out, by omega, fun h => by omega⟩
  · go_enter Try.func26, Try.ntmps26
    go_wp2_with fail
    refine (hS u xs (left - (s.size : Int)) _ HA.out (by omega) (by omega)).mono ?_
    rintro e w1 ⟨r, rfl, hb1, hr1, hr2⟩
    have HR := Lib.hid hr2; clear hr2
    have HB1 := Lib.hid (HB0.out.trans (hb1.mono HB0.out.size)); clear hb1
    by_cases hr : r < 0
    · go_wp2
      go_ret
      exact ⟨-1, rfl, HB1.out, by omega, fun h => by omega⟩
    · go_wp2
      go_ret
      refine ⟨r, rfl, HB1.out, by omega, fun h => ?_⟩
      have h2 := HR.out (by omega)
      rw [HW.out]
      omega

set_option maxRecDepth 100000 in
set_option maxHeartbeats 400000 in
theorem szS_empty (left : Int) (a : Option Addr) (cap : Nat) (w : World) (h0 : 0 ≤ left) (h1 : left ≤ 1048576) :
    Calls Try.prog 69 #[.slice a 0 cap, .int .i64 left] w (TSz 0 left w) := by
  have hd : decide (left < 0) = false := by simp; omega
  go_enter Try.func69, Try.ntmps69
  go_wp2
  refine wp_loop_rounds 1 ?_
  rw [rounds_succ]
  go_wp2
  go_ret
  exact ⟨left, rfl, Below.refl _ _, by omega, fun _ => by omega⟩

set_option maxRecDepth 100000 in
set_option maxHeartbeats 1600000 in
theorem szS_some {lo h : Nat} (hS : SzSAt lo h) (b o cap : Nat) (ts : List T) (left : Int) (w : World) (h0 : 0 ≤ left) (h1 : left ≤ 1048576) (hl : ts.length ≤ maxLen)
    (hc : RowAt w lo h b o ts) :
    Calls Try.prog 69 #[.slice (some ⟨b, o, none⟩) ts.length cap, .int .i64 left] w (TSz (ts.length + wS ts) left w) := by
  have HC := Lib.hid hc; clear hc
  have HSS := Lib.hid hS; clear hS
  obtain ⟨n, hn⟩ : ∃ n, n = ts.length := ⟨_, rfl⟩
  have hl2 : ts.length ≤ 9223372036854775807 := by unfold maxLen at hl; omega
  clear hl
  rw [← hn] at hl2 ⊢
  have HN := Lib.hid hn; clear hn
  by_cases hbig : left < n
  · have hd : decide (left - (n : Int) < 0) = true := by simp; omega
    go_enter Try.func69, Try.ntmps69
    go_wp2
    go_ret
    exact ⟨-1, rfl, Below.refl _ _, by omega, fun h => by omega⟩
  · have hd : decide (left - (n : Int) < 0) = false := by simp; omega
    go_enter Try.func69, Try.ntmps69
    go_wp2
    go_loopw [1, 5] (fun q i wr => ∃ (k : Nat) (x : Int), k ≤ n ∧ i = .int .i64 k ∧ q = .int .i64 x ∧ 0 ≤ x ∧ x ≤ left ∧ Hid (x + n + wS (ts.take k) ≤ left) ∧ Below w.heap.size w wr) (fun _ i _ => n - (intOf i).toNat)
    case atStart => exact ⟨0, left - n, Nat.zero_le _, rfl, rfl, by omega, by omega, Lib.hid (by simp [wS]), Below.refl _ _⟩
    case round =>
      obtain ⟨k, x, hk, rfl, rfl, hx0, hx1, HX, hb⟩ := hrel
      have HB := Lib.hid hb; clear hb
      by_cases hlt : k < n
      · obtain ⟨t, ht⟩ : ∃ t, ts[k]? = some t := ⟨_, List.getElem?_eq_getElem (by have := HN.out; omega)⟩
        obtain ⟨tk', tn, tsn, txs⟩ := t
        obtain ⟨hsz, u', c0, c1, c2, c3, har⟩ := HC.out k _ _ _ _ ht
        have keep : ∀ {ad : Addr} {v : Value}, w.cell? ad = some v → wr.cell? ad = some v := fun {ad} {v} hv => by rw [HB.out.cell (World.block_lt_of_cell? w _ hv)]; exact hv
        have d0 := keep c0
        have d1 := keep c1
        have d2 := keep c2
        have d3 := keep c3
        clear c0 c1 c2 c3 keep
        have HAR := Lib.hid (har.below HB.out); clear har
        have HT := Lib.hid (tk ts k _ ht)
        have HSZ := Lib.hid hsz; clear hsz ht
        go_wp2_with fail
        refine (szT_of HSS.out tk' tn tsn u' txs x _ HSZ.out HAR.out hx0 (by omega)).mono ?_
        rintro e w1 ⟨r, rfl, hb1, hr1, hr2⟩
        have HR := Lib.hid hr2; clear hr2
        have HB1 := Lib.hid (HB.out.trans (hb1.mono HB.out.size)); clear hb1
        by_cases hr : r < 0
        · go_wp2
          go_ret
          exact ⟨-1, rfl, HB1.out, by omega, fun h => by omega⟩
        · have hx := HR.out (by omega)
          have HX2 : Hid (r + n + wS (ts.take (k + 1)) ≤ left) := Lib.hid (by rw [HT.out, wS_snoc]; have := HX.out; omega)
          clear hx
          have hrl : r ≤ left := by have := HX2.out; omega
          go_wp2
          go_roundw
          case rel => exact ⟨k + 1, r, by omega, by go_num, rfl, by omega, hrl, HX2, HB1.out⟩
          case measure => simp [intOf]; omega
      · have hkn : k = n := by omega
        have HD : Hid (x + n + wS ts ≤ left) := Lib.hid (by
          have h2 := HX.out
          rw [hkn, HN.out, List.take_length] at h2
          have := HN.out; omega)
        clear hkn
        go_wp2
        go_ret
        exact ⟨x, rfl, HB.out, by omega, fun _ => by have := HD.out; omega⟩

theorem szS_any (lo : Nat) : ∀ h, SzSAt lo h
  | 0 => fun u ts left w ha h0 h1 => by
    obtain ⟨rfl, a, cap, rfl⟩ := ha
    have := szS_empty left a cap w h0 h1
    simpa [wS] using this
  | h + 1 => fun u ts left w ha h0 h1 => by
    rcases ha.cases with ⟨rfl, a, cap, rfl⟩ | ⟨h', b, o, cap, e, rfl, hl, _, hc⟩
    · have := szS_empty left a cap w h0 h1
      simpa [wS] using this
    · obtain rfl : h = h' := by omega
      exact szS_some (szS_any lo h) b o cap ts left w h0 h1 hl hc

theorem szT_any (v : Value) (t : T) (lo h : Nat) (left : Int) (w : World) (ht : TermAt w lo h v t) (h0 : 0 ≤ left) (h1 : left ≤ 1048576) :
    Calls Try.prog 26 #[v, .int .i64 left] w (TSz (wT t) left w) := by
  obtain ⟨k, n, s, u, xs, rfl, rfl, hs, ha⟩ := ht
  exact szT_of (szS_any lo h) k n s u xs left w hs ha h0 h1
end Go.Proofs.Ytkgpkphacjjlgaa
namespace Go.Proofs.Ytkgpkphacjjlgaa
open Go.RowKit

set_option maxRecDepth 100000 in
set_option maxHeartbeats 800000 in
theorem szBind_any {lo h : Nat} (p : ByteArray) (k n : Int) (s : ByteArray) (u : Value) (xs : List T) (left : Int) (w : World) (hp : p.size ≤ maxLen) (hs : s.size ≤ maxLen) (ha : ArgsAt w lo h u xs) (h0 : 0 ≤ left) (h1 : left ≤ 1048576) :
    Calls Try.prog 81 #[bv p k n s u, .int .i64 left] w (TSz (p.size + wT (.node k n s xs)) left w) := by
  have hp2 : p.size ≤ 9223372036854775807 := by unfold maxLen at hp; omega
  have hb0 : Below w.heap.size w (w.alloc (.cells #[.string p, .int .i64 k, .int .i64 n, .string s, u] 126)) := (Below.refl _ _).alloc (Nat.le_refl _) _
  have HA : Hid (TermAt (w.alloc (.cells #[.string p, .int .i64 k, .int .i64 n, .string s, u] 126)) lo h (tv k n s u) (.node k n s xs)) := Lib.hid ⟨_, _, _, _, xs, rfl, rfl, hs, ha.below hb0⟩
  clear ha hs
  have HB0 := Lib.hid hb0; clear hb0
  obtain ⟨tw, htw⟩ : ∃ tw, tw = wT (.node k n s xs) := ⟨_, rfl⟩
  have HC := Lib.hid (fun (l : Int) (a : 0 ≤ l) (b : l ≤ 1048576) => szT_any _ (.node k n s xs) lo h l _ HA.out a b)
  rw [← htw] at HC ⊢
  clear htw hp
  by_cases hneg : left - (p.size : Int) < 0
  · go_enter Try.func81, Try.ntmps81
    go_wp2
    go_ret
    exact ⟨-1, rfl, HB0.out, by omega, fun h => by omega⟩
  · go_enter Try.func81, Try.ntmps81
    go_wp2_with fail
    refine (HC.out (left - (p.size : Int)) (by omega) (by omega)).mono ?_
    rintro e w1 ⟨r, rfl, hb1, hr1, hr2⟩
    have HR := Lib.hid hr2; clear hr2
    have HB1 := Lib.hid (HB0.out.trans (hb1.mono HB0.out.size)); clear hb1
    by_cases hr : r < 0
    · go_wp2
      go_ret
      exact ⟨-1, rfl, HB1.out, by omega, fun h => by omega⟩
    · go_wp2
      go_ret
      refine ⟨r, rfl, HB1.out, by omega, fun h => ?_⟩
      have h2 := HR.out (by omega)
      omega

set_option maxRecDepth 100000 in
set_option maxHeartbeats 1600000 in
theorem szBs_any (u : Value) (bs : List (ByteArray × T)) (lo h : Nat) (left : Int) (w : World) (hu : BsAt w lo h u bs) (h0 : 0 ≤ left) (h1 : left ≤ 1048576) :
    Calls Try.prog 36 #[u, .int .i64 left] w (TSz (wBs bs) left w) := by
  have hl := hu.len
  have HC := Lib.hid hu
  obtain ⟨a, cap, rfl⟩ := hu.slice
  clear hu
  obtain ⟨n, hn⟩ : ∃ n, n = bs.length := ⟨_, rfl⟩
  have hl2 : bs.length ≤ 9223372036854775807 := by unfold maxLen at hl; omega
  clear hl
  rw [← hn] at hl2 HC ⊢
  have HN := Lib.hid hn; clear hn
  by_cases hbig : left < n
  · have hd : decide (left - (n : Int) < 0) = true := by simp; omega
    go_enter Try.func36, Try.ntmps36
    go_wp2
    go_ret
    exact ⟨-1, rfl, Below.refl _ _, by omega, fun h => by omega⟩
  · have hd : decide (left - (n : Int) < 0) = false := by simp; omega
    go_enter Try.func36, Try.ntmps36
    go_wp2
    go_loopw [1, 5] (fun q i wr => ∃ (k : Nat) (x : Int), k ≤ n ∧ i = .int .i64 k ∧ q = .int .i64 x ∧ 0 ≤ x ∧ x ≤ left ∧ Hid (x + n + wBs (bs.take k) ≤ left + k) ∧ Below w.heap.size w wr) (fun _ i _ => n - (intOf i).toNat)
    case atStart => exact ⟨0, left - n, Nat.zero_le _, rfl, rfl, by omega, by omega, Lib.hid (by simp [wBs]), Below.refl _ _⟩
    case round =>
      obtain ⟨k, x, hk, rfl, rfl, hx0, hx1, HX, hb⟩ := hrel
      have HB := Lib.hid hb; clear hb
      by_cases hlt : k < n
      · obtain ⟨y, ht⟩ : ∃ y, bs[k]? = some y := ⟨_, List.getElem?_eq_getElem (by have := HN.out; omega)⟩
        obtain ⟨b, o, c', p, tk', tn, tsn, txs, u', e, rfl, _, hps, hsz, c0, c1, c2, c3, c4, har⟩ := HC.out.at ht
        obtain ⟨rfl, -, rfl⟩ : a = some ⟨b, o, none⟩ ∧ n = bs.length ∧ cap = c' := by simpa using e
        have d0 := cell_on HB.out c0
        have d1 := cell_on HB.out c1
        have d2 := cell_on HB.out c2
        have d3 := cell_on HB.out c3
        have d4 := cell_on HB.out c4
        clear c0 c1 c2 c3 c4 e
        have HAR := Lib.hid (har.below HB.out); clear har
        have HT := Lib.hid (tk bs k _ ht)
        have HSZ := Lib.hid (And.intro hps hsz); clear hsz hps ht
        go_wp2_with fail
        refine (szBind_any p tk' tn tsn u' txs x _ HSZ.out.1 HSZ.out.2 HAR.out hx0 (by omega)).mono ?_
        rintro e w1 ⟨r, rfl, hb1, hr1, hr2⟩
        have HR := Lib.hid hr2; clear hr2
        have HB1 := Lib.hid (HB.out.trans (hb1.mono HB.out.size)); clear hb1
        by_cases hr : r < 0
        · go_wp2
          go_ret
          exact ⟨-1, rfl, HB1.out, by omega, fun h => by omega⟩
        · have hx := HR.out (by omega)
          have HX2 : Hid (r + n + wBs (bs.take (k + 1)) ≤ left + (k + 1 : Nat)) := Lib.hid (by rw [HT.out, wBs_snoc]; have := HX.out; simp only; omega)
          have hrl : r ≤ left := by have h1 := HX2.out; have h2 := wBs_len (bs.take (k + 1)); rw [List.length_take] at h2; have h3 := HN.out; omega
          clear hx
          go_wp2
          go_roundw
          case rel => exact ⟨k + 1, r, by omega, by go_num, rfl, by omega, hrl, HX2, HB1.out⟩
          case measure => simp [intOf]; omega
      · have hkn : k = n := by omega
        have HD : Hid (x + wBs bs ≤ left) := Lib.hid (by
          have h2 := HX.out
          rw [hkn, HN.out, List.take_length] at h2
          omega)
        clear hkn
        go_wp2
        go_ret
        exact ⟨x, rfl, HB.out, by omega, fun _ => by have := HD.out; omega⟩
end Go.Proofs.Ytkgpkphacjjlgaa
namespace Go.Proofs.Ytkgpkphacjjlgaa
open Go.RowKit

set_option maxRecDepth 100000 in
set_option maxHeartbeats 800000 in
theorem eqBind_any {lo lo' h : Nat} (p : ByteArray) (k n : Int) (s : ByteArray) (u u' : Value) (xs : List T) (w : World) (hs : s.size ≤ maxLen) (ha : ArgsAt w lo h u xs) (ha' : ArgsAt w lo' h u' xs) :
    Calls Try.prog 83 #[bv p k n s u, bv p k n s u'] w (TrueB w) := by
  have hb0 : Below w.heap.size w ((w.alloc (.cells #[.string p, .int .i64 k, .int .i64 n, .string s, u] 87)).alloc (.cells #[.string p, .int .i64 k, .int .i64 n, .string s, u'] 87)) := ((Below.refl _ _).alloc (Nat.le_refl _) _).alloc (by simp) _
  have hc := eqT_any (tv k n s u) (tv k n s u') (.node k n s xs) lo lo' h _ ⟨_, _, _, _, xs, rfl, rfl, hs, ha.below hb0⟩ ⟨_, _, _, _, xs, rfl, rfl, hs, ha'.below hb0⟩
  have HC := Lib.hid hc; clear hc ha ha'
  have HB0 := Lib.hid hb0; clear hb0
  have e3 : (p.toList == p.toList) = true := by simp
  go_enter Try.func83, Try.ntmps83
  go_wp2_with fail
  refine HC.out.mono ?_
  rintro e w1 ⟨rfl, hb1⟩
  have HB1 := Lib.hid (HB0.out.trans (hb1.mono HB0.out.size)); clear hb1
  go_wp2
  go_ret
  exact ⟨rfl, HB1.out⟩

set_option maxRecDepth 100000 in
set_option maxHeartbeats 1600000 in
theorem eqBs_any (u v : Value) (bs : List (ByteArray × T)) (lo lo' h : Nat) (w : World) (hl : bs.length ≤ 9223372036854775807) (hu : BsAt w lo h u bs) (hv : BsAt w lo' h v bs) :
    Calls Try.prog 40 #[u, v] w (TrueB w) := by
  have HC := Lib.hid hu
  have HC' := Lib.hid hv
  obtain ⟨a, cap, rfl⟩ := hu.slice
  obtain ⟨a', cap', rfl⟩ := hv.slice
  clear hu hv
  obtain ⟨n, hn⟩ : ∃ n, n = bs.length := ⟨_, rfl⟩
  rw [← hn] at hl HC HC' ⊢
  have HN := Lib.hid hn; clear hn
  go_enter Try.func40, Try.ntmps40
  go_wp2
  go_loopw [5] (fun i wr => ∃ k : Nat, k ≤ n ∧ i = .int .i64 k ∧ Hid (Below w.heap.size w wr)) (fun i _ => n - (intOf i).toNat)
  case atStart => exact ⟨0, Nat.zero_le _, rfl, Lib.hid (Below.refl _ _)⟩
  case round =>
    obtain ⟨k, hk, rfl, HB⟩ := hrel
    by_cases hlt : k < n
    · obtain ⟨y, ht⟩ : ∃ y, bs[k]? = some y := ⟨_, List.getElem?_eq_getElem (by have := HN.out; omega)⟩
      obtain ⟨b, o, c', p, tk', tn, tsn, txs, u1, e, rfl, _, _, hsz, c0, c1, c2, c3, c4, har⟩ := HC.out.at ht
      obtain ⟨b2, o2, c2', _, _, _, _, _, u2, e', e2, _, _, _, d0, d1, d2, d3, d4, har'⟩ := HC'.out.at ht
      cases e2
      obtain ⟨rfl, -, rfl⟩ : a = some ⟨b, o, none⟩ ∧ n = bs.length ∧ cap = c' := by simpa using e
      obtain ⟨rfl, -, rfl⟩ : a' = some ⟨b2, o2, none⟩ ∧ n = bs.length ∧ cap' = c2' := by simpa using e'
      have HK : Hid (∀ w', Below wr.heap.size wr w' → (w'.cell? ⟨b, o + k * 5, none⟩ = some (.string p) ∧ w'.cell? ⟨b, o + k * 5 + 1, none⟩ = some (.int .i64 tk') ∧ w'.cell? ⟨b, o + k * 5 + 2, none⟩ = some (.int .i64 tn) ∧ w'.cell? ⟨b, o + k * 5 + 3, none⟩ = some (.string tsn) ∧ w'.cell? ⟨b, o + k * 5 + 4, none⟩ = some u1 ∧
          w'.cell? ⟨b2, o2 + k * 5, none⟩ = some (.string p) ∧ w'.cell? ⟨b2, o2 + k * 5 + 1, none⟩ = some (.int .i64 tk') ∧ w'.cell? ⟨b2, o2 + k * 5 + 2, none⟩ = some (.int .i64 tn) ∧ w'.cell? ⟨b2, o2 + k * 5 + 3, none⟩ = some (.string tsn) ∧ w'.cell? ⟨b2, o2 + k * 5 + 4, none⟩ = some u2 ∧ Below wr.heap.size wr w')) := Lib.hid (fun w' hb => by
        have hq := HB.out.trans (hb.mono HB.out.size)
        exact ⟨cell_on hq c0, cell_on hq c1, cell_on hq c2, cell_on hq c3, cell_on hq c4, cell_on hq d0, cell_on hq d1, cell_on hq d2, cell_on hq d3, cell_on hq d4, hb⟩)
      have HCALL : Hid (∀ w', Below wr.heap.size wr w' → Calls Try.prog 83 #[bv p tk' tn tsn u1, bv p tk' tn tsn u2] w' (TrueB w')) := Lib.hid (fun w' hb => by
        have hq := HB.out.trans (hb.mono HB.out.size)
        exact eqBind_any p tk' tn tsn u1 u2 txs w' hsz (har.below hq) (har'.below hq))
      clear c0 c1 c2 c3 c4 d0 d1 d2 d3 d4 e e' ht har har' hsz
      obtain ⟨c0, c1, c2, c3, c4, d0, d1, d2, d3, d4, hb0⟩ := HK.out _ (Below.refl _ _)
      go_wp2
      go_region_held3 (fun w' => w'.cell? ⟨b, o + k * 5, none⟩ = some (.string p) ∧ w'.cell? ⟨b, o + k * 5 + 1, none⟩ = some (.int .i64 tk') ∧ w'.cell? ⟨b, o + k * 5 + 2, none⟩ = some (.int .i64 tn) ∧ w'.cell? ⟨b, o + k * 5 + 3, none⟩ = some (.string tsn) ∧ w'.cell? ⟨b, o + k * 5 + 4, none⟩ = some u1 ∧
          w'.cell? ⟨b2, o2 + k * 5, none⟩ = some (.string p) ∧ w'.cell? ⟨b2, o2 + k * 5 + 1, none⟩ = some (.int .i64 tk') ∧ w'.cell? ⟨b2, o2 + k * 5 + 2, none⟩ = some (.int .i64 tn) ∧ w'.cell? ⟨b2, o2 + k * 5 + 3, none⟩ = some (.string tsn) ∧ w'.cell? ⟨b2, o2 + k * 5 + 4, none⟩ = some u2 ∧ Below wr.heap.size wr w')
        (first | exact HK.out _ (by assumption) | exact HK.out _ (bel_drew (by assumption)) | exact HK.out _ (Below.drew (by assumption)) | exact HK.out _ (Below.trans (by assumption) (Below.mono (by assumption) (Below.size (by assumption)))) | go_keep)
        (first | (go_at_call 83; refine (HCALL.out _ (by first | assumption | exact Below.drew (by assumption))).mono ?_; rintro e w1 ⟨rfl, hb1⟩))
      have HB2 := Lib.hid (HB.out.trans ((bel_drew hb1).mono HB.out.size)); clear hb1
      go_wp2
      go_roundw
      case rel => exact ⟨k + 1, by omega, by go_num, HB2⟩
      case measure => simp [intOf]; omega
    · go_wp2
      go_ret
      exact ⟨rfl, HB.out⟩
theorem eqBs_two (u v : Value) (bs : List (ByteArray × T)) (lo lo' h h' : Nat) (w : World) (hl : bs.length ≤ 9223372036854775807) (hu : BsAt w lo h u bs) (hv : BsAt w lo' h' v bs) :
    Calls Try.prog 40 #[u, v] w (TrueB w) :=
  eqBs_any u v bs lo lo' (max h h') w hl (hu.two hv).1 (hu.two hv).2
end Go.Proofs.Ytkgpkphacjjlgaa
