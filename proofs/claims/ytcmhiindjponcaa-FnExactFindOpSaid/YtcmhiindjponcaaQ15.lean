/-
  laws.markOpS and laws.markSignature write over a signature of the call's own: only its own rows turn. laws.markOp, laws.heldOp.
-/
import Derived.Test.YtcmhiindjponcaaQ6
import Derived.Test.YtcmhiindjponcaaQ14
namespace Go.Proofs.Ytcmhiindjponcaa
open Go.RowKit

theorem own_formM {w : World} {B n size : Nat} {e : TypeId} {v : Value} {xs : List Value} (h : w.ownsRow B e size v n xs) : ∃ a c, v = .slice a n c := by
  rcases h.2 with ⟨rfl, h0⟩ | ⟨g, cap, cur, rfl, _⟩
  · exact ⟨none, 0, by rw [h0]⟩
  · exact ⟨_, _, rfl⟩
theorem Out.of_grown {lo hi : Nat} {w w' : World} {row : Option Nat} (hr : ∀ b, row = some b → lo ≤ b ∧ b < hi) (h : w.grownBy w' row) : Out lo hi w w' :=
  ⟨h.os, h.tape, h.output, h.size, fun b hb ho => h.block b hb (fun e => by have := hr b e.symm; omega)⟩
theorem Out.size {lo hi : Nat} {w w' : World} (h : Out lo hi w w') : w.heap.size ≤ w'.heap.size := h.2.2.2.1

/-- What is kept while the rows are written over: the row of the operators, and the rows of the arguments from j on. -/
def MarkR (g n cap j : Nat) (U : Nat → Value) (L : Nat → Nat) (ds : List OpD) (w : World) : Prop :=
  ∃ xs, w.ownsRow g 47 3 (.slice (some ⟨g, 0, none⟩) n cap) n xs ∧ (∀ i, i < n → xs[i * 3 + 1]? = some (U i)) ∧ (∀ i d, j ≤ i → ds[i]? = some d → w.ownsRow (L i) 9 1 (U i) d.args.length (d.args.map Value.string))

theorem MarkR.below {g n cap j : Nat} {U : Nat → Value} {L : Nat → Nat} {ds : List OpD} {w w' : World} (h : MarkR g n cap j U L ds w) (hb : Below w.heap.size w w') : MarkR g n cap j U L ds w' := by
  obtain ⟨xs, h1, h2, h3⟩ := h
  exact ⟨xs, keep_own h1 hb, h2, fun i d hi hd => keep_own (h3 i d hi hd) hb⟩
theorem MarkR.cell {g n cap j : Nat} {U : Nat → Value} {L : Nat → Nat} {ds : List OpD} {w : World} (h : MarkR g n cap j U L ds w) {i : Nat} (hi : i < n) (q : Nat) (hq : q < 3) :
    (∃ v, w.cell? ⟨g, i * 3 + q, none⟩ = some v) ∧ w.frozen? ⟨g, i * 3 + q, none⟩ = false := by
  obtain ⟨xs, h1, _, _⟩ := h
  have hl := h1.1
  refine ⟨?_, h1.frozenAt _⟩
  rw [h1.cellAt (i * 3 + q) (by omega)]
  exact ⟨_, List.getElem?_eq_getElem (by omega)⟩
theorem MarkR.mid {g n cap j : Nat} {U : Nat → Value} {L : Nat → Nat} {ds : List OpD} {w : World} (h : MarkR g n cap j U L ds w) {i : Nat} (hi : i < n) : w.cell? ⟨g, i * 3 + 1, none⟩ = some (U i) := by
  obtain ⟨xs, h1, h2, _⟩ := h
  have hl := h1.1
  rw [h1.cellAt (i * 3 + 1) (by omega), h2 i hi]
theorem MarkR.store {g n cap j : Nat} {U : Nat → Value} {L : Nat → Nat} {ds : List OpD} {w : World} (h : MarkR g n cap j U L ds w) (hL : ∀ i, i < ds.length → g < L i) (p : Nat) (v : Value) (hp : ∀ i, i * 3 + 1 ≠ p) : MarkR g n cap j U L ds (w.setCell ⟨g, p, none⟩ v) := by
  obtain ⟨xs, h1, h2, h3⟩ := h
  refine ⟨_, (h1.stored p v).1, fun i hi => ?_, fun i d hi hd => row_off (h3 i d hi hd) (hL i (List.getElem?_eq_some_iff.1 hd).1)⟩
  rw [List.getElem?_set_ne (by have := hp i; omega)]
  exact h2 i hi

theorem MarkR.next {g n cap j : Nat} {U : Nat → Value} {L : Nat → Nat} {ds : List OpD} {w w' : World} {m : Nat} {ys : List Value} (h : MarkR g n cap j U L ds w) (hL : ∀ i, i < ds.length → g < L i) (hD : ∀ i, j < i → i < ds.length → ∀ b, (U j).ownBlock = some b → b < L i) (hj : j < ds.length)
    (ho : w.ownsRow (L j) 9 1 (U j) m ys) (hg : w.grownBy w' (U j).ownBlock) : MarkR g n cap (j + 1) U L ds w' := by
  obtain ⟨xs, h1, h2, h3⟩ := h
  refine ⟨xs, h1.kept hg (Or.inr fun e => by have h5 := (ho.lt g e.symm).1; have := hL j hj; omega), h2, fun i d hi hd => ?_⟩
  have hil := (List.getElem?_eq_some_iff.1 hd).1
  exact keep_above (h3 i d (by omega) hd) (fun k hk => hD i (by omega) hil k hk) hg
theorem marks_nat (B n k : Nat) (x : Int) (v : Value) (xs : List Value) (w : World) (hx : x = (k : Int)) (hk : 1 ≤ k) (hkn : (k : Int) + n ≤ 9223372036854775807) (hown : w.ownsRow B 9 1 v n xs) :
    Calls Try.prog 76 #[v, .int .i64 x] w fun e w' => e = .returned (.int .i64 (x + (n : Int))) ∧ w'.ownsRow B 9 1 v n ((marks k n).map Value.string) ∧ w.grownBy w' v.ownBlock := by
  subst hx; exact marks_any B n k v xs w hk hkn hown

/-- Only rows between lo and hi turn; the count is a number that is not below 1. -/
def MarkE (lo hi : Nat) (top : Int) (w : World) (e : Ending) (w' : World) : Prop := ∃ x : Int, e = .returned (.int .i64 x) ∧ 1 ≤ x ∧ x ≤ top ∧ Out lo hi w w'

set_option maxRecDepth 100000 in
set_option maxHeartbeats 1600000 in
theorem markOps_some (g n cap lo hi k : Nat) (U : Nat → Value) (L : Nat → Nat) (ds : List OpD) (w : World) (hn : n = ds.length) (hnb : n ≤ 1048576) (hk : 1 ≤ k) (hkb : k ≤ 2097153) (hal : ∀ d ∈ ds, d.args.length ≤ 1048576)
    (hlo : lo ≤ g) (hhi : g < hi) (hL : ∀ i, i < ds.length → g < L i ∧ ∀ b, (U i).ownBlock = some b → b < hi) (hD : ∀ i j, i < j → j < ds.length → ∀ b, (U i).ownBlock = some b → b < L j) (hm : MarkR g n cap 0 U L ds w) :
    Calls Try.prog 77 #[.slice (some ⟨g, 0, none⟩) n cap, .int .i64 k] w (MarkE lo hi ((k : Int) + n * 1048578) w) := by
  have HM := Lib.hid hm; clear hm
  have HN := Lib.hid hn; clear hn
  have HAL := Lib.hid hal; clear hal
  have HL := Lib.hid hL; clear hL
  have HD := Lib.hid hD; clear hD
  go_enter Try.func77, Try.ntmps77
  go_wp2
  go_loopw [1, 5] (fun q i wr => ∃ j kk : Nat, j ≤ n ∧ i = .int .i64 j ∧ q = .int .i64 kk ∧ 1 ≤ kk ∧ kk ≤ k + j * 1048578 ∧ Hid (MarkR g n cap j U L ds wr) ∧ Hid (Out lo hi w wr)) (fun _ i _ => n - (intOf i).toNat)
  case atStart => exact ⟨0, k, Nat.zero_le _, rfl, rfl, hk, by omega, HM, Lib.hid (Out.refl _ _ _)⟩
  case round =>
    obtain ⟨j, kk, hj, rfl, rfl, hk1, hk2, HR, HO⟩ := hrel
    by_cases hlt : j < n
    · obtain ⟨d, hd⟩ : ∃ d, ds[j]? = some d := ⟨_, List.getElem?_eq_getElem (by have := HN.out; omega)⟩
      have HDA := Lib.hid (HAL.out d (List.mem_of_getElem? hd))
      have HDD := Lib.hid hd
      have hjd : j < ds.length := by have := HN.out; omega
      have HJD := Lib.hid hjd; clear hjd
      have hkk : (kk : Int) ≤ 1099516870653 := by omega
      obtain ⟨xs0, _, _, hrows⟩ := HR.out
      obtain ⟨ua, uc, hU⟩ : ∃ a c, U j = .slice a d.args.length c := by
        rcases (hrows j d (Nat.le_refl _) hd).2 with ⟨e, h0⟩ | ⟨g', cap', cur, e, _⟩
        · exact ⟨none, 0, by rw [e, h0]⟩
        · exact ⟨_, _, e⟩
      have HU := Lib.hid hU
      clear hrows hd hU
      -- the name
      go_wp2_with fail
      refine (markText_int _ kk _ rfl hk1 (by omega)).mono ?_
      rintro e w1 ⟨rfl, hb1⟩
      have HR1 := Lib.hid (HR.out.below hb1)
      have HO1 := Lib.hid (HO.out.trans (Out.of_below hb1)); clear hb1
      obtain ⟨⟨v0, a0⟩, f0⟩ := HR1.out.cell hlt 0 (by omega)
      rw [Nat.add_zero] at a0 f0
      have HR2 := Lib.hid (HR1.out.store (fun i hi => (HL.out i hi).1) (j * 3) (.string (mark kk)) (fun i => by omega))
      have HO2 := Lib.hid (HO1.out.trans (Out.set (lo := lo) (hi := hi) w1 g (j * 3) (.string (mark kk)) hlo hhi))
      obtain ⟨W2, hW2⟩ : ∃ W2, W2 = w1.setCell ⟨g, j * 3, none⟩ (.string (mark kk)) := ⟨_, rfl⟩
      rw [← hW2] at HR2 HO2
      have hmid := HR2.out.mid hlt
      rw [HU.out] at hmid
      have hw1 : IntKind.i64.wrap ((kk : Int) + 1) = (kk : Int) + 1 := IntWalk.i64_in _ (by omega)
      have hmid' := hmid
      rw [hW2] at hmid'
      go_wp2_with fail
      rw [← hW2]
      clear hW2 a0 f0 hmid'
      obtain ⟨_, _, _, hrows⟩ := HR2.out
      have hrow := hrows j d (Nat.le_refl _) HDD.out
      clear hrows
      have HROW := Lib.hid hrow; clear hrow
      obtain ⟨m, hm⟩ : ∃ m, m = d.args.length := ⟨_, rfl⟩
      have hmb : m ≤ 1048576 := by rw [hm]; exact HDA.out
      rw [← hm] at HROW HU hmid ⊢
      clear hm
      refine (marks_nat (L j) m (kk + 1) _ _ _ W2 (by omega) (by omega) (by omega) (by rw [← HU.out]; exact HROW.out)).mono ?_
      rintro e w3 ⟨rfl, _, hg3⟩
      rw [← HU.out] at hg3
      have HR3 := Lib.hid (HR2.out.next (fun i hi => (HL.out i hi).1) (fun i hji hi => HD.out j i hji hi) HJD.out HROW.out hg3)
      have HO3 := Lib.hid (HO2.out.trans (Out.of_grown (lo := lo) (hi := hi) (fun b hb => by
        have h1 := (HROW.out.lt b hb).1
        have h2 := (HL.out j HJD.out)
        have h3 := h2.2 b hb
        omega) hg3))
      clear hg3 hmid
      have hw2 : IntKind.i64.wrap ((kk : Int) + 1 + (m : Int) + 1) = (kk : Int) + 1 + (m : Int) + 1 := IntWalk.i64_in _ (by omega)
      go_wp2_with fail
      refine (markText_int _ (kk + 1 + m) _ (by omega) (by omega) (by omega)).mono ?_
      rintro e w4 ⟨rfl, hb4⟩
      have HR4 := Lib.hid (HR3.out.below hb4)
      have HO4 := Lib.hid (HO3.out.trans (Out.of_below hb4)); clear hb4
      obtain ⟨⟨v4, a4⟩, f4⟩ := HR4.out.cell hlt 2 (by omega)
      have HR5 := Lib.hid (HR4.out.store (fun i hi => (HL.out i hi).1) (j * 3 + 2) (.string (mark (kk + 1 + m))) (fun i => by omega))
      have HO5 := Lib.hid (HO4.out.trans (Out.set (lo := lo) (hi := hi) w4 g (j * 3 + 2) (.string (mark (kk + 1 + m))) hlo hhi))
      go_wp2
      go_roundw
      case rel => exact ⟨j + 1, kk + 1 + m + 1, by omega, by go_num, by push_cast; rfl, by omega, by omega, HR5, HO5⟩
      case measure => simp [intOf]; omega
    · go_wp2
      go_ret
      exact ⟨kk, rfl, by omega, by have : j = n := by omega
                                   subst this; omega, HO.out⟩
set_option maxRecDepth 100000 in
set_option maxHeartbeats 400000 in
theorem markOps_empty (lo hi k : Nat) (a : Option Addr) (cap : Nat) (w : World) (hk : 1 ≤ k) : Calls Try.prog 77 #[.slice a 0 cap, .int .i64 k] w (MarkE lo hi (k : Int) w) := by
  go_enter Try.func77, Try.ntmps77
  go_wp2
  refine wp_loop_rounds 1 ?_
  rw [rounds_succ]
  go_wp2
  go_ret
  exact ⟨k, rfl, by omega, by omega, Out.refl _ _ _⟩

theorem markOps_any (lo hi k : Nat) (u : Value) (ds : List OpD) (w : World) (hnb : ds.length ≤ 1048576) (hk : 1 ≤ k) (hkb : k ≤ 2097153) (hal : ∀ d ∈ ds, d.args.length ≤ 1048576) (ho : OwnOps w lo hi u ds) :
    Calls Try.prog 77 #[u, .int .i64 k] w (MarkE lo hi ((k : Int) + ds.length * 1048578) w) := by
  obtain ⟨a, cap, rfl, hc⟩ := ho
  rcases hc with rfl | ⟨g, xs, U, L, rfl, h1, h2, ho, hx, hl, hd⟩
  · refine (markOps_empty lo hi k a cap w hk).mono fun e w' ⟨x, e1, x1, x2, x3⟩ => ⟨x, e1, x1, by simpa using x2, x3⟩
  · refine markOps_some g _ cap lo hi k U L ds w rfl hnb hk hkb hal h1 h2 hl hd ⟨xs, ho, fun i hi => ?_, fun i d _ hi => (hx i d hi).2.2.2⟩
    obtain ⟨d, hd'⟩ : ∃ d, ds[i]? = some d := ⟨_, List.getElem?_eq_getElem hi⟩
    exact (hx i d hd').2.1

set_option maxRecDepth 100000 in
set_option maxHeartbeats 1600000 in
/-- laws.markSignature at a signature of the call's own, its rows from lo to hi. -/
theorem markSig_any (lo m hi : Nat) (u v : Value) (ps : List ByteArray) (ds : List OpD) (w : World) (hp : ps.length ≤ 1048576) (hnb : ds.length ≤ 1048576) (hal : ∀ d ∈ ds, d.args.length ≤ 1048576)
    (h1 : w.ownsRow lo 9 1 u ps.length (ps.map Value.string)) (h2 : ∀ b, u.ownBlock = some b → b < m) (h3 : lo ≤ m) (h5 : m ≤ hi) (h4 : OwnOps w m hi v ds) (hhi : hi ≤ w.heap.size) :
    Calls Try.prog 32 #[sv u v, .int .i64 1] w (MarkE lo hi 1099517919233 w) := by
  obtain ⟨ua, uc, rfl⟩ := own_formM h1
  obtain ⟨va, vc, rfl⟩ := h4.at.slice
  have H1 := Lib.hid h1
  have H4 := Lib.hid h4
  have H2 := Lib.hid h2
  have HAL := Lib.hid hal
  clear h1 h2 h4 hal
  obtain ⟨q, hq⟩ : ∃ q, q = ps.length := ⟨_, rfl⟩
  obtain ⟨n, hn⟩ : ∃ n, n = ds.length := ⟨_, rfl⟩
  rw [← hq] at H1 H2 hp ⊢
  rw [← hn] at H4 hnb ⊢
  have HN := Lib.hid hn
  clear hq hn
  have hbX : Below w.heap.size w (w.alloc (.cells #[.slice ua q uc, .slice va n vc] 27)) := (Below.refl _ _).alloc (Nat.le_refl _) _
  have HX1 := Lib.hid (keep_own H1.out hbX)
  have HX4 := Lib.hid (H4.out.below hbX hhi)
  have HBX := Lib.hid hbX; clear hbX
  have rX : (w.alloc (.cells #[.slice ua q uc, .slice va n vc] 27)).heap[w.heap.size]? = some (.cells #[.slice ua q uc, .slice va n vc] 27 (0, 0)) := heap_new w _ rfl
  have HRX := Lib.hid rX; clear rX
  go_enter Try.func32, Try.ntmps32
  go_wp2_with fail
  refine (marks_any lo q 1 _ (ps.map Value.string) _ (by omega) (by omega) HX1.out).mono ?_
  rintro e w1 ⟨rfl, _, hg1⟩
  have hs1 := hg1.size
  have hz : (w.alloc (.cells #[.slice ua q uc, .slice va n vc] 27)).heap.size = w.heap.size + 1 := by simp
  have r1 : w1.heap[w.heap.size]? = some (.cells #[.slice ua q uc, .slice va n vc] 27 (0, 0)) := (hg1.block w.heap.size (by omega) (fun e => by have := H2.out _ e.symm; omega)).trans HRX.out
  have c1 : w1.cell? ⟨w.heap.size, 1, none⟩ = some (.slice va n vc) := by rw [cell_of_row w1 _ 1 _ _ _ r1]; rfl
  have HO1 : Hid (Out lo hi w w1) := Lib.hid ((Out.of_below HBX.out).trans (Out.of_grown (fun b hb => by have h6 := (HX1.out.lt b hb).1; have h7 := H2.out b hb; omega) hg1))
  have HW4 : Hid (OwnOps w1 m hi (.slice va n vc) ds) := Lib.hid (HX4.out.keep (fun b hb1 hb2 => hg1.block b (by omega) (fun e => by have := H2.out _ e.symm; omega)))
  clear hg1 r1 hs1 hz
  have hcall := markOps_any m hi (1 + q) _ ds w1 (by have := HN.out; omega) (by omega) (by omega) HAL.out HW4.out
  have HC := Lib.hid hcall; clear hcall
  rw [show ((1 + q : Nat) : Int) = (1 : Int) + (q : Int) by omega] at HC
  go_wp2_with fail
  refine HC.out.mono ?_
  rintro e w2 ⟨x, rfl, x1, x2, x3⟩
  have HO2 := Lib.hid (HO1.out.trans (x3.wide h3 (Nat.le_refl _)))
  have hx2 : x ≤ 1099517919233 := by have := HN.out; omega
  clear x3 c1
  go_wp2
  go_ret
  exact ⟨x, rfl, x1, hx2, HO2.out⟩

set_option maxRecDepth 100000 in
set_option maxHeartbeats 800000 in
theorem markOp_any (B : Nat) (nm rs : ByteArray) (u : Value) (n : Nat) (xs : List Value) (w : World) (hn : n ≤ 1048576) (ho : w.ownsRow B 9 1 u n xs) :
    Calls Try.prog 33 #[ov nm u rs, .int .i64 1] w (fun e w' => e = .returned (.int .i64 ((1 : Int) + n)) ∧ w'.ownsRow B 9 1 u n ((marks 1 n).map Value.string) ∧ w.grownBy w' u.ownBlock) := by
  obtain ⟨ua, uc, rfl⟩ := own_formM ho
  have hbX : Below w.heap.size w (w.alloc (.cells #[.string nm, .slice ua n uc, .string rs] 47)) := (Below.refl _ _).alloc (Nat.le_refl _) _
  have HX := Lib.hid (keep_own ho hbX)
  have HBX := Lib.hid hbX; clear hbX ho
  go_enter Try.func33, Try.ntmps33
  go_wp2_with fail
  refine (marks_any B n 1 _ xs _ (by omega) (by omega) HX.out).mono ?_
  rintro e w1 ⟨rfl, ho1, hg1⟩
  have HO1 := Lib.hid ho1; clear ho1
  have HG := Lib.hid (grown_trans (Below.toGrown HBX.out _) hg1); clear hg1
  go_wp2
  go_ret
  exact ⟨rfl, HO1.out, HG.out⟩

set_option maxRecDepth 100000 in
set_option maxHeartbeats 800000 in
theorem heldOp_any (B : Nat) (nm rs : ByteArray) (u : Value) (n : Nat) (w : World) (hn : n ≤ 1048576) (ho : w.ownsRow B 9 1 u n ((marks 1 n).map Value.string)) :
    Calls Try.prog 34 #[ov nm u rs, .int .i64 1] w (HeldEnd 1 n w) := by
  obtain ⟨ua, uc, rfl⟩ := own_formM ho
  have hbX : Below w.heap.size w (w.alloc (.cells #[.string nm, .slice ua n uc, .string rs] 47)) := (Below.refl _ _).alloc (Nat.le_refl _) _
  have HX := Lib.hid (keep_own ho hbX)
  have HBX := Lib.hid hbX; clear hbX ho
  go_enter Try.func34, Try.ntmps34
  go_wp2_with fail
  refine (held_any B n 1 _ _ (by omega) (by omega) HX.out).mono ?_
  rintro e w1 ⟨rfl, hb1⟩
  have HB1 := Lib.hid (HBX.out.trans (hb1.mono HBX.out.size)); clear hb1
  have hpos : ¬ (1 : Int) + (n : Int) < 0 := by omega
  go_wp2
  go_ret
  exact ⟨rfl, HB1.out⟩
end Go.Proofs.Ytcmhiindjponcaa
