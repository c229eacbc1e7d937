/-
  impl.substitutionOf, and the method find of a substitution; impl.FindBind.
-/
import Derived.Test.YtidbokheeieifaaQ16
namespace Go.Proofs.Ytidbokheeieifaa
open Go.RowKit Go.Maps Go.WideMaps

theorem rows_of {P : Nat → ByteArray → T → Value → Prop} : ∀ (bs : List (ByteArray × T)) (d : Nat), (∀ i p t, bs[i]? = some (p, t) → ∃ v, P (i + d) p t v) → ∃ l : List (ByteArray × Value), l.length = bs.length ∧ ∀ i p t, bs[i]? = some (p, t) → ∃ v, l[i]? = some (p, v) ∧ P (i + d) p t v
  | [], _, _ => ⟨[], rfl, fun i p t h => by simp at h⟩
  | (p0, t0) :: r, d, h => by
    obtain ⟨v0, h0⟩ := h 0 p0 t0 rfl
    obtain ⟨l, hl, hx⟩ := rows_of r (d + 1) (fun i p t hi => by
      obtain ⟨v, hv⟩ := h (i + 1) p t (by simpa using hi)
      exact ⟨v, by rw [show i + (d + 1) = i + 1 + d by omega]; exact hv⟩)
    refine ⟨(p0, v0) :: l, by simp [hl], fun i p t hi => ?_⟩
    cases i with
    | zero => simp at hi; obtain ⟨rfl, rfl⟩ := hi; exact ⟨v0, rfl, h0⟩
    | succ i =>
      obtain ⟨v, hv, hp⟩ := hx i p t (by simpa using hi)
      exact ⟨v, by simpa using hv, by rw [show i + 1 + d = i + (d + 1) by omega]; exact hp⟩

/-- The entries l are those of the Binds bs. -/
def BsV (w : World) (lo h : Nat) (bs : List (ByteArray × T)) (l : List (ByteArray × Value)) : Prop :=
  l.length = bs.length ∧ ∀ (i : Nat) (p : ByteArray) (t : T), bs[i]? = some (p, t) → ∃ v, l[i]? = some (p, v) ∧ p.size ≤ maxLen ∧ TermAt w lo h v t
theorem BsV.below {w w' : World} {lo h : Nat} {bs : List (ByteArray × T)} {l : List (ByteArray × Value)} (q : BsV w lo h bs l) (hb : Below w.heap.size w w') : BsV w' lo h bs l :=
  ⟨q.1, fun i p t hi => by obtain ⟨v, h1, h2, h3⟩ := q.2 i p t hi; exact ⟨v, h1, h2, h3.below hb⟩⟩
theorem BsV.first {w : World} {lo h : Nat} : ∀ {bs : List (ByteArray × T)} {l : List (ByteArray × Value)}, BsV w lo h bs l → ∀ nm, (findB bs nm = none → firstV l nm = none) ∧ ∀ t, findB bs nm = some t → ∃ v, firstV l nm = some v ∧ TermAt w lo h v t
  | [], l, q, nm => by
    have : l = [] := List.eq_nil_of_length_eq_zero q.1
    subst this
    exact ⟨fun _ => rfl, fun t e => by cases e⟩
  | (p0, t0) :: r, l, q, nm => by
    obtain ⟨v0, h0, _, ht0⟩ := q.2 0 p0 t0 rfl
    cases l with
    | nil => simp at h0
    | cons x l =>
      simp at h0; subst h0
      have qr : BsV w lo h r l := ⟨by have := q.1; simpa using this, fun i p t hi => by
        obtain ⟨v, h1, h2, h3⟩ := q.2 (i + 1) p t (by simpa using hi)
        exact ⟨v, by simpa using h1, h2, h3⟩⟩
      obtain ⟨i1, i2⟩ := qr.first nm
      unfold findB firstV at *
      cases hb : (p0.toList == nm.toList) with
      | true => simp only [List.find?_cons, hb]; exact ⟨fun e => (by cases e), fun t e => by cases e; exact ⟨v0, rfl, ht0⟩⟩
      | false => simp only [List.find?_cons, hb]; exact ⟨i1, i2⟩

/-- A substitution: a table of the Binds, in blocks of the call's own. -/
def SubE (l : List (ByteArray × Value)) (w : World) (e : Ending) (w' : World) : Prop := ∃ b, e = .returned (.agg #[.map (some b)]) ∧ w.heap.size ≤ b ∧ TabAt b l w' ∧ Below w.heap.size w w'

set_option maxRecDepth 100000 in
set_option maxHeartbeats 1600000 in
theorem subOf_any (u : Value) (bs : List (ByteArray × T)) (lo h : Nat) (w : World) (hl : bs.length ≤ 1048576) (hv : BsAt w lo h u bs) :
    ∃ l, BsV w lo h bs l ∧ Calls Try.prog 100 #[u] w (SubE l w) := by
  obtain ⟨a, cap, hu, hml, hc⟩ := hv
  obtain ⟨l, hll, hlx⟩ := rows_of (P := fun i p t v => ∃ b o k n s a' m c xs, a = some ⟨b, o, none⟩ ∧ v = tv k n s (.slice a' m c) ∧ t = .node k n s xs ∧ p.size ≤ maxLen ∧ w.cell? ⟨b, o + i * 5, none⟩ = some (.string p) ∧
    w.cell? ⟨b, o + i * 5 + 1, none⟩ = some (.int .i64 k) ∧ w.cell? ⟨b, o + i * 5 + 2, none⟩ = some (.int .i64 n) ∧ w.cell? ⟨b, o + i * 5 + 3, none⟩ = some (.string s) ∧ w.cell? ⟨b, o + i * 5 + 4, none⟩ = some (.slice a' m c) ∧ TermAt w lo h v t) bs 0 (fun i p t hi => by
      rcases hc with rfl | ⟨b, o, rfl, _, hc⟩
      · simp at hi
      · obtain ⟨k, n, s, xs⟩ := t
        obtain ⟨hp, hs, u', c0, c1, c2, c3, c4, hr⟩ := hc i p k n s xs hi
        obtain ⟨a', cap', rfl⟩ := hr.slice
        exact ⟨_, b, o, k, n, s, a', _, cap', xs, rfl, rfl, rfl, hp, c0, c1, c2, c3, c4, ⟨k, n, s, _, xs, rfl, rfl, hs, hr⟩⟩)
  have hbv : BsV w lo h bs l := ⟨hll, fun i p t hi => by
    obtain ⟨v, h1, b, o, k, n, s, a', m, c, xs, _, _, _, hp, _, _, _, _, _, ht⟩ := hlx i p t hi
    exact ⟨v, h1, hp, ht⟩⟩
  refine ⟨l, hbv, ?_⟩
  subst hu
  have HX := Lib.hid hlx
  have HBV := Lib.hid hbv
  clear hlx hc hml hbv
  obtain ⟨n, hn⟩ : ∃ n, n = bs.length := ⟨_, rfl⟩
  rw [← hn] at hl hll ⊢
  have HN := Lib.hid hn; clear hn
  have HLL := Lib.hid hll; clear hll
  have hmm := @run_makeMap Try.prog
  obtain ⟨W0, hW0⟩ : ∃ W0, W0 = ((w.alloc (.cells #[.map none] 136)).alloc (.map #[] 0)).alloc (.cells #[.map (some (w.heap.size + 1))] 136) := ⟨_, rfl⟩
  have hs0 : W0.heap.size = w.heap.size + 3 := by rw [hW0]; simp
  have hB0 : Below w.heap.size w W0 := by rw [hW0]; exact (((Below.refl _ _).alloc (Nat.le_refl _) _).alloc (by simp) _).alloc (by simp; omega) _
  have r0 : W0.heap[w.heap.size]? = some (.cells #[.map none] 136 (0, 0)) := by
    rw [hW0, Below.heap_alloc _ _ _ (by simp; omega), Below.heap_alloc _ _ _ (by simp)]; exact heap_new w _ rfl
  have r2 : W0.heap[w.heap.size + 2]? = some (.cells #[.map (some (w.heap.size + 1))] 136 (0, 0)) := by rw [hW0]; exact heap_new _ _ (by simp)
  have ht0 : TabAt (w.heap.size + 1) [] W0 := by
    refine ⟨_, ?_, TabOk.nil⟩
    rw [hW0]
    have h1 := World.ownsMap_made (w.alloc (.cells #[.map none] 136)) Try.prog 9 heldV
    have e : (w.alloc (.cells #[.map none] 136)).heap.size = w.heap.size + 1 := by simp
    rw [e] at h1
    exact h1.alloc _
  have HB0 := Lib.hid hB0; have HS0 := Lib.hid hs0; have HR0 := Lib.hid (And.intro r0 r2); have HT0 := Lib.hid ht0
  clear hB0 hs0 r0 r2 ht0
  go_enter Try.func100, Try.ntmps100
  go_wp2
  rw [← hW0]
  clear hW0
  go_loopw [10] (fun i wr => ∃ k : Nat, k ≤ n ∧ i = .int .i64 k ∧ Hid (TabAt (w.heap.size + 1) (l.take k) wr) ∧ Hid (W0.grownBy wr (some (w.heap.size + 1)))) (fun i _ => n - (intOf i).toNat)
  case atStart => exact ⟨0, Nat.zero_le _, rfl, by simpa using HT0, Lib.hid (Below.toGrown (Below.refl _ _) _)⟩
  case round =>
    obtain ⟨k, hk, rfl, HT, HG⟩ := hrel
    have hz0 := HS0.out
    have q0 : wr.heap[w.heap.size]? = some (.cells #[.map none] 136 (0, 0)) := (HG.out.block _ (by omega) (by simp)).trans HR0.out.1
    have q2 : wr.heap[w.heap.size + 2]? = some (.cells #[.map (some (w.heap.size + 1))] 136 (0, 0)) := (HG.out.block _ (by omega) (by simp)).trans HR0.out.2
    have hbw : Below w.heap.size w wr := HB0.out.grown HG.out (by omega) (fun j hj => by cases hj; omega)
    by_cases hlt : k < n
    · obtain ⟨⟨p, t⟩, hx⟩ : ∃ x, bs[k]? = some x := ⟨_, List.getElem?_eq_getElem (by have := HN.out; omega)⟩
      obtain ⟨v, hlk, b, o, tk', tn, tsn, ua, um, uc, xs, rfl, rfl, rfl, hps, c0, c1, c2, c3, c4, htm⟩ := HX.out k p t hx
      simp only [Nat.add_zero] at c0 c1 c2 c3 c4
      have d0 := cell_on hbw c0
      have d1 := cell_on hbw c1
      have d2 := cell_on hbw c2
      have d3 := cell_on hbw c3
      have d4 := cell_on hbw c4
      have e2 := cell_of_row wr (w.heap.size + 2) 0 _ _ _ q2
      simp at e2
      have hgr1 := (Below.toGrown ((Below.refl wr.heap.size wr).alloc (Nat.le_refl _) (.cells #[.string p, .int .i64 tk', .int .i64 tn, .string tsn, .slice ua um uc] 148)) (some (w.heap.size + 1)))
      have e3 : (wr.alloc (.cells #[.string p, .int .i64 tk', .int .i64 tn, .string tsn, .slice ua um uc] 148)).cell? ⟨w.heap.size + 2, 0, none⟩ = some (.map (some (w.heap.size + 1))) := cell_on ((Below.refl _ _).alloc (Nat.le_refl _) _) e2
      have HCALL := Lib.hid (add_any (w.heap.size + 1) (l.take k) p tk' tn tsn ua um uc (wr.alloc (.cells #[.string p, .int .i64 tk', .int .i64 tn, .string tsn, .slice ua um uc] 148)) (HT.out.below ((Below.refl _ _).alloc (Nat.le_refl _) _)) hps (by rw [List.length_take]; omega) (fun v hv => by
        unfold firstV at hv
        obtain ⟨y, hy, rfl⟩ := Option.map_eq_some_iff.1 hv
        obtain ⟨j, hj⟩ := List.mem_iff_getElem?.1 (List.mem_of_find?_eq_some hy)
        have hjk : j < k := by have := (List.getElem?_eq_some_iff.1 hj).1; rw [List.length_take] at this; omega
        rw [List.getElem?_take_of_lt hjk] at hj
        obtain ⟨⟨p', t'⟩, hx'⟩ : ∃ x, bs[j]? = some x := ⟨_, List.getElem?_eq_getElem (by have := HN.out; omega)⟩
        obtain ⟨v', hl', _, _, k1, n1, s1, a1, m1, c1', _, _, rfl, _⟩ := HX.out j p' t' hx'
        rw [hj] at hl'
        cases hl'
        exact ⟨k1, n1, s1, a1, m1, c1', rfl⟩))
      have HGR := Lib.hid hgr1
      have HTK : Hid (l.take (k + 1) = l.take k ++ [(p, tv tk' tn tsn (.slice ua um uc))]) := Lib.hid (by rw [tk l k _ hlk])
      clear c0 c1 c2 c3 c4 hgr1 hps htm hx hlk q0 q2 hbw
      go_wp2_with fail
      refine HCALL.out.mono ?_
      rintro e w2 ⟨rfl, hta, hg2⟩
      have HT2 : Hid (TabAt (w.heap.size + 1) (l.take (k + 1)) w2) := Lib.hid (by rw [HTK.out]; exact hta)
      have HG2 := Lib.hid (grown_trans HG.out (grown_trans HGR.out hg2))
      clear hta hg2 d0 d1 d2 d3 d4 e2 e3
      go_wp2
      go_roundw
      case rel => exact ⟨k + 1, by omega, by go_num, HT2, HG2⟩
      case measure => simp [intOf]; omega
    · have hkn : k = n := by omega
      have HD : Hid (l.take k = l) := Lib.hid (List.take_of_length_le (by have := HLL.out; omega))
      have z0 := cell_of_row wr w.heap.size 0 _ _ _ q0
      have f0 := frozen_of_row wr w.heap.size 0 _ _ q0
      have e2 := cell_of_row wr (w.heap.size + 2) 0 _ _ _ q2
      simp at z0 e2
      have HF : Hid (∀ v0, SubE l w (.returned (.agg #[.map (some (w.heap.size + 1))])) (wr.setCell ⟨w.heap.size, 0, none⟩ v0)) := Lib.hid (fun v0 => by
        refine ⟨_, rfl, Nat.le_succ _, ?_, hbw.setCell (Nat.le_refl _) _⟩
        have h1 := HT.out
        rw [HD.out] at h1
        exact h1.kept (set_grown wr w.heap.size 0 v0) (by simp))
      clear q0 q2 hbw hkn hz0
      go_wp2
      (try simp only [Exit.inBlock, Exit.then])
      refine bodyPost_ret (v := .agg #[.map (some (w.heap.size + 1))]) ?hr rfl ?_
      case hr =>
        rw [results_cell (a := 2) (t := 136) (ad := ⟨w.heap.size, 0, none⟩) rfl rfl]
        go_simp
      exact HF.out _

/-- An answer that is a term of a depth of at most h, in rows of the call's own, and a word. -/
def ResOH (h : Nat) (ok : Bool) (r : T) (w : World) (e : Ending) (w' : World) : Prop :=
  ∃ k n s a m c xs, e = .returned (.tuple #[tv k n s (.slice a m c), .bool ok]) ∧ r = .node k n s xs ∧ s.size ≤ maxLen ∧ OwnR (fun _ => True) w' h w.heap.size w'.heap.size (.slice a m c) xs ∧ Below w.heap.size w w'

set_option maxRecDepth 100000 in
set_option maxHeartbeats 1600000 in
theorem find_anyK (b : Nat) (nm : ByteArray) (bs : List (ByteArray × T)) (l : List (ByteArray × Value)) (lo h : Nat) (w : World) (ht : TabAt b l w) (hb : BsV w lo h bs l) (hs : nm.size ≤ maxLen) (hw : wBs bs ≤ 1048577) :
    Calls Try.prog 130 #[.agg #[.map (some b)], .string nm] w (ResOH h (findB bs nm).isSome ((findB bs nm).getD zT) w) := by
  obtain ⟨W1, hW1⟩ : ∃ W1, W1 = (w.alloc (.cells #[.map (some b)] 136)).alloc (.cells #[.int .i64 0, .int .i64 0, .string ⟨#[]⟩, .slice none 0 0] 26) := ⟨_, rfl⟩
  have hB1 : Below w.heap.size w W1 := by rw [hW1]; exact ((Below.refl _ _).alloc (Nat.le_refl _) _).alloc (by simp) _
  have hs1 : W1.heap.size = w.heap.size + 2 := by rw [hW1]; simp
  have r1 : W1.heap[w.heap.size + 1]? = some (trow 0 0 ByteArray.empty (.slice none 0 0)) := by rw [hW1]; exact heap_new _ _ (by simp)
  obtain ⟨ok, hok⟩ : ∃ ok, ok = (firstV l nm).isSome := ⟨_, rfl⟩
  have hlook := (ht.below hB1).look hs
  rw [← hok] at hlook
  obtain ⟨r, hr⟩ : ∃ r, r = (findB bs nm).getD zT := ⟨_, rfl⟩
  obtain ⟨k, n, s, a, m, c, hv, htm, hse, hwr⟩ : ∃ k n s a m c, (firstV l nm).getD zTv = tv k n s (.slice a m c) ∧ TermAt w 0 h (tv k n s (.slice a m c)) r ∧ (findB bs nm).isSome = ok ∧ wT r ≤ 4194303 := by
    obtain ⟨f1, f2⟩ := hb.first nm
    rw [hok, hr]
    cases e : findB bs nm with
    | none =>
      rw [f1 e]
      refine ⟨_, _, _, _, _, _, rfl, ⟨_, _, _, _, [], rfl, rfl, by simp [maxLen], ArgsAt.nil _ _ _ _ _⟩, rfl, ?_⟩
      show wT zT ≤ _
      rw [wT_node]; simp [wS]
    | some t =>
      obtain ⟨v, e2, hvt⟩ := f2 t e
      rw [e2]
      obtain ⟨k, n, s, a, m, c, rfl⟩ := hvt.shape
      refine ⟨k, n, s, a, m, c, rfl, hvt.low (Nat.zero_le _), rfl, ?_⟩
      have := findB_w e
      show wT t ≤ _
      omega
  rw [hv] at hlook
  obtain ⟨W2, hW2⟩ : ∃ W2, W2 = W1.alloc (.cells #[.int .i64 k, .int .i64 n, .string s, .slice a m c] 26) := ⟨_, rfl⟩
  have hB2 : Below W1.heap.size W1 W2 := by rw [hW2]; exact (Below.refl _ _).alloc (Nat.le_refl _) _
  have hBB := hB1.trans (hB2.mono hB1.size)
  have HC := Lib.hid (copyI_any _ _ 0 h W2 (htm.below hBB) hwr)
  have HBB := Lib.hid hBB
  have HR1 : Hid (W2.heap[w.heap.size + 1]? = some (trow 0 0 ByteArray.empty (.slice none 0 0)) ∧ w.heap.size + 2 ≤ W2.heap.size) := Lib.hid ⟨(hB2.block _ (by omega)).trans r1, by have := hB2.size; omega⟩
  rw [← hr, hse]
  clear ht hb htm hB1 hs1 r1 hB2 hBB hwr hv hr hok hse
  rw [hW1] at hlook hW2
  go_enter Try.func130, Try.ntmps130
  go_wp2_with fail
  rw [← hW2]
  clear hW2 hlook hW1
  refine HC.out.mono ?_
  rintro e w5 ⟨k5, n5, s5, u5, xs5, rfl, e5, hs5, ho5, hb5⟩
  obtain ⟨a5, c5, rfl⟩ := ho5.slice
  obtain ⟨m5, hm5⟩ : ∃ m, m = xs5.length := ⟨_, rfl⟩
  rw [← hm5] at ho5 ⊢
  have q1 : w5.heap[w.heap.size + 1]? = some (trow 0 0 ByteArray.empty (.slice none 0 0)) := (hb5.block _ (by have := HR1.out.2; omega)).trans HR1.out.1
  obtain ⟨⟨y0, y1, y2, y3⟩, f0, f1, f2, f3⟩ := cells_of4 q1
  have HF : Hid (∀ v0 v1 v2 v3, ResOH h ok r w (.returned (.tuple #[tv k5 n5 s5 (.slice a5 m5 c5), .bool ok])) ((((w5.setCell ⟨w.heap.size + 1, 0, none⟩ v0).setCell ⟨w.heap.size + 1, 1, none⟩ v1).setCell ⟨w.heap.size + 1, 2, none⟩ v2).setCell ⟨w.heap.size + 1, 3, none⟩ v3)) := Lib.hid (fun v0 v1 v2 v3 => by
    have hb := HBB.out.trans (hb5.mono HBB.out.size)
    have st : ∀ (W : World) (j : Nat) (v : Value), OwnR (fun _ => True) W h W2.heap.size w5.heap.size (.slice a5 m5 c5) xs5 → OwnR (fun _ => True) (W.setCell ⟨w.heap.size + 1, j, none⟩ v) h W2.heap.size w5.heap.size (.slice a5 m5 c5) xs5 := fun W j v o =>
      o.keep fun b' _ h1 _ => ⟨Below.heap_setCell _ _ _ _ (fun e => by simp at e; have := HR1.out.2; omega), trivial⟩
    exact ⟨k5, n5, s5, a5, m5, c5, xs5, rfl, e5, hs5, (st _ _ _ (st _ _ _ (st _ _ _ (st _ _ _ ho5)))).wide (by have := HR1.out.2; omega) (by simp [World.setCell]), (((hb.setCell (Nat.le_succ _) _).setCell (Nat.le_succ _) _).setCell (Nat.le_succ _) _).setCell (Nat.le_succ _) _⟩)
  clear q1 ho5 hb5 hm5 hs5
  go_wp2
  (try simp only [Exit.inBlock, Exit.then])
  refine bodyPost_ret (v := .tuple #[tv k5 n5 s5 (.slice a5 m5 c5), .bool ok]) ?_ rfl ?_
  · refine results_ct (a := 4) (b := 5) (t := 26) (ad := ⟨w.heap.size + 1, 0, none⟩) rfl rfl _ _ ?_
    go_simp
  · exact HF.out _ _ _ _
theorem find_anyH (b : Nat) (nm : ByteArray) (bs : List (ByteArray × T)) (l : List (ByteArray × Value)) (lo h : Nat) (w : World) (ht : TabAt b l w) (hb : BsV w lo h bs l) (hs : nm.size ≤ maxLen) (hw : wBs bs ≤ 1048576) :
    Calls Try.prog 130 #[.agg #[.map (some b)], .string nm] w (ResOH h (findB bs nm).isSome ((findB bs nm).getD zT) w) := find_anyK b nm bs l lo h w ht hb hs (by omega)
theorem find_any (b : Nat) (nm : ByteArray) (bs : List (ByteArray × T)) (l : List (ByteArray × Value)) (lo h : Nat) (w : World) (ht : TabAt b l w) (hb : BsV w lo h bs l) (hs : nm.size ≤ maxLen) (hw : wBs bs ≤ 1048576) :
    Calls Try.prog 130 #[.agg #[.map (some b)], .string nm] w (ResO (findB bs nm).isSome ((findB bs nm).getD zT) w) :=
  (find_anyH b nm bs l lo h w ht hb hs hw).mono fun _ _ ⟨k, n, s, a, m, c, xs, q⟩ => ⟨k, n, s, a, m, c, h, xs, q⟩
end Go.Proofs.Ytidbokheeieifaa
