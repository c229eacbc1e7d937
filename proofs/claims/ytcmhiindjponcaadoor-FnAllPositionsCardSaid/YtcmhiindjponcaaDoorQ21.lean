/-
  spec.TermAt returns the subterm at a position.
-/
import Derived.Test.YtcmhiindjponcaaDoorQ6
import Derived.Test.YtcmhiindjponcaaDoorQ20
import Derived.Test.YtcmhiindjponcaaDoorQ18
namespace Go.Proofs.YtcmhiindjponcaaDoor
open Go.RowKit

theorem in_any (a b c : Int) (w : World) : Calls Tryd.prog 18 #[.int .i64 a, .int .i64 b, .int .i64 c] w (fun e w' => e = .returned (.bool (decide (b ≤ a) && decide (a ≤ c))) ∧ w' = w) := by
  by_cases h1 : b ≤ a
  · have h1' : decide (b ≤ a) = true := by simpa using h1
    by_cases h2 : a ≤ c
    · have h2' : decide (a ≤ c) = true := by simpa using h2
      go_enter Tryd.func18, Tryd.ntmps18
      go_wp2
      go_ret
      exact ⟨by simp [h1, h2], rfl⟩
    · have h2' : decide (a ≤ c) = false := by simpa using h2
      go_enter Tryd.func18, Tryd.ntmps18
      go_wp2
      go_ret
      exact ⟨by simp [h1, h2], rfl⟩
  · have h1' : decide (b ≤ a) = false := by simpa using h1
    go_enter Tryd.func18, Tryd.ntmps18
    go_wp2
    go_ret
    exact ⟨by simp [h1], rfl⟩

theorem results_ct {fn : Func} {a b : Tmp} {t : TypeId} {tmps : Array Value} {ad : Addr} (h : fn.results = #[.cell a t, .tmp b]) (ha : tmps.getD a undef = .pointer (some ad)) (P : Program) (w : World) {x : Value}
    (hx : (loadVar t ad).run P w = .ok x w) : (results fn tmps).run P w = .ok (.tuple #[x, tmps.getD b undef]) w := by
  have h2 : tmps[a]?.getD undef = .pointer (some ad) := by rw [← ha]; simp
  simp [results, h, h2, asAddr, hx, Result.andThen]

/-- The zero term. -/
abbrev zT : T := .node 0 0 ByteArray.empty []
/-- A copy of the subterm at a position, or the zero term. -/
def SubT (o : Option T) (w : World) (e : Ending) (w' : World) : Prop :=
  ∃ k n s a m c h, e = .returned (.tuple #[tv k n s (.slice a m c), .bool o.isSome]) ∧ TermAt w' w.heap.size h (tv k n s (.slice a m c)) (o.getD zT) ∧ Below w.heap.size w w'

/-- A struct's row in a block. -/
abbrev trow (k n : Int) (s : ByteArray) (u : Value) : Obj := .cells #[.int .i64 k, .int .i64 n, .string s, u] 26 (0, 0)

theorem box_two (w : World) (k n : Int) (s : ByteArray) (u : Value) : ((boxed w k n s u).alloc (.cells #[.int .i64 0, .int .i64 0, .string ⟨#[]⟩, .slice none 0 0] 26)).heap[w.heap.size]? = some (trow k n s u) ∧
    ((boxed w k n s u).alloc (.cells #[.int .i64 0, .int .i64 0, .string ⟨#[]⟩, .slice none 0 0] 26)).heap[w.heap.size + 1]? = some (trow 0 0 ByteArray.empty (.slice none 0 0)) ∧
    Below w.heap.size w ((boxed w k n s u).alloc (.cells #[.int .i64 0, .int .i64 0, .string ⟨#[]⟩, .slice none 0 0] 26)) :=
  ⟨heap_mid _ _ _ rfl, heap_new _ _ (by simp), (boxed_below w k n s u).alloc (by simp) _⟩

theorem sub_fin {w wr : World} {o : Option T} {k n : Int} {s : ByteArray} {a : Option Addr} {m c h : Nat} (ht : TermAt wr (w.heap.size + 2) h (tv k n s (.slice a m c)) (o.getD zT)) (hb : Below w.heap.size w wr) (v0 v1 v2 v3 : Value) :
    SubT o w (.returned (.tuple #[tv k n s (.slice a m c), .bool o.isSome])) ((((wr.setCell ⟨w.heap.size + 1, 0, none⟩ v0).setCell ⟨w.heap.size + 1, 1, none⟩ v1).setCell ⟨w.heap.size + 1, 2, none⟩ v2).setCell ⟨w.heap.size + 1, 3, none⟩ v3) := by
  have q1 := ht.grown (set_grown wr (w.heap.size + 1) 0 v0) (fun j e => by cases e; omega)
  have q2 := q1.grown (set_grown _ (w.heap.size + 1) 1 v1) (fun j e => by cases e; omega)
  have q3 := q2.grown (set_grown _ (w.heap.size + 1) 2 v2) (fun j e => by cases e; omega)
  have q4 := q3.grown (set_grown _ (w.heap.size + 1) 3 v3) (fun j e => by cases e; omega)
  exact ⟨k, n, s, a, m, c, h, rfl, q4.low (by omega), (((hb.setCell (Nat.le_succ _) _).setCell (Nat.le_succ _) _).setCell (Nat.le_succ _) _).setCell (Nat.le_succ _) _⟩

theorem zT_at (w : World) (lo : Nat) : TermAt w lo 0 (tv 0 0 ByteArray.empty (.slice none 0 0)) zT := ⟨0, 0, ByteArray.empty, _, [], rfl, rfl, by simp, rfl, _, _, rfl⟩

/-- The box of the subterm at hand, the result's box, and what was there. -/
def Boxes (w : World) (k n : Int) (s : ByteArray) (u : Value) (wr : World) : Prop :=
  wr.heap[w.heap.size]? = some (trow k n s u) ∧ wr.heap[w.heap.size + 1]? = some (trow 0 0 ByteArray.empty (.slice none 0 0)) ∧ Below w.heap.size w wr
theorem Boxes.drewN {w wr : World} {k n : Int} {s : ByteArray} {u : Value} (h : Boxes w k n s u wr) (q : Nat) : Boxes w k n s u (wr.drewN q) :=
  ⟨h.1, h.2.1, h.2.2.trans ((below_q wr q).mono h.2.2.size)⟩
theorem Boxes.step {w wr : World} {k n : Int} {s : ByteArray} {u : Value} (h : Boxes w k n s u wr) (k2 n2 : Int) (s2 : ByteArray) (u2 : Value) :
    Boxes w k2 n2 s2 u2 ((((wr.setCell ⟨w.heap.size, 0, none⟩ (.int .i64 k2)).setCell ⟨w.heap.size, 1, none⟩ (.int .i64 n2)).setCell ⟨w.heap.size, 2, none⟩ (.string s2)).setCell ⟨w.heap.size, 3, none⟩ u2) := by
  refine ⟨set4_row h.1 _ _ _ _, ?_, (((h.2.2.setCell (Nat.le_refl _) _).setCell (Nat.le_refl _) _).setCell (Nat.le_refl _) _).setCell (Nat.le_refl _) _⟩
  have hne : ∀ (W : World) (j : Nat) (v : Value), (W.setCell ⟨w.heap.size, j, none⟩ v).heap[w.heap.size + 1]? = W.heap[w.heap.size + 1]? := fun W j v => Below.heap_setCell _ _ _ _ (by simp)
  rw [hne, hne, hne, hne]
  exact h.2.1

set_option maxRecDepth 100000 in
set_option maxHeartbeats 3200000 in
theorem sAt_any (v p : Value) (t : T) (ps : List Int) (lo h : Nat) (w : World) (ht : TermAt w lo h v t) (hp : IntsAt w p ps) (hw : wT t ≤ 1048576) (hl : ps.length ≤ 4194304) :
    Calls Tryd.prog 8 #[v, p] w (SubT (subT ps t) w) := by
  obtain ⟨k, n, s, u, xs, rfl, rfl, hs, ha⟩ := ht
  obtain ⟨a, cap, rfl⟩ := ha.slice
  obtain ⟨pa, pc, rfl⟩ := hp.slice
  obtain ⟨r0, r1, hb0⟩ := box_two w k n s (.slice a xs.length cap)
  obtain ⟨m, hm⟩ : ∃ m, m = ps.length := ⟨_, rfl⟩
  rw [← hm] at hp hl ⊢
  have HM := Lib.hid hm; clear hm
  have HP := Lib.hid hp; clear hp
  have HA := Lib.hid ha; clear ha
  obtain ⟨t, hte⟩ : ∃ t, t = T.node k n s xs := ⟨_, rfl⟩
  rw [← hte] at hw ⊢
  have HTE := Lib.hid hte; clear hte
  have HW := Lib.hid hw; clear hw
  have HS := Lib.hid hs; clear hs
  have HR : Hid (Boxes w k n s (.slice a xs.length cap) _) := Lib.hid (And.intro r0 (And.intro r1 hb0)); clear r0 r1 hb0
  go_enter Tryd.func8, Tryd.ntmps8
  go_wp2
  go_loopw [6] (fun i wr => ∃ j : Nat, j ≤ m ∧ i = .int .i64 j ∧ ∃ k n s a q cap xs h, Hid (subT (ps.take j) t = some (T.node k n s xs) ∧ s.size ≤ maxLen ∧ q = xs.length ∧ ArgsAt w lo h (.slice a q cap) xs) ∧ Hid (Boxes w k n s (.slice a q cap) wr)) (fun i _ => m - (intOf i).toNat)
  case atStart => exact ⟨0, Nat.zero_le _, rfl, k, n, s, a, _, cap, xs, h, Lib.hid ⟨by rw [HTE.out]; rfl, HS.out, rfl, HA.out⟩, HR⟩
  case round =>
    clear HR HA HS HTE
    obtain ⟨j, hj, rfl, k, n, s, a, q, cap, xs, h, HX, HR⟩ := hrel
    by_cases hlt : j < m
    · obtain ⟨z, hz⟩ : ∃ z, ps[j]? = some z := ⟨_, List.getElem?_eq_getElem (by have := HM.out; omega)⟩
      obtain ⟨r0, r1, hb⟩ := HR.out
      obtain ⟨⟨c0, c1, c2, c3⟩, f0, f1, f2, f3⟩ := cells_of4 r0
      obtain ⟨pb, po, rfl, pz⟩ := (HP.out.below hb).at hz
      have hq : q ≤ 1048576 := by
        obtain ⟨e, _, hq, _⟩ := HX.out
        have h1 := subT_w _ _ _ e
        have := HW.out
        rw [wT_node] at h1; omega
      have HZ : Hid (subT (ps.take (j + 1)) t = argT (T.node k n s xs) z) := Lib.hid (by
        rw [takeI ps j z hz, subT_snoc, HX.out.1]; rfl)
      clear r0 r1 hb hz
      by_cases hin : 0 ≤ z ∧ z < q
      · have hcall := fun (W : World) => in_any z 0 ((q : Int) - 1) W
        have hin1 : (decide (0 ≤ z) && decide (z ≤ (q : Int) - 1)) = true := by simp; omega
        rw [hin1] at hcall
        have HCALL := Lib.hid hcall; clear hcall hin1
        go_wp2
        go_quiet (first | (go_at_call 18; refine Calls.quiet_of_same (HCALL.out _)))
        obtain ⟨i, x, rfl, hxi, hax⟩ := argT_in (t := T.node k n s xs) hin.1 (by have := hin.2; rw [HX.out.2.2.1] at this; exact this)
        have HZ2 := Lib.hid (HZ.out.trans hax); clear hax HZ
        obtain ⟨h', b, o, k2, n2, s2, xs2, u2, e, rfl, rfl, hs2, d0, d1, d2, d3, har⟩ := HX.out.2.2.2.at hxi
        obtain ⟨a2, cap2, rfl⟩ := har.slice
        have hbr := HR.out.2.2
        have e0 := cell_on hbr d0
        have e1 := cell_on hbr d1
        have e2 := cell_on hbr d2
        have e3 := cell_on hbr d3
        have hxl : i < q := by have := hin.2; omega
        have HAR := Lib.hid har
        have HS2 := Lib.hid hs2
        clear d0 d1 d2 d3 hbr har hs2 e hxi
        go_wp2
        go_region
        go_wp2
        go_roundw
        case rel => exact ⟨j + 1, by omega, by go_num, k2, n2, s2, a2, _, cap2, xs2, h', Lib.hid ⟨HZ2.out, HS2.out, rfl, HAR.out⟩, Lib.hid ((HR.out.drewN _).step _ _ _ _)⟩
        case measure => simp [intOf]; omega
      · have hcall := fun (W : World) => in_any z 0 ((q : Int) - 1) W
        have hin1 : (decide (0 ≤ z) && decide (z ≤ (q : Int) - 1)) = false := by
          rw [Bool.and_eq_false_iff]
          by_cases h0 : 0 ≤ z
          · right; simp; omega
          · left; simpa using h0
        rw [hin1] at hcall
        have HCALL := Lib.hid hcall; clear hcall hin1
        have hno : subT ps t = none := by
          have e1 := HZ.out
          rw [argT_out (by have := HX.out.2.2.1; show ¬ (0 ≤ z ∧ z < (xs.length : Int)); omega)] at e1
          rw [← List.take_append_drop (j + 1) ps, subT_append, e1]; rfl
        have HF : Hid (∀ (W : World) (v0 v1 v2 v3 : Value), Below w.heap.size w W → SubT (subT ps t) w (.returned (.tuple #[tv 0 0 ByteArray.empty (.slice none 0 0), .bool false])) ((((W.setCell ⟨w.heap.size + 1, 0, none⟩ v0).setCell ⟨w.heap.size + 1, 1, none⟩ v1).setCell ⟨w.heap.size + 1, 2, none⟩ v2).setCell ⟨w.heap.size + 1, 3, none⟩ v3)) :=
          Lib.hid (fun W v0 v1 v2 v3 hb => by rw [hno]; exact sub_fin (o := none) (zT_at _ _) hb _ _ _ _)
        obtain ⟨⟨y0, y1, y2, y3⟩, g0, g1, g2, g3⟩ := cells_of4 HR.out.2.1
        clear hno hin HZ
        go_wp2
        go_quiet (first | (go_at_call 18; refine Calls.quiet_of_same (HCALL.out _)))
        go_wp2
        (try simp only [Exit.inBlock, Exit.then])
        refine bodyPost_ret (v := .tuple #[tv 0 0 ByteArray.empty (.slice none 0 0), .bool false]) ?_ rfl ?_
        · refine results_ct (a := 4) (b := 5) (t := 26) (ad := ⟨w.heap.size + 1, 0, none⟩) rfl rfl _ _ ?_
          go_simp
          rfl
        · exact HF.out _ _ _ _ _ (HR.out.drewN _).2.2
    · have hjm : j = m := by omega
      have hyes : subT ps t = some (.node k n s xs) := by
        have e1 := HX.out.1
        rw [hjm, HM.out, List.take_length] at e1
        exact e1
      obtain ⟨r0, r1, hb⟩ := HR.out
      obtain ⟨⟨c0, c1, c2, c3⟩, f0, f1, f2, f3⟩ := cells_of4 r0
      have htw : TermAt wr lo h (tv k n s (.slice a q cap)) (.node k n s xs) := ⟨k, n, s, _, xs, rfl, rfl, HX.out.2.1, HX.out.2.2.2.below hb⟩
      have hcall := lcopy_any h _ _ lo wr htw (Nat.le_trans (subT_w _ _ _ hyes) HW.out)
      have HCALL := Lib.hid hcall; clear hcall htw
      have HY := Lib.hid hyes; clear hyes
      have hsz : w.heap.size + 2 ≤ wr.heap.size := by have := (Array.getElem?_eq_some_iff.1 r1).1; omega
      have HSZ := Lib.hid hsz; clear hsz
      have HR1 := Lib.hid (And.intro r1 hb); clear r0 r1 hb
      go_wp2_with fail
      refine HCALL.out.mono ?_
      rintro e w5 ⟨k5, n5, s5, a5, m5, c5, rfl, ht5, hb5⟩
      have r1' : w5.heap[w.heap.size + 1]? = some (trow 0 0 ByteArray.empty (.slice none 0 0)) := (hb5.block _ (by have := HSZ.out; omega)).trans HR1.out.1
      obtain ⟨⟨y0, y1, y2, y3⟩, g0, g1, g2, g3⟩ := cells_of4 r1'
      have HF : Hid (∀ (v0 v1 v2 v3 : Value), SubT (subT ps t) w (.returned (.tuple #[tv k5 n5 s5 (.slice a5 m5 c5), .bool true])) ((((w5.setCell ⟨w.heap.size + 1, 0, none⟩ v0).setCell ⟨w.heap.size + 1, 1, none⟩ v1).setCell ⟨w.heap.size + 1, 2, none⟩ v2).setCell ⟨w.heap.size + 1, 3, none⟩ v3)) :=
        Lib.hid (fun v0 v1 v2 v3 => by rw [HY.out]; exact sub_fin (o := some (.node k n s xs)) (ht5.low HSZ.out) (HR1.out.2.trans (hb5.mono HR1.out.2.size)) _ _ _ _)
      clear c0 c1 c2 c3 f0 f1 f2 f3 ht5 hb5 r1'
      go_wp2
      (try simp only [Exit.inBlock, Exit.then])
      refine bodyPost_ret (v := .tuple #[tv k5 n5 s5 (.slice a5 m5 c5), .bool true]) ?_ rfl ?_
      · refine results_ct (a := 4) (b := 5) (t := 26) (ad := ⟨w.heap.size + 1, 0, none⟩) rfl rfl _ _ ?_
        go_simp
      · exact HF.out _ _ _ _
end Go.Proofs.YtcmhiindjponcaaDoor
