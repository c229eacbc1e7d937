/-
  The draws of guards: spec.l9Draw, spec.l9Bent, spec.DrawHoldsGuard; and spec.DrawReduceWords.
-/
import Derived.Test.YtidbokheeieifaaGreatDoorQ7
import Derived.Test.YtidbokheeieifaaGreatDoorQ9
import Derived.Test.YtidbokheeieifaaGreatDoorQ10
import Derived.Test.YtidbokheeieifaaGreatDoorQ12
import Derived.Test.YtidbokheeieifaaGreatDoorQ13
namespace Go.Proofs.YtidbokheeieifaaGreatDoor
open Go.RowKit

/-- A drawn guard, its sides in new blocks. -/
def DrawnG (B : Nat) (cv : Value) (len : Nat) (w : World) (e : Ending) (w' : World) : Prop :=
  ∃ (kd k n : Int) (s : ByteArray) (a : Option Addr) (m c : Nat) (k' n' : Int) (s' : ByteArray) (a' : Option Addr) (m' c' : Nat) (t t' : T) (h h' : Nat), e = .returned (gv kd k n s (.slice a m c) k' n' s' (.slice a' m' c')) ∧ (0 ≤ kd ∧ kd ≤ 5) ∧
    TermAt w' w.heap.size h (tv k n s (.slice a m c)) t ∧ TermAt w' w.heap.size h' (tv k' n' s' (.slice a' m' c')) t' ∧ wT t ≤ 1000 ∧ wT t' ≤ 1000 ∧ CurAt w' B cv len ∧ w.grownBy w' (some B)
abbrev zGd : Obj := .cells #[.int .i64 0, .int .i64 0, .int .i64 0, .string ⟨#[]⟩, .slice none 0 0, .int .i64 0, .int .i64 0, .string ⟨#[]⟩, .slice none 0 0] 28

/-- A term whose rows lie in blocks from lo on, but not in b. -/
def TermP (lo b h : Nat) (X : World) (k n : Int) (s : ByteArray) (u : Value) (t : T) : Prop := ∃ xs, t = .node k n s xs ∧ s.size ≤ maxLen ∧ ArgsP (fun j => lo ≤ j ∧ j ≠ b) X h u xs
theorem TermP.of {lo b h l2 : Nat} {X : World} {k n : Int} {s : ByteArray} {u : Value} {t : T} (q : TermAt X l2 h (tv k n s u) t) (h1 : lo ≤ l2) (h2 : ∀ j, l2 ≤ j → j < X.heap.size → j ≠ b) : TermP lo b h X k n s u t := by
  obtain ⟨k', n', s', u', xs, e1, e2, hs, ha⟩ := q
  simp only [tv, Value.agg.injEq, Array.mk.injEq, List.cons.injEq, Value.int.injEq, Value.string.injEq, and_true, true_and] at e1
  obtain ⟨rfl, rfl, rfl, rfl⟩ := e1
  exact ⟨xs, e2, hs, ArgsP.of (fun j j1 j2 => ⟨Nat.le_trans h1 j1, h2 j j1 j2⟩) ha⟩
theorem TermP.at {lo b h : Nat} {X : World} {k n : Int} {s : ByteArray} {u : Value} {t : T} (q : TermP lo b h X k n s u t) : TermAt X lo h (tv k n s u) t := by
  obtain ⟨xs, e, hs, ha⟩ := q
  exact ⟨k, n, s, u, xs, rfl, e, hs, ha.args (fun j hj => hj.1)⟩
theorem TermP.keep {lo b h : Nat} {X Y : World} {k n : Int} {s : ByteArray} {u : Value} {t : T} (q : TermP lo b h X k n s u t) (hk : ∀ j, lo ≤ j → j ≠ b → j < X.heap.size → Y.heap[j]? = X.heap[j]?) : TermP lo b h Y k n s u t := by
  obtain ⟨xs, e, hs, ha⟩ := q
  exact ⟨xs, e, hs, ha.keepB (fun j hj hl => hk j hj.1 hj.2 hl)⟩
/-- A guard in the making: its box b, and its two sides. -/
structure GSt (B b lo : Nat) (cv : Value) (len : Nat) (w X : World) (kd k n : Int) (s : ByteArray) (u : Value) (t : T) (h : Nat) (k' n' : Int) (s' : ByteArray) (u' : Value) (t' : T) (h' : Nat) : Prop where
  row : X.heap[b]? = some (grow 28 kd k n s u k' n' s' u')
  l : TermP lo b h X k n s u t
  r : TermP lo b h' X k' n' s' u' t'
  cur : CurAt X B cv len
  gr : w.grownBy X (some B)
  hb : w.heap.size < b ∧ B < w.heap.size ∧ w.heap.size < lo
  res : X.heap[w.heap.size]? = some (grow 28 0 0 0 ⟨#[]⟩ (.slice none 0 0) 0 0 ⟨#[]⟩ (.slice none 0 0))
theorem GSt.grown {B b lo : Nat} {cv : Value} {len : Nat} {w X Y : World} {kd k n : Int} {s : ByteArray} {u : Value} {t : T} {h : Nat} {k' n' : Int} {s' : ByteArray} {u' : Value} {t' : T} {h' : Nat} (q : GSt B b lo cv len w X kd k n s u t h k' n' s' u' t' h') (hg : X.grownBy Y (some B)) (hc : CurAt Y B cv len) : GSt B b lo cv len w Y kd k n s u t h k' n' s' u' t' h' :=
  have hk : ∀ j, j ≠ B → j < X.heap.size → Y.heap[j]? = X.heap[j]? := fun j h1 h2 => hg.block j h2 (fun e => h1 (by cases e; rfl))
  ⟨(hk b (by have := q.hb; omega) (Array.getElem?_eq_some_iff.1 q.row).1).trans q.row, q.l.keep (fun j h1 _ h3 => hk j (by have := q.hb; omega) h3), q.r.keep (fun j h1 _ h3 => hk j (by have := q.hb; omega) h3), hc, grown_trans q.gr hg, q.hb, (hk _ (by have := q.hb; omega) (Array.getElem?_eq_some_iff.1 q.res).1).trans q.res⟩
theorem GSt.setK {B b lo : Nat} {cv : Value} {len : Nat} {w X : World} {kd k n : Int} {s : ByteArray} {u : Value} {t : T} {h : Nat} {k' n' : Int} {s' : ByteArray} {u' : Value} {t' : T} {h' : Nat} (q : GSt B b lo cv len w X kd k n s u t h k' n' s' u' t' h') (x : Int) : GSt B b lo cv len w (X.setCell ⟨b, 0, none⟩ (.int .i64 x)) x k n s u t h k' n' s' u' t' h' := by
  have hbB : b ≠ B := by have := q.hb; omega
  have hbw : w.heap.size ≤ b := by have := q.hb; omega
  have hk : ∀ j, j ≠ b → (X.setCell ⟨b, 0, none⟩ (.int .i64 x)).heap[j]? = X.heap[j]? := fun j hj => Below.heap_setCell _ _ _ _ (fun e => hj (by simpa using e))
  exact ⟨by simpa using heap_set_atK q.row 0 (.int .i64 x), q.l.keep (fun j _ h2 _ => hk j h2), q.r.keep (fun j _ h2 _ => hk j h2), cu_set q.cur hbB _ _, set_new q.gr hbw _ _, q.hb, (hk _ (by have := q.hb; omega)).trans q.res⟩
theorem GSt.setL {B b lo : Nat} {cv : Value} {len : Nat} {w X : World} {kd k n : Int} {s : ByteArray} {u : Value} {t : T} {h : Nat} {k' n' : Int} {s' : ByteArray} {u' : Value} {t' : T} {h' : Nat} (q : GSt B b lo cv len w X kd k n s u t h k' n' s' u' t' h') {k2 n2 : Int} {s2 : ByteArray} {u2 : Value} {t2 : T} {h2 : Nat} (hp : TermP lo b h2 X k2 n2 s2 u2 t2) :
    GSt B b lo cv len w ((((X.setCell ⟨b, 1, none⟩ (.int .i64 k2)).setCell ⟨b, 2, none⟩ (.int .i64 n2)).setCell ⟨b, 3, none⟩ (.string s2)).setCell ⟨b, 4, none⟩ u2) kd k2 n2 s2 u2 t2 h2 k' n' s' u' t' h' := by
  have hbB : b ≠ B := by have := q.hb; omega
  have hbw : w.heap.size ≤ b := by have := q.hb; omega
  have hk : ∀ j, j ≠ b → ((((X.setCell ⟨b, 1, none⟩ (.int .i64 k2)).setCell ⟨b, 2, none⟩ (.int .i64 n2)).setCell ⟨b, 3, none⟩ (.string s2)).setCell ⟨b, 4, none⟩ u2).heap[j]? = X.heap[j]? := fun j hj => set4_other hj _ _ _ _
  exact ⟨set4_heap q.row _ _ _ _, hp.keep (fun j _ h2 _ => hk j h2), q.r.keep (fun j _ h2 _ => hk j h2), cu_set (cu_set (cu_set (cu_set q.cur hbB _ _) hbB _ _) hbB _ _) hbB _ _, set_new (set_new (set_new (set_new q.gr hbw _ _) hbw _ _) hbw _ _) hbw _ _, q.hb, (hk _ (by have := q.hb; omega)).trans q.res⟩
theorem GSt.setR {B b lo : Nat} {cv : Value} {len : Nat} {w X : World} {kd k n : Int} {s : ByteArray} {u : Value} {t : T} {h : Nat} {k' n' : Int} {s' : ByteArray} {u' : Value} {t' : T} {h' : Nat} (q : GSt B b lo cv len w X kd k n s u t h k' n' s' u' t' h') {k2 n2 : Int} {s2 : ByteArray} {u2 : Value} {t2 : T} {h2 : Nat} (hp : TermP lo b h2 X k2 n2 s2 u2 t2) :
    GSt B b lo cv len w ((((X.setCell ⟨b, 5, none⟩ (.int .i64 k2)).setCell ⟨b, 6, none⟩ (.int .i64 n2)).setCell ⟨b, 7, none⟩ (.string s2)).setCell ⟨b, 8, none⟩ u2) kd k n s u t h k2 n2 s2 u2 t2 h2 := by
  have hbB : b ≠ B := by have := q.hb; omega
  have hbw : w.heap.size ≤ b := by have := q.hb; omega
  have hk : ∀ j, j ≠ b → ((((X.setCell ⟨b, 5, none⟩ (.int .i64 k2)).setCell ⟨b, 6, none⟩ (.int .i64 n2)).setCell ⟨b, 7, none⟩ (.string s2)).setCell ⟨b, 8, none⟩ u2).heap[j]? = X.heap[j]? := fun j hj => set4_other hj _ _ _ _
  exact ⟨set4_heap' q.row _ _ _ _, q.l.keep (fun j _ h2 _ => hk j h2), hp.keep (fun j _ h2 _ => hk j h2), cu_set (cu_set (cu_set (cu_set q.cur hbB _ _) hbB _ _) hbB _ _) hbB _ _, set_new (set_new (set_new (set_new q.gr hbw _ _) hbw _ _) hbw _ _) hbw _ _, q.hb, (hk _ (by have := q.hb; omega)).trans q.res⟩
/-- The guard handed back by its box's cells, out of the result's own box. -/
theorem GSt.fin {B b : Nat} {cv : Value} {len : Nat} {w X : World} {kd k n : Int} {s : ByteArray} {a : Option Addr} {m c : Nat} {t : T} {h : Nat} {k' n' : Int} {s' : ByteArray} {a' : Option Addr} {m' c' : Nat} {t' : T} {h' : Nat} (q : GSt B b (w.heap.size + 1) cv len w X kd k n s (.slice a m c) t h k' n' s' (.slice a' m' c') t' h') (hkd : 0 ≤ kd ∧ kd ≤ 5) (hw : wT t ≤ 1000) (hw' : wT t' ≤ 1000) (hB : B < w.heap.size) (v0 v1 v2 v3 v4 v5 v6 v7 v8 : Value) :
    DrawnG B cv len w (.returned (gv kd k n s (.slice a m c) k' n' s' (.slice a' m' c'))) (((((((((X.setCell ⟨w.heap.size, 0, none⟩ v0).setCell ⟨w.heap.size, 1, none⟩ v1).setCell ⟨w.heap.size, 2, none⟩ v2).setCell ⟨w.heap.size, 3, none⟩ v3).setCell ⟨w.heap.size, 4, none⟩ v4).setCell ⟨w.heap.size, 5, none⟩ v5).setCell ⟨w.heap.size, 6, none⟩ v6).setCell ⟨w.heap.size, 7, none⟩ v7).setCell ⟨w.heap.size, 8, none⟩ v8) := by
  have hk : ∀ j, j ≠ w.heap.size → (((((((((X.setCell ⟨w.heap.size, 0, none⟩ v0).setCell ⟨w.heap.size, 1, none⟩ v1).setCell ⟨w.heap.size, 2, none⟩ v2).setCell ⟨w.heap.size, 3, none⟩ v3).setCell ⟨w.heap.size, 4, none⟩ v4).setCell ⟨w.heap.size, 5, none⟩ v5).setCell ⟨w.heap.size, 6, none⟩ v6).setCell ⟨w.heap.size, 7, none⟩ v7).setCell ⟨w.heap.size, 8, none⟩ v8).heap[j]? = X.heap[j]? := fun j hj => set9_heap hj _ _ _ _ _ _ _ _ _
  have hne : w.heap.size ≠ B := by omega
  refine ⟨kd, k, n, s, a, m, c, k', n', s', a', m', c', t, t', h, h', rfl, hkd, ((q.l.keep (fun j h1 _ _ => hk j (by omega))).at).low (by omega), ((q.r.keep (fun j h1 _ _ => hk j (by omega))).at).low (by omega), hw, hw', ?_, ?_⟩
  · exact cu_set (cu_set (cu_set (cu_set (cu_set (cu_set (cu_set (cu_set (cu_set q.cur hne _ _) hne _ _) hne _ _) hne _ _) hne _ _) hne _ _) hne _ _) hne _ _) hne _ _
  · exact set_new (set_new (set_new (set_new (set_new (set_new (set_new (set_new (set_new q.gr (Nat.le_refl _) _ _) (Nat.le_refl _) _ _) (Nat.le_refl _) _ _) (Nat.le_refl _) _ _) (Nat.le_refl _) _ _) (Nat.le_refl _) _ _) (Nat.le_refl _) _ _) (Nat.le_refl _) _ _) (Nat.le_refl _) _ _

set_option maxRecDepth 100000 in
set_option maxHeartbeats 6400000 in
theorem l9Draw_any (B : Nat) (cv : Value) (len : Nat) (w : World) (hcode : CodeAt w B cv len) (hcur : CurAt w B cv len) :
    Calls Tryz.prog 31 #[.pointer (some ⟨B, 0, none⟩)] w (DrawnG B cv len w) := by
  have hBl := hcur.lt
  obtain ⟨W0, hW0⟩ : ∃ W0, W0 = w.alloc zGd := ⟨_, rfl⟩
  have HCW := Lib.hid hcode
  have HC0 := Lib.hid (show CodeAt W0 B cv len by rw [hW0]; exact hcode.alloc hBl _); clear hcode
  have HU0 := Lib.hid (show CurAt W0 B cv len by rw [hW0]; exact hcur.alloc _); clear hcur
  have HG0 : Hid (w.grownBy W0 (some B)) := Lib.hid (by rw [hW0]; exact World.grownBy_alloc w _ _)
  have hz0 : W0.heap.size = w.heap.size + 1 := by rw [hW0]; simp
  have r0 : W0.heap[w.heap.size]? = some (grow 28 0 0 0 ⟨#[]⟩ (.slice none 0 0) 0 0 ⟨#[]⟩ (.slice none 0 0)) := by rw [hW0]; exact heap_new w _ rfl
  have HB0 : Hid (B < W0.heap.size) := Lib.hid (by omega)
  have HR0 := Lib.hid (And.intro hz0 r0)
  clear hz0 r0
  go_enter Tryz.func31, Tryz.ntmps31
  go_wp2_with fail
  rw [← hW0]
  clear hW0
  refine (once_any B cv len 2 _ (by decide) (by decide) HC0.out HU0.out).mono ?_
  rintro e w1 ⟨b1, rfl, hu1, hg1⟩
  have HU1 := Lib.hid hu1
  have HG1 := Lib.hid hg1
  clear hu1 hg1
  go_wp2_with fail
  refine (below_any B cv len 3 _ (by decide) (by decide) (HC0.out.grown HB0.out HG1.out) HU1.out).mono ?_
  rintro e w2 ⟨x2, rfl, hx2, hy2, hu2, hg2⟩
  have HU2 := Lib.hid hu2
  have HG2 := Lib.hid (grown_trans HG1.out hg2)
  clear hu2 hg2
  go_wp2_with fail
  refine (drawW_any 3 (by decide) b1 B cv len w2 (HC0.out.grown HB0.out HG2.out) HU2.out).mono ?_
  rintro e w3 ⟨k, n, s, u, ts, h, rfl, hs, ha, hwt, hu3, hg3⟩
  obtain ⟨a, c, rfl⟩ := ha.slice
  obtain ⟨m, hm⟩ : ∃ m, m = ts.length := ⟨_, rfl⟩
  rw [← hm] at ha ⊢
  have HT := Lib.hid (show TermAt w3 w2.heap.size h (tv k n s (.slice a m c)) (.node k n s ts) from ⟨k, n, s, _, ts, rfl, rfl, by unfold maxLen; omega, ha⟩)
  obtain ⟨t, ht⟩ : ∃ t, t = T.node k n s ts := ⟨_, rfl⟩
  rw [← ht] at HT hwt
  have HW : Hid (wT t ≤ 1000) := Lib.hid (by omega)
  have HU3 := Lib.hid hu3
  have HG3 := Lib.hid (grown_trans HG2.out hg3)
  have HZ2 : Hid (w.heap.size + 1 ≤ w2.heap.size ∧ w2.heap.size ≤ w3.heap.size) := Lib.hid ⟨by have := HG2.out.size; have := HR0.out.1; omega, hg3.size⟩
  clear hs ha hwt hu3 hg3 hm ht
  obtain ⟨R, hR⟩ : ∃ R, R = w3.alloc (.cells #[.int .i64 (1 + x2), .int .i64 k, .int .i64 n, .string s, .slice a m c, .int .i64 0, .int .i64 0, .string ⟨#[]⟩, .slice none 0 0] 28) := ⟨_, rfl⟩
  have hbR : Below w3.heap.size w3 R := by rw [hR]; exact (Below.refl _ _).alloc (Nat.le_refl _) _
  have HS0 : Hid (GSt B w3.heap.size (w.heap.size + 1) cv len w R (1 + x2) k n s (.slice a m c) t h 0 0 ⟨#[]⟩ (.slice none 0 0) (.node 0 0 ⟨#[]⟩ []) 0) := Lib.hid (by
    refine ⟨by rw [hR]; exact heap_new w3 _ rfl, (TermP.of HT.out (by have := HZ2.out; omega) (fun j h1 h2 => by omega)).keep (fun j _ _ h3 => hbR.block j h3), ⟨[], rfl, by decide, ⟨rfl, _, _, rfl⟩⟩, HU3.out.bel hbR, grown_trans HG0.out (grown_trans HG3.out (Below.toGrown hbR _)), ⟨by have := HZ2.out; omega, hBl, by omega⟩, ?_⟩
    exact (hbR.block _ (by have := HZ2.out; omega)).trans ((HG3.out.block _ (by have := HR0.out.1; omega) (fun e => by cases e; omega)).trans HR0.out.2))
  have HK : Hid (0 ≤ 1 + x2 ∧ 1 + x2 ≤ 5) := Lib.hid (by omega)
  go_wp2_with fail
  rw [← hR]
  clear hR hbR HT HU3 HZ2 HG3 HG2 HU2 HG1 HU1
  -- the other side
  go_wp2_with fail
  refine (drawW_any 2 (by decide) b1 B cv len _ (HCW.out.grown hBl HS0.out.gr) HS0.out.cur).mono ?_
  rintro e w4 ⟨k4, n4, s4, u4, ts4, h4, rfl, hs, ha, hwt, hu, hg⟩
  obtain ⟨a4, c4x, rfl⟩ := ha.slice
  obtain ⟨m4, hm⟩ : ∃ m, m = ts4.length := ⟨_, rfl⟩
  rw [← hm] at ha ⊢
  obtain ⟨t4, ht⟩ : ∃ t, t = T.node k4 n4 s4 ts4 := ⟨_, rfl⟩
  have HT4 := Lib.hid (show TermAt w4 R.heap.size h4 (tv k4 n4 s4 (.slice a4 m4 c4x)) t4 from ⟨k4, n4, s4, _, ts4, rfl, ht, by unfold maxLen; omega, ha⟩)
  rw [← ht] at hwt
  have HW4 : Hid (wT t4 ≤ 1000) := Lib.hid (by omega)
  have hq := HS0.out.grown hg hu
  have hlt := (Array.getElem?_eq_some_iff.1 HS0.out.row).1
  have hgz := hg.size
  have HS1 := Lib.hid (hq.setR (TermP.of HT4.out (by have := hq.hb; omega) (fun j h1 h2 => by omega)))
  have HRW := Lib.hid hq.row
  clear hs ha hwt hu hg hm ht hq hlt hgz
  obtain ⟨c0, c1, c2, c3, c4, c5, c6, c7, c8⟩ := cells_of9 HRW.out
  have y5 := frozen_of_row w4 w3.heap.size 5 _ _ HRW.out
  have y6 := frozen_of_row w4 w3.heap.size 6 _ _ HRW.out
  have y7 := frozen_of_row w4 w3.heap.size 7 _ _ HRW.out
  have y8 := frozen_of_row w4 w3.heap.size 8 _ _ HRW.out
  go_wp2_with fail
  obtain ⟨X4, hX4⟩ : ∃ X, X = ((((w4.setCell ⟨w3.heap.size, 5, none⟩ (.int .i64 k4)).setCell ⟨w3.heap.size, 6, none⟩ (.int .i64 n4)).setCell ⟨w3.heap.size, 7, none⟩ (.string s4)).setCell ⟨w3.heap.size, 8, none⟩ (.slice a4 m4 c4x)) := ⟨_, rfl⟩
  rw [← hX4] at HS1 ⊢
  clear hX4 c0 c1 c2 c3 c4 c5 c6 c7 c8 y5 y6 y7 y8
  refine (once_any B cv len 6 _ (by decide) (by decide) (HCW.out.grown hBl HS1.out.gr) HS1.out.cur).mono ?_
  rintro e w5 ⟨b5, rfl, hu5, hg5⟩
  have HS2 := Lib.hid (HS1.out.grown hg5 hu5)
  clear hu5 hg5 HS1
  cases b5 with
  | true =>
    go_wp2_with fail
    refine (drawE_any 2 (by decide) b1 B cv len _ (HCW.out.grown hBl HS2.out.gr) HS2.out.cur).mono ?_
    rintro e w6 ⟨k6, n6, s6, u6, ts6, h6, rfl, hs, ha, hwt, hu, hg⟩
    obtain ⟨a6, c6x, rfl⟩ := ha.slice
    obtain ⟨m6, hm⟩ : ∃ m, m = ts6.length := ⟨_, rfl⟩
    rw [← hm] at ha ⊢
    obtain ⟨t6, ht⟩ : ∃ t, t = T.node k6 n6 s6 ts6 := ⟨_, rfl⟩
    have HT6 := Lib.hid (show TermAt w6 w5.heap.size h6 (tv k6 n6 s6 (.slice a6 m6 c6x)) t6 from ⟨k6, n6, s6, _, ts6, rfl, ht, by unfold maxLen; omega, ha⟩)
    rw [← ht] at hwt
    have HW6 : Hid (wT t6 ≤ 1000) := Lib.hid (by omega)
    have hq := HS2.out.grown hg hu
    have hlt := (Array.getElem?_eq_some_iff.1 HS2.out.row).1
    have hgz := hg.size
    have HS3 := Lib.hid (hq.setL (TermP.of HT6.out (by have := hq.hb; omega) (fun j h1 h2 => by omega)))
    have HRW := Lib.hid hq.row
    clear hs ha hwt hu hg hm ht hq hlt hgz
    obtain ⟨c0, c1, c2, c3, c4, c5, c6, c7, c8⟩ := cells_of9 HRW.out
    have y1 := frozen_of_row w6 w3.heap.size 1 _ _ HRW.out
    have y2 := frozen_of_row w6 w3.heap.size 2 _ _ HRW.out
    have y3 := frozen_of_row w6 w3.heap.size 3 _ _ HRW.out
    have y4 := frozen_of_row w6 w3.heap.size 4 _ _ HRW.out
    go_wp2_with fail
    obtain ⟨X6, hX6⟩ : ∃ X, X = ((((w6.setCell ⟨w3.heap.size, 1, none⟩ (.int .i64 k6)).setCell ⟨w3.heap.size, 2, none⟩ (.int .i64 n6)).setCell ⟨w3.heap.size, 3, none⟩ (.string s6)).setCell ⟨w3.heap.size, 4, none⟩ (.slice a6 m6 c6x)) := ⟨_, rfl⟩
    rw [← hX6] at HS3 ⊢
    clear hX6 c0 c1 c2 c3 c4 c5 c6 c7 c8 y1 y2 y3 y4
    go_wp2_with fail
    refine (drawE_any 2 (by decide) b1 B cv len _ (HCW.out.grown hBl HS3.out.gr) HS3.out.cur).mono ?_
    rintro e w7 ⟨k7, n7, s7, u7, ts7, h7, rfl, hs, ha, hwt, hu, hg⟩
    obtain ⟨a7, c7x, rfl⟩ := ha.slice
    obtain ⟨m7, hm⟩ : ∃ m, m = ts7.length := ⟨_, rfl⟩
    rw [← hm] at ha ⊢
    obtain ⟨t7, ht⟩ : ∃ t, t = T.node k7 n7 s7 ts7 := ⟨_, rfl⟩
    have HT7 := Lib.hid (show TermAt w7 X6.heap.size h7 (tv k7 n7 s7 (.slice a7 m7 c7x)) t7 from ⟨k7, n7, s7, _, ts7, rfl, ht, by unfold maxLen; omega, ha⟩)
    rw [← ht] at hwt
    have HW7 : Hid (wT t7 ≤ 1000) := Lib.hid (by omega)
    have hq := HS3.out.grown hg hu
    have hlt := (Array.getElem?_eq_some_iff.1 HS3.out.row).1
    have hgz := hg.size
    have HS4 := Lib.hid (hq.setR (TermP.of HT7.out (by have := hq.hb; omega) (fun j h1 h2 => by omega)))
    have HRW := Lib.hid hq.row
    clear hs ha hwt hu hg hm ht hq hlt hgz
    obtain ⟨c0, c1, c2, c3, c4, c5, c6, c7, c8⟩ := cells_of9 HRW.out
    have y5 := frozen_of_row w7 w3.heap.size 5 _ _ HRW.out
    have y6 := frozen_of_row w7 w3.heap.size 6 _ _ HRW.out
    have y7 := frozen_of_row w7 w3.heap.size 7 _ _ HRW.out
    have y8 := frozen_of_row w7 w3.heap.size 8 _ _ HRW.out
    have hrow := HS4.out.row
    have hres := HS4.out.res
    obtain ⟨z0, z1, z2, z3, z4, z5, z6, z7, z8⟩ := cells_of9 hres
    have f0 := frozen_of_row _ w.heap.size 0 _ _ hres
    have f1 := frozen_of_row _ w.heap.size 1 _ _ hres
    have f2 := frozen_of_row _ w.heap.size 2 _ _ hres
    have f3 := frozen_of_row _ w.heap.size 3 _ _ hres
    have f4 := frozen_of_row _ w.heap.size 4 _ _ hres
    have f5 := frozen_of_row _ w.heap.size 5 _ _ hres
    have f6 := frozen_of_row _ w.heap.size 6 _ _ hres
    have f7 := frozen_of_row _ w.heap.size 7 _ _ hres
    have f8 := frozen_of_row _ w.heap.size 8 _ _ hres
    have HF := Lib.hid (fun v0 v1 v2 v3 v4 v5 v6 v7 v8 => HS4.out.fin HK.out HW6.out HW7.out hBl v0 v1 v2 v3 v4 v5 v6 v7 v8)
    clear hrow hres
    obtain ⟨d0, d1, d2, d3, d4, d5, d6, d7, d8⟩ := cells_of9 HS4.out.row
    go_wp2
    (try simp only [Exit.inBlock, Exit.then])
    refine bodyPost_ret (v := gv (1 + x2) k6 n6 s6 (.slice a6 m6 c6x) k7 n7 s7 (.slice a7 m7 c7x)) ?hr rfl ?_
    case hr =>
      rw [results_cell (a := 2) (t := 28) (ad := ⟨w.heap.size, 0, none⟩) rfl rfl]
      go_simp
    exact HF.out _ _ _ _ _ _ _ _ _
  | false =>
    have hrow := HS2.out.row
    have hres := HS2.out.res
    obtain ⟨z0, z1, z2, z3, z4, z5, z6, z7, z8⟩ := cells_of9 hres
    have f0 := frozen_of_row _ w.heap.size 0 _ _ hres
    have f1 := frozen_of_row _ w.heap.size 1 _ _ hres
    have f2 := frozen_of_row _ w.heap.size 2 _ _ hres
    have f3 := frozen_of_row _ w.heap.size 3 _ _ hres
    have f4 := frozen_of_row _ w.heap.size 4 _ _ hres
    have f5 := frozen_of_row _ w.heap.size 5 _ _ hres
    have f6 := frozen_of_row _ w.heap.size 6 _ _ hres
    have f7 := frozen_of_row _ w.heap.size 7 _ _ hres
    have f8 := frozen_of_row _ w.heap.size 8 _ _ hres
    obtain ⟨c0, c1, c2, c3, c4, c5, c6, c7, c8⟩ := cells_of9 hrow
    have HF := Lib.hid (fun v0 v1 v2 v3 v4 v5 v6 v7 v8 => HS2.out.fin HK.out HW.out HW4.out hBl v0 v1 v2 v3 v4 v5 v6 v7 v8)
    clear hrow hres
    go_wp2
    (try simp only [Exit.inBlock, Exit.then])
    refine bodyPost_ret (v := gv (1 + x2) k n s (.slice a m c) k4 n4 s4 (.slice a4 m4 c4x)) ?hr rfl ?_
    case hr =>
      rw [results_cell (a := 2) (t := 28) (ad := ⟨w.heap.size, 0, none⟩) rfl rfl]
      go_simp
    exact HF.out _ _ _ _ _ _ _ _ _

set_option maxRecDepth 100000 in
set_option maxHeartbeats 6400000 in
theorem l9Bent_any (B : Nat) (cv : Value) (len : Nat) (w : World) (hcode : CodeAt w B cv len) (hcur : CurAt w B cv len) :
    Calls Tryz.prog 19 #[.pointer (some ⟨B, 0, none⟩)] w (DrawnG B cv len w) := by
  have hBl := hcur.lt
  obtain ⟨W0, hW0⟩ : ∃ W0, W0 = w.alloc zGd := ⟨_, rfl⟩
  have HCW := Lib.hid hcode
  have HC0 := Lib.hid (show CodeAt W0 B cv len by rw [hW0]; exact hcode.alloc hBl _); clear hcode
  have HU0 := Lib.hid (show CurAt W0 B cv len by rw [hW0]; exact hcur.alloc _); clear hcur
  have HG0 : Hid (w.grownBy W0 (some B)) := Lib.hid (by rw [hW0]; exact World.grownBy_alloc w _ _)
  have hz0 : W0.heap.size = w.heap.size + 1 := by rw [hW0]; simp
  have r0 : W0.heap[w.heap.size]? = some (grow 28 0 0 0 ⟨#[]⟩ (.slice none 0 0) 0 0 ⟨#[]⟩ (.slice none 0 0)) := by rw [hW0]; exact heap_new w _ rfl
  have HR0 := Lib.hid (And.intro hz0 r0)
  clear hz0 r0
  go_enter Tryz.func19, Tryz.ntmps19
  go_wp2_with fail
  rw [← hW0]
  clear hW0
  refine (l9Draw_any B cv len W0 HC0.out HU0.out).mono ?_
  rintro e w1 ⟨kd, k, n, s, a, m, c, k', n', s', a', m', c', t, t', h, h', rfl, hkd, ht, ht', hw, hw', hu1, hg1⟩
  have HK := Lib.hid hkd
  have HT := Lib.hid (And.intro ht ht')
  have HW := Lib.hid hw
  have HW' := Lib.hid hw'
  have HU1 := Lib.hid hu1
  have HG1 := Lib.hid hg1
  clear hkd ht ht' hw hw' hu1 hg1
  obtain ⟨R, hR⟩ : ∃ R, R = w1.alloc (.cells #[.int .i64 kd, .int .i64 k, .int .i64 n, .string s, .slice a m c, .int .i64 k', .int .i64 n', .string s', .slice a' m' c'] 28) := ⟨_, rfl⟩
  have hbR : Below w1.heap.size w1 R := by rw [hR]; exact (Below.refl _ _).alloc (Nat.le_refl _) _
  have HS0 : Hid (GSt B w1.heap.size (w.heap.size + 1) cv len w R kd k n s (.slice a m c) t h k' n' s' (.slice a' m' c') t' h') := Lib.hid (by
    have hgz := HG1.out.size
    have hz0 := HR0.out.1
    refine ⟨by rw [hR]; exact heap_new w1 _ rfl, (TermP.of HT.out.1 (by omega) (fun j h1 h2 => by omega)).keep (fun j _ _ h3 => hbR.block j h3), (TermP.of HT.out.2 (by omega) (fun j h1 h2 => by omega)).keep (fun j _ _ h3 => hbR.block j h3), HU1.out.bel hbR, grown_trans HG0.out (grown_trans HG1.out (Below.toGrown hbR _)), ⟨by omega, hBl, by omega⟩, ?_⟩
    exact (hbR.block _ (by omega)).trans ((HG1.out.block _ (by omega) (fun e => by cases e; omega)).trans HR0.out.2))
  go_wp2_with fail
  rw [← hR]
  clear hR hbR
  refine (below_any B cv len 10 _ (by decide) (by decide) (HCW.out.grown hBl HS0.out.gr) HS0.out.cur).mono ?_
  rintro e w2 ⟨x, rfl, hx, hy, hu, hg⟩
  have HS1 := Lib.hid (HS0.out.grown hg hu)
  clear hu hg HS0
  by_cases h0 : x = 0
  · subst h0
    clear hx hy
    go_wp2_with fail
    refine (below_any B cv len 6 _ (by decide) (by decide) (HCW.out.grown hBl HS1.out.gr) HS1.out.cur).mono ?_
    rintro e w3 ⟨y, rfl, hx, hy, hu, hg⟩
    have HS2 := Lib.hid (HS1.out.grown hg hu)
    have HS3 := Lib.hid (HS2.out.setK y)
    have HKy : Hid (0 ≤ y ∧ y ≤ 5) := Lib.hid (by omega)
    clear hu hg hx hy
    obtain ⟨c0, c1, c2, c3, c4, c5, c6, c7, c8⟩ := cells_of9 HS2.out.row
    have y0 := frozen_of_row w3 w1.heap.size 0 _ _ HS2.out.row
    obtain ⟨z0, z1, z2, z3, z4, z5, z6, z7, z8⟩ := cells_of9 HS3.out.res
    have f0 := frozen_of_row _ w.heap.size 0 _ _ HS3.out.res
    have f1 := frozen_of_row _ w.heap.size 1 _ _ HS3.out.res
    have f2 := frozen_of_row _ w.heap.size 2 _ _ HS3.out.res
    have f3 := frozen_of_row _ w.heap.size 3 _ _ HS3.out.res
    have f4 := frozen_of_row _ w.heap.size 4 _ _ HS3.out.res
    have f5 := frozen_of_row _ w.heap.size 5 _ _ HS3.out.res
    have f6 := frozen_of_row _ w.heap.size 6 _ _ HS3.out.res
    have f7 := frozen_of_row _ w.heap.size 7 _ _ HS3.out.res
    have f8 := frozen_of_row _ w.heap.size 8 _ _ HS3.out.res
    obtain ⟨d0, d1, d2, d3, d4, d5, d6, d7, d8⟩ := cells_of9 HS3.out.row
    have HF := Lib.hid (fun v0 v1 v2 v3 v4 v5 v6 v7 v8 => HS3.out.fin HKy.out HW.out HW'.out hBl v0 v1 v2 v3 v4 v5 v6 v7 v8)
    go_wp2
    (try simp only [Exit.inBlock, Exit.then])
    refine bodyPost_ret (v := gv y k n s (.slice a m c) k' n' s' (.slice a' m' c')) ?hr rfl ?_
    case hr =>
      rw [results_cell (a := 2) (t := 28) (ad := ⟨w.heap.size, 0, none⟩) rfl rfl]
      go_simp
    exact HF.out _ _ _ _ _ _ _ _ _
  have h0b : (x == 0) = false := by simpa using h0
  by_cases h1 : x = 1
  · subst h1
    clear hx hy h0
    go_wp2_with fail
    refine (bent_any B cv len _ (HCW.out.grown hBl HS1.out.gr) HS1.out.cur).mono ?_
    rintro e w3 ⟨v3, t3, h3, rfl, ht3, hw3, hu, hg⟩
    obtain ⟨k3, n3, s3, a3, m3, c3x, rfl⟩ := ht3.shape
    have HS2 := Lib.hid (HS1.out.grown hg hu)
    have hlt := (Array.getElem?_eq_some_iff.1 HS1.out.row).1
    have HS3 := Lib.hid (HS2.out.setL (TermP.of ht3 (by have := HS2.out.hb; omega) (fun j h1 h2 => by omega)))
    have HW3 := Lib.hid hw3
    clear hu hg ht3 hw3 hlt
    obtain ⟨c0, c1, c2, c3, c4, c5, c6, c7, c8⟩ := cells_of9 HS2.out.row
    have y1 := frozen_of_row w3 w1.heap.size 1 _ _ HS2.out.row
    have y2 := frozen_of_row w3 w1.heap.size 2 _ _ HS2.out.row
    have y3 := frozen_of_row w3 w1.heap.size 3 _ _ HS2.out.row
    have y4 := frozen_of_row w3 w1.heap.size 4 _ _ HS2.out.row
    obtain ⟨z0, z1, z2, z3, z4, z5, z6, z7, z8⟩ := cells_of9 HS3.out.res
    have f0 := frozen_of_row _ w.heap.size 0 _ _ HS3.out.res
    have f1 := frozen_of_row _ w.heap.size 1 _ _ HS3.out.res
    have f2 := frozen_of_row _ w.heap.size 2 _ _ HS3.out.res
    have f3 := frozen_of_row _ w.heap.size 3 _ _ HS3.out.res
    have f4 := frozen_of_row _ w.heap.size 4 _ _ HS3.out.res
    have f5 := frozen_of_row _ w.heap.size 5 _ _ HS3.out.res
    have f6 := frozen_of_row _ w.heap.size 6 _ _ HS3.out.res
    have f7 := frozen_of_row _ w.heap.size 7 _ _ HS3.out.res
    have f8 := frozen_of_row _ w.heap.size 8 _ _ HS3.out.res
    obtain ⟨d0, d1, d2, d3, d4, d5, d6, d7, d8⟩ := cells_of9 HS3.out.row
    have HF := Lib.hid (fun v0 v1 v2 v3 v4 v5 v6 v7 v8 => HS3.out.fin HK.out HW3.out HW'.out hBl v0 v1 v2 v3 v4 v5 v6 v7 v8)
    go_wp2
    (try simp only [Exit.inBlock, Exit.then])
    refine bodyPost_ret (v := gv kd k3 n3 s3 (.slice a3 m3 c3x) k' n' s' (.slice a' m' c')) ?hr rfl ?_
    case hr =>
      rw [results_cell (a := 2) (t := 28) (ad := ⟨w.heap.size, 0, none⟩) rfl rfl]
      go_simp
    exact HF.out _ _ _ _ _ _ _ _ _
  have h1b : (x == 1) = false := by simpa using h1
  obtain ⟨z0, z1, z2, z3, z4, z5, z6, z7, z8⟩ := cells_of9 HS1.out.res
  have f0 := frozen_of_row _ w.heap.size 0 _ _ HS1.out.res
  have f1 := frozen_of_row _ w.heap.size 1 _ _ HS1.out.res
  have f2 := frozen_of_row _ w.heap.size 2 _ _ HS1.out.res
  have f3 := frozen_of_row _ w.heap.size 3 _ _ HS1.out.res
  have f4 := frozen_of_row _ w.heap.size 4 _ _ HS1.out.res
  have f5 := frozen_of_row _ w.heap.size 5 _ _ HS1.out.res
  have f6 := frozen_of_row _ w.heap.size 6 _ _ HS1.out.res
  have f7 := frozen_of_row _ w.heap.size 7 _ _ HS1.out.res
  have f8 := frozen_of_row _ w.heap.size 8 _ _ HS1.out.res
  obtain ⟨d0, d1, d2, d3, d4, d5, d6, d7, d8⟩ := cells_of9 HS1.out.row
  have HF := Lib.hid (fun v0 v1 v2 v3 v4 v5 v6 v7 v8 => HS1.out.fin HK.out HW.out HW'.out hBl v0 v1 v2 v3 v4 v5 v6 v7 v8)
  go_wp2
  (try simp only [Exit.inBlock, Exit.then])
  refine bodyPost_ret (v := gv kd k n s (.slice a m c) k' n' s' (.slice a' m' c')) ?hr rfl ?_
  case hr =>
    rw [results_cell (a := 2) (t := 28) (ad := ⟨w.heap.size, 0, none⟩) rfl rfl]
    go_simp
  exact HF.out _ _ _ _ _ _ _ _ _

/-- A drawn guard in blocks that are new. -/
def DrawnGuard (w : World) (e : Ending) (w' : World) : Prop :=
  ∃ (kd k n : Int) (s : ByteArray) (a : Option Addr) (m c : Nat) (k' n' : Int) (s' : ByteArray) (a' : Option Addr) (m' c' : Nat) (t t' : T) (h h' : Nat), e = .returned (gv kd k n s (.slice a m c) k' n' s' (.slice a' m' c')) ∧ (0 ≤ kd ∧ kd ≤ 5) ∧
    TermAt w' w.heap.size h (tv k n s (.slice a m c)) t ∧ TermAt w' w.heap.size h' (tv k' n' s' (.slice a' m' c')) t' ∧ wT t ≤ 1000 ∧ wT t' ≤ 1000 ∧ Below w.heap.size w w'

end Go.Proofs.YtidbokheeieifaaGreatDoor
