/-
  impl.argsOf over a level that the caller owns, whose terms lie in an earlier world: the level below is again owned, its terms in that world.
-/
import Derived.Test.YtbechogdijkgjaaCountI
namespace Go.Proofs.Ytbechogdijkgjaa
open Go.RowKit

/-- A level of terms: a row of cells in w, the terms' arguments in the earlier world w0. -/
def LvlAt (w0 w : World) (v : Value) (ts : List T) : Prop := ∃ h ls a cap, v = .slice a ts.length cap ∧ RowV w0 h ts ls ∧ (ts = [] ∨ ∃ b o, a = some ⟨b, o, none⟩ ∧ ∀ (j : Nat) (u : Value), ls[j]? = some u → w.cell? ⟨b, o + j, none⟩ = some u)
/-- The same, in memory of the caller's own, from block B on. -/
def LvlOwn (B : Nat) (w0 w : World) (v : Value) (ts : List T) : Prop := ∃ h ls, RowV w0 h ts ls ∧ w.ownsRow B 26 4 v ts.length ls

theorem LvlOwn.at {B : Nat} {w0 w : World} {v : Value} {ts : List T} (l : LvlOwn B w0 w v ts) : LvlAt w0 w v ts := by
  obtain ⟨h, ls, hr, ho⟩ := l
  rcases ho.2 with hnil | ⟨g, cap, cur, rfl, _⟩
  · obtain ⟨rfl, h0⟩ := hnil
    have : ts = [] := List.eq_nil_of_length_eq_zero (by omega)
    subst this
    exact ⟨h, ls, none, 0, rfl, hr, Or.inl rfl⟩
  · refine ⟨h, ls, _, cap, rfl, hr, Or.inr ⟨g, 0, rfl, fun j u hj => ?_⟩⟩
    have hl := (List.getElem?_eq_some_iff.1 hj).1
    have := ho.1
    rw [Nat.zero_add, ho.cellAt j (by omega), hj]
theorem LvlOwn.below {B : Nat} {w0 w w' : World} {v : Value} {ts : List T} (l : LvlOwn B w0 w v ts) (hb : Below w.heap.size w w') : LvlOwn B w0 w' v ts := by
  obtain ⟨h, ls, hr, ho⟩ := l
  exact ⟨h, ls, hr, keep_own ho hb⟩
theorem LvlOwn.low {B B' : Nat} {w0 w : World} {v : Value} {ts : List T} (l : LvlOwn B w0 w v ts) (hb : B' ≤ B) : LvlOwn B' w0 w v ts := by
  obtain ⟨h, ls, hr, ho⟩ := l
  exact ⟨h, ls, hr, own_low ho hb⟩
/-- Rows of other elements lie in other blocks. -/
theorem keep_type {w w' : World} {A B n m size size' : Nat} {e f : TypeId} {v u : Value} {xs ys : List Value} (h : w.ownsRow A e size v n xs) (hu : w.ownsRow B f size' u m ys) (hne : e ≠ f) (hg : w.grownBy w' u.ownBlock) : w'.ownsRow A e size v n xs :=
  h.kept hg (by
    rcases h.2 with hnil | ⟨g, cap, cur, rfl, _, hc, _⟩
    · rw [hnil.1]; exact Or.inl rfl
    · refine Or.inr fun e2 => ?_
      rcases hu.2 with hnil | ⟨g', cap', cur', rfl, _, hc', _⟩
      · rw [hnil.1] at e2; cases e2
      · cases e2
        rw [hc] at hc'
        cases hc'
        exact hne rfl)
theorem LvlOwn.other {A B m size : Nat} {w0 w w' : World} {v u : Value} {ts : List T} {ys : List Value} {f : TypeId} (l : LvlOwn A w0 w v ts) (hu : w.ownsRow B f size u m ys) (hne : 26 ≠ f) (hg : w.grownBy w' u.ownBlock) : LvlOwn A w0 w' v ts := by
  obtain ⟨h, ls, hr, ho⟩ := l
  exact ⟨h, ls, hr, keep_type ho hu hne hg⟩

theorem lvl_cells {w0 w : World} {h : Nat} {ls : List Value} {a : Option Addr} {ts : List T} {i : Nat} {t : T} (hr : RowV w0 h ts ls) (hc : ts = [] ∨ ∃ b o, a = some ⟨b, o, none⟩ ∧ ∀ (j : Nat) (u : Value), ls[j]? = some u → w.cell? ⟨b, o + j, none⟩ = some u) (ht : ts[i]? = some t) :
    ∃ b o k n s xs a' c', a = some ⟨b, o, none⟩ ∧ t = .node k n s xs ∧ s.size ≤ maxLen ∧ w.cell? ⟨b, o + i * 4, none⟩ = some (.int .i64 k) ∧ w.cell? ⟨b, o + i * 4 + 1, none⟩ = some (.int .i64 n) ∧
      w.cell? ⟨b, o + i * 4 + 2, none⟩ = some (.string s) ∧ w.cell? ⟨b, o + i * 4 + 3, none⟩ = some (.slice a' xs.length c') ∧ ArgsAt w0 0 h (.slice a' xs.length c') xs := by
  rcases hc with rfl | ⟨b, o, rfl, hc⟩
  · simp at ht
  · obtain ⟨k, n, s, xs⟩ := t
    obtain ⟨hs, a', m', c', x0, x1, x2, x3, ha⟩ := hr.at i k n s xs ht
    obtain ⟨a2, c2, e⟩ := ha.slice
    cases e
    refine ⟨b, o, k, n, s, xs, a', c', rfl, rfl, hs, hc _ _ x0, ?_, ?_, ?_, ha⟩
    · have := hc _ _ x1; rw [← Nat.add_assoc] at this; exact this
    · have := hc _ _ x2; rw [← Nat.add_assoc] at this; exact this
    · have := hc _ _ x3; rw [← Nat.add_assoc] at this; exact this

/-- How far argsOf has come. -/
def KidsRelG (h : Nat) (ts : List T) (k : Nat) (v : Value) (w0 w wr : World) : Prop :=
  ∃ vs, wr.ownsRow w.heap.size 26 4 v (kids (ts.take k)).length vs ∧ RowV w0 (h - 1) (kids (ts.take k)) vs ∧ Below w.heap.size w wr
def KidsOwn (w0 : World) (ts : List T) (w : World) (e : Ending) (w' : World) : Prop :=
  ∃ u, e = .returned u ∧ LvlOwn w.heap.size w0 w' u (kids ts) ∧ Below w.heap.size w w'

set_option maxRecDepth 100000 in
set_option maxHeartbeats 1600000 in
theorem argsOf_own (v : Value) (ts : List T) (w0 w : World) (hl : LvlAt w0 w v ts) (hb0 : Below w0.heap.size w0 w) (hk : (kids ts).length ≤ 1048576) (ht : ts.length ≤ 2097152) :
    Calls Try.prog 41 #[v] w (KidsOwn w0 ts w) := by
  obtain ⟨h, ls, a, cap, rfl, ha, hcl⟩ := hl
  have HCL := Lib.hid hcl; clear hcl
  have HBZ := Lib.hid hb0; clear hb0
  obtain ⟨i0, hi, hz0, hz1, hz2⟩ := info_parts infoTermL
  have HI := Lib.hid hi; clear hi
  have HZ0 := Lib.hid hz0; clear hz0
  have HZ1 := Lib.hid hz1; clear hz1
  have HZ2 := Lib.hid hz2; clear hz2
  have HA := Lib.hid ha; clear ha
  have HK := Lib.hid hk; clear hk
  obtain ⟨m, hm⟩ : ∃ m, m = ts.length := ⟨_, rfl⟩
  rw [← hm] at ht ⊢
  have HM := Lib.hid hm; clear hm
  go_enter Try.func41, Try.ntmps41
  go_wp2
  go_loopw [3, 8] (fun b i wr => ∃ k : Nat, k ≤ m ∧ i = .int .i64 k ∧ Hid (KidsRelG h ts k b w0 w wr)) (fun _ i _ => m - (intOf i).toNat)
  case atStart => exact ⟨0, Nat.zero_le _, rfl, Lib.hid ⟨[], World.ownsRow_nil _ _ _ _, rfl, Below.refl _ _⟩⟩
  case round =>
    obtain ⟨k, hk, rfl, HR⟩ := hrel
    by_cases hlt : k < m
    · obtain ⟨t, ht⟩ : ∃ t, ts[k]? = some t := ⟨_, List.getElem?_eq_getElem (by have := HM.out; omega)⟩
      obtain ⟨b, o, kk, nn, s, xs, a', cap', rfl, rfl, hsz, c0, c1, c2, c3, har⟩ := lvl_cells HA.out HCL.out ht
      obtain ⟨vs, ho, hv, hb⟩ := HR.out
      have d0 := cell_on hb c0
      have d1 := cell_on hb c1
      have d2 := cell_on hb c2
      have d3 := cell_on hb c3
      clear c0 c1 c2 c3
      have HTK : Hid (kids (ts.take (k + 1)) = kids (ts.take k) ++ xs) := Lib.hid (by rw [tk ts k _ ht, kids_snoc]; rfl)
      have hle := kids_take ts (k + 1)
      have hlx : (kids (ts.take k)).length + xs.length ≤ 1048576 := by
        rw [HTK.out, List.length_append] at hle
        have := HK.out; omega
      clear hle ht
      obtain ⟨n, hn⟩ : ∃ n, n = (kids (ts.take k)).length := ⟨_, rfl⟩
      rw [← hn] at ho hlx
      have HN := Lib.hid hn; clear hn
      have HO := Lib.hid ho; clear ho
      have HV := Lib.hid hv; clear hv
      have HB := Lib.hid hb; clear hb
      have HBX : Hid (Below w.heap.size w (wr.alloc (.cells #[.int .i64 kk, .int .i64 nn, .string s, .slice a' xs.length cap'] 26))) := Lib.hid (HB.out.alloc HB.out.size _)
      have HHA := Lib.hid har; clear har
      rcases HHA.out.cases with ⟨hnil, _⟩ | ⟨h2, b2, o2, cap2, e2, e3, hl3, _, hrow⟩
      · have hx0 : xs.length = 0 := by rw [hnil]; rfl
        rw [hx0] at d3 HBX
        go_wp2_with (first | (at_builtin; refine wpList_app_zero rfl (.tmp 12) (.tmp 14) 24 rfl w.heap.size 26 i0 4 Try.underlying24 HI.out _ _ _ rfl (HO.out.alloc _) _ _ rfl ?_))
        go_roundw
        case rel =>
          refine ⟨k + 1, by omega, by go_num, Lib.hid ⟨vs, ?_, ?_, HBX.out⟩⟩
          · rw [HTK.out, hnil, List.append_nil, ← HN.out]
            exact HO.out.alloc _
          · rw [HTK.out, hnil, List.append_nil]
            exact HV.out
        case measure => simp [intOf]; omega
      · have HHE := Lib.hid e2; clear e2
        obtain ⟨ws, hws, hwc⟩ := RowV.of_row hrow
        have hwl := hws.len
        cases e3
        have hwc' : ∀ (j : Nat) (u : Value), ws[j]? = some u → (wr.alloc (.cells #[.int .i64 kk, .int .i64 nn, .string s, .slice (some ⟨b2, o2, none⟩) xs.length cap'] 26)).cell? (Addr.add ⟨b2, o2, none⟩ j) = some u := fun j u hj => cell_on (HBZ.out.trans (HBX.out.mono HBZ.out.size)) (hwc j u hj)
        have HWC := Lib.hid hwc'; clear hwc' hwc
        have HWL := Lib.hid hwl; clear hwl
        have HWS := Lib.hid hws; clear hws
        clear hrow
        obtain ⟨mx, hmx⟩ : ∃ mx, mx = xs.length := ⟨_, rfl⟩
        rw [← hmx] at hlx d3 HBX HWC HWL
        have HMX := Lib.hid hmx; clear hmx
        go_wp2_with (first | (at_builtin; refine wpList_append_own _ rfl (.tmp 12) (.tmp 14) 24 rfl w.heap.size 26 i0 (.agg #[.int .i64 0, .int .i64 0, .string ByteArray.empty, .slice none 0 0]) 4 56 Try.underlying24 HI.out HZ0.out HZ1.out HZ2.out rfl (by decide) _ _ _ rfl (HO.out.alloc _) ⟨b2, o2, none⟩ mx cap' ws rfl HWL.out HWC.out HWS.out.one (by unfold maxLen; omega) (by omega) HBX.out.size ?_))
        intro v' w1 hown' hgr _
        have hb1 : Below w.heap.size w w1 := HBX.out.grown hgr HBX.out.size (fun j hj => (HO.out.lt j hj).1)
        have HO1 := Lib.hid hown'; clear hown'
        have HB1 := Lib.hid hb1; clear hb1 hgr
        go_wp2
        go_roundw
        case rel =>
          refine ⟨k + 1, by omega, by go_num, Lib.hid ⟨vs ++ ws, ?_, ?_, HB1.out⟩⟩
          · rw [HTK.out, List.length_append, ← HN.out, ← HMX.out]
            exact HO1.out
          · rw [HTK.out, show h - 1 = h2 by have := HHE.out; omega]
            exact HWS.out.app (by have := HV.out; rw [show h - 1 = h2 by have := HHE.out; omega] at this; exact this)
        case measure => simp [intOf]; omega
    · obtain ⟨vs, ho, hv, hb⟩ := HR.out
      rw [show ts.take k = ts from by rw [List.take_of_length_le]; have := HM.out; omega] at ho hv
      have HE := Lib.hid (show LvlOwn w.heap.size w0 wr _ (kids ts) from ⟨_, _, hv, ho⟩)
      have HB := Lib.hid hb
      clear ho hv hb
      go_wp2
      go_ret
      exact ⟨_, rfl, HE.out, HB.out⟩

end Go.Proofs.Ytbechogdijkgjaa
