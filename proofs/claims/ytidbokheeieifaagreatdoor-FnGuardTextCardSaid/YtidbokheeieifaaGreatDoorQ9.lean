/-
  The draws of terms: spec.l3Bent.
-/
import Derived.Test.YtidbokheeieifaaGreatDoorQ6
import Derived.Test.YtidbokheeieifaaGreatDoorQ8
import Derived.Deep.AppendLies
import Derived.Deep.LoopGhost
import Derived.Deep.CutBlock
import Derived.Deep.RegionLaw
import Derived.Deep.RegionLawGrows
namespace Go.Proofs.YtidbokheeieifaaGreatDoor
open Go.RowKit

/-- A drawn term in blocks that are new. -/
def BentT (B : Nat) (cv : Value) (len : Nat) (w : World) (e : Ending) (w' : World) : Prop :=
  ∃ v t h, e = .returned v ∧ TermAt w' w.heap.size h v t ∧ wT t ≤ 1000 ∧ CurAt w' B cv len ∧ w.grownBy w' (some B)

theorem set_new {w X : World} {B b : Nat} (hg : w.grownBy X (some B)) (hb : w.heap.size ≤ b) (j : Nat) (v : Value) : w.grownBy (X.setCell ⟨b, j, none⟩ v) (some B) :=
  ⟨hg.os, hg.tape, hg.output, by simpa [World.setCell] using hg.size, fun i hi hne => (Below.heap_setCell _ _ _ _ (by show i ≠ b; omega)).trans (hg.block i hi hne)⟩
theorem cu_set {w : World} {B len b : Nat} {cv : Value} (h : CurAt w B cv len) (hb : b ≠ B) (j : Nat) (v : Value) : CurAt (w.setCell ⟨b, j, none⟩ v) B cv len := by
  obtain ⟨i, x, hi, hB⟩ := h
  exact ⟨i, x, hi, by rw [Below.heap_setCell _ _ _ _ (by show B ≠ b; omega)]; exact hB⟩

theorem bent_fin {P : Nat → Prop} {B : Nat} {cv : Value} {len : Nat} {w X : World} {k n : Int} {s : ByteArray} {u : Value} {ts : List T} {h : Nat} (hB : B < w.heap.size) (hs : s.size ≤ 1000) (ha : ArgsP P X h u ts) (hP : ∀ j, P j → w.heap.size < j)
    (hw : wT (.node k n s ts) ≤ 1000) (hu : CurAt X B cv len) (hg : (boxZ w).grownBy X (some B)) : ∀ v0 v1 v2 v3 : Value,
    BentT B cv len w (.returned (tv k n s u)) ((((X.setCell ⟨w.heap.size, 0, none⟩ v0).setCell ⟨w.heap.size, 1, none⟩ v1).setCell ⟨w.heap.size, 2, none⟩ v2).setCell ⟨w.heap.size, 3, none⟩ v3) := by
  intro v0 v1 v2 v3
  have hg4 : X.grownBy ((((X.setCell ⟨w.heap.size, 0, none⟩ v0).setCell ⟨w.heap.size, 1, none⟩ v1).setCell ⟨w.heap.size, 2, none⟩ v2).setCell ⟨w.heap.size, 3, none⟩ v3) (some w.heap.size) :=
    grown_trans (grown_trans (grown_trans (set_grown _ _ _ _) (set_grown _ _ _ _)) (set_grown _ _ _ _)) (set_grown _ _ _ _)
  refine ⟨_, .node k n s ts, h, rfl, ⟨k, n, s, u, ts, rfl, rfl, by unfold maxLen; omega, ?_⟩, hw, ?_, ?_⟩
  · exact (ha.grown hg4 (fun j hj => by have := hP j hj; omega)).args (fun j hj => by have := hP j hj; omega)
  · exact cu_set (cu_set (cu_set (cu_set hu (by omega) _ _) (by omega) _ _) (by omega) _ _) (by omega) _ _
  · have h1 := grown_trans (World.grownBy_alloc w (.cells #[.int .i64 0, .int .i64 0, .string ⟨#[]⟩, .slice none 0 0] 26) (some B)) hg
    exact set_new (set_new (set_new (set_new h1 (Nat.le_refl _) _ _) (Nat.le_refl _) _ _) (Nat.le_refl _) _ _) (Nat.le_refl _) _ _

theorem news4' (w : World) (x0 x1 x2 x3 : Value) (t : TypeId) {n : Nat} (h : n = w.heap.size) : ∀ (j : Nat) (u : Value), [x0, x1, x2, x3][j]? = some u → (w.alloc (.cells #[x0, x1, x2, x3] t)).cell? (Addr.add ⟨n, 0, none⟩ j) = some u := by
  subst h
  intro j u hj
  have e := fun j => World.cell?_alloc_mark w #[x0, x1, x2, x3] t (0, 0) j
  match j, hj with
  | 0, hj => simp at hj; subst hj; exact e 0
  | 1, hj => simp at hj; subst hj; exact e 1
  | 2, hj => simp at hj; subst hj; exact e 2
  | 3, hj => simp at hj; subst hj; exact e 3
  | j + 4, hj => simp at hj

theorem own_zero {w : World} {B n c size b o : Nat} {e : TypeId} {xs : List Value} (h : w.ownsRow B e size (.slice (some ⟨b, o, none⟩) n c) n xs) : o = 0 := by
  rcases h.2 with ⟨h1, _⟩ | ⟨_, _, _, h1, _⟩
  · cases h1
  · cases h1; rfl
theorem own_base {w : World} {B n c size b o : Nat} {e : TypeId} {xs : List Value} (h : w.ownsRow B e size (.slice (some ⟨b, o, none⟩) n c) n xs) : B ≤ b := by
  rcases h.2 with ⟨h1, _⟩ | ⟨_, _, _, h1, hg, _⟩
  · cases h1
  · cases h1; exact hg
theorem own_spot {w : World} {B n c size : Nat} {e : TypeId} {a : Addr} {xs : List Value} (h : w.ownsRow B e size (.slice (some a) n c) n xs) : ∃ b, a = ⟨b, 0, none⟩ := by
  rcases h.2 with ⟨h1, _⟩ | ⟨g, _, _, h1, _⟩
  · cases h1
  · cases h1; exact ⟨g, rfl⟩
/-- A row of one's own with one leaf more. -/
theorem ArgsP.snoc {P : Nat → Prop} {W X : World} {B B' : Nat} {a : Option Addr} {c n d : Nat} {ts : List T} {xs : List Value} {v' : Value} (ha : ArgsP P W d (.slice a n c) ts) (ho : W.ownsRow B 26 4 (.slice a n c) n xs) (hn : n = ts.length)
    (hx : X.ownsRow B' 26 4 v' (n + 1) (xs ++ [.int .i64 3, .int .i64 1, .string ByteArray.empty, .slice none 0 0])) (hk : ∀ (ad : Addr) v, P ad.block → W.cell? ad = some v → X.cell? ad = some v) (hP : ∀ j, v'.ownBlock = some j → P j) (hl : n + 1 ≤ maxLen) :
    ArgsP P X (d + 1) v' (ts ++ [.node 3 1 ByteArray.empty []]) := by
  have hlen : (ts ++ [T.node 3 1 ByteArray.empty []]).length = n + 1 := by rw [hn]; simp
  rcases hx.2 with ⟨_, h0⟩ | ⟨g, cap, cur, rfl, _⟩
  · omega
  refine ⟨some ⟨g, 0, none⟩, cap, by rw [hlen], by rw [hlen]; exact hl, Or.inr ⟨g, 0, rfl, hP g rfl, fun i k n' s ys hi => ?_⟩⟩
  have hxl : xs.length = n * 4 := ho.1
  have hat : ∀ j v, j < (n + 1) * 4 → (xs ++ [.int .i64 3, .int .i64 1, .string ByteArray.empty, .slice none 0 0])[j]? = some v → X.cell? ⟨g, 0 + j, none⟩ = some v := fun j v hj hv => by rw [Nat.zero_add, hx.cellAt j hj, hv]
  by_cases hin : i < n
  · have hi' : ts[i]? = some (T.node k n' s ys) := by rw [List.getElem?_append_left (by omega)] at hi; exact hi
    cases d with
    | zero => obtain ⟨rfl, _⟩ := ha; simp at hi'
    | succ d =>
      obtain ⟨a', c', e, _, hc⟩ := ha
      injection e with e1 _ e3
      rcases hc with hnil | ⟨b, o, hab, hp, hc⟩
      · rw [hnil] at hi'; simp at hi'
      obtain ⟨hs, u', q0, q1, q2, q3, hr⟩ := hc i k n' s ys hi'
      rw [e1, hab] at ho
      have ho0 := own_zero ho
      subst ho0
      have hg : ∀ j v, j < 4 → W.cell? ⟨b, 0 + i * 4 + j, none⟩ = some v → xs[i * 4 + j]? = some v := fun j v hj hv => by
        rw [Nat.zero_add] at hv
        rw [← ho.cellAt (i * 4 + j) (by omega)]; exact hv
      have x0 := hg 0 _ (by omega) q0
      have x1 := hg 1 _ (by omega) q1
      have x2 := hg 2 _ (by omega) q2
      have x3 := hg 3 _ (by omega) q3
      have hap : ∀ j v, j < 4 → xs[i * 4 + j]? = some v → X.cell? ⟨g, 0 + (i * 4 + j), none⟩ = some v := fun j v hj hv => hat _ v (by omega) (by rw [List.getElem?_append_left (by omega)]; exact hv)
      refine ⟨hs, u', ?_, ?_, ?_, ?_, (hr.keep hk).more⟩
      · exact hap 0 _ (by omega) x0
      · have := hap 1 _ (by omega) x1; rw [← Nat.add_assoc] at this; exact this
      · have := hap 2 _ (by omega) x2; rw [← Nat.add_assoc] at this; exact this
      · have := hap 3 _ (by omega) x3; rw [← Nat.add_assoc] at this; exact this
  · have hin2 : i = n := by have := (List.getElem?_eq_some_iff.1 hi).1; omega
    subst hin2
    rw [List.getElem?_append_right (by omega), hn, Nat.sub_self] at hi
    simp at hi
    obtain ⟨rfl, rfl, rfl, rfl⟩ := hi
    have hap : ∀ j v, [Value.int .i64 3, .int .i64 1, .string ByteArray.empty, .slice none 0 0][j]? = some v → X.cell? ⟨g, 0 + (i * 4 + j), none⟩ = some v := fun j v hv => by
      have hj := (List.getElem?_eq_some_iff.1 hv).1
      simp at hj
      exact hat _ v (by omega) (by rw [List.getElem?_append_right (by omega), hxl, Nat.add_sub_cancel_left]; exact hv)
    refine ⟨by decide, .slice none 0 0, hap 0 _ rfl, ?_, ?_, ?_, ArgsP.empty P X d⟩
    · have := hap 1 _ rfl; rw [← Nat.add_assoc] at this; exact this
    · have := hap 2 _ rfl; rw [← Nat.add_assoc] at this; exact this
    · have := hap 3 _ rfl; rw [← Nat.add_assoc] at this; exact this

theorem own_form' {w : World} {B n size : Nat} {e : TypeId} {v : Value} {xs : List Value} (h : w.ownsRow B e size v n xs) : ∃ a c, v = .slice a n c := by
  rcases h.2 with ⟨rfl, h0⟩ | ⟨g, cap, cur, rfl, _⟩
  · exact ⟨none, 0, by rw [h0]⟩
  · exact ⟨_, cap, rfl⟩
def bentInts : List Int := [4, -1, 1]
def bentTexts : List ByteArray := [⟨#[]⟩, ⟨#[88]⟩, ⟨#[102]⟩, ⟨#[97, 66]⟩]
theorem bentTexts_short : ∀ p ∈ bentTexts, p.size ≤ 2 := by
  unfold bentTexts; intro p hp; simp only [List.mem_cons, List.mem_nil_iff, or_false] at hp
  rcases hp with rfl | rfl | rfl | rfl <;> decide

theorem infoTermD : (Tryz.prog.info? 26).map (fun i => (i.zero, i.size, i.bytes)) = some (some (.agg #[.int .i64 0, .int .i64 0, .string ByteArray.empty, .slice none 0 0]), 4, 56) := by kernel_rfl

theorem set4_row {w : World} {b : Nat} {a0 a1 a2 a3 : Value} {t : TypeId} (h : w.heap[b]? = some (.cells #[a0, a1, a2, a3] t (0, 0))) (v0 v1 v2 v3 : Value) :
    ((((w.setCell ⟨b, 0, none⟩ v0).setCell ⟨b, 1, none⟩ v1).setCell ⟨b, 2, none⟩ v2).setCell ⟨b, 3, none⟩ v3).heap[b]? = some (.cells #[v0, v1, v2, v3] t (0, 0)) := by
  have s1 : ∀ (w : World) (cs : Array Value) (j : Nat) (v : Value), w.heap[b]? = some (.cells cs t (0, 0)) → (w.setCell ⟨b, j, none⟩ v).heap[b]? = some (.cells (cs.setIfInBounds j v) t (0, 0)) := by
    intro w cs j v h
    obtain ⟨hlt, hk⟩ := Array.getElem?_eq_some_iff.1 h
    show (w.heap.modify b _)[b]? = _
    rw [Array.getElem?_eq_getElem (by rw [Array.size_modify]; exact hlt), Array.getElem_modify_self, hk]
    rfl
  have := s1 _ _ 3 v3 (s1 _ _ 2 v2 (s1 _ _ 1 v1 (s1 _ _ 0 v0 h)))
  simpa using this

theorem bent_round {P : Nat → Prop} {B len bt g j h lo : Nat} {cv : Value} {w0 wr w9 : World} {k n : Int} {s : ByteArray} {u : Value} {ts : List T} {v0 v1 v2 v3 : Value} (hzr : bt < wr.heap.size) (hbB : bt ≠ B) (hP : P = fun j => lo ≤ j ∧ j ≠ bt)
    (hbt : wr.heap[bt]? = some (.cells #[.int .i64 k, .int .i64 n, .string s, u] 26 (0, 0))) (ha : ArgsP P wr h u ts) (hs : s.size ≤ 1000) (hw : wT (.node k n s ts) ≤ 64 + 4 * j) (hu : CurAt wr B cv len) (hg0 : w0.grownBy wr (some B)) (hlo : w0.heap.size ≤ bt ∧ lo ≤ bt)
    (hgl : wr.heap.size ≤ g) (hgr : w9.heap[g]? = some (.cells #[.int .i64 k, .int .i64 n, .string s, u] 26 (0, 0))) (hb9 : Below wr.heap.size wr w9) :
    bt < ((((w9.setCell ⟨bt, 0, none⟩ v0).setCell ⟨bt, 1, none⟩ v1).setCell ⟨bt, 2, none⟩ v2).setCell ⟨bt, 3, none⟩ v3).heap.size ∧
    ((((w9.setCell ⟨bt, 0, none⟩ v0).setCell ⟨bt, 1, none⟩ v1).setCell ⟨bt, 2, none⟩ v2).setCell ⟨bt, 3, none⟩ v3).heap[bt]? = some (.cells #[v0, v1, v2, v3] 26 (0, 0)) ∧
    ArgsP P ((((w9.setCell ⟨bt, 0, none⟩ v0).setCell ⟨bt, 1, none⟩ v1).setCell ⟨bt, 2, none⟩ v2).setCell ⟨bt, 3, none⟩ v3) (h + 1) (.slice (some ⟨g, 0, none⟩) 1 1) [.node k n s ts] ∧
    wT (.node 2 0 ⟨#[103]⟩ [.node k n s ts]) ≤ 64 + 4 * (j + 1) ∧
    CurAt ((((w9.setCell ⟨bt, 0, none⟩ v0).setCell ⟨bt, 1, none⟩ v1).setCell ⟨bt, 2, none⟩ v2).setCell ⟨bt, 3, none⟩ v3) B cv len ∧
    w0.grownBy ((((w9.setCell ⟨bt, 0, none⟩ v0).setCell ⟨bt, 1, none⟩ v1).setCell ⟨bt, 2, none⟩ v2).setCell ⟨bt, 3, none⟩ v3) (some B) := by
  have hgX : w9.grownBy ((((w9.setCell ⟨bt, 0, none⟩ v0).setCell ⟨bt, 1, none⟩ v1).setCell ⟨bt, 2, none⟩ v2).setCell ⟨bt, 3, none⟩ v3) (some bt) :=
    grown_trans (grown_trans (grown_trans (set_grown _ _ _ _) (set_grown _ _ _ _)) (set_grown _ _ _ _)) (set_grown _ _ _ _)
  have hrow := set4_row ((hb9.block _ hzr).trans hbt) v0 v1 v2 v3
  have hgs := hgr
  have hglt := (Array.getElem?_eq_some_iff.1 hgs).1
  have hgX9 : ((((w9.setCell ⟨bt, 0, none⟩ v0).setCell ⟨bt, 1, none⟩ v1).setCell ⟨bt, 2, none⟩ v2).setCell ⟨bt, 3, none⟩ v3).heap[g]? = some (.cells #[.int .i64 k, .int .i64 n, .string s, u] 26 (0, 0)) := (hgX.block g hglt (fun e => by cases e; omega)).trans hgr
  refine ⟨Nat.lt_of_lt_of_le (Nat.lt_of_lt_of_le hzr hb9.size) hgX.size, hrow, ?_, ?_, ?_, ?_⟩
  · refine ArgsP.one hgX9 (by rw [hP]; exact ⟨by omega, by omega⟩) (by unfold maxLen; omega) ?_
    refine (ha.keep (fun ad v _ hv => cell_on hb9 hv)).keep (fun ad v hp hv => hgX.cell hv (fun e => ?_))
    rw [hP] at hp
    cases e
    exact hp.2 rfl
  · have h2 : (⟨#[103]⟩ : ByteArray).size = 1 := rfl
    rw [wT_node, h2]
    simp only [wS, List.map_cons, List.map_nil, List.sum_cons, List.sum_nil, List.length_cons, List.length_nil]
    omega
  · exact cu_set (cu_set (cu_set (cu_set (hu.bel hb9) hbB _ _) hbB _ _) hbB _ _) hbB _ _
  · exact set_new (set_new (set_new (set_new (grown_trans hg0 (Below.toGrown hb9 (some B))) hlo.1 _ _) hlo.1 _ _) hlo.1 _ _) hlo.1 _ _

set_option maxRecDepth 100000 in
set_option maxHeartbeats 6000000 in
theorem bent_any (B : Nat) (cv : Value) (len : Nat) (w : World) (hcode : CodeAt w B cv len) (hcur : CurAt w B cv len) :
    Calls Tryz.prog 40 #[.pointer (some ⟨B, 0, none⟩)] w (BentT B cv len w) := by
  have hBl := hcur.lt
  have HC := Lib.hid (hcode.alloc hBl (.cells #[.int .i64 0, .int .i64 0, .string ⟨#[]⟩, .slice none 0 0] 26)); clear hcode
  have HU0 := Lib.hid (hcur.alloc (.cells #[.int .i64 0, .int .i64 0, .string ⟨#[]⟩, .slice none 0 0] 26)); clear hcur
  have HBZ : Hid (B < (boxZ w).heap.size) := Lib.hid (by simp; omega)
  have HG0 := Lib.hid (grown_refl (boxZ w) (some B))
  go_enter Tryz.func40, Tryz.ntmps40
  go_wp2_with fail
  refine (below_any B cv len 4 _ (by decide) (by decide) (HC.out.grown HBZ.out HG0.out) HU0.out).mono ?_
  rintro e w1 ⟨x1, rfl, hx1, hx2, hu1, hg1⟩
  have HU1 := Lib.hid hu1; clear hu1
  have HG1 := Lib.hid (grown_trans HG0.out hg1); clear hg1
  obtain ⟨d0, rfl⟩ : ∃ d0 : Nat, x1 = d0 := ⟨x1.toNat, by omega⟩
  have hd0 : d0 ≤ 3 := by omega
  clear hx1 hx2
  go_wp2_with fail
  refine (once_any B cv len 2 _ (by decide) (by decide) (HC.out.grown HBZ.out HG1.out) HU1.out).mono ?_
  rintro e w2 ⟨b2, rfl, hu2, hg2⟩
  have HU2 := Lib.hid hu2; clear hu2
  have HG2 := Lib.hid (grown_trans HG1.out hg2); clear hg2
  have hD := draw_any (d0 + 1) (by omega) b2 B cv len w2 (HC.out.grown HBZ.out HG2.out) HU2.out
  have ed : ((d0 + 1 : Nat) : Int) = 1 + (d0 : Int) := by omega
  rw [ed] at hD
  have HD := Lib.hid hD; clear hD ed
  go_wp2_with fail
  refine HD.out.mono ?_
  rintro e w4 ⟨k, n, s, u, ts, xs, rfl, hs, ha, hl, ho, hw, hu4, hg4, ⟨ua, hcap⟩⟩
  obtain ⟨uc, huc⟩ : ∃ uc, uc = ts.length := ⟨_, rfl⟩
  obtain rfl : u = .slice ua ts.length uc := by rw [hcap, huc]
  clear hcap
  have HUC := Lib.hid huc; clear huc
  have hz0 : w.heap.size + 1 ≤ w2.heap.size := by have := HG2.out.size; simp at this; omega
  have HU4 := Lib.hid hu4; clear hu4
  have HG4 := Lib.hid (grown_trans HG2.out hg4); clear hg4 HD
  have hz4 : w.heap.size + 1 ≤ w4.heap.size := by have := HG4.out.size; simp at this; omega
  have HS := Lib.hid hs; clear hs
  have HL := Lib.hid hl; clear hl
  have HO := Lib.hid (own_low ho hz0); clear ho
  have hp5 : 2 ^ (d0 + 1) ≤ 16 := by
    have : d0 = 0 ∨ d0 = 1 ∨ d0 = 2 ∨ d0 = 3 := by omega
    rcases this with rfl | rfl | rfl | rfl <;> decide
  have HWT : Hid (wT (.node k n s ts) ≤ 64) := Lib.hid (by omega)
  clear hw hp5
  obtain ⟨P, hP⟩ : ∃ P : Nat → Prop, P = fun j => w.heap.size + 1 ≤ j ∧ j ≠ w4.heap.size := ⟨_, rfl⟩
  have hPl : ∀ j, P j → w.heap.size < j := by rw [hP]; intro j hj; omega
  have hPB : ∀ j, P j → j ≠ B := by rw [hP]; intro j hj; omega
  have HAP : Hid (ArgsP P w4 (d0 + 1) (.slice ua ts.length uc) ts) := Lib.hid (ArgsP.of (lo := w.heap.size + 1) (by rw [hP]; intro j h1 h2; omega) (ha.low hz0))
  have HP := Lib.hid hP; clear hP ha
  have hbB : w4.heap.size ≠ B := by omega
  obtain ⟨W5, hW5⟩ : ∃ W5, W5 = w4.alloc (.cells #[.int .i64 k, .int .i64 n, .string s, .slice ua ts.length uc] 26) := ⟨_, rfl⟩
  have HA5 : Hid (w4.grownBy W5 (some B)) := Lib.hid (by rw [hW5]; exact World.grownBy_alloc _ _ _)
  have HC5 : Hid (∀ Y, W5.grownBy Y (some B) → CodeAt Y B cv len) := Lib.hid (fun Y hY => HC.out.grown HBZ.out (grown_trans HG4.out (grown_trans HA5.out hY)))
  have HU5 : Hid (CurAt W5 B cv len) := Lib.hid (by rw [hW5]; exact HU4.out.alloc _)
  have HBT : Hid (∀ Y, W5.grownBy Y (some B) → Y.heap[w4.heap.size]? = some (.cells #[.int .i64 k, .int .i64 n, .string s, .slice ua ts.length uc] 26 (0, 0))) := Lib.hid (fun Y hY => (hY.block _ (by rw [hW5]; simp) (fun e => by cases e; exact hbB rfl)).trans (by rw [hW5]; exact heap_new w4 _ rfl))
  go_wp2_with fail
  rw [← hW5]
  clear hW5
  refine (below_any B cv len 12 _ (by decide) (by decide) (HC5.out _ (grown_refl _ _)) HU5.out).mono ?_
  rintro e w6 ⟨x, rfl, hx1, hx2, hu6, hg6⟩
  have HU6 := Lib.hid hu6; clear hu6
  have HG6 := Lib.hid hg6; clear hg6
  have hx : x = 0 ∨ x = 1 ∨ x = 2 ∨ x = 3 ∨ x = 4 ∨ (x ≠ 0 ∧ x ≠ 1 ∧ x ≠ 2 ∧ x ≠ 3 ∧ x ≠ 4) := by omega
  rcases hx with rfl | rfl | rfl | rfl | rfl | ⟨h0, h1, h2, h3, h4⟩
  · clear hx1 hx2
    go_wp2_with fail
    refine (below_any B cv len 5 _ (by decide) (by decide) (HC5.out _ HG6.out) HU6.out).mono ?_
    rintro e w7 ⟨y, rfl, hy1, hy2, hu7, hg7⟩
    have HU7 := Lib.hid hu7; clear hu7
    have HG7 := Lib.hid (grown_trans HG6.out hg7); clear hg7 hy1 hy2
    have hbt := HBT.out _ HG7.out
    have c0 := cell_of_row w7 w4.heap.size 0 _ _ _ hbt
    have c1 := cell_of_row w7 w4.heap.size 1 _ _ _ hbt
    have c2 := cell_of_row w7 w4.heap.size 2 _ _ _ hbt
    have c3 := cell_of_row w7 w4.heap.size 3 _ _ _ hbt
    have g0 := frozen_of_row w7 w4.heap.size 0 _ _ hbt
    have g1 := frozen_of_row w7 w4.heap.size 1 _ _ hbt
    have g2 := frozen_of_row w7 w4.heap.size 2 _ _ hbt
    have g3 := frozen_of_row w7 w4.heap.size 3 _ _ hbt
    simp at c0 c1 c2 c3
    clear hbt
    obtain ⟨⟨z0, z1, z2, z3⟩, y0, y1, y2, y3⟩ := boxZ_cells hBl (grown_trans HG4.out (grown_trans HA5.out HG7.out))
    have HFIN := Lib.hid (bent_fin (k := y) (n := n) (s := s) (ts := ts) hBl HS.out (HAP.out.grown (set_new (grown_trans HA5.out HG7.out) (Nat.le_refl _) 0 (.int .i64 y)) hPB) hPl (by have := HWT.out; rw [wT_node] at this ⊢; omega) (cu_set HU7.out hbB 0 (.int .i64 y)) (grown_trans HG4.out (set_new (grown_trans HA5.out HG7.out) (Nat.le_refl _) 0 (.int .i64 y))))
    go_wp2
    (try simp only [Exit.inBlock, Exit.then])
    refine bodyPost_ret (v := tv y n s (.slice ua ts.length uc)) ?hr rfl ?_
    case hr =>
      rw [results_cell (a := 2) (t := 26) (ad := ⟨w.heap.size, 0, none⟩) rfl rfl]
      go_simp
    exact HFIN.out _ _ _ _
  · clear hx1 hx2
    have hcall := fun (W : World) (hW : W = w6.alloc (.cells (bentInts.map (Value.int .i64)).toArray 3)) => pickInt_any B w6.heap.size 3 cv len bentInts W (by decide) (by decide) (by have := HU6.out.lt; omega) (by rw [hW]; exact new_ints w6 bentInts _) (by rw [hW]; exact (HC5.out _ HG6.out).alloc HU6.out.lt _) (by rw [hW]; exact HU6.out.alloc _)
    have HCALL := Lib.hid hcall; clear hcall
    go_wp2_with fail
    refine (HCALL.out _ rfl).mono ?_
    rintro e w7 ⟨v7, hv7, rfl, hu7, hg7⟩
    obtain ⟨y, hy, rfl⟩ := List.mem_map.1 hv7
    clear hv7 hy
    have HU7 := Lib.hid hu7; clear hu7
    have HG7 := Lib.hid (grown_trans HG6.out (grown_trans (World.grownBy_alloc w6 _ (some B)) hg7)); clear hg7
    have hbt := HBT.out _ HG7.out
    have c0 := cell_of_row w7 w4.heap.size 0 _ _ _ hbt
    have c1 := cell_of_row w7 w4.heap.size 1 _ _ _ hbt
    have c2 := cell_of_row w7 w4.heap.size 2 _ _ _ hbt
    have c3 := cell_of_row w7 w4.heap.size 3 _ _ _ hbt
    have g0 := frozen_of_row w7 w4.heap.size 0 _ _ hbt
    have g1 := frozen_of_row w7 w4.heap.size 1 _ _ hbt
    have g2 := frozen_of_row w7 w4.heap.size 2 _ _ hbt
    have g3 := frozen_of_row w7 w4.heap.size 3 _ _ hbt
    simp at c0 c1 c2 c3
    clear hbt
    obtain ⟨⟨z0, z1, z2, z3⟩, y0, y1, y2, y3⟩ := boxZ_cells hBl (grown_trans HG4.out (grown_trans HA5.out HG7.out))
    have HFIN := Lib.hid (bent_fin (k := k) (n := y) (s := s) (ts := ts) hBl HS.out (HAP.out.grown (set_new (grown_trans HA5.out HG7.out) (Nat.le_refl _) 1 (.int .i64 y)) hPB) hPl (by have := HWT.out; rw [wT_node] at this ⊢; omega) (cu_set HU7.out hbB 1 (.int .i64 y)) (grown_trans HG4.out (set_new (grown_trans HA5.out HG7.out) (Nat.le_refl _) 1 (.int .i64 y))))
    go_wp2
    (try simp only [Exit.inBlock, Exit.then])
    refine bodyPost_ret (v := tv k y s (.slice ua ts.length uc)) ?hr rfl ?_
    case hr =>
      rw [results_cell (a := 2) (t := 26) (ad := ⟨w.heap.size, 0, none⟩) rfl rfl]
      go_simp
    exact HFIN.out _ _ _ _
  · clear hx1 hx2
    have hcall := fun (W : World) (hW : W = w6.alloc (.cells (bentTexts.map Value.string).toArray 9)) => pick_any B w6.heap.size 4 cv len bentTexts W (by decide) (by decide) (by have := HU6.out.lt; omega) (by rw [hW]; exact new_strs w6 bentTexts _) (by rw [hW]; exact (HC5.out _ HG6.out).alloc HU6.out.lt _) (by rw [hW]; exact HU6.out.alloc _)
    have HCALL := Lib.hid hcall; clear hcall
    go_wp2_with fail
    refine (HCALL.out _ rfl).mono ?_
    rintro e w7 ⟨v7, hv7, rfl, hu7, hg7⟩
    obtain ⟨y, hy, rfl⟩ := List.mem_map.1 hv7
    have HY := Lib.hid (bentTexts_short y hy)
    clear hv7 hy
    have HU7 := Lib.hid hu7; clear hu7
    have HG7 := Lib.hid (grown_trans HG6.out (grown_trans (World.grownBy_alloc w6 _ (some B)) hg7)); clear hg7
    have hbt := HBT.out _ HG7.out
    have c0 := cell_of_row w7 w4.heap.size 0 _ _ _ hbt
    have c1 := cell_of_row w7 w4.heap.size 1 _ _ _ hbt
    have c2 := cell_of_row w7 w4.heap.size 2 _ _ _ hbt
    have c3 := cell_of_row w7 w4.heap.size 3 _ _ _ hbt
    have g0 := frozen_of_row w7 w4.heap.size 0 _ _ hbt
    have g1 := frozen_of_row w7 w4.heap.size 1 _ _ hbt
    have g2 := frozen_of_row w7 w4.heap.size 2 _ _ hbt
    have g3 := frozen_of_row w7 w4.heap.size 3 _ _ hbt
    simp at c0 c1 c2 c3
    clear hbt
    obtain ⟨⟨z0, z1, z2, z3⟩, y0, y1, y2, y3⟩ := boxZ_cells hBl (grown_trans HG4.out (grown_trans HA5.out HG7.out))
    have HFIN := Lib.hid (bent_fin (k := k) (n := n) (s := y) (ts := ts) hBl (by have := HY.out; omega) (HAP.out.grown (set_new (grown_trans HA5.out HG7.out) (Nat.le_refl _) 2 (.string y)) hPB) hPl (by have := HWT.out; have := HY.out; rw [wT_node] at *; omega) (cu_set HU7.out hbB 2 (.string y)) (grown_trans HG4.out (set_new (grown_trans HA5.out HG7.out) (Nat.le_refl _) 2 (.string y))))
    go_wp2
    (try simp only [Exit.inBlock, Exit.then])
    refine bodyPost_ret (v := tv k n y (.slice ua ts.length uc)) ?hr rfl ?_
    case hr =>
      rw [results_cell (a := 2) (t := 26) (ad := ⟨w.heap.size, 0, none⟩) rfl rfl]
      go_simp
    exact HFIN.out _ _ _ _
  · clear hx1 hx2
    obtain ⟨i0, hi, hz0', hz1, hz2⟩ := info_parts infoTermD
    have hlen : ts.length ≤ 1000 := HL.out
    have hO6 : ∀ Y, w4.grownBy Y (some B) → Y.ownsRow (w.heap.size + 1) 26 4 (.slice ua ts.length uc) ts.length xs := fun Y hY => HO.out.kept hY (Or.inr (fun e => by have := (HO.out.lt B e).1; omega))
    have HO6 := Lib.hid hO6; clear hO6
    have hbt := HBT.out _ HG6.out
    have c0 := cell_of_row w6 w4.heap.size 0 _ _ _ hbt
    have c1 := cell_of_row w6 w4.heap.size 1 _ _ _ hbt
    have c2 := cell_of_row w6 w4.heap.size 2 _ _ _ hbt
    have c3 := cell_of_row w6 w4.heap.size 3 _ _ _ hbt
    have g0 := frozen_of_row w6 w4.heap.size 0 _ _ hbt
    have g1 := frozen_of_row w6 w4.heap.size 1 _ _ hbt
    have g2 := frozen_of_row w6 w4.heap.size 2 _ _ hbt
    have g3 := frozen_of_row w6 w4.heap.size 3 _ _ hbt
    simp at c0 c1 c2 c3
    clear hbt
    obtain ⟨⟨z0, z1, z2, z3⟩, y0, y1, y2, y3⟩ := boxZ_cells hBl (grown_trans HG4.out (grown_trans HA5.out HG6.out))
    have HK3 : Hid (∀ Y, W5.grownBy Y (some B) → Y.cell? ⟨w4.heap.size, 3, none⟩ = some (.slice ua ts.length uc)) := Lib.hid (fun Y hY => by have := cell_of_row Y w4.heap.size 3 _ _ _ (HBT.out Y hY); simpa using this)
    have hold1 : ua = none → ts.length = 0 := by
      intro e
      rcases HO.out.2 with ⟨_, h0⟩ | ⟨g', cap', cur', h1, _⟩
      · exact h0
      · rw [e] at h1; cases h1
    have hold2 : ∀ Y, W5.grownBy Y (some B) → ∀ b, ua = some b → ∀ (j : Nat) (u : Value), xs[j]? = some u → Y.cell? (b.add j) = some u ∧ some (b.add j).block ≠ some B := by
      intro Y hY b e j u hj
      have hoY := HO6.out Y (grown_trans HA5.out hY)
      rw [e] at hoY
      obtain ⟨g', rfl⟩ := own_spot hoY
      have hg' := own_base hoY
      have hjl := (List.getElem?_eq_some_iff.1 hj).1
      have h4 := hoY.1
      have e4 : Addr.add ⟨g', 0, none⟩ j = ⟨g', j, none⟩ := by
        unfold Addr.add
        split
        · rename_i h; rw [h]
        · simp
      rw [e4]
      exact ⟨by rw [hoY.cellAt j (by omega), hj], fun e5 => by have h6 : g' = B := (by simpa using e5); omega⟩
    have HOLD : Hid (xs.length = ts.length * 4 ∧ (ua = none → ts.length = 0) ∧ ∀ Y, W5.grownBy Y (some B) → ∀ b, ua = some b → ∀ (j : Nat) (u : Value), xs[j]? = some u → Y.cell? (b.add j) = some u ∧ some (b.add j).block ≠ some B) := Lib.hid ⟨HO.out.1, hold1, hold2⟩
    clear hold1 hold2
    go_upto_region 10 with fail
    go_region_law (first
      | (refine step_append_grows rfl (.tmp 34) (.tmp 36) 24 rfl 26 i0 (.agg #[.int .i64 0, .int .i64 0, .string ByteArray.empty, .slice none 0 0]) 4 56 Tryz.underlying24 hi hz0' hz1 hz2 rfl (by decide) ua ts.length uc xs rfl (fun e => by have := HOLD.out.2.1 e; have := HUC.out; omega) HO.out.1 (fun b e j u hj => (World.grownBy_alloc w7 (.cells #[.int .i64 3, .int .i64 1, .string ByteArray.empty, .slice none 0 0] 26) (some B)).cell (HOLD.out.2.2 _ HG7.out b e j u hj).1 (HOLD.out.2.2 _ HG7.out b e j u hj).2) ⟨w7.heap.size, 0, none⟩ 1 1 [.int .i64 3, .int .i64 1, .string ByteArray.empty, .slice none 0 0] rfl rfl (news4' _ _ _ _ _ _ rfl) (by simp [Value.oneCell']) (by have := HUC.out; omega) (by unfold maxLen; omega) (by omega) ?_; intro v8 w8 hown hgr; obtain ⟨v8a, v8c, rfl⟩ := own_form' hown; have HOWN := Lib.hid hown; have HGR := Lib.hid hgr; clear hown hgr; have hb8 : Below w7.heap.size w7 w8 := ((Below.refl _ _).alloc (Nat.le_refl _) _).trans ((Below.refl _ _).grown HGR.out (by simp) (fun k hk => by cases hk)); have HB8 := Lib.hid hb8; clear hb8; have HG8 := Lib.hid (grown_trans HG7.out (Below.toGrown HB8.out (some B))); have c3' := HK3.out _ HG8.out; have hbt8 := HBT.out _ HG8.out; have g3' := frozen_of_row w8 w4.heap.size 3 _ _ hbt8; have c0' := cell_of_row w8 w4.heap.size 0 _ _ _ hbt8; have c1' := cell_of_row w8 w4.heap.size 1 _ _ _ hbt8; have c2' := cell_of_row w8 w4.heap.size 2 _ _ _ hbt8; simp at c0' c1' c2'; clear hbt8)
      | (go_simp; go_at_call 64; refine (l3Word_any 1 _).mono ?_; rintro e w7 ⟨rfl, hb7⟩; have HB7 := Lib.hid hb7; have HG7 := Lib.hid (grown_trans (gr_drew HG6.out) (Below.toGrown hb7 (some B))); have q3 := HK3.out _ HG7.out; have q4 := HK3.out _ (grown_trans HG7.out (World.grownBy_alloc w7 (.cells #[.int .i64 3, .int .i64 1, .string ByteArray.empty, .slice none 0 0] 26) (some B))); have hzz7 : w.heap.size + 1 ≤ w7.heap.size := Nat.le_trans hz4 (Nat.le_trans HA5.out.size HG7.out.size); clear hb7))
    all_goals
      obtain ⟨⟨z0, z1, z2, z3⟩, y0, y1, y2, y3⟩ := boxZ_cells hBl (grown_trans HG4.out (grown_trans HA5.out HG8.out))
      have hgX := set_new (grown_trans HA5.out HG8.out) (Nat.le_refl w4.heap.size) 3 (.slice v8a (ts.length + 1) v8c)
      have hzw7 : w4.heap.size ≤ w7.heap.size := Nat.le_trans HA5.out.size HG7.out.size
      have hown9 := HOWN.out.kept (set_grown w8 w4.heap.size 3 (.slice v8a (ts.length + 1) v8c)) (Or.inr (fun e => by have := (HOWN.out.lt _ e).1; simp at this; omega))
      have haX := ArgsP.snoc HAP.out HO.out rfl hown9 (fun ad v hp hv => hgX.cell hv (fun e => by cases e; exact hPB _ hp rfl)) (fun j hj => by
        have h1 := (HOWN.out.lt j hj).1
        simp at h1
        rw [HP.out]
        exact ⟨by omega, by omega⟩) (by unfold maxLen; omega)
      have hCU8 : CurAt w8 B cv len := by
        have h1 := (cu_drew HU6.out).bel HB7.out
        exact h1.bel HB8.out
      have hwX : wT (.node k n s (ts ++ [.node 3 1 ByteArray.empty []])) ≤ 1000 := by
        have h1 := HWT.out
        have h2 : wT (.node 3 1 ByteArray.empty []) = 0 := by rw [wT_node]; rfl
        rw [wT_node] at h1 ⊢
        rw [wS_snoc, h2, List.length_append, List.length_singleton]
        omega
      have HFIN := Lib.hid (bent_fin (k := k) (n := n) (s := s) hBl HS.out haX hPl hwX (cu_set hCU8 hbB 3 (.slice v8a (ts.length + 1) v8c)) (grown_trans HG4.out hgX))
      clear hgX haX hown9 hwX hCU8
      go_wp2
      (try simp only [Exit.inBlock, Exit.then])
      refine bodyPost_ret (v := tv k n s (.slice v8a (ts.length + 1) v8c)) ?_ rfl ?_
      · rw [results_cell (a := 2) (t := 26) (ad := ⟨w.heap.size, 0, none⟩) rfl rfl]
        go_simp
      · exact HFIN.out _ _ _ _
  · clear hx1 hx2
    have hbt6 := HBT.out _ HG6.out
    have HB6 := Lib.hid hbt6; clear hbt6
    have HGR6 := Lib.hid (grown_trans HG4.out (grown_trans HA5.out HG6.out))
    have HAP6 := Lib.hid (HAP.out.grown (grown_trans HA5.out HG6.out) hPB)
    have HW64 : Hid (wT (.node k n s ts) ≤ 64 + 4 * 0) := Lib.hid (by have := HWT.out; omega)
    have hzw6 : w4.heap.size < w6.heap.size := (Array.getElem?_eq_some_iff.1 HB6.out).1
    go_wp2
    go_loopw [4] (fun i wr => ∃ (j : Nat) (k n : Int) (s : ByteArray) (ua : Option Addr) (uc : Nat) (ts : List T) (h : Nat), j ≤ 16 ∧ i = .int .i64 j ∧ w4.heap.size < wr.heap.size ∧ Hid (wr.heap[w4.heap.size]? = some (.cells #[.int .i64 k, .int .i64 n, .string s, .slice ua ts.length uc] 26 (0, 0))) ∧ Hid (ArgsP P wr h (.slice ua ts.length uc) ts) ∧ Hid (s.size ≤ 1000) ∧ Hid (wT (.node k n s ts) ≤ 64 + 4 * j) ∧ Hid (CurAt wr B cv len) ∧ Hid ((boxZ w).grownBy wr (some B))) (fun i _ => 16 - (intOf i).toNat)
    case atStart => exact ⟨0, k, n, s, ua, uc, ts, _, by omega, rfl, hzw6, HB6, HAP6, HS, HW64, HU6, HGR6⟩
    case round =>
      clear HB6 HAP6 HS HW64 HU6 HGR6 HAP HWT HO HL HBT hzw6 HG6
      obtain ⟨j, k, n, s, ua, uc, ts, h, hj, rfl, hzr, HBR, HAR, HSR, HWR, HUR, HGR⟩ := hrel
      have hbr := HBR.out
      have c0 := cell_of_row wr w4.heap.size 0 _ _ _ hbr
      have c1 := cell_of_row wr w4.heap.size 1 _ _ _ hbr
      have c2 := cell_of_row wr w4.heap.size 2 _ _ _ hbr
      have c3 := cell_of_row wr w4.heap.size 3 _ _ _ hbr
      simp at c0 c1 c2 c3
      clear hbr
      by_cases hj16 : j < 16
      · go_wp2_with fail
        refine (l3One_any ⟨#[103]⟩ k n s _ _).mono ?_
        rintro e w9 ⟨g, rfl, hgl, hgr, hb9⟩
        have hbt9 := (hb9.block _ hzr).trans HBR.out
        have HGG := Lib.hid (And.intro hgl hgr); clear hgl hgr
        have HB9 := Lib.hid hb9; clear hb9
        have HBT9 := Lib.hid hbt9
        have d0 := cell_of_row w9 w4.heap.size 0 _ _ _ hbt9
        have d1 := cell_of_row w9 w4.heap.size 1 _ _ _ hbt9
        have d2 := cell_of_row w9 w4.heap.size 2 _ _ _ hbt9
        have d3 := cell_of_row w9 w4.heap.size 3 _ _ _ hbt9
        have g0 := frozen_of_row w9 w4.heap.size 0 _ _ hbt9
        have g1 := frozen_of_row w9 w4.heap.size 1 _ _ hbt9
        have g2 := frozen_of_row w9 w4.heap.size 2 _ _ hbt9
        have g3 := frozen_of_row w9 w4.heap.size 3 _ _ hbt9
        simp at d0 d1 d2 d3
        clear hbt9
        have HNX := Lib.hid (fun v0 v1 v2 v3 => bent_round (v0 := v0) (v1 := v1) (v2 := v2) (v3 := v3) hzr hbB HP.out HBR.out HAR.out HSR.out HWR.out HUR.out HGR.out (by simp; omega) HGG.out.1 HGG.out.2 HB9.out)
        go_wp2
        go_roundw
        case rel =>
          obtain ⟨q1, q2, q3, q4, q5, q6⟩ := HNX.out _ _ _ _
          exact ⟨j + 1, 2, 0, ⟨#[103]⟩, some ⟨g, 0, none⟩, 1, [.node k n s ts], h + 1, by omega, by go_num, q1, Lib.hid q2, Lib.hid q3, Lib.hid (by decide), Lib.hid (by omega), Lib.hid q5, Lib.hid q6⟩
        case measure => simp [intOf]; omega
      · have hj17 : j = 16 := by omega
        obtain ⟨⟨z0, z1, z2, z3⟩, y0, y1, y2, y3⟩ := boxZ_cells hBl HGR.out
        have HFIN := Lib.hid (bent_fin (k := k) (n := n) (s := s) (ts := ts) hBl HSR.out HAR.out hPl (by have := HWR.out; omega) HUR.out HGR.out)
        go_wp2
        (try simp only [Exit.inBlock, Exit.then])
        refine bodyPost_ret (v := tv k n s (.slice ua ts.length uc)) ?hr rfl ?_
        case hr =>
          rw [results_cell (a := 2) (t := 26) (ad := ⟨w.heap.size, 0, none⟩) rfl rfl]
          go_simp
        exact HFIN.out _ _ _ _
  · have e0 : (x == 0) = false := by rw [beq_eq_false_iff_ne]; exact h0
    have e1 : (x == 1) = false := by rw [beq_eq_false_iff_ne]; exact h1
    have e2 : (x == 2) = false := by rw [beq_eq_false_iff_ne]; exact h2
    have e3 : (x == 3) = false := by rw [beq_eq_false_iff_ne]; exact h3
    have e4 : (x == 4) = false := by rw [beq_eq_false_iff_ne]; exact h4
    clear hx1 hx2 h0 h1 h2 h3 h4
    have hbt := HBT.out _ HG6.out
    have c0 := cell_of_row w6 w4.heap.size 0 _ _ _ hbt
    have c1 := cell_of_row w6 w4.heap.size 1 _ _ _ hbt
    have c2 := cell_of_row w6 w4.heap.size 2 _ _ _ hbt
    have c3 := cell_of_row w6 w4.heap.size 3 _ _ _ hbt
    have g0 := frozen_of_row w6 w4.heap.size 0 _ _ hbt
    have g1 := frozen_of_row w6 w4.heap.size 1 _ _ hbt
    have g2 := frozen_of_row w6 w4.heap.size 2 _ _ hbt
    have g3 := frozen_of_row w6 w4.heap.size 3 _ _ hbt
    simp at c0 c1 c2 c3
    clear hbt
    obtain ⟨⟨z0, z1, z2, z3⟩, y0, y1, y2, y3⟩ := boxZ_cells hBl (grown_trans HG4.out (grown_trans HA5.out HG6.out))
    have HFIN := Lib.hid (bent_fin (k := k) (n := n) (s := s) (ts := ts) hBl HS.out (HAP.out.grown (grown_trans HA5.out HG6.out) hPB) hPl (by have := HWT.out; omega) HU6.out (grown_trans HG4.out (grown_trans HA5.out HG6.out)))
    go_wp2
    (try simp only [Exit.inBlock, Exit.then])
    refine bodyPost_ret (v := tv k n s (.slice ua ts.length uc)) ?hr rfl ?_
    case hr =>
      rw [results_cell (a := 2) (t := 26) (ad := ⟨w.heap.size, 0, none⟩) rfl rfl]
      go_simp
    exact HFIN.out _ _ _ _
end Go.Proofs.YtidbokheeieifaaGreatDoor
