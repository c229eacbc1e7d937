/-
  spec.PositionsOf: all positions of a term, in order.
  spec.l4Draw: a position of a term, or one index more behind it.
  What draws of one term and of two leave; what a call does in every later world. No walk.
-/
import Derived.Test.YtcmhiindjponcaaDoorQ17
import Derived.Test.YtcmhiindjponcaaDoorQ13
import Derived.Test.YtcmhiindjponcaaDoorQ15
namespace Go.Proofs.YtcmhiindjponcaaDoor
open Go.RowKit

/-- All positions, in a slice in new blocks. -/
def PosE (t : T) (w : World) (e : Ending) (w' : World) : Prop := ∃ v', e = .returned v' ∧ ListI w' w.heap.size v' (posT t) ∧ Below w.heap.size w w'

set_option maxRecDepth 100000 in
set_option maxHeartbeats 800000 in
theorem sPos_any (v : Value) (t : T) (lo h : Nat) (w : World) (ht : TermAt w lo h v t) (hw : wT t ≤ 1048576) : Calls Tryd.prog 37 #[v] w (PosE t w) := by
  obtain ⟨k, n, s, a, m, cap, rfl⟩ := ht.shape
  obtain ⟨W3, hW3⟩ : ∃ W3, W3 = ((w.alloc (.cells #[.int .i64 k, .int .i64 n, .string s, .slice a m cap] 26)).alloc (.cells #[] 3)).alloc (.cells #[] 33) := ⟨_, rfl⟩
  have hb : Below w.heap.size w W3 := by rw [hW3]; exact ((al_belw _ _).alloc (by simp) _).alloc (by simp; omega) _
  have hz : W3.heap.size = w.heap.size + 3 := by rw [hW3]; simp
  have ho : W3.ownsRow w.heap.size 33 1 (.slice (some ⟨w.heap.size + 2, 0, none⟩) 0 0) 0 [] := by
    have := World.ownsRow_lit (base := w.heap.size) (size := 1) (e := 33) ((w.alloc (.cells #[.int .i64 k, .int .i64 n, .string s, .slice a m cap] 26)).alloc (.cells #[] 3)) #[] 0 (by simp; omega) (by decide) rfl
    have e : ((w.alloc (.cells #[.int .i64 k, .int .i64 n, .string s, .slice a m cap] 26)).alloc (.cells #[] 3)).heap.size = w.heap.size + 2 := by simp
    rw [e, ← hW3] at this
    exact this
  have hc := cT_le t
  have hd := dT_le t
  have HC := Lib.hid (walk_any h w (tv k n s (.slice a m cap)) t (.slice (some ⟨w.heap.size + 1, 0, none⟩) 0 0) (.slice (some ⟨w.heap.size + 2, 0, none⟩) 0 0) (w.heap.size + 1) 0 [] [] W3 (ht.low (Nat.zero_le _)) hb ⟨rfl, by omega, fun j u hu => by simp at hu⟩ (fun e => by simp [Value.ownBlock] at e) ⟨[], ho, rfl, fun i q hq => by simp at hq⟩ hw (by simp; omega) (by simp; omega))
  clear ho hc hd ht hb
  go_enter Tryd.func37, Tryd.ntmps37
  go_wp2_with fail
  rw [← hW3]
  refine HC.out.mono ?_
  rintro e w5 ⟨v5, rfl, hl, _, hb5⟩
  have HL := Lib.hid (And.intro hl hb5)
  clear hl hb5 hW3
  go_wp2
  go_ret
  exact ⟨_, rfl, by simpa using HL.out.1, HL.out.2⟩
end Go.Proofs.YtcmhiindjponcaaDoor
namespace Go.Proofs.YtcmhiindjponcaaDoor
open Go.RowKit

theorem argT_c {t x : T} {p : Int} (h : argT t p = some x) : 1 + cT x ≤ cT t := by
  have h1 := cT_mem (kT t) x (argT_mem h)
  rw [cT_kT t]; omega
theorem subT_len (ps : List Int) (t x : T) (h : subT ps t = some x) : ps.length + cT x ≤ cT t := by
  induction ps generalizing t with
  | nil => cases h; simp
  | cons p ps ih =>
    rw [subT_cons] at h
    cases e : argT t p with
    | none => rw [e] at h; cases h
    | some y =>
      rw [e] at h
      have h1 := ih y h
      have h2 := argT_c e
      rw [List.length_cons]; omega
theorem sub_fits (ps : List Int) (t x : T) (h : subT ps t = some x) (hc : cT t ≤ 1001) : ∀ p ∈ ps, -9223372036854775808 ≤ p ∧ p ≤ 9223372036854775807 := by
  induction ps generalizing t with
  | nil => intro p hp; cases hp
  | cons z ps ih =>
    rw [subT_cons] at h
    cases e : argT t z with
    | none => rw [e] at h; cases h
    | some y =>
      rw [e] at h
      have h2 := argT_c e
      intro p hp
      rcases List.mem_cons.1 hp with rfl | hp
      · by_cases hin : 0 ≤ p ∧ p < ((kT t).length : Int)
        · have h3 := len_le_cS (kT t)
          have h4 := cT_kT t
          omega
        · rw [argT_out hin] at e; cases e
      · exact ih y h (by omega) p hp
theorem grown_on {w w8 w9 : World} {B : Nat} {o : Obj} {row : Option Nat} (h : w.grownBy w8 (some B)) (hg : (w8.alloc o).grownBy w9 row) (hr : ∀ k, row = some k → w.heap.size ≤ k) : w.grownBy w9 (some B) := by
  have hz : (w8.alloc o).heap.size = w8.heap.size + 1 := by simp
  have h1 := h.size
  have h2 := hg.size
  exact ⟨hg.os.trans h.os, hg.tape.trans h.tape, hg.output.trans h.output, by omega, fun k hk hne => (hg.block k (by omega) (fun e => by have := hr k e.symm; omega)).trans ((Below.heap_alloc _ _ _ (by omega)).trans (h.block k hk hne))⟩
/-- What a draw of a position hands back. -/
def PosDr (B : Nat) (cv : Value) (len : Nat) (w : World) (e : Ending) (w' : World) : Prop :=
  ∃ (v : Value) (ps : List Int), e = .returned v ∧ w'.ownsRow w.heap.size 3 1 v ps.length (ps.map iv) ∧ ps.length ≤ 1002 ∧ (∀ p ∈ ps, -9223372036854775808 ≤ p ∧ p ≤ 9223372036854775807) ∧ CurAt w' B cv len ∧ w.grownBy w' (some B)

set_option maxRecDepth 100000 in
set_option maxHeartbeats 1600000 in
theorem posDraw_any (B : Nat) (cv : Value) (len : Nat) (v : Value) (t : T) (lo h : Nat) (w : World) (hcode : CodeAt w B cv len) (hcur : CurAt w B cv len) (ht : TermAt w lo h v t) (hw : wT t ≤ 1000) :
    Calls Tryd.prog 25 #[.pointer (some ⟨B, 0, none⟩), v] w (PosDr B cv len w) := by
  obtain ⟨k, n, s, a, m, cap, rfl⟩ := ht.shape
  obtain ⟨i0, hi, hz0, hz1, hz2⟩ := info_parts infoInt
  have HI := Lib.hid hi; clear hi
  have HZ0 := Lib.hid hz0; clear hz0
  have HZ1 := Lib.hid hz1; clear hz1
  have HZ2 := Lib.hid hz2; clear hz2
  have hBl := hcur.lt
  obtain ⟨W1, hW1⟩ : ∃ W1, W1 = w.alloc (.cells #[.int .i64 k, .int .i64 n, .string s, .slice a m cap] 26) := ⟨_, rfl⟩
  have hb1 : Below w.heap.size w W1 := by rw [hW1]; exact al_belw _ _
  have hz1 : W1.heap.size = w.heap.size + 1 := by rw [hW1]; simp
  have HC1 : Hid (CodeAt W1 B cv len ∧ CurAt W1 B cv len) := Lib.hid (by rw [hW1]; exact ⟨hcode.alloc hBl _, hcur.alloc _⟩)
  have HPOS := Lib.hid (sPos_any (tv k n s (.slice a m cap)) t lo h W1 (ht.below hb1) (by omega))
  have HCT : Hid (cT t ≤ 1001) := Lib.hid (by have := cT_le t; omega)
  have HSUB := Lib.hid (posT_sub t)
  have HB1 := Lib.hid hb1
  have HZW := Lib.hid (And.intro hz1 hBl)
  clear hcode hcur ht hw hb1 hz1
  go_enter Tryd.func25, Tryd.ntmps25
  go_wp2_with fail
  rw [← hW1]
  clear hW1
  refine HPOS.out.mono ?_
  rintro e w5 ⟨v5, rfl, ⟨vs, ho5, hr5⟩, hb5⟩
  obtain ⟨N, hN⟩ : ∃ N, N = (posT t).length := ⟨_, rfl⟩
  have hN1 : 1 ≤ N ∧ N ≤ 1001 := by rw [hN, posT_length]; have h1 := HCT.out; have h2 := cT_kT t; omega
  rw [← hN] at ho5
  obtain ⟨gl, cl, rfl⟩ : ∃ g c, v5 = .slice (some ⟨g, 0, none⟩) N c := by
    rcases ho5.2 with ⟨_, h0⟩ | ⟨g, c, cur, e, _⟩
    · omega
    · exact ⟨g, c, e⟩
  have hgl := ho5.lt gl rfl
  have hg15 : W1.grownBy w5 (some B) := Below.toGrown hb5 _
  have HC5 : Hid (CodeAt w5 B cv len ∧ CurAt w5 B cv len) := Lib.hid (by
    have h1 := HZW.out
    refine ⟨HC1.out.1.grown (by omega) hg15, ?_⟩
    obtain ⟨i, x, hi, hh⟩ := HC1.out.2
    exact ⟨i, x, hi, (hb5.block B (by omega)).trans hh⟩)
  have HR5 := Lib.hid (And.intro ho5 hr5)
  have HB5 := Lib.hid hb5
  have HNN := Lib.hid hN
  clear ho5 hr5 hb5 hg15 hN
  go_wp2_with fail
  refine (below_any B cv len N _ hN1.1 (by omega) HC5.out.1 HC5.out.2).mono ?_
  rintro e w6 ⟨x, rfl, x0, x1, hu6, hg6⟩
  obtain ⟨i, rfl⟩ : ∃ i : Nat, x = i := ⟨x.toNat, by omega⟩
  have hiN : i < N := by omega
  obtain ⟨q, hq⟩ : ∃ q, (posT t)[i]? = some q := ⟨_, List.getElem?_eq_getElem (by have := HNN.out; omega)⟩
  obtain ⟨ui, hui, hoi, hbi⟩ := HR5.out.2.2 i q hq
  have hBg : ∀ kk, W1.heap.size ≤ kk → kk ≠ B := fun kk h1 => by have := HZW.out; omega
  have ho6 := HR5.out.1.kept hg6 (Or.inr (fun e => hBg gl (by omega) (by simp [Value.ownBlock] at e; omega)))
  have hci : w6.cell? ⟨gl, i, none⟩ = some ui := by rw [ho6.cellAt i (by omega)]; exact hui
  have hoi6 : w6.ownsRow W1.heap.size 3 1 ui q.length (q.map iv) := own_at hoi (fun kk e => hg6.block kk (hbi kk e).1 (fun e2 => hBg kk (hoi.lt kk e).1 (by cases e2; rfl)))
  have HQL : Hid (q.length ≤ 1001) := Lib.hid (by
    obtain ⟨y, hy⟩ := HSUB.out q (List.mem_of_getElem? hq)
    have := subT_len q t y hy
    have := HCT.out
    omega)
  have HFQ : Hid (∀ p ∈ q, -9223372036854775808 ≤ p ∧ p ≤ 9223372036854775807) := Lib.hid (by
    obtain ⟨y, hy⟩ := HSUB.out q (List.mem_of_getElem? hq)
    exact sub_fits q t y hy HCT.out)
  obtain ⟨ql, hql⟩ : ∃ ql, ql = q.length := ⟨_, rfl⟩
  rw [← hql] at hoi6
  have hqlb : ql ≤ 1001 := by rw [hql]; exact HQL.out
  obtain ⟨ai, ci, rfl⟩ : ∃ a c, ui = .slice a ql c := by
    rcases hoi6.2 with ⟨rfl, h0⟩ | ⟨g, c, cur, e, _⟩
    · exact ⟨none, 0, by rw [h0]⟩
    · exact ⟨_, _, e⟩
  have HQE := Lib.hid hql
  have hw65 := hg6.size
  have HC6 : Hid (CodeAt w6 B cv len ∧ CurAt w6 B cv len) := Lib.hid ⟨HC5.out.1.grown (by have := HZW.out; have := HB5.out.size; omega) hg6, hu6⟩
  have hgw6 : w.grownBy w6 (some B) := grown_trans (Below.toGrown (HB1.out.trans (HB5.out.mono HB1.out.size)) _) hg6
  have HG6 := Lib.hid hgw6
  have HO6 := Lib.hid hoi6
  have HS6 : Hid (W1.heap.size ≤ w6.heap.size ∧ B < w6.heap.size) := Lib.hid (by have := HB5.out.size; have := HZW.out; omega)
  have HBG := Lib.hid hBg
  clear hui hoi hbi ho6 hoi6 hq hql hg6 hu6 hw65 hgw6 hBg
  go_wp2_with fail
  refine (once_any B cv len 8 _ (by omega) (by omega) HC6.out.1 HC6.out.2).mono ?_
  rintro e w7 ⟨qb, rfl, hu7, hg7⟩
  have HO7 : Hid (w7.ownsRow W1.heap.size 3 1 (.slice ai ql ci) ql (q.map iv)) := Lib.hid (own_at HO6.out (fun kk e => hg7.block kk (HO6.out.lt kk e).2 (fun e2 => HBG.out kk (HO6.out.lt kk e).1 (by cases e2; rfl))))
  have HC7 : Hid (CodeAt w7 B cv len ∧ CurAt w7 B cv len) := Lib.hid ⟨HC6.out.1.grown HS6.out.2 hg7, hu7⟩
  have HG7 := Lib.hid (grown_trans HG6.out hg7)
  have HS7 : Hid (W1.heap.size ≤ w7.heap.size ∧ B < w7.heap.size) := Lib.hid (by have := hg7.size; have := HS6.out; omega)
  clear hu7 hg7
  cases qb with
  | false =>
    go_wp2
    go_ret
    exact ⟨_, q, rfl, by rw [← HQE.out]; exact own_low HO7.out HB1.out.size, by have := HQL.out; omega, HFQ.out, HC7.out.2, HG7.out⟩
  | true =>
    go_wp2_with fail
    refine (below_any B cv len 4 _ (by omega) (by omega) HC7.out.1 HC7.out.2).mono ?_
    rintro e w8 ⟨x2, rfl, y0, y1, hu8, hg8⟩
    have HO8 : Hid (w8.ownsRow W1.heap.size 3 1 (.slice ai ql ci) ql (q.map iv)) := Lib.hid (own_at HO7.out (fun kk e => hg8.block kk (HO7.out.lt kk e).2 (fun e2 => HBG.out kk (HO7.out.lt kk e).1 (by cases e2; rfl))))
    have HU8 := Lib.hid hu8
    have HG8 := Lib.hid (grown_trans HG7.out hg8)
    have HS8 : Hid (W1.heap.size ≤ w8.heap.size ∧ B < w8.heap.size) := Lib.hid (by have := hg8.size; have := HS7.out; omega)
    have HY := Lib.hid (And.intro y0 y1)
    have y2 : x2 ≤ 3 := by omega
    clear hu8 hg8 y1
    go_wp2_with (first | (at_builtin; refine wpList_append_own _ rfl (.tmp 18) (.tmp 22) 33 rfl W1.heap.size 3 i0 (iv 0) 1 8 Tryd.underlying33 HI.out HZ0.out HZ1.out HZ2.out rfl (by decide) _ _ _ rfl (HO8.out.alloc _) ⟨w8.heap.size, 0, none⟩ 1 1 [iv (x2 - 1)] ?c0 rfl ?c1 ?c2 ?c3 ?c4 ?c5 ?_))
    case c0 => rfl
    case c1 => exact cell_one_newW _ _ _
    case c2 => intro u hu; simp at hu; subst hu; rfl
    case c3 => unfold maxLen; omega
    case c4 => omega
    case c5 => have := HS8.out; simp; omega
    intro v9 w9 ho9 hg9 _
    have HO9 := Lib.hid ho9
    have hbk : ∀ kk, (Value.slice ai ql ci).ownBlock = some kk → w.heap.size ≤ kk ∧ kk ≠ B := fun kk e => by have h1 := HO8.out.lt kk e; have h2 := HZW.out; omega
    have HG9 := Lib.hid (grown_on HG8.out hg9 (fun kk e => (hbk kk e).1))
    have HU9 : Hid (CurAt w9 B cv len) := Lib.hid (by
      obtain ⟨i, x, hi, hh⟩ := HU8.out
      have hlt := HS8.out.2
      exact ⟨i, x, hi, (hg9.block B (by simp; omega) (fun e => (hbk B e.symm).2 rfl)).trans ((Below.heap_alloc _ _ _ hlt).trans hh)⟩)
    clear ho9 hg9 hbk
    go_wp2
    go_ret
    refine ⟨_, q ++ [x2 - 1], rfl, ?_, by rw [List.length_append]; have := HQL.out; simp; omega, fun p hp => ?_, HU9.out, HG9.out⟩
    · rw [List.length_append, ← HQE.out, List.map_append]
      exact own_low HO9.out HB1.out.size
    · rcases List.mem_append.1 hp with hp | hp
      · exact HFQ.out p hp
      · simp at hp
        have := HY.out
        omega
end Go.Proofs.YtcmhiindjponcaaDoor
namespace Go.Proofs.YtcmhiindjponcaaDoor
open Go.RowKit

/-- A term that was drawn. -/
def DrawnTerm (w : World) (e : Ending) (w' : World) : Prop :=
  ∃ k n s a m cap t h, e = .returned (tv k n s (.slice a m cap)) ∧ TermAt w' w.heap.size h (tv k n s (.slice a m cap)) t ∧ wT t ≤ 1000 ∧ Below w.heap.size w w'

theorem drawn_fin {w w2 : World} {k n : Int} {s : ByteArray} {a : Option Addr} {m cap : Nat} {t : T} {h : Nat} (ht : TermAt w2 (w.heap.size + 1) h (tv k n s (.slice a m cap)) t) (hw : wT t ≤ 1000) (hb : Below w.heap.size w w2) (v0 v1 v2 v3 : Value) :
    DrawnTerm w (.returned (tv k n s (.slice a m cap))) ((((w2.setCell ⟨w.heap.size, 0, none⟩ v0).setCell ⟨w.heap.size, 1, none⟩ v1).setCell ⟨w.heap.size, 2, none⟩ v2).setCell ⟨w.heap.size, 3, none⟩ v3) := by
  have hg4 : w2.grownBy ((((w2.setCell ⟨w.heap.size, 0, none⟩ v0).setCell ⟨w.heap.size, 1, none⟩ v1).setCell ⟨w.heap.size, 2, none⟩ v2).setCell ⟨w.heap.size, 3, none⟩ v3) (some w.heap.size) :=
    grown_trans (grown_trans (grown_trans (set_grown _ _ _ _) (set_grown _ _ _ _)) (set_grown _ _ _ _)) (set_grown _ _ _ _)
  obtain ⟨k', n', s', u', xs, e1, e2, hs, ha⟩ := ht
  cases e1
  refine ⟨k, n, s, a, m, cap, t, h, rfl, ⟨k, n, s, _, xs, rfl, e2, hs, (ha.grown hg4 (fun j e => by cases e; omega)).low (by omega)⟩, hw, ?_⟩
  exact (((hb.setCell (Nat.le_refl _) _).setCell (Nat.le_refl _) _).setCell (Nat.le_refl _) _).setCell (Nat.le_refl _) _

theorem boxZ_cells' {w wr : World} (hg : (boxZ w).grownBy wr (some (boxZ w).heap.size)) :
    (wr.cell? ⟨w.heap.size, 0, none⟩ = some (.int .i64 0) ∧ wr.cell? ⟨w.heap.size, 1, none⟩ = some (.int .i64 0) ∧ wr.cell? ⟨w.heap.size, 2, none⟩ = some (.string ⟨#[]⟩) ∧ wr.cell? ⟨w.heap.size, 3, none⟩ = some (.slice none 0 0)) ∧
    (wr.frozen? ⟨w.heap.size, 0, none⟩ = false ∧ wr.frozen? ⟨w.heap.size, 1, none⟩ = false ∧ wr.frozen? ⟨w.heap.size, 2, none⟩ = false ∧ wr.frozen? ⟨w.heap.size, 3, none⟩ = false) := by
  have q := hg.block w.heap.size (by simp) (fun e => by simp at e)
  rw [heap_new w (.cells #[.int .i64 0, .int .i64 0, .string ⟨#[]⟩, .slice none 0 0] 26) rfl] at q
  have a0 := cell_of_row wr w.heap.size 0 _ _ _ q
  have a1 := cell_of_row wr w.heap.size 1 _ _ _ q
  have a2 := cell_of_row wr w.heap.size 2 _ _ _ q
  have a3 := cell_of_row wr w.heap.size 3 _ _ _ q
  simp at a0 a1 a2 a3
  exact ⟨⟨a0, a1, a2, a3⟩, frozen_of_row wr w.heap.size 0 _ _ q, frozen_of_row wr w.heap.size 1 _ _ q, frozen_of_row wr w.heap.size 2 _ _ q, frozen_of_row wr w.heap.size 3 _ _ q⟩

/-- What a call does in every world behind W. -/
def Behind (W : World) (f : FuncId) (args : Array Value) (R : Ending → World → Prop) : Prop := ∀ w', Below W.heap.size W w' → Calls Tryd.prog f args w' (fun e w2 => R e w2 ∧ Below W.heap.size W w2)

theorem results_cell2 {fn : Func} {a b : Tmp} {t : TypeId} {tmps : Array Value} {ad bd : Addr} (h : fn.results = #[.cell a t, .cell b t]) (ha : tmps.getD a undef = .pointer (some ad)) (hb : tmps.getD b undef = .pointer (some bd)) (P : Program) (w : World) {x y : Value}
    (hx : (loadVar t ad).run P w = .ok x w) (hy : (loadVar t bd).run P w = .ok y w) : (results fn tmps).run P w = .ok (.tuple #[x, y]) w := by
  have h2 : tmps[a]?.getD undef = .pointer (some ad) := by rw [← ha]; simp
  have h3 : tmps[b]?.getD undef = .pointer (some bd) := by rw [← hb]; simp
  simp [results, h, h2, h3, asAddr, hx, hy, Result.andThen]

/-- Two terms that were drawn. -/
def DrawnTwo (w : World) (e : Ending) (w' : World) : Prop :=
  ∃ k n s a m c k2 n2 s2 a2 m2 c2 t t2 h h2, e = .returned (.tuple #[tv k n s (.slice a m c), tv k2 n2 s2 (.slice a2 m2 c2)]) ∧ TermAt w' w.heap.size h (tv k n s (.slice a m c)) t ∧ TermAt w' w.heap.size h2 (tv k2 n2 s2 (.slice a2 m2 c2)) t2 ∧ wT t ≤ 1000 ∧ wT t2 ≤ 1000 ∧ Below w.heap.size w w'

abbrev boxZ2 (w : World) : World := boxZ (boxZ w)
/-- Both results stored. -/
abbrev stored2 (X : World) (b : Nat) (v0 v1 v2 v3 u0 u1 u2 u3 : Value) : World :=
  (((((((X.setCell ⟨b, 0, none⟩ v0).setCell ⟨b, 1, none⟩ v1).setCell ⟨b, 2, none⟩ v2).setCell ⟨b, 3, none⟩ v3).setCell ⟨b + 1, 0, none⟩ u0).setCell ⟨b + 1, 1, none⟩ u1).setCell ⟨b + 1, 2, none⟩ u2).setCell ⟨b + 1, 3, none⟩ u3

theorem TermAt.grown {w w' : World} {lo h : Nat} {v : Value} {t : T} {row : Option Nat} (k : TermAt w lo h v t) (hg : w.grownBy w' row) (hr : ∀ j, row = some j → j < lo) : TermAt w' lo h v t := by
  obtain ⟨k', n, s, u, xs, e1, e2, hs, ha⟩ := k
  exact ⟨k', n, s, u, xs, e1, e2, hs, ha.grown hg hr⟩

theorem two_fin {w X : World} {k n : Int} {s : ByteArray} {a : Option Addr} {m c : Nat} {k2 n2 : Int} {s2 : ByteArray} {a2 : Option Addr} {m2 c2 : Nat} {t t2 : T} {h h2 : Nat} (ht : TermAt X (w.heap.size + 2) h (tv k n s (.slice a m c)) t) (ht2 : TermAt X (w.heap.size + 2) h2 (tv k2 n2 s2 (.slice a2 m2 c2)) t2)
    (hw : wT t ≤ 1000) (hw2 : wT t2 ≤ 1000) (hb : Below w.heap.size w X) (v0 v1 v2 v3 u0 u1 u2 u3 : Value) :
    DrawnTwo w (.returned (.tuple #[tv k n s (.slice a m c), tv k2 n2 s2 (.slice a2 m2 c2)])) (stored2 X w.heap.size v0 v1 v2 v3 u0 u1 u2 u3) := by
  have up : ∀ {h : Nat} {v : Value} {t : T}, TermAt X (w.heap.size + 2) h v t → TermAt (stored2 X w.heap.size v0 v1 v2 v3 u0 u1 u2 u3) (w.heap.size + 2) h v t := by
    intro h v t q
    have q1 := q.grown (set_grown X w.heap.size 0 v0) (fun j e => by cases e; omega)
    have q2 := q1.grown (set_grown _ w.heap.size 1 v1) (fun j e => by cases e; omega)
    have q3 := q2.grown (set_grown _ w.heap.size 2 v2) (fun j e => by cases e; omega)
    have q4 := q3.grown (set_grown _ w.heap.size 3 v3) (fun j e => by cases e; omega)
    have q5 := q4.grown (set_grown _ (w.heap.size + 1) 0 u0) (fun j e => by cases e; omega)
    have q6 := q5.grown (set_grown _ (w.heap.size + 1) 1 u1) (fun j e => by cases e; omega)
    have q7 := q6.grown (set_grown _ (w.heap.size + 1) 2 u2) (fun j e => by cases e; omega)
    exact q7.grown (set_grown _ (w.heap.size + 1) 3 u3) (fun j e => by cases e; omega)
  refine ⟨k, n, s, a, m, c, k2, n2, s2, a2, m2, c2, t, t2, h, h2, rfl, (up ht).low (by omega), (up ht2).low (by omega), hw, hw2, ?_⟩
  exact (((((((hb.setCell (Nat.le_refl _) _).setCell (Nat.le_refl _) _).setCell (Nat.le_refl _) _).setCell (Nat.le_refl _) _).setCell (Nat.le_succ _) _).setCell (Nat.le_succ _) _).setCell (Nat.le_succ _) _).setCell (Nat.le_succ _) _

/-- The two results' blocks in a later world. -/
theorem boxZ2_cells {w wr : World} {row : Option Nat} (hg : (boxZ2 w).grownBy wr row) (h1 : some w.heap.size ≠ row) (h2 : some (w.heap.size + 1) ≠ row) :
    wr.heap[w.heap.size]? = some (.cells #[.int .i64 0, .int .i64 0, .string ⟨#[]⟩, .slice none 0 0] 26 (0, 0)) ∧ wr.heap[w.heap.size + 1]? = some (.cells #[.int .i64 0, .int .i64 0, .string ⟨#[]⟩, .slice none 0 0] 26 (0, 0)) := by
  constructor
  · rw [hg.block _ (by simp; omega) h1, Below.heap_alloc _ _ _ (by simp)]
    exact heap_new w _ rfl
  · rw [hg.block _ (by simp) h2]
    exact heap_new _ _ (by simp)

theorem cells_of4 {Y : World} {b : Nat} {x0 x1 x2 x3 : Value} (hb : Y.heap[b]? = some (.cells #[x0, x1, x2, x3] 26 (0, 0))) : (Y.cell? ⟨b, 0, none⟩ = some x0 ∧ Y.cell? ⟨b, 1, none⟩ = some x1 ∧ Y.cell? ⟨b, 2, none⟩ = some x2 ∧ Y.cell? ⟨b, 3, none⟩ = some x3) ∧
    (Y.frozen? ⟨b, 0, none⟩ = false ∧ Y.frozen? ⟨b, 1, none⟩ = false ∧ Y.frozen? ⟨b, 2, none⟩ = false ∧ Y.frozen? ⟨b, 3, none⟩ = false) :=
  ⟨⟨by rw [cell_of_row Y b 0 _ _ _ hb]; rfl, by rw [cell_of_row Y b 1 _ _ _ hb]; rfl, by rw [cell_of_row Y b 2 _ _ _ hb]; rfl, by rw [cell_of_row Y b 3 _ _ _ hb]; rfl⟩, frozen_of_row Y b 0 _ _ hb, frozen_of_row Y b 1 _ _ hb, frozen_of_row Y b 2 _ _ hb, frozen_of_row Y b 3 _ _ hb⟩

end Go.Proofs.YtcmhiindjponcaaDoor
