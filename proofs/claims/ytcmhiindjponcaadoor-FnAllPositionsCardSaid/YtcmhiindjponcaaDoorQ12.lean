/-
  impl.PositionsOf: all positions of a term, by a stack of terms with their positions.
-/
import Derived.Test.YtcmhiindjponcaaDoorQ11
import Derived.Test.YtcmhiindjponcaaDoorQ6
namespace Go.Proofs.YtcmhiindjponcaaDoor
open Go.RowKit Go.Shelf

attribute [local go_sem] Oper.semAt_some

/-- What is handed back: a list of positions, in rows of the call's own that share nothing. -/
def PosIE (t : T) (w : World) (e : Ending) (w' : World) : Prop := ∃ v rv, e = .returned v ∧ w'.ownsRow w.heap.size 33 1 v rv.length rv ∧ RowN w' w.heap.size rv (posT t) ∧ rv.Pairwise Apart ∧ Below w.heap.size w w'

/-- The stack's part of the invariant: entries with their terms. -/
structure PosInv (w0 : World) (t : T) (Bo : Nat) (v : Value) (va : Option Addr) (vc : Nat) (rv : List Value) (sp : List (En × T)) (done : List (List Int)) (ds : List Deferred) (W : World) : Prop where
  st : PosSt Bo w0 v va vc rv (rv ++ (sp.map Prod.fst).map En.av) (done ++ (sp.map Prod.fst).map En.ps) (sp.map Prod.fst) W
  fit : ∀ x ∈ sp, Fit w0 x ∧ (x.1.av = .slice none 0 0 ∧ x.1.ps = [] ∨ 0 < x.1.ps.length)
  pos : done ++ sp.flatMap posE = posT t
  len : rv.length = done.length
  marks : Marks w0.heap.size ds W

def lenOf : Value → Nat
  | .slice _ n _ => n
  | _ => 0

theorem start_inv {k n : Int} {s : ByteArray} {a : Option Addr} {m c : Nat} {t : T} {h : Nat} {w W : World} (ht : TermAt w 0 h (tv k n s (.slice a m c)) t) (_ : wT t ≤ 1048576)
    (hW : W = ((w.alloc (.cells #[.int .i64 k, .int .i64 n, .string s, .slice a m c] 26)).alloc (.cells #[.int .i64 k, .int .i64 n, .string s, .slice a m c, .slice none 0 0] 42)).alloc (.cells #[.slice (some ⟨w.heap.size + 1, 0, none⟩) 1 1] 43)) :
    PosInv w t (w.heap.size + 2) (.slice none 0 0) (some ⟨w.heap.size + 1, 0, none⟩) 1 [] [(⟨[], k, n, s, a, m, c, .slice none 0 0⟩, t)] [] [] W := by
  obtain ⟨k', n', s', u, xs, e1, e2, _, ha⟩ := ht
  simp only [Value.agg.injEq, Array.mk.injEq, List.cons.injEq, Value.int.injEq, Value.string.injEq, true_and, and_true] at e1
  obtain ⟨rfl, rfl, rfl, rfl⟩ := e1
  have hz1 : (w.alloc (.cells #[.int .i64 k, .int .i64 n, .string s, .slice a m c] 26)).heap.size = w.heap.size + 1 := by simp
  have hz2 : ((w.alloc (.cells #[.int .i64 k, .int .i64 n, .string s, .slice a m c] 26)).alloc (.cells #[.int .i64 k, .int .i64 n, .string s, .slice a m c, .slice none 0 0] 42)).heap.size = w.heap.size + 2 := by simp
  refine ⟨⟨?_, by omega, ?_, ?_, ⟨rfl, Or.inl ⟨rfl, rfl⟩⟩, ⟨rfl, fun i q hq => ?_⟩, by simp⟩, fun x hx => ?_, ?_, rfl, trivial⟩
  · rw [hW]
    exact (((Below.refl _ _).alloc (Nat.le_refl _) _).alloc (by rw [hz1]; omega) _).alloc (by rw [hz2]; omega) _
  · rw [hW]
    exact heap_new _ _ hz2.symm
  · have h1 := World.ownsRow_lit (base := w.heap.size) (size := 5) (e := 42) (w.alloc (.cells #[.int .i64 k, .int .i64 n, .string s, .slice a m c] 26)) #[.int .i64 k, .int .i64 n, .string s, .slice a m c, .slice none 0 0] 1 (by rw [hz1]; omega) (by decide) rfl
    rw [hz1] at h1
    rw [hW]
    exact h1.alloc _
  · match i, hq with
    | 0, hq => simp at hq; subst hq; exact ⟨_, rfl, ⟨rfl, Or.inl ⟨rfl, rfl⟩⟩⟩
    | i + 1, hq => simp at hq
  · simp only [List.mem_singleton] at hx
    subst hx
    exact ⟨⟨xs, h, e2, ha⟩, Or.inl ⟨rfl, rfl⟩⟩
  · simp [posE]

theorem lenOf_res {w : World} {B n : Nat} {e : TypeId} {v : Value} {xs : List Value} (h : w.ownsRow B e 1 v n xs) : lenOf v = n := by
  rcases h.2 with ⟨rfl, h0⟩ | ⟨g, c, _, rfl, _⟩
  · exact h0.symm
  · rfl

/-- The range statement is over. -/
theorem inv_next {w : World} {t : T} {Bo Bh : Nat} {hc : Array Value} {v : Value} {rv : List Value} {done : List (List Int)} {rest : List (En × T)} {eps : List Int} {dfs dfs' : List Deferred} {n0 : Nat} {va : Option Addr} {vc : Nat} {ch : List En} {W : World} {dn : List Nd} {xs : List T}
    (h : PosR w Bo Bh hc v rv done (rest.map Prod.fst) eps dfs n0 (upto (backF dn) dn.length) va vc ch W) (hl : rv.length = done.length) (hdl : dn.length = xs.length)
    (hdn : ∀ (i : Nat) (d : Nd), dn[i]? = some d → ∃ k n s ts h', xs[i]? = some (T.node k n s ts) ∧ d.k = k ∧ d.n = n ∧ d.s = s ∧ ArgsAt w 0 h' (.slice d.a d.m d.c) ts)
    (hfit : ∀ x ∈ rest, Fit w x ∧ (x.1.av = .slice none 0 0 ∧ x.1.ps = [] ∨ 0 < x.1.ps.length)) (hpos : done ++ ((posS 0 xs).map (eps ++ ·) ++ rest.flatMap posE) = posT t) (hm : Marks w.heap.size dfs' W) :
    PosInv w t Bo v va vc rv (ch.zip xs ++ rest) done dfs' W := by
  have hcl : ch.length = xs.length := by rw [h.len, upto_length, hdl]
  have hk : ∀ (i : Nat) (e : En), ch[i]? = some e → ∃ d, dn[i]? = some d ∧ e.ps = eps ++ [(i : Int)] ∧ e.nd = d := fun i e he => by
    have h1 := congrArg (fun l => l[i]?) h.key
    simp only [List.getElem?_map, he, back_rev, Option.map_some, Option.map_map] at h1
    cases hd : dn[i]? with
    | none => rw [hd] at h1; cases h1
    | some d =>
      rw [hd] at h1
      simp only [Option.map_some, Option.some.injEq, Function.comp, En.key, Prod.mk.injEq] at h1
      exact ⟨d, rfl, h1.1, h1.2⟩
  have hf : (ch.zip xs ++ rest).map Prod.fst = ch ++ rest.map Prod.fst := by
    rw [List.map_append, List.map_fst_zip (by omega)]
  refine ⟨by rw [hf]; exact h.pst, fun x hx => ?_, ?_, hl, hm⟩
  · rcases List.mem_append.1 hx with hx | hx
    · obtain ⟨e, tx⟩ := x
      obtain ⟨i, hi, he⟩ := List.getElem_of_mem hx
      rw [List.getElem_zip] at he
      simp only [Prod.mk.injEq] at he
      obtain ⟨he1, he2⟩ := he
      have hic : i < ch.length := by simp at hi; omega
      obtain ⟨d, hd, hps, hnd⟩ := hk i e (by rw [← he1]; exact List.getElem?_eq_getElem hic)
      obtain ⟨k, n, s, ts, h', hx, e1, e2, e3, hA⟩ := hdn i d hd
      have hxe : xs[i]? = some tx := by rw [← he2]; exact List.getElem?_eq_getElem (by omega)
      rw [hxe] at hx
      cases hx
      subst hnd
      refine ⟨⟨ts, h', ?_, hA⟩, Or.inr ?_⟩
      · show T.node k n s ts = T.node e.k e.n e.s ts
        rw [← e1, ← e2, ← e3]; rfl
      · show 0 < e.ps.length
        rw [hps]; simp
    · exact hfit x hx
  · rw [List.flatMap_append, pos_zip eps xs ch 0 hcl (fun i e he => by obtain ⟨d, _, hps, _⟩ := hk i e he; rw [hps, Nat.zero_add])]
    exact hpos

theorem infoRowP : (Tryd.prog.info? 33).map (fun i => (i.zero, i.size, i.bytes)) = some (some (.slice none 0 0), 1, 24) := by kernel_rfl

set_option maxRecDepth 100000 in
set_option maxHeartbeats 3200000 in
theorem posI_in (k n : Int) (s : ByteArray) (a : Option Addr) (m c : Nat) (t : T) (h : Nat) (w : World) (ht : TermAt w 0 h (tv k n s (.slice a m c)) t) (hw : wT t ≤ 1048576) :
    CallsIn Fence.wide 3 Tryd.prog 6 #[tv k n s (.slice a m c)] w (PosIE t w) := by
  have HT := Lib.hid ht; clear ht
  have HW := Lib.hid hw; clear hw
  refine callsIn_of_wp_marks Tryd.func6 rfl trivial ?_ rfl
  simp only [Tryd.ntmps6, List.size_toArray, List.length_cons, List.length_nil, Nat.reduceAdd, Nat.reduceSub, Array.replicate_succ, Array.replicate_zero, List.push_toArray, List.append_toArray, List.nil_append, List.cons_append]
  gi_wp2
  obtain ⟨W0, hW0⟩ : ∃ W0, W0 = ((w.alloc (.cells #[.int .i64 k, .int .i64 n, .string s, .slice a m c] 26)).alloc (.cells #[.int .i64 k, .int .i64 n, .string s, .slice a m c, .slice none 0 0] 42)).alloc (.cells #[.slice (some ⟨w.heap.size + 1, 0, none⟩) 1 1] 43) := ⟨_, rfl⟩
  have HI0 := Lib.hid (start_inv HT.out HW.out hW0)
  rw [← hW0]
  clear hW0
  have e11 : w.heap.size + 1 + 1 = w.heap.size + 2 := rfl
  rw [e11]
  clear e11
  refine wpIn_loop (fun (A : Act) (W : World) => ∃ (ds : List Deferred) (v : Value) (va : Option Addr) (vc : Nat) (rv : List Value) (sp : List (En × T)) (done : List (List Int)) (u5 u6 u7 u8 u9 u10 u11 u12 u13 u14 u15 u16 u17 u18 u19 u20 u21 u22 u23 u24 u25 u26 u27 u28 u29 u30 u31 u32 u33 u34 u35 u36 u37 u38 u39 u40 u41 u42 u43 u44 u45 u46 : Value),
      A = { tmps := #[tv k n s (.slice a m c), .pointer (some ⟨w.heap.size, 0, none⟩), .slice none 0 0, v, .pointer (some ⟨w.heap.size + 2, 0, none⟩), u5, u6, u7, u8, u9, u10, u11, u12, u13, u14, u15, u16, u17, u18, u19, u20, u21, u22, u23, u24, u25, u26, u27, u28, u29, u30, u31, u32, u33, u34, u35, u36, u37, u38, u39, u40, u41, u42, u43, u44, u45, u46, undef], defers := ds } ∧ Hid (PosInv w t (w.heap.size + 2) v va vc rv sp done ds W)) (fun A _ => cT t + 1 - lenOf (A.tmps.getD 3 undef)) ⟨[], .slice none 0 0, _, _, [], _, [], _, _, _, _, _, _, _, _, _, _, _, _, _, _, _, _, _, _, _, _, _, _, _, _, _, _, _, _, _, _, _, _, _, _, _, _, _, _, _, _, _, _, rfl, HI0⟩ ?_
  rintro A W ⟨ds, v, va, vc, rv, sp, done, u5, u6, u7, u8, u9, u10, u11, u12, u13, u14, u15, u16, u17, u18, u19, u20, u21, u22, u23, u24, u25, u26, u27, u28, u29, u30, u31, u32, u33, u34, u35, u36, u37, u38, u39, u40, u41, u42, u43, u44, u45, u46, rfl, HI⟩
  clear HI0
  have fB := HI.out.st.box.frozen
  cases sp with
  | nil =>
    have hbx := HI.out.st.box
    have cB := hbx.cell
    simp only [List.map_nil, List.length_nil] at cB
    gi_wp2
    obtain ⟨⟨hbel, _, _, _, hres, hints, hsep⟩, _, hpos, _, hmk⟩ := HI.out
    simp only [List.map_nil, List.append_nil, List.flatMap_nil] at hints hsep hpos
    subst hpos
    refine leaves_marks (B := w.heap.size) (fun W => W.ownsRow w.heap.size 33 1 v rv.length rv ∧ RowN W w.heap.size rv (posT t) ∧ Below w.heap.size w W) ?_ ?_ ds W hmk ⟨hres, hints, hbel⟩
    · rintro W D o ⟨h1, h2, h3⟩ hD hDW
      exact ⟨ownsRow_putObj h1 _ hDW rfl, h2.keep fun j cs hc => (grownBy_putObj' W D o).block j (Array.getElem?_eq_some_iff.1 hc).1 (fun e => by cases e; rw [hDW] at hc; cases hc), h3.trans (belowK_b (w := w) (Nat.le_refl _) W D _ _ hD hDW rfl rfl)⟩
    · rintro W ⟨h1, h2, h3⟩
      exact ⟨_, results_tmp rfl _ _ _, v, rv, rfl, h1, h2, hsep, h3⟩
  | cons x rest =>
    obtain ⟨⟨eps, ek, en, es, ea, em, ec, eav⟩, te⟩ := x
    have hct : cT t ≤ 1048577 := by have := cT_le t; have := HW.out; omega
    have hpT := HI.out.pos
    have hrl : rv.length + 1 + rest.length ≤ cT t := by
      have h1 := congrArg List.length hpT
      rw [List.length_append, posT_length] at h1
      have h2 := flat_len ((⟨eps, ek, en, es, ea, em, ec, eav⟩, te) :: rest)
      rw [List.length_cons] at h2
      have h3 := HI.out.len
      omega
    have hfx := HI.out.fit _ (List.mem_cons_self ..)
    obtain ⟨aa, ac, hav, hsrc⟩ := HI.out.st.ints.src (i := rv.length) (u := eav) (q := eps) (by simp) (by rw [HI.out.len]; simp) hfx.2
    subst hav
    have HFX := Lib.hid hfx; clear hfx
    have HSRC := Lib.hid hsrc; clear hsrc
    obtain ⟨gt, rfl, hcap, c0, c1, c2, c3, c4⟩ := HI.out.st.top
    obtain ⟨q, hq⟩ : ∃ q, q = (rest.map Prod.fst).length := ⟨_, rfl⟩
    have hbx := HI.out.st.box
    have cB := hbx.cell
    simp only [List.map_cons, List.length_cons] at cB hbx c0 c1 c2 c3 c4 hcap
    rw [← hq] at cB hbx c0 c1 c2 c3 c4 hcap
    have hql : q = rest.length := by rw [hq, List.length_map]
    have hq2 : q ≤ 2097152 := by omega
    have hqz : decide ((0 : Int) < (q : Int) + 1) = true := by simp only [decide_eq_true_eq]; omega
    have hqi : (q : Int) + 1 - 1 = (q : Int) := by omega
    have HQ := Lib.hid hq; clear hq
    have HQL := Lib.hid hql; clear hql
    have HCT := Lib.hid hct; clear hct
    have HRL := Lib.hid hrl; clear hrl
    have HBX := Lib.hid hbx; clear hbx
    have hbxA : Boxed (W.alloc (.cells #[.int .i64 ek, .int .i64 en, .string es, .slice ea em ec, .slice aa eps.length ac] 42)) (w.heap.size + 2) 43 (.slice (some ⟨gt, 0, none⟩) (q + 1) vc) := HBX.out.alloc _
    have cB1 := hbxA.cell
    have fB1 := hbxA.frozen
    have hbo2 : w.heap.size + 2 < W.heap.size := HBX.out.lt
    have hX0s : (World.heap (W.setCell ⟨w.heap.size + 2, 0, none⟩ (.slice (some ⟨gt, 0, none⟩) q vc))).size = W.heap.size := by simp
    have HX2 : Hid (∀ X2, X2 = ((W.setCell ⟨w.heap.size + 2, 0, none⟩ (.slice (some ⟨gt, 0, none⟩) q vc)).alloc (.cells #[.int .i64 ek, .int .i64 en, .string es, .slice ea em ec, .slice aa eps.length ac] 42)).alloc (.cells #[.slice aa eps.length ac] 33) → PosSt (w.heap.size + 2) w v (some ⟨gt, 0, none⟩) vc rv (rv ++ (.slice aa eps.length ac) :: (rest.map Prod.fst).map En.av) (done ++ eps :: (rest.map Prod.fst).map En.ps) (rest.map Prod.fst) X2 ∧ Marks w.heap.size ds X2 ∧ X2.heap[W.heap.size]? = some (.cells #[.int .i64 ek, .int .i64 en, .string es, .slice ea em ec, .slice aa eps.length ac] 42 (0, 0)) ∧ X2.heap.size = W.heap.size + 2) := Lib.hid (by
      rintro X2 rfl
      have h1 := HI.out.st.pop
      rw [← HQ.out] at h1
      refine ⟨((h1.below ((Below.refl _ _).alloc (Nat.le_refl _) (.cells #[.int .i64 ek, .int .i64 en, .string es, .slice ea em ec, .slice aa eps.length ac] 42))).below ((Below.refl _ _).alloc (Nat.le_refl _) _)), HI.out.marks.others (((KeepsOthers.setCell _ _ _).trans (KeepsOthers.alloc _ _)).trans (KeepsOthers.alloc _ _)), ?_, by simp⟩
      exact (Below.heap_alloc _ _ _ (by simp)).trans (heap_new _ _ hX0s.symm))
    obtain ⟨i0, hi, hz0, hz1, hz2⟩ := info_parts infoRowP
    have HIO := Lib.hid hi; clear hi
    have HZ0 := Lib.hid hz0; clear hz0
    have HZ1 := Lib.hid hz1; clear hz1
    have HZ2 := Lib.hid hz2; clear hz2
    clear hbxA hX0s
    gi_wp2_with (first
      | (gi_at_builtin; refine wpListIn_append_own _ rfl _ _ 28 rfl w.heap.size 33 i0 (.slice none 0 0) 1 24 Tryd.underlying28 HIO.out HZ0.out HZ1.out HZ2.out rfl (by decide) _ rv.length rv rfl (HX2.out _ rfl).1.res _ 1 1 [.slice aa eps.length ac] rfl rfl ?c1 ?c2 ?c3 ?c4 ?c5 ?_)
      | gi_in)
    case c2 => rfl
    case c3 => have h1 := HRL.out; have h2 := HCT.out; unfold maxLen; omega
    case c4 => have h1 := HRL.out; have h2 := HCT.out; omega
    case c5 => omega
    intro v7 w7 hown7 hgrow7 _
    obtain ⟨hs2, hm2, hh2, hz2⟩ := HX2.out _ rfl
    have hs7 := hs2.took hgrow7 hown7
    have hm7 : Marks w.heap.size ds w7 := hm2.others (KeepsOthers.of_grownBy hgrow7 (fun j o hj ho => by obtain ⟨cs, hc⟩ := own_typed hs2.res hj; rw [hc] at ho; cases ho; rfl))
    have hh7 := (hgrow7.block W.heap.size (by rw [hz2]; omega) (fun e => by obtain ⟨cs, hc⟩ := own_typed hs2.res e.symm; rw [hh2] at hc; cases hc)).trans hh2
    have hz7 : W.heap.size + 2 ≤ w7.heap.size := by have := hgrow7.size; omega
    have hsrc7 := (hs7.ints.src (i := rv.length) (u := .slice aa eps.length ac) (q := eps) (by simp) (by rw [HI.out.len]; simp) HFX.out.2)
    have h3 := cell_of_row w7 W.heap.size 3 _ _ _ hh7
    simp at h3
    have HS7 := Lib.hid hs7; clear hs7
    have HM7 := Lib.hid hm7; clear hm7
    have HH7 := Lib.hid hh7; clear hh7
    have HSRC7 := Lib.hid hsrc7; clear hsrc7
    clear hs2 hm2 hh2 hz2 hown7 hgrow7 cB cB1 fB fB1 c0 c1 c2 c3 c4
    gi_wp2_with (gi_at_call 16; refine (backward_in Fence.wide 2 trivial rfl _ _ _ _).mono ?_; rintro e w' ⟨rfl, rfl⟩)
    refine ⟨trivial, (backward_in Fence.wide 2 trivial rfl ea em ec w7).mono ?_⟩
    rintro e w' ⟨rfl, rfl⟩
    gi_wp2_with fail
    have hb9 : Below w7.heap.size w7 (w7.alloc (.cells #[.slice ea em ec] 24)) := (Below.refl _ _).alloc (Nat.le_refl _) _
    have bS := Boxed.new w7 24 (.slice ea em ec)
    have hs9 := HS7.out.below hb9
    have hm9 : Marks w.heap.size ds (w7.alloc (.cells #[.slice ea em ec] 24)) := HM7.out.others (KeepsOthers.alloc _ _)
    have hh9 := (hb9.block W.heap.size (by omega)).trans HH7.out
    have hz9 : (w7.alloc (.cells #[.slice ea em ec] 24)).heap.size = w7.heap.size + 1 := by simp
    obtain ⟨W9, hW9⟩ : ∃ W9, w7.alloc (.cells #[.slice ea em ec] 24) = W9 := ⟨_, rfl⟩
    rw [hW9] at hb9 bS hs9 hm9 hh9 hz9 ⊢
    clear hW9 hb9
    have hwz : w.heap.size ≤ w7.heap.size := by omega
    obtain ⟨xs, hA', hte, hA⟩ := HFX.out.1
    simp only at hte
    subst hte
    obtain ⟨dn, hdl, hml, hNI, hdn⟩ := nds_of hA hs9.bel
    have hlen0 : rv.length = done.length := HI.out.len
    have hxl : xs.length + rest.length + 1 ≤ cT t := by
      have h1 := congrArg List.length HI.out.pos
      rw [List.length_append, posT_length, List.flatMap_cons, List.length_append, posE_length, cT_node] at h1
      have h2 := flat_len rest
      have h3 := len_le_cS xs
      omega
    have hep : eps.length ≤ cT t := pos_len (by
      rw [← HI.out.pos, List.flatMap_cons, posE_node]
      simp)
    have hct9 := HCT.out
    have hdl2 : dn.length ≤ 1048576 := by omega
    have hds : ∀ d ∈ ds, ∀ D, d.target = .collected D → D < W9.heap.size := hm9.lt
    have hgt : gt < W.heap.size := (HI.out.st.own.lt gt rfl).2
    have hR0 : PosRE w (w.heap.size + 2) W.heap.size #[.int .i64 ek, .int .i64 en, .string es, .slice ea em ec, .slice aa eps.length ac] v7 (rv ++ [.slice aa eps.length ac]) (done ++ [eps]) (rest.map Prod.fst) eps ds W9.heap.size [] W9 :=
      ⟨_, vc, [], ⟨rfl, by simpa using hs9, hh9, by simp [Value.ownBlock]; omega, hm9, Nat.le_refl _⟩⟩
    have HR0 := Lib.hid hR0; clear hR0 hs9 hm9 hh9
    have HDS := Lib.hid hds; clear hds
    have HDN := Lib.hid hdn; clear hdn
    have HNI := Lib.hid hNI; clear hNI
    have HA := Lib.hid hA; clear hA
    clear h3
    refine wpIn_rangeFunc_ownH rfl (by omega) (gf := 33) (lb := #[.pointer (some ⟨w7.heap.size, 0, none⟩)]) rfl trivial (enters_of Tryd.func33 (by kernel_rfl) rfl)
      (back_stops Fence.wide 2 trivial rfl (by omega) w7.heap.size w.heap.size _ dn hdl2 W9 (by omega) bS HNI.out) (fun h k => h.trans k) (kpB_b (by omega) (by omega)) (Below.refl _ _) (fun _ => rfl)
      (PosRE w (w.heap.size + 2) W.heap.size #[.int .i64 ek, .int .i64 en, .string es, .slice ea em ec, .slice aa eps.length ac] v7 (rv ++ [.slice aa eps.length ac]) (done ++ [eps]) (rest.map Prod.fst) eps ds W9.heap.size)
      (fun _ _ _ => False)
      (PosR.own (by omega) HDS.out)
      (fun _ _ _ _ _ hs _ _ => hs)
      HR0.out
      (fun x a2 W2 => ∃ (Bx : Nat) (y0 y1 y2 y3 y5 y9 y10 y11 y12 y13 y14 y15 y16 y17 y18 y19 y20 y21 y22 y23 y24 y25 y26 y27 y28 y29 y30 y31 y32 y33 y34 y35 y36 y37 y38 y39 y40 y41 y42 y43 y44 y45 y46 y47 : Value), W2.heap[Bx]? = some (.cells #[.int .i64 x.2.k, .int .i64 x.2.n, .string x.2.s, .slice x.2.a x.2.m x.2.c] 26 (0, 0)) ∧ a2 = { tmps := #[y0, y1, y2, y3, .pointer (some ⟨w.heap.size + 2, 0, none⟩), y5, .pointer (some ⟨W.heap.size, 0, none⟩), .int .i64 (x.1 : Int), .pointer (some ⟨Bx, 0, none⟩), y9, y10, y11, y12, y13, y14, y15, y16, y17, y18, y19, y20, y21, y22, y23, y24, y25, y26, y27, y28, y29, y30, y31, y32, y33, y34, y35, y36, y37, y38, y39, y40, y41, y42, y43, y44, y45, y46, y47], defers := [] })
      (fun x a' _ X Y row hs hg hr => by
        obtain ⟨Bx, y0, y1, y2, y3, y5, y9, y10, y11, y12, y13, y14, y15, y16, y17, y18, y19, y20, y21, y22, y23, y24, y25, y26, y27, y28, y29, y30, y31, y32, y33, y34, y35, y36, y37, y38, y39, y40, y41, y42, y43, y44, y45, y46, y47, h2, h3⟩ := hs
        refine ⟨Bx, y0, y1, y2, y3, y5, y9, y10, y11, y12, y13, y14, y15, y16, y17, y18, y19, y20, y21, y22, y23, y24, y25, y26, y27, y28, y29, y30, y31, y32, y33, y34, y35, y36, y37, y38, y39, y40, y41, y42, y43, y44, y45, y46, y47, (hg.block Bx (Array.getElem?_eq_some_iff.1 h2).1 (fun e => ?_)).trans h2, h3⟩
        obtain ⟨_, o, ho, hc⟩ := hr Bx e.symm
        rw [h2] at ho; cases ho; cases hc)
      ?assign ?body ?done ?stop
    case assign =>
      rintro l pre x W2 K hI hK
      have HI2 := Lib.hid hI; clear hI
      gi_wp2
      have hz2 : W9.heap.size ≤ W2.heap.size := by obtain ⟨_, _, _, hR⟩ := HI2.out; exact hR.size
      exact hK _ _ ((KeepsOthers.alloc _ _).from _) ⟨(Below.refl _ W2).alloc (by omega) _, fun v hv => hv.alloc _⟩ ((PosR.own (by omega) HDS.out).alloc _ HI2.out) ⟨W2.heap.size, _, _, _, _, _, _, _, _, _, _, _, _, _, _, _, _, _, _, _, _, _, _, _, _, _, _, _, _, _, _, _, _, _, _, _, _, _, _, _, _, _, _, _, _, heap_new _ _ rfl, rfl⟩
    case body =>
      rintro l pre x a' W2 hl ⟨r, hr⟩ ⟨va2, vc2, ch, hR⟩ ⟨Bx, y0, y1, y2, y3, y5, y9, y10, y11, y12, y13, y14, y15, y16, y17, y18, y19, y20, y21, y22, y23, y24, y25, y26, y27, y28, y29, y30, y31, y32, y33, y34, y35, y36, y37, y38, y39, y40, y41, y42, y43, y44, y45, y46, y47, bX, rfl⟩ hlt
      have HR2 := Lib.hid hR; clear hR
      have HBX2 := Lib.hid bX; clear bX
      clear hr
      gi_wp2_with fail
      change (Code.region 11 posOps true).wpIn _ _ _ _ _ _
      have hcl := HR2.out.len
      have hsrc : SrcI W2 aa ac eps := by
        obtain ⟨aa', ac', e1, e2⟩ := HR2.out.pst.ints.src (i := rv.length) (u := .slice aa eps.length ac) (q := eps) (by simp) (by rw [hlen0]; simp) HFX.out.2
        cases e1
        exact e2
      refine pos_region l 1 (Nat.le_refl _) _ _ _ _ _ _ _ _ _ _ _ _ _ _ _ _ _ _ _ _ _ _ _ _ _ _ _ _ _ _ _ _ _ _ _ _ _ _ _ _ _ _ _ _ _ (w.heap.size + 2) W.heap.size Bx w.heap.size (x.1 : Int) aa eps.length ac eps va2 (ch ++ rest.map Prod.fst).length vc2 _ _ _ _ _ _ _ _ _ _ _ W2 HR2.out.pst.box HBX2.out HR2.out.here HR2.out.pst.own (by omega) ?hkn rfl (by omega) hsrc (fun a' W' hf => ?_)
      case hkn =>
        rw [List.length_append, List.length_map]
        omega
      exact HR2.out.push (by simp [hlen0]) (by omega) hf _ _
    case done =>
      rintro D ys W2 hD rfl ⟨va2, vc2, ch, hR⟩ hK
      have HR2 := Lib.hid hR; clear hR
      gi_wp2
      refine ⟨⟨_, _, ⟨rfl, rfl⟩, va2, vc2, rv ++ [.slice aa eps.length ac], ch.zip xs ++ rest, done ++ [eps], Lib.hid (inv_next HR2.out (by simp [hlen0]) hdl HDN.out (fun x hx => HI.out.fit x (List.mem_cons_of_mem _ hx)) ?_ ⟨D, rfl, by omega, hK, fun d' hd' D' e => Nat.lt_of_lt_of_le (HDS.out d' hd' D' e) hD, HR2.out.marks⟩)⟩, ?_⟩
      · have h1 := HI.out.pos
        rw [List.flatMap_cons, posE_node] at h1
        rw [← h1]
        simp
      · have h1 := lenOf_res HR2.out.pst.res
        have h2 := lenOf_res HI.out.st.res
        have h3 := HRL.out
        rw [h1, h2, List.length_append, List.length_singleton]
        omega
    case stop =>
      rintro D c pre W _ _ h _
      exact h.elim

theorem posI_any (k n : Int) (s : ByteArray) (a : Option Addr) (m c : Nat) (t : T) (h : Nat) (w : World) (ht : TermAt w 0 h (tv k n s (.slice a m c)) t) (hw : wT t ≤ 1048576) :
    Calls Tryd.prog 6 #[tv k n s (.slice a m c)] w (PosIE t w) :=
  (callsIn_wide (n := 3)).1 (posI_in k n s a m c t h w ht hw)
end Go.Proofs.YtcmhiindjponcaaDoor
