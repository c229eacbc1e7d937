/-
  impl.sortWith: the sort of a term from its root down, by a stack of places.
-/
import Derived.Test.YtidbokheeieifaaQ11
import Derived.Shelf.RegionOpen
namespace Go.Proofs.Ytidbokheeieifaa
open Go.RowKit

theorem cells_of4S {Y : World} {b : Nat} {x0 x1 x2 x3 : Value} {t : TypeId} (hb : Y.heap[b]? = some (.cells #[x0, x1, x2, x3] t (0, 0))) : Y.cell? ⟨b, 0, none⟩ = some x0 ∧ Y.cell? ⟨b, 1, none⟩ = some x1 ∧ Y.cell? ⟨b, 2, none⟩ = some x2 ∧ Y.cell? ⟨b, 3, none⟩ = some x3 := by
  have h0 := cell_of_row Y b 0 _ _ _ hb
  have h1 := cell_of_row Y b 1 _ _ _ hb
  have h2 := cell_of_row Y b 2 _ _ _ hb
  have h3 := cell_of_row Y b 3 _ _ _ hb
  simp at h0 h1 h2 h3
  exact ⟨h0, h1, h2, h3⟩
theorem snoc_casesS {α : Type} (l : List α) : l = [] ∨ ∃ l1 x, l = l1 ++ [x] := by
  rcases List.eq_nil_or_concat l with h | ⟨l1, x, h⟩
  · exact Or.inl h
  · exact Or.inr ⟨l1, x, by rw [h, List.concat_eq_append]⟩
theorem len_le_cSx : ∀ ts : List T, ts.length ≤ cS ts
  | [] => Nat.zero_le _
  | .node k n s xs :: ts => by
    have h := len_le_cSx ts
    have hc : cS (T.node k n s xs :: ts) = cT (T.node k n s xs) + cS ts := by simp [cS]
    rw [hc, cT_node]
    simp only [List.length_cons]
    omega
theorem DemCells.one {w0 : World} : ∀ {l : List (T × ByteArray)} {vs : List Value}, DemCells w0 l vs → ∀ u ∈ vs, u.oneCell' = true
  | [], _, e => by rw [show _ = [] from e]; intro u hu; cases hu
  | (.node _ _ _ _, _) :: _, _, ⟨u', rest, h', e, _, ha, hr⟩ => by
    obtain ⟨a, c, rfl⟩ := ha.slice
    rw [e]
    intro u hu
    simp only [List.mem_cons] at hu
    rcases hu with rfl | rfl | rfl | rfl | rfl | hu
    · rfl
    · rfl
    · rfl
    · rfl
    · rfl
    · exact hr.one u hu
theorem pop_own {w : World} {B g n c size : Nat} {e : TypeId} {v1 last : List Value} (h : w.ownsRow B e size (.slice (some ⟨g, 0, none⟩) (n + 1) c) (n + 1) (v1 ++ last)) (hl : last.length = size) : w.ownsRow B e size (.slice (some ⟨g, 0, none⟩) n c) n v1 := by
  have h1 := h.1
  rw [List.length_append, hl, Nat.add_mul, Nat.one_mul] at h1
  refine ⟨by omega, ?_⟩
  rcases h.2 with ⟨e1, _⟩ | ⟨g', c', cur, e1, hb, hg, hc, hm, hs, ht⟩
  · simp at e1
  · cases e1
    refine Or.inr ⟨g, c, cur, rfl, hb, hg, by omega, hm, hs, ?_⟩
    have h2 := congrArg (List.take (n * size)) ht
    rw [List.take_take, Nat.min_eq_left (Nat.mul_le_mul_right _ (by omega)), List.take_left' (by omega)] at h2
    exact h2

set_option maxRecDepth 100000 in
set_option maxHeartbeats 3200000 in
theorem sortWith_any (x : Value) (ps : List ByteArray) (ds : List OpD) (vs : List (ByteArray × ByteArray)) (v mv : Value) (t : T) (lo h : Nat) (w : World) (hn : ds.length ≤ 1048576) (ha : ∀ d ∈ ds, d.args.length ≤ 1048576)
    (hv : SigAt w x ps ds) (hm : MapIs mv (envOf vs) w) (ht : TermAt w lo h v t) (hw : cT t ≤ 1048577) : Calls Try.prog 79 #[x, v, mv] w (TextB (sortT ds vs t) w) := by
  obtain ⟨i0, hi, hz0, hz1, hz2⟩ := info_parts infoDem
  have HI := Lib.hid hi; clear hi
  have HZ0 := Lib.hid hz0; clear hz0
  have HZ1 := Lib.hid hz1; clear hz1
  have HZ2 := Lib.hid hz2; clear hz2
  obtain ⟨k, n, s, u, xs, rfl, rfl, hs, hag⟩ := ht
  obtain ⟨ua, uc, rfl⟩ := hag.slice
  have HV := Lib.hid hv
  have HMV := Lib.hid hm; clear hm
  obtain ⟨sa, sb, rfl, hsv, hov⟩ := hv
  obtain ⟨sa, sc, rfl⟩ := hsv.slice
  obtain ⟨oa, oc, rfl⟩ := hov.slice
  clear hsv hov
  have HAG := Lib.hid (hag.low (Nat.zero_le _)); clear hag
  have HS := Lib.hid hs; clear hs
  obtain ⟨um, hum⟩ : ∃ m, m = xs.length := ⟨_, rfl⟩
  rw [← hum] at HAG ⊢
  obtain ⟨s0, hs0⟩ : ∃ z, z = nodeSort ds (envOf vs) k s um := ⟨_, rfl⟩
  have HP0 : Hid (Pend ds vs (.node k n s xs) s0 [(.node k n s xs, s0)]) := Lib.hid (by rw [hs0, hum]; exact Pend.start ds vs _)
  have hcx : 1 + cS xs ≤ 1048577 := by rw [cT_node] at hw; exact hw
  have hc0 : cD [(T.node k n s xs, s0)] = 1 + cS xs := cD_one _ _ _ _ _
  have HC0 := Lib.hid (And.intro hc0 hcx); clear hc0 hcx hw
  obtain ⟨root, hroot⟩ : ∃ r, r = T.node k n s xs := ⟨_, rfl⟩
  have HRT := Lib.hid hroot
  rw [← hroot] at HP0 HC0 ⊢
  obtain ⟨pl, hpl⟩ : ∃ z, z = ps.length := ⟨_, rfl⟩
  obtain ⟨dl, hdl⟩ : ∃ z, z = ds.length := ⟨_, rfl⟩
  rw [← hpl, ← hdl] at HV ⊢
  have HUM := Lib.hid hum
  clear hpl hdl hum hroot
  obtain ⟨W0, hW0⟩ : ∃ W0, W0 = (w.alloc (.cells #[.slice sa pl sc, .slice oa dl oc] 49)).alloc (.cells #[.int .i64 k, .int .i64 n, .string s, .slice ua um uc] 26) := ⟨_, rfl⟩
  have hb0 : Below w.heap.size w W0 := by rw [hW0]; exact ((Below.refl _ _).alloc (Nat.le_refl _) _).alloc (by simp) _
  have hz0 : W0.heap.size = w.heap.size + 2 := by rw [hW0]; simp
  have r0 : W0.heap[w.heap.size]? = some (.cells #[.slice sa pl sc, .slice oa dl oc] 49 (0, 0)) := by rw [hW0, Below.heap_alloc _ _ _ (by simp)]; exact heap_new w _ rfl
  have r1 : W0.heap[w.heap.size + 1]? = some (.cells #[.int .i64 k, .int .i64 n, .string s, .slice ua um uc] 26 (0, 0)) := by rw [hW0]; exact heap_new _ _ (by simp)
  have HSG : Hid (∀ w', Below w.heap.size w w' → SigAt w' (sv (.slice sa pl sc) (.slice oa dl oc)) ps ds) := Lib.hid (fun w' hb => by
    obtain ⟨a', b', e, h1, h2⟩ := HV.out
    exact ⟨a', b', e, h1.below hb, h2.below hb⟩)
  have HMP : Hid (∀ w', Below w.heap.size w w' → MapIs mv (envOf vs) w') := Lib.hid (fun w' hb => HMV.out.below hb)
  have HB0 := Lib.hid hb0
  have HR := Lib.hid (And.intro r0 (And.intro r1 hz0))
  have HCAP := Lib.hid (And.intro hn ha)
  clear hb0 hz0 r0 r1 hn ha HV HMV
  go_enter Try.func79, Try.ntmps79
  go_wp2_with fail
  rw [← hW0]
  clear hW0
  refine (head_any (sv (.slice sa pl sc) (.slice oa dl oc)) ps ds k n s ua um uc mv (envOf vs) W0 HCAP.out.1 HCAP.out.2 (HSG.out _ HB0.out) (HMP.out _ HB0.out) HS.out).mono ?_
  rintro e w1 ⟨rfl, hb1⟩
  rw [← hs0]
  clear hs0
  have q0 : w1.heap[w.heap.size]? = some (.cells #[.slice sa pl sc, .slice oa dl oc] 49 (0, 0)) := (hb1.block _ (by have := HR.out.2.2; omega)).trans HR.out.1
  have q1 : w1.heap[w.heap.size + 1]? = some (.cells #[.int .i64 k, .int .i64 n, .string s, .slice ua um uc] 26 (0, 0)) := (hb1.block _ (by have := HR.out.2.2; omega)).trans HR.out.2.1
  obtain ⟨c0, c1, c2, c3⟩ := cells_of4S q1
  obtain ⟨W2, hW2⟩ : ∃ W2, W2 = w1.alloc (.cells #[.int .i64 k, .int .i64 n, .string s, .slice ua um uc, .string s0] 176) := ⟨_, rfl⟩
  have hb2 : Below w.heap.size w W2 := by rw [hW2]; exact (HB0.out.trans (hb1.mono (by have := HR.out.2.2; omega))).alloc (by have := HR.out.2.2; have := hb1.size; omega) _
  have p0 : W2.heap[w.heap.size]? = some (.cells #[.slice sa pl sc, .slice oa dl oc] 49 (0, 0)) := by rw [hW2, Below.heap_alloc _ _ _ (by have := HR.out.2.2; have := hb1.size; omega)]; exact q0
  have ho2 : W2.ownsRow (w.heap.size + 2) 176 5 (.slice (some ⟨w1.heap.size, 0, none⟩) 1 1) 1 [.int .i64 k, .int .i64 n, .string s, .slice ua um uc, .string s0] := by
    rw [hW2]
    exact World.ownsRow_lit (base := w.heap.size + 2) (size := 5) (e := 176) w1 #[.int .i64 k, .int .i64 n, .string s, .slice ua um uc, .string s0] 1 (by have := HR.out.2.2; have := hb1.size; omega) (by decide) rfl
  have hd2 : DemCells w [(T.node k n s xs, s0)] [.int .i64 k, .int .i64 n, .string s, .slice ua um uc, .string s0] := ⟨_, [], h, rfl, HS.out, HAG.out, rfl⟩
  rw [← HRT.out] at hd2
  have HST := Lib.hid (And.intro ho2 (And.intro hd2 (And.intro hb2 p0)))
  clear ho2 hd2 hb2 p0 q0 q1 hb1
  go_wp2
  rw [← hW2]
  clear hW2 c0 c1 c2 c3
  go_loopg [8] (cD [(root, s0)]) (fun g v wr => ∃ (l : List (T × ByteArray)) (vs' : List Value) (a : Option Addr) (c : Nat), g = cD l ∧ v = .slice a l.length c ∧ cD l ≤ 1048577 ∧ Hid (wr.ownsRow (w.heap.size + 2) 176 5 (.slice a l.length c) l.length vs') ∧ Hid (DemCells w l vs') ∧ Hid (Below w.heap.size w wr ∧ wr.heap[w.heap.size]? = some (.cells #[.slice sa pl sc, .slice oa dl oc] 49 (0, 0)) ∧ w.heap.size + 2 ≤ wr.heap.size) ∧ Hid (Pend ds vs root s0 l))
  case atStart =>
    refine ⟨[(root, s0)], _, some ⟨w1.heap.size, 0, none⟩, 1, rfl, rfl, by rw [HC0.out.1]; exact HC0.out.2, Lib.hid HST.out.1, Lib.hid HST.out.2.1, Lib.hid ⟨HST.out.2.2.1, HST.out.2.2.2, ?_⟩, HP0⟩
    have := (HST.out.1.lt _ rfl).1
    have := (HST.out.1.lt _ rfl).2
    omega
  case round =>
    clear HST HP0 HC0
    obtain ⟨l, vs', a, c, hg, rfl, hcd, HO, HD, HB, HP⟩ := hrel
    have HG := Lib.hid hg; clear hg
    rcases snoc_casesS l with hnil | ⟨l1, ⟨tt, d⟩, hl⟩
    · have HZ : Hid (sortT ds vs root = s0) := Lib.hid (by have := HP.out; rw [hnil] at this; exact this.done)
      have hl0 : l.length = 0 := by rw [hnil]; rfl
      rw [hl0]
      clear hnil hl0
      go_wp2
      go_ret
      exact ⟨by rw [HZ.out]; rfl, HB.out.1⟩
    · obtain ⟨tk, tn, ts, txs⟩ := tt
      subst hl
      obtain ⟨v1, tu, th, hvs, hts, hta, hd1⟩ := HD.out.pop
      subst hvs
      obtain ⟨ta, tc, rfl⟩ := hta.slice
      obtain ⟨q, hq⟩ : ∃ q, q = l1.length := ⟨_, rfl⟩
      have hlen : (l1 ++ [(T.node tk tn ts txs, d)]).length = q + 1 := by rw [hq]; simp
      rw [hlen] at HO ⊢
      obtain ⟨g, rfl⟩ : ∃ g, a = some ⟨g, 0, none⟩ := by
        rcases HO.out.2 with ⟨e1, h0⟩ | ⟨g, c', cur, e1, _⟩
        · omega
        · cases e1; exact ⟨g, rfl⟩
      have hvl : v1.length = q * 5 := by rw [hq]; exact hd1.len
      have hcell : ∀ j z, ([.int .i64 tk, .int .i64 tn, .string ts, .slice ta txs.length tc, .string d] : List Value)[j]? = some z → wr.cell? ⟨g, q * 5 + j, none⟩ = some z := fun j z hj => by
        have hjl := (List.getElem?_eq_some_iff.1 hj).1
        simp only [List.length_cons, List.length_nil] at hjl
        rw [HO.out.cellAt (q * 5 + j) (by omega), List.getElem?_append_right (by omega), hvl, Nat.add_sub_cancel_left]
        exact hj
      have e0 := hcell 0 _ rfl
      have e1 := hcell 1 _ rfl
      have e2 := hcell 2 _ rfl
      have e3 := hcell 3 _ rfl
      have e4 := hcell 4 _ rfl
      rw [Nat.add_zero] at e0
      have hxc : 1 + cS txs ≤ 1048577 := by rw [cD_app, cD_one] at hcd; omega
      have hql : q ≤ 1048576 := by have := cD_len l1; rw [cD_app, cD_one] at hcd; omega
      have hOP := pop_own HO.out rfl
      have HOP := Lib.hid hOP
      have HOQ := Lib.hid HO.out
      have hgl := HO.out.lt g rfl
      have HGL := Lib.hid hgl
      have HCD : Hid (cD l1 + (1 + cS txs) ≤ 1048577 ∧ cD (l1 ++ [(T.node tk tn ts txs, d)]) = cD l1 + (1 + cS txs)) := Lib.hid (by rw [cD_app, cD_one] at hcd ⊢; exact ⟨hcd, rfl⟩)
      have HTS := Lib.hid (And.intro hts (And.intro hta hd1))
      have HQ := Lib.hid hq
      obtain ⟨tm, htm⟩ : ∃ m, m = txs.length := ⟨_, rfl⟩
      rw [← htm] at e3 HTS
      have HTM := Lib.hid htm
      have html : tm ≤ 1048576 := by have := len_le_cSx txs; omega
      clear hcell hvl hOP hgl hcd hts hta hd1 hq hlen HD HO htm hxc
      obtain ⟨F, hF⟩ : ∃ F, F = wr.alloc (.cells #[.int .i64 tk, .int .i64 tn, .string ts, .slice ta tm tc, .string d] 176) := ⟨_, rfl⟩
      have hbF : Below wr.heap.size wr F := by rw [hF]; exact (Below.refl _ _).alloc (Nat.le_refl _) _
      have rF : F.heap[wr.heap.size]? = some (.cells #[.int .i64 tk, .int .i64 tn, .string ts, .slice ta tm tc, .string d] 176 (0, 0)) := by rw [hF]; exact heap_new wr _ rfl
      have hlk : (q : Int) < (q : Int) + 1 := by omega
      have hqc : q ≤ c := by
        rcases HOQ.out.2 with ⟨e1, h0⟩ | ⟨g', c', cur, e1, _, _, hc, _⟩
        · simp at e1
        · cases e1; omega
      go_upto_region 7 with fail
      rw [← hF]
      clear hF e0 e1 e2 e3 e4 hlk hqc HOQ
      have HRF : Hid (∀ w', Below F.heap.size F w' → w'.heap[wr.heap.size]? = some (.cells #[.int .i64 tk, .int .i64 tn, .string ts, .slice ta tm tc, .string d] 176 (0, 0)) ∧ w'.heap[w.heap.size]? = some (.cells #[.slice sa pl sc, .slice oa dl oc] 49 (0, 0))) := Lib.hid (fun w' hb => ⟨(hb.block _ (Array.getElem?_eq_some_iff.1 rF).1).trans rF, (hb.block _ (by have := hbF.size; have := HB.out.2.2; omega)).trans ((hbF.block _ (by have := HB.out.2.2; omega)).trans HB.out.2.1)⟩)
      have HBF := Lib.hid hbF
      clear rF hbF
      have HCELL : Hid (∀ w', Below F.heap.size F w' → (w'.cell? ⟨wr.heap.size, 0, none⟩ = some (.int .i64 tk) ∧ w'.cell? ⟨wr.heap.size, 1, none⟩ = some (.int .i64 tn) ∧ w'.cell? ⟨wr.heap.size, 2, none⟩ = some (.string ts) ∧ w'.cell? ⟨wr.heap.size, 3, none⟩ = some (.slice ta tm tc) ∧ w'.cell? ⟨wr.heap.size, 4, none⟩ = some (.string d) ∧ w'.cell? ⟨w.heap.size, 0, none⟩ = some (.slice sa pl sc) ∧ w'.cell? ⟨w.heap.size, 1, none⟩ = some (.slice oa dl oc) ∧ Below F.heap.size F w')) := Lib.hid (fun w' hb => by
        obtain ⟨h1, h2⟩ := HRF.out w' hb
        have z0 := cell_of_row _ _ 0 _ _ _ h1
        have z1 := cell_of_row _ _ 1 _ _ _ h1
        have z2 := cell_of_row _ _ 2 _ _ _ h1
        have z3 := cell_of_row _ _ 3 _ _ _ h1
        have z4 := cell_of_row _ _ 4 _ _ _ h1
        have y0 := cell_of_row _ _ 0 _ _ _ h2
        have y1 := cell_of_row _ _ 1 _ _ _ h2
        simp at z0 z1 z2 z3 z4 y0 y1
        exact ⟨z0, z1, z2, z3, z4, y0, y1, hb⟩)
      by_cases hd : d = zE
      · have HZ : Hid (sortT ds vs root = zE) := Lib.hid (HP.out.bad (Or.inl hd))
        have HBE : Hid (Below w.heap.size w F.drew) := Lib.hid ((HB.out.1.trans (HBF.out.mono HB.out.1.size)).drew)
        subst hd
        have hSD := HCELL.out F.drew (Below.refl _ _).drew
        refine wp_region_held_drew (S := fun w' => w'.cell? ⟨wr.heap.size, 0, none⟩ = some (.int .i64 tk) ∧ w'.cell? ⟨wr.heap.size, 1, none⟩ = some (.int .i64 tn) ∧ w'.cell? ⟨wr.heap.size, 2, none⟩ = some (.string ts) ∧ w'.cell? ⟨wr.heap.size, 3, none⟩ = some (.slice ta tm tc) ∧ w'.cell? ⟨wr.heap.size, 4, none⟩ = some (.string zE) ∧ w'.cell? ⟨w.heap.size, 0, none⟩ = some (.slice sa pl sc) ∧ w'.cell? ⟨w.heap.size, 1, none⟩ = some (.slice oa dl oc) ∧ Below F.heap.size F w') (by kernel_rfl) hSD (fun hHeld => ?_)
        --REG7
        refine wpAnyH_take (i := 0) (oi := { dst := some 32, op := Op.fieldAddr 176 (Operand.tmp 10) 1, type := 0, pos := "l06_signature.go:168", after := #[], guard := none }) (v := ?vf0) rfl (by kernel_rfl) (by kernel_rfl) (by kernel_rfl) (fun _ _ _ h => h) (Or.inl ⟨by rfl, ?yf0⟩) hHeld ?rf0
        case yf0 => (intro w hSw; (try dsimp only at hSw); go_simp; try with_reducible rfl)
        (try simp only [Act.put, List.setIfInBounds_toArray, List.set_cons_zero, List.set_cons_succ])
        refine wpAnyH_take (i := 1) (oi := { dst := some 33, op := Op.load 9 (Operand.tmp 32), type := 9, pos := "l06_signature.go:168", after := #[{ on := 0, ground := Ground.data }], guard := none }) (v := ?vf1) rfl (by kernel_rfl) (by kernel_rfl) (by kernel_rfl) (fun _ _ _ h => h) (Or.inl ⟨by rfl, ?yf1⟩) hHeld ?rf1
        case yf1 => (intro w hSw; (try dsimp only at hSw); go_simp; try with_reducible rfl)
        (try simp only [Act.put, List.setIfInBounds_toArray, List.set_cons_zero, List.set_cons_succ])
        refine wpAnyH_take (i := 2) (oi := { dst := some 34, op := Op.binOp BinOp.eql 9 (Operand.tmp 33) (Operand.const (Value.string { data := #[] })) 9, type := 4, pos := "l06_signature.go:168", after := #[{ on := 1, ground := Ground.data }], guard := none }) (v := .bool true) rfl (by kernel_rfl) (by kernel_rfl) (by kernel_rfl) (fun _ _ _ h => h) (Or.inl ⟨by rfl, ?yf2⟩) hHeld ?rf2
        case yf2 => (intro w hSw; (try dsimp only at hSw); go_simp; try with_reducible rfl)
        (try simp only [Act.put, List.setIfInBounds_toArray, List.set_cons_zero, List.set_cons_succ])
        refine wpAnyH_take (i := 3) (oi := { dst := some 35, op := Op.move (Operand.tmp 34), type := 4, pos := "l06_signature.go:168", after := #[{ on := 2, ground := Ground.data }], guard := none }) (v := .bool true) rfl (by kernel_rfl) (by kernel_rfl) (by kernel_rfl) (fun _ _ _ h => h) (Or.inl ⟨by rfl, ?yf3⟩) hHeld ?rf3
        case yf3 => (intro w hSw; (try dsimp only at hSw); go_simp; try with_reducible rfl)
        (try simp only [Act.put, List.setIfInBounds_toArray, List.set_cons_zero, List.set_cons_succ])
        refine wpAnyH_take (i := 4) (oi := { dst := some 36, op := Op.load 49 (Operand.tmp 3), type := 49, pos := "l06_signature.go:168", after := #[{ on := 3, ground := Ground.guard }], guard := some (3, false) }) (v := undef) rfl (by kernel_rfl) (by kernel_rfl) (by kernel_rfl) (fun _ _ _ h => h) (Or.inr ⟨by rfl, rfl⟩) hHeld ?_
        (try simp only [Act.put, List.setIfInBounds_toArray, List.set_cons_zero, List.set_cons_succ])
        refine wpAnyH_take (i := 5) (oi := { dst := some 37, op := Op.fieldAddr 176 (Operand.tmp 10) 0, type := 0, pos := "l06_signature.go:168", after := #[{ on := 3, ground := Ground.guard }], guard := some (3, false) }) (v := undef) rfl (by kernel_rfl) (by kernel_rfl) (by kernel_rfl) (fun _ _ _ h => h) (Or.inr ⟨by rfl, rfl⟩) hHeld ?_
        (try simp only [Act.put, List.setIfInBounds_toArray, List.set_cons_zero, List.set_cons_succ])
        refine wpAnyH_take (i := 6) (oi := { dst := some 38, op := Op.load 26 (Operand.tmp 37), type := 26, pos := "l06_signature.go:168", after := #[{ on := 5, ground := Ground.data }, { on := 3, ground := Ground.guard }], guard := some (3, false) }) (v := undef) rfl (by kernel_rfl) (by kernel_rfl) (by kernel_rfl) (fun _ _ _ h => h) (Or.inr ⟨by rfl, rfl⟩) hHeld ?_
        (try simp only [Act.put, List.setIfInBounds_toArray, List.set_cons_zero, List.set_cons_succ])
        refine wpAnyH_take (i := 7) (oi := { dst := some 39, op := Op.move (Operand.tmp 2), type := 117, pos := "l06_signature.go:168", after := #[{ on := 3, ground := Ground.guard }], guard := some (3, false) }) (v := undef) rfl (by kernel_rfl) (by kernel_rfl) (by kernel_rfl) (fun _ _ _ h => h) (Or.inr ⟨by rfl, rfl⟩) hHeld ?_
        (try simp only [Act.put, List.setIfInBounds_toArray, List.set_cons_zero, List.set_cons_succ])
        refine wpAnyH_take (i := 8) (oi := { dst := some 40, op := Op.call { callee := Callee.value (Operand.func 120), args := #[Operand.tmp 36, Operand.tmp 38, Operand.tmp 39], argTypes := #[49, 26, 117] }, type := 9, pos := "l06_signature.go:168", after := #[{ on := 4, ground := Ground.data }, { on := 6, ground := Ground.data }, { on := 7, ground := Ground.data }, { on := 3, ground := Ground.chain }, { on := 3, ground := Ground.guard }], guard := some (3, false) }) (v := undef) rfl (by kernel_rfl) (by kernel_rfl) (by kernel_rfl) (fun _ _ _ h => h) (Or.inr ⟨by rfl, rfl⟩) hHeld ?_
        (try simp only [Act.put, List.setIfInBounds_toArray, List.set_cons_zero, List.set_cons_succ])
        refine wpAnyH_take (i := 9) (oi := { dst := some 41, op := Op.fieldAddr 176 (Operand.tmp 10) 1, type := 0, pos := "l06_signature.go:168", after := #[{ on := 3, ground := Ground.guard }], guard := some (3, false) }) (v := undef) rfl (by kernel_rfl) (by kernel_rfl) (by kernel_rfl) (fun _ _ _ h => h) (Or.inr ⟨by rfl, rfl⟩) hHeld ?_
        (try simp only [Act.put, List.setIfInBounds_toArray, List.set_cons_zero, List.set_cons_succ])
        refine wpAnyH_take (i := 10) (oi := { dst := some 42, op := Op.load 9 (Operand.tmp 41), type := 9, pos := "l06_signature.go:168", after := #[{ on := 9, ground := Ground.data }, { on := 3, ground := Ground.guard }], guard := some (3, false) }) (v := undef) rfl (by kernel_rfl) (by kernel_rfl) (by kernel_rfl) (fun _ _ _ h => h) (Or.inr ⟨by rfl, rfl⟩) hHeld ?_
        (try simp only [Act.put, List.setIfInBounds_toArray, List.set_cons_zero, List.set_cons_succ])
        refine wpAnyH_take (i := 11) (oi := { dst := some 43, op := Op.binOp BinOp.neq 9 (Operand.tmp 40) (Operand.tmp 42) 9, type := 4, pos := "l06_signature.go:168", after := #[{ on := 8, ground := Ground.data }, { on := 10, ground := Ground.data }, { on := 3, ground := Ground.guard }], guard := some (3, false) }) (v := undef) rfl (by kernel_rfl) (by kernel_rfl) (by kernel_rfl) (fun _ _ _ h => h) (Or.inr ⟨by rfl, rfl⟩) hHeld ?_
        (try simp only [Act.put, List.setIfInBounds_toArray, List.set_cons_zero, List.set_cons_succ])
        refine wpAnyH_take (i := 12) (oi := { dst := some 44, op := Op.pick (Operand.tmp 35) (Operand.const (Value.bool true)) (Operand.tmp 43), type := 4, pos := "l06_signature.go:168", after := #[{ on := 3, ground := Ground.data }, { on := 11, ground := Ground.data }], guard := none }) (v := .bool true) rfl (by kernel_rfl) (by kernel_rfl) (by kernel_rfl) (fun _ _ _ h => h) (Or.inl ⟨by rfl, ?yf12⟩) hHeld ?rf12
        case yf12 => (intro w hSw; (try dsimp only at hSw); go_simp; try with_reducible rfl)
        (try simp only [Act.put, List.setIfInBounds_toArray, List.set_cons_zero, List.set_cons_succ])
        refine wpAnyH_done (by kernel_rfl) ?_ _
        --END7
        go_wp2
        go_ret
        exact ⟨by rw [HZ.out]; rfl, HBE.out⟩
      · have hdz : ¬ d.toList = [] := fun e => hd (ba_ext (by rw [e]; exact zE_nil.symm))
        have HWF : Hid (∀ w', Below F.heap.size F w' → Below w.heap.size w w') := Lib.hid (fun w' hb => (HB.out.1.trans (HBF.out.mono HB.out.1.size)).trans (hb.mono (by have := HBF.out.size; have := HB.out.1.size; omega)))
        have hFd : Below F.heap.size F F.drew := (Below.refl _ _).drew
        have hSD := HCELL.out F.drew hFd
        obtain ⟨bne, hbne⟩ : ∃ b, ((nodeSort ds (envOf vs) tk ts tm).toList == d.toList) = !b := ⟨!((nodeSort ds (envOf vs) tk ts tm).toList == d.toList), by simp⟩
        refine wp_region_held_drew (S := fun w' => w'.cell? ⟨wr.heap.size, 0, none⟩ = some (.int .i64 tk) ∧ w'.cell? ⟨wr.heap.size, 1, none⟩ = some (.int .i64 tn) ∧ w'.cell? ⟨wr.heap.size, 2, none⟩ = some (.string ts) ∧ w'.cell? ⟨wr.heap.size, 3, none⟩ = some (.slice ta tm tc) ∧ w'.cell? ⟨wr.heap.size, 4, none⟩ = some (.string d) ∧ w'.cell? ⟨w.heap.size, 0, none⟩ = some (.slice sa pl sc) ∧ w'.cell? ⟨w.heap.size, 1, none⟩ = some (.slice oa dl oc) ∧ Below F.heap.size F w') (by kernel_rfl) hSD (fun hHeld => ?_)
        --REG8
        refine wpAnyH_take (i := 0) (oi := { dst := some 32, op := Op.fieldAddr 176 (Operand.tmp 10) 1, type := 0, pos := "l06_signature.go:168", after := #[], guard := none }) (v := ?vg0) rfl (by kernel_rfl) (by kernel_rfl) (by kernel_rfl) (fun _ _ _ h => h) (Or.inl ⟨by rfl, ?yg0⟩) hHeld ?rg0
        case yg0 => (intro w hSw; (try dsimp only at hSw); go_simp; try with_reducible rfl)
        (try simp only [Act.put, List.setIfInBounds_toArray, List.set_cons_zero, List.set_cons_succ])
        refine wpAnyH_take (i := 1) (oi := { dst := some 33, op := Op.load 9 (Operand.tmp 32), type := 9, pos := "l06_signature.go:168", after := #[{ on := 0, ground := Ground.data }], guard := none }) (v := ?vg1) rfl (by kernel_rfl) (by kernel_rfl) (by kernel_rfl) (fun _ _ _ h => h) (Or.inl ⟨by rfl, ?yg1⟩) hHeld ?rg1
        case yg1 => (intro w hSw; (try dsimp only at hSw); go_simp; try with_reducible rfl)
        (try simp only [Act.put, List.setIfInBounds_toArray, List.set_cons_zero, List.set_cons_succ])
        refine wpAnyH_take (i := 2) (oi := { dst := some 34, op := Op.binOp BinOp.eql 9 (Operand.tmp 33) (Operand.const (Value.string { data := #[] })) 9, type := 4, pos := "l06_signature.go:168", after := #[{ on := 1, ground := Ground.data }], guard := none }) (v := .bool false) rfl (by kernel_rfl) (by kernel_rfl) (by kernel_rfl) (fun _ _ _ h => h) (Or.inl ⟨by rfl, ?yg2⟩) hHeld ?rg2
        case yg2 => (intro w hSw; (try dsimp only at hSw); go_simp; try with_reducible rfl)
        (try simp only [Act.put, List.setIfInBounds_toArray, List.set_cons_zero, List.set_cons_succ])
        refine wpAnyH_take (i := 3) (oi := { dst := some 35, op := Op.move (Operand.tmp 34), type := 4, pos := "l06_signature.go:168", after := #[{ on := 2, ground := Ground.data }], guard := none }) (v := .bool false) rfl (by kernel_rfl) (by kernel_rfl) (by kernel_rfl) (fun _ _ _ h => h) (Or.inl ⟨by rfl, ?yg3⟩) hHeld ?rg3
        case yg3 => (intro w hSw; (try dsimp only at hSw); go_simp; try with_reducible rfl)
        (try simp only [Act.put, List.setIfInBounds_toArray, List.set_cons_zero, List.set_cons_succ])
        refine wpAnyH_take (i := 4) (oi := { dst := some 36, op := Op.load 49 (Operand.tmp 3), type := 49, pos := "l06_signature.go:168", after := #[{ on := 3, ground := Ground.guard }], guard := some (3, false) }) (v := ?vg4) rfl (by kernel_rfl) (by kernel_rfl) (by kernel_rfl) (fun _ _ _ h => h) (Or.inl ⟨by rfl, ?yg4⟩) hHeld ?rg4
        case yg4 => (intro w hSw; (try dsimp only at hSw); go_simp; try with_reducible rfl)
        (try simp only [Act.put, List.setIfInBounds_toArray, List.set_cons_zero, List.set_cons_succ])
        refine wpAnyH_take (i := 5) (oi := { dst := some 37, op := Op.fieldAddr 176 (Operand.tmp 10) 0, type := 0, pos := "l06_signature.go:168", after := #[{ on := 3, ground := Ground.guard }], guard := some (3, false) }) (v := ?vg5) rfl (by kernel_rfl) (by kernel_rfl) (by kernel_rfl) (fun _ _ _ h => h) (Or.inl ⟨by rfl, ?yg5⟩) hHeld ?rg5
        case yg5 => (intro w hSw; (try dsimp only at hSw); go_simp; try with_reducible rfl)
        (try simp only [Act.put, List.setIfInBounds_toArray, List.set_cons_zero, List.set_cons_succ])
        refine wpAnyH_take (i := 6) (oi := { dst := some 38, op := Op.load 26 (Operand.tmp 37), type := 26, pos := "l06_signature.go:168", after := #[{ on := 5, ground := Ground.data }, { on := 3, ground := Ground.guard }], guard := some (3, false) }) (v := ?vg6) rfl (by kernel_rfl) (by kernel_rfl) (by kernel_rfl) (fun _ _ _ h => h) (Or.inl ⟨by rfl, ?yg6⟩) hHeld ?rg6
        case yg6 => (intro w hSw; (try dsimp only at hSw); go_simp; try with_reducible rfl)
        (try simp only [Act.put, List.setIfInBounds_toArray, List.set_cons_zero, List.set_cons_succ])
        refine wpAnyH_take (i := 7) (oi := { dst := some 39, op := Op.move (Operand.tmp 2), type := 117, pos := "l06_signature.go:168", after := #[{ on := 3, ground := Ground.guard }], guard := some (3, false) }) (v := ?vg7) rfl (by kernel_rfl) (by kernel_rfl) (by kernel_rfl) (fun _ _ _ h => h) (Or.inl ⟨by rfl, ?yg7⟩) hHeld ?rg7
        case yg7 => (intro w hSw; (try dsimp only at hSw); go_simp; try with_reducible rfl)
        (try simp only [Act.put, List.setIfInBounds_toArray, List.set_cons_zero, List.set_cons_succ])
        refine wpAnyH_take (i := 9) (oi := { dst := some 41, op := Op.fieldAddr 176 (Operand.tmp 10) 1, type := 0, pos := "l06_signature.go:168", after := #[{ on := 3, ground := Ground.guard }], guard := some (3, false) }) (v := ?vg9) rfl (by kernel_rfl) (by kernel_rfl) (by kernel_rfl) (fun _ _ _ h => h) (Or.inl ⟨by rfl, ?yg9⟩) hHeld ?rg9
        case yg9 => (intro w hSw; (try dsimp only at hSw); go_simp; try with_reducible rfl)
        (try simp only [Act.put, List.setIfInBounds_toArray, List.set_cons_zero, List.set_cons_succ])
        refine wpAnyH_take (i := 10) (oi := { dst := some 42, op := Op.load 9 (Operand.tmp 41), type := 9, pos := "l06_signature.go:168", after := #[{ on := 9, ground := Ground.data }, { on := 3, ground := Ground.guard }], guard := some (3, false) }) (v := ?vg10) rfl (by kernel_rfl) (by kernel_rfl) (by kernel_rfl) (fun _ _ _ h => h) (Or.inl ⟨by rfl, ?yg10⟩) hHeld ?rg10
        case yg10 => (intro w hSw; (try dsimp only at hSw); go_simp; try with_reducible rfl)
        (try simp only [Act.put, List.setIfInBounds_toArray, List.set_cons_zero, List.set_cons_succ])
        refine wpAnyH_ready (rs := [8]) (by kernel_rfl) (by simp) ?_
        refine AllReadyH.cons (o := { dst := some 40, op := Op.call { callee := Callee.value (Operand.func 120), args := #[Operand.tmp 36, Operand.tmp 38, Operand.tmp 39], argTypes := #[49, 26, 117] }, type := 9, pos := "l06_signature.go:168", after := #[{ on := 4, ground := Ground.data }, { on := 6, ground := Ground.data }, { on := 7, ground := Ground.data }, { on := 3, ground := Ground.chain }, { on := 3, ground := Ground.guard }], guard := some (3, false) }) rfl (fun K hK => ?_) AllReadyH.nil
        (go_simp; refine (head_any (sv (.slice sa pl sc) (.slice oa dl oc)) ps ds tk tn ts ta tm tc mv (envOf vs) _ HCAP.out.1 HCAP.out.2 (HSG.out _ (HWF.out _ hFd)) (HMP.out _ (HWF.out _ hFd)) HTS.out.1).mono ?_; rintro e w8 ⟨rfl, hbw8⟩; go_wp2_with fail; refine hK.out _ _ (HCELL.out w8 (bel_two hFd hbw8)) (fun hHeld => ?_))
        clear hK K
        (try simp only [Act.put, List.setIfInBounds_toArray, List.set_cons_zero, List.set_cons_succ])
        refine wpAnyH_take (i := 11) (oi := { dst := some 43, op := Op.binOp BinOp.neq 9 (Operand.tmp 40) (Operand.tmp 42) 9, type := 4, pos := "l06_signature.go:168", after := #[{ on := 8, ground := Ground.data }, { on := 10, ground := Ground.data }, { on := 3, ground := Ground.guard }], guard := some (3, false) }) (v := .bool bne) rfl (by kernel_rfl) (by kernel_rfl) (by kernel_rfl) (fun _ _ _ h => h) (Or.inl ⟨by rfl, ?yg11⟩) hHeld ?rg11
        case yg11 => (intro w hSw; (try dsimp only at hSw); go_simp; try with_reducible rfl)
        (try simp only [Act.put, List.setIfInBounds_toArray, List.set_cons_zero, List.set_cons_succ])
        refine wpAnyH_take (i := 12) (oi := { dst := some 44, op := Op.pick (Operand.tmp 35) (Operand.const (Value.bool true)) (Operand.tmp 43), type := 4, pos := "l06_signature.go:168", after := #[{ on := 3, ground := Ground.data }, { on := 11, ground := Ground.data }], guard := none }) (v := .bool bne) rfl (by kernel_rfl) (by kernel_rfl) (by kernel_rfl) (fun _ _ _ h => h) (Or.inl ⟨by rfl, ?yg12⟩) hHeld ?rg12
        case yg12 => (intro w hSw; (try dsimp only at hSw); go_simp; try with_reducible rfl)
        (try simp only [Act.put, List.setIfInBounds_toArray, List.set_cons_zero, List.set_cons_succ])
        refine wpAnyH_done (by kernel_rfl) ?_ _
        --END8
        have HB8 := Lib.hid (bel_two hFd hbw8)
        clear hFd hSD hHeld hbw8
        cases bne with
        | true =>
          have hnd : nodeSort ds (envOf vs) tk ts tm ≠ d := fun e => by rw [e] at hbne; simp at hbne
          have HZ : Hid (sortT ds vs root = zE) := Lib.hid (HP.out.bad (Or.inr (by show nodeSort ds (envOf vs) tk ts txs.length ≠ d; rw [← HTM.out]; exact hnd)))
          have HBE := Lib.hid (HWF.out _ HB8.out)
          clear hbne hnd
          go_wp2
          go_ret
          exact ⟨by rw [HZ.out]; rfl, HBE.out⟩
        | false =>
          have hnd : nodeSort ds (envOf vs) tk ts tm = d := (same_iff _ _).1 hbne
          have HND : Hid (nodeT ds vs (.node tk tn ts txs) = d) := Lib.hid (by show nodeSort ds (envOf vs) tk ts txs.length = d; rw [← HTM.out]; exact hnd)
          have hb8 := HB8.out
          obtain ⟨e0, e1, e2, e3, e4, y0, y1, _⟩ := HCELL.out _ HB8.out
          have hsg8 := (HRF.out _ HB8.out).2
          have hO8 := keep_own HOP.out (HBF.out.trans (HB8.out.mono HBF.out.size))
          have HO8 := Lib.hid hO8
          have HBW8 := Lib.hid (HWF.out _ HB8.out)
          have hz8 := HB8.out.size
          have HSG8 := Lib.hid hsg8
          have HW8 : Hid (w.heap.size + 2 ≤ w8.heap.size) := Lib.hid (by have := HB8.out.size; have := HBF.out.size; have := HB.out.2.2; omega)
          clear hbne hnd hb8 hO8 hsg8 hz8
          by_cases h2 : tk = 2
          · subst h2
            have HPN := Lib.hid (HP.out.app hd HND.out)
            have HDM := Lib.hid (argDem_any (sv (.slice sa pl sc) (.slice oa dl oc)) ps ds tn ts ta tm tc txs th w w8 HCAP.out.1 HCAP.out.2 (HSG.out _ HBW8.out) HTS.out.2.1 HBW8.out html HTM.out)
            go_wp2_with fail
            refine HDM.out.mono ?_
            rintro e w9 ⟨v9, vs9, rfl, ho9, hd9, hb9⟩
            have HO9 := Lib.hid (keep_own HO8.out hb9)
            have HD9 := Lib.hid (HTS.out.2.2.app hd9)
            have HBW9 := Lib.hid (HBW8.out.trans (hb9.mono HBW8.out.size))
            have HSG9 := Lib.hid ((hb9.block _ (by have := HW8.out; omega)).trans HSG8.out)
            have HW9 : Hid (w.heap.size + 2 ≤ w9.heap.size) := Lib.hid (by have := HW8.out; have := hb9.size; omega)
            have HPL : Hid ((l1 ++ places (findD ds ts) txs).length = q + tm ∧ cD (l1 ++ places (findD ds ts) txs) = cD l1 + cS txs) := Lib.hid ⟨by rw [List.length_append, HQ.out, HTM.out]; congr 1; rw [← List.length_map (f := Prod.fst), places_fst], by rw [cD_app, cD_places]⟩
            have hgr : cD (l1 ++ places (findD ds ts) txs) < gk := by rw [HPL.out.2, HG.out, HCD.out.2]; omega
            have hcn : cD (l1 ++ places (findD ds ts) txs) ≤ 1048577 := by rw [HPL.out.2]; have := HCD.out.1; omega
            have HOV := Lib.hid ho9
            have HD9X := Lib.hid hd9
            clear hd9
            rcases ho9.2 with ⟨rfl, h0⟩ | ⟨g9, c9, cur9, rfl, hbb9, hgg9, _⟩
            · have htx0 : tm = 0 := h0
              clear hb9 ho9
              go_wp2_with (first | (at_builtin; refine wpList_append_own_none rfl (.tmp 49) (.tmp 53) 177 rfl (w.heap.size + 2) 176 i0 5 Try.underlying177 HI.out _ _ _ rfl HO9.out rfl ?_))
              have HVN : Hid (vs9 = []) := Lib.hid (List.eq_nil_of_length_eq_zero (by rw [HOV.out.1, htx0]))
              subst htx0
              go_wp2
              go_roundg (cD (l1 ++ places (findD ds ts) txs))
              case measure => exact hgr
              case rel => exact ⟨_, v1 ++ vs9, some ⟨g, 0, none⟩, c, rfl, by rw [HPL.out.1, Nat.add_zero], hcn, by rw [HPL.out.1, HVN.out, List.append_nil, Nat.add_zero]; exact HO9, HD9, Lib.hid ⟨HBW9.out, HSG9.out, HW9.out⟩, HPN⟩
            · clear hb9 ho9 hbb9 hgg9
              go_wp2_with (first | (at_builtin; refine wpList_append_own _ rfl (.tmp 49) (.tmp 53) 177 rfl (w.heap.size + 2) 176 i0 (.agg #[.int .i64 0, .int .i64 0, .string ByteArray.empty, .slice none 0 0, .string ByteArray.empty]) 5 72 Try.underlying177 HI.out HZ0.out HZ1.out HZ2.out rfl (by decide) _ _ _ rfl HO9.out ⟨g9, 0, none⟩ tm c9 vs9 rfl ?c0 ?c1 ?c2 ?c3 ?c4 ?c5 ?_))
              case c0 => exact HOV.out.1
              case c1 => exact HOV.out.cells rfl
              case c2 => exact HD9X.out.one
              case c3 => unfold maxLen; omega
              case c4 => omega
              case c5 => exact HW9.out
              intro v' w' how hgw hnn
              have HOA := Lib.hid how
              have HBA := Lib.hid (HBW9.out.grown hgw (by have := HW9.out; omega) (fun j e => by have := (HO9.out.lt j e).1; omega))
              have HSA : Hid (w'.heap[w.heap.size]? = some (.cells #[.slice sa pl sc, .slice oa dl oc] 49 (0, 0))) := Lib.hid ((hgw.block _ (by have := HW9.out; omega) (fun e => by have := (HO9.out.lt _ e.symm).1; omega)).trans HSG9.out)
              have HWA : Hid (w.heap.size + 2 ≤ w'.heap.size) := Lib.hid (by have := HW9.out; have := hgw.size; omega)
              obtain ⟨aA, cA, rfl⟩ : ∃ a c, v' = .slice a (q + tm) c := by
                rcases how.2 with ⟨e1, h0⟩ | ⟨g', c', cur', e1, _⟩
                · exact ⟨none, 0, by rw [e1, h0]⟩
                · exact ⟨_, c', e1⟩
              clear how hgw hnn
              go_wp2
              go_roundg (cD (l1 ++ places (findD ds ts) txs))
              case measure => exact hgr
              case rel => exact ⟨_, v1 ++ vs9, aA, cA, rfl, by rw [HPL.out.1], hcn, by rw [HPL.out.1]; exact HOA.out, HD9, Lib.hid ⟨HBA.out, HSA.out, HWA.out⟩, HPN⟩
          · have HPN := Lib.hid (HP.out.leaf h2 hd HND.out)
            have h2b : (tk == 2) = false := by simpa using h2
            have hgr : cD l1 < gk := by rw [HG.out, HCD.out.2]; omega
            have hcn : cD l1 ≤ 1048577 := by have := HCD.out.1; omega
            go_wp2
            go_roundg (cD l1)
            case rel => exact ⟨l1, v1, some ⟨g, 0, none⟩, c, rfl, by rw [HQ.out], hcn, by rw [← HQ.out]; exact HO8, Lib.hid HTS.out.2.2, Lib.hid ⟨HBW8.out, HSG8.out, HW8.out⟩, HPN⟩
            case measure => exact hgr
end Go.Proofs.Ytidbokheeieifaa
