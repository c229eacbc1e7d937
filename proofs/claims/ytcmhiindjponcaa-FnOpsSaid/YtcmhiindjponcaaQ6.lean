/-
  impl.FindOp finds the operator, in memory of its own.
-/
import Derived.Test.YtcmhiindjponcaaQ4
import Derived.Test.YtcmhiindjponcaaQ5
namespace Go.Proofs.Ytcmhiindjponcaa
open Go.RowKit

theorem bel_alF {w a : World} (h : Below w.heap.size w a) (o : Obj) : Below w.heap.size w (a.alloc o) := h.alloc h.size o
theorem bel_twF {w a b : World} (h : Below w.heap.size w a) (k : Below a.heap.size a b) : Below w.heap.size w b := h.trans (k.mono h.size)
theorem lit0D (w : World) (s : ByteArray) (t : TypeId) : ((w.alloc (.cells #[.string s] t)).drew).cell? ⟨w.heap.size, 0, none⟩ = some (.string s) := by
  have r : ((w.alloc (.cells #[.string s] t)).drew).heap[w.heap.size]? = some (.cells #[.string s] t (0, 0)) := heap_new w _ rfl
  rw [cell_of_row _ _ 0 _ _ _ r]; rfl
theorem lit0E (w : World) (s : ByteArray) (t : TypeId) : ((w.drew).alloc (.cells #[.string s] t)).cell? ⟨w.heap.size, 0, none⟩ = some (.string s) := by
  have r : ((w.drew).alloc (.cells #[.string s] t)).heap[w.heap.size]? = some (.cells #[.string s] t (0, 0)) := heap_new w.drew _ rfl
  rw [cell_of_row _ _ 0 _ _ _ r]; rfl

set_option maxRecDepth 100000 in
set_option maxHeartbeats 3200000 in
theorem iFind_any (x : Value) (nm : ByteArray) (ps : List ByteArray) (ds : List OpD) (w : World) (hn : ds.length ≤ 1048576) (ha : ∀ d ∈ ds, d.args.length ≤ 1048576) (hv : SigAt w x ps ds) :
    Calls Try.prog 22 #[x, .string nm] w (FindE (findD ds nm) w) := by
  have HV := Lib.hid hv
  obtain ⟨s, t, rfl, hs, ht⟩ := hv
  obtain ⟨sa, sc, rfl⟩ := hs.slice
  obtain ⟨ta, tc, rfl⟩ := ht.slice
  clear hs ht
  obtain ⟨W, hW⟩ : ∃ W, W = (w.alloc (.cells #[.slice sa ps.length sc, .slice ta ds.length tc] 27)).alloc (.cells #[.string ⟨#[]⟩, .slice none 0 0, .string ⟨#[]⟩] 47) := ⟨_, rfl⟩
  have HF : Hid (FBoxes w (.slice sa ps.length sc) (.slice ta ds.length tc) W) := Lib.hid (by rw [hW]; exact fboxes_new _ _ _)
  have HO : Hid (Calls Try.prog 67 #[sv (.slice sa ps.length sc) (.slice ta ds.length tc), .string nm] W (OperE (findD ds nm) nm W)) := Lib.hid (by
    obtain ⟨a, b, e, h1, h2⟩ := HV.out
    exact oper_any _ nm ps ds W hn ha ⟨a, b, e, h1.below HF.out.2.2, h2.below HF.out.2.2⟩)
  have HAL : Hid (∀ d, findD ds nm = some d → d.args.length ≤ 1048576) := Lib.hid (fun d hd => by
    unfold findD at hd
    split at hd
    · cases hd; simp
    · exact ha d (List.mem_of_find?_eq_some hd))
  clear HV ha hn
  obtain ⟨m, hm⟩ : ∃ m, m = ps.length := ⟨_, rfl⟩
  obtain ⟨n, hnn⟩ : ∃ n, n = ds.length := ⟨_, rfl⟩
  rw [← hm, ← hnn] at HF hW HO ⊢
  clear hm hnn
  obtain ⟨o, ho⟩ : ∃ o, o = findD ds nm := ⟨_, rfl⟩
  rw [← ho] at HO HAL ⊢
  clear ho
  obtain ⟨c0, c1⟩ := (show W.cell? ⟨w.heap.size, 0, none⟩ = some (.slice sa m sc) ∧ W.cell? ⟨w.heap.size, 1, none⟩ = some (.slice ta n tc) from ⟨by rw [cell_of_row W _ 0 _ _ _ HF.out.1]; rfl, by rw [cell_of_row W _ 1 _ _ _ HF.out.1]; rfl⟩)
  go_enter Try.func22, Try.ntmps22
  go_wp2_with fail
  rw [← hW]
  clear hW
  refine HO.out.mono ?_
  rintro e w1 ⟨v, rfl, hv, hb1⟩
  have HF1 := Lib.hid (HF.out.below hb1)
  clear HO HF hb1 c0 c1
  have hW1 : w.heap.size + 2 ≤ w1.heap.size := (Array.getElem?_eq_some_iff.1 HF1.out.2.1).1
  rcases hv with ⟨hbt, rfl, rfl⟩ | ⟨d, a, q, c, rfl, hdn, hq, rfl, hst⟩ | ⟨rfl, rfl⟩
  · obtain ⟨W3, hW3⟩ : ∃ W3, W3 = w1.alloc (.cells #[.string nm, .int .i64 2, .string ⟨#[119, 111, 114, 100]⟩] 108) := ⟨_, rfl⟩
    have hb3 : Below w1.heap.size w1 W3 := by rw [hW3]; exact (Below.refl _ _).alloc (Nat.le_refl _) _
    have r3 : W3.heap[w1.heap.size]? = some (.cells #[.string nm, .int .i64 2, .string ⟨#[119, 111, 114, 100]⟩] 108 (0, 0)) := by rw [hW3]; exact heap_new _ _ rfl
    have hs3 : W3.heap.size = w1.heap.size + 1 := by rw [hW3]; simp
    have HF3 := Lib.hid (HF1.out.below hb3)
    obtain ⟨⟨z0, z1, z2⟩, _⟩ := cells_of3 r3
    have t1 := asBB (.agg #[.string nm, .int .i64 2, .string ⟨#[119, 111, 114, 100]⟩])
    unfold vBuilt
    go_wp2_with fail
    rw [← hW3]
    clear hW3
    have HK : Hid (∀ w', Below W3.heap.size W3 w' → w'.cell? ⟨w1.heap.size, 0, none⟩ = some (.string nm) ∧ w'.cell? ⟨w1.heap.size, 1, none⟩ = some (.int .i64 2) ∧ w'.cell? ⟨w1.heap.size, 2, none⟩ = some (.string ⟨#[119, 111, 114, 100]⟩)) := Lib.hid (fun w' hb =>
      (cells_of3 ((hb.block w1.heap.size (by omega)).trans r3)).1)
    have HKS : Hid (∀ w' v0 v1 v2, Below W3.heap.size W3 w' → (((w'.setCell ⟨w.heap.size + 1, 0, none⟩ v0).setCell ⟨w.heap.size + 1, 1, none⟩ v1).setCell ⟨w.heap.size + 1, 2, none⟩ v2).cell? ⟨w1.heap.size, 0, none⟩ = some (.string nm) ∧ (((w'.setCell ⟨w.heap.size + 1, 0, none⟩ v0).setCell ⟨w.heap.size + 1, 1, none⟩ v1).setCell ⟨w.heap.size + 1, 2, none⟩ v2).cell? ⟨w1.heap.size, 1, none⟩ = some (.int .i64 2) ∧ (((w'.setCell ⟨w.heap.size + 1, 0, none⟩ v0).setCell ⟨w.heap.size + 1, 1, none⟩ v1).setCell ⟨w.heap.size + 1, 2, none⟩ v2).cell? ⟨w1.heap.size, 2, none⟩ = some (.string ⟨#[119, 111, 114, 100]⟩)) := Lib.hid (fun w' v0 v1 v2 hb => by
      have hne : ∀ i, (⟨w.heap.size + 1, i, none⟩ : Addr).block ≠ w1.heap.size := fun i => by show w.heap.size + 1 ≠ _; omega
      obtain ⟨q0, q1, q2⟩ := HK.out w' hb
      refine ⟨?_, ?_, ?_⟩
      · rw [World.cell?_setCell_far _ _ _ _ (hne 2), World.cell?_setCell_far _ _ _ _ (hne 1), World.cell?_setCell_far _ _ _ _ (hne 0)]; exact q0
      · rw [World.cell?_setCell_far _ _ _ _ (hne 2), World.cell?_setCell_far _ _ _ _ (hne 1), World.cell?_setCell_far _ _ _ _ (hne 0)]; exact q1
      · rw [World.cell?_setCell_far _ _ _ _ (hne 2), World.cell?_setCell_far _ _ _ _ (hne 1), World.cell?_setCell_far _ _ _ _ (hne 0)]; exact q2)
    have HCB : Hid (∀ w', Below W3.heap.size W3 w' → (w'.cell? ⟨w.heap.size + 1, 0, none⟩ = some (.string ⟨#[]⟩) ∧ w'.cell? ⟨w.heap.size + 1, 1, none⟩ = some (.slice none 0 0) ∧ w'.cell? ⟨w.heap.size + 1, 2, none⟩ = some (.string ⟨#[]⟩)) ∧ (w'.frozen? ⟨w.heap.size + 1, 0, none⟩ = false ∧ w'.frozen? ⟨w.heap.size + 1, 1, none⟩ = false ∧ w'.frozen? ⟨w.heap.size + 1, 2, none⟩ = false)) := Lib.hid (fun w' hb => cells_of3 (HF3.out.below hb).2.1)
    obtain ⟨x0, x1, x2⟩ := HK.out W3 (Below.refl _ _)
    clear z0 z1 z2 r3 hb3
    have HS3 := Lib.hid hs3; clear hs3
    go_region_held3 (fun w' => w'.cell? ⟨w1.heap.size, 0, none⟩ = some (.string nm) ∧ w'.cell? ⟨w1.heap.size, 1, none⟩ = some (.int .i64 2) ∧ w'.cell? ⟨w1.heap.size, 2, none⟩ = some (.string ⟨#[119, 111, 114, 100]⟩))
      (first | exact HKS.out _ _ _ _ (by (repeat' (first | assumption | exact Below.refl _ _ | refine Below.drew ?_ | refine bel_alF ?_ _ | refine bel_twF ?_ (by assumption)))) | exact HK.out _ (by (repeat' (first | assumption | exact Below.refl _ _ | refine Below.drew ?_ | refine bel_alF ?_ _ | refine bel_twF ?_ (by assumption)))) | go_keep)
      (first
        | (go_at_call 68; refine (repeat_two W3.heap.size 1 ⟨#[119, 111, 114, 100]⟩ _ (by first | exact lit0D _ _ _ | exact lit0E _ _ _)).mono ?_; rintro e w5 ⟨u5, rfl, ho5, hb5⟩; obtain ⟨ua, uc, rfl⟩ := own_formF ho5; have hB5 : Below W3.heap.size W3 w5 := (by (repeat' (first | assumption | exact Below.refl _ _ | refine Below.drew ?_ | refine bel_alF ?_ _ | refine bel_twF ?_ (by assumption)))); obtain ⟨⟨y0, y1, y2⟩, g0, g1, g2⟩ := HCB.out w5 hB5))
    all_goals (
      have HO5 := Lib.hid ho5
      have HB5 := Lib.hid (HF3.out.2.2.trans (hB5.mono HF3.out.2.2.size))
      clear ho5 hb5 x0 x1 x2
      go_wp2
      (try simp only [Exit.inBlock, Exit.then])
      refine bodyPost_ret (v := .tuple #[ov nm (.slice ua 2 uc) ⟨#[119, 111, 114, 100]⟩, .bool true]) ?_ rfl ?_
      · refine results_op (a := 4) (b := 5) (t := 47) (ad := ⟨w.heap.size + 1, 0, none⟩) rfl rfl _ _ ?_
        go_simp
        try rfl
      · have hz3 := HS3.out
        exact FindE.fin (o := some ⟨nm, [kWord, kWord], kWord⟩) (B := w.heap.size + 2) (Nat.le_refl _) (own_low HO5.out (by simp; omega)) HB5.out _ _ _)
  · obtain ⟨W3, hW3⟩ : ∃ W3, W3 = w1.alloc (.cells #[.string nm, .int .i64 q, .string d.res, .slice a q c] 111) := ⟨_, rfl⟩
    have hb3 : Below w1.heap.size w1 W3 := by rw [hW3]; exact (Below.refl _ _).alloc (Nat.le_refl _) _
    have r3 : W3.heap[w1.heap.size]? = some (.cells #[.string nm, .int .i64 q, .string d.res, .slice a q c] 111 (0, 0)) := by rw [hW3]; exact heap_new _ _ rfl
    have hs3 : W3.heap.size = w1.heap.size + 1 := by rw [hW3]; simp
    have HF3 := Lib.hid (HF1.out.below hb3)
    have HST := Lib.hid (hst.below hb3)
    have HDN := Lib.hid hdn
    have HQ := Lib.hid hq
    have hql : q ≤ 1048576 := by rw [hq]; exact HAL.out d rfl
    clear hst hdn hq
    have t1 := asDB (.agg #[.string nm, .int .i64 q, .string d.res, .slice a q c])
    have t2 := asDD (.agg #[.string nm, .int .i64 q, .string d.res, .slice a q c])
    unfold vDecl
    go_wp2_with fail
    rw [← hW3]
    clear hW3
    have HK : Hid (∀ w', Below W3.heap.size W3 w' → w'.cell? ⟨w1.heap.size, 0, none⟩ = some (.string nm) ∧ w'.cell? ⟨w1.heap.size, 2, none⟩ = some (.string d.res) ∧ w'.cell? ⟨w1.heap.size, 3, none⟩ = some (.slice a q c)) := Lib.hid (fun w' hb => by
      have r := (hb.block w1.heap.size (by omega)).trans r3
      refine ⟨?_, ?_, ?_⟩
      · rw [cell_of_row w' _ 0 _ _ _ r]; rfl
      · rw [cell_of_row w' _ 2 _ _ _ r]; rfl
      · rw [cell_of_row w' _ 3 _ _ _ r]; rfl)
    have HKS : Hid (∀ w' v0 v1 v2, Below W3.heap.size W3 w' → (((w'.setCell ⟨w.heap.size + 1, 0, none⟩ v0).setCell ⟨w.heap.size + 1, 1, none⟩ v1).setCell ⟨w.heap.size + 1, 2, none⟩ v2).cell? ⟨w1.heap.size, 0, none⟩ = some (.string nm) ∧ (((w'.setCell ⟨w.heap.size + 1, 0, none⟩ v0).setCell ⟨w.heap.size + 1, 1, none⟩ v1).setCell ⟨w.heap.size + 1, 2, none⟩ v2).cell? ⟨w1.heap.size, 2, none⟩ = some (.string d.res) ∧ (((w'.setCell ⟨w.heap.size + 1, 0, none⟩ v0).setCell ⟨w.heap.size + 1, 1, none⟩ v1).setCell ⟨w.heap.size + 1, 2, none⟩ v2).cell? ⟨w1.heap.size, 3, none⟩ = some (.slice a q c)) := Lib.hid (fun w' v0 v1 v2 hb => by
      have hne : ∀ i, (⟨w.heap.size + 1, i, none⟩ : Addr).block ≠ w1.heap.size := fun i => by show w.heap.size + 1 ≠ _; omega
      obtain ⟨q0, q1, q2⟩ := HK.out w' hb
      refine ⟨?_, ?_, ?_⟩
      · rw [World.cell?_setCell_far _ _ _ _ (hne 2), World.cell?_setCell_far _ _ _ _ (hne 1), World.cell?_setCell_far _ _ _ _ (hne 0)]; exact q0
      · rw [World.cell?_setCell_far _ _ _ _ (hne 2), World.cell?_setCell_far _ _ _ _ (hne 1), World.cell?_setCell_far _ _ _ _ (hne 0)]; exact q1
      · rw [World.cell?_setCell_far _ _ _ _ (hne 2), World.cell?_setCell_far _ _ _ _ (hne 1), World.cell?_setCell_far _ _ _ _ (hne 0)]; exact q2)
    have HCB : Hid (∀ w', Below W3.heap.size W3 w' → (w'.cell? ⟨w.heap.size + 1, 0, none⟩ = some (.string ⟨#[]⟩) ∧ w'.cell? ⟨w.heap.size + 1, 1, none⟩ = some (.slice none 0 0) ∧ w'.cell? ⟨w.heap.size + 1, 2, none⟩ = some (.string ⟨#[]⟩)) ∧ (w'.frozen? ⟨w.heap.size + 1, 0, none⟩ = false ∧ w'.frozen? ⟨w.heap.size + 1, 1, none⟩ = false ∧ w'.frozen? ⟨w.heap.size + 1, 2, none⟩ = false)) := Lib.hid (fun w' hb => cells_of3 (HF3.out.below hb).2.1)
    have HCL : Hid (∀ w', Below W3.heap.size W3 w' → Calls Try.prog 69 #[.slice a q c] w' (CopyEnd d.args w')) := Lib.hid (fun w' hb => cloneS_any _ d.args w' (by rw [← HQ.out]; exact hql) (HST.out.below hb))
    obtain ⟨x0, x1, x2⟩ := HK.out W3 (Below.refl _ _)
    clear r3 hb3
    have HS3 := Lib.hid hs3; clear hs3
    go_region_held3 (fun w' => w'.cell? ⟨w1.heap.size, 0, none⟩ = some (.string nm) ∧ w'.cell? ⟨w1.heap.size, 2, none⟩ = some (.string d.res) ∧ w'.cell? ⟨w1.heap.size, 3, none⟩ = some (.slice a q c))
      (first | exact HKS.out _ _ _ _ (by (repeat' (first | assumption | exact Below.refl _ _ | refine Below.drew ?_ | refine bel_alF ?_ _ | refine bel_twF ?_ (by assumption)))) | exact HK.out _ (by (repeat' (first | assumption | exact Below.refl _ _ | refine Below.drew ?_ | refine bel_alF ?_ _ | refine bel_twF ?_ (by assumption)))) | go_keep)
      (first
        | (go_at_call 69; refine (HCL.out _ (by (repeat' (first | assumption | exact Below.refl _ _ | refine Below.drew ?_ | refine bel_alF ?_ _ | refine bel_twF ?_ (by assumption))))).mono ?_; rintro e w5 ⟨u5, rfl, ho5, hb5⟩; obtain ⟨ua, uc, rfl⟩ := own_formF ho5; have hB5 : Below W3.heap.size W3 w5 := (by (repeat' (first | assumption | exact Below.refl _ _ | refine Below.drew ?_ | refine bel_alF ?_ _ | refine bel_twF ?_ (by assumption)))); obtain ⟨⟨y0, y1, y2⟩, g0, g1, g2⟩ := HCB.out w5 hB5))
    all_goals (
      have HO5 := Lib.hid ho5
      have HB5 := Lib.hid (HF3.out.2.2.trans (hB5.mono HF3.out.2.2.size))
      clear ho5 hb5 x0 x1 x2
      go_wp2
      (try simp only [Exit.inBlock, Exit.then])
      refine bodyPost_ret (v := .tuple #[ov nm (.slice ua d.args.length uc) d.res, .bool true]) ?_ rfl ?_
      · refine results_op (a := 4) (b := 5) (t := 47) (ad := ⟨w.heap.size + 1, 0, none⟩) rfl rfl _ _ ?_
        go_simp
        try rfl
      · have hz3 := HS3.out
        rw [← HDN.out]
        exact FindE.fin (o := some d) (B := w.heap.size + 2) (Nat.le_refl _) (own_low HO5.out (by simp; omega)) HB5.out _ _ _)
  · obtain ⟨⟨y0, y1, y2⟩, g0, g1, g2⟩ := cells_of3 HF1.out.2.1
    have t1 := asMB (.agg #[.string ⟨#[]⟩, .int .i64 0, .string ⟨#[]⟩])
    have t2 := asMD (.agg #[.string ⟨#[]⟩, .int .i64 0, .string ⟨#[]⟩])
    unfold vMiss
    go_wp2
    (try simp only [Exit.inBlock, Exit.then])
    refine bodyPost_ret (v := .tuple #[ov ⟨#[]⟩ (.slice none 0 0) ⟨#[]⟩, .bool false]) ?_ rfl ?_
    · refine results_op (a := 4) (b := 5) (t := 47) (ad := ⟨w.heap.size + 1, 0, none⟩) rfl rfl _ _ ?_
      go_simp
      try rfl
    · exact FindE.fin (o := none) (B := w.heap.size + 2) (Nat.le_refl _) ⟨rfl, Or.inl ⟨rfl, rfl⟩⟩ HF1.out.2.2 _ _ _
end Go.Proofs.Ytcmhiindjponcaa
