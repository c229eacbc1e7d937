/-
  impl.ReplaceAt: a copy of a term in which the subterm at a position is replaced, or a copy of the term, in memory of the call's own.
-/
import Derived.Test.YtooiiomfahomjaaDescW
import Derived.Test.YtooiiomfahomjaaPosRep
namespace Go.Proofs.Ytooiiomfahomjaa
open Go.RowKit

theorem wS_set : ∀ (xs : List T) (i : Nat) (y y' : T), xs[i]? = some y → wS (xs.set i y') + wT y = wS xs + wT y'
  | [], i, y, y', h => by simp at h
  | x :: xs, 0, y, y', h => by simp at h; subst h; simp [wS]; omega
  | x :: xs, i + 1, y, y', h => by
    have ih := wS_set xs i y y' (by simpa using h)
    simp only [List.set_cons_succ, wS, List.map_cons, List.sum_cons] at *
    omega
theorem putT_w (ps : List Int) (t u y : T) (h : subT ps t = some y) : wT (putT ps t u) ≤ wT t + wT u := by
  induction ps generalizing t with
  | nil => rw [putT_nil]; omega
  | cons p ps ih =>
    rw [subT_cons] at h
    cases e : argT t p with
    | none => rw [e] at h; cases h
    | some x =>
      rw [e] at h
      obtain ⟨k, n, s, xs⟩ := t
      have hp : 0 ≤ p := by
        unfold argT at e
        split at e
        · assumption
        · cases e
      obtain ⟨j, rfl⟩ : ∃ j : Nat, p = j := ⟨p.toNat, by omega⟩
      have hx : xs[j]? = some x := by
        unfold argT at e
        rw [if_pos hp] at e
        simpa [kT] using e
      rw [putT_cons j ps k n s xs x u hx, wT_node, wT_node, List.length_set]
      have h1 := wS_set xs j x (putT ps x u) hx
      have h2 := ih x h
      omega

theorem resO_fin {w wr : World} {ok : Bool} {k n : Int} {s : ByteArray} {a : Option Addr} {m c h b : Nat} {r : T} {xs : List T} (hr : r = .node k n s xs) (hs : s.size ≤ maxLen) (ho : OwnR (fun _ => True) wr h (b + 1) wr.heap.size (.slice a m c) xs) (hb : Below w.heap.size w wr) (h0 : w.heap.size ≤ b) (v0 v1 v2 v3 : Value) :
    ResO ok r w (.returned (.tuple #[tv k n s (.slice a m c), .bool ok])) ((((wr.setCell ⟨b, 0, none⟩ v0).setCell ⟨b, 1, none⟩ v1).setCell ⟨b, 2, none⟩ v2).setCell ⟨b, 3, none⟩ v3) := by
  have st : ∀ (W : World) (j : Nat) (v : Value), OwnR (fun _ => True) W h (b + 1) wr.heap.size (.slice a m c) xs → OwnR (fun _ => True) (W.setCell ⟨b, j, none⟩ v) h (b + 1) wr.heap.size (.slice a m c) xs := fun W j v o =>
    o.keep fun d _ h1 _ => ⟨Below.heap_setCell _ _ _ _ (fun e => by simp at e; omega), trivial⟩
  refine ⟨k, n, s, a, m, c, h, xs, rfl, hr, hs, (st _ _ _ (st _ _ _ (st _ _ _ (st _ _ _ ho)))).wide (by omega) (by simp [World.setCell]), ?_⟩
  exact (((hb.setCell h0 _).setCell h0 _).setCell h0 _).setCell h0 _

/-- The store into the place. -/
theorem put_place {w w5 w6 : World} {b q b0 h h2 : Nat} {x t u : T} {ps : List Int} {k2 n2 : Int} {s2 : ByteArray} {u2 : Value} (hP : Plug w5 b q b0 0 (putT ps t)) (hn : NodeIn w w5 h b q x) (hb : Below w.heap.size w w5) (hbN : w.heap.size ≤ b) (hu : TermAt w 0 h2 (tv k2 n2 s2 u2) u)
    (hw6 : w6 = ((((w5.setCell ⟨b, q, none⟩ (.int .i64 k2)).setCell ⟨b, q + 1, none⟩ (.int .i64 n2)).setCell ⟨b, q + 2, none⟩ (.string s2)).setCell ⟨b, q + 3, none⟩ u2)) : (∃ h'', NodeAt w6 h'' b0 0 (putT ps t u)) ∧ Below w.heap.size w w6 := by
  obtain ⟨_, _, _, _, ys, e1, rfl, hs2, ha2⟩ := hu
  cases e1
  obtain ⟨k, n, s, a, m, c, xs, _, _, _, c0, c1, c2, c3, _, _⟩ := hn
  have hb6 : Below w.heap.size w w6 := by rw [hw6]; exact (((hb.setCell hbN _).setCell hbN _).setCell hbN _).setCell hbN _
  refine ⟨hP w6 h2 _ (fun ad v hne hv => ?_) ⟨k2, n2, s2, u2, ys, rfl, hs2, ?_, ?_, ?_, ?_, ha2.below hb6⟩, hb6⟩
  · rw [hw6, cell_setO (fun e => hne (by rw [← e]; exact ⟨rfl, by show q ≤ q + 3; omega, by show q + 3 < q + 4; omega⟩)), cell_setO (fun e => hne (by rw [← e]; exact ⟨rfl, by show q ≤ q + 2; omega, by show q + 2 < q + 4; omega⟩)),
      cell_setO (fun e => hne (by rw [← e]; exact ⟨rfl, by show q ≤ q + 1; omega, by show q + 1 < q + 4; omega⟩)), cell_setO (fun e => hne (by rw [← e]; exact ⟨rfl, by show q ≤ q; omega, by show q < q + 4; omega⟩))]
    exact hv
  · rw [hw6, cell_setO (by simp), cell_setO (by simp), cell_setO (by simp)]; exact World.cell?_setCell_same' _ _ _ (by rw [c0]; rfl)
  · rw [hw6, cell_setO (by simp), cell_setO (by simp)]; exact World.cell?_setCell_same' _ _ _ (by rw [cell_setO (by simp), c1]; rfl)
  · rw [hw6, cell_setO (by simp)]; exact World.cell?_setCell_same' _ _ _ (by rw [cell_setO (by simp), cell_setO (by simp), c2]; rfl)
  · rw [hw6]; exact World.cell?_setCell_same' _ _ _ (by rw [cell_setO (by simp), cell_setO (by simp), cell_setO (by simp), c3]; rfl)

set_option maxRecDepth 100000 in
set_option maxHeartbeats 3200000 in
theorem iRep_any (v p uv : Value) (t u : T) (ps : List Int) (lo lo2 h h2 : Nat) (w : World) (ht : TermAt w lo h v t) (hp : IntsAt w p ps) (hu : TermAt w lo2 h2 uv u) (hw : wT t ≤ 1048576) (hwu : wT u ≤ 1048576) (hl : ps.length ≤ 4194304) :
    Calls Try.prog 7 #[v, p, uv] w (ResO (subT ps t).isSome (repT ps t u) w) := by
  obtain ⟨k, n, s, uu, xs, rfl, rfl, hs, ha⟩ := ht
  obtain ⟨a, cap, rfl⟩ := ha.slice
  obtain ⟨k2, n2, s2, a2, m2, cap2, rfl⟩ := hu.shape
  obtain ⟨pa, pc, rfl⟩ := hp.slice
  obtain ⟨W1, hW1⟩ : ∃ W1, W1 = ((boxed (boxed w k n s (.slice a xs.length cap)) k2 n2 s2 (.slice a2 m2 cap2)).alloc (.cells #[.int .i64 0, .int .i64 0, .string ⟨#[]⟩, .slice none 0 0] 26)) := ⟨_, rfl⟩
  obtain ⟨hz1, r0, r1, r2, hb0⟩ := box_three w _ _ _ _ _ _ _ _ hW1
  obtain ⟨W2, hW2⟩ : ∃ W2, W2 = (W1.alloc (.cells #[.slice pa ps.length pc] 27)).alloc (.cells #[.func (.func 24) #[] #[]] 53) := ⟨_, rfl⟩
  have hb2 : Below W1.heap.size W1 W2 := by rw [hW2]; exact ((Below.refl _ _).alloc (Nat.le_refl _) _).alloc (by simp) _
  have hz2 : W2.heap.size = w.heap.size + 5 := by rw [hW2]; simp [hz1]
  have q0 : W2.heap[w.heap.size]? = some (trow k n s (.slice a xs.length cap)) := (hb2.block _ (by omega)).trans r0
  have q1 : W2.heap[w.heap.size + 1]? = some (trow k2 n2 s2 (.slice a2 m2 cap2)) := (hb2.block _ (by omega)).trans r1
  have q2 : W2.heap[w.heap.size + 2]? = some (trow 0 0 ByteArray.empty (.slice none 0 0)) := (hb2.block _ (by omega)).trans r2
  have hB2 : Below w.heap.size w W2 := hb0.trans (hb2.mono hb0.size)
  have g2 : W2.heap[w.heap.size + 3]? = some (.cells #[.slice pa ps.length pc] 27 (0, 0)) := by
    rw [hW2, Below.heap_alloc _ _ _ (by simp; omega)]; exact heap_new _ _ hz1.symm
  have g3 : W2.heap[w.heap.size + 4]? = some (.cells #[.func (.func 24) #[] #[]] 53 (0, 0)) := by
    rw [hW2]; exact heap_new _ _ (by simp [hz1])
  have b2 : W2.cell? ⟨w.heap.size + 3, 0, none⟩ = some (.slice pa ps.length pc) := by rw [cell_of_row W2 _ 0 _ _ _ g2]; rfl
  have b3 : W2.cell? ⟨w.heap.size + 4, 0, none⟩ = some (.func (.func 24) #[] #[]) := by rw [cell_of_row W2 _ 0 _ _ _ g3]; rfl
  have hnode : NodeIn w W2 h w.heap.size 0 (.node k n s xs) := by
    obtain ⟨⟨c0, c1, c2, c3⟩, _⟩ := cells_of4 q0
    exact ⟨k, n, s, a, _, cap, xs, rfl, hs, rfl, c0, c1, c2, c3, fun j => frozen_of_row W2 w.heap.size j _ _ q0, ha.low (Nat.zero_le _)⟩
  have HD := Lib.hid (descO_any w w.heap.size 0 h (w.heap.size + 3) (w.heap.size + 4) _ _ ps W2 hB2 hnode (Nat.le_refl _) hp (by omega) hl b2 b3 (by omega))
  have HO := Lib.hid (descOf_any pa ps.length pc (.func 24) W1)
  rw [← hW2, hz1] at HO
  obtain ⟨m, hm⟩ : ∃ m, m = ps.length := ⟨_, rfl⟩
  obtain ⟨m0, hm0⟩ : ∃ m, m = xs.length := ⟨_, rfl⟩
  obtain ⟨t, hte⟩ : ∃ t, t = T.node k n s xs := ⟨_, rfl⟩
  rw [← hte] at hw HD ⊢
  rw [← hm] at HO ⊢
  rw [← hm0] at hW1 ⊢
  have HW := Lib.hid (And.intro hw hwu)
  have HU := Lib.hid (hu.low (Nat.zero_le _))
  have HZ2 := Lib.hid hz2
  have HQ := Lib.hid (And.intro q1 q2)
  unfold boxed at hW1
  clear hW2 hb2 hb0 r0 r1 r2 q0 q1 q2 g2 g3 b2 b3 ha hp hl hw hwu hm hm0 hte hz1 hz2 hB2 hs hnode hu
  go_enter Try.func7, Try.ntmps7
  go_wp2_with fail
  rw [← hW1]
  refine HO.out.mono ?_
  rintro e w1 ⟨rfl, rfl⟩
  clear hW1
  go_wp2_with fail
  refine HD.out.mono ?_
  rintro e w5 ⟨hb5, hk5, hs5, hd⟩
  have hq1 : w5.heap[w.heap.size + 1]? = some (trow k2 n2 s2 (.slice a2 m2 cap2)) := (hk5 _ (by have := HZ2.out; omega) (by omega)).trans HQ.out.1
  have hq2 : w5.heap[w.heap.size + 2]? = some (trow 0 0 ByteArray.empty (.slice none 0 0)) := (hk5 _ (by have := HZ2.out; omega) (by omega)).trans HQ.out.2
  have HQ5 := Lib.hid hq2
  have HB5 := Lib.hid hb5
  have HS5 : Hid (w.heap.size + 5 ≤ w5.heap.size) := Lib.hid (by have := HZ2.out; omega)
  clear hk5 hs5 hb5 hq2
  rcases hd with ⟨hno, rfl, h', hnode⟩ | ⟨x, h', b, q, hyes, rfl, hnode, hplug, hbb⟩
  · have hrep : repT ps t u = t := by unfold repT; rw [hno]; rfl
    obtain ⟨k3, n3, s3, u3, xs3, et, hs3, d0, d1, d2, d3, ha3⟩ := hnode
    have HCALL := Lib.hid (copyI_any _ t 0 h' w5 ⟨k3, n3, s3, u3, xs3, rfl, et, hs3, ha3⟩ (by have := HW.out.1; omega))
    obtain ⟨a3, c3, rfl⟩ := ha3.slice
    have HN := Lib.hid (And.intro hno hrep)
    clear hno hrep ha3 hs3 et HD HO hq1
    rw [show (0 : Nat) + 1 = 1 from rfl] at d1
    rw [show (0 : Nat) + 2 = 2 from rfl] at d2
    rw [show (0 : Nat) + 3 = 3 from rfl] at d3
    go_wp2_with fail
    refine HCALL.out.mono ?_
    rintro e w6 ⟨k6, n6, s6, u6, xs6, rfl, e6, hs6, ho6, hb6⟩
    obtain ⟨a6, c6, rfl⟩ := ho6.slice
    have hq2 := (hb6.block (w.heap.size + 2) (by have := HS5.out; omega)).trans HQ5.out
    obtain ⟨⟨y0, y1, y2, y3⟩, f0, f1, f2, f3⟩ := cells_of4 hq2
    obtain ⟨m6, hm6⟩ : ∃ m, m = xs6.length := ⟨_, rfl⟩
    rw [← hm6] at ho6 ⊢
    have HF : Hid (∀ (v0 v1 v2 v3 : Value), ResO (subT ps t).isSome (repT ps t u) w (.returned (.tuple #[tv k6 n6 s6 (.slice a6 m6 c6), .bool false])) ((((w6.setCell ⟨w.heap.size + 2, 0, none⟩ v0).setCell ⟨w.heap.size + 2, 1, none⟩ v1).setCell ⟨w.heap.size + 2, 2, none⟩ v2).setCell ⟨w.heap.size + 2, 3, none⟩ v3)) :=
      Lib.hid (fun v0 v1 v2 v3 => by rw [HN.out.2, HN.out.1]; exact resO_fin e6 hs6 (ho6.wide (by have := HS5.out; omega) (Nat.le_refl _)) (HB5.out.trans (hb6.mono HB5.out.size)) (by omega) _ _ _ _)
    clear d0 d1 d2 d3 hs6 ho6 hb6 e6 hm6 hq2
    go_wp2
    (try simp only [Exit.inBlock, Exit.then])
    refine bodyPost_ret (v := .tuple #[tv k6 n6 s6 (.slice a6 m6 c6), .bool false]) ?_ rfl ?_
    · refine results_ct (a := 6) (b := 7) (t := 26) (ad := ⟨w.heap.size + 2, 0, none⟩) rfl rfl _ _ ?_
      go_simp
    · exact HF.out _ _ _ _
  · have hrep : repT ps t u = putT ps t u := by unfold repT; rw [hyes]; rfl
    have hbN : w.heap.size ≤ b := by have := HZ2.out; rcases hbb with e | e <;> omega
    obtain ⟨w6, hw6⟩ : ∃ w6, w6 = ((((w5.setCell ⟨b, q, none⟩ (.int .i64 k2)).setCell ⟨b, q + 1, none⟩ (.int .i64 n2)).setCell ⟨b, q + 2, none⟩ (.string s2)).setCell ⟨b, q + 3, none⟩ (.slice a2 m2 cap2)) := ⟨_, rfl⟩
    obtain ⟨⟨h6, hnode6⟩, hb6⟩ := put_place hplug hnode HB5.out hbN HU.out hw6
    obtain ⟨k3, n3, s3, u3, xs3, et, hs3, d0, d1, d2, d3, ha3⟩ := hnode6
    have HCALL := Lib.hid (copyI_any _ _ 0 h6 w6 ⟨k3, n3, s3, u3, xs3, rfl, et, hs3, ha3⟩ (by have := putT_w ps t u x hyes; have := HW.out; omega))
    obtain ⟨a3, c3, rfl⟩ := ha3.slice
    have HN := Lib.hid (And.intro hyes hrep)
    have HB6 := Lib.hid hb6
    have hz6 : w6.heap.size = w5.heap.size := by rw [hw6]; simp [World.setCell]
    have HS6 : Hid (w.heap.size + 5 ≤ w6.heap.size) := Lib.hid (by have := HS5.out; omega)
    have HQ6 : Hid (w6.heap[w.heap.size + 2]? = some (trow 0 0 ByteArray.empty (.slice none 0 0))) := Lib.hid (by
      have hne : b ≠ w.heap.size + 2 := by have := HZ2.out; rcases hbb with e | e <;> omega
      have e : ∀ (Z : World) (q : Nat) (v : Value), (Z.setCell ⟨b, q, none⟩ v).heap[w.heap.size + 2]? = Z.heap[w.heap.size + 2]? := fun Z q v => Below.heap_setCell _ _ _ _ (by simp; omega)
      rw [hw6, e, e, e, e]; exact HQ5.out)
    obtain ⟨kx, nx, sx, ax, mx, cx, zs, _, _, _, o0, o1, o2, o3, hfz, _⟩ := hnode
    have f0 := hfz q
    have f1 := hfz (q + 1)
    have f2 := hfz (q + 2)
    have f3 := hfz (q + 3)
    obtain ⟨⟨B0, B1, B2, B3⟩, _⟩ := cells_of4 hq1
    rw [show (0 : Nat) + 1 = 1 from rfl] at d1
    rw [show (0 : Nat) + 2 = 2 from rfl] at d2
    rw [show (0 : Nat) + 3 = 3 from rfl] at d3
    have HDD := Lib.hid (And.intro d0 (And.intro d1 (And.intro d2 d3)))
    clear hyes hrep ha3 hs3 et HD HO hq1 hplug hfz hbb hb6 hz6 d0 d1 d2 d3
    obtain ⟨d0, d1, d2, d3⟩ := HDD.out
    rw [hw6] at d0 d1 d2 d3
    go_wp2_with fail
    rw [← hw6]
    rw [← hw6] at d0 d1 d2 d3
    clear hw6
    refine HCALL.out.mono ?_
    rintro e w7 ⟨k7, n7, s7, u7, xs7, rfl, e7, hs7, ho7, hb7⟩
    obtain ⟨a7, c7, rfl⟩ := ho7.slice
    have hq2 := (hb7.block (w.heap.size + 2) (by have := HS6.out; omega)).trans HQ6.out
    obtain ⟨⟨y0, y1, y2, y3⟩, g0, g1, g2, g3⟩ := cells_of4 hq2
    obtain ⟨m7, hm7⟩ : ∃ m, m = xs7.length := ⟨_, rfl⟩
    rw [← hm7] at ho7 ⊢
    have HF : Hid (∀ (v0 v1 v2 v3 : Value), ResO (subT ps t).isSome (repT ps t u) w (.returned (.tuple #[tv k7 n7 s7 (.slice a7 m7 c7), .bool true])) ((((w7.setCell ⟨w.heap.size + 2, 0, none⟩ v0).setCell ⟨w.heap.size + 2, 1, none⟩ v1).setCell ⟨w.heap.size + 2, 2, none⟩ v2).setCell ⟨w.heap.size + 2, 3, none⟩ v3)) :=
      Lib.hid (fun v0 v1 v2 v3 => by rw [HN.out.2, HN.out.1]; exact resO_fin e7 hs7 (ho7.wide (by have := HS6.out; omega) (Nat.le_refl _)) (HB6.out.trans (hb7.mono HB6.out.size)) (by omega) _ _ _ _)
    clear d0 d1 d2 d3 hs7 ho7 hb7 e7 hm7 hq2 f0 f1 f2 f3 o0 o1 o2 o3 B0 B1 B2 B3
    go_wp2
    (try simp only [Exit.inBlock, Exit.then])
    refine bodyPost_ret (v := .tuple #[tv k7 n7 s7 (.slice a7 m7 c7), .bool true]) ?_ rfl ?_
    · refine results_ct (a := 6) (b := 7) (t := 26) (ad := ⟨w.heap.size + 2, 0, none⟩) rfl rfl _ _ ?_
      go_simp
    · exact HF.out _ _ _ _
end Go.Proofs.Ytooiiomfahomjaa
