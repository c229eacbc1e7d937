/-
  impl.TermAt: a copy of the subterm at a position in memory of the call's own, or the zero term.
-/
import Derived.Test.YtooiiomfahomjaaDescA
namespace Go.Proofs.Ytooiiomfahomjaa
open Go.RowKit

set_option maxRecDepth 100000 in
theorem descOf_any (a : Option Addr) (m c : Nat) (fn : Fn) (w : World) : Calls Try.prog 23 #[.slice a m c, .func fn #[] #[]] w (fun e w' =>
    e = .returned (.func (.func 47) #[] #[.pointer (some ⟨w.heap.size, 0, none⟩), .pointer (some ⟨w.heap.size + 1, 0, none⟩)]) ∧ w' = (w.alloc (.cells #[.slice a m c] 27)).alloc (.cells #[.func fn #[] #[]] 53)) := by
  have hmf : ∀ (fn : Fn) (first cap : Array Value) (w : World), (Instr.makeFunc fn first cap).run Try.prog w = .ok (.func fn first cap) w := fun _ _ _ _ => rfl
  go_enter Try.func23, Try.ntmps23
  go_wp2
  go_ret
  exact ⟨rfl, rfl⟩

/-- A copy of the subterm at a position, its rows the call's own, or the zero term. -/
def SubO (o : Option T) (w : World) (e : Ending) (w' : World) : Prop :=
  ∃ k n s a m c h xs, e = .returned (.tuple #[tv k n s (.slice a m c), .bool o.isSome]) ∧ o.getD zT = .node k n s xs ∧ s.size ≤ maxLen ∧ OwnR (fun _ => True) w' h w.heap.size w'.heap.size (.slice a m c) xs ∧ Below w.heap.size w w'

theorem subO_fin {w wr : World} {o : Option T} {k n : Int} {s : ByteArray} {a : Option Addr} {m c h : Nat} {xs : List T} (ht : o.getD zT = .node k n s xs) (hs : s.size ≤ maxLen) (ho : OwnR (fun _ => True) wr h (w.heap.size + 2) wr.heap.size (.slice a m c) xs) (hb : Below w.heap.size w wr) (v0 v1 v2 v3 : Value) :
    SubO o w (.returned (.tuple #[tv k n s (.slice a m c), .bool o.isSome])) ((((wr.setCell ⟨w.heap.size + 1, 0, none⟩ v0).setCell ⟨w.heap.size + 1, 1, none⟩ v1).setCell ⟨w.heap.size + 1, 2, none⟩ v2).setCell ⟨w.heap.size + 1, 3, none⟩ v3) := by
  have h := copy_fin hs ho hb v0 v1 v2 v3 (k := k) (n := n)
  obtain ⟨k', n', s', u', xs', e1, e2, hs', ho', hb'⟩ := h
  cases e2
  simp only [Ending.returned.injEq, Value.agg.injEq] at e1
  have e3 : u' = .slice a m c := by simpa using e1.symm
  subst e3
  exact ⟨k, n, s, a, m, c, h, xs, rfl, ht, hs, ho', hb'⟩

theorem node_of_row {w : World} {b h : Nat} {k n : Int} {s : ByteArray} {u : Value} {xs : List T} (hr : w.heap[b]? = some (trow k n s u)) (hs : s.size ≤ maxLen) (ha : ArgsAt w 0 h u xs) : NodeAt w h b 0 (.node k n s xs) := by
  obtain ⟨⟨c0, c1, c2, c3⟩, _⟩ := cells_of4 hr
  exact ⟨k, n, s, u, xs, rfl, hs, c0, c1, c2, c3, ha⟩

set_option maxRecDepth 100000 in
set_option maxHeartbeats 1600000 in
theorem iAt_any (v p : Value) (t : T) (ps : List Int) (lo h : Nat) (w : World) (ht : TermAt w lo h v t) (hp : IntsAt w p ps) (hw : wT t ≤ 4194303) (hl : ps.length ≤ 4194304) :
    Calls Try.prog 10 #[v, p] w (SubO (subT ps t) w) := by
  obtain ⟨k, n, s, u, xs, rfl, rfl, hs, ha⟩ := ht
  obtain ⟨a, cap, rfl⟩ := ha.slice
  obtain ⟨pa, pc, rfl⟩ := hp.slice
  obtain ⟨r0, r1, hb0⟩ := box_two w k n s (.slice a xs.length cap)
  obtain ⟨W1, hW1⟩ : ∃ W1, W1 = (boxed w k n s (.slice a xs.length cap)).alloc (.cells #[.int .i64 0, .int .i64 0, .string ⟨#[]⟩, .slice none 0 0] 26) := ⟨_, rfl⟩
  rw [← hW1] at r0 r1 hb0
  have hz1 : W1.heap.size = w.heap.size + 2 := by rw [hW1]; simp
  obtain ⟨W2, hW2⟩ : ∃ W2, W2 = (W1.alloc (.cells #[.slice pa ps.length pc] 27)).alloc (.cells #[.func (.func 29) #[] #[]] 53) := ⟨_, rfl⟩
  have hb2 : Below W1.heap.size W1 W2 := by rw [hW2]; exact ((Below.refl _ _).alloc (Nat.le_refl _) _).alloc (by simp) _
  have hz2 : W2.heap.size = w.heap.size + 4 := by rw [hW2]; simp [hz1]
  have q0 : W2.heap[w.heap.size]? = some (trow k n s (.slice a xs.length cap)) := (hb2.block _ (by omega)).trans r0
  have q1 : W2.heap[w.heap.size + 1]? = some (trow 0 0 ByteArray.empty (.slice none 0 0)) := (hb2.block _ (by omega)).trans r1
  have hB2 : Below w.heap.size w W2 := hb0.trans (hb2.mono hb0.size)
  have g2 : W2.heap[w.heap.size + 2]? = some (.cells #[.slice pa ps.length pc] 27 (0, 0)) := by
    rw [hW2, Below.heap_alloc _ _ _ (by simp; omega)]; exact heap_new _ _ hz1.symm
  have g3 : W2.heap[w.heap.size + 3]? = some (.cells #[.func (.func 29) #[] #[]] 53 (0, 0)) := by
    rw [hW2]; exact heap_new _ _ (by simp [hz1])
  have b2 : W2.cell? ⟨w.heap.size + 2, 0, none⟩ = some (.slice pa ps.length pc) := by rw [cell_of_row W2 _ 0 _ _ _ g2]; rfl
  have b3 : W2.cell? ⟨w.heap.size + 3, 0, none⟩ = some (.func (.func 29) #[] #[]) := by rw [cell_of_row W2 _ 0 _ _ _ g3]; rfl
  have HD := Lib.hid (descA_any w.heap.size 0 h (w.heap.size + 2) (w.heap.size + 3) _ _ ps W2 (node_of_row q0 hs ((ha.low (Nat.zero_le _)).below hB2)) (hp.below hB2) hw hl b2 b3)
  have HO := Lib.hid (descOf_any pa ps.length pc (.func 29) W1)
  rw [← hW2, hz1] at HO
  obtain ⟨m, hm⟩ : ∃ m, m = ps.length := ⟨_, rfl⟩
  obtain ⟨m0, hm0⟩ : ∃ m, m = xs.length := ⟨_, rfl⟩
  obtain ⟨t, hte⟩ : ∃ t, t = T.node k n s xs := ⟨_, rfl⟩
  rw [← hte] at hw HD ⊢
  rw [← hm] at HO ⊢
  rw [← hm0] at hW1 ⊢
  have HW := Lib.hid hw
  have HB2 := Lib.hid hB2
  have HZ2 := Lib.hid hz2
  have HQ1 := Lib.hid q1
  unfold boxed at hW1
  clear hW2 hb2 hb0 r0 r1 q0 g2 g3 b2 b3 ha hp hl hw hm hm0 hte hz1 hz2 hB2 q1 hs
  go_enter Try.func10, Try.ntmps10
  go_wp2_with fail
  rw [← hW1]
  refine HO.out.mono ?_
  rintro e w1 ⟨rfl, rfl⟩
  clear hW1
  go_wp2_with fail
  refine HD.out.mono ?_
  rintro e w1 ⟨rfl, hd⟩
  rcases hd with ⟨hno, rfl⟩ | ⟨x, h', b, q, hyes, rfl, hnode⟩
  · have HF : Hid (∀ (v0 v1 v2 v3 : Value), SubO (subT ps t) w (.returned (.tuple #[tv 0 0 ByteArray.empty (.slice none 0 0), .bool false])) ((((w1.setCell ⟨w.heap.size + 1, 0, none⟩ v0).setCell ⟨w.heap.size + 1, 1, none⟩ v1).setCell ⟨w.heap.size + 1, 2, none⟩ v2).setCell ⟨w.heap.size + 1, 3, none⟩ v3)) :=
      Lib.hid (fun v0 v1 v2 v3 => by rw [hno]; exact subO_fin (o := none) (h := 0) rfl (by simp) (OwnR.nil _ _ _ _ _ _ _) HB2.out _ _ _ _)
    obtain ⟨⟨y0, y1, y2, y3⟩, f0, f1, f2, f3⟩ := cells_of4 HQ1.out
    clear hno HD HO
    go_wp2
    (try simp only [Exit.inBlock, Exit.then])
    refine bodyPost_ret (v := .tuple #[tv 0 0 ByteArray.empty (.slice none 0 0), .bool false]) ?_ rfl ?_
    · refine results_ct (a := 4) (b := 5) (t := 26) (ad := ⟨w.heap.size + 1, 0, none⟩) rfl rfl _ _ ?_
      go_simp
      try rfl
    · exact HF.out _ _ _ _
  · obtain ⟨k2, n2, s2, u2, xs2, rfl, hs2, d0, d1, d2, d3, ha2⟩ := hnode
    have HCALL := Lib.hid (copyI_any _ _ 0 h' w1 ⟨k2, n2, s2, u2, xs2, rfl, rfl, hs2, ha2⟩ (Nat.le_trans (subT_w _ _ _ hyes) HW.out))
    obtain ⟨a2, c2, rfl⟩ := ha2.slice
    have HY := Lib.hid hyes; clear hyes ha2 hs2 HD HO
    go_wp2_with fail
    refine HCALL.out.mono ?_
    rintro e w5 ⟨k5, n5, s5, u5, xs5, rfl, e5, hs5, ho5, hb5⟩
    cases e5
    obtain ⟨a5, c5, rfl⟩ := ho5.slice
    have q1 : w5.heap[w.heap.size + 1]? = some (trow 0 0 ByteArray.empty (.slice none 0 0)) := (hb5.block _ (by have := HZ2.out; omega)).trans HQ1.out
    obtain ⟨⟨y0, y1, y2, y3⟩, f0, f1, f2, f3⟩ := cells_of4 q1
    obtain ⟨m5, hm5⟩ : ∃ m, m = xs2.length := ⟨_, rfl⟩
    rw [← hm5] at ho5 ⊢
    have HF : Hid (∀ (v0 v1 v2 v3 : Value), SubO (subT ps t) w (.returned (.tuple #[tv k2 n2 s2 (.slice a5 m5 c5), .bool true])) ((((w5.setCell ⟨w.heap.size + 1, 0, none⟩ v0).setCell ⟨w.heap.size + 1, 1, none⟩ v1).setCell ⟨w.heap.size + 1, 2, none⟩ v2).setCell ⟨w.heap.size + 1, 3, none⟩ v3)) :=
      Lib.hid (fun v0 v1 v2 v3 => by rw [HY.out]; exact subO_fin (o := some (.node k2 n2 s2 xs2)) rfl hs5 (ho5.wide (by have := HZ2.out; omega) (Nat.le_refl _)) (HB2.out.trans (hb5.mono HB2.out.size)) _ _ _ _)
    clear d0 d1 d2 d3 hs5 ho5 hb5 q1 hm5
    go_wp2
    (try simp only [Exit.inBlock, Exit.then])
    refine bodyPost_ret (v := .tuple #[tv k2 n2 s2 (.slice a5 m5 c5), .bool true]) ?_ rfl ?_
    · refine results_ct (a := 4) (b := 5) (t := 26) (ad := ⟨w.heap.size + 1, 0, none⟩) rfl rfl _ _ ?_
      go_simp
    · exact HF.out _ _ _ _
end Go.Proofs.Ytooiiomfahomjaa
