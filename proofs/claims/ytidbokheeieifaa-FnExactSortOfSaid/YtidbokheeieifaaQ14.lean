/-
  slices.Backward over a slice of {Name, Sort}: the contract of its iterator.
-/
import Derived.Test.YtidbokheeieifaaQ13
import Derived.Test.YtidbokheeieifaaQ4
namespace Go.Proofs.Ytidbokheeieifaa
open Go.RowKit Go.Shelf

attribute [local go_sem] Oper.semAt_some

/-- The nodes from the last to the first, with their indices. -/
def backFV (ds : List (ByteArray × ByteArray)) (j : Nat) : Nat × (ByteArray × ByteArray) := (ds.length - 1 - j, (ds[ds.length - 1 - j]?).getD (ByteArray.empty, ByteArray.empty))
theorem back_nextV (ds : List (ByteArray × ByteArray)) (p : Nat) (d : ByteArray × ByteArray) (h : ds[p]? = some d) : upto (backFV ds) (ds.length - p) = upto (backFV ds) (ds.length - (p + 1)) ++ [(p, d)] := by
  have hp := (List.getElem?_eq_some_iff.1 h).1
  have e1 : ds.length - p = ds.length - (p + 1) + 1 := by omega
  have e2 : backFV ds (ds.length - (p + 1)) = (p, d) := by
    have e3 : ds.length - 1 - (ds.length - (p + 1)) = p := by omega
    unfold backFV
    rw [e3, h]; rfl
  rw [e1, upto_succ, e2]
theorem back_allV (ds : List (ByteArray × ByteArray)) : (upto (backFV ds) ds.length).map Prod.snd = ds.reverse := by
  apply List.ext_getElem
  · simp [upto]
  · intro i h1 h2
    have hi : i < ds.length := by simpa [upto] using h1
    have h3 : ds.length - 1 - i < ds.length := by omega
    simp [upto, backFV, List.getElem_reverse, h3]

/-- The nodes of a row lie in the cells from o on. -/
def NdsAtV (w : World) (b o : Nat) (ds : List (ByteArray × ByteArray)) : Prop := ∀ j d, ds[j]? = some d → w.cell? ⟨b, o + j * 2, none⟩ = some (.string d.1) ∧ w.cell? ⟨b, o + j * 2 + 1, none⟩ = some (.string d.2)
theorem NdsAtV.below {n₀ : Nat} {A B : World} (h : Below n₀ A B) {b o : Nat} {ds : List (ByteArray × ByteArray)} (hb : b < n₀) (k : NdsAtV A b o ds) : NdsAtV B b o ds := fun j d hj => by
  obtain ⟨c0, c1⟩ := k j d hj
  exact ⟨(h.cell (p := ⟨b, o + j * 2, none⟩) hb).trans c0, (h.cell (p := ⟨b, o + j * 2 + 1, none⟩) hb).trans c1⟩

/-- What a round must keep: what lay below n₀, and the box that the iterator reads. -/
def KpBV (Bs n₀ : Nat) (A B : World) : Prop := Below n₀ A B ∧ ∀ v, Boxed A Bs 52 v → Boxed B Bs 52 v
theorem KpBV.refl (Bs n₀ : Nat) (A : World) : KpBV Bs n₀ A A := ⟨Below.refl _ _, fun _ h => h⟩
theorem KpBV.trans {Bs n₀ : Nat} {A B C : World} (h : KpBV Bs n₀ A B) (k : KpBV Bs n₀ B C) : KpBV Bs n₀ A C := ⟨h.1.trans k.1, fun v q => k.2 v (h.2 v q)⟩

set_option maxRecDepth 100000 in
set_option maxHeartbeats 2000000 in
theorem back1_inV (F : Fence) (n : Nat) (hF : F.fn 119) (hro : F.round = none) (hn : 1 ≤ n) (l Bs n₀ b o cap : Nat) (ds : List (ByteArray × ByteArray)) (hlen : ds.length ≤ 4294967296) (hb : b < n₀) (J Jx : List (Nat × (ByteArray × ByteArray)) → World → Prop)
    (hY : ∀ pre x W, ds[x.1]? = some x.2 → J pre W → pre.length < ds.length → YieldAt F (n - 1) Try.prog l #[.int .i64 (x.1 : Int), .agg #[.string x.2.1, .string x.2.2]] W fun e W' =>
      (e = .returned (.bool true) ∧ J (pre ++ [x]) W' ∧ KpBV Bs n₀ W W') ∨ (e = .returned (.bool false) ∧ Jx (pre ++ [x]) W'))
    (W : World) (hBs : Boxed W Bs 52 (.slice (some ⟨b, o, none⟩) ds.length cap)) (hc : NdsAtV W b o ds) (h0 : J [] W) :
    CallsIn F n Try.prog 119 #[.func (.yield l) #[] #[], .pointer (some ⟨Bs, 0, none⟩)] W fun e W' => (∃ v, e = .returned v) ∧
      ((∃ ys, ys = upto (backFV ds) ds.length ∧ J ys W') ∨ (∃ pre, (∃ k, k ≤ ds.length ∧ pre = upto (backFV ds) k) ∧ Jx pre W')) := by
  refine callsIn_of_wp Try.func119 rfl hF ?_ hro
  simp only [Try.ntmps119, List.size_toArray, List.length_cons, List.length_nil, Nat.reduceAdd, Nat.reduceSub, Array.replicate_succ, Array.replicate_zero, List.push_toArray, List.append_toArray, List.nil_append, List.cons_append]
  have hbc := hBs.cell
  gi_wp2
  gi_loopw [3] (fun i wr => ∃ q : Nat, q ≤ ds.length ∧ i = .int .i64 ((q : Int) - 1) ∧ J (upto (backFV ds) (ds.length - q)) wr ∧ KpBV Bs n₀ W wr)
    (fun i _ => (intOf i + 1).toNat)
  case atStart => exact ⟨ds.length, Nat.le_refl _, rfl, by rw [Nat.sub_self]; exact h0, KpBV.refl _ _ _⟩
  case round =>
    obtain ⟨q, hq, rfl, hJs, hnx⟩ := hrel
    cases q with
    | succ p =>
      obtain ⟨d, hd⟩ : ∃ d, ds[p]? = some d := ⟨_, List.getElem?_eq_getElem (by omega)⟩
      obtain ⟨d0, d1⟩ := (hc.below hnx.1 hb) p d hd
      have hbx := (hnx.2 _ hBs).cell
      obtain ⟨fn, tmps, assign, body, hy, hR⟩ := hY _ (p, d) wr hd hJs (by rw [upto_length]; omega)
      dsimp only at hy
      have e1 : (((p + 1 : Nat) : Int) - 1) = (p : Int) := by omega
      rw [e1]
      have hpl : p < ds.length := by omega
      have hnext := back_nextV ds p d hd
      have HNX := Lib.hid hnext; clear hnext
      have HD := Lib.hid hd; clear hd
      gi_wp2
      refine hR.mono ?_
      rintro e W3 (⟨rfl, hJ3, hk3⟩ | ⟨rfl, hJx3⟩)
      · gi_wp2
        go_roundw
        case rel => exact ⟨p, by omega, rfl, by rw [HNX.out]; exact hJ3, hnx.trans hk3⟩
        case measure => simp [intOf]
      · gi_wp2
        refine bodyPost_ret (results_none rfl _ _ _) rfl ?_
        exact ⟨⟨_, rfl⟩, .inr ⟨_, ⟨ds.length - p, by omega, HNX.out.symm⟩, hJx3⟩⟩
    | zero =>
      gi_wp2
      go_end0
      exact ⟨⟨_, rfl⟩, .inl ⟨_, by simp, hJs⟩⟩

set_option maxRecDepth 100000 in
set_option maxHeartbeats 1000000 in
/-- .. over no term: no round. -/
theorem back0_inV (F : Fence) (n : Nat) (hF : F.fn 119) (hro : F.round = none) (l Bs : Nat) (a : Option Addr) (cap : Nat) (J : List (Nat × (ByteArray × ByteArray)) → World → Prop) (W : World) (hBs : Boxed W Bs 52 (.slice a 0 cap)) (h0 : J [] W) :
    CallsIn F n Try.prog 119 #[.func (.yield l) #[] #[], .pointer (some ⟨Bs, 0, none⟩)] W fun e W' => (∃ v, e = .returned v) ∧ J [] W' := by
  refine callsIn_of_wp Try.func119 rfl hF ?_ hro
  simp only [Try.ntmps119, List.size_toArray, List.length_cons, List.length_nil, Nat.reduceAdd, Nat.reduceSub, Array.replicate_succ, Array.replicate_zero, List.push_toArray, List.append_toArray, List.nil_append, List.cons_append]
  have hbc := hBs.cell
  gi_wp2
  gi_loopw [3] (fun i wr => i = .int .i64 (-1) ∧ J [] wr) (fun _ _ => 0)
  case atStart => exact ⟨rfl, h0⟩
  case round =>
    obtain ⟨rfl, hJs⟩ := hrel
    gi_wp2
    go_end0
    exact ⟨⟨_, rfl⟩, hJs⟩

set_option maxHeartbeats 1000000 in
/-- slices.Backward(s): the slice value is boxed; the function value captures the box. -/
theorem backward_inV (F : Fence) (n : Nat) (hF : F.fn 78) (hro : F.round = none) (a : Option Addr) (len cap : Nat) (w : World) :
    CallsIn F n Try.prog 78 #[.slice a len cap] w fun e w' =>
      e = .returned (.func (.func 119) #[] #[.pointer (some ⟨w.heap.size, 0, none⟩)]) ∧ w' = w.alloc (.cells #[.slice a len cap] 52) := by
  refine callsIn_of_wp Try.func78 rfl hF ?_ hro
  simp only [Try.ntmps78, List.size_toArray, List.length_cons, List.length_nil, Nat.reduceAdd, Nat.reduceSub, Array.replicate_succ, Array.replicate_zero, List.push_toArray, List.append_toArray, List.nil_append, List.cons_append]
  gi_wp2
  go_ret
  exact ⟨rfl, rfl⟩

/-- A slice value holds the nodes ds, in a block below n₀; or there are none. -/
def NdsInV (n₀ : Nat) (W : World) (v : Value) (ds : List (ByteArray × ByteArray)) : Prop := (∃ a cap, v = .slice a 0 cap ∧ ds = []) ∨ ∃ b o cap, v = .slice (some ⟨b, o, none⟩) ds.length cap ∧ b < n₀ ∧ NdsAtV W b o ds

/-- An index and its pair. -/
abbrev VsI (ds : List (ByteArray × ByteArray)) := { x : Nat × (ByteArray × ByteArray) // ds[x.1]? = some x.2 }
/-- The iterator hands out all pairs, from the last to the first, each with its index. -/
theorem back_stopsV (F : Fence) (n : Nat) (hF : F.fn 119) (hro : F.round = none) (hn : 1 ≤ n) (Bs n₀ : Nat) (sv : Value) (ds : List (ByteArray × ByteArray)) (hlen : ds.length ≤ 4294967296) (w : World) (hn₀ : n₀ ≤ w.heap.size)
    (hBs : Boxed w Bs 52 sv) (hI : NdsInV n₀ w sv ds) :
    SeqStopsK F n Try.prog 119 #[.pointer (some ⟨Bs, 0, none⟩)] (fun x : VsI ds => #[Value.int .i64 (x.1.1 : Int), .agg #[.string x.1.2.1, .string x.1.2.2]]) (KpBV Bs n₀)
      (fun ys => ys.map Subtype.val = upto (backFV ds) ds.length) (fun pre => ∃ k, k ≤ ds.length ∧ pre.map Subtype.val = upto (backFV ds) k) ds.length w := fun l J Jx W hW _ _ hY h0 => by
  have hB' : Boxed W Bs 52 sv := (hW.block Bs hBs.lt).trans hBs
  rcases hI with ⟨a, cap, rfl, rfl⟩ | ⟨b, o, cap, rfl, hb, hcs⟩
  · exact (back0_inV F n hF hro l Bs a cap (fun pre W => ∃ pre' : List (VsI []), pre'.map Subtype.val = pre ∧ J pre' W) W hB' ⟨[], rfl, h0⟩).mono fun e W' ⟨he, pre', h1, h2⟩ => ⟨he, .inl ⟨pre', h1, h2⟩⟩
  · refine (back1_inV F n hF hro hn l Bs n₀ b o cap ds hlen hb (fun pre W => ∃ pre' : List (VsI ds), pre'.map Subtype.val = pre ∧ J pre' W) (fun pre W => ∃ pre' : List (VsI ds), pre'.map Subtype.val = pre ∧ Jx pre' W) (fun pre x W hx hj hl => ?_) W hB' (hcs.below (hW.mono hn₀) hb) ⟨[], rfl, h0⟩).mono fun e W' ⟨he, hj⟩ => ⟨he, ?_⟩
    · obtain ⟨pre', rfl, hj⟩ := hj
      obtain ⟨fn, tmps, assign, body, hy, hR⟩ := hY pre' ⟨x, hx⟩ W hj (by simpa using hl)
      refine ⟨fn, tmps, assign, body, hy, hR.mono fun e W' h => ?_⟩
      rcases h with ⟨h1, h2, h3⟩ | ⟨h1, h2⟩
      · exact Or.inl ⟨h1, ⟨pre' ++ [⟨x, hx⟩], by simp, h2⟩, h3⟩
      · exact Or.inr ⟨h1, ⟨pre' ++ [⟨x, hx⟩], by simp, h2⟩⟩
    · rcases hj with ⟨ys, rfl, ys', h1, h2⟩ | ⟨pre, ⟨k, hk, rfl⟩, pre', h1, h2⟩
      · exact .inl ⟨ys', h1, h2⟩
      · exact .inr ⟨pre', ⟨k, hk, h1⟩, h2⟩
theorem kpB_bV {Bs n₀ : Nat} {w : World} (hn : n₀ ≤ w.heap.size) (hs : Bs < w.heap.size) (W : World) (l : Nat) (o o' : Obj) (hl : w.heap.size ≤ l) (h : W.heap[l]? = some o) (h1 : o.isCells = false) (h2 : o.isWalk = false) : KpBV Bs n₀ W (W.putObj l o') :=
  ⟨belowK_b hn W l o o' hl h h1 h2, fun v hv => hv.kept (grownBy_putObj' W l o') (fun e => by cases e; omega)⟩
theorem NdsInV.below {n₀ : Nat} {A B : World} {v : Value} {ds : List (ByteArray × ByteArray)} (k : NdsInV n₀ A v ds) (h : Below n₀ A B) : NdsInV n₀ B v ds := by
  rcases k with h0 | ⟨b, o, cap, rfl, hb, hc⟩
  · exact Or.inl h0
  · exact Or.inr ⟨b, o, cap, rfl, hb, hc.below h hb⟩
end Go.Proofs.Ytidbokheeieifaa
