/-
  spec.EqualTerm tells whether two terms are one tree.
  slices.Backward over a slice of terms: the contract of its iterator.
-/
import Derived.Test.YtidbokheeieifaaGreatDoorQ5
import Derived.Test.YtidbokheeieifaaGreatDoorQ15
import Derived.Deep.RegionHeld3
import Derived.RangeFuncNested
import Derived.RangeFuncBound
import Derived.RangeFuncCalls
import Derived.RangeFuncLeaves
import Derived.RangeFuncBox
import Derived.Shelf.Abstract
import Derived.Shelf.RegionOpen
import Derived.WalkKit
import Derived.OwnWalkIn
import Derived.TacticsInMore
import Derived.LoopNIn
import Derived.LoopIn
import Derived.Maps.AppendAt
namespace Go.Proofs.YtidbokheeieifaaGreatDoor
open Go.RowKit

/-- The cells of two structs and of the last fields of two boxes, and that what was there is there. -/
def Cells10 (wr : World) (p : Nat) (r r' : Value) (b o b' o' : Nat) (k n : Int) (s : ByteArray) (u : Value) (k' n' : Int) (s' : ByteArray) (u' : Value) (w' : World) : Prop :=
  w'.cell? ⟨p, 3, none⟩ = some r ∧ w'.cell? ⟨p + 1, 3, none⟩ = some r' ∧
  w'.cell? ⟨b, o, none⟩ = some (.int .i64 k) ∧ w'.cell? ⟨b, o + 1, none⟩ = some (.int .i64 n) ∧ w'.cell? ⟨b, o + 2, none⟩ = some (.string s) ∧ w'.cell? ⟨b, o + 3, none⟩ = some u ∧
  w'.cell? ⟨b', o', none⟩ = some (.int .i64 k') ∧ w'.cell? ⟨b', o' + 1, none⟩ = some (.int .i64 n') ∧ w'.cell? ⟨b', o' + 2, none⟩ = some (.string s') ∧ w'.cell? ⟨b', o' + 3, none⟩ = some u' ∧ Below wr.heap.size wr w'

theorem Cells10.on {wr w' : World} {p : Nat} {r r' : Value} {b o b' o' : Nat} {k n : Int} {s : ByteArray} {u : Value} {k' n' : Int} {s' : ByteArray} {u' : Value} (h : Cells10 wr p r r' b o b' o' k n s u k' n' s' u' wr) (hb : Below wr.heap.size wr w') :
    Cells10 wr p r r' b o b' o' k n s u k' n' s' u' w' := by
  obtain ⟨r0, r1, c0, c1, c2, c3, d0, d1, d2, d3, _⟩ := h
  have keep : ∀ {ad : Addr} {v : Value}, wr.cell? ad = some v → w'.cell? ad = some v := fun {ad} {v} hv => cell_on hb hv
  exact ⟨keep r0, keep r1, keep c0, keep c1, keep c2, keep c3, keep d0, keep d1, keep d2, keep d3, hb⟩

/-- Two boxes, one behind the other. -/
abbrev boxed2 (w : World) (k n : Int) (s : ByteArray) (u : Value) (k' n' : Int) (s' : ByteArray) (u' : Value) : World := boxed (boxed w k n s u) k' n' s' u'
theorem boxed2_below (w : World) (k n : Int) (s : ByteArray) (u : Value) (k' n' : Int) (s' : ByteArray) (u' : Value) : Below w.heap.size w (boxed2 w k n s u k' n' s' u') :=
  (boxed_below w k n s u).trans ((boxed_below (boxed w k n s u) k' n' s' u').mono (by simp))
theorem boxed2_cells {w wr : World} {k n : Int} {s : ByteArray} {u : Value} {k' n' : Int} {s' : ByteArray} {u' : Value} (hb : Below (boxed2 w k n s u k' n' s' u').heap.size (boxed2 w k n s u k' n' s' u') wr) :
    wr.cell? ⟨w.heap.size, 3, none⟩ = some u ∧ wr.cell? ⟨w.heap.size + 1, 3, none⟩ = some u' := by
  have h1 := (boxed_cells hb).2.2.2
  have h0 := (boxed_cells ((boxed_below (boxed w k n s u) k' n' s' u').trans (hb.mono (by simp)))).2.2.2
  have e : (boxed w k n s u).heap.size = w.heap.size + 1 := by simp
  rw [e] at h1
  exact ⟨h0, h1⟩

def AnsB (b : Bool) (w : World) (e : Ending) (w' : World) : Prop := e = .returned (.bool b) ∧ Below w.heap.size w w'
theorem len_cSe : ∀ xs : List T, xs.length ≤ cS xs
  | [] => by simp [cS]
  | x :: xs => by
    have h1 := len_cSe xs
    have h2 : 1 ≤ cT x := by obtain ⟨k, n, s, ys⟩ := x; rw [cT_node]; omega
    simp only [cS, List.map_cons, List.sum_cons, List.length_cons] at *
    omega
theorem cT_ate (ts : List T) (k : Nat) (t : T) (h : ts[k]? = some t) : cS (ts.take k) + cT t ≤ cS ts := by
  have h1 := cS_take ts (k + 1)
  rw [tk ts k t h, cS_snoc] at h1
  exact h1
theorem node_eq {k n k' n' : Int} {s s' : ByteArray} {xs ys : List T} : (T.node k n s xs = T.node k' n' s' ys) ↔ (k = k' ∧ n = n' ∧ s = s' ∧ xs = ys) := by
  constructor
  · intro h; cases h; exact ⟨rfl, rfl, rfl, rfl⟩
  · rintro ⟨rfl, rfl, rfl, rfl⟩; rfl

theorem texts_ne {s s' : ByteArray} (h : s ≠ s') : (s.toList == s'.toList) = false := by
  cases e : (s.toList == s'.toList) with
  | false => rfl
  | true => exact absurd ((same_iff s s').1 e) h

end Go.Proofs.YtidbokheeieifaaGreatDoor
namespace Go.Proofs.YtidbokheeieifaaGreatDoor
open Go.RowKit Go.Shelf

attribute [local go_sem] Oper.semAt_some

/-- The struct of a term, as the cells hold it. -/
structure Nd where
  k : Int
  n : Int
  s : ByteArray
  a : Option Addr
  m : Nat
  c : Nat
def Nd.none : Nd := ⟨0, 0, ByteArray.empty, Option.none, 0, 0⟩
def Nd.cs (d : Nd) : List Value := [.int .i64 d.k, .int .i64 d.n, .string d.s, .slice d.a d.m d.c]

/-- What has come when q rounds are over. -/
def upto {α : Type} (f : Nat → α) (q : Nat) : List α := (List.range q).map f
theorem upto_succ {α : Type} (f : Nat → α) (q : Nat) : upto f (q + 1) = upto f q ++ [f q] := by simp [upto, List.range_succ]
theorem upto_length {α : Type} (f : Nat → α) (q : Nat) : (upto f q).length = q := by simp [upto]

/-- The nodes from the last to the first, with their indices. -/
def backF (ds : List Nd) (j : Nat) : Nat × Nd := (ds.length - 1 - j, (ds[ds.length - 1 - j]?).getD Nd.none)
theorem back_next (ds : List Nd) (p : Nat) (d : Nd) (h : ds[p]? = some d) : upto (backF ds) (ds.length - p) = upto (backF ds) (ds.length - (p + 1)) ++ [(p, d)] := by
  have hp := (List.getElem?_eq_some_iff.1 h).1
  have e1 : ds.length - p = ds.length - (p + 1) + 1 := by omega
  have e2 : backF ds (ds.length - (p + 1)) = (p, d) := by
    have e3 : ds.length - 1 - (ds.length - (p + 1)) = p := by omega
    unfold backF
    rw [e3, h]; rfl
  rw [e1, upto_succ, e2]
theorem back_all (ds : List Nd) : (upto (backF ds) ds.length).map Prod.snd = ds.reverse := by
  apply List.ext_getElem
  · simp [upto]
  · intro i h1 h2
    have hi : i < ds.length := by simpa [upto] using h1
    have h3 : ds.length - 1 - i < ds.length := by omega
    simp [upto, backF, List.getElem_reverse, h3]

/-- The nodes of a row lie in the cells from o on. -/
def NdsAt (w : World) (b o : Nat) (ds : List Nd) : Prop := ∀ j d, ds[j]? = some d → w.cell? ⟨b, o + j * 4, none⟩ = some (.int .i64 d.k) ∧ w.cell? ⟨b, o + j * 4 + 1, none⟩ = some (.int .i64 d.n) ∧
  w.cell? ⟨b, o + j * 4 + 2, none⟩ = some (.string d.s) ∧ w.cell? ⟨b, o + j * 4 + 3, none⟩ = some (.slice d.a d.m d.c)
theorem NdsAt.below {n₀ : Nat} {A B : World} (h : Below n₀ A B) {b o : Nat} {ds : List Nd} (hb : b < n₀) (k : NdsAt A b o ds) : NdsAt B b o ds := fun j d hj => by
  obtain ⟨c0, c1, c2, c3⟩ := k j d hj
  exact ⟨(h.cell (p := ⟨b, o + j * 4, none⟩) hb).trans c0, (h.cell (p := ⟨b, o + j * 4 + 1, none⟩) hb).trans c1, (h.cell (p := ⟨b, o + j * 4 + 2, none⟩) hb).trans c2, (h.cell (p := ⟨b, o + j * 4 + 3, none⟩) hb).trans c3⟩

/-- What a round must keep: what lay below n₀, and the box that the iterator reads. -/
def KpB (Bs n₀ : Nat) (A B : World) : Prop := Below n₀ A B ∧ ∀ v, Boxed A Bs 24 v → Boxed B Bs 24 v
theorem KpB.refl (Bs n₀ : Nat) (A : World) : KpB Bs n₀ A A := ⟨Below.refl _ _, fun _ h => h⟩
theorem KpB.trans {Bs n₀ : Nat} {A B C : World} (h : KpB Bs n₀ A B) (k : KpB Bs n₀ B C) : KpB Bs n₀ A C := ⟨h.1.trans k.1, fun v q => k.2 v (h.2 v q)⟩

set_option maxRecDepth 100000 in
set_option maxHeartbeats 2000000 in
theorem back1_in (F : Fence) (n : Nat) (hF : F.fn 122) (hro : F.round = none) (hn : 1 ≤ n) (l Bs n₀ b o cap : Nat) (ds : List Nd) (hlen : ds.length ≤ 4294967296) (hb : b < n₀) (J Jx : List (Nat × Nd) → World → Prop)
    (hY : ∀ pre x W, J pre W → pre.length < ds.length → YieldAt F (n - 1) Tryz.prog l #[.int .i64 (x.1 : Int), tv x.2.k x.2.n x.2.s (.slice x.2.a x.2.m x.2.c)] W fun e W' =>
      (e = .returned (.bool true) ∧ J (pre ++ [x]) W' ∧ KpB Bs n₀ W W') ∨ (e = .returned (.bool false) ∧ Jx (pre ++ [x]) W'))
    (W : World) (hBs : Boxed W Bs 24 (.slice (some ⟨b, o, none⟩) ds.length cap)) (hc : NdsAt W b o ds) (h0 : J [] W) :
    CallsIn F n Tryz.prog 122 #[.func (.yield l) #[] #[], .pointer (some ⟨Bs, 0, none⟩)] W fun e W' => (∃ v, e = .returned v) ∧
      ((∃ ys, ys = upto (backF ds) ds.length ∧ J ys W') ∨ (∃ pre, (∃ k, k ≤ ds.length ∧ pre = upto (backF ds) k) ∧ Jx pre W')) := by
  refine callsIn_of_wp Tryz.func122 rfl hF ?_ hro
  simp only [Tryz.ntmps122, List.size_toArray, List.length_cons, List.length_nil, Nat.reduceAdd, Nat.reduceSub, Array.replicate_succ, Array.replicate_zero, List.push_toArray, List.append_toArray, List.nil_append, List.cons_append]
  have hbc := hBs.cell
  gi_wp2
  gi_loopw [3] (fun i wr => ∃ q : Nat, q ≤ ds.length ∧ i = .int .i64 ((q : Int) - 1) ∧ J (upto (backF ds) (ds.length - q)) wr ∧ KpB Bs n₀ W wr)
    (fun i _ => (intOf i + 1).toNat)
  case atStart => exact ⟨ds.length, Nat.le_refl _, rfl, by rw [Nat.sub_self]; exact h0, KpB.refl _ _ _⟩
  case round =>
    obtain ⟨q, hq, rfl, hJs, hnx⟩ := hrel
    cases q with
    | succ p =>
      obtain ⟨d, hd⟩ : ∃ d, ds[p]? = some d := ⟨_, List.getElem?_eq_getElem (by omega)⟩
      obtain ⟨d0, d1, d2, d3⟩ := (hc.below hnx.1 hb) p d hd
      have hbx := (hnx.2 _ hBs).cell
      obtain ⟨fn, tmps, assign, body, hy, hR⟩ := hY _ (p, d) wr hJs (by rw [upto_length]; omega)
      dsimp only at hy
      have e1 : (((p + 1 : Nat) : Int) - 1) = (p : Int) := by omega
      rw [e1]
      have hpl : p < ds.length := by omega
      have hnext := back_next ds p d hd
      have HNX := Lib.hid hnext; clear hnext
      have HD := Lib.hid hd; clear hd
      gi_wp2
      refine hR.mono ?_
      rintro e W3 (⟨rfl, hJ3, hk3⟩ | ⟨rfl, hJx3⟩)
      · gi_wp2
        go_roundw
        case rel => exact ⟨p, by omega, rfl, by rw [HNX.out]; exact hJ3, hnx.trans hk3⟩
        case measure => simp [intOf]
      · gi_wp2
        refine bodyPost_ret (results_none rfl _ _ _) rfl ?_
        exact ⟨⟨_, rfl⟩, .inr ⟨_, ⟨ds.length - p, by omega, HNX.out.symm⟩, hJx3⟩⟩
    | zero =>
      gi_wp2
      go_end0
      exact ⟨⟨_, rfl⟩, .inl ⟨_, by simp, hJs⟩⟩

set_option maxRecDepth 100000 in
set_option maxHeartbeats 1000000 in
/-- .. over no term: no round. -/
theorem back0_in (F : Fence) (n : Nat) (hF : F.fn 122) (hro : F.round = none) (l Bs : Nat) (a : Option Addr) (cap : Nat) (J : List (Nat × Nd) → World → Prop) (W : World) (hBs : Boxed W Bs 24 (.slice a 0 cap)) (h0 : J [] W) :
    CallsIn F n Tryz.prog 122 #[.func (.yield l) #[] #[], .pointer (some ⟨Bs, 0, none⟩)] W fun e W' => (∃ v, e = .returned v) ∧ J [] W' := by
  refine callsIn_of_wp Tryz.func122 rfl hF ?_ hro
  simp only [Tryz.ntmps122, List.size_toArray, List.length_cons, List.length_nil, Nat.reduceAdd, Nat.reduceSub, Array.replicate_succ, Array.replicate_zero, List.push_toArray, List.append_toArray, List.nil_append, List.cons_append]
  have hbc := hBs.cell
  gi_wp2
  gi_loopw [3] (fun i wr => i = .int .i64 (-1) ∧ J [] wr) (fun _ _ => 0)
  case atStart => exact ⟨rfl, h0⟩
  case round =>
    obtain ⟨rfl, hJs⟩ := hrel
    gi_wp2
    go_end0
    exact ⟨⟨_, rfl⟩, hJs⟩

set_option maxHeartbeats 1000000 in
/-- slices.Backward(s): the slice value is boxed; the function value captures the box. -/
theorem backward_in (F : Fence) (n : Nat) (hF : F.fn 108) (hro : F.round = none) (a : Option Addr) (len cap : Nat) (w : World) :
    CallsIn F n Tryz.prog 108 #[.slice a len cap] w fun e w' =>
      e = .returned (.func (.func 122) #[] #[.pointer (some ⟨w.heap.size, 0, none⟩)]) ∧ w' = w.alloc (.cells #[.slice a len cap] 24) := by
  refine callsIn_of_wp Tryz.func108 rfl hF ?_ hro
  simp only [Tryz.ntmps108, List.size_toArray, List.length_cons, List.length_nil, Nat.reduceAdd, Nat.reduceSub, Array.replicate_succ, Array.replicate_zero, List.push_toArray, List.append_toArray, List.nil_append, List.cons_append]
  gi_wp2
  go_ret
  exact ⟨rfl, rfl⟩

/-- A slice value holds the nodes ds, in a block below n₀; or there are none. -/
def NdsIn (n₀ : Nat) (W : World) (v : Value) (ds : List Nd) : Prop := (∃ a cap, v = .slice a 0 cap ∧ ds = []) ∨ ∃ b o cap, v = .slice (some ⟨b, o, none⟩) ds.length cap ∧ b < n₀ ∧ NdsAt W b o ds

/-- The iterator hands out all nodes, from the last to the first; or a part of them. -/
theorem back_stops (F : Fence) (n : Nat) (hF : F.fn 122) (hro : F.round = none) (hn : 1 ≤ n) (Bs n₀ : Nat) (sv : Value) (ds : List Nd) (hlen : ds.length ≤ 4294967296) (w : World) (hn₀ : n₀ ≤ w.heap.size)
    (hBs : Boxed w Bs 24 sv) (hI : NdsIn n₀ w sv ds) :
    SeqStopsK F n Tryz.prog 122 #[.pointer (some ⟨Bs, 0, none⟩)] (fun x : Nat × Nd => #[Value.int .i64 (x.1 : Int), tv x.2.k x.2.n x.2.s (.slice x.2.a x.2.m x.2.c)]) (KpB Bs n₀)
      (fun ys => ys = upto (backF ds) ds.length) (fun pre => ∃ k, k ≤ ds.length ∧ pre = upto (backF ds) k) ds.length w := fun l J Jx W hW _ _ hY h0 => by
  have hB' : Boxed W Bs 24 sv := (hW.block Bs hBs.lt).trans hBs
  rcases hI with ⟨a, cap, rfl, rfl⟩ | ⟨b, o, cap, rfl, hb, hcs⟩
  · exact (back0_in F n hF hro l Bs a cap J W hB' h0).mono fun e W' ⟨he, hj⟩ => ⟨he, .inl ⟨_, rfl, hj⟩⟩
  · exact back1_in F n hF hro hn l Bs n₀ b o cap ds hlen hb J Jx hY W hB' (hcs.below (hW.mono hn₀) hb) h0
theorem kpB_b {Bs n₀ : Nat} {w : World} (hn : n₀ ≤ w.heap.size) (hs : Bs < w.heap.size) (W : World) (l : Nat) (o o' : Obj) (hl : w.heap.size ≤ l) (h : W.heap[l]? = some o) (h1 : o.isCells = false) (h2 : o.isWalk = false) : KpB Bs n₀ W (W.putObj l o') :=
  ⟨belowK_b hn W l o o' hl h h1 h2, fun v hv => hv.kept (grownBy_putObj' W l o') (fun e => by cases e; omega)⟩
theorem NdsIn.below {n₀ : Nat} {A B : World} {v : Value} {ds : List Nd} (k : NdsIn n₀ A v ds) (h : Below n₀ A B) : NdsIn n₀ B v ds := by
  rcases k with h0 | ⟨b, o, cap, rfl, hb, hc⟩
  · exact Or.inl h0
  · exact Or.inr ⟨b, o, cap, rfl, hb, hc.below h hb⟩
end Go.Proofs.YtidbokheeieifaaGreatDoor
