/-
  impl.appendBackward appends a slice of terms backwards to a row that the caller owns.
-/
import Derived.Test.YtidbokheeieifaaGreatDoorQ39
namespace Go.Proofs.YtidbokheeieifaaGreatDoor
open Go.RowKit Go.Shelf

attribute [local go_sem] Oper.semAt_some

/-- The list's value still lies where it lay, or in new memory. -/
def Moved (v0 : Value) (w : World) (v : Value) : Prop := v.ownBlock = v0.ownBlock ∨ ∃ j, v.ownBlock = some j ∧ w.heap.size ≤ j

def AppI (B : Nat) (w : World) (v0 : Value) (nn : Nat) (vs : List Value) (pre : List (Nat × Nd)) (W : World) : Prop :=
  ∃ v, (Boxed W w.heap.size 24 v ∧ W.ownsRow B 26 4 v (nn + pre.length) (vs ++ (pre.map Prod.snd).flatMap Nd.cs) ∧ Moved v0 w v) ∧ Below B w W ∧ w.grownBy W v0.ownBlock ∧ w.heap.size + 2 ≤ W.heap.size

theorem grown_behind {w W W' : World} {row : Option Nat} (h : w.grownBy W row) (k : Below w.heap.size W W') : w.grownBy W' row :=
  ⟨k.os.trans h.os, k.tape.trans h.tape, k.output.trans h.output, Nat.le_trans h.size k.size, fun i hi hne => (k.block i hi).trans (h.block i hi hne)⟩
theorem AppI.own {B : Nat} {w : World} {v0 : Value} {nn : Nat} {vs : List Value} {n0 : Nat} (hB : B ≤ w.heap.size) (hn : w.heap.size ≤ n0) : OwnFrom n0 (AppI B w v0 nn vs) := by
  intro pre X Y row hs hg hr
  obtain ⟨v, ⟨hb, ho, hm⟩, hbel, hgr, hz⟩ := hs
  have hne : some w.heap.size ≠ row := by
    intro e
    obtain ⟨_, o, h1, h2⟩ := hr _ e.symm
    unfold Boxed at hb
    rw [hb] at h1; cases h1; cases h2
  have hno : v.ownBlock = none ∨ v.ownBlock ≠ row := by
    rcases ho.2 with ⟨rfl, _⟩ | ⟨g, cap, cur, rfl, _, hc, _⟩
    · exact Or.inl rfl
    · refine Or.inr fun e => ?_
      obtain ⟨_, o, h1, h2⟩ := hr g e.symm
      rw [hc] at h1; cases h1; cases h2
  have hrow : ∀ i, i < w.heap.size → some i ≠ row := by
    intro i hi e
    have := (hr i e.symm).1
    omega
  exact ⟨v, ⟨hb.kept hg hne, ho.kept hg hno, hm⟩, ⟨hg.os.trans hbel.os, hg.tape.trans hbel.tape, hg.output.trans hbel.output, Nat.le_trans hbel.size hg.size, fun i hi => (hg.block i (Nat.lt_of_lt_of_le (Nat.lt_of_lt_of_le hi hB) hgr.size) (hrow i (by omega))).trans (hbel.block i hi)⟩,
    ⟨hg.os.trans hgr.os, hg.tape.trans hgr.tape, hg.output.trans hgr.output, Nat.le_trans hgr.size hg.size, fun i hi hq => (hg.block i (Nat.lt_of_lt_of_le hi hgr.size) (hrow i hi)).trans (hgr.block i hi hq)⟩, Nat.le_trans hz hg.size⟩

/-- One round more. -/
theorem AppI.step {B : Nat} {w : World} {v0 : Value} {nn : Nat} {vs : List Value} {pre : List (Nat × Nd)} {W W' : World} {va : Option Addr} {vc : Nat} (x : Nat × Nd) (hB : B ≤ w.heap.size)
    (hrow : W.ownsRow B 26 4 (.slice va (nn + pre.length) vc) (nn + pre.length) (vs ++ (pre.map Prod.snd).flatMap Nd.cs)) (hm : Moved v0 w (.slice va (nn + pre.length) vc)) (hbel : Below B w W) (hgr : w.grownBy W v0.ownBlock)
    (hf : AppFin B w.heap.size (nn + pre.length) va vc (vs ++ (pre.map Prod.snd).flatMap Nd.cs) x.2.k x.2.n x.2.s x.2.a x.2.m x.2.c W W') (n0 : Nat) (hs : w.heap.size + 1 < W.heap.size) :
    KeepsFrom n0 W W' ∧ KpB (w.heap.size + 1) B W W' ∧ AppI B w v0 nn vs (pre ++ [x]) W' := by
  obtain ⟨v', ⟨hb, ho⟩, hko, hbl, hst, hmv⟩ := hf
  refine ⟨hko.from _, ⟨hbl, fun v hv => ?_⟩, v', ⟨hb, ?_, ?_⟩, hbel.trans hbl, ⟨hbl.os.trans hgr.os, hbl.tape.trans hgr.tape, hbl.output.trans hgr.output, Nat.le_trans hgr.size hbl.size, fun i hi hq => ?_⟩, Nat.le_trans hs hbl.size⟩
  · exact (hst _ hs (by omega) (hv.not_row (by decide) hrow)).trans hv
  · have e : vs ++ ((pre ++ [x]).map Prod.snd).flatMap Nd.cs = (vs ++ (pre.map Prod.snd).flatMap Nd.cs) ++ [.int .i64 x.2.k, .int .i64 x.2.n, .string x.2.s, .slice x.2.a x.2.m x.2.c] := by
      simp [Nd.cs, List.flatMap_append]
    rw [e, List.length_append, List.length_singleton, ← Nat.add_assoc]
    exact ho
  · rcases hmv with h | ⟨j, h1, h2⟩
    · rcases hm with k | ⟨j, k1, k2⟩
      · exact Or.inl (h.trans k)
      · exact Or.inr ⟨j, h.trans k1, k2⟩
    · exact Or.inr ⟨j, h1, by omega⟩
  · refine (hst i (by omega) (by omega) (fun e => ?_)).trans (hgr.block i hi hq)
    rcases hm with k | ⟨j, k1, k2⟩
    · exact hq (e.trans k)
    · rw [k1] at e; cases e; omega

set_option maxRecDepth 100000 in
set_option maxHeartbeats 2000000 in
theorem appB_in (F : Fence) (n : Nat) (h52 : F.fn 82) (h79 : F.fn 108) (h93 : F.fn 122) (hro : F.round = none) (hn : 3 ≤ n)
    (a0 : Option Addr) (nn c0 : Nat) (vs : List Value) (a1 : Option Addr) (m1 c1 : Nat) (ds : List Nd) (B : Nat) (w : World) (hown : w.ownsRow B 26 4 (.slice a0 nn c0) nn vs) (hB : B ≤ w.heap.size) (hI : NdsIn B w (.slice a1 m1 c1) ds) (hlen : nn + ds.length ≤ 4294967296) (hds : ds.length ≤ 4294967296) :
    CallsIn F n Tryz.prog 82 #[.slice a0 nn c0, .slice a1 m1 c1] w fun e w' =>
      ∃ v', e = .returned v' ∧ w'.ownsRow B 26 4 v' (nn + ds.length) (vs ++ ds.reverse.flatMap Nd.cs) ∧ Below B w w' ∧ w.grownBy w' (Value.slice a0 nn c0).ownBlock ∧ Moved (.slice a0 nn c0) w v' := by
  have h1 : 1 ≤ n := by omega
  obtain ⟨i0, hi, hz0, hz1, hz2⟩ := info_parts infoTermB
  have HI := Lib.hid hi; clear hi
  have HZ0 := Lib.hid hz0; clear hz0
  have HZ1 := Lib.hid hz1; clear hz1
  have HZ2 := Lib.hid hz2; clear hz2
  have HIN := Lib.hid hI; clear hI
  have HOW := Lib.hid hown; clear hown
  refine callsIn_of_wp_marks Tryz.func82 rfl h52 ?_ hro
  simp only [Tryz.ntmps82, List.size_toArray, List.length_cons, List.length_nil, Nat.reduceAdd, Nat.reduceSub, Array.replicate_succ, Array.replicate_zero, List.push_toArray, List.append_toArray, List.nil_append, List.cons_append]
  gi_wp2_with (gi_at_call 108; refine (backward_in F (n - 1) h79 hro _ _ _ _).mono ?_; rintro e w' ⟨rfl, rfl⟩)
  have bL := (Boxed.new w 24 (.slice a0 nn c0)).alloc (.cells #[.slice a1 m1 c1] 24)
  have bS := Boxed.new (w.alloc (.cells #[.slice a0 nn c0] 24)) 24 (.slice a1 m1 c1)
  rw [World.size_alloc] at bS
  have hB0 : Below w.heap.size w ((w.alloc (.cells #[.slice a0 nn c0] 24)).alloc (.cells #[.slice a1 m1 c1] 24)) := ((Below.refl _ w).alloc (Nat.le_refl _) _).alloc (by simp) _
  have hsz : ((w.alloc (.cells #[.slice a0 nn c0] 24)).alloc (.cells #[.slice a1 m1 c1] 24)).heap.size = w.heap.size + 2 := by simp
  have hrow0 : ((w.alloc (.cells #[.slice a0 nn c0] 24)).alloc (.cells #[.slice a1 m1 c1] 24)).ownsRow B 26 4 (.slice a0 nn c0) nn vs := (HOW.out.alloc _).alloc _
  obtain ⟨W0, hW0⟩ : ∃ W0, (w.alloc (.cells #[.slice a0 nn c0] 24)).alloc (.cells #[.slice a1 m1 c1] 24) = W0 := ⟨_, rfl⟩
  rw [hW0] at bL bS hB0 hsz hrow0 ⊢
  clear hW0
  have hBW : Below B w W0 := hB0.mono hB
  have hI0 : AppI B w (.slice a0 nn c0) nn vs [] W0 := ⟨_, ⟨bL, by simpa using hrow0, Or.inl rfl⟩, hBW, Below.toGrown hB0 _, by omega⟩
  have HI0 := Lib.hid hI0; clear hI0
  have HIW := Lib.hid (show NdsIn B W0 (.slice a1 m1 c1) ds from HIN.out.below hBW)
  have HB0 := Lib.hid hB0
  have HSZ := Lib.hid hsz
  refine wpIn_rangeFunc_ownH hro h1 (gf := 122) (lb := #[.pointer (some ⟨w.heap.size + 1, 0, none⟩)]) rfl h93 (enters_of Tryz.func122 (by kernel_rfl) rfl)
    (back_stops F (n - 1) h93 hro (by omega) (w.heap.size + 1) B _ ds hds W0 (by omega) bS HIW.out) (fun h k => h.trans k) (kpB_b (by omega) (by omega)) (Below.refl _ _) (fun _ => rfl)
    (AppI B w (.slice a0 nn c0) nn vs)
    (fun _ _ _ => False)
    (AppI.own hB (by omega))
    (fun _ _ _ _ _ hs _ _ => hs)
    HI0.out
    (fun x a' W => ∃ Bx, w.heap.size + 1 < Bx ∧ W.heap[Bx]? = some (.cells #[.int .i64 x.2.k, .int .i64 x.2.n, .string x.2.s, .slice x.2.a x.2.m x.2.c] 26 (0, 0)) ∧ a' = { tmps := #[.slice a0 nn c0, .slice a1 m1 c1, .pointer (some ⟨w.heap.size, 0, none⟩), undef, .slice none 0 0, undef, .pointer (some ⟨Bx, 0, none⟩), .slice a1 m1 c1, .func (.func 122) #[] #[.pointer (some ⟨w.heap.size + 1, 0, none⟩)], .int .i64 (x.1 : Int), tv x.2.k x.2.n x.2.s (.slice x.2.a x.2.m x.2.c), undef, undef, undef, undef, undef, undef, undef], defers := [] })
    (fun x a' _ X Y row hs hg hr => by
      obtain ⟨Bx, h1, h2, h3⟩ := hs
      refine ⟨Bx, h1, (hg.block Bx (Array.getElem?_eq_some_iff.1 h2).1 (fun e => ?_)).trans h2, h3⟩
      obtain ⟨_, o, ho, hc⟩ := hr Bx e.symm
      rw [h2] at ho; cases ho; cases hc)
    ?assign ?body ?done ?stop
  case assign =>
    rintro l pre x W K hI hK
    have HI2 := Lib.hid hI; clear hI
    gi_wp2
    obtain ⟨v, ⟨hb, ho, hm⟩, hbel, hgr, hz⟩ := HI2.out
    have hBz : B ≤ W.heap.size := by omega
    exact hK _ _ ((KeepsOthers.alloc _ _).from _) ⟨(Below.refl _ W).alloc hBz _, fun v hv => hv.alloc _⟩ ⟨v, ⟨hb.alloc _, ho.alloc _, hm⟩, hbel.alloc hBz _, grown_behind hgr ((Below.refl _ W).alloc (by omega) _), by simp; omega⟩
      ⟨W.heap.size, by omega, World.alloc_heap_new W _, rfl⟩
  case body =>
    rintro l pre x a' W hl ⟨r, hr⟩ ⟨v, ⟨bv, hrow, hmv⟩, hBel, hgr, hz⟩ ⟨Bx, hBx, bX, rfl⟩ hlt
    obtain ⟨va, vc, rfl⟩ : ∃ a c, v = .slice a (nn + pre.length) c := by
      rcases hrow.2 with ⟨rfl, h0⟩ | ⟨g, cp, cur, rfl, _⟩
      · exact ⟨none, 0, by rw [h0]⟩
      · exact ⟨_, cp, rfl⟩
    have hlW : w.heap.size + 1 < W.heap.size := by omega
    have HST := Lib.hid (fun W' hf => AppI.step (W' := W') x hB hrow hmv hBel hgr hf W0.heap.size hlW)
    have HR := Lib.hid hrow; clear hrow
    have HBV := Lib.hid bv; clear bv
    have HBX := Lib.hid bX; clear bX
    clear hr hmv hBel hgr hlW hz
    gi_wp2_with fail
    change (Code.region 3 bodyOps true).wpIn _ _ _ _ _ _
    refine app_region F l _ _ _ _ _ _ _ _ _ _ _ w.heap.size Bx B va (nn + pre.length) vc _ _ _ _ _ _ _ W HBV.out HBX.out HR.out hB (by omega) (fun a' W' hf => ?_)
    exact HST.out W' hf
  case done =>
    rintro D ys W hD rfl ⟨v, ⟨bv, hrow, hmv⟩, hBel, hgr, hz⟩ hK
    have hcv := bv.cell
    gi_wp2
    refine ⟨by simp, .inl ⟨_, _, rfl, run_takeDeferred hK, ?_⟩⟩
    rw [upto_length, back_all] at hrow
    have hbd : Below w.heap.size W (W.putObj D (.deferred none)) := belowK_b (w := w) (Nat.le_refl _) W D _ _ (by omega) hK rfl rfl
    exact ⟨_, results_tmp rfl _ _ _, v, rfl, ownsRow_putObj hrow _ hK rfl, hBel.trans (hbd.mono hB), grown_behind hgr hbd, hmv⟩
  case stop =>
    rintro D c pre W _ _ h _
    exact h.elim

/-- The same, unfenced. -/
theorem appB_any (a0 : Option Addr) (nn c0 : Nat) (vs : List Value) (a1 : Option Addr) (m1 c1 : Nat) (ds : List Nd) (B : Nat) (w : World) (hown : w.ownsRow B 26 4 (.slice a0 nn c0) nn vs) (hB : B ≤ w.heap.size) (hI : NdsIn B w (.slice a1 m1 c1) ds) (hlen : nn + ds.length ≤ 4294967296) (hds : ds.length ≤ 4294967296) :
    Calls Tryz.prog 82 #[.slice a0 nn c0, .slice a1 m1 c1] w fun e w' =>
      ∃ v', e = .returned v' ∧ w'.ownsRow B 26 4 v' (nn + ds.length) (vs ++ ds.reverse.flatMap Nd.cs) ∧ Below B w w' ∧ w.grownBy w' (Value.slice a0 nn c0).ownBlock ∧ Moved (.slice a0 nn c0) w v' :=
  (callsIn_wide (n := 3)).1 (appB_in Fence.wide 3 trivial trivial trivial rfl (Nat.le_refl _) a0 nn c0 vs a1 m1 c1 ds B w hown hB hI hlen hds)
end Go.Proofs.YtidbokheeieifaaGreatDoor
