/-
  impl.ParseNumber and impl.ParseInt: the integer within the limits whose numeral the string is, and true; else 0 and false: at every string.
-/
import Derived.Test.YtjdcehnjdfhbnaaDoorIntOf
import Derived.Defers
import Derived.Recover
import Derived.Laws.Pointers
namespace Go.Proofs.YtjdcehnjdfhbnaaDoor
open Go.RowKit

theorem catchN_panicking (p q : Addr) (x : Int) (b : Bool) (u : TypeId) (pv : Value) (older : List PanicEntry) (w : World) (hc : w.cell? p = some (.int .i64 x)) (hz : w.frozen? p = false)
    (hc2 : ∀ v, (w.setCell p v).cell? q = some (.bool b)) (hz2 : ∀ v, (w.setCell p v).frozen? q = false) :
    CallsD Tryd.prog 32 #[.pointer (some p), .pointer (some q)] (.panicking ({ v := .iface u pv, recovered := false } :: older)) w fun e u' w' =>
      e = .returned (.tuple #[]) ∧ u' = .panicking ({ v := .iface u pv, recovered := true } :: older) ∧ w' = (w.setCell p (.int .i64 0)).setCell q (.bool false) := by
  refine callsD_of_wpS Tryd.func32 rfl fun c₀ cs hu => ?_
  apply wpS_seq
  apply wpS_region
  simp [wpOpsS, go_sem, recoverD, hu, Tryd.ntmps32, Exit.thenS]
  refine wpS_cond (t := true) (by simp [Act.eval, Array.replicate]) ?_
  simp only [if_true]
  apply wpS_region
  simp [wpOpsS, go_sem, hc, hz, hc2, hz2, bodyPostS, results, Tryd.results32]

theorem catchN_idle (p q : Addr) (w : World) :
    CallsD Tryd.prog 32 #[.pointer (some p), .pointer (some q)] .returning w fun e u' w' => e = .returned (.tuple #[]) ∧ u' = .returning ∧ w' = w := by
  refine callsD_of_wpS Tryd.func32 rfl fun c₀ cs hu => ?_
  apply wpS_seq
  apply wpS_region
  simp [wpOpsS, go_sem, recoverD, hu, Tryd.ntmps32, Exit.thenS]
  refine wpS_cond (t := false) (by simp [Act.eval, Array.replicate]) ?_
  simp only [Bool.false_eq_true, if_false]
  refine wpS_of_wp (wp_skip ?_)
  cases c₀
  simp_all [bodyPostS, results, Tryd.results32]

theorem catchI_panicking (p q : Addr) (x : Int) (b : Bool) (u : TypeId) (pv : Value) (older : List PanicEntry) (w : World) (hc : w.cell? p = some (.int .i64 x)) (hz : w.frozen? p = false)
    (hc2 : ∀ v, (w.setCell p v).cell? q = some (.bool b)) (hz2 : ∀ v, (w.setCell p v).frozen? q = false) :
    CallsD Tryd.prog 28 #[.pointer (some p), .pointer (some q)] (.panicking ({ v := .iface u pv, recovered := false } :: older)) w fun e u' w' =>
      e = .returned (.tuple #[]) ∧ u' = .panicking ({ v := .iface u pv, recovered := true } :: older) ∧ w' = (w.setCell p (.int .i64 0)).setCell q (.bool false) := by
  refine callsD_of_wpS Tryd.func28 rfl fun c₀ cs hu => ?_
  apply wpS_seq
  apply wpS_region
  simp [wpOpsS, go_sem, recoverD, hu, Tryd.ntmps28, Exit.thenS]
  refine wpS_cond (t := true) (by simp [Act.eval, Array.replicate]) ?_
  simp only [if_true]
  apply wpS_region
  simp [wpOpsS, go_sem, hc, hz, hc2, hz2, bodyPostS, results, Tryd.results28]

theorem catchI_idle (p q : Addr) (w : World) :
    CallsD Tryd.prog 28 #[.pointer (some p), .pointer (some q)] .returning w fun e u' w' => e = .returned (.tuple #[]) ∧ u' = .returning ∧ w' = w := by
  refine callsD_of_wpS Tryd.func28 rfl fun c₀ cs hu => ?_
  apply wpS_seq
  apply wpS_region
  simp [wpOpsS, go_sem, recoverD, hu, Tryd.ntmps28, Exit.thenS]
  refine wpS_cond (t := false) (by simp [Act.eval, Array.replicate]) ?_
  simp only [Bool.false_eq_true, if_false]
  refine wpS_of_wp (wp_skip ?_)
  cases c₀
  simp_all [bodyPostS, results, Tryd.results28]

theorem bcell {W w1 : World} (hb : Below W.heap.size W w1) : (∀ b o, b < W.heap.size → w1.cell? ⟨b, o, none⟩ = W.cell? ⟨b, o, none⟩) ∧ (∀ b o, b < W.heap.size → w1.frozen? ⟨b, o, none⟩ = W.frozen? ⟨b, o, none⟩) :=
  ⟨fun b o h => hb.cell (p := ⟨b, o, none⟩) h, fun b o h => hb.frozen (p := ⟨b, o, none⟩) h⟩

/-- What the reading hands back. -/
def PairEnd (lo hi : Int) (l : List UInt8) (w : World) (e : Ending) (w' : World) : Prop :=
  Below w.heap.size w w' ∧ ∃ (v : Int) (b : Bool), e = .returned (.tuple #[.int .i64 v, .bool b]) ∧ Good lo hi l v b

set_option maxRecDepth 100000 in
set_option maxHeartbeats 400000 in
theorem iNumber_any (s : ByteArray) (w : World) (hs : s.size ≤ 281474976710656) (ht : PowTab w) (he : ErrVars w) (hz : 7 < w.heap.size) :
    Calls Tryd.prog 15 #[.string s] w (PairEnd 0 999999 s.data.toList w) := by
  have hmf : ∀ (fn : Fn) (first cap : Array Value) (w : World), (Instr.makeFunc fn first cap).run Tryd.prog w = .ok (.func fn first cap) w := fun _ _ _ _ => rfl
  have hb0 : Below w.heap.size w ((w.alloc (.cells #[.int .i64 0] 3)).alloc (.cells #[.bool false] 4)) := ((Below.refl _ _).alloc (Nat.le_refl _) _).alloc (by simp) _
  have HT := Lib.hid (ht.below hb0 (by omega)); clear ht
  have HE := Lib.hid (he.below hb0 (by omega)); clear he
  have HB0 := Lib.hid hb0; clear hb0
  go_enter_defers Tryd.func15, Tryd.ntmps15
  go_wp2_with fail
  refine (intOf_any s 0 999999 _ hs (by omega) (by omega) HT.out HE.out (by simp; omega)).mono ?_
  rintro e w1 ⟨hb, h⟩
  have hlen : w.heap.size + 1 < w1.heap.size := by have := hb.size; simp at this; omega
  obtain ⟨hcl, hfr⟩ := bcell hb
  have c0 : w1.cell? ⟨w.heap.size, 0, none⟩ = some (.int .i64 0) := by rw [hcl _ _ (by simp; omega)]; simp [go_sem]
  have c1 : w1.cell? ⟨w.heap.size + 1, 0, none⟩ = some (.bool false) := by rw [hcl _ _ (by simp)]; simp [go_sem]
  have f0 : w1.frozen? ⟨w.heap.size, 0, none⟩ = false := by rw [hfr _ _ (by simp; omega)]; simp [go_sem]
  have f1 : w1.frozen? ⟨w.heap.size + 1, 0, none⟩ = false := by rw [hfr _ _ (by simp)]; simp [go_sem]
  have HB := Lib.hid hb; clear hb hcl hfr
  rcases h with ⟨v, h0, h1, h2, rfl⟩ | ⟨hno, s', rfl⟩
  · have hg : Good 0 999999 s.data.toList v true := ⟨fun _ => ⟨h0, h1, h2⟩, fun h => by cases h⟩
    have HG := Lib.hid hg; clear hg h2
    go_wp2
    refine leaves_cons (f := 32) (args := #[.pointer (some ⟨w.heap.size, 0, none⟩), .pointer (some ⟨w.heap.size + 1, 0, none⟩)]) (by simp) (by simp [go_sem]) ?_
    refine (catchN_idle _ _ _).mono ?_
    rintro e u' w'' ⟨rfl, rfl, rfl⟩
    have r0 := World.cell?_setCell_same w1 ⟨w.heap.size, 0, none⟩ (Value.int .i64 v) c0
    have r1 := World.cell?_setCell_same (w1.setCell ⟨w.heap.size, 0, none⟩ (Value.int .i64 v)) ⟨w.heap.size + 1, 0, none⟩ (Value.bool true) (u := .bool false) (by simp [go_sem, c1])
    simp [Leaves, settle, results, Tryd.results15, go_sem, r0, r1]
    exact ⟨((HB0.out.trans (HB.out.mono HB0.out.size)).setCell (Nat.le_refl _) _).setCell (by simp) _, _, _, rfl, HG.out⟩
  · have hg : Good 0 999999 s.data.toList 0 false := ⟨fun h => (by cases h), fun _ => ⟨rfl, hno⟩⟩
    have HG := Lib.hid hg; clear hg hno
    go_wp2
    refine leaves_cons (f := 32) (args := #[.pointer (some ⟨w.heap.size, 0, none⟩), .pointer (some ⟨w.heap.size + 1, 0, none⟩)]) (by simp) (by simp [go_sem]) ?_
    refine (catchN_panicking _ _ 0 false _ _ _ _ ?_ ?_ ?_ ?_).mono ?_
    · exact c0
    · exact f0
    · intro v; simp [go_sem, c1]
    · intro v; simp [go_sem, f1]
    rintro e u' w'' ⟨rfl, rfl, rfl⟩
    have r0 := World.cell?_setCell_same w1 ⟨w.heap.size, 0, none⟩ (Value.int .i64 0) c0
    have r1 := World.cell?_setCell_same (w1.setCell ⟨w.heap.size, 0, none⟩ (Value.int .i64 0)) ⟨w.heap.size + 1, 0, none⟩ (Value.bool false) (u := .bool false) (by simp [go_sem, c1])
    simp [Leaves, settle, results, Tryd.results15, go_sem, r0, r1]
    exact ⟨((HB0.out.trans (HB.out.mono HB0.out.size)).setCell (Nat.le_refl _) _).setCell (by simp) _, _, _, rfl, HG.out⟩
set_option maxRecDepth 100000 in
set_option maxHeartbeats 400000 in
theorem iInt_any (s : ByteArray) (w : World) (hs : s.size ≤ 281474976710656) (ht : PowTab w) (he : ErrVars w) (hz : 7 < w.heap.size) :
    Calls Tryd.prog 12 #[.string s] w (PairEnd (-999999999999) 999999999999 s.data.toList w) := by
  have hmf : ∀ (fn : Fn) (first cap : Array Value) (w : World), (Instr.makeFunc fn first cap).run Tryd.prog w = .ok (.func fn first cap) w := fun _ _ _ _ => rfl
  have hb0 : Below w.heap.size w ((w.alloc (.cells #[.int .i64 0] 3)).alloc (.cells #[.bool false] 4)) := ((Below.refl _ _).alloc (Nat.le_refl _) _).alloc (by simp) _
  have HT := Lib.hid (ht.below hb0 (by omega)); clear ht
  have HE := Lib.hid (he.below hb0 (by omega)); clear he
  have HB0 := Lib.hid hb0; clear hb0
  go_enter_defers Tryd.func12, Tryd.ntmps12
  go_wp2_with fail
  refine (intOf_any s (-999999999999) 999999999999 _ hs (by omega) (by omega) HT.out HE.out (by simp; omega)).mono ?_
  rintro e w1 ⟨hb, h⟩
  have hlen : w.heap.size + 1 < w1.heap.size := by have := hb.size; simp at this; omega
  obtain ⟨hcl, hfr⟩ := bcell hb
  have c0 : w1.cell? ⟨w.heap.size, 0, none⟩ = some (.int .i64 0) := by rw [hcl _ _ (by simp; omega)]; simp [go_sem]
  have c1 : w1.cell? ⟨w.heap.size + 1, 0, none⟩ = some (.bool false) := by rw [hcl _ _ (by simp)]; simp [go_sem]
  have f0 : w1.frozen? ⟨w.heap.size, 0, none⟩ = false := by rw [hfr _ _ (by simp; omega)]; simp [go_sem]
  have f1 : w1.frozen? ⟨w.heap.size + 1, 0, none⟩ = false := by rw [hfr _ _ (by simp)]; simp [go_sem]
  have HB := Lib.hid hb; clear hb hcl hfr
  rcases h with ⟨v, h0, h1, h2, rfl⟩ | ⟨hno, s', rfl⟩
  · have hg : Good (-999999999999) 999999999999 s.data.toList v true := ⟨fun _ => ⟨h0, h1, h2⟩, fun h => by cases h⟩
    have HG := Lib.hid hg; clear hg h2
    go_wp2
    refine leaves_cons (f := 28) (args := #[.pointer (some ⟨w.heap.size, 0, none⟩), .pointer (some ⟨w.heap.size + 1, 0, none⟩)]) (by simp) (by simp [go_sem]) ?_
    refine (catchI_idle _ _ _).mono ?_
    rintro e u' w'' ⟨rfl, rfl, rfl⟩
    have r0 := World.cell?_setCell_same w1 ⟨w.heap.size, 0, none⟩ (Value.int .i64 v) c0
    have r1 := World.cell?_setCell_same (w1.setCell ⟨w.heap.size, 0, none⟩ (Value.int .i64 v)) ⟨w.heap.size + 1, 0, none⟩ (Value.bool true) (u := .bool false) (by simp [go_sem, c1])
    simp [Leaves, settle, results, Tryd.results12, go_sem, r0, r1]
    exact ⟨((HB0.out.trans (HB.out.mono HB0.out.size)).setCell (Nat.le_refl _) _).setCell (by simp) _, _, _, rfl, HG.out⟩
  · have hg : Good (-999999999999) 999999999999 s.data.toList 0 false := ⟨fun h => (by cases h), fun _ => ⟨rfl, hno⟩⟩
    have HG := Lib.hid hg; clear hg hno
    go_wp2
    refine leaves_cons (f := 28) (args := #[.pointer (some ⟨w.heap.size, 0, none⟩), .pointer (some ⟨w.heap.size + 1, 0, none⟩)]) (by simp) (by simp [go_sem]) ?_
    refine (catchI_panicking _ _ 0 false _ _ _ _ ?_ ?_ ?_ ?_).mono ?_
    · exact c0
    · exact f0
    · intro v; simp [go_sem, c1]
    · intro v; simp [go_sem, f1]
    rintro e u' w'' ⟨rfl, rfl, rfl⟩
    have r0 := World.cell?_setCell_same w1 ⟨w.heap.size, 0, none⟩ (Value.int .i64 0) c0
    have r1 := World.cell?_setCell_same (w1.setCell ⟨w.heap.size, 0, none⟩ (Value.int .i64 0)) ⟨w.heap.size + 1, 0, none⟩ (Value.bool false) (u := .bool false) (by simp [go_sem, c1])
    simp [Leaves, settle, results, Tryd.results12, go_sem, r0, r1]
    exact ⟨((HB0.out.trans (HB.out.mono HB0.out.size)).setCell (Nat.le_refl _) _).setCell (by simp) _, _, _, rfl, HG.out⟩
end Go.Proofs.YtjdcehnjdfhbnaaDoor
