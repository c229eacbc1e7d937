/-
  impl.integerOf: the integer within the limits whose numeral s is, or a panic; under what the library's variables hold.
  impl.ParseNumber: the number whose numeral the string is, and true; else 0 and false: at every string.
-/
import Derived.Test.YtooiiomfahomjaaGreatDoorQ12
import Derived.Test.YtooiiomfahomjaaGreatDoorQ11
import Derived.Test.YtooiiomfahomjaaGreatDoorQ2
import Derived.Shelf.Strconv.ErrVarAll
import Derived.Lib.AtoiErrMem
import Derived.Lib.AtoiAllMem
import Derived.Defers
import Derived.Recover
import Derived.Laws.Pointers
namespace Go.Proofs.YtooiiomfahomjaaGreatDoor
open Go.RowKit

/-- The library's two error variables hold each some error. -/
def ErrVars (w : World) : Prop := (∃ tp p, w.var? Tryz.prog synName = some #[.iface tp p]) ∧ ∃ tp p, w.var? Tryz.prog rngName = some #[.iface tp p]
theorem gSyn : Tryz.prog.globalNamed synName = some 4 := by kernel_rfl
theorem gRng : Tryz.prog.globalNamed rngName = some 5 := by kernel_rfl
theorem ErrVars.below {B : Nat} {w w' : World} (h : ErrVars w) (hb : Below B w w') (hB : 5 < B) : ErrVars w' := by
  obtain ⟨⟨tp, p, h1⟩, tq, q, h2⟩ := h
  exact ⟨⟨tp, p, var?_below hb gSyn (by omega) h1⟩, tq, q, var?_below hb gRng (by omega) h2⟩

/-- How the reading ends: the integer, or a panic of a string. -/
def IntEnd (lo hi : Int) (l : List UInt8) (w : World) (e : Ending) (w' : World) : Prop :=
  Below w.heap.size w w' ∧ ((∃ v, lo ≤ v ∧ v ≤ hi ∧ Lib.itoa v = l ∧ e = .returned (.int .i64 v)) ∨
    ((∀ u, lo ≤ u → u ≤ hi → Lib.itoa u ≠ l) ∧ ∃ s, e = .panicked [{ v := .iface 9 (.string s), recovered := false }]))

set_option maxRecDepth 100000 in
set_option maxHeartbeats 400000 in
theorem intOf_syn (s : ByteArray) (lo hi : Int) (w : World) (hs : s.size ≤ 281474976710656) (hlo : -9223372036854775808 ≤ lo) (hhi : hi ≤ 9223372036854775807) (he : ErrVars w)
    (h : Lib.atoiAll s.data.toList = Lib.atoiAll []) :
    Calls Tryz.prog 70 #[.string s, .int .i64 lo, .int .i64 hi] w (IntEnd lo hi s.data.toList w) := by
  obtain ⟨⟨tp, p, hv⟩, -⟩ := he
  have hno : ∀ u, lo ≤ u → u ≤ hi → Lib.itoa u ≠ s.data.toList := fun u h0 h1 e => by
    rw [← e, atoi_itoa u (by omega) (by omega)] at h
    have e0 : Lib.atoiAll [] = Lib.signless (Lib.parseMag []) := rfl
    rw [e0] at h
    simp [Lib.parseMag, Lib.signless] at h
  have HN := Lib.hid hno; clear hno
  have HV := Lib.hid hv; clear hv
  have HA := Lib.hid h; clear h
  go_enter Tryz.func70, Tryz.ntmps70
  go_wp2_with fail
  refine (Any.strconv_Atoi_syntax_var Tryz.laysC172 s hs HA.out tp p _ HV.out).mono ?_
  rintro e w1 ⟨N, rfl, -, -, hb⟩
  go_wp2
  exact ⟨rfl, hb, Or.inr ⟨HN.out, _, rfl⟩⟩

set_option maxRecDepth 100000 in
set_option maxHeartbeats 400000 in
theorem intOf_range (s : ByteArray) (lo hi : Int) (w : World) (hs : s.size ≤ 281474976710656) (hlo : -9223372036854775808 ≤ lo) (hhi : hi ≤ 9223372036854775807) (he : ErrVars w)
    (h : Lib.atoiAll s.data.toList = .range) :
    Calls Tryz.prog 70 #[.string s, .int .i64 lo, .int .i64 hi] w (IntEnd lo hi s.data.toList w) := by
  obtain ⟨-, tp, p, hv⟩ := he
  have hno : ∀ u, lo ≤ u → u ≤ hi → Lib.itoa u ≠ s.data.toList := fun u h0 h1 e => by
    rw [← e, atoi_itoa u (by omega) (by omega)] at h; cases h
  have HN := Lib.hid hno; clear hno
  have HV := Lib.hid hv; clear hv
  have HA := Lib.hid h; clear h
  go_enter Tryz.func70, Tryz.ntmps70
  go_wp2_with fail
  refine (Any.strconv_Atoi_range_var Tryz.laysC172 s hs HA.out tp p _ HV.out).mono ?_
  rintro e w1 ⟨N, rfl, -, -, hb⟩
  go_wp2
  exact ⟨rfl, hb, Or.inr ⟨HN.out, _, rfl⟩⟩

set_option maxRecDepth 100000 in
set_option maxHeartbeats 400000 in
/-- The library reads an int that lies outside the limits. -/
theorem intOf_out (s : ByteArray) (lo hi v : Int) (w : World) (hs : s.size ≤ 281474976710656) (hlo : -9223372036854775808 ≤ lo) (hhi : hi ≤ 9223372036854775807)
    (h : Lib.atoiAll s.data.toList = .ok v) (hv : v < lo ∨ hi < v) :
    Calls Tryz.prog 70 #[.string s, .int .i64 lo, .int .i64 hi] w (IntEnd lo hi s.data.toList w) := by
  have hno : ∀ u, lo ≤ u → u ≤ hi → Lib.itoa u ≠ s.data.toList := fun u h0 h1 e => by
    rw [← e, atoi_itoa u (by omega) (by omega)] at h; injection h with h; omega
  have HN := Lib.hid hno; clear hno
  have HA := Lib.hid h; clear h
  rcases hv with hv | hv
  · go_enter Tryz.func70, Tryz.ntmps70
    go_wp2_with fail
    refine (Any.strconv_Atoi_ok Tryz.laysC172 s (by omega) v HA.out _).mono ?_
    rintro e w1 ⟨rfl, hw⟩
    have hb : Below w.heap.size w w1 := by
      rcases hw with rfl | ⟨t, rfl⟩
      · exact Below.refl _ _
      · exact Lib.bytesWorld_below _ _ _
    clear hw
    go_wp2
    exact ⟨rfl, hb, Or.inr ⟨HN.out, _, rfl⟩⟩
  · by_cases hl : v < lo
    all_goals
      go_enter Tryz.func70, Tryz.ntmps70
      go_wp2_with fail
      refine (Any.strconv_Atoi_ok Tryz.laysC172 s (by omega) v HA.out _).mono ?_
      rintro e w1 ⟨rfl, hw⟩
      have hb : Below w.heap.size w w1 := by
        rcases hw with rfl | ⟨t, rfl⟩
        · exact Below.refl _ _
        · exact Lib.bytesWorld_below _ _ _
      clear hw
      go_wp2
      exact ⟨rfl, hb, Or.inr ⟨HN.out, _, rfl⟩⟩

set_option maxRecDepth 100000 in
set_option maxHeartbeats 400000 in
/-- The library reads an int within the limits: then its numeral is held against s. -/
theorem intOf_in (s : ByteArray) (lo hi v : Int) (w : World) (hs : s.size ≤ 281474976710656) (hlo : -9223372036854775808 ≤ lo) (hhi : hi ≤ 9223372036854775807) (ht : PowTab w) (hz : 5 < w.heap.size)
    (h : Lib.atoiAll s.data.toList = .ok v) (hv0 : lo ≤ v) (hv1 : v ≤ hi) :
    Calls Tryz.prog 70 #[.string s, .int .i64 lo, .int .i64 hi] w (IntEnd lo hi s.data.toList w) := by
  have HT := Lib.hid ht; clear ht
  have HA := Lib.hid h; clear h
  by_cases hc : Lib.itoa v = s.data.toList
  · have hq : (Lib.itoa v == s.toList) = true := by rw [ByteArray.toList_eq]; simpa using hc
    have HC := Lib.hid hc; clear hc
    go_enter Tryz.func70, Tryz.ntmps70
    go_wp2_with fail
    refine (Any.strconv_Atoi_ok Tryz.laysC172 s (by omega) v HA.out _).mono ?_
    rintro e w1 ⟨rfl, hw⟩
    have hb : Below w.heap.size w w1 := by
      rcases hw with rfl | ⟨t, rfl⟩
      · exact Below.refl _ _
      · exact Lib.bytesWorld_below _ _ _
    clear hw
    go_wp2_with fail
    refine (iFormat_any v _ (by omega) (by omega) (HT.out.below hb (by omega))).mono ?_
    rintro e w2 ⟨rfl, hb2⟩
    go_wp2
    go_ret
    exact ⟨hb.trans (hb2.mono hb.size), Or.inl ⟨v, hv0, hv1, HC.out, rfl⟩⟩
  · have hq : (Lib.itoa v == s.toList) = false := by rw [ByteArray.toList_eq]; simpa using hc
    have hno : ∀ u, lo ≤ u → u ≤ hi → Lib.itoa u ≠ s.data.toList := fun u h0 h1 e => by
      have h2 := HA.out
      rw [← e, atoi_itoa u (by omega) (by omega)] at h2
      injection h2 with h2
      subst h2
      exact hc e
    have HN := Lib.hid hno; clear hno hc
    go_enter Tryz.func70, Tryz.ntmps70
    go_wp2_with fail
    refine (Any.strconv_Atoi_ok Tryz.laysC172 s (by omega) v HA.out _).mono ?_
    rintro e w1 ⟨rfl, hw⟩
    have hb : Below w.heap.size w w1 := by
      rcases hw with rfl | ⟨t, rfl⟩
      · exact Below.refl _ _
      · exact Lib.bytesWorld_below _ _ _
    clear hw
    go_wp2_with fail
    refine (iFormat_any v _ (by omega) (by omega) (HT.out.below hb (by omega))).mono ?_
    rintro e w2 ⟨rfl, hb2⟩
    go_wp2
    exact ⟨rfl, hb.trans (hb2.mono hb.size), Or.inr ⟨HN.out, _, rfl⟩⟩

/-- impl.integerOf, at every string. -/
theorem intOf_any (s : ByteArray) (lo hi : Int) (w : World) (hs : s.size ≤ 281474976710656) (hlo : -9223372036854775808 ≤ lo) (hhi : hi ≤ 9223372036854775807) (ht : PowTab w) (he : ErrVars w) (hz : 5 < w.heap.size) :
    Calls Tryz.prog 70 #[.string s, .int .i64 lo, .int .i64 hi] w (IntEnd lo hi s.data.toList w) := by
  cases h : Lib.atoiAll s.data.toList
  · rename_i v
    by_cases hv : lo ≤ v ∧ v ≤ hi
    · exact intOf_in s lo hi v w hs hlo hhi ht hz h hv.1 hv.2
    · exact intOf_out s lo hi v w hs hlo hhi h (by omega)
  · exact intOf_syn s lo hi w hs hlo hhi he h
  · exact intOf_range s lo hi w hs hlo hhi he h
end Go.Proofs.YtooiiomfahomjaaGreatDoor
namespace Go.Proofs.YtooiiomfahomjaaGreatDoor
open Go.RowKit

theorem catchN_panicking (p q : Addr) (x : Int) (b : Bool) (u : TypeId) (pv : Value) (older : List PanicEntry) (w : World) (hc : w.cell? p = some (.int .i64 x)) (hz : w.frozen? p = false)
    (hc2 : ∀ v, (w.setCell p v).cell? q = some (.bool b)) (hz2 : ∀ v, (w.setCell p v).frozen? q = false) :
    CallsD Tryz.prog 69 #[.pointer (some p), .pointer (some q)] (.panicking ({ v := .iface u pv, recovered := false } :: older)) w fun e u' w' =>
      e = .returned (.tuple #[]) ∧ u' = .panicking ({ v := .iface u pv, recovered := true } :: older) ∧ w' = (w.setCell p (.int .i64 0)).setCell q (.bool false) := by
  refine callsD_of_wpS Tryz.func69 rfl fun c₀ cs hu => ?_
  apply wpS_seq
  apply wpS_region
  simp [wpOpsS, go_sem, recoverD, hu, Tryz.ntmps69, Exit.thenS]
  refine wpS_cond (t := true) (by simp [Act.eval, Array.replicate]) ?_
  simp only [if_true]
  apply wpS_region
  simp [wpOpsS, go_sem, hc, hz, hc2, hz2, bodyPostS, results, Tryz.results69]

theorem catchN_idle (p q : Addr) (w : World) :
    CallsD Tryz.prog 69 #[.pointer (some p), .pointer (some q)] .returning w fun e u' w' => e = .returned (.tuple #[]) ∧ u' = .returning ∧ w' = w := by
  refine callsD_of_wpS Tryz.func69 rfl fun c₀ cs hu => ?_
  apply wpS_seq
  apply wpS_region
  simp [wpOpsS, go_sem, recoverD, hu, Tryz.ntmps69, Exit.thenS]
  refine wpS_cond (t := false) (by simp [Act.eval, Array.replicate]) ?_
  simp only [Bool.false_eq_true, if_false]
  refine wpS_of_wp (wp_skip ?_)
  cases c₀
  simp_all [bodyPostS, results, Tryz.results69]

theorem bcell {W w1 : World} (hb : Below W.heap.size W w1) : (∀ b o, b < W.heap.size → w1.cell? ⟨b, o, none⟩ = W.cell? ⟨b, o, none⟩) ∧ (∀ b o, b < W.heap.size → w1.frozen? ⟨b, o, none⟩ = W.frozen? ⟨b, o, none⟩) :=
  ⟨fun b o h => hb.cell (p := ⟨b, o, none⟩) h, fun b o h => hb.frozen (p := ⟨b, o, none⟩) h⟩

/-- What the reading hands back. -/
def PairEnd (lo hi : Int) (l : List UInt8) (w : World) (e : Ending) (w' : World) : Prop :=
  Below w.heap.size w w' ∧ ∃ (v : Int) (b : Bool), e = .returned (.tuple #[.int .i64 v, .bool b]) ∧ Good lo hi l v b

set_option maxRecDepth 100000 in
set_option maxHeartbeats 400000 in
theorem iNumber_any (s : ByteArray) (w : World) (hs : s.size ≤ 281474976710656) (ht : PowTab w) (he : ErrVars w) (hz : 5 < w.heap.size) :
    Calls Tryz.prog 63 #[.string s] w (PairEnd 0 999999 s.data.toList w) := by
  have hmf : ∀ (fn : Fn) (first cap : Array Value) (w : World), (Instr.makeFunc fn first cap).run Tryz.prog w = .ok (.func fn first cap) w := fun _ _ _ _ => rfl
  have hb0 : Below w.heap.size w ((w.alloc (.cells #[.int .i64 0] 3)).alloc (.cells #[.bool false] 4)) := ((Below.refl _ _).alloc (Nat.le_refl _) _).alloc (by simp) _
  have HT := Lib.hid (ht.below hb0 (by omega)); clear ht
  have HE := Lib.hid (he.below hb0 (by omega)); clear he
  have HB0 := Lib.hid hb0; clear hb0
  go_enter_defers Tryz.func63, Tryz.ntmps63
  go_wp2_with fail
  refine (intOf_any s 0 999999 _ hs (by omega) (by omega) HT.out HE.out (by simp; omega)).mono ?_
  rintro e w1 ⟨hb, h⟩
  have hlen : w.heap.size + 1 < w1.heap.size := by have := hb.size; simp at this; omega
  obtain ⟨hcl, hfr⟩ := bcell hb
  have c0 : w1.cell? ⟨w.heap.size, 0, none⟩ = some (.int .i64 0) := by rw [hcl _ _ (by simp; omega)]; simp [go_sem]
  have c1 : w1.cell? ⟨w.heap.size + 1, 0, none⟩ = some (.bool false) := by rw [hcl _ _ (by simp)]; simp [go_sem]
  have f0 : w1.frozen? ⟨w.heap.size, 0, none⟩ = false := by rw [hfr _ _ (by simp; omega)]; simp [go_sem]
  have f1 : w1.frozen? ⟨w.heap.size + 1, 0, none⟩ = false := by rw [hfr _ _ (by simp)]; simp [go_sem]
  have HB := Lib.hid hb; clear hb hcl hfr
  rcases h with ⟨v, h0, h1, h2, rfl⟩ | ⟨hno, s', rfl⟩
  · have hg : Good 0 999999 s.data.toList v true := ⟨fun _ => ⟨h0, h1, h2⟩, fun h => by cases h⟩
    have HG := Lib.hid hg; clear hg h2
    go_wp2
    refine leaves_cons (f := 69) (args := #[.pointer (some ⟨w.heap.size, 0, none⟩), .pointer (some ⟨w.heap.size + 1, 0, none⟩)]) (by simp) (by simp [go_sem]) ?_
    refine (catchN_idle _ _ _).mono ?_
    rintro e u' w'' ⟨rfl, rfl, rfl⟩
    have r0 := World.cell?_setCell_same w1 ⟨w.heap.size, 0, none⟩ (Value.int .i64 v) c0
    have r1 := World.cell?_setCell_same (w1.setCell ⟨w.heap.size, 0, none⟩ (Value.int .i64 v)) ⟨w.heap.size + 1, 0, none⟩ (Value.bool true) (u := .bool false) (by simp [go_sem, c1])
    simp [Leaves, settle, results, Tryz.results63, go_sem, r0, r1]
    exact ⟨((HB0.out.trans (HB.out.mono HB0.out.size)).setCell (Nat.le_refl _) _).setCell (by simp) _, _, _, rfl, HG.out⟩
  · have hg : Good 0 999999 s.data.toList 0 false := ⟨fun h => (by cases h), fun _ => ⟨rfl, hno⟩⟩
    have HG := Lib.hid hg; clear hg hno
    go_wp2
    refine leaves_cons (f := 69) (args := #[.pointer (some ⟨w.heap.size, 0, none⟩), .pointer (some ⟨w.heap.size + 1, 0, none⟩)]) (by simp) (by simp [go_sem]) ?_
    refine (catchN_panicking _ _ 0 false _ _ _ _ ?_ ?_ ?_ ?_).mono ?_
    · exact c0
    · exact f0
    · intro v; simp [go_sem, c1]
    · intro v; simp [go_sem, f1]
    rintro e u' w'' ⟨rfl, rfl, rfl⟩
    have r0 := World.cell?_setCell_same w1 ⟨w.heap.size, 0, none⟩ (Value.int .i64 0) c0
    have r1 := World.cell?_setCell_same (w1.setCell ⟨w.heap.size, 0, none⟩ (Value.int .i64 0)) ⟨w.heap.size + 1, 0, none⟩ (Value.bool false) (u := .bool false) (by simp [go_sem, c1])
    simp [Leaves, settle, results, Tryz.results63, go_sem, r0, r1]
    exact ⟨((HB0.out.trans (HB.out.mono HB0.out.size)).setCell (Nat.le_refl _) _).setCell (by simp) _, _, _, rfl, HG.out⟩
end Go.Proofs.YtooiiomfahomjaaGreatDoor
