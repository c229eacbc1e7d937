/-
  impl.integerOf: the integer within the limits whose numeral s is, or a panic; under what the library's variables hold.
-/
import Derived.Test.YtjdcehnjdfhbnaaDoorItoa
import Derived.Test.YtjdcehnjdfhbnaaDoorMathB
import Derived.Shelf.Strconv.ErrVarAll
import Derived.Lib.AtoiErrMem
import Derived.Lib.AtoiAllMem
namespace Go.Proofs.YtjdcehnjdfhbnaaDoor
open Go.RowKit

def synName : String := Rows.fnExactParseNumberRow.named.headD "x"
def rngName : String := Rows.fnExactParseNumberRow.named.tail.headD "x"
/-- The library's two error variables hold each some error. -/
def ErrVars (w : World) : Prop := (∃ tp p, w.var? Tryd.prog synName = some #[.iface tp p]) ∧ ∃ tp p, w.var? Tryd.prog rngName = some #[.iface tp p]
theorem gSyn : Tryd.prog.globalNamed synName = some 1 := by kernel_rfl
theorem gRng : Tryd.prog.globalNamed rngName = some 2 := by kernel_rfl
theorem ErrVars.below {B : Nat} {w w' : World} (h : ErrVars w) (hb : Below B w w') (hB : 7 < B) : ErrVars w' := by
  obtain ⟨⟨tp, p, h1⟩, tq, q, h2⟩ := h
  exact ⟨⟨tp, p, var?_below hb gSyn (by omega) h1⟩, tq, q, var?_below hb gRng (by omega) h2⟩

/-- How the reading ends: the integer, or a panic of a string. -/
def IntEnd (lo hi : Int) (l : List UInt8) (w : World) (e : Ending) (w' : World) : Prop :=
  Below w.heap.size w w' ∧ ((∃ v, lo ≤ v ∧ v ≤ hi ∧ Lib.itoa v = l ∧ e = .returned (.int .i64 v)) ∨
    ((∀ u, lo ≤ u → u ≤ hi → Lib.itoa u ≠ l) ∧ ∃ s, e = .panicked [{ v := .iface 9 (.string s), recovered := false }]))

set_option maxRecDepth 100000 in
set_option maxHeartbeats 400000 in
theorem intOf_syn (s : ByteArray) (lo hi : Int) (w : World) (hs : s.size ≤ 281474976710656) (hlo : -9223372036854775808 ≤ lo) (hhi : hi ≤ 9223372036854775807) (he : ErrVars w)
    (h : Lib.atoiAll s.data.toList = Lib.atoiAll []) :
    Calls Tryd.prog 29 #[.string s, .int .i64 lo, .int .i64 hi] w (IntEnd lo hi s.data.toList w) := by
  obtain ⟨⟨tp, p, hv⟩, -⟩ := he
  have hno : ∀ u, lo ≤ u → u ≤ hi → Lib.itoa u ≠ s.data.toList := fun u h0 h1 e => by
    rw [← e, atoi_itoa u (by omega) (by omega)] at h
    have e0 : Lib.atoiAll [] = Lib.signless (Lib.parseMag []) := rfl
    rw [e0] at h
    simp [Lib.parseMag, Lib.signless] at h
  have HN := Lib.hid hno; clear hno
  have HV := Lib.hid hv; clear hv
  have HA := Lib.hid h; clear h
  go_enter Tryd.func29, Tryd.ntmps29
  go_wp2_with fail
  refine (Any.strconv_Atoi_syntax_var Tryd.laysC172 s hs HA.out tp p _ HV.out).mono ?_
  rintro e w1 ⟨N, rfl, -, -, hb⟩
  go_wp2
  exact ⟨rfl, hb, Or.inr ⟨HN.out, _, rfl⟩⟩

set_option maxRecDepth 100000 in
set_option maxHeartbeats 400000 in
theorem intOf_range (s : ByteArray) (lo hi : Int) (w : World) (hs : s.size ≤ 281474976710656) (hlo : -9223372036854775808 ≤ lo) (hhi : hi ≤ 9223372036854775807) (he : ErrVars w)
    (h : Lib.atoiAll s.data.toList = .range) :
    Calls Tryd.prog 29 #[.string s, .int .i64 lo, .int .i64 hi] w (IntEnd lo hi s.data.toList w) := by
  obtain ⟨-, tp, p, hv⟩ := he
  have hno : ∀ u, lo ≤ u → u ≤ hi → Lib.itoa u ≠ s.data.toList := fun u h0 h1 e => by
    rw [← e, atoi_itoa u (by omega) (by omega)] at h; cases h
  have HN := Lib.hid hno; clear hno
  have HV := Lib.hid hv; clear hv
  have HA := Lib.hid h; clear h
  go_enter Tryd.func29, Tryd.ntmps29
  go_wp2_with fail
  refine (Any.strconv_Atoi_range_var Tryd.laysC172 s hs HA.out tp p _ HV.out).mono ?_
  rintro e w1 ⟨N, rfl, -, -, hb⟩
  go_wp2
  exact ⟨rfl, hb, Or.inr ⟨HN.out, _, rfl⟩⟩

set_option maxRecDepth 100000 in
set_option maxHeartbeats 400000 in
/-- The library reads an int that lies outside the limits. -/
theorem intOf_out (s : ByteArray) (lo hi v : Int) (w : World) (hs : s.size ≤ 281474976710656) (hlo : -9223372036854775808 ≤ lo) (hhi : hi ≤ 9223372036854775807)
    (h : Lib.atoiAll s.data.toList = .ok v) (hv : v < lo ∨ hi < v) :
    Calls Tryd.prog 29 #[.string s, .int .i64 lo, .int .i64 hi] w (IntEnd lo hi s.data.toList w) := by
  have hno : ∀ u, lo ≤ u → u ≤ hi → Lib.itoa u ≠ s.data.toList := fun u h0 h1 e => by
    rw [← e, atoi_itoa u (by omega) (by omega)] at h; injection h with h; omega
  have HN := Lib.hid hno; clear hno
  have HA := Lib.hid h; clear h
  rcases hv with hv | hv
  · go_enter Tryd.func29, Tryd.ntmps29
    go_wp2_with fail
    refine (Any.strconv_Atoi_ok Tryd.laysC172 s (by omega) v HA.out _).mono ?_
    rintro e w1 ⟨rfl, hw⟩
    have hb : Below w.heap.size w w1 := by
      rcases hw with rfl | ⟨t, rfl⟩
      · exact Below.refl _ _
      · exact Lib.bytesWorld_below _ _ _
    clear hw
    go_wp2
    exact ⟨rfl, hb, Or.inr ⟨HN.out, _, rfl⟩⟩
  · by_cases hl : v < lo
    all_goals
      go_enter Tryd.func29, Tryd.ntmps29
      go_wp2_with fail
      refine (Any.strconv_Atoi_ok Tryd.laysC172 s (by omega) v HA.out _).mono ?_
      rintro e w1 ⟨rfl, hw⟩
      have hb : Below w.heap.size w w1 := by
        rcases hw with rfl | ⟨t, rfl⟩
        · exact Below.refl _ _
        · exact Lib.bytesWorld_below _ _ _
      clear hw
      go_wp2
      exact ⟨rfl, hb, Or.inr ⟨HN.out, _, rfl⟩⟩

set_option maxRecDepth 100000 in
set_option maxHeartbeats 400000 in
/-- The library reads an int within the limits: then its numeral is held against s. -/
theorem intOf_in (s : ByteArray) (lo hi v : Int) (w : World) (hs : s.size ≤ 281474976710656) (hlo : -9223372036854775808 ≤ lo) (hhi : hi ≤ 9223372036854775807) (ht : PowTab w) (hz : 7 < w.heap.size)
    (h : Lib.atoiAll s.data.toList = .ok v) (hv0 : lo ≤ v) (hv1 : v ≤ hi) :
    Calls Tryd.prog 29 #[.string s, .int .i64 lo, .int .i64 hi] w (IntEnd lo hi s.data.toList w) := by
  have HT := Lib.hid ht; clear ht
  have HA := Lib.hid h; clear h
  by_cases hc : Lib.itoa v = s.data.toList
  · have hq : (Lib.itoa v == s.toList) = true := by rw [ByteArray.toList_eq]; simpa using hc
    have HC := Lib.hid hc; clear hc
    go_enter Tryd.func29, Tryd.ntmps29
    go_wp2_with fail
    refine (Any.strconv_Atoi_ok Tryd.laysC172 s (by omega) v HA.out _).mono ?_
    rintro e w1 ⟨rfl, hw⟩
    have hb : Below w.heap.size w w1 := by
      rcases hw with rfl | ⟨t, rfl⟩
      · exact Below.refl _ _
      · exact Lib.bytesWorld_below _ _ _
    clear hw
    go_wp2_with fail
    refine (iFormat_any v _ (by omega) (by omega) (HT.out.below hb (by omega))).mono ?_
    rintro e w2 ⟨rfl, hb2⟩
    go_wp2
    go_ret
    exact ⟨hb.trans (hb2.mono hb.size), Or.inl ⟨v, hv0, hv1, HC.out, rfl⟩⟩
  · have hq : (Lib.itoa v == s.toList) = false := by rw [ByteArray.toList_eq]; simpa using hc
    have hno : ∀ u, lo ≤ u → u ≤ hi → Lib.itoa u ≠ s.data.toList := fun u h0 h1 e => by
      have h2 := HA.out
      rw [← e, atoi_itoa u (by omega) (by omega)] at h2
      injection h2 with h2
      subst h2
      exact hc e
    have HN := Lib.hid hno; clear hno hc
    go_enter Tryd.func29, Tryd.ntmps29
    go_wp2_with fail
    refine (Any.strconv_Atoi_ok Tryd.laysC172 s (by omega) v HA.out _).mono ?_
    rintro e w1 ⟨rfl, hw⟩
    have hb : Below w.heap.size w w1 := by
      rcases hw with rfl | ⟨t, rfl⟩
      · exact Below.refl _ _
      · exact Lib.bytesWorld_below _ _ _
    clear hw
    go_wp2_with fail
    refine (iFormat_any v _ (by omega) (by omega) (HT.out.below hb (by omega))).mono ?_
    rintro e w2 ⟨rfl, hb2⟩
    go_wp2
    exact ⟨rfl, hb.trans (hb2.mono hb.size), Or.inr ⟨HN.out, _, rfl⟩⟩

/-- impl.integerOf, at every string. -/
theorem intOf_any (s : ByteArray) (lo hi : Int) (w : World) (hs : s.size ≤ 281474976710656) (hlo : -9223372036854775808 ≤ lo) (hhi : hi ≤ 9223372036854775807) (ht : PowTab w) (he : ErrVars w) (hz : 7 < w.heap.size) :
    Calls Tryd.prog 29 #[.string s, .int .i64 lo, .int .i64 hi] w (IntEnd lo hi s.data.toList w) := by
  cases h : Lib.atoiAll s.data.toList
  · rename_i v
    by_cases hv : lo ≤ v ∧ v ≤ hi
    · exact intOf_in s lo hi v w hs hlo hhi ht hz h hv.1 hv.2
    · exact intOf_out s lo hi v w hs hlo hhi h (by omega)
  · exact intOf_syn s lo hi w hs hlo hhi he h
  · exact intOf_range s lo hi w hs hlo hhi he h
end Go.Proofs.YtjdcehnjdfhbnaaDoor
