/-
  The draws of the laws on numbers and on splitting: what they hand back can be handed on.
-/
import Derived.Test.YtjdcehnjdfhbnaaDoorDrawB
import Derived.Test.YtjdcehnjdfhbnaaDoorFmt
namespace Go.Proofs.YtjdcehnjdfhbnaaDoor
open Go.RowKit

def leastI : Int := -9223372036854775808
def mostI : Int := 9223372036854775807

theorem new_ints (w : World) (zs : List Int) (t : TypeId) : ∀ i z, zs[i]? = some z → (w.alloc (.cells (zs.map (Value.int .i64)).toArray t)).cell? ⟨w.heap.size, i, none⟩ = some (.int .i64 z) := fun i z h => by
  rw [World.cell?_alloc_mark w (zs.map (Value.int .i64)).toArray t (0, 0) i]
  simp [h]
theorem new_strs (w : World) (ps : List ByteArray) (t : TypeId) : ∀ i p, ps[i]? = some p → (w.alloc (.cells (ps.map Value.string).toArray t)).cell? ⟨w.heap.size, i, none⟩ = some (.string p) := fun i p h => by
  rw [World.cell?_alloc_mark w (ps.map Value.string).toArray t (0, 0) i]
  simp [h]
theorem CurAt.alloc {w : World} {B : Nat} {cv : Value} {len : Nat} (h : CurAt w B cv len) (o : Obj) : CurAt (w.alloc o) B cv len := by
  have hl := h.lt
  obtain ⟨i, x, hi, hB⟩ := h
  exact ⟨i, x, hi, by rw [Below.heap_alloc _ _ _ hl]; exact hB⟩
theorem CodeAt.alloc {w : World} {B : Nat} {cv : Value} {len : Nat} (h : CodeAt w B cv len) (hB : B < w.heap.size) (o : Obj) : CodeAt (w.alloc o) B cv len :=
  h.grown hB (World.grownBy_alloc w o (some B))

def wholes : List Int := [0, 1, -1, 9, 10, 999999, 1000000, 999999999999, 1000000000000, -999999999999, 9223372036854775807, -9223372036854775808]
theorem wholes_in : ∀ z ∈ wholes, leastI ≤ z ∧ z ≤ mostI := by
  unfold wholes leastI mostI
  intro z hz
  simp only [List.mem_cons, List.mem_nil_iff, or_false] at hz
  omega

set_option maxRecDepth 100000 in
set_option maxHeartbeats 800000 in
theorem whole_any (B : Nat) (cv : Value) (len : Nat) (w : World) (hcode : CodeAt w B cv len) (hcur : CurAt w B cv len) :
    Calls Tryd.prog 25 #[.pointer (some ⟨B, 0, none⟩)] w (NumEnd leastI mostI B cv len w) := by
  have HC := Lib.hid hcode; clear hcode
  have HU := Lib.hid hcur; clear hcur
  go_enter Tryd.func25, Tryd.ntmps25
  go_wp2_with fail
  refine (below_any B cv len 3 _ (by decide) (by decide) HC.out HU.out).mono ?_
  rintro e w1 ⟨x, rfl, x0, x1, hu1, hg1⟩
  have HC1 := Lib.hid (HC.out.grown HU.out.lt hg1)
  have HU1 := Lib.hid hu1; clear hu1
  have HG1 := Lib.hid hg1; clear hg1
  by_cases hx0 : x = 0
  · subst hx0
    have c : Calls Tryd.prog 34 #[.pointer (some ⟨B, 0, none⟩), .slice (some ⟨w1.heap.size, 0, none⟩) 12 12] (w1.alloc (.cells #[.int .i64 0, .int .i64 1, .int .i64 (-1), .int .i64 9, .int .i64 10, .int .i64 999999, .int .i64 1000000, .int .i64 999999999999, .int .i64 1000000000000, .int .i64 (-999999999999), .int .i64 9223372036854775807, .int .i64 (-9223372036854775808)] 3)) (PickEnd (wholes.map (Value.int .i64)) B cv len (w1.alloc (.cells #[.int .i64 0, .int .i64 1, .int .i64 (-1), .int .i64 9, .int .i64 10, .int .i64 999999, .int .i64 1000000, .int .i64 999999999999, .int .i64 1000000000000, .int .i64 (-999999999999), .int .i64 9223372036854775807, .int .i64 (-9223372036854775808)] 3))) :=
      pickInt_any B w1.heap.size 12 cv len wholes (w1.alloc (.cells (wholes.map (Value.int .i64)).toArray 3)) (by decide) (by decide) (by have := HU1.out.lt; omega) (new_ints w1 wholes _) (HC1.out.alloc HU1.out.lt _) (HU1.out.alloc _)
    have HK := Lib.hid c; clear c
    go_wp2_with fail
    refine HK.out.mono ?_
    rintro e w2 ⟨v, hv, rfl, hu2, hg2⟩
    obtain ⟨z, hz, rfl⟩ := List.mem_map.1 hv
    have HZ := Lib.hid (wholes_in z hz); clear hz hv
    have HU2 := Lib.hid hu2; clear hu2
    have HG2 := Lib.hid (grown_trans (grown_trans HG1.out (World.grownBy_alloc w1 _ (some B))) hg2); clear hg2
    go_wp2
    go_ret
    exact ⟨z, rfl, HZ.out.1, HZ.out.2, HU2.out, HG2.out⟩
  · have hq0 : (x == 0) = false := by simp; exact hx0
    by_cases hx1 : x = 1
    · subst hx1
      go_wp2_with fail
      refine (below_any B cv len 1000000 _ (by decide) (by decide) HC1.out HU1.out).mono ?_
      rintro e w2 ⟨y, rfl, y0, y1, hu2, hg2⟩
      have HU2 := Lib.hid hu2; clear hu2
      have HG2 := Lib.hid (grown_trans HG1.out hg2); clear hg2
      have hy : leastI ≤ y - 500000 ∧ y - 500000 ≤ mostI := by unfold leastI mostI; omega
      have HY := Lib.hid hy; clear hy
      go_wp2
      go_ret
      exact ⟨y - 500000, rfl, HY.out.1, HY.out.2, HU2.out, HG2.out⟩
    · have hq1 : (x == 1) = false := by simp; exact hx1
      clear hx0 hx1
      go_wp2_with fail
      refine (below_any B cv len 20 _ (by decide) (by decide) HC1.out HU1.out).mono ?_
      rintro e w2 ⟨y, rfl, y0, y1, hu2, hg2⟩
      have HU2 := Lib.hid hu2; clear hu2
      have HG2 := Lib.hid (grown_trans HG1.out hg2); clear hg2
      have hy : leastI ≤ y ∧ y ≤ mostI := by unfold leastI mostI; omega
      have HY := Lib.hid hy; clear hy
      go_wp2
      go_ret
      exact ⟨y, rfl, HY.out.1, HY.out.2, HU2.out, HG2.out⟩

/-- A slice of bytes that came in serves in every later world. -/
theorem CodeAt.below {w w' : World} {cv : Value} {len : Nat} (h : CodeAt w w.heap.size cv len) (hb : Below w.heap.size w w') : CodeAt w' w'.heap.size cv len := by
  obtain ⟨h1, a, cap, rfl, h2⟩ := h
  refine ⟨h1, a, cap, rfl, ?_⟩
  rcases h2 with h2 | ⟨b, o, rfl, hlt, hc⟩
  · exact Or.inl h2
  · refine Or.inr ⟨b, o, rfl, Nat.lt_of_lt_of_le hlt hb.size, fun j hj => ?_⟩
    obtain ⟨z, z0, z1, hz⟩ := hc j hj
    exact ⟨z, z0, z1, by rw [hb.cell (by exact hlt)]; exact hz⟩
theorem CodeAt.at_new {w w' : World} {cv : Value} {len : Nat} (h : CodeAt w w.heap.size cv len) (hb : Below w.heap.size w w') : CodeAt w' w.heap.size cv len := by
  obtain ⟨h1, a, cap, rfl, h2⟩ := h
  refine ⟨h1, a, cap, rfl, ?_⟩
  rcases h2 with h2 | ⟨b, o, rfl, hlt, hc⟩
  · exact Or.inl h2
  · refine Or.inr ⟨b, o, rfl, hlt, fun j hj => ?_⟩
    obtain ⟨z, z0, z1, hz⟩ := hc j hj
    exact ⟨z, z0, z1, by rw [hb.cell (by exact hlt)]; exact hz⟩
theorem below_own {w w1 w2 : World} (hb : Below w.heap.size w w1) (hg : w1.grownBy w2 (some w.heap.size)) : Below w.heap.size w w2 :=
  hb.grown hg hb.size (fun k hk => by cases hk; exact Nat.le_refl _)

def DrawnInt (w : World) (e : Ending) (w' : World) : Prop := ∃ x : Int, e = .returned (.int .i64 x) ∧ leastI ≤ x ∧ x ≤ mostI ∧ Below w.heap.size w w'

set_option maxRecDepth 100000 in
set_option maxHeartbeats 400000 in
theorem drawFormat_any (cv : Value) (len : Nat) (w : World) (hcode : CodeAt w w.heap.size cv len) :
    Calls Tryd.prog 10 #[cv] w (DrawnInt w) := by
  have HC := Lib.hid hcode; clear hcode
  go_enter Tryd.func10, Tryd.ntmps10
  go_wp2_with fail
  refine (new_any cv len _ HC.out).mono ?_
  rintro e w1 ⟨rfl, hu1, hb1, _⟩
  have HC1 := Lib.hid (HC.out.at_new hb1)
  have HU1 := Lib.hid hu1; clear hu1
  have HB1 := Lib.hid hb1; clear hb1
  go_wp2_with fail
  refine (whole_any w.heap.size cv len _ HC1.out HU1.out).mono ?_
  rintro e w2 ⟨x, rfl, x0, x1, hu2, hg2⟩
  have HX := Lib.hid (And.intro x0 x1); clear x0 x1 hu2
  have HB2 := Lib.hid (below_own HB1.out hg2); clear hg2
  go_wp2
  go_ret
  exact ⟨x, rfl, HX.out.1, HX.out.2, HB2.out⟩

def DrawnStr (w : World) (e : Ending) (w' : World) : Prop := ∃ s : ByteArray, e = .returned (.string s) ∧ s.size ≤ 1000 ∧ Below w.heap.size w w'

def numTexts : List ByteArray := [⟨#[]⟩, ⟨#[48, 48]⟩, ⟨#[48, 49]⟩, ⟨#[45, 49]⟩, ⟨#[43, 49]⟩, ⟨#[120]⟩, ⟨#[57, 57, 57, 57, 57, 57]⟩, ⟨#[49, 48, 48, 48, 48, 48, 48]⟩, ⟨#[45, 48]⟩, ⟨#[45]⟩, ⟨#[32, 49]⟩, ⟨#[49, 32]⟩]
theorem numTexts_short : ∀ p ∈ numTexts, p.size ≤ 1000 := by
  unfold numTexts
  intro p hp
  simp only [List.mem_cons, List.mem_nil_iff, or_false] at hp
  rcases hp with rfl | rfl | rfl | rfl | rfl | rfl | rfl | rfl | rfl | rfl | rfl | rfl <;> decide

set_option maxRecDepth 100000 in
set_option maxHeartbeats 800000 in
theorem drawNumber_any (cv : Value) (len : Nat) (w : World) (hcode : CodeAt w w.heap.size cv len) :
    Calls Tryd.prog 14 #[cv] w (DrawnStr w) := by
  have HC := Lib.hid hcode; clear hcode
  go_enter Tryd.func14, Tryd.ntmps14
  go_wp2_with fail
  refine (new_any cv len _ HC.out).mono ?_
  rintro e w1 ⟨rfl, hu1, hb1, _⟩
  have HC1 := Lib.hid (HC.out.at_new hb1)
  have HU1 := Lib.hid hu1; clear hu1
  have HB1 := Lib.hid hb1; clear hb1
  go_wp2_with fail
  refine (once_any w.heap.size cv len 2 _ (by decide) (by decide) HC1.out HU1.out).mono ?_
  rintro e w2 ⟨q, rfl, hu2, hg2⟩
  have HC2 := Lib.hid (HC1.out.grown HU1.out.lt hg2)
  have HU2 := Lib.hid hu2; clear hu2
  have HB2 := Lib.hid (below_own HB1.out hg2); clear hg2
  cases q
  · have c : Calls Tryd.prog 31 #[.pointer (some ⟨w.heap.size, 0, none⟩), .slice (some ⟨w2.heap.size, 0, none⟩) 12 12] (w2.alloc (.cells #[.string ⟨#[]⟩, .string ⟨#[48, 48]⟩, .string ⟨#[48, 49]⟩, .string ⟨#[45, 49]⟩, .string ⟨#[43, 49]⟩, .string ⟨#[120]⟩, .string ⟨#[57, 57, 57, 57, 57, 57]⟩, .string ⟨#[49, 48, 48, 48, 48, 48, 48]⟩, .string ⟨#[45, 48]⟩, .string ⟨#[45]⟩, .string ⟨#[32, 49]⟩, .string ⟨#[49, 32]⟩] 9)) (PickEnd (numTexts.map Value.string) w.heap.size cv len (w2.alloc (.cells #[.string ⟨#[]⟩, .string ⟨#[48, 48]⟩, .string ⟨#[48, 49]⟩, .string ⟨#[45, 49]⟩, .string ⟨#[43, 49]⟩, .string ⟨#[120]⟩, .string ⟨#[57, 57, 57, 57, 57, 57]⟩, .string ⟨#[49, 48, 48, 48, 48, 48, 48]⟩, .string ⟨#[45, 48]⟩, .string ⟨#[45]⟩, .string ⟨#[32, 49]⟩, .string ⟨#[49, 32]⟩] 9))) :=
      pick_any w.heap.size w2.heap.size 12 cv len numTexts (w2.alloc (.cells (numTexts.map Value.string).toArray 9)) (by decide) (by decide) (by have := HU2.out.lt; omega) (new_strs w2 numTexts _) (HC2.out.alloc HU2.out.lt _) (HU2.out.alloc _)
    have HK := Lib.hid c; clear c
    go_wp2_with fail
    refine HK.out.mono ?_
    rintro e w3 ⟨v, hv, rfl, hu3, hg3⟩
    obtain ⟨p, hp, rfl⟩ := List.mem_map.1 hv
    have HP := Lib.hid (numTexts_short p hp); clear hp hv hu3
    have HB3 := Lib.hid (below_own (HB2.out.alloc HB2.out.size _) hg3); clear hg3
    go_wp2
    go_ret
    exact ⟨p, rfl, HP.out, HB3.out⟩
  · go_wp2_with fail
    refine (whole_any w.heap.size cv len _ HC2.out HU2.out).mono ?_
    rintro e w3 ⟨x, rfl, x0, x1, hu3, hg3⟩
    have HB3 := Lib.hid (below_own HB2.out hg3); clear hg3 hu3
    have HX := Lib.hid (And.intro x0 x1); clear x0 x1
    go_wp2_with fail
    refine (sFormat_any x _ (by have := HX.out.1; unfold leastI at this; exact this) (by have := HX.out.2; unfold mostI at this; exact this)).mono ?_
    rintro e w4 ⟨rfl, hb4⟩
    have HB4 := Lib.hid (HB3.out.trans (hb4.mono HB3.out.size)); clear hb4
    have hl : (⟨(Lib.itoa x).toArray⟩ : ByteArray).size ≤ 1000 := by
      have h := Lib.itoa_length_le x (by have := HX.out.1; unfold leastI at this; exact this) (by have := HX.out.2; unfold mostI at this; exact this)
      have e : (⟨(Lib.itoa x).toArray⟩ : ByteArray).size = (Lib.itoa x).length := by simp [ByteArray.size]
      omega
    have HL := Lib.hid hl; clear hl
    go_wp2
    go_ret
    exact ⟨_, rfl, HL.out, HB4.out⟩

def splitTexts : List ByteArray := [⟨#[]⟩, ⟨#[97]⟩, ⟨#[97, 44, 98]⟩, ⟨#[44]⟩, ⟨#[97, 44, 44, 98, 44]⟩, ⟨#[97, 10, 98, 10]⟩]
theorem splitTexts_short : ∀ p ∈ splitTexts, p.size ≤ 1000 := by
  unfold splitTexts
  intro p hp
  simp only [List.mem_cons, List.mem_nil_iff, or_false] at hp
  rcases hp with rfl | rfl | rfl | rfl | rfl | rfl <;> decide
def splitBytes : List Int := [44, 10]
def DrawnSplit (w : World) (e : Ending) (w' : World) : Prop := ∃ (s : ByteArray) (c : UInt8), e = .returned (.tuple #[.string s, .int .u8 (c.toNat : Int)]) ∧ s.size ≤ 1000 ∧ Below w.heap.size w w'

set_option maxRecDepth 100000 in
set_option maxHeartbeats 800000 in
theorem drawSplit_any (cv : Value) (len : Nat) (w : World) (hcode : CodeAt w w.heap.size cv len) :
    Calls Tryd.prog 17 #[cv] w (DrawnSplit w) := by
  have HC := Lib.hid hcode; clear hcode
  go_enter Tryd.func17, Tryd.ntmps17
  go_wp2_with fail
  refine (new_any cv len _ HC.out).mono ?_
  rintro e w1 ⟨rfl, hu1, hb1, _⟩
  have HC1 := Lib.hid (HC.out.at_new hb1)
  have HU1 := Lib.hid hu1; clear hu1
  have HB1 := Lib.hid hb1; clear hb1
  have c : Calls Tryd.prog 31 #[.pointer (some ⟨w.heap.size, 0, none⟩), .slice (some ⟨w1.heap.size, 0, none⟩) 6 6] (w1.alloc (.cells #[.string ⟨#[]⟩, .string ⟨#[97]⟩, .string ⟨#[97, 44, 98]⟩, .string ⟨#[44]⟩, .string ⟨#[97, 44, 44, 98, 44]⟩, .string ⟨#[97, 10, 98, 10]⟩] 9)) (PickEnd (splitTexts.map Value.string) w.heap.size cv len (w1.alloc (.cells #[.string ⟨#[]⟩, .string ⟨#[97]⟩, .string ⟨#[97, 44, 98]⟩, .string ⟨#[44]⟩, .string ⟨#[97, 44, 44, 98, 44]⟩, .string ⟨#[97, 10, 98, 10]⟩] 9))) :=
    pick_any w.heap.size w1.heap.size 6 cv len splitTexts (w1.alloc (.cells (splitTexts.map Value.string).toArray 9)) (by decide) (by decide) (by have := HU1.out.lt; omega) (new_strs w1 splitTexts _) (HC1.out.alloc HU1.out.lt _) (HU1.out.alloc _)
  have HK := Lib.hid c; clear c
  go_wp2_with fail
  refine HK.out.mono ?_
  rintro e w2 ⟨v, hv, rfl, hu2, hg2⟩
  obtain ⟨p, hp, rfl⟩ := List.mem_map.1 hv
  have HP := Lib.hid (splitTexts_short p hp); clear hp hv
  have HC2 := Lib.hid ((HC1.out.alloc HU1.out.lt _).grown (HU1.out.alloc _).lt hg2)
  have HB2 := Lib.hid (below_own (HB1.out.alloc HB1.out.size _) hg2); clear hg2
  have HU2 := Lib.hid hu2; clear hu2
  have c2 : Calls Tryd.prog 34 #[.pointer (some ⟨w.heap.size, 0, none⟩), .slice (some ⟨w2.heap.size, 0, none⟩) 2 2] (w2.alloc (.cells #[.int .i64 44, .int .i64 10] 3)) (PickEnd (splitBytes.map (Value.int .i64)) w.heap.size cv len (w2.alloc (.cells #[.int .i64 44, .int .i64 10] 3))) :=
    pickInt_any w.heap.size w2.heap.size 2 cv len splitBytes (w2.alloc (.cells (splitBytes.map (Value.int .i64)).toArray 3)) (by decide) (by decide) (by have := HU2.out.lt; omega) (new_ints w2 splitBytes _) (HC2.out.alloc HU2.out.lt _) (HU2.out.alloc _)
  have HK2 := Lib.hid c2; clear c2
  go_wp2_with fail
  refine HK2.out.mono ?_
  rintro e w3 ⟨v, hv, rfl, hu3, hg3⟩
  obtain ⟨z, hz, rfl⟩ := List.mem_map.1 hv
  have HB3 := Lib.hid (below_own (HB2.out.alloc HB2.out.size _) hg3); clear hg3 hu3 hv
  have hz2 : z = 44 ∨ z = 10 := by simpa [splitBytes] using hz
  clear hz
  rcases hz2 with rfl | rfl
  · go_wp2
    go_ret2
    exact ⟨p, 44, rfl, HP.out, HB3.out⟩
  · go_wp2
    go_ret2
    exact ⟨p, 10, rfl, HP.out, HB3.out⟩
end Go.Proofs.YtjdcehnjdfhbnaaDoor
