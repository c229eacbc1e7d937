/-
  The draws of the law on texts: a term, and a text that may be a term's representation.
  A slice of strings: what it holds. No walk.
  A slice of strings that came in, or that was made: small facts. No walk.
  The names of the library's tables and variables that the reading and the writing of numbers need.
  impl.FormatInt returns the decimal numeral of its argument, for every int, where the table of powers of ten is as the library lays it.
  impl.Join returns the elements with the separator between them.
  impl.formOf says what a node is by its kind alone; type assertions on the forms.
  impl.IsVarName tells the names of variables.
  impl.isInvalidNode tells whether a node has none of the three forms.
  impl.argsOf returns the row of all arguments of a row of terms, in memory of the call's own.
  The first level of a walk level by level. No walk.
  impl.IsValidTerm, level by level, tells whether a term is valid.
-/
import Derived.Test.YtidbokheeieifaaGreatDoorQ9
import Derived.Test.YtidbokheeieifaaGreatDoorQ22
import Derived.Test.YtidbokheeieifaaGreatDoorRows
import Derived.Test.YtidbokheeieifaaGreatDoorQ5
import Derived.Test.YtidbokheeieifaaGreatDoorQ1
import Derived.Test.YtidbokheeieifaaGreatDoorQ2
import Derived.Test.YtidbokheeieifaaGreatDoorQ8
import Derived.Deep.RegionLaw
import Derived.WalkKit
import Derived.WalkSpells
import Derived.WalkLawsBesides
import Derived.Lib.Hide
import Derived.BigQuiet
import Derived.Deep.QuietTactic
import Derived.ProofKit
import Derived.Shelf.Strconv.Itoa3
import Derived.Lib.AppendIntMem
import Derived.Shelf.Strings.OnBuilder
import Derived.Laws.OwnMore
import Derived.Deep.LoopGhost
namespace Go.Proofs.YtidbokheeieifaaGreatDoor
open Go.RowKit

theorem fmtT_size (t : T) : (fmtT t).size ≤ 720 := by
  by_cases h : ValidT t
  · rw [fmtT_ok h, strT_size]
    have h1 := textL_le t h.2.2
    have h2 := h.1
    omega
  · rw [fmtT_no h]; exact Nat.zero_le _

/-- A text was drawn. -/
def TurnedEnd (B : Nat) (w : World) (e : Ending) (w' : World) : Prop := ∃ u : ByteArray, e = .returned (.string u) ∧ u.size ≤ 3000 ∧ w.grownBy w' (some B)

theorem codeAt_drew {w : World} {B : Nat} {cv : Value} {len : Nat} (h : CodeAt w B cv len) : CodeAt w.drew B cv len := h
theorem curAt_drew {w : World} {B : Nat} {cv : Value} {len : Nat} (h : CurAt w B cv len) : CurAt w.drew B cv len := h

set_option maxRecDepth 100000 in
set_option maxHeartbeats 1600000 in
theorem turned_any (B g cap : Nat) (cv : Value) (len : Nat) (s : ByteArray) (ps : List ByteArray) (w : World) (hcode : CodeAt w B cv len) (hcur : CurAt w B cv len) (hs : s.size ≤ 1600) (hg : g ≠ B)
    (h1 : 1 ≤ ps.length) (h2 : ps.length ≤ 1000) (hps : ∀ p ∈ ps, p.size ≤ 100) (hc : ∀ i p, ps[i]? = some p → w.cell? ⟨g, i, none⟩ = some (.string p)) :
    Calls Tryz.prog 30 #[.pointer (some ⟨B, 0, none⟩), .string s, .slice (some ⟨g, 0, none⟩) ps.length cap] w (TurnedEnd B w) := by
  have HC := Lib.hid hcode; clear hcode
  have HU := Lib.hid hcur; clear hcur
  have HPS := Lib.hid hps; clear hps
  have HCE := Lib.hid hc; clear hc
  have HN := Lib.hid (And.intro h1 h2); clear h1 h2
  have hbel := below_any B cv len (s.size + 1) w (by omega) (by omega) HC.out HU.out
  rw [show (((s.size + 1 : Nat) : Int)) = (s.size : Int) + 1 by omega] at hbel
  have HB := Lib.hid hbel; clear hbel
  go_enter Tryz.func30, Tryz.ntmps30
  go_wp2_with fail
  refine HB.out.mono ?_
  rintro e w1 ⟨at1, rfl, a0, a1, hu1, hg1⟩
  have HC1 := Lib.hid (HC.out.grown HU.out.lt hg1)
  have HCE1 : Hid (∀ i p, ps[i]? = some p → w1.cell? ⟨g, i, none⟩ = some (.string p)) := Lib.hid (fun i p h => hg1.cell (HCE.out i p h) (fun e => hg (by simpa using e)))
  have HU1 := Lib.hid hu1; clear hu1
  have HG1 := Lib.hid hg1; clear hg1
  go_wp2_with fail
  refine (below_any B cv len 6 _ (by decide) (by decide) HC1.out HU1.out).mono ?_
  rintro e w2 ⟨x, rfl, x0, x1, hu2, hg2⟩
  have HC2 := Lib.hid (HC1.out.grown HU1.out.lt hg2)
  have HCE2 : Hid (∀ i p, ps[i]? = some p → w2.cell? ⟨g, i, none⟩ = some (.string p)) := Lib.hid (fun i p h => hg2.cell (HCE1.out i p h) (fun e => hg (by simpa using e)))
  have HU2 := Lib.hid hu2; clear hu2
  have HG2 := Lib.hid (grown_trans HG1.out hg2); clear hg2
  have hle : at1 ≤ (s.size : Int) := by omega
  by_cases hx0 : x = 0
  · subst hx0
    have HPK := Lib.hid (pick_any B g cap cv len ps w2.drew HN.out.1 HN.out.2 hg (fun i p h => HCE2.out i p h) (codeAt_drew HC2.out) (curAt_drew HU2.out))
    go_wp2
    go_region_with (go_at_call 50; refine HPK.out.mono ?_; rintro e w3 ⟨v, hv, rfl, hu3, hg3⟩; obtain ⟨p, hp, rfl⟩ := List.mem_map.1 hv; have hpz := HPS.out p hp; have HG3 := Lib.hid (grown_trans HG2.out (grown_trans (Below.toGrown ((Below.refl _ _).drew) (some B)) hg3)); clear hv hp hu3 hg3)
    all_goals (
      go_wp2
      go_ret
      exact ⟨_, rfl, by simp only [ByteArray.size_append, ByteArray.size_extract]; omega, HG3.out⟩)
  · have hq0 : (x == 0) = false := by rw [beq_eq_false_iff_ne]; exact hx0
    by_cases hx1 : x = 1
    · subst hx1
      go_wp2
      go_ret
      exact ⟨_, rfl, by simp only [ByteArray.size_extract]; omega, HG2.out⟩
    · have hq1 : (x == 1) = false := by rw [beq_eq_false_iff_ne]; exact hx1
      clear hx0 hx1
      go_wp2
      go_ret
      exact ⟨s, rfl, by omega, HG2.out⟩

theorem termAt_grown {w w' : World} {lo h : Nat} {v : Value} {t : T} {row : Option Nat} (k : TermAt w lo h v t) (hg : w.grownBy w' row) (hr : ∀ j, row = some j → j < lo) : TermAt w' lo h v t := by
  obtain ⟨kk, n, s, u, xs, e1, e2, hs, ha⟩ := k
  exact ⟨kk, n, s, u, xs, e1, e2, hs, ha.grown hg hr⟩
theorem cells4d {Y : World} {b : Nat} {x0 x1 x2 x3 : Value} (hb : Y.heap[b]? = some (.cells #[x0, x1, x2, x3] 26 (0, 0))) : (Y.cell? ⟨b, 0, none⟩ = some x0 ∧ Y.cell? ⟨b, 1, none⟩ = some x1 ∧ Y.cell? ⟨b, 2, none⟩ = some x2 ∧ Y.cell? ⟨b, 3, none⟩ = some x3) ∧
    (Y.frozen? ⟨b, 0, none⟩ = false ∧ Y.frozen? ⟨b, 1, none⟩ = false ∧ Y.frozen? ⟨b, 2, none⟩ = false ∧ Y.frozen? ⟨b, 3, none⟩ = false) := by
  have a0 := cell_of_row Y b 0 _ _ _ hb
  have a1 := cell_of_row Y b 1 _ _ _ hb
  have a2 := cell_of_row Y b 2 _ _ _ hb
  have a3 := cell_of_row Y b 3 _ _ _ hb
  simp at a0 a1 a2 a3
  exact ⟨⟨a0, a1, a2, a3⟩, frozen_of_row Y b 0 _ _ hb, frozen_of_row Y b 1 _ _ hb, frozen_of_row Y b 2 _ _ hb, frozen_of_row Y b 3 _ _ hb⟩

/-- A term was drawn. -/
def DrawnTm (w : World) (e : Ending) (w' : World) : Prop := ∃ k n nm a m c t h, e = .returned (tv k n nm (.slice a m c)) ∧ TermAt w' w.heap.size h (tv k n nm (.slice a m c)) t ∧ wT t ≤ 1000 ∧ Below w.heap.size w w'

/-- A text was drawn. -/
def DrawnTx (w : World) (e : Ending) (w' : World) : Prop := ∃ u : ByteArray, e = .returned (.string u) ∧ u.size ≤ 3000 ∧ Below w.heap.size w w'
def turns : List ByteArray := [⟨#[32]⟩, ⟨#[40]⟩, ⟨#[41]⟩, ⟨#[44]⟩, ⟨#[44, 32]⟩, ⟨#[88]⟩, ⟨#[52]⟩, ⟨#[102, 40]⟩]
theorem turns_short : ∀ p ∈ turns, p.size ≤ 100 := by
  unfold turns
  intro p hp
  simp only [List.mem_cons, List.mem_nil_iff, or_false] at hp
  rcases hp with rfl | rfl | rfl | rfl | rfl | rfl | rfl | rfl <;> decide

end Go.Proofs.YtidbokheeieifaaGreatDoor
namespace Go.Proofs.YtidbokheeieifaaGreatDoor
open Go.RowKit

/-- The slice value v holds the strings ps. -/
def StrsAt (w : World) (v : Value) (ps : List ByteArray) : Prop :=
  ∃ a cap, v = .slice a ps.length cap ∧ (ps = [] ∨ ∃ b o, a = some ⟨b, o, none⟩ ∧ ∀ i p, ps[i]? = some p → w.cell? ⟨b, o + i, none⟩ = some (.string p))

theorem StrsAt.of_owns {w : World} {B : Nat} {e : TypeId} {v : Value} {ps : List ByteArray} (h : w.ownsRow B e 1 v ps.length (ps.map Value.string)) : StrsAt w v ps := by
  rcases h.2 with ⟨rfl, h0⟩ | ⟨g, cap, cur, rfl, _, _, _, _, _, _⟩
  · exact ⟨none, 0, by rw [h0], Or.inl (List.eq_nil_of_length_eq_zero h0)⟩
  · refine ⟨_, cap, rfl, Or.inr ⟨g, 0, rfl, fun i p hp => ?_⟩⟩
    have hi : i < ps.length := (List.getElem?_eq_some_iff.1 hp).1
    rw [Nat.zero_add, h.cellAt i (by omega)]
    simp [hp]
theorem StrsAt.drewN {w : World} {v : Value} {ps : List ByteArray} (h : StrsAt w v ps) (n : Nat) : StrsAt (w.drewN n) v ps := by
  obtain ⟨a, cap, rfl, h⟩ := h
  refine ⟨a, cap, rfl, ?_⟩
  rcases h with h | ⟨b, o, rfl, h⟩
  · exact Or.inl h
  · exact Or.inr ⟨b, o, rfl, fun i p hp => by simpa using h i p hp⟩

end Go.Proofs.YtidbokheeieifaaGreatDoor
namespace Go.Proofs.YtidbokheeieifaaGreatDoor
open Go.RowKit

theorem infoStr' : (Tryz.prog.info? 9).map (fun i => (i.zero, i.size, i.bytes)) = some (some (.string ByteArray.empty), 1, 16) := by kernel_rfl

/-- A slice of strings that came in. -/
theorem strsAt_of_open {w : World} {a : Addr} {len cap : Nat} {ss : List ByteArray} (hl : len ≤ ss.length)
    (hc : ∀ i, i < ss.length → w.cell? (a.add i) = some (.string (ss.getD i ByteArray.empty))) : StrsAt w (.slice (some a) len cap) (ss.take len) := by
  have hlen : (ss.take len).length = len := by simp; omega
  refine ⟨some a, cap, by rw [hlen], ?_⟩
  by_cases h0 : len = 0
  · left; rw [h0]; simp
  · right
    have h := hc 0 (by omega)
    have hs := World.cell?_spot h
    obtain ⟨b, o, sp⟩ := a
    have hsp : sp = none := by simpa [Addr.add] using hs
    subst hsp
    refine ⟨b, o, rfl, fun i p hp => ?_⟩
    have hi : i < len := by have := (List.getElem?_eq_some_iff.1 hp).1; omega
    have hx := hc i (by omega)
    have e : (⟨b, o, none⟩ : Addr).add i = ⟨b, o + i, none⟩ := by
      unfold Addr.add
      split
      · rename_i h; subst h; rfl
      · rfl
    rw [e] at hx
    rw [hx]
    rw [List.getElem?_take, if_pos hi] at hp
    simp [List.getD, hp]

theorem StrsAt.below {w w' : World} {v : Value} {ps : List ByteArray} (h : StrsAt w v ps) (hb : Below w.heap.size w w') : StrsAt w' v ps := by
  obtain ⟨a, cap, rfl, h⟩ := h
  refine ⟨a, cap, rfl, ?_⟩
  rcases h with h | ⟨b, o, rfl, h⟩
  · exact Or.inl h
  · refine Or.inr ⟨b, o, rfl, fun i p hp => ?_⟩
    have hc := h i p hp
    rw [hb.cell (World.block_lt_of_cell? w _ hc)]; exact hc
end Go.Proofs.YtidbokheeieifaaGreatDoor
namespace Go.Proofs.YtidbokheeieifaaGreatDoor
/-- The library's table of powers of ten. -/
def powName : String := "internal/strconv.uint64pow10"
/-- The library's two errors of a number's reading. -/
def synName : String := "strconv.ErrSyntax"
def rngName : String := "strconv.ErrRange"
/-- A table of the library's, listed behind the others. -/
def bruName : String := "math/bits.deBruijn64tab"
end Go.Proofs.YtidbokheeieifaaGreatDoor
namespace Go.Proofs.YtidbokheeieifaaGreatDoor
open Go.RowKit

/-- The table of powers of ten holds them. -/
def PowTab (w : World) : Prop := Lib.TabIs Tryz.prog w powName .u64 Lib.pow10Tab
theorem gPow : Tryz.prog.globalNamed powName = some 1 := by kernel_rfl
theorem PowTab.below {B : Nat} {w w' : World} (h : PowTab w) (hb : Below B w w') (hB : 1 < B) : PowTab w' := var?_below hb gPow hB h

set_option maxHeartbeats 400000 in
/-- impl.FormatInt: the decimal numeral, for every int. -/
theorem iFormat_any (n : Int) (w : World) (h0 : -9223372036854775808 ≤ n) (h1 : n ≤ 9223372036854775807) (ht : PowTab w) :
    Calls Tryz.prog 69 #[.int .i64 n] w fun e w' => e = .returned (.string ⟨(Lib.itoa n).toArray⟩) ∧ Below w.heap.size w w' := by
  go_enter Tryz.func69, Tryz.ntmps69
  go_wp2_with (go_at_call 95; refine (Any.strconv_Itoa Tryz.laysM171 n h0 h1 _ ht).mono ?_; rintro e w' ⟨rfl, k, os, rfl⟩)
  go_ret
  exact ⟨rfl, Lib.below_grow _ _ (Nat.le_refl _) _ _⟩
end Go.Proofs.YtidbokheeieifaaGreatDoor
namespace Go.Proofs.YtidbokheeieifaaGreatDoor
open Go.RowKit

def JoinEnd (ps : List ByteArray) (sep : ByteArray) (w : World) (e : Ending) (w' : World) : Prop :=
  e = .returned (.string ⟨(Lib.join (ps.map (·.data.toList)) sep.data.toList).toArray⟩) ∧ Below w.heap.size w w'

set_option maxRecDepth 100000 in
set_option maxHeartbeats 400000 in
theorem iJoin_any (B : Nat) (v : Value) (ps : List ByteArray) (sep : ByteArray) (w : World) (hl : ps.length + total ps ≤ 33554432) (hs : sep.size ≤ 1048576)
    (hown : w.ownsRow B 9 1 v ps.length (ps.map Value.string)) :
    Calls Tryz.prog 70 #[v, .string sep] w (JoinEnd ps sep w) := by
  have hjl := join_length sep.data.toList ps
  have e3 : sep.data.toList.length = sep.size := by simp
  have h4 : ps.length * sep.data.toList.length ≤ 33554432 * 1048576 := Nat.mul_le_mul (by omega) (by omega)
  have hj : (Lib.join (ps.map (·.data.toList)) sep.data.toList).length ≤ 140737488355328 := by omega
  have HJ := Lib.hid hj; clear hj hjl h4 e3
  have hc : Calls Tryz.prog 96 #[v, .string sep] w (JoinEnd ps sep w) := by
    rcases hown.2 with ⟨rfl, h0⟩ | ⟨g, cap, cur, rfl, hbg, hg, hnc, hcm, hcs, htk⟩
    · have hp : ps = [] := List.eq_nil_of_length_eq_zero h0
      subst hp
      exact (Any.strings_Join_none Tryz.lays156 Tryz.Builder_Extra_156 none 0 sep w).mono fun e w' ⟨he, hw⟩ => ⟨he, hw ▸ Below.refl _ _⟩
    · exact (Any.strings_Join Tryz.lays156 Tryz.Builder_Extra_156 g 0 cap ps sep w (fun j x hx => by
        have hj : j < ps.length := (List.getElem?_eq_some_iff.1 hx).1
        rw [Nat.zero_add, hown.cellAt j (by omega)]
        simp [hx]) (hown.lt g rfl).2 (by omega) hnc HJ.out).mono fun e w' h => h
  have HC := Lib.hid hc; clear hc
  go_enter Tryz.func70, Tryz.ntmps70
  go_wp2_with fail
  refine HC.out.mono ?_
  rintro e w1 ⟨rfl, hb⟩
  go_wp2
  go_ret
  exact ⟨rfl, hb⟩

end Go.Proofs.YtidbokheeieifaaGreatDoor
namespace Go.Proofs.YtidbokheeieifaaGreatDoor
open Go.RowKit

/-- What formOf hands back. -/
def FormEnd (k n : Int) (s : ByteArray) (u : Value) (w : World) (e : Ending) (w' : World) : Prop :=
  ∃ ty x, e = .returned (.iface ty (.agg #[x])) ∧ w' = boxed w k n s u ∧ ((k = 1 ∧ ty = 113 ∧ x = .string s) ∨ (k = 2 ∧ ty = 114 ∧ x = .string s) ∨ (k = 3 ∧ ty = 116 ∧ x = .int .i64 n))

set_option maxRecDepth 100000 in
set_option maxHeartbeats 400000 in
theorem form1_any (n : Int) (s : ByteArray) (u : Value) (w : World) :
    Calls Tryz.prog 92 #[tv 1 n s u] w (fun e w' => e = .returned (.iface 113 (.agg #[.string s])) ∧ w' = boxed w 1 n s u) := by
  go_enter Tryz.func92, Tryz.ntmps92
  go_wp2
  go_ret
  exact ⟨rfl, rfl⟩
set_option maxRecDepth 100000 in
set_option maxHeartbeats 400000 in
theorem form2_any (n : Int) (s : ByteArray) (u : Value) (w : World) :
    Calls Tryz.prog 92 #[tv 2 n s u] w (fun e w' => e = .returned (.iface 114 (.agg #[.string s])) ∧ w' = boxed w 2 n s u) := by
  go_enter Tryz.func92, Tryz.ntmps92
  go_wp2
  go_ret
  exact ⟨rfl, rfl⟩
set_option maxRecDepth 100000 in
set_option maxHeartbeats 400000 in
theorem form3_any (n : Int) (s : ByteArray) (u : Value) (w : World) :
    Calls Tryz.prog 92 #[tv 3 n s u] w (fun e w' => e = .returned (.iface 116 (.agg #[.int .i64 n])) ∧ w' = boxed w 3 n s u) := by
  go_enter Tryz.func92, Tryz.ntmps92
  go_wp2
  go_ret
  exact ⟨rfl, rfl⟩
set_option maxRecDepth 100000 in
set_option maxHeartbeats 400000 in
theorem form0_any (k n : Int) (s : ByteArray) (u : Value) (w : World) (h1 : k ≠ 1) (h2 : k ≠ 2) (h3 : k ≠ 3) :
    Calls Tryz.prog 92 #[tv k n s u] w (fun e w' => e = .returned (.iface 125 (.agg #[])) ∧ w' = boxed w k n s u) := by
  have h1' : (k == 1) = false := by rw [beq_eq_false_iff_ne]; exact h1
  have h2' : (k == 2) = false := by rw [beq_eq_false_iff_ne]; exact h2
  have h3' : (k == 3) = false := by rw [beq_eq_false_iff_ne]; exact h3
  go_enter Tryz.func92, Tryz.ntmps92
  go_wp2
  go_ret
  exact ⟨rfl, rfl⟩

theorem asVV (v : Value) (W : World) : (Instr.typeAssert (.iface 113 v) 110 113 true).run Tryz.prog W = .ok (.tuple #[v, .bool true]) W := by kernel_rfl
theorem asVO (v : Value) (W : World) : (Instr.typeAssert (.iface 113 v) 110 114 true).run Tryz.prog W = .ok (.tuple #[.agg #[.string ByteArray.empty], .bool false]) W := by kernel_rfl
theorem asVW (v : Value) (W : World) : (Instr.typeAssert (.iface 113 v) 110 116 true).run Tryz.prog W = .ok (.tuple #[.agg #[.int .i64 0], .bool false]) W := by kernel_rfl
theorem asOV (v : Value) (W : World) : (Instr.typeAssert (.iface 114 v) 110 113 true).run Tryz.prog W = .ok (.tuple #[.agg #[.string ByteArray.empty], .bool false]) W := by kernel_rfl
theorem asOO (v : Value) (W : World) : (Instr.typeAssert (.iface 114 v) 110 114 true).run Tryz.prog W = .ok (.tuple #[v, .bool true]) W := by kernel_rfl
theorem asOW (v : Value) (W : World) : (Instr.typeAssert (.iface 114 v) 110 116 true).run Tryz.prog W = .ok (.tuple #[.agg #[.int .i64 0], .bool false]) W := by kernel_rfl
theorem asWV (v : Value) (W : World) : (Instr.typeAssert (.iface 116 v) 110 113 true).run Tryz.prog W = .ok (.tuple #[.agg #[.string ByteArray.empty], .bool false]) W := by kernel_rfl
theorem asWO (v : Value) (W : World) : (Instr.typeAssert (.iface 116 v) 110 114 true).run Tryz.prog W = .ok (.tuple #[.agg #[.string ByteArray.empty], .bool false]) W := by kernel_rfl
theorem asWW (v : Value) (W : World) : (Instr.typeAssert (.iface 116 v) 110 116 true).run Tryz.prog W = .ok (.tuple #[v, .bool true]) W := by kernel_rfl
theorem asUV (v : Value) (W : World) : (Instr.typeAssert (.iface 125 v) 110 113 true).run Tryz.prog W = .ok (.tuple #[.agg #[.string ByteArray.empty], .bool false]) W := by kernel_rfl
theorem asUO (v : Value) (W : World) : (Instr.typeAssert (.iface 125 v) 110 114 true).run Tryz.prog W = .ok (.tuple #[.agg #[.string ByteArray.empty], .bool false]) W := by kernel_rfl
theorem asUW (v : Value) (W : World) : (Instr.typeAssert (.iface 125 v) 110 116 true).run Tryz.prog W = .ok (.tuple #[.agg #[.int .i64 0], .bool false]) W := by kernel_rfl
end Go.Proofs.YtidbokheeieifaaGreatDoor
namespace Go.Proofs.YtidbokheeieifaaGreatDoor
open Go.RowKit

set_option maxRecDepth 100000 in
theorem iVar_any (s : ByteArray) (w : World) (hs : s.size ≤ 9223372036854775807) :
    Calls Tryz.prog 93 #[.string s] w (Tells (Nm 65 90 s) w) := by
  go_enter Tryz.func93, Tryz.ntmps93
  go_wp2_with fail
  refine (iFrom_any s _ _ _ hs).mono ?_
  rintro e w1 ⟨b1, rfl, hq1, rfl⟩
  have HQ1 := Lib.hid hq1; clear hq1
  go_wp2
  go_ret
  exact ⟨b1, rfl, HQ1.out, rfl⟩
end Go.Proofs.YtidbokheeieifaaGreatDoor
namespace Go.Proofs.YtidbokheeieifaaGreatDoor
open Go.RowKit

/-- Behind the box, formOf's box and the form's own block. -/
theorem boxes_below (w : World) (k n : Int) (s : ByteArray) (u : Value) (o : Obj) : Below w.heap.size w ((boxed (boxed w k n s u) k n s u).alloc o) :=
  ((boxed_below w k n s u).trans ((boxed_below _ k n s u).mono (boxed_below w k n s u).size)).alloc (by simp; omega) _


set_option maxRecDepth 100000 in
set_option maxHeartbeats 1600000 in
theorem bad1_any (n : Int) (s : ByteArray) (a : Option Addr) (m cap : Nat) (w : World) (hs : s.size ≤ 9223372036854775807) :
    Calls Tryz.prog 68 #[tv 1 n s (.slice a m cap)] w (TellsT (¬ NodeOk 1 n s m) w) := by
  have HB0 := Lib.hid (boxes_below w 1 n s (.slice a m cap) (.cells #[.string s] 113))
  have hv := asVV
  go_enter Tryz.func68, Tryz.ntmps68
  go_wp2_with (go_at_call 92; refine (form1_any _ _ _ _).mono ?_; rintro e w1 ⟨rfl, rfl⟩)
  refine (iVar_any s _ hs).mono ?_
  rintro e w1 ⟨b1, rfl, hq, rfl⟩
  have HQ := Lib.hid hq; clear hq
  cases b1 with
  | false =>
    go_wp2
    go_ret
    refine ⟨true, rfl, ⟨fun _ h => ?_, fun h => rfl⟩, HB0.out⟩
    rcases h with ⟨_, h, _⟩ | ⟨h, _⟩ | ⟨h, _⟩
    · exact absurd h (fun q => by have := HQ.out.2 q; simp at this)
    · omega
    · omega
  | true =>
    by_cases hn : n = 0
    · subst hn
      by_cases hm : m = 0
      · subst hm
        go_wp2
        go_ret
        exact ⟨false, rfl, ⟨fun h => by simp at h, fun h => absurd (Or.inl ⟨rfl, HQ.out.1 (by simp), rfl, rfl⟩) h⟩, HB0.out⟩
      · have hm' : 0 < m := by omega
        go_wp2
        go_ret
        refine ⟨true, rfl, ⟨fun _ h => ?_, fun h => rfl⟩, HB0.out⟩
        rcases h with ⟨_, _, _, h⟩ | ⟨h, _⟩ | ⟨h, _⟩ <;> omega
    · have hn' : (n != 0) = true := by simpa using hn
      go_wp2
      go_ret
      refine ⟨true, rfl, ⟨fun _ h => ?_, fun h => rfl⟩, HB0.out⟩
      rcases h with ⟨_, _, h, _⟩ | ⟨h, _⟩ | ⟨h, _⟩ <;> omega

set_option maxRecDepth 100000 in
set_option maxHeartbeats 1600000 in
theorem bad2_any (n : Int) (s : ByteArray) (a : Option Addr) (m cap : Nat) (w : World) (hs : s.size ≤ 9223372036854775807) :
    Calls Tryz.prog 68 #[tv 2 n s (.slice a m cap)] w (TellsT (¬ NodeOk 2 n s m) w) := by
  have HB0 := Lib.hid (boxes_below w 2 n s (.slice a m cap) (.cells #[.string s] 114))
  have hv := asOV
  have ho := asOO
  go_enter Tryz.func68, Tryz.ntmps68
  go_wp2_with (go_at_call 92; refine (form2_any _ _ _ _).mono ?_; rintro e w1 ⟨rfl, rfl⟩)
  refine (iName_any s _ hs).mono ?_
  rintro e w1 ⟨b1, rfl, hq, rfl⟩
  have HQ := Lib.hid hq; clear hq
  cases b1 with
  | false =>
    go_wp2
    go_ret
    refine ⟨true, rfl, ⟨fun _ h => ?_, fun h => rfl⟩, HB0.out⟩
    rcases h with ⟨h, _⟩ | ⟨_, h, _⟩ | ⟨h, _⟩
    · omega
    · exact absurd h (fun q => by have := HQ.out.2 q; simp at this)
    · omega
  | true =>
    by_cases hn : n = 0
    · subst hn
      go_wp2
      go_ret
      exact ⟨false, rfl, ⟨fun h => by simp at h, fun h => absurd (Or.inr (Or.inl ⟨rfl, HQ.out.1 (by simp), rfl⟩)) h⟩, HB0.out⟩
    · have hn' : (n != 0) = true := by simpa using hn
      go_wp2
      go_ret
      refine ⟨true, rfl, ⟨fun _ h => ?_, fun h => rfl⟩, HB0.out⟩
      rcases h with ⟨h, _⟩ | ⟨_, _, h⟩ | ⟨h, _⟩ <;> omega

set_option maxRecDepth 100000 in
set_option maxHeartbeats 1600000 in
theorem bad3_any (n : Int) (s : ByteArray) (a : Option Addr) (m cap : Nat) (w : World) :
    Calls Tryz.prog 68 #[tv 3 n s (.slice a m cap)] w (TellsT (¬ NodeOk 3 n s m) w) := by
  have HB0 := Lib.hid (boxes_below w 3 n s (.slice a m cap) (.cells #[.int .i64 n] 116))
  have hv := asWV
  have ho := asWO
  have hw := asWW
  by_cases hn0 : n < 0
  · go_enter Tryz.func68, Tryz.ntmps68
    go_wp2_with (go_at_call 92; refine (form3_any _ _ _ _).mono ?_; rintro e w1 ⟨rfl, rfl⟩)
    go_ret
    refine ⟨true, rfl, ⟨fun _ h => ?_, fun h => rfl⟩, HB0.out⟩
    rcases h with ⟨h, _⟩ | ⟨h, _⟩ | ⟨_, _, h, _⟩ <;> omega
  · have hn1 : 0 ≤ n := by omega
    by_cases hn4 : 4 ≤ n
    · go_enter Tryz.func68, Tryz.ntmps68
      go_wp2_with (go_at_call 92; refine (form3_any _ _ _ _).mono ?_; rintro e w1 ⟨rfl, rfl⟩)
      go_ret
      refine ⟨true, rfl, ⟨fun _ h => ?_, fun h => rfl⟩, HB0.out⟩
      rcases h with ⟨h, _⟩ | ⟨h, _⟩ | ⟨_, _, _, h, _⟩ <;> omega
    · have hn3 : n < 4 := by omega
      by_cases h0 : s.size = 0
      · obtain rfl := no_empty s h0
        by_cases hm : m = 0
        · subst hm
          go_enter Tryz.func68, Tryz.ntmps68
          go_wp2_with (go_at_call 92; refine (form3_any _ _ _ _).mono ?_; rintro e w1 ⟨rfl, rfl⟩)
          go_ret
          refine ⟨(decide (n < 0) || decide (4 ≤ n)), rfl, ⟨fun h => ?_, fun h => absurd (Or.inr (Or.inr ⟨rfl, rfl, hn1, by omega, rfl⟩)) h⟩, HB0.out⟩
          have q1 : decide (n < 0) = false := decide_eq_false (by omega)
          have q2 : decide (4 ≤ n) = false := decide_eq_false (by omega)
          rw [q1, q2] at h
          cases h
        · have hm' : (0 : Int) < (m : Int) := by omega
          go_enter Tryz.func68, Tryz.ntmps68
          go_wp2_with (go_at_call 92; refine (form3_any _ _ _ _).mono ?_; rintro e w1 ⟨rfl, rfl⟩)
          go_ret
          refine ⟨_, rfl, ⟨fun _ h => ?_, fun h => by simp; omega⟩, HB0.out⟩
          rcases h with ⟨h, _⟩ | ⟨h, _⟩ | ⟨_, _, _, _, h⟩ <;> omega
      · obtain ⟨hb, hb'⟩ := some_byte s h0
        go_enter Tryz.func68, Tryz.ntmps68
        go_wp2_with (go_at_call 92; refine (form3_any _ _ _ _).mono ?_; rintro e w1 ⟨rfl, rfl⟩)
        go_ret
        refine ⟨true, rfl, ⟨fun _ h => ?_, fun h => rfl⟩, HB0.out⟩
        rcases h with ⟨h, _⟩ | ⟨h, _⟩ | ⟨_, h, _⟩ <;> omega

set_option maxRecDepth 100000 in
set_option maxHeartbeats 1600000 in
theorem bad0_any (k n : Int) (s : ByteArray) (a : Option Addr) (m cap : Nat) (w : World) (h1 : k ≠ 1) (h2 : k ≠ 2) (h3 : k ≠ 3) :
    Calls Tryz.prog 68 #[tv k n s (.slice a m cap)] w (TellsT (¬ NodeOk k n s m) w) := by
  have HB0 := Lib.hid ((boxed_below w k n s (.slice a m cap)).trans ((boxed_below _ k n s (.slice a m cap)).mono (boxed_below w k n s (.slice a m cap)).size))
  have hv := asUV
  have ho := asUO
  have hw := asUW
  have H1 := Lib.hid h1
  have H2 := Lib.hid h2
  have H3 := Lib.hid h3
  clear h1 h2 h3
  go_enter Tryz.func68, Tryz.ntmps68
  go_wp2_with (go_at_call 92; refine (form0_any _ _ _ _ _ H1.out H2.out H3.out).mono ?_; rintro e w1 ⟨rfl, rfl⟩)
  go_ret
  refine ⟨true, rfl, ⟨fun _ h => ?_, fun h => rfl⟩, HB0.out⟩
  have := H1.out; have := H2.out; have := H3.out
  rcases h with ⟨h, _⟩ | ⟨h, _⟩ | ⟨h, _⟩ <;> omega

theorem bad_any (k n : Int) (s : ByteArray) (a : Option Addr) (m cap : Nat) (w : World) (hs : s.size ≤ maxLen) :
    Calls Tryz.prog 68 #[tv k n s (.slice a m cap)] w (TellsT (¬ NodeOk k n s m) w) := by
  have hs2 : s.size ≤ 9223372036854775807 := by unfold maxLen at hs; omega
  by_cases h1 : k = 1
  · subst h1; exact bad1_any n s a m cap w hs2
  · by_cases h2 : k = 2
    · subst h2; exact bad2_any n s a m cap w hs2
    · by_cases h3 : k = 3
      · subst h3; exact bad3_any n s a m cap w
      · exact bad0_any k n s a m cap w h1 h2 h3
end Go.Proofs.YtidbokheeieifaaGreatDoor
namespace Go.Proofs.YtidbokheeieifaaGreatDoor
open Go.RowKit

theorem run_app_zero {P : Program} {w : World} (base : Nat) (t ty e : TypeId) (i : TypeInfo) (size : Nat) (ht : P.underlying t = some (.slice e)) (hi : P.info? e = some i)
    (v : Value) (n : Nat) (xs : List Value) (hown : w.ownsRow base e size v n xs) (ao : Option Addr) (c : Nat) :
    (Builtin.append_ #[t, t] ty #[v, .slice ao 0 c]).run P w = .ok v w := by
  rcases hown.2 with ⟨rfl, rfl⟩ | ⟨g, cap, cur, rfl, _, _, hnc, _⟩
  · cases ao <;> simp [Builtin.append_, run_underlying ht, sizeOf, typeInfo, hi, Builtin.lenOf, Builtin.firstCells, loadCells, loadCellsFrom]
  · cases ao <;> simp [Builtin.append_, run_underlying ht, sizeOf, typeInfo, hi, Builtin.lenOf, Builtin.firstCells, hnc, storeCells, loadCells, loadCellsFrom]

/-- append(own, none...) -/
theorem wpList_app_zero {P : Program} {w : World} {ops : Array Oper} {rest : List Oper} {o : Oper} {a : Act} {Q : Exit → Act → World → Prop} (hgd : o.guard = none) (s x : Operand) (t : TypeId)
    (ho : o.op = .call { callee := .builtin .append, args := #[s, x], argTypes := #[t, t] })
    (base : Nat) (e : TypeId) (i : TypeInfo) (size : Nat) (ht : P.underlying t = some (.slice e)) (hi : P.info? e = some i)
    (v : Value) (n : Nat) (xs : List Value) (hs : a.eval s = v) (hown : w.ownsRow base e size v n xs) (ao : Option Addr) (c : Nat) (hx : a.eval x = .slice ao 0 c)
    (h : wpList P ops Q rest (a.put o.dst v) w) : wpList P ops Q (o :: rest) a w := by
  refine wpList_plain hgd fun K hK => ?_
  have hrun := run_app_zero (P := P) (w := w) base t o.type e i size ht hi v n xs hown ao c
  unfold Oper.wp
  simp [execOp, ho, resolve, invoke, builtin, hs, hx, hrun, Result.andThen]
  exact hK _ _ h

theorem infoTermL : (Tryz.prog.info? 26).map (fun i => (i.zero, i.size, i.bytes)) = some (some (.agg #[.int .i64 0, .int .i64 0, .string ByteArray.empty, .slice none 0 0]), 4, 56) := by kernel_rfl

/-- A level of terms as a slice value. -/
def LevelAt (w : World) (v : Value) (ts : List T) : Prop := ∃ h, ArgsAt w 0 h v ts
theorem LevelAt.below {w w' : World} {v : Value} {ts : List T} (l : LevelAt w v ts) (hb : Below w.heap.size w w') : LevelAt w' v ts := by
  obtain ⟨h, ha⟩ := l
  exact ⟨h, ha.below hb⟩
theorem LevelAt.slice {w : World} {v : Value} {ts : List T} (l : LevelAt w v ts) : ∃ a cap, v = .slice a ts.length cap := by
  obtain ⟨h, ha⟩ := l
  exact ha.slice

def KidsEnd (ts : List T) (w : World) (e : Ending) (w' : World) : Prop :=
  ∃ u, e = .returned u ∧ LevelAt w' u (kids ts) ∧ Below w.heap.size w w'

/-- How far argsOf has come. -/
def KidsRel (h : Nat) (ts : List T) (k : Nat) (v : Value) (w wr : World) : Prop :=
  ∃ vs, wr.ownsRow w.heap.size 26 4 v (kids (ts.take k)).length vs ∧ RowV w (h - 1) (kids (ts.take k)) vs ∧ Below w.heap.size w wr

set_option maxRecDepth 100000 in
set_option maxHeartbeats 1600000 in
theorem argsOf_anyK (v : Value) (ts : List T) (w : World) (hl : LevelAt w v ts) (hk : (kids ts).length ≤ 4294967296) (ht : ts.length ≤ 8589934592) :
    Calls Tryz.prog 66 #[v] w (KidsEnd ts w) := by
  obtain ⟨h, ha⟩ := hl
  obtain ⟨a, cap, rfl⟩ := ha.slice
  obtain ⟨i0, hi, hz0, hz1, hz2⟩ := info_parts infoTermL
  have HI := Lib.hid hi; clear hi
  have HZ0 := Lib.hid hz0; clear hz0
  have HZ1 := Lib.hid hz1; clear hz1
  have HZ2 := Lib.hid hz2; clear hz2
  have HA := Lib.hid ha; clear ha
  have HK := Lib.hid hk; clear hk
  obtain ⟨m, hm⟩ : ∃ m, m = ts.length := ⟨_, rfl⟩
  rw [← hm] at HA ⊢ ht
  have HM := Lib.hid hm; clear hm
  go_enter Tryz.func66, Tryz.ntmps66
  go_wp2
  go_loopw [3, 8] (fun b i wr => ∃ k : Nat, k ≤ m ∧ i = .int .i64 k ∧ Hid (KidsRel (h - 1) ts k b w wr)) (fun _ i _ => m - (intOf i).toNat)
  case atStart => exact ⟨0, Nat.zero_le _, rfl, Lib.hid ⟨[], World.ownsRow_nil _ _ _ _, rfl, Below.refl _ _⟩⟩
  case round =>
    obtain ⟨k, hk, rfl, HR⟩ := hrel
    by_cases hlt : k < m
    · obtain ⟨t, ht⟩ : ∃ t, ts[k]? = some t := ⟨_, List.getElem?_eq_getElem (by have := HM.out; omega)⟩
      obtain ⟨h', b, o, kk, nn, s, xs, u', eh, rfl, rfl, hsz, c0, c1, c2, c3, har⟩ := HA.out.at ht
      obtain ⟨a', cap', rfl⟩ := har.slice
      obtain ⟨vs, ho, hv, hb⟩ := HR.out
      have d0 := cell_on hb c0
      have d1 := cell_on hb c1
      have d2 := cell_on hb c2
      have d3 := cell_on hb c3
      clear c0 c1 c2 c3
      have HTK : Hid (kids (ts.take (k + 1)) = kids (ts.take k) ++ xs) := Lib.hid (by rw [tk ts k _ ht, kids_snoc]; rfl)
      have hle := kids_take ts (k + 1)
      have hlx : (kids (ts.take k)).length + xs.length ≤ 4294967296 := by
        rw [HTK.out, List.length_append] at hle
        have := HK.out; omega
      clear hle ht
      obtain ⟨n, hn⟩ : ∃ n, n = (kids (ts.take k)).length := ⟨_, rfl⟩
      rw [← hn] at ho hlx
      have HN := Lib.hid hn; clear hn
      have HO := Lib.hid ho; clear ho
      have HV := Lib.hid hv; clear hv
      have HB := Lib.hid hb; clear hb
      have HBX : Hid (Below w.heap.size w (wr.alloc (.cells #[.int .i64 kk, .int .i64 nn, .string s, .slice a' xs.length cap'] 26))) := Lib.hid (HB.out.alloc HB.out.size _)
      have HHA := Lib.hid har; clear har
      have HHE := Lib.hid eh; clear eh
      rcases HHA.out.cases with ⟨hnil, _⟩ | ⟨h2, b2, o2, cap2, e2, e3, hl3, _, hrow⟩
      · have hx0 : xs.length = 0 := by rw [hnil]; rfl
        rw [hx0] at d3 HBX
        go_wp2_with (first | (at_builtin; refine wpList_app_zero rfl (.tmp 12) (.tmp 14) 24 rfl w.heap.size 26 i0 4 Tryz.underlying24 HI.out _ _ _ rfl (HO.out.alloc _) _ _ rfl ?_))
        go_roundw
        case rel =>
          refine ⟨k + 1, by omega, by go_num, Lib.hid ⟨vs, ?_, ?_, HBX.out⟩⟩
          · rw [HTK.out, hnil, List.append_nil, ← HN.out]
            exact HO.out.alloc _
          · rw [HTK.out, hnil, List.append_nil]
            exact HV.out
        case measure => simp [intOf]; omega
      · obtain ⟨ws, hws, hwc⟩ := RowV.of_row hrow
        have hwl := hws.len
        cases e3
        have hwc' : ∀ (j : Nat) (u : Value), ws[j]? = some u → (wr.alloc (.cells #[.int .i64 kk, .int .i64 nn, .string s, .slice (some ⟨b2, o2, none⟩) xs.length cap'] 26)).cell? (Addr.add ⟨b2, o2, none⟩ j) = some u := fun j u hj => cell_on HBX.out (hwc j u hj)
        have HWC := Lib.hid hwc'; clear hwc' hwc
        have HWL := Lib.hid hwl; clear hwl
        have HWS := Lib.hid hws; clear hws
        clear hrow
        obtain ⟨mx, hmx⟩ : ∃ mx, mx = xs.length := ⟨_, rfl⟩
        rw [← hmx] at hlx d3 HBX HWC HWL
        have HMX := Lib.hid hmx; clear hmx
        go_wp2_with (first | (at_builtin; refine wpList_append_own _ rfl (.tmp 12) (.tmp 14) 24 rfl w.heap.size 26 i0 (.agg #[.int .i64 0, .int .i64 0, .string ByteArray.empty, .slice none 0 0]) 4 56 Tryz.underlying24 HI.out HZ0.out HZ1.out HZ2.out rfl (by decide) _ _ _ rfl (HO.out.alloc _) ⟨b2, o2, none⟩ mx cap' ws rfl HWL.out HWC.out HWS.out.one (by unfold maxLen; omega) (by omega) HBX.out.size ?_))
        intro v' w1 hown' hgr _
        have hb1 : Below w.heap.size w w1 := HBX.out.grown hgr HBX.out.size (fun j hj => (HO.out.lt j hj).1)
        have HO1 := Lib.hid hown'; clear hown'
        have HB1 := Lib.hid hb1; clear hb1 hgr
        go_wp2
        go_roundw
        case rel =>
          refine ⟨k + 1, by omega, by go_num, Lib.hid ⟨vs ++ ws, ?_, ?_, HB1.out⟩⟩
          · rw [HTK.out, List.length_append, ← HN.out, ← HMX.out]
            exact HO1.out
          · rw [HTK.out, show h - 1 - 1 = h2 by have := HHE.out; omega]
            exact HWS.out.app (by have := HV.out; rw [show h - 1 - 1 = h2 by have := HHE.out; omega] at this; exact this)
        case measure => simp [intOf]; omega
    · obtain ⟨vs, ho, hv, hb⟩ := HR.out
      rw [show ts.take k = ts from by rw [List.take_of_length_le]; have := HM.out; omega] at ho hv
      have HE := Lib.hid (show LevelAt wr _ (kids ts) from ⟨_, (hv.below hb).args ho rfl (by have := HK.out; unfold maxLen; omega)⟩)
      have HB := Lib.hid hb
      clear ho hv hb
      go_wp2
      go_ret
      exact ⟨_, rfl, HE.out, HB.out⟩

theorem argsOf_any (v : Value) (ts : List T) (w : World) (hl : LevelAt w v ts) (hk : (kids ts).length ≤ 1048576) (ht : ts.length ≤ 2097152) :
    Calls Tryz.prog 66 #[v] w (KidsEnd ts w) := argsOf_anyK v ts w hl (by omega) (by omega)
end Go.Proofs.YtidbokheeieifaaGreatDoor
namespace Go.Proofs.YtidbokheeieifaaGreatDoor
open Go.RowKit

/-- A term in a row of one cell's length. -/
theorem LevelAt.single {w : World} {h : Nat} {k n : Int} {s : ByteArray} {u : Value} {xs : List T} (b : Nat) (hs : s.size ≤ maxLen) (ha : ArgsAt w 0 h u xs)
    (c0 : w.cell? ⟨b, 0, none⟩ = some (.int .i64 k)) (c1 : w.cell? ⟨b, 1, none⟩ = some (.int .i64 n)) (c2 : w.cell? ⟨b, 2, none⟩ = some (.string s)) (c3 : w.cell? ⟨b, 3, none⟩ = some u) :
    LevelAt w (.slice (some ⟨b, 0, none⟩) 1 1) [.node k n s xs] := by
  refine ⟨h + 1, some ⟨b, 0, none⟩, 1, rfl, by simp [maxLen], Or.inr ⟨b, 0, rfl, Nat.zero_le _, fun i k' n' s' xs' hi => ?_⟩⟩
  match i, hi with
  | 0, hi =>
    simp at hi
    obtain ⟨rfl, rfl, rfl, rfl⟩ := hi
    exact ⟨hs, u, c0, c1, c2, c3, ha⟩
  | i + 1, hi => simp at hi

/-- The first level: the term alone, in a block behind its box. -/
theorem level_first (w : World) {lo h : Nat} {k n : Int} {s : ByteArray} {u : Value} {xs : List T} (hs : s.size ≤ maxLen) (ha : ArgsAt w lo h u xs) :
    LevelAt ((boxed w k n s u).alloc (.cells #[.int .i64 k, .int .i64 n, .string s, u] 26)) (.slice (some ⟨w.heap.size + 1, 0, none⟩) 1 1) [.node k n s xs] := by
  have hbs : (boxed w k n s u).heap.size = w.heap.size + 1 := by simp
  rw [← hbs]
  have hb : Below w.heap.size w (boxed (boxed w k n s u) k n s u) := (boxed_below w k n s u).trans ((boxed_below _ k n s u).mono (boxed_below w k n s u).size)
  obtain ⟨c0, c1, c2, c3⟩ := boxed_cells (Below.refl _ (boxed (boxed w k n s u) k n s u))
  exact LevelAt.single _ hs ((ha.low (Nat.zero_le _)).below hb) c0 c1 c2 c3

theorem single_c (t : T) : cS [t] = cT t := by simp [cS]
theorem single_d (t : T) : dS [t] = dT t := by simp [dS]
end Go.Proofs.YtidbokheeieifaaGreatDoor
namespace Go.Proofs.YtidbokheeieifaaGreatDoor
open Go.RowKit

def OkN : T → Prop
  | .node k n s xs => NodeOk k n s xs.length
theorem okT_N (t : T) : OkT t ↔ OkN t ∧ ∀ x ∈ kT t, OkT x := by
  obtain ⟨k, n, s, xs⟩ := t
  exact okT_node k n s xs
theorem okS_kids (ts : List T) : (∀ t ∈ ts, OkT t) ↔ (∀ t ∈ ts, OkN t) ∧ ∀ t ∈ kids ts, OkT t := by
  constructor
  · intro h
    refine ⟨fun t ht => ((okT_N t).1 (h t ht)).1, fun x hx => ?_⟩
    obtain ⟨t, ht, hx⟩ := List.mem_flatMap.1 hx
    exact ((okT_N t).1 (h t ht)).2 x hx
  · rintro ⟨h1, h2⟩ t ht
    exact (okT_N t).2 ⟨h1 t ht, fun x hx => h2 x (List.mem_flatMap.2 ⟨t, ht, hx⟩)⟩

/-- The index of a bad node, or a number below 0. -/
def IdxEnd (ts : List T) (w : World) (e : Ending) (w' : World) : Prop := ∃ r : Int, e = .returned (.int .i64 r) ∧ (0 ≤ r ↔ ∃ t ∈ ts, ¬ OkN t) ∧ Below w.heap.size w w'

set_option maxRecDepth 100000 in
set_option maxHeartbeats 1600000 in
theorem idxF_any (v : Value) (ts : List T) (w : World) (hl : LevelAt w v ts) (ht : ts.length ≤ 2097152) :
    Calls Tryz.prog 91 #[v, .func (.func 68) #[] #[]] w (IdxEnd ts w) := by
  obtain ⟨h, ha⟩ := hl
  obtain ⟨a, cap, rfl⟩ := ha.slice
  have HA := Lib.hid ha; clear ha
  obtain ⟨m, hm⟩ : ∃ m, m = ts.length := ⟨_, rfl⟩
  rw [← hm] at HA ht ⊢
  have HM := Lib.hid hm; clear hm
  go_enter Tryz.func91, Tryz.ntmps91
  go_wp2
  go_loopw [5, 8] (fun _ i wr => ∃ k : Nat, k ≤ m ∧ i = .int .i64 k ∧ Hid (∀ j t, j < k → ts[j]? = some t → OkN t) ∧ Hid (Below w.heap.size w wr)) (fun _ i _ => m - (intOf i).toNat)
  case atStart => exact ⟨0, Nat.zero_le _, rfl, Lib.hid (fun j t hj => by omega), Lib.hid (Below.refl _ _)⟩
  case round =>
    obtain ⟨k, hk, rfl, HO, HB⟩ := hrel
    by_cases hlt : k < m
    · obtain ⟨t, ht'⟩ : ∃ t, ts[k]? = some t := ⟨_, List.getElem?_eq_getElem (by have := HM.out; omega)⟩
      obtain ⟨h', b, o, kk, nn, s, xs, u', eh, rfl, rfl, hsz, c0, c1, c2, c3, har⟩ := HA.out.at ht'
      obtain ⟨a', cap', rfl⟩ := har.slice
      have d0 := cell_on HB.out c0
      have d1 := cell_on HB.out c1
      have d2 := cell_on HB.out c2
      have d3 := cell_on HB.out c3
      clear c0 c1 c2 c3 har eh
      have HT := Lib.hid ht'; clear ht'
      have HS := Lib.hid hsz; clear hsz
      go_wp2_with fail
      refine (bad_any kk nn s a' xs.length cap' _ HS.out).mono ?_
      rintro e w1 ⟨q, rfl, hq, hb1⟩
      have HQ := Lib.hid hq; clear hq
      have HB1 := Lib.hid (HB.out.trans (hb1.mono HB.out.size)); clear hb1
      cases q with
      | true =>
        go_wp2
        go_ret
        exact ⟨k, rfl, ⟨fun _ => ⟨_, List.mem_of_getElem? HT.out, HQ.out.1 (by simp)⟩, fun _ => by omega⟩, HB1.out⟩
      | false =>
        go_wp2
        go_roundw
        case rel =>
          refine ⟨k + 1, by omega, by go_num, Lib.hid (fun j t hj hjt => ?_), HB1⟩
          by_cases hjk : j = k
          · subst hjk
            rw [HT.out] at hjt
            cases hjt
            exact Classical.byContradiction fun hno => by have := HQ.out.2 hno; simp at this
          · exact HO.out j t (by omega) hjt
        case measure => simp [intOf]; omega
    · go_wp2
      go_ret
      refine ⟨-1, rfl, ⟨fun h => by omega, fun ⟨t, hmem, hno⟩ => ?_⟩, HB.out⟩
      obtain ⟨j, hj⟩ := List.mem_iff_getElem?.1 hmem
      have hjl := (List.getElem?_eq_some_iff.1 hj).1
      exact absurd (HO.out j t (by have := HM.out; omega) hj) hno

set_option maxRecDepth 100000 in
set_option maxHeartbeats 800000 in
theorem contF_any (v : Value) (ts : List T) (w : World) (hl : LevelAt w v ts) (ht : ts.length ≤ 2097152) :
    Calls Tryz.prog 67 #[v, .func (.func 68) #[] #[]] w (TellsT (∃ t ∈ ts, ¬ OkN t) w) := by
  have HL := Lib.hid hl; clear hl
  obtain ⟨a, cap, rfl⟩ := HL.out.slice
  have HT := Lib.hid ht; clear ht
  go_enter Tryz.func67, Tryz.ntmps67
  go_wp2_with (go_at_call 91; refine (idxF_any _ ts _ HL.out HT.out).mono ?_; rintro e w1 ⟨r, rfl, hr, hb⟩; have HR := Lib.hid hr; clear hr; have HB := Lib.hid hb; clear hb)
  go_ret
  exact ⟨_, rfl, by simpa using HR.out, HB.out⟩

set_option maxRecDepth 100000 in
set_option maxHeartbeats 3200000 in
theorem validT_any (v : Value) (t : T) (lo h : Nat) (w : World) (ht : TermAt w lo h v t) (hw : wT t ≤ 1048576) :
    Calls Tryz.prog 41 #[v] w (TellsT (ValidT t) w) := by
  obtain ⟨k, n, s, u, xs, rfl, rfl, hs, ha⟩ := ht
  obtain ⟨a, cap, rfl⟩ := ha.slice
  have hcb : cT (.node k n s xs) ≤ 1048577 := by have := cT_le (.node k n s xs); omega
  have HL := Lib.hid (level_first w (k := k) (n := n) hs ha)
  have HB0 : Hid (Below w.heap.size w ((boxed w k n s (.slice a xs.length cap)).alloc (.cells #[.int .i64 k, .int .i64 n, .string s, .slice a xs.length cap] 26))) := Lib.hid ((boxed_below w k n s _).trans ((boxed_below _ k n s _).mono (boxed_below w k n s _).size))
  obtain ⟨t0, ht0⟩ : ∃ t0, t0 = T.node k n s xs := ⟨_, rfl⟩
  rw [← ht0] at HL hcb ⊢
  have HC0 : Hid (0 + cS [t0] = cT t0 ∧ 0 + dS [t0] = dT t0 ∧ (OkT t0 ↔ ∀ t ∈ [t0], OkT t)) := Lib.hid ⟨by rw [single_c]; omega, by rw [single_d]; omega, by simp⟩
  have HCB := Lib.hid hcb
  clear hs ha hw ht0 hcb
  go_enter Tryz.func41, Tryz.ntmps41
  go_wp2
  go_loopw [3, 4, 5] (fun c d v wr => ∃ (cn dn : Nat) (ts : List T), c = .int .i64 cn ∧ d = .int .i64 dn ∧ cn ≤ 60 ∧ dn ≤ 16 ∧ Hid (cn + cS ts = cT t0 ∧ dn + dS ts = dT t0 ∧ (OkT t0 ↔ ∀ t ∈ ts, OkT t)) ∧ Hid (LevelAt wr v ts) ∧ Hid (Below w.heap.size w wr)) (fun c _ _ _ => 61 - (intOf c).toNat)
  case atStart => exact ⟨0, 0, [t0], rfl, rfl, Nat.zero_le _, Nat.zero_le _, HC0, HL, HB0⟩
  case round =>
    obtain ⟨cn, dn, ts, rfl, rfl, hcn, hdn, HC, HLV, HB⟩ := hrel
    obtain ⟨la, lc, rfl⟩ := HLV.out.slice
    have hlk := len_le_cS (kids ts)
    have hk := cS_kids ts
    have hml : ts.length ≤ 1048577 := by have := HC.out.1; have := HCB.out; omega
    have HK := Lib.hid (And.intro hk hlk)
    clear hk hlk
    obtain ⟨m, hm⟩ : ∃ m, m = ts.length := ⟨_, rfl⟩
    rw [← hm] at hml HLV HK ⊢
    have HM := Lib.hid hm
    clear hm
    by_cases h0 : 0 < m
    · have hd := dS_kids ts (by intro e; have := HM.out; rw [e] at this; simp at this; omega)
      have HD := Lib.hid hd; clear hd
      have HLK : Hid ((kids ts).length ≤ 1048576) := Lib.hid (by have := HC.out.1; have := HCB.out; have := HK.out; omega)
      by_cases h60 : cn + m ≤ 60
      · by_cases h16 : dn + 1 ≤ 16
        · go_wp2_with fail
          refine (contF_any _ ts _ HLV.out (by have := HM.out; omega)).mono ?_
          rintro e w1 ⟨q, rfl, hq, hb1⟩
          have HQ := Lib.hid hq; clear hq
          have HB1 := Lib.hid (HB.out.trans (hb1.mono HB.out.size))
          have HLV1 := Lib.hid (HLV.out.below hb1)
          clear hb1
          cases q with
          | true =>
            go_wp2
            go_ret
            refine ⟨false, rfl, ⟨fun h => by simp at h, fun hv => ?_⟩, HB1.out⟩
            obtain ⟨t, hmem, hno⟩ := HQ.out.1 (by simp)
            exact absurd (((okS_kids ts).1 (HC.out.2.2.1 hv.2.2)).1 t hmem) hno
          | false =>
            go_wp2_with fail
            refine (argsOf_any _ ts _ HLV1.out HLK.out (by have := HM.out; omega)).mono ?_
            rintro e w2 ⟨v2, rfl, hl2, hb2⟩
            have HL2 := Lib.hid hl2; clear hl2
            have HB2 := Lib.hid (HB1.out.trans (hb2.mono HB1.out.size)); clear hb2
            go_wp2
            go_roundw
            case rel =>
              refine ⟨cn + m, dn + 1, kids ts, by go_num, by go_num, by omega, by omega, Lib.hid ⟨?_, ?_, ?_⟩, HL2, HB2⟩
              · have := HC.out.1; have := HK.out.1; omega
              · have := HC.out.2.1; have := HD.out; omega
              · rw [HC.out.2.2, okS_kids]
                constructor
                · exact fun h => h.2
                · refine fun h => ⟨fun t hmem => ?_, h⟩
                  exact Classical.byContradiction fun hno => by have := HQ.out.2 ⟨t, hmem, hno⟩; simp at this
            case measure => simp [intOf]; omega
        · go_wp2
          go_ret
          refine ⟨false, rfl, ⟨fun h => by simp at h, fun hv => ?_⟩, HB.out⟩
          have := hv.2.1; have := HC.out.2.1; have := HD.out
          omega
      · go_wp2
        go_ret
        refine ⟨false, rfl, ⟨fun h => by simp at h, fun hv => ?_⟩, HB.out⟩
        have := hv.1; have := HC.out.1; have := HK.out.1
        omega
    · have hm0 : m = 0 := by omega
      subst hm0
      go_wp2
      go_ret
      have h1 : ts = [] := List.eq_nil_of_length_eq_zero (by have := HM.out; omega)
      refine ⟨true, rfl, ⟨fun _ => ?_, fun _ => rfl⟩, HB.out⟩
      have hc := HC.out
      rw [h1] at hc
      exact ⟨by have := hc.1; simp [cS] at this; omega, by have := hc.2.1; simp [dS] at this; omega, hc.2.2.2 (by simp)⟩
end Go.Proofs.YtidbokheeieifaaGreatDoor
