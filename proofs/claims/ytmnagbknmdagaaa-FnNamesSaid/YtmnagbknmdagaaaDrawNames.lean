/-
  The draw of a list of names: some strings, in a slice of its own.
-/
import Derived.Test.YtmnagbknmdagaaaDrawB
import Derived.Test.YtmnagbknmdagaaaStrs
namespace Go.Proofs.Ytmnagbknmdagaaa
open Go.RowKit

theorem grown_new {w w1 w2 : World} {B : Nat} {row : Option Nat} (h : w.grownBy w1 (some B)) (k : w1.grownBy w2 row) (hr : ∀ j, row = some j → w.heap.size ≤ j) : w.grownBy w2 (some B) :=
  ⟨k.os.trans h.os, k.tape.trans h.tape, k.output.trans h.output, Nat.le_trans h.size k.size, fun i hi hb => (k.block i (Nat.lt_of_lt_of_le hi h.size) (fun e => by have := hr i e.symm; omega)).trans (h.block i hi hb)⟩
theorem CurAt.kept {w w' : World} {B : Nat} {cv : Value} {len : Nat} {row : Option Nat} (h : CurAt w B cv len) (hg : w.grownBy w' row) (hr : some B ≠ row) : CurAt w' B cv len := by
  have hl := h.lt
  obtain ⟨i, x, hi, hB⟩ := h
  exact ⟨i, x, hi, by rw [hg.block B hl hr]; exact hB⟩

def nameTexts : List ByteArray := [⟨#[97]⟩, ⟨#[102]⟩, ⟨#[120, 49]⟩, ⟨#[88]⟩, ⟨#[89, 121]⟩, ⟨#[88, 50]⟩, ⟨#[]⟩, ⟨#[49, 97]⟩, ⟨#[97, 66]⟩, ⟨#[97, 98, 99, 100, 101, 102, 103, 104]⟩, ⟨#[97, 98, 99, 100, 101, 102, 103, 104, 105]⟩, ⟨#[65, 95]⟩, ⟨#[119, 111, 114, 100]⟩, ⟨#[90]⟩]
theorem nameTexts_short : ∀ p ∈ nameTexts, p.size ≤ 1000 := by
  unfold nameTexts
  intro p hp
  simp only [List.mem_cons, List.mem_nil_iff, or_false] at hp
  rcases hp with rfl | rfl | rfl | rfl | rfl | rfl | rfl | rfl | rfl | rfl | rfl | rfl | rfl | rfl <;> decide

/-- What a draw of a text hands back. -/
def TextEnd (B : Nat) (cv : Value) (len : Nat) (w : World) (e : Ending) (w' : World) : Prop :=
  ∃ p : ByteArray, e = .returned (.string p) ∧ p.size ≤ 1000 ∧ CurAt w' B cv len ∧ w.grownBy w' (some B)

set_option maxRecDepth 100000 in
set_option maxHeartbeats 800000 in
theorem anyName_any (B : Nat) (cv : Value) (len : Nat) (w : World) (hcode : CodeAt w B cv len) (hcur : CurAt w B cv len) :
    Calls Try.prog 42 #[.pointer (some ⟨B, 0, none⟩)] w (TextEnd B cv len w) := by
  have c : Calls Try.prog 50 #[.pointer (some ⟨B, 0, none⟩), .slice (some ⟨w.heap.size, 0, none⟩) 14 14] (w.alloc (.cells (nameTexts.map Value.string).toArray 9)) (PickEnd (nameTexts.map Value.string) B cv len (w.alloc (.cells (nameTexts.map Value.string).toArray 9))) :=
    pick_any B w.heap.size 14 cv len nameTexts (w.alloc (.cells (nameTexts.map Value.string).toArray 9)) (by decide) (by decide) (by have := hcur.lt; omega) (new_strs w nameTexts _) (hcode.alloc hcur.lt _) (hcur.alloc _)
  have HK := Lib.hid c; clear c
  go_enter Try.func42, Try.ntmps42
  go_wp2_with fail
  refine HK.out.mono ?_
  rintro e w2 ⟨v, hv, rfl, hu2, hg2⟩
  obtain ⟨p, hp, rfl⟩ := List.mem_map.1 hv
  have HP := Lib.hid (nameTexts_short p hp); clear hp hv
  have HU2 := Lib.hid hu2; clear hu2
  have HG2 := Lib.hid (grown_trans (World.grownBy_alloc w _ (some B)) hg2); clear hg2
  go_wp2
  go_ret
  exact ⟨p, rfl, HP.out, HU2.out, HG2.out⟩

/-- What a draw of a list hands back. -/
def ListEnd (B : Nat) (w : World) (e : Ending) (w' : World) : Prop :=
  ∃ (v : Value) (ps : List ByteArray), e = .returned v ∧ ps.length ≤ 1000 ∧ (∀ p ∈ ps, p.size ≤ 1000) ∧ w'.ownsRow w.heap.size 9 1 v ps.length (ps.map Value.string) ∧ w.grownBy w' (some B)

set_option maxRecDepth 100000 in
set_option maxHeartbeats 1600000 in
theorem nameList_any (B : Nat) (cv : Value) (len : Nat) (w : World) (hcode : CodeAt w B cv len) (hcur : CurAt w B cv len) :
    Calls Try.prog 31 #[.pointer (some ⟨B, 0, none⟩)] w (ListEnd B w) := by
  obtain ⟨i0, hi, hz0, hz1, hz2⟩ := info_parts infoStr'
  have HI := Lib.hid hi; clear hi
  have HZ0 := Lib.hid hz0; clear hz0
  have HZ1 := Lib.hid hz1; clear hz1
  have HZ2 := Lib.hid hz2; clear hz2
  have hBl := hcur.lt
  have HC := Lib.hid hcode; clear hcode
  have HU := Lib.hid hcur; clear hcur
  have hown0 := World.ownsRow_lit (base := w.heap.size) (size := 1) (e := 9) w #[] 0 (Nat.le_refl _) (by decide) rfl
  have HOW := Lib.hid hown0; clear hown0
  have HGA := Lib.hid (World.grownBy_alloc w (.cells #[] 9) (some B))
  go_enter Try.func31, Try.ntmps31
  go_wp2_with fail
  refine (below_any B cv len 6 _ (by decide) (by decide) (HC.out.grown hBl HGA.out) (HU.out.alloc _)).mono ?_
  rintro e w1 ⟨x, rfl, x0, x1, hu1, hg1⟩
  obtain ⟨n, rfl⟩ : ∃ n : Nat, x = (n : Int) := ⟨x.toNat, by omega⟩
  have hn : n ≤ 5 := by omega
  clear x0 x1
  have HO1 := Lib.hid (keep_above HOW.out (u := .slice (some ⟨B, 0, none⟩) 0 0) (fun k hk => by simp [Value.ownBlock] at hk; omega) (by simpa [Value.ownBlock] using hg1))
  have HG1 := Lib.hid (grown_trans HGA.out hg1); clear hg1
  have HU1 := Lib.hid hu1; clear hu1
  go_wp2
  go_loopw [3, 5] (fun v i wr => ∃ (k : Nat) (ps : List ByteArray), k ≤ n ∧ i = .int .i64 k ∧ ps.length = k ∧ Hid (∀ p ∈ ps, p.size ≤ 1000) ∧ Hid (wr.ownsRow w.heap.size 9 1 v ps.length (ps.map Value.string)) ∧ Hid (CurAt wr B cv len) ∧ Hid (w.grownBy wr (some B))) (fun _ i _ => n - (intOf i).toNat)
  case atStart => exact ⟨0, [], Nat.zero_le _, rfl, rfl, Lib.hid (fun p hp => by cases hp), Lib.hid HO1.out, HU1, HG1⟩
  case round =>
    obtain ⟨k, ps, hk, rfl, hpk, HS, HO, HU2, HG2⟩ := hrel
    by_cases hlt : k < n
    · go_wp2_with fail
      refine (anyName_any B cv len _ (HC.out.grown hBl HG2.out) HU2.out).mono ?_
      rintro e w2 ⟨p, rfl, hps, hu3, hg3⟩
      have HP := Lib.hid hps; clear hps
      have HO3 := Lib.hid (keep_above HO.out (u := .slice (some ⟨B, 0, none⟩) 0 0) (fun k hk => by simp [Value.ownBlock] at hk; omega) (by simpa [Value.ownBlock] using hg3))
      have HG3 := Lib.hid (grown_trans HG2.out hg3); clear hg3
      have HU3 := Lib.hid hu3; clear hu3
      go_wp2_with (first | (at_builtin; refine wpList_append_own _ rfl (.tmp 14) (.tmp 17) 24 rfl w.heap.size 9 i0 (.string ByteArray.empty) 1 16 Try.underlying24 HI.out HZ0.out HZ1.out HZ2.out rfl (by decide) _ _ _ rfl (HO3.out.alloc _) ⟨w2.heap.size, 0, none⟩ 1 1 [.string p] rfl rfl ?c1 ?c2 (by unfold maxLen; omega) (by omega) ?c5 ?_))
      case c1 => exact cell_one_new _ _ _
      case c2 => intro u hu; simp at hu; subst hu; rfl
      case c5 => have := HG3.out.size; simp; omega
      intro v' w3 hown' hgrow _
      have hg4 : w.grownBy w3 (some B) := grown_new (grown_trans HG3.out (World.grownBy_alloc w2 _ (some B))) hgrow (fun j hj => (HO3.out.lt j hj).1)
      have hu4 : CurAt w3 B cv len := (HU3.out.alloc _).kept hgrow (fun e => by have := (HO3.out.lt B e.symm).1; omega)
      have hown2 : w3.ownsRow w.heap.size 9 1 v' (ps ++ [p]).length ((ps ++ [p]).map Value.string) := by simpa [hpk] using hown'
      have HO4 := Lib.hid hown2; clear hown2 hown' hgrow
      have HG4 := Lib.hid hg4; clear hg4
      have HU4 := Lib.hid hu4; clear hu4
      have HS4 : Hid (∀ q ∈ ps ++ [p], q.size ≤ 1000) := Lib.hid (fun q hq => by
        rcases List.mem_append.1 hq with hq | hq
        · exact HS.out q hq
        · simp at hq; subst hq; exact HP.out)
      go_wp2
      go_roundw
      case rel => exact ⟨k + 1, ps ++ [p], by omega, by go_num, by simp; omega, HS4, HO4, HU4, HG4⟩
      case measure => simp [intOf]; omega
    · go_wp2
      go_ret
      exact ⟨_, ps, rfl, by omega, HS.out, HO.out, HG2.out⟩

def DrawnList (w : World) (e : Ending) (w' : World) : Prop :=
  ∃ (v : Value) (ps : List ByteArray), e = .returned v ∧ ps.length ≤ 1000 ∧ (∀ p ∈ ps, p.size ≤ 1000) ∧ w'.ownsRow w.heap.size 9 1 v ps.length (ps.map Value.string) ∧ Below w.heap.size w w'

theorem own_low {w : World} {B B' n size : Nat} {e : TypeId} {v : Value} {xs : List Value} (h : w.ownsRow B e size v n xs) (hb : B' ≤ B) : w.ownsRow B' e size v n xs := by
  refine ⟨h.1, ?_⟩
  rcases h.2 with hn | ⟨g, cap, cur, hv, hg, rest⟩
  · exact Or.inl hn
  · exact Or.inr ⟨g, cap, cur, hv, Nat.le_trans hb hg, rest⟩

set_option maxRecDepth 100000 in
set_option maxHeartbeats 400000 in
theorem drawNames_any (cv : Value) (len : Nat) (w : World) (hcode : CodeAt w w.heap.size cv len) :
    Calls Try.prog 11 #[cv] w (DrawnList w) := by
  have HC := Lib.hid hcode; clear hcode
  go_enter Try.func11, Try.ntmps11
  go_wp2_with fail
  refine (new_any cv len _ HC.out).mono ?_
  rintro e w1 ⟨rfl, hu1, hb1, _⟩
  have HC1 := Lib.hid (HC.out.at_new hb1)
  have HU1 := Lib.hid hu1; clear hu1
  have HB1 := Lib.hid hb1; clear hb1
  go_wp2_with fail
  refine (nameList_any w.heap.size cv len _ HC1.out HU1.out).mono ?_
  rintro e w2 ⟨v, ps, rfl, hl, hs, hown, hg2⟩
  have HS := Lib.hid hs; clear hs
  have HO := Lib.hid (own_low hown HB1.out.size); clear hown
  have HB2 := Lib.hid (below_own HB1.out hg2); clear hg2
  go_wp2
  go_ret
  exact ⟨v, ps, rfl, hl, HS.out, HO.out, HB2.out⟩
end Go.Proofs.Ytmnagbknmdagaaa
