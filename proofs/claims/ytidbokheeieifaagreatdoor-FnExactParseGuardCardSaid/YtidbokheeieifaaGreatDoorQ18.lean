/-
  spec.l9Cut and strings.Cut part a text at the first place of a separator.
-/
import Derived.Test.YtidbokheeieifaaGreatDoorQ17
import Derived.Test.YtidbokheeieifaaGreatDoorQ3
import Derived.Shelf.Strings.Cut
import Derived.Deep.RegionLaw
namespace Go.Proofs.YtidbokheeieifaaGreatDoor
open Go.RowKit

/-- What stands before a separator, behind it, and whether it is there. -/
def cutA (s sep : ByteArray) : ByteArray := ⟨(Lib.cut s.data.toList sep.data.toList).1.toArray⟩
def cutZ (s sep : ByteArray) : ByteArray := ⟨(Lib.cut s.data.toList sep.data.toList).2.1.toArray⟩
def cutF (s sep : ByteArray) : Bool := (Lib.cut s.data.toList sep.data.toList).2.2
theorem cut_cases (s sep : ByteArray) : (Lib.indexB s sep = -1 ∧ cutA s sep = s ∧ cutZ s sep = ByteArray.empty ∧ cutF s sep = false) ∨
    ∃ i : Nat, Lib.indexB s sep = i ∧ i + sep.size ≤ s.size ∧ cutA s sep = s.extract 0 i ∧ cutZ s sep = s.extract (i + sep.size) s.size ∧ cutF s sep = true := by
  rcases Lib.indexB_cases s sep with h | ⟨i, h, hr⟩
  · obtain ⟨e1, e2, e3⟩ := Lib.cutB_miss s sep h
    exact Or.inl ⟨h, e1, e2, e3⟩
  · obtain ⟨e1, e2, e3⟩ := Lib.cutB_hit s sep i h
    exact Or.inr ⟨i, h, hr, e1, e2, e3⟩
theorem cut_sizes (s sep : ByteArray) : (cutA s sep).size ≤ s.size ∧ (cutZ s sep).size ≤ s.size := by
  rcases cut_cases s sep with ⟨_, e1, e2, _⟩ | ⟨i, _, hr, e1, e2, _⟩
  · rw [e1, e2]; exact ⟨Nat.le_refl _, Nat.zero_le _⟩
  · rw [e1, e2, ByteArray.size_extract, ByteArray.size_extract]; omega

def CutB (s sep : ByteArray) (w : World) (e : Ending) (w' : World) : Prop := e = .returned (.tuple #[.string (cutA s sep), .string (cutZ s sep), .bool (cutF s sep)]) ∧ Below w.heap.size w w'

theorem iCut_any (s sep : ByteArray) (m : Int) (w : World) (hs : s.size ≤ 1048576) (hm : w.cell? ⟨0, 0, none⟩ = some (.int .i64 m)) :
    Calls Tryz.prog 23 #[.string s, .string sep] w (CutB s sep w) := by
  refine (Any.strings_Cut { Tryz.laysM145 with } s sep m w (by omega) hm).mono ?_
  rintro e w' ⟨rfl, n, rfl⟩
  refine ⟨rfl, ?_⟩
  unfold World.drewN
  exact ⟨rfl, rfl, rfl, Nat.le_refl _, fun _ _ => rfl⟩

set_option maxRecDepth 100000 in
set_option maxHeartbeats 3200000 in
theorem sCut_any (s sep : ByteArray) (w : World) (hs : s.size ≤ 1048576) (h1 : 1 ≤ sep.size) (h2 : sep.size ≤ 4) :
    Calls Tryz.prog 25 #[.string s, .string sep] w (CutB s sep w) := by
  go_enter Tryz.func25, Tryz.ntmps25
  go_wp2
  go_loopw [7] (fun i wr => ∃ k : Nat, k ≤ s.size ∧ i = .int .i64 k ∧ Hid (Lib.NoOccB s sep k) ∧ Hid (Below w.heap.size w wr)) (fun i _ => s.size + 1 - (intOf i).toNat)
  case atStart => exact ⟨0, Nat.zero_le _, rfl, Lib.hid (Lib.NoOcc.zero _ _), Lib.hid (Below.refl _ _)⟩
  case round =>
    obtain ⟨k, hk, rfl, HN, HB⟩ := hrel
    by_cases hlt : k + sep.size ≤ s.size
    · have c1 : ((k : Int) + (sep.size : Int)) ≤ (s.size : Int) := by omega
      have c2 : (0 : Int) ≤ (k : Int) := by omega
      have c3 : (0 : Int) ≤ (k : Int) + (sep.size : Int) := by omega
      have c4 : (k : Int) ≤ (k : Int) + (sep.size : Int) := by omega
      have c5 : (k : Int) ≤ (s.size : Int) := by omega
      have hcast : ((k : Int) + (sep.size : Int)).toNat = k + sep.size := by omega
      by_cases hp : ((s.extract k (k + sep.size)).toList == sep.toList) = true
      · have HH : Hid (Lib.indexB s sep = k) := Lib.hid (Lib.hit s sep k HN.out hlt hp)
        have HC : Hid (cutA s sep = s.extract 0 k ∧ cutZ s sep = s.extract (k + sep.size) s.size ∧ cutF s sep = true) := Lib.hid (Lib.cutB_hit s sep k HH.out)
        go_wp2
        first | go_region | go_region_o
        go_wp2
        go_ret3
        refine ⟨?_, (Below.drew HB.out)⟩
        rw [HC.out.1, HC.out.2.1, HC.out.2.2]
        rfl
      · have hp' : ((s.extract k (k + sep.size)).toList == sep.toList) = false := by simpa using hp
        have HM := Lib.hid (Lib.miss_piece s sep k HN.out hlt hp')
        clear hp
        go_wp2
        go_roundw
        case rel => exact ⟨k + 1, by omega, by go_num, HM, HB⟩
        case measure => simp [intOf]; omega
    · have c1 : ¬ ((k : Int) + (sep.size : Int)) ≤ (s.size : Int) := by omega
      have HH : Hid (Lib.indexB s sep = -1) := Lib.hid (Lib.past s sep k HN.out h1 (by omega))
      have HC : Hid (cutA s sep = s ∧ cutZ s sep = ByteArray.empty ∧ cutF s sep = false) := Lib.hid (Lib.cutB_miss s sep HH.out)
      go_wp2
      go_ret3
      exact ⟨by rw [HC.out.1, HC.out.2.1, HC.out.2.2]; rfl, HB.out⟩
end Go.Proofs.YtidbokheeieifaaGreatDoor
