/-
  impl.SplitByte returns the pieces of its string between the occurrences of the byte, in a slice of its own; the law on it answers true at every string and byte.
-/
import Derived.Test.YtjdcehnjdfhbnaaDoorSplitS
import Derived.Test.YtjdcehnjdfhbnaaDoorMarks
import Derived.Test.YtjdcehnjdfhbnaaDoorLaysB
import Derived.Shelf.Strings.SplitShaped
namespace Go.Proofs.YtjdcehnjdfhbnaaDoor
open Go.RowKit

/-- The library's variable on its search holds some integer. -/
def MaxOk (w : World) : Prop := ∃ m, w.cell? ⟨3, 0, none⟩ = some (.int .i64 m)
theorem MaxOk.below {B : Nat} {w w' : World} (h : MaxOk w) (hb : Below B w w') (hB : 3 < B) : MaxOk w' := by
  obtain ⟨m, hm⟩ := h
  exact ⟨m, by rw [hb.cell (by exact hB)]; exact hm⟩
theorem MaxOk.low {w : World} (h : MaxOk w) : 3 < w.heap.size := by
  obtain ⟨m, hm⟩ := h
  exact World.block_lt_of_cell? w _ hm

set_option maxRecDepth 100000 in
set_option maxHeartbeats 400000 in
theorem iSplit_any (s : ByteArray) (c : UInt8) (w : World) (hs : s.size ≤ 1048576) (hm : MaxOk w) :
    Calls Tryd.prog 18 #[.string s, .int .u8 (c.toNat : Int)] w (CutEnd c s w) := by
  have hlow := hm.low
  have hb0 : Below w.heap.size w (w.alloc (.cells #[.int .u8 (c.toNat : Int)] 5)) := (Below.refl _ _).alloc (Nat.le_refl _) _
  obtain ⟨m, hm1⟩ := hm.below hb0 hlow
  have HM := Lib.hid hm1; clear hm1
  have HB0 := Lib.hid hb0; clear hb0 hm
  have hcv := conv_one w c.toNat (c.toNat : Int) (by have := c.toNat_lt; omega) rfl
  have hu : UInt8.ofNat c.toNat = c := by simp
  rw [hu] at hcv
  clear hu
  have hlen := splitB_length s c
  have HL := Lib.hid hlen; clear hlen
  have hle := Lib.countB_le ⟨#[c]⟩ (Nat.le_refl 1) s.size s (Nat.le_refl _)
  have HLE := Lib.hid hle; clear hle
  go_enter Tryd.func18, Tryd.ntmps18
  go_wp2_with fail
  refine (Any.strings_Split { Tryd.laysM146 with } Tryd.laysM146.i9 s ⟨#[c]⟩ m _ (by omega) HM.out (Nat.le_refl 1)).mono ?_
  rintro e w1 ⟨rfl, rfl⟩
  go_wp2
  go_ret
  refine ⟨_, Lib.splitB ⟨#[c]⟩ 0 (Lib.countB s ⟨#[c]⟩) s, rfl, splitB_cut s c, ?_, HB0.out.alloc (by simp) _⟩
  rw [HL.out]
  have hle := HLE.out
  have h := World.ownsRow_lit (w.alloc (.cells #[.int .u8 (c.toNat : Int)] 5)) ((Lib.splitB ⟨#[c]⟩ 0 (Lib.countB s ⟨#[c]⟩) s).map Value.string).toArray (Lib.countB s ⟨#[c]⟩ + 1) (base := w.heap.size) (size := 1) (e := 9) (by simp) (by unfold maxLen; omega) (by simp [HL.out])
  rw [World.size_alloc] at h
  exact h

theorem cut_len (c : UInt8) (s : ByteArray) (ps : List ByteArray) (h : ps.map (·.data.toList) = cut c s.data.toList) : ps.length ≤ s.size + 1 := by
  have e := congrArg List.length h
  have l := cutFrom_length c s.data.toList []
  have e2 : s.data.toList.length = s.size := by simp
  unfold cut at e
  rw [List.length_map] at e
  omega

set_option maxRecDepth 100000 in
set_option maxHeartbeats 800000 in
theorem exSplit_any (s : ByteArray) (c : UInt8) (w : World) (hm : MaxOk w) :
    Calls Tryd.prog 8 #[.string s, .int .u8 (c.toNat : Int)] w (TrueEnd w) := by
  have hlow := hm.low
  have HM := Lib.hid hm; clear hm
  by_cases hl : 1048576 < s.size
  · go_enter Tryd.func8, Tryd.ntmps8
    go_wp2
    go_ret
    exact ⟨rfl, Below.refl _ _⟩
  · have hs : s.size ≤ 1048576 := by omega
    go_enter Tryd.func8, Tryd.ntmps8
    go_wp2_with fail
    refine (sSplit_any s c _ hs).mono ?_
    rintro e w1 ⟨v0, ps0, rfl, hcut0, hown0, hb1⟩
    have HB1 := Lib.hid hb1; clear hb1
    have HC0 := Lib.hid hcut0; clear hcut0
    have HO0 := Lib.hid hown0; clear hown0
    go_wp2_with fail
    refine (iSplit_any s c _ hs (HM.out.below HB1.out hlow)).mono ?_
    rintro e w2 ⟨v1, ps1, rfl, hcut1, hown1, hb2⟩
    have HB2 := Lib.hid hb2; clear hb2
    have HC1 := Lib.hid hcut1; clear hcut1
    have HO1 := Lib.hid hown1; clear hown1
    have hlen := Lib.hid (cut_len c s ps1 HC1.out)
    -- what the first call handed back is still there
    have HO0b := Lib.hid (keep_own HO0.out HB2.out)
    have h0low : ∀ k, v0.ownBlock = some k → k < w1.heap.size := fun k hk => (HO0.out.lt k hk).2
    have H0L := Lib.hid h0low; clear h0low
    go_wp2_with fail
    refine (eqStrs_any v1 v0 ps1 ps0 _ (by have := hlen.out; omega) (StrsAt.of_owns HO1.out) (StrsAt.of_owns HO0b.out) (by rw [HC0.out, HC1.out])).mono ?_
    rintro e w3 ⟨rfl, q, rfl⟩
    have HO0c := Lib.hid (keep_own HO0b.out (below_q w2 q))
    have HO1c := Lib.hid (keep_own HO1.out (below_q w2 q))
    have HB3 : Hid (Below w.heap.size w (w2.drewN q)) := Lib.hid ((HB1.out.trans (HB2.out.mono HB1.out.size)).trans ((below_q w2 q).mono (Nat.le_trans HB1.out.size HB2.out.size)))
    go_wp2_with fail
    refine (marks_any w1.heap.size ps1.length 1 v1 (ps1.map Value.string) _ (by omega) (by have := hlen.out; omega) HO1c.out).mono ?_
    rintro e w4 ⟨rfl, hown4, hg4⟩
    have HB4 := Lib.hid (HB3.out.grown hg4 (by have := HB3.out.size; omega) (fun k hk => Nat.le_trans HB1.out.size (HO1.out.lt k hk).1))
    have HO4 := Lib.hid hown4; clear hown4
    have HO0d := Lib.hid (keep_other HO0c.out H0L.out HO1c.out hg4); clear hg4
    go_wp2_with fail
    refine (held_any w1.heap.size ps1.length 1 v1 _ (by omega) (by have := hlen.out; omega) HO4.out).mono ?_
    rintro e w5 ⟨rfl, hb5⟩
    have HO5 := Lib.hid (keep_own HO4.out hb5)
    have HO0e := Lib.hid (keep_own HO0d.out hb5)
    have HB5 := Lib.hid (HB4.out.trans (hb5.mono HB4.out.size)); clear hb5
    have hpos : ¬ (1 : Int) + (ps1.length : Int) < 0 := by omega
    have heq : ((1 : Int) + (ps1.length : Int) != 1 + (ps1.length : Int)) = false := by simp
    go_wp2_with fail
    refine (iSplit_any s c _ hs (HM.out.below HB5.out hlow)).mono ?_
    rintro e w6 ⟨v2, ps2, rfl, hcut2, hown2, hb6⟩
    have HC2 := Lib.hid hcut2; clear hcut2
    have HO2 := Lib.hid hown2; clear hown2
    have HO0f := Lib.hid (keep_own HO0e.out hb6)
    have HO6 := Lib.hid (keep_own HO5.out hb6)
    have HB6 := Lib.hid (HB5.out.trans (hb6.mono HB5.out.size)); clear hb6
    have hlen2 := Lib.hid (cut_len c s ps2 HC2.out)
    go_wp2_with fail
    refine (eqStrs_any v2 v0 ps2 ps0 _ (by have := hlen2.out; omega) (StrsAt.of_owns HO2.out) (StrsAt.of_owns HO0f.out) (by rw [HC0.out, HC2.out])).mono ?_
    rintro e w7 ⟨rfl, q2, rfl⟩
    have HO7 := Lib.hid (keep_own HO6.out (below_q w6 q2))
    have HB7 := Lib.hid (HB6.out.trans ((below_q w6 q2).mono HB6.out.size))
    go_wp2_with fail
    refine (held_any w1.heap.size ps1.length 1 v1 _ (by omega) (by have := hlen.out; omega) HO7.out).mono ?_
    rintro e w8 ⟨rfl, hb8⟩
    have HB8 := Lib.hid (HB7.out.trans (hb8.mono HB7.out.size)); clear hb8
    go_wp2
    go_ret
    exact ⟨rfl, HB8.out⟩
end Go.Proofs.YtjdcehnjdfhbnaaDoor
