/-
  The law on splitting answers true at every draw: its walk.
-/
import Derived.Test.YtjdcehnjdfhbnaaDoorDrawC
import Derived.Test.YtjdcehnjdfhbnaaDoorNumbers
import Derived.Test.YtjdcehnjdfhbnaaDoorSplitI
import Derived.Test.YtjdcehnjdfhbnaaDoorJoinI
import Derived.Test.YtjdcehnjdfhbnaaDoorMathE
namespace Go.Proofs.YtjdcehnjdfhbnaaDoor
open Go.RowKit

theorem owned_some {w : World} {B n : Nat} {e : TypeId} {v : Value} {xs : List Value} (h : w.ownsRow B e 1 v n xs) (hn : 1 ≤ n) : ∃ g cap, v = .slice (some ⟨g, 0, none⟩) n cap := by
  rcases h.2 with ⟨_, h0⟩ | ⟨g, cap, cur, rfl, _⟩
  · omega
  · exact ⟨g, cap, rfl⟩

set_option maxRecDepth 100000 in
set_option maxHeartbeats 1600000 in
theorem split_any (a : Option Addr) (len cap : Nat) (w : World) (hcode : len ≤ 1048576 → CodeAt w w.heap.size (.slice a len cap) len) (hm : MaxOk w) :
    Calls Tryd.prog 4 #[.slice a len cap] w (TrueAt w) := by
  have hlow := hm.low
  have HC := Lib.hid hcode; clear hcode
  have HM := Lib.hid hm; clear hm
  by_cases hbig : 1048576 < len
  · have hd : decide (1048576 < len) = true := by simpa using hbig
    have HK := Lib.hid (big_any a len cap w)
    rw [hd] at HK
    go_enter Tryd.func4, Tryd.ntmps4
    go_wp2_with fail
    refine HK.out.mono ?_
    rintro e w1 ⟨rfl, rfl⟩
    go_wp2
    go_ret
    exact ⟨rfl, Below.refl _ _⟩
  · have hd : decide (1048576 < len) = false := by simpa using hbig
    have HK := Lib.hid (big_any a len cap w)
    rw [hd] at HK
    have HC1 := Lib.hid (HC.out (by omega))
    go_enter Tryd.func4, Tryd.ntmps4
    go_wp2_with fail
    refine HK.out.mono ?_
    rintro e w0 ⟨rfl, rfl⟩
    go_wp2_with fail
    refine (drawSplit_any _ len _ HC1.out).mono ?_
    rintro e w1 ⟨s, c, rfl, hsl, hb1⟩
    have HB1 := Lib.hid hb1; clear hb1
    go_wp2_with fail
    refine (iSplit_any s c _ (by omega) (HM.out.below HB1.out hlow)).mono ?_
    rintro e w2 ⟨v1, ps1, rfl, hcut1, hown1, hb2⟩
    have hpos := pieces_pos hcut1
    have hle := cut_len c s ps1 hcut1
    have htot := total_cut hcut1
    obtain ⟨g, cp, rfl⟩ := owned_some hown1 hpos
    obtain ⟨n, hn⟩ : ∃ n, n = ps1.length := ⟨_, rfl⟩
    rw [← hn] at hpos hle hown1 ⊢
    have HN := Lib.hid hn; clear hn
    have HC2 := Lib.hid hcut1; clear hcut1
    have HO2 := Lib.hid hown1; clear hown1
    have HB2 := Lib.hid (HB1.out.trans (hb2.mono HB1.out.size)); clear hb2
    have hcv := conv_one w2 c.toNat (c.toNat : Int) (by have := c.toNat_lt; omega) rfl
    have hu : UInt8.ofNat c.toNat = c := by simp
    rw [hu] at hcv
    clear hu
    have HOA := Lib.hid (keep_own HO2.out ((Below.refl w2.heap.size w2).alloc (Nat.le_refl _) (.cells #[.int .u8 (c.toNat : Int)] 5)))
    have hj : Calls Tryd.prog 19 #[.slice (some ⟨g, 0, none⟩) n cp, .string ⟨#[c]⟩] (w2.alloc (.cells #[.int .u8 (c.toNat : Int)] 5)) (JoinEnd ps1 ⟨#[c]⟩ (w2.alloc (.cells #[.int .u8 (c.toNat : Int)] 5))) :=
      iJoin_any _ _ ps1 ⟨#[c]⟩ _ (by have := HN.out; omega) (by show 1 ≤ 1048576; decide) (by rw [← HN.out]; exact HOA.out)
    have HJ := Lib.hid hj; clear hj
    go_wp2_with fail
    refine HJ.out.mono ?_
    rintro e w3 ⟨rfl, hb3⟩
    have HO3 := Lib.hid (keep_own HOA.out hb3)
    have HB3 := Lib.hid ((HB2.out.alloc HB2.out.size _).trans (hb3.mono (by have := HB2.out.size; simp; omega))); clear hb3
    have hjoin := join_pieces HC2.out
    have hq : (Lib.join (ps1.map (·.data.toList)) [c] == s.toList) = true := by rw [ByteArray.toList_eq, hjoin]; simp
    clear hjoin
    go_wp2_with fail
    refine (sSplit_any s c _ (by omega)).mono ?_
    rintro e w4 ⟨v3, ps3, rfl, hcut3, hown3, hb4⟩
    have hlen3 : ps3.length = n := by
      have e1 := congrArg List.length hcut3
      have e2 := congrArg List.length HC2.out
      rw [List.length_map] at e1 e2
      have := HN.out; omega
    rw [hlen3] at hown3
    obtain ⟨g3, cp3, rfl⟩ := owned_some hown3 hpos
    clear hown3 hcut3 hlen3
    have HO4 := Lib.hid (keep_own HO3.out hb4)
    have HB4 := Lib.hid (HB3.out.trans (hb4.mono HB3.out.size)); clear hb4
    clear hq hcv
    go_wp2
    go_loopw [6] (fun i wr => ∃ k : Nat, k ≤ n ∧ i = .int .i64 k ∧ wr.ownsRow w1.heap.size 9 1 (.slice (some ⟨g, 0, none⟩) n cp) n (ps1.map Value.string) ∧ Below w.heap.size w wr) (fun i _ => n - (intOf i).toNat)
    case atStart => exact ⟨0, Nat.zero_le _, rfl, HO4.out, HB4.out⟩
    case round =>
      obtain ⟨k, hk, rfl, ho, hb⟩ := hrel
      have HO := Lib.hid ho; clear ho
      have HB := Lib.hid hb; clear hb
      by_cases hlt : k < n
      · obtain ⟨p, hp⟩ : ∃ p, ps1[k]? = some p := ⟨_, List.getElem?_eq_getElem (by have := HN.out; omega)⟩
        have hcell : wr.cell? ⟨g, k, none⟩ = some (.string p) := by rw [HO.out.cellAt k (by omega)]; simp [hp]
        have hpm : p ∈ ps1 := List.mem_of_getElem? hp
        have hps : p.size ≤ 1000 := by
          have h1 := take_next ps1 k p hp
          have h2 := total_take_le ps1 (k + 1)
          rw [h1, total_snoc] at h2
          omega
        have HPM := Lib.hid hpm; clear hpm hp
        go_wp2_with fail
        refine (iSplit_any p c _ (by omega) (HM.out.below HB.out hlow)).mono ?_
        rintro e w5 ⟨v5, ps5, rfl, hcut5, hown5, hb5⟩
        have hone := one_piece HC2.out HPM.out hcut5
        rw [hone] at hown5
        obtain ⟨g5, cp5, rfl⟩ := owned_some hown5 (Nat.le_refl 1)
        clear hown5 hcut5 hone
        have HO5 := Lib.hid (keep_own HO.out hb5)
        have HB5 := Lib.hid (HB.out.trans (hb5.mono HB.out.size)); clear hb5
        go_wp2
        go_roundw
        case rel => exact ⟨k + 1, by omega, by go_num, HO5.out, HB5.out⟩
        case measure => simp [intOf]; omega
      · go_wp2
        go_ret
        exact ⟨rfl, HB.out⟩
end Go.Proofs.YtjdcehnjdfhbnaaDoor
