/-
  spec.l5Term: a term is read from place to place, with an error noted.
-/
import Derived.Test.YtidbokheeieifaaGreatDoorQ31
namespace Go.Proofs.YtidbokheeieifaaGreatDoor
open Go.RowKit

def TermAtD (s : ByteArray) (d : Nat) : Prop := ∀ (rb at1 : Nat) (w : World), w.heap[rb]? = some (RB s at1 false) → at1 ≤ s.size →
  Calls Tryz.prog 46 #[.pointer (some ⟨rb, 0, none⟩), .int .i64 d] w (TermEnd s d rb at1 w)

set_option maxRecDepth 100000 in
set_option maxHeartbeats 3200000 in
theorem sTerm_step (s : ByteArray) (d : Nat) (hs : s.size ≤ 600) (hd : 1 ≤ d ∧ d ≤ 17) (IH : d + 1 ≤ 17 → TermAtD s (d + 1)) : TermAtD s d := by
  intro rb at1 w hr ha
  obtain ⟨i0, hi, hz0, hz1, hz2⟩ := info_parts infoTermA
  have HI := Lib.hid hi; clear hi
  have HZI0 := Lib.hid hz0; clear hz0
  have HZI1 := Lib.hid hz1; clear hz1
  have HZI2 := Lib.hid hz2; clear hz2
  have hsl : s.data.toList.length = s.size := by simp
  have HS := Lib.hid hsl; clear hsl
  have hrlt : rb < w.heap.size := (Array.getElem?_eq_some_iff.1 hr).1
  obtain ⟨⟨c0, c1, c2⟩, f0, f1, f2⟩ := cells3r hr
  have HR := Lib.hid hr; clear hr
  have HIH := Lib.hid IH; clear IH
  go_enter Tryz.func46, Tryz.ntmps46
  go_wp2
  go_loopw [78] (fun _ wr => ∃ at2 : Nat, Hid (wr.heap[rb]? = some (RB s at2 false)) ∧ Hid (w.grownBy wr (some rb)) ∧ Hid (wr.heap[w.heap.size]? = some zRow) ∧ Hid (ScanAt s.data.toList at1 at2)) (fun _ wr => s.size - posOf rb wr)
  case atStart =>
    exact ⟨at1, Lib.hid ((Below.heap_alloc _ _ _ hrlt).trans HR.out), Lib.hid (World.grownBy_alloc _ _ _), Lib.hid (heap_new w zRow rfl), Lib.hid (ScanAt.start (by rw [HS.out]; exact ha))⟩
  case round =>
    clear c0 c1 c2 f0 f1 f2
    obtain ⟨at2, HRR, HG, HZ, HSC⟩ := hrel
    obtain ⟨⟨c0, c1, c2⟩, f0, f1, f2⟩ := cells3r HRR.out
    have ha2 : at2 ≤ s.size := by have := HSC.out.2.1; have := HS.out; omega
    go_upto_region 2 with fail
    go_cut [70] (fun c wc => ∃ q : Bool, c = .bool q ∧ Hid ((q = true → ∃ b, s.data.toList[at2]? = some b ∧ ¬ Special b) ∧ (q = false → SpStart (s.data.toList.drop at2))) ∧ Hid (∃ n, wc = wr.drewN n))
    case first =>
      by_cases hlt : at2 < s.size
      · have h1 : decide ((at2 : Int) < (s.size : Int)) = true := by rw [decide_eq_true_iff]; omega
        obtain ⟨b, hb⟩ : ∃ b : Int, b = (s[at2].toNat : Int) := ⟨_, rfl⟩
        have HB : Hid (s.data.toList[at2]? = some s[at2]) := Lib.hid (by rw [List.getElem?_eq_getElem (by rw [HS.out]; exact hlt)]; rfl)
        have HYES : Hid (∀ (_ : b ≠ 40 ∧ b ≠ 41 ∧ b ≠ 44 ∧ b ≠ 32), ∃ b, s.data.toList[at2]? = some b ∧ ¬ Special b) := Lib.hid (fun h => ⟨_, HB.out, fun hsp => by
          rw [hb] at h
          rcases hsp with e | e | e | e <;> · rw [e] at h; simp at h⟩)
        have HNO : Hid (∀ (_ : b = 40 ∨ b = 41 ∨ b = 44 ∨ b = 32), SpStart (s.data.toList.drop at2)) := Lib.hid (fun h => Or.inr ⟨s[at2], s.data.toList.drop (at2 + 1), by
          rw [List.drop_eq_getElem_cons (by rw [HS.out]; exact hlt)]; rfl, by
          rw [hb] at h
          unfold Special
          rcases h with e | e | e | e
          · exact Or.inl (UInt8.toNat_inj.1 (by simpa using (by omega : s[at2].toNat = 40)))
          · exact Or.inr (Or.inl (UInt8.toNat_inj.1 (by simpa using (by omega : s[at2].toNat = 41))))
          · exact Or.inr (Or.inr (Or.inl (UInt8.toNat_inj.1 (by simpa using (by omega : s[at2].toNat = 44)))))
          · exact Or.inr (Or.inr (Or.inr (UInt8.toNat_inj.1 (by simpa using (by omega : s[at2].toNat = 32)))))⟩)
        by_cases k1 : b = 40
        · have e1 : ((s[at2].toNat : Int) != 40) = false := by rw [← hb, k1]; rfl
          have HF := Lib.hid (HNO.out (Or.inl k1))
          clear hb HYES HNO k1
          go_wp2
          go_quiet (fail)
          go_wp2
          go_meet
          exact ⟨false, rfl, Lib.hid ⟨fun e => (by cases e), fun _ => HF.out⟩, Lib.hid ⟨_, rfl⟩⟩
        have e1 : ((s[at2].toNat : Int) != 40) = true := by rw [← hb, bne_iff_ne]; exact k1
        by_cases k2 : b = 41
        · have e2 : ((s[at2].toNat : Int) != 41) = false := by rw [← hb, k2]; rfl
          have HF := Lib.hid (HNO.out (Or.inr (Or.inl k2)))
          clear hb HYES HNO k1 k2
          go_wp2
          go_quiet (fail)
          go_wp2
          go_meet
          exact ⟨false, rfl, Lib.hid ⟨fun e => (by cases e), fun _ => HF.out⟩, Lib.hid ⟨_, rfl⟩⟩
        have e2 : ((s[at2].toNat : Int) != 41) = true := by rw [← hb, bne_iff_ne]; exact k2
        by_cases k3 : b = 44
        · have e3 : ((s[at2].toNat : Int) != 44) = false := by rw [← hb, k3]; rfl
          have HF := Lib.hid (HNO.out (Or.inr (Or.inr (Or.inl k3))))
          clear hb HYES HNO k1 k2 k3
          go_wp2
          go_quiet (fail)
          go_wp2
          go_meet
          exact ⟨false, rfl, Lib.hid ⟨fun e => (by cases e), fun _ => HF.out⟩, Lib.hid ⟨_, rfl⟩⟩
        have e3 : ((s[at2].toNat : Int) != 44) = true := by rw [← hb, bne_iff_ne]; exact k3
        by_cases k4 : b = 32
        · have e4 : ((s[at2].toNat : Int) != 32) = false := by rw [← hb, k4]; rfl
          have HF := Lib.hid (HNO.out (Or.inr (Or.inr (Or.inr k4))))
          clear hb HYES HNO k1 k2 k3 k4
          go_wp2
          go_quiet (fail)
          go_wp2
          go_meet
          exact ⟨false, rfl, Lib.hid ⟨fun e => (by cases e), fun _ => HF.out⟩, Lib.hid ⟨_, rfl⟩⟩
        have e4 : ((s[at2].toNat : Int) != 32) = true := by rw [← hb, bne_iff_ne]; exact k4
        have HF := Lib.hid (HYES.out ⟨k1, k2, k3, k4⟩)
        clear hb HYES HNO k1 k2 k3 k4
        go_wp2
        go_quiet (fail)
        go_wp2
        go_meet
        exact ⟨true, rfl, Lib.hid ⟨fun _ => HF.out, fun e => (by cases e)⟩, Lib.hid ⟨_, rfl⟩⟩
      · have h1 : decide (at2 < s.size) = false := by rw [decide_eq_false_iff_not]; omega
        have HF : Hid (SpStart (s.data.toList.drop at2)) := Lib.hid (Or.inl (List.drop_eq_nil_of_le (by rw [HS.out]; omega)))
        clear hlt
        go_wp2
        go_quiet (fail)
        go_wp2
        go_meet
        exact ⟨false, rfl, Lib.hid ⟨fun e => (by cases e), fun _ => HF.out⟩, Lib.hid ⟨_, rfl⟩⟩
    obtain ⟨q, rfl, HQ, HWC⟩ := hcut
    have hwe : wc.heap = wr.heap := by obtain ⟨n, h⟩ := HWC.out; rw [h]; rfl
    have HWE := Lib.hid hwe; clear hwe
    have HRC : Hid (wc.heap[rb]? = some (RB s at2 false)) := Lib.hid (by rw [HWE.out]; exact HRR.out)
    have HGC : Hid (w.grownBy wc (some rb)) := Lib.hid (by obtain ⟨n, h⟩ := HWC.out; rw [h]; exact grown_trans HG.out (Below.toGrown (below_q _ _) _))
    have HZC : Hid (wc.heap[w.heap.size]? = some zRow) := Lib.hid (by rw [HWE.out]; exact HZ.out)
    have HPW : Hid (posOf rb wr = at2) := Lib.hid (posOf_of HRR.out)
    clear HWC HWE HG HZ HRR c0 c1 c2 f0 f1 f2
    obtain ⟨⟨c0, c1, c2⟩, f0, f1, f2⟩ := cells3r HRC.out
    have hne : w.heap.size ≠ rb := by omega
    cases q with
    | true =>
      obtain ⟨b, hb, hnb⟩ := HQ.out.1 rfl
      have hlt : at2 < s.size := by have := (List.getElem?_eq_some_iff.1 hb).1; have := HS.out; omega
      have HSC2 := Lib.hid (HSC.out.next hb hnb)
      clear hb hnb HQ
      go_wp2
      go_roundw
      case rel => exact ⟨at2 + 1, Lib.hid (RB_at HRC.out (by omega)), Lib.hid (grown_trans HGC.out (set_grown _ _ _ _)), Lib.hid ((heap_off _ _ hne).trans HZC.out), HSC2⟩
      case measure => rw [posOf_of (RB_at HRC.out (b := at2 + 1) (by omega)), HPW.out]; omega
    | false =>
      have HSP := Lib.hid (HQ.out.2 rfl)
      clear HQ
      have hle : (at1 : Int) ≤ (at2 : Int) := by have := HSC.out.1; omega
      have hle2 : (at2 : Int) ≤ (s.size : Int) := by omega
      go_wp2
      go_quiet (fail)
      rename_i nq
      obtain ⟨wq, hwq⟩ : ∃ wq, wq = wc.drewN nq := ⟨_, rfl⟩
      rw [← hwq]
      have HRQ : Hid (wq.heap[rb]? = some (RB s at2 false)) := Lib.hid (by rw [hwq]; exact HRC.out)
      have HGQ : Hid (w.grownBy wq (some rb)) := Lib.hid (by rw [hwq]; exact grown_trans HGC.out (Below.toGrown (below_q _ _) _))
      have HZQ : Hid (wq.heap[w.heap.size]? = some zRow) := Lib.hid (by rw [hwq]; exact HZC.out)
      clear hwq HRC HGC HZC HPW c0 c1 c2 f0 f1 f2 hle hle2
      obtain ⟨wd, hwd⟩ : ∃ wd, wd = s.extract at1 at2 := ⟨_, rfl⟩
      have HWD : Hid (wd.data.toList = seg s.data.toList at1 at2) := Lib.hid (by rw [hwd]; exact extract_seg _ _ _)
      rw [← hwd]
      clear hwd
      have hwz : wd.size ≤ 600 := by
        have h1 := congrArg List.length HWD.out
        rw [seg_len HSC.out.1 (by rw [HS.out]; exact ha2)] at h1
        simp at h1
        omega
      go_upto_block 2 with fail
      go_cut [95] (fun _ wx => Hid (LeafAt wd wq wx))
      case first =>
        by_cases hv : Nm 65 90 wd
        · have HF := Lib.hid (leaf_var (W := wq) hv)
          have HV := Lib.hid hv; clear hv
          go_wp2_with fail
          refine (sVar_any wd _ (by omega)).mono ?_
          rintro e w' ⟨b, rfl, hb, rfl⟩
          obtain rfl : b = true := hb.2 HV.out
          clear hb
          go_wp2
          go_meet
          exact HF
        · by_cases hd1 : wd.size = 1 ∧ 48 ≤ byteAt wd 0 ∧ byteAt wd 0 ≤ 57
          · have HF := Lib.hid (leaf_dig hv hd1.1 hd1.2)
            have HV := Lib.hid hv; clear hv
            have h2 : ((wd.size : Int) == 1) = true := by rw [beq_iff_eq]; omega
            have h3 : 0 < wd.size := by omega
            obtain ⟨x, hx⟩ : ∃ x : Int, x = (wd[0].toNat : Int) := ⟨_, rfl⟩
            have hx2 : 48 ≤ x ∧ x ≤ 57 := by have := hd1.2; rw [byteAt_lt wd 0 h3, ← hx] at this; exact this
            have HX : Hid (byteAt wd 0 = x) := Lib.hid (by rw [byteAt_lt wd 0 h3, hx])
            clear hd1
            go_wp2_with fail
            refine (sVar_any wd _ (by omega)).mono ?_
            rintro e w' ⟨b, rfl, hb, rfl⟩
            obtain rfl : b = false := by cases b with | true => exact absurd (hb.1 rfl) HV.out | false => rfl
            clear hb
            go_wp2_with fail
            have hwr : wrap64 (wrap64 (wd[0].toNat : Int) - 48) = x - 48 := by
              rw [← hx, IntWalk.wrap64_in x (by omega), IntWalk.wrap64_in _ (by omega)]
            have HWR := Lib.hid hwr; clear hwr
            rw [← hx]
            have HXE := Lib.hid hx; clear hx
            refine (sDigit_any x _ (by omega) (by omega)).mono ?_
            rintro e w' ⟨b, rfl, hb, rfl⟩
            obtain rfl : b = true := hb.2 hx2
            clear hb
            go_wp2_with fail
            rw [HWR.out]
            refine (l3Word_any (x - 48) _).mono ?_
            rintro e w2 ⟨rfl, hb2⟩
            have HB2 := Lib.hid ((bel_al wq _).trans (hb2.mono (by simp)))
            have HBX : Hid (w2.heap[wq.heap.size]? = some (.cells #[.int .i64 2, .int .i64 0, .string wd, .slice none 0 0] 26 (0, 0))) := Lib.hid ((hb2.block _ (by simp)).trans (heap_new _ _ rfl))
            obtain ⟨⟨x0, x1, x2, x3⟩, g0, g1, g2, g3⟩ := cells4r HBX.out
            clear hb2
            go_wp2
            go_meet
            exact Lib.hid ⟨3, x - 48, ByteArray.empty, by rw [HF.out, HX.out], Nat.zero_le _, set_box HBX.out _ _ _ _, leaf_below HB2.out _ _ _ _⟩
          · have HF := Lib.hid (leaf_app (W := wq) hv hd1)
            have HV := Lib.hid hv; clear hv
            go_wp2_with fail
            refine (sVar_any wd _ (by omega)).mono ?_
            rintro e w' ⟨b, rfl, hb, rfl⟩
            obtain rfl : b = false := by cases b with | true => exact absurd (hb.1 rfl) HV.out | false => rfl
            clear hb
            by_cases h1 : wd.size = 1
            · have h2 : ((wd.size : Int) == 1) = true := by rw [beq_iff_eq]; omega
              have h3 : 0 < wd.size := by omega
              obtain ⟨x, hx⟩ : ∃ x : Int, x = (wd[0].toNat : Int) := ⟨_, rfl⟩
              have HND : Hid (¬ (48 ≤ x ∧ x ≤ 57)) := Lib.hid (fun h => hd1 ⟨h1, by rw [byteAt_lt wd 0 h3, ← hx]; exact h⟩)
              have hx2 : 0 ≤ x ∧ x ≤ 255 := by have := wd[0].toNat_lt; omega
              clear hd1 h1
              go_wp2_with fail
              rw [← hx]
              clear hx
              refine (sDigit_any x _ hx2.1 hx2.2).mono ?_
              rintro e w' ⟨b, rfl, hb, rfl⟩
              obtain rfl : b = false := by cases b with | true => exact absurd (hb.1 rfl) HND.out | false => rfl
              clear hb
              go_wp2
              go_meet
              exact HF
            · have h2 : ((wd.size : Int) == 1) = false := by rw [beq_eq_false_iff_ne]; omega
              clear hd1 h1
              go_wp2
              go_meet
              exact HF
      obtain ⟨k0, n0, nm, hlf, hnm, htb, hbx⟩ := hcut.out
      have hrq : rb < wq.heap.size := (Array.getElem?_eq_some_iff.1 HRQ.out).1
      have HRX : Hid (wc.heap[rb]? = some (RB s at2 false)) := Lib.hid ((hbx.block _ hrq).trans HRQ.out)
      have HGX : Hid (w.grownBy wc (some rb)) := Lib.hid (grown_trans HGQ.out (Below.toGrown hbx _))
      have hzq : w.heap.size < wq.heap.size := (Array.getElem?_eq_some_iff.1 HZQ.out).1
      have HZX : Hid (wc.heap[w.heap.size]? = some zRow) := Lib.hid ((hbx.block _ hzq).trans HZQ.out)
      obtain ⟨tb, htbe⟩ : ∃ tb, tb = wq.heap.size := ⟨_, rfl⟩
      rw [← htbe] at htb hrq hzq ⊢
      have hbs : tb < wc.heap.size := (Array.getElem?_eq_some_iff.1 htb).1
      have HTB := Lib.hid htb; clear htb
      have HLF := Lib.hid (And.intro hlf hnm); clear hlf hnm
      have HSN : Hid (∀ p : List UInt8, Sees s.data.toList p at2 ↔ p <+: s.data.toList.drop at2) := Lib.hid (fun p => Iff.rfl)
      clear hcut hbx htbe HRQ HGQ HZQ
      go_wp2_with fail
      refine (sees_any rb s ⟨#[40]⟩ at2 false _ hs (by omega) (by decide) (by decide) HRX.out).mono ?_
      rintro e w' ⟨q, rfl, hq, nd, hw'⟩
      have HRN : Hid (w'.heap[rb]? = some (RB s at2 false)) := Lib.hid (by rw [hw']; exact HRX.out)
      have HGN : Hid (w.grownBy w' (some rb)) := Lib.hid (by rw [hw']; exact grown_trans HGX.out (Below.toGrown (below_q _ _) _))
      have HZN : Hid (w'.heap[w.heap.size]? = some zRow) := Lib.hid (by rw [hw']; exact HZX.out)
      have HTN : Hid (w'.heap[tb]? = some (.cells #[.int .i64 k0, .int .i64 n0, .string nm, .slice none 0 0] 26 (0, 0))) := Lib.hid (by rw [hw']; exact HTB.out)
      have HQ := Lib.hid hq
      clear hw' hq HRX HGX HZX HTB HSN hbs
      have hbs : tb < w'.heap.size := (Array.getElem?_eq_some_iff.1 HTN.out).1
      obtain ⟨⟨t0, t1, t2, t3⟩, _⟩ := cells4r HTN.out
      cases q with
      | false =>
        obtain ⟨⟨x0, x1, x2, x3⟩, g0, g1, g2, g3⟩ := cells4r HZN.out
        have HF := Lib.hid (term_fin (s := s) (d := d) (at1 := at1) (k := k0) (n := n0) (nm := nm) (a := none) (c := 0) (xs := []) (H := 0) (lo := w.heap.size + 1) HRN.out HGN.out hrlt
          (by
            have h1 := reads_word (s := s.data.toList) (d := d) (at1 := at1) (drop_seg s.data.toList HSC.out.1) HSC.out.2.2 HSP.out (fun h => by have := HQ.out.2 h; cases this)
            rw [← HWD.out, HLF.out.1] at h1
            have e : at1 + wd.data.toList.length = at2 := by rw [HWD.out, seg_len HSC.out.1 HSC.out.2.1]; have := HSC.out.1; omega
            rw [e] at h1
            exact h1)
          ⟨HSC.out.1, fun _ => ha2, by omega⟩ (by
            have h2 := HLF.out.2
            have e : wd.data.toList.length = at2 - at1 := by rw [HWD.out, seg_len HSC.out.1 HSC.out.2.1]
            have e2 : wd.data.toList.length = wd.size := by simp
            rw [wT_node]; simp [wS]; omega) (OwnR.nil _ _ _ _ _ _ _) (by omega))
        go_wp2
        (try simp only [Exit.inBlock, Exit.then])
        refine bodyPost_ret (v := tv k0 n0 nm (.slice none 0 0)) ?hr rfl ?_
        case hr =>
          rw [results_cell (a := 4) (t := 26) (ad := ⟨w.heap.size, 0, none⟩) rfl rfl]
          go_simp
        exact HF.out _ _ _ _
      | true =>
        have h40 := HQ.out.1 rfl
        have ha3 : at2 < s.size := by
          obtain ⟨r, hr⟩ := h40
          have := congrArg List.length hr
          rw [List.length_append, List.length_drop, HS.out] at this
          have e : (ByteArray.mk #[40]).data.toList.length = 1 := rfl
          omega
        have H40 := Lib.hid h40; clear h40
        have hwl : at1 + wd.size + 1 = at2 + 1 := by
          have e : wd.data.toList.length = at2 - at1 := by rw [HWD.out, seg_len HSC.out.1 HSC.out.2.1]
          have e2 : wd.data.toList.length = wd.size := by simp
          have := HSC.out.1
          omega
        have HWL := Lib.hid hwl; clear hwl
        obtain ⟨⟨c0, c1, c2⟩, f0, f1, f2⟩ := cells3r HRN.out
        have hned : tb ≠ rb := by omega
        have hnez : tb ≠ w.heap.size := by omega
        obtain ⟨a1, ha1⟩ : ∃ a1, a1 = at2 + 1 := ⟨_, rfl⟩
        have HA1 := Lib.hid ha1
        have HS0 : Hid ((w'.setCell ⟨rb, 1, none⟩ (.int .i64 ((at2 : Int) + 1))).heap[rb]? = some (RB s a1 false)) := Lib.hid (RB_at HRN.out (by omega))
        have HG0 : Hid (w.grownBy (w'.setCell ⟨rb, 1, none⟩ (.int .i64 ((at2 : Int) + 1))) (some rb)) := Lib.hid (grown_trans HGN.out (set_grown _ _ _ _))
        have HZ0 : Hid ((w'.setCell ⟨rb, 1, none⟩ (.int .i64 ((at2 : Int) + 1))).heap[w.heap.size]? = some zRow) := Lib.hid ((heap_off _ _ hne).trans HZN.out)
        have HT0 : Hid ((w'.setCell ⟨rb, 1, none⟩ (.int .i64 ((at2 : Int) + 1))).heap[tb]? = some (.cells #[.int .i64 k0, .int .i64 n0, .string nm, .slice none 0 0] 26 (0, 0))) := Lib.hid ((heap_off _ _ hned).trans HTN.out)
        have HBAD : Hid (∀ ts at3 b t at9 b', ReadsA s.data.toList d a1 ts at3 b → (b = true ∨ 16 < d ∨ 60 < ts.length) → ReadsT s.data.toList d at1 t at9 b') := Lib.hid (fun ts at3 b t at9 b' hra hb => by
          refine ReadsA.bad hra hb (drop_seg s.data.toList HSC.out.1) HSC.out.2.2 HSP.out H40.out ?_
          rw [seg_len HSC.out.1 HSC.out.2.1, HA1.out]; have := HSC.out.1; omega)
        have HCLOSE : Hid (∀ ts at3 c at4 b, ReadsA s.data.toList d a1 ts at3 false → ReadsT s.data.toList (d + 1) at3 c at4 b → [41] <+: s.data.toList.drop at4 → ReadsT s.data.toList d at1 (.node k0 n0 nm (ts ++ [c])) (at4 + 1) b) := Lib.hid (fun ts at3 c at4 b hra hc h41 => by
          refine ReadsA.close hra hc h41 (drop_seg s.data.toList HSC.out.1) HSC.out.2.2 HSP.out H40.out ?_ (by rw [← HWD.out]; exact HLF.out.1)
          rw [seg_len HSC.out.1 HSC.out.2.1, HA1.out]; have := HSC.out.1; omega)
        have HWT : Hid (∀ ts at9, wS ts + ts.length ≤ at9 - a1 → a1 ≤ at9 → wT (.node k0 n0 nm ts) ≤ at9 - at1 ∧ at1 ≤ at9) := Lib.hid (fun ts at9 h1 h2 => by
          have h3 := HLF.out.2
          have h4 := HWL.out
          have h5 := HA1.out
          rw [wT_node]; omega)
        clear ha1 t0 t1 t2 t3 HTN HZN HGN HRN HLF HWL HQ HWD HSP H40
        go_wp2
        go_loopw [8] (fun kv wr => ∃ (ts : List T) (at3 : Nat) (bad : Bool) (ua : Option Addr) (uc : Nat), kv = .int .i64 (ts.length : Nat) ∧ ts.length ≤ 61 ∧ Hid (wr.heap[rb]? = some (RB s at3 bad)) ∧ Hid (w.grownBy wr (some rb)) ∧ Hid (wr.heap[w.heap.size]? = some zRow) ∧
            Hid (wr.heap[tb]? = some (.cells #[.int .i64 k0, .int .i64 n0, .string nm, .slice ua ts.length uc] 26 (0, 0))) ∧ Hid (ArgsSo w (tb + 1) ua uc ts wr) ∧ Hid (ReadsA s.data.toList d a1 ts at3 bad) ∧ Hid (ArgPos s d a1 at3 bad ts)) (fun kv _ => 62 - (intOf kv).toNat)
        case atStart =>
          exact ⟨[], a1, false, none, 0, rfl, by simp, HS0, HG0, HZ0, HT0, Lib.hid ⟨⟨0, OwnR.nil _ _ _ _ _ _ _⟩, fun _ => rfl, by omega⟩, Lib.hid (ReadsA.start _ _ _), Lib.hid ⟨Nat.le_refl _, fun _ => by have := HA1.out; omega, by have := HA1.out; omega, by simp [wS]⟩⟩
        case round =>
          clear HS0 HG0 HZ0 HT0 c0 c1 c2 f0 f1 f2
          obtain ⟨ts, at3, bad, ua, uc, rfl, hk61, HR3, HG3, HZ3, HT3, HAS, HRA, HAP⟩ := hrel
          obtain ⟨⟨c0, c1, c2⟩, f0, f1, f2⟩ := cells3r HR3.out
          obtain ⟨⟨t0, t1, t2, t3⟩, p0, p1, p2, p3⟩ := cells4r HT3.out
          obtain ⟨⟨x0, x1, x2, x3⟩, g0, g1, g2, g3⟩ := cells4r HZ3.out
          obtain ⟨m, hm⟩ : ∃ m, m = ts.length := ⟨_, rfl⟩
          have HM := Lib.hid hm
          rw [← hm] at t3 hk61 HT3 ⊢
          have hzt : w.heap.size < tb := by omega
          have HML : Hid (m + 1 ≤ maxLen ∧ (m + 1) * 56 ≤ 140737488355328) := Lib.hid ⟨by unfold maxLen; omega, by omega⟩
          clear hm
          cases bad with
          | true =>
            have HF : Hid (∀ v0 v1 v2 v3, TermEnd s d rb at1 w (.returned (tv k0 n0 nm (.slice ua m uc))) ((((wr.setCell ⟨w.heap.size, 0, none⟩ v0).setCell ⟨w.heap.size, 1, none⟩ v1).setCell ⟨w.heap.size, 2, none⟩ v2).setCell ⟨w.heap.size, 3, none⟩ v3)) := Lib.hid (by
              rw [HM.out]
              obtain ⟨⟨H, ho⟩, _, hlo⟩ := HAS.out
              have hap := HAP.out
              have hwt := HWT.out ts at3 hap.2.2.2 hap.1
              exact term_fin HR3.out HG3.out hrlt (HBAD.out _ _ _ _ _ _ HRA.out (Or.inl rfl)) ⟨hwt.2, fun e => (by cases e), hap.2.2.1⟩ hwt.1 ho hlo)
            clear HIH HBAD HCLOSE
            go_wp2
            (try simp only [Exit.inBlock, Exit.then])
            refine bodyPost_ret (v := tv k0 n0 nm (.slice ua m uc)) ?hr rfl ?_
            case hr =>
              rw [results_cell (a := 4) (t := 26) (ad := ⟨w.heap.size, 0, none⟩) rfl rfl]
              go_simp
            exact HF.out _ _ _ _
          | false =>
            by_cases hbig : 16 < d ∨ 60 < m
            · have hrz : rb ≠ w.heap.size := by omega
              have hrt : tb ≠ rb := by omega
              have HF : Hid (∀ v0 v1 v2 v3, TermEnd s d rb at1 w (.returned (tv k0 n0 nm (.slice ua m uc))) (((((wr.setCell ⟨rb, 2, none⟩ (.bool true)).setCell ⟨w.heap.size, 0, none⟩ v0).setCell ⟨w.heap.size, 1, none⟩ v1).setCell ⟨w.heap.size, 2, none⟩ v2).setCell ⟨w.heap.size, 3, none⟩ v3)) := Lib.hid (by
                rw [HM.out] at hbig ⊢
                obtain ⟨⟨H, ho⟩, _, hlo⟩ := HAS.out
                have hap := HAP.out
                have hwt := HWT.out ts at3 hap.2.2.2 hap.1
                have ho2 : OwnR (fun _ => True) (wr.setCell ⟨rb, 2, none⟩ (.bool true)) (H + 1) (tb + 1) (wr.setCell ⟨rb, 2, none⟩ (.bool true)).heap.size (.slice ua ts.length uc) ts :=
                  (ho.keep fun b _ h1 _ => ⟨heap_off _ _ (by omega), trivial⟩).wide (Nat.le_refl _) (by simp)
                exact term_fin (RB_bad HR3.out true) (grown_trans HG3.out (set_grown _ _ _ _)) hrlt (HBAD.out _ _ _ _ _ _ HRA.out (Or.inr hbig)) ⟨hwt.2, fun e => (by cases e), hap.2.2.1⟩ hwt.1 ho2 hlo)
              clear HIH HBAD HCLOSE
              by_cases hd17 : 16 < d
              · have q1 : decide ((16 : Int) < (d : Int)) = true := by rw [decide_eq_true_iff]; omega
                clear hbig hd17
                go_wp2
                (try simp only [Exit.inBlock, Exit.then])
                refine bodyPost_ret (v := tv k0 n0 nm (.slice ua m uc)) ?hr2 rfl ?_
                case hr2 =>
                  rw [results_cell (a := 4) (t := 26) (ad := ⟨w.heap.size, 0, none⟩) rfl rfl]
                  go_simp
                exact HF.out _ _ _ _
              · have q1 : decide ((16 : Int) < (d : Int)) = false := by rw [decide_eq_false_iff_not]; omega
                have q2 : decide ((60 : Int) < (m : Int)) = true := by rw [decide_eq_true_iff]; omega
                clear hbig hd17
                go_wp2
                (try simp only [Exit.inBlock, Exit.then])
                refine bodyPost_ret (v := tv k0 n0 nm (.slice ua m uc)) ?hr3 rfl ?_
                case hr3 =>
                  rw [results_cell (a := 4) (t := 26) (ad := ⟨w.heap.size, 0, none⟩) rfl rfl]
                  go_simp
                exact HF.out _ _ _ _
            · have hd16 : d ≤ 16 := by omega
              have hm60 : m ≤ 60 := by omega
              clear hbig
              have HCALL : Hid (Calls Tryz.prog 46 #[.pointer (some ⟨rb, 0, none⟩), .int .i64 ((d : Int) + 1)] wr.drew (TermEnd s (d + 1) rb at3 wr.drew)) := Lib.hid (by
                have h := HIH.out (by omega) rb at3 wr.drew HR3.out (HAP.out.2.1 rfl)
                rw [show (((d + 1 : Nat) : Int)) = (d : Int) + 1 by omega] at h
                exact h)
              have hwd1 : IntKind.i64.wrap ((d : Int) + 1) = (d : Int) + 1 := IntWalk.i64_in _ (by omega)
              have HAFT := Lib.hid (fun (e : Ending) (w1 : World) (h : TermEnd s (d + 1) rb at3 wr.drew e w1) => got_arg h hs HM.out HG3.out HZ3.out HT3.out HAS.out hrlt hzt HML.out.1)
              go_upto_region 18 with fail
              go_cut [144] (fun _ wc => ∃ kc nc nmc xc at4 badc g3 c3, Hid (Got s w rb tb k0 n0 nm at4 badc (ts ++ [.node kc nc nmc xc]) (some ⟨g3, 0, none⟩) c3 wc) ∧ Hid (ReadsT s.data.toList (d + 1) at3 (.node kc nc nmc xc) at4 badc) ∧ Hid ((at3 ≤ at4 ∧ (badc = false → at4 ≤ s.size) ∧ at4 ≤ s.size + 2 * (17 - (d + 1))) ∧ wT (.node kc nc nmc xc) ≤ at4 - at3))
              case first =>
                go_region_law (first
                  | (refine step_append_lies _ rfl (.tmp 138) (.tmp 143) 24 rfl (tb + 1) 26 i0 (.agg #[.int .i64 0, .int .i64 0, .string ByteArray.empty, .slice none 0 0]) 4 56 Tryz.underlying24 HI.out HZI0.out HZI1.out HZI2.out rfl (by decide) (.slice ua m uc) m ys rfl HYS.out ⟨w1.heap.size, 0, none⟩ 1 1 [.int .i64 kc, .int .i64 nc, .string nmc, .slice ac xc.length cc] rfl rfl HNEW.out (by intro u hu; simp at hu; rcases hu with rfl | rfl | rfl | rfl <;> rfl) (by decide) HML.out.1 HML.out.2 HLO.out _ rfl ?_; intro g3 c3 w3 ho3 hg3 ha3 hl3; obtain ⟨htb3, hgot3⟩ := HGOT.out g3 c3 w3 ho3 hg3 ha3; obtain ⟨⟨q0', q1', q2', q3'⟩, r0', r1', r2', r3'⟩ := cells4r htb3; have HGOT3 := Lib.hid hgot3; clear ho3 hg3 ha3 hl3 htb3 hgot3)
                  | (go_simp; go_at_call 46; refine HCALL.out.mono ?_; intro e w1 hte; obtain ⟨kc, nc, nmc, ac, cc, xc, at4, badc, ys, rfl, hkt, hys, hlo1, hgot, hrt1, hpos1, hwt1⟩ := HAFT.out e w1 hte; clear hte; obtain ⟨⟨q0, q1, q2, q3⟩, r0, r1, r2, r3⟩ := cells4r hkt; have q3a := cell_on (bel_al w1 (.cells #[.int .i64 kc, .int .i64 nc, .string nmc, .slice ac xc.length cc] 26)) q3; have HYS := Lib.hid hys; have HGOT := Lib.hid hgot; have HLO := Lib.hid hlo1; have HNEW := Lib.hid (news4c w1 (.int .i64 kc) (.int .i64 nc) (.string nmc) (.slice ac xc.length cc) 26 rfl); have HR1 := Lib.hid hrt1; have HPW1 := Lib.hid (And.intro hpos1 hwt1); clear hkt hys hgot hlo1 hrt1 hpos1 hwt1))
                all_goals (
                  go_wp2_with fail
                  go_meet
                  exact ⟨kc, nc, nmc, xc, at4, badc, g3, c3, HGOT3, HR1, HPW1⟩)
              clear HCALL HAFT HIH HR3 HG3 HZ3 HT3 HAS c0 c1 c2 f0 f1 f2 t0 t1 t2 t3 p0 p1 p2 p3 x0 x1 x2 x3 g0 g1 g2 g3
              obtain ⟨kc, nc, nmc, xc, at4, badc, gr, cr, HGT, HRT, HPW⟩ := hcut
              have hat4 : at4 ≤ 1000 := by have := HPW.out.1.2.2; omega
              go_wp2_with fail
              refine (sees_any rb s ⟨#[41]⟩ at4 badc _ hs hat4 (by decide) (by decide) HGT.out.rd).mono ?_
              rintro e w5 ⟨q, rfl, hq, n5, hw5⟩
              have HG5 : Hid (Got s w rb tb k0 n0 nm at4 badc (ts ++ [.node kc nc nmc xc]) (some ⟨gr, 0, none⟩) cr w5) := Lib.hid (by rw [hw5]; exact HGT.out.drewN n5)
              have HQ5 := Lib.hid hq
              clear hw5 hq HGT
              obtain ⟨⟨c0, c1, c2⟩, f0, f1, f2⟩ := cells3r HG5.out.rd
              cases q with
              | true =>
                have h41 := HQ5.out.1 rfl
                have hl4 : at4 + 1 ≤ s.size := by have := sees_len h41 (by decide); rw [HS.out] at this; exact this
                have hg6 := HG5.out.set (at5 := at4 + 1) (bad' := badc) hrlt hzt 1 (.int .i64 ((at4 : Int) + 1)) (RB_at HG5.out.rd (by omega))
                obtain ⟨⟨t0, t1, t2, t3⟩, p0, p1, p2, p3⟩ := cells4r hg6.tt
                obtain ⟨⟨x0, x1, x2, x3⟩, g0, g1, g2, g3⟩ := cells4r hg6.zr
                have HL : Hid ((ts ++ [T.node kc nc nmc xc]).length = m + 1) := Lib.hid (by rw [List.length_append, List.length_singleton, HM.out])
                have HF : Hid (∀ v0 v1 v2 v3, TermEnd s d rb at1 w (.returned (tv k0 n0 nm (.slice (some ⟨gr, 0, none⟩) (m + 1) cr))) (((((w5.setCell ⟨rb, 1, none⟩ (.int .i64 ((at4 : Int) + 1))).setCell ⟨w.heap.size, 0, none⟩ v0).setCell ⟨w.heap.size, 1, none⟩ v1).setCell ⟨w.heap.size, 2, none⟩ v2).setCell ⟨w.heap.size, 3, none⟩ v3)) := Lib.hid (by
                  rw [← HL.out]
                  obtain ⟨⟨H, ho⟩, _, hlo⟩ := hg6.so
                  have hap := HAP.out
                  have hpw := HPW.out
                  have hwt := HWT.out (ts ++ [.node kc nc nmc xc]) (at4 + 1) (by rw [wS_snoc, HL.out]; have := hap.2.2.2; have := HM.out; have := hap.1; omega) (by have := hap.1; omega)
                  exact term_fin hg6.rd hg6.gr hrlt (HCLOSE.out _ _ _ _ _ HRA.out HRT.out h41) ⟨hwt.2, fun _ => hl4, by omega⟩ hwt.1 ho hlo)
                rw [HL.out] at t3
                clear hg6 h41 HBAD HCLOSE HWT
                go_wp2
                (try simp only [Exit.inBlock, Exit.then])
                refine bodyPost_ret (v := tv k0 n0 nm (.slice (some ⟨gr, 0, none⟩) (m + 1) cr)) ?hr4 rfl ?_
                case hr4 =>
                  rw [results_cell (a := 4) (t := 26) (ad := ⟨w.heap.size, 0, none⟩) rfl rfl]
                  go_simp
                exact HF.out _ _ _ _
              | false =>
                have h41 : ¬ [41] <+: s.data.toList.drop at4 := fun h => by have := HQ5.out.2 h; cases this
                have HN41 := Lib.hid h41; clear h41
                have HLEN : Hid (((ts ++ [T.node kc nc nmc xc]).length : Int) = (m : Int) + 1) := Lib.hid (by rw [List.length_append, List.length_singleton, ← HM.out]; rfl)
                have HL60 : Hid ((ts ++ [T.node kc nc nmc xc]).length ≤ 61) := Lib.hid (by rw [List.length_append, List.length_singleton, ← HM.out]; omega)
                cases badc with
                | true =>
                  have hg6 := HG5.out.set (at5 := at4) (bad' := true) hrlt hzt 2 (.bool true) (RB_bad HG5.out.rd true)
                  have hg7 := hg6.set (at5 := at4 + 2) (bad' := true) hrlt hzt 1 (.int .i64 ((at4 : Int) + 2)) (RB_at hg6.rd (by omega))
                  have HG7 := Lib.hid hg7
                  obtain ⟨⟨d0, d1, d2⟩, _⟩ := cells3r hg6.rd
                  clear hg6 hg7
                  have HRA7 : Hid (ReadsA s.data.toList d a1 (ts ++ [.node kc nc nmc xc]) (at4 + 2) true) := Lib.hid (by
                    have h := HRA.out.next HRT.out HN41.out (q := decide ([44, 32] <+: s.data.toList.drop at4)) (by simp)
                    simpa using h)
                  have HAP7 : Hid (ArgPos s d a1 (at4 + 2) true (ts ++ [.node kc nc nmc xc])) := Lib.hid (by
                    have h := HAP.out.next hd16 HPW.out (q := true) (fun e => by cases e)
                    simpa using h)
                  go_wp2
                  go_roundw
                  case rel => exact ⟨ts ++ [.node kc nc nmc xc], at4 + 2, true, some ⟨gr, 0, none⟩, cr, by rw [HLEN.out], HL60.out, Lib.hid HG7.out.rd, Lib.hid HG7.out.gr, Lib.hid HG7.out.zr, Lib.hid HG7.out.tt, Lib.hid HG7.out.so, HRA7, HAP7⟩
                  case measure => simp [intOf]; omega
                | false =>
                  go_wp2_with fail
                  refine (sees_any rb s ⟨#[44, 32]⟩ at4 false _ hs hat4 (by decide) (by decide) HG5.out.rd).mono ?_
                  rintro e w6 ⟨q, rfl, hq, n6, hw6⟩
                  have HG6 : Hid (Got s w rb tb k0 n0 nm at4 false (ts ++ [.node kc nc nmc xc]) (some ⟨gr, 0, none⟩) cr w6) := Lib.hid (by rw [hw6]; exact HG5.out.drewN n6)
                  have HQ6 := Lib.hid hq
                  clear hw6 hq HG5 c0 c1 c2 f0 f1 f2
                  obtain ⟨⟨c0, c1, c2⟩, f0, f1, f2⟩ := cells3r HG6.out.rd
                  have HRA7 : Hid (ReadsA s.data.toList d a1 (ts ++ [.node kc nc nmc xc]) (at4 + 2) (!q)) := Lib.hid (by
                    have h := HRA.out.next HRT.out HN41.out HQ6.out
                    simpa using h)
                  have HAP7 : Hid (ArgPos s d a1 (at4 + 2) (!q) (ts ++ [.node kc nc nmc xc])) := Lib.hid (by
                    have h := ArgPos.next (badc := false) HAP.out hd16 ⟨⟨HPW.out.1.1, fun _ => HPW.out.1.2.1 trivial, HPW.out.1.2.2⟩, HPW.out.2⟩ (q := q) (fun _ e => by
                      have := sees_len (HQ6.out.1 e) (by decide)
                      rw [HS.out] at this
                      exact this)
                    simpa using h)
                  cases q with
                  | true =>
                    have hg6 := HG6.out.set (at5 := at4) (bad' := false) hrlt hzt 2 (.bool false) (RB_bad HG6.out.rd false)
                    have hg7 := hg6.set (at5 := at4 + 2) (bad' := false) hrlt hzt 1 (.int .i64 ((at4 : Int) + 2)) (RB_at hg6.rd (by omega))
                    have HG7 := Lib.hid hg7
                    obtain ⟨⟨d0, d1, d2⟩, _⟩ := cells3r hg6.rd
                    clear hg6 hg7
                    have HAP8 : Hid (ArgPos s d a1 (at4 + 2) false (ts ++ [.node kc nc nmc xc])) := HAP7
                    have HRA8 : Hid (ReadsA s.data.toList d a1 (ts ++ [.node kc nc nmc xc]) (at4 + 2) false) := HRA7
                    go_wp2
                    go_roundw
                    case rel => exact ⟨ts ++ [.node kc nc nmc xc], at4 + 2, false, some ⟨gr, 0, none⟩, cr, by rw [HLEN.out], HL60.out, Lib.hid HG7.out.rd, Lib.hid HG7.out.gr, Lib.hid HG7.out.zr, Lib.hid HG7.out.tt, Lib.hid HG7.out.so, HRA8, HAP8⟩
                    case measure => simp [intOf]; omega
                  | false =>
                    have hg6 := HG6.out.set (at5 := at4) (bad' := true) hrlt hzt 2 (.bool true) (RB_bad HG6.out.rd true)
                    have hg7 := hg6.set (at5 := at4 + 2) (bad' := true) hrlt hzt 1 (.int .i64 ((at4 : Int) + 2)) (RB_at hg6.rd (by omega))
                    have HG7 := Lib.hid hg7
                    obtain ⟨⟨d0, d1, d2⟩, _⟩ := cells3r hg6.rd
                    clear hg6 hg7
                    have HAP8 : Hid (ArgPos s d a1 (at4 + 2) true (ts ++ [.node kc nc nmc xc])) := HAP7
                    have HRA8 : Hid (ReadsA s.data.toList d a1 (ts ++ [.node kc nc nmc xc]) (at4 + 2) true) := HRA7
                    go_wp2
                    go_roundw
                    case rel => exact ⟨ts ++ [.node kc nc nmc xc], at4 + 2, true, some ⟨gr, 0, none⟩, cr, by rw [HLEN.out], HL60.out, Lib.hid HG7.out.rd, Lib.hid HG7.out.gr, Lib.hid HG7.out.zr, Lib.hid HG7.out.tt, Lib.hid HG7.out.so, HRA8, HAP8⟩
                    case measure => simp [intOf]; omega

theorem sTerm_any (s : ByteArray) (hs : s.size ≤ 600) (d : Nat) (hd : 1 ≤ d ∧ d ≤ 17) : TermAtD s d := by
  obtain ⟨j, hj⟩ : ∃ j, d + j = 17 := ⟨17 - d, by omega⟩
  induction j generalizing d with
  | zero => exact sTerm_step s d hs hd (fun h => by omega)
  | succ j ih => exact sTerm_step s d hs hd (fun h => ih (d + 1) (by omega) (by omega))
end Go.Proofs.YtidbokheeieifaaGreatDoor
