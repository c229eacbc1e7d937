/-
  impl.readTerm: the scan of a text, rune by rune.
-/
import Derived.Test.YtidbokheeieifaaGreatDoorQ29
namespace Go.Proofs.YtidbokheeieifaaGreatDoor
open Go.RowKit

theorem at_list {s : ByteArray} {i : Nat} (h : i < s.size) : s.data.toList[i]? = some s[i] := by
  rw [List.getElem?_eq_getElem (by simpa using h)]; rfl
/-- What a rune tells. -/
theorem dec_kind {s : ByteArray} {pos : Nat} (h : pos < s.size) : 1 ≤ (Utf8.decode s pos).2 ∧ pos + (Utf8.decode s pos).2 ≤ s.size ∧
    (∀ x : UInt8, Special x → (Utf8.decode s pos).1 = x.toNat → (Utf8.decode s pos).2 = 1 ∧ s.data.toList[pos]? = some x) ∧
    ((∀ x : UInt8, Special x → (Utf8.decode s pos).1 ≠ x.toNat) → ∀ b ∈ seg s.data.toList pos (pos + (Utf8.decode s pos).2), ¬ Special b) := by
  have hsp : ∀ x : UInt8, Special x → x.toNat < 128 := by rintro x (rfl | rfl | rfl | rfl) <;> decide
  rcases dec_cases s pos h with ⟨ha, hd⟩ | ⟨ha, h1, h2, h3, h4⟩
  · rw [hd]
    refine ⟨Nat.le_refl _, h, fun x hx e => ⟨rfl, ?_⟩, fun hno b hb => ?_⟩
    · rw [at_list h]
      congr 1
      exact UInt8.toNat_inj.1 e
    · rw [seg_one (at_list h), List.mem_singleton] at hb
      subst hb
      exact fun hb => hno _ hb rfl
  · refine ⟨h2, h3, fun x hx e => ?_, fun _ b hb => ?_⟩
    · have := hsp x hx; omega
    · obtain ⟨j, hj, rfl⟩ := List.getElem_of_mem hb
      have hl := seg_len (L := s.data.toList) (Nat.le_add_right pos (Utf8.decode s pos).2) (by simpa using h3)
      rw [hl] at hj
      have e : (seg s.data.toList pos (pos + (Utf8.decode s pos).2))[j] = s.get! (pos + j) := by
        rw [get_mid s (pos + j) (by omega)]
        simp only [seg, List.getElem_take, List.getElem_drop]
        rfl
      rw [e]
      intro hx
      have := hsp _ hx
      have := h4 j (by omega)
      omega

/-- What was read: a term whose rows are the call's own, or nothing. -/
def ReadEnd (L : List UInt8) (w : World) (e : Ending) (w' : World) : Prop :=
  Below w.heap.size w w' ∧ ((∃ t k n nm a m c xs H, e = .returned (.tuple #[tv k n nm (.slice a m c), .bool true]) ∧ t = .node k n nm xs ∧ readR L = some t ∧ wT t ≤ 4000 ∧ nm.size ≤ maxLen ∧ OwnR (fun _ => True) w' H (w.heap.size + 1) w'.heap.size (.slice a m c) xs) ∨
    (e = .returned (.tuple #[tv 0 0 ByteArray.empty (.slice none 0 0), .bool false]) ∧ readR L = none))
theorem read_none {L : List UInt8} {w w' : World} (h : readR L = none) (hb : Below w.heap.size w w') (v0 v1 v2 v3 : Value) : ReadEnd L w (.returned (.tuple #[tv 0 0 ByteArray.empty (.slice none 0 0), .bool false])) ((((w'.setCell ⟨w.heap.size, 0, none⟩ v0).setCell ⟨w.heap.size, 1, none⟩ v1).setCell ⟨w.heap.size, 2, none⟩ v2).setCell ⟨w.heap.size, 3, none⟩ v3) :=
  ⟨leaf_below hb _ _ _ _, Or.inr ⟨rfl, h⟩⟩
theorem read_some {L : List UInt8} {w w' : World} {k n : Int} {nm : ByteArray} {a : Option Addr} {m c H lo : Nat} {xs : List T} (h : readR L = some (.node k n nm xs)) (hw : wT (.node k n nm xs) ≤ 4000) (hnm : nm.size ≤ maxLen) (ho : OwnR (fun _ => True) w' H lo w'.heap.size (.slice a m c) xs) (hlo : w.heap.size + 1 ≤ lo) (hb : Below w.heap.size w w') (v0 v1 v2 v3 : Value) :
    ReadEnd L w (.returned (.tuple #[tv k n nm (.slice a m c), .bool true])) ((((w'.setCell ⟨w.heap.size, 0, none⟩ v0).setCell ⟨w.heap.size, 1, none⟩ v1).setCell ⟨w.heap.size, 2, none⟩ v2).setCell ⟨w.heap.size, 3, none⟩ v3) := by
  have st : ∀ (W : World) (j : Nat) (v : Value), OwnR (fun _ => True) W H lo w'.heap.size (.slice a m c) xs → OwnR (fun _ => True) (W.setCell ⟨w.heap.size, j, none⟩ v) H lo w'.heap.size (.slice a m c) xs := fun W j v o =>
    o.keep fun b _ h1 _ => ⟨Below.heap_setCell _ _ _ _ (fun e => by simp at e; omega), trivial⟩
  exact ⟨leaf_below hb _ _ _ _, Or.inl ⟨_, k, n, nm, a, m, c, xs, H, rfl, rfl, h, hw, hnm, (st _ _ _ (st _ _ _ (st _ _ _ (st _ _ _ ho)))).wide hlo (by simp [World.setCell])⟩⟩
theorem read_gone {st : List T} {l : List UInt8} {k n : Int} {nm : ByteArray} {xs r : List T} (h : addS l st = .node k n nm xs :: r) (hno : r.length ≠ 0 ∨ xs.length ≠ 1) : endR (st, l) = none :=
  endR_no fun k2 n2 s2 t e => by
    rw [h] at e
    simp only [List.cons.injEq, T.node.injEq] at e
    obtain ⟨⟨_, _, _, rfl⟩, rfl⟩ := e
    simp at hno

set_option maxRecDepth 100000 in
set_option maxHeartbeats 3200000 in
theorem readI_any (s : ByteArray) (w : World) (hs : s.size ≤ 600) (ht : TabsAt w) : Calls Tryz.prog 44 #[.string s] w (ReadEnd s.data.toList w) := by
  obtain ⟨i0, hi, hz0, hz1, hz2⟩ := info_parts infoTermA
  have HI := Lib.hid hi; clear hi
  have HZ0 := Lib.hid hz0; clear hz0
  have HZ1 := Lib.hid hz1; clear hz1
  have HZ2 := Lib.hid hz2; clear hz2
  have HT := Lib.hid ht; clear ht
  have hsl : s.data.toList.length = s.size := by simp
  have HSL := Lib.hid hsl; clear hsl
  obtain ⟨hst0, hit0, hbw0, hzr0⟩ := stk_startR w s
  have HS0 := Lib.hid hst0; clear hst0
  have HI0 := Lib.hid hit0; clear hit0
  have HB0 := Lib.hid hbw0; clear hbw0
  have HZR0 := Lib.hid hzr0; clear hzr0
  go_enter Tryz.func44, Tryz.ntmps44
  go_wp2
  go_loopw [4, 5] (fun v i wr => ∃ (pos start : Nat) (st : List T), i = .int .i64 start ∧ Hid (StkAt (w.heap.size + 1) (w.heap.size + 3) v st wr) ∧ Hid (wr.heap[w.heap.size + 2]? = some (.stringIter s pos)) ∧ Hid (Below w.heap.size w wr) ∧ Hid (wr.heap[w.heap.size]? = some zRow) ∧
    Hid (RdAt s.data.toList pos start st) ∧ start ≤ pos ∧ pos ≤ s.size) (fun v i wr => s.size - wr.iterPos (w.heap.size + 2))
  case atStart => exact ⟨0, 0, _, rfl, HS0, HI0, HB0, HZR0, Lib.hid (RdAt.init _), Nat.le_refl _, Nat.zero_le _⟩
  case round =>
    clear HS0 HI0 HB0 HZR0
    obtain ⟨pos, start, st, rfl, HS, HIT, HB, HZR, HR, hsp, hps⟩ := hrel
    obtain ⟨p, r, rfl⟩ := HR.out.cons
    obtain ⟨g, cap, rfl, hg0, hg1⟩ := HS.out.form
    have HTR := Lib.hid (HT.out.below HB.out HT.out.low)
    have HIP : Hid (wr.iterPos (w.heap.size + 2) = pos) := Lib.hid (iterPos_of HIT.out)
    have HG := Lib.hid (And.intro hg0 hg1); clear hg0 hg1
    by_cases hp : pos < s.size
    · obtain ⟨hwd, hpw, hsp1, hno⟩ := dec_kind hp
      obtain ⟨W1, hW1⟩ : ∃ W1, W1 = wr.iterAt (w.heap.size + 2) s (pos + (Utf8.decode s pos).2) := ⟨_, rfl⟩
      have hnx : ∀ ty, (Instr.next (.pointer (some ⟨w.heap.size + 2, 0, none⟩)) true ty).run Tryz.prog wr = .ok (.tuple #[.bool true, .int .i64 pos, .int .i32 (Utf8.decode s pos).1]) W1 := fun ty => by rw [hW1]; exact Lib.run_next_any_at wr (w.heap.size + 2) s pos ty HIT.out hp
      have HS1 : Hid (StkAt (w.heap.size + 1) (w.heap.size + 3) (.slice (some ⟨g, 0, none⟩) (r.length + 1) cap) (p :: r) W1) := Lib.hid (by rw [hW1]; exact HS.out.iterAt HIT.out (by omega) _)
      have HIT1 : Hid (W1.heap[w.heap.size + 2]? = some (.stringIter s (pos + (Utf8.decode s pos).2))) := Lib.hid (by rw [hW1]; exact Lib.iterAt_heap _ _ _ _ _ HIT.out)
      have HB1 : Hid (Below w.heap.size w W1) := Lib.hid (by rw [hW1]; exact Lib.below_iterAt HB.out (by omega) _ _)
      have HZR1 : Hid (W1.heap[w.heap.size]? = some zRow) := Lib.hid (by rw [hW1, Lib.iterAt_other _ _ _ _ _ (by omega)]; exact HZR.out)
      have HTR1 := Lib.hid (HT.out.below HB1.out HT.out.low)
      have HGK : Hid (g ≠ w.heap.size + 2) := Lib.hid (by obtain ⟨H, xs, ho, hx⟩ := HS1.out; exact not_iter ho HIT1.out)
      clear HS HIT HB HZR HTR hW1
      obtain ⟨c, hc⟩ : ∃ c, c = (Utf8.decode s pos).1 := ⟨_, rfl⟩
      obtain ⟨wd, hwdd⟩ : ∃ wd, wd = (Utf8.decode s pos).2 := ⟨_, rfl⟩
      rw [← hc] at hnx hsp1 hno
      rw [← hwdd] at hwd hpw hsp1 hno HIT1
      clear hc hwdd
      have HNO := Lib.hid hno; clear hno
      have HSP := Lib.hid hsp1; clear hsp1
      have HWL : Hid (wL (p :: r) ≤ 100000 ∧ r.length ≤ 100000) := Lib.hid (by have := HR.out.2.2.2.2; refine ⟨by omega, ?_⟩; simp only [wL, List.length_cons] at this; omega)
      have HEX := Lib.hid (extract_seg s start pos)
      have HSZ : Hid ((s.extract start pos).size ≤ 600) := Lib.hid (by have := congrArg List.length (extract_seg s start pos); rw [seg_len hsp (by rw [HSL.out]; omega)] at this; simp at this ⊢; omega)
      have HMS : Hid (∀ (W9 : World), W9.heap[w.heap.size + 2]? = some (.stringIter s (pos + wd)) → s.size - W9.iterPos (w.heap.size + 2) < s.size - wr.iterPos (w.heap.size + 2)) := Lib.hid (fun W9 h9 => by rw [HIP.out, iterPos_of h9]; omega)
      by_cases h40 : c = 40
      · subst h40
        obtain ⟨rfl, hL⟩ := HSP.out 40 (Or.inl rfl) rfl
        have HR2 := Lib.hid (HR.out.opens hL)
        have hh := HS1.out
        obtain ⟨H, xs, ho, hx⟩ := hh
        have HO := Lib.hid ho; clear ho
        have HX := Lib.hid hx; clear hx
        have HLO : Hid (w.heap.size + 3 ≤ W1.heap.size) := Lib.hid (by have := (Array.getElem?_eq_some_iff.1 HIT1.out).1; omega)
        go_wp2_with (first | (at_builtin; refine wpList_append_lies _ rfl (.tmp 26) (.tmp 29) 24 rfl (w.heap.size + 1) 26 i0 (.agg #[.int .i64 0, .int .i64 0, .string ByteArray.empty, .slice none 0 0]) 4 56 Tryz.underlying24 HI.out HZ0.out HZ1.out HZ2.out rfl (by decide) _ _ _ rfl (keep_own HO.out (bel_al _ _)) ⟨W1.heap.size, 0, none⟩ 1 1 [.int .i64 2, .int .i64 0, .string (s.extract start pos), .slice none 0 0] ?c0 rfl ?c1 ?c2 (by decide) ?c3 ?c4 ?c5 _ rfl ?_))
        case c2 => exact ⟨rfl, rfl, rfl, rfl⟩
        case c3 => have := HWL.out.2; unfold maxLen; omega
        case c4 => have := HWL.out.2; omega
        case c5 => have := HLO.out; omega
        intro g3 c3 w3 hown hgr hat hlt
        have HS3 := Lib.hid (StkAt.push HO.out HX.out HLO.out (sym := s.extract start pos) (by have := HSZ.out; unfold maxLen; omega) hown hgr (by simpa using hat))
        have hkk : ∀ b, b < W1.heap.size → b ≠ g → w3.heap[b]? = W1.heap[b]? := fun b h1 h2 => (hgr.block b (by simp; omega) (fun e => h2 (by simpa [Value.ownBlock] using e))).trans (Below.heap_alloc _ _ _ h1)
        have hgk : g ≠ w.heap.size + 2 := not_iter HO.out HIT1.out
        have HIT3 : Hid (w3.heap[w.heap.size + 2]? = some (.stringIter s (pos + 1))) := Lib.hid ((hkk _ (by have := HLO.out; omega) (Ne.symm hgk)).trans HIT1.out)
        have HB3 : Hid (Below w.heap.size w w3) := Lib.hid ((HB1.out.alloc HB1.out.size _).grown hgr (by have := HB1.out.size; simp; omega) (fun j e => by have := HG.out.1; simp [Value.ownBlock] at e; omega))
        have HZR3 : Hid (w3.heap[w.heap.size]? = some zRow) := Lib.hid ((hkk _ (by have := HLO.out; omega) (by have := HG.out.1; omega)).trans HZR1.out)
        have HR3 : Hid (RdAt s.data.toList (pos + 1) (pos + 1) (.node 2 0 (s.extract start pos) [] :: p :: r)) := Lib.hid (by have h := HR2.out; rw [← HEX.out, mk_data] at h; exact h)
        clear hown hgr hat hlt hkk hgk
        go_wp2
        go_roundw
        case rel => exact ⟨pos + 1, pos + 1, _, by go_num, HS3, HIT3, HB3, HZR3, HR3, Nat.le_refl _, by omega⟩
        case measure => exact HMS.out _ HIT3.out
      · have HCS := Lib.hid (addSym_any (w.heap.size + 1) (w.heap.size + 3) (.slice (some ⟨g, 0, none⟩) (r.length + 1) cap) p r (s.extract start pos) W1 (by omega) (by have := HSZ.out; omega) HTR1.out HS1.out HWL.out.1)
        have HLK : Hid (∀ W2, Left (w.heap.size + 1) (w.heap.size + 3) (.slice (some ⟨g, 0, none⟩) (r.length + 1) cap) W1 W2 → W2.heap[w.heap.size + 2]? = some (.stringIter s (pos + wd)) ∧ Below w.heap.size w W2 ∧ W2.heap[w.heap.size]? = some zRow) := Lib.hid (fun W2 hl2 =>
          ⟨hl2.iter HS1.out HIT1.out (by omega), HB1.out.trans (hl2.1.mono (by omega)), (hl2.1.block _ (by omega)).trans HZR1.out⟩)
        obtain ⟨q, hq⟩ := addS_cons (s.extract start pos).data.toList p r
        rw [hq] at HCS
        have HQ : Hid (addS (seg s.data.toList start pos) (p :: r) = q :: r) := Lib.hid (by rw [← HEX.out]; exact hq)
        clear hq
        by_cases h44 : c = 44 ∨ c = 32
        · obtain ⟨x, hx4, hcx⟩ : ∃ x : UInt8, (x = 44 ∨ x = 32) ∧ c = x.toNat := by
            rcases h44 with rfl | rfl
            · exact ⟨44, Or.inl rfl, rfl⟩
            · exact ⟨32, Or.inr rfl, rfl⟩
          obtain ⟨rfl, hL⟩ := HSP.out x (by rcases hx4 with rfl | rfl <;> simp [Special]) hcx
          have HR3 : Hid (RdAt s.data.toList (pos + 1) (pos + 1) (q :: r)) := Lib.hid (by have h := HR.out.comma hL hx4; rw [HQ.out] at h; exact h)
          clear hx4 hcx hL
          rcases h44 with rfl | rfl
          all_goals (
            go_wp2_with fail
            refine HCS.out.mono ?_
            rintro e W2 ⟨rfl, hs2, hl2⟩
            obtain ⟨hit2, hbw2, hzr2⟩ := HLK.out _ hl2
            have HS2 := Lib.hid hs2; clear hs2 hl2
            have HIT2 := Lib.hid hit2; clear hit2
            have HB2 := Lib.hid hbw2; clear hbw2
            have HZR2 := Lib.hid hzr2; clear hzr2
            go_wp2
            go_roundw
            case rel => exact ⟨pos + 1, pos + 1, _, by go_num, HS2, HIT2, HB2, HZR2, HR3, Nat.le_refl _, by omega⟩
            case measure => exact HMS.out _ HIT2.out)
        · by_cases h41 : c = 41
          · subst h41
            obtain ⟨rfl, hL⟩ := HSP.out 41 (Or.inr (Or.inl rfl)) rfl
            cases r with
            | nil =>
              have HNONE := Lib.hid (HR.out.stuck hL HQ.out)
              go_wp2_with fail
              refine HCS.out.mono ?_
              rintro e W2 ⟨rfl, hs2, hl2⟩
              obtain ⟨_, hbw2, hzr2⟩ := HLK.out _ hl2
              have HF := Lib.hid (read_none HNONE.out hbw2)
              obtain ⟨⟨x0, x1, x2, x3⟩, f0, f1, f2, f3⟩ := cells4r hzr2
              clear hs2 hl2 hbw2 hzr2
              go_wp2
              (try simp only [Exit.inBlock, Exit.then])
              refine bodyPost_ret (v := .tuple #[tv 0 0 ByteArray.empty (.slice none 0 0), .bool false]) ?_ rfl ?_
              · refine results_ctR (a := 2) (b := 3) (t := 26) (ad := ⟨w.heap.size, 0, none⟩) rfl rfl _ _ ?_
                go_simp
                rfl
              · exact HF.out _ _ _ _
            | cons y r =>
              have HR3 := Lib.hid (HR.out.close hL HQ.out)
              have HWQ : Hid (wL (q :: y :: r) ≤ 100000) := Lib.hid (by have h := HR.out.sym; rw [HQ.out] at h; omega)
              obtain ⟨kq, nq, sq, xq⟩ := q
              have hrl : r.length ≤ 100000 := by have := HWL.out.2; rw [List.length_cons] at this; omega
              have hrz : ((r.length : Int) + 1 == 0) = false := by rw [beq_eq_false_iff_ne]; omega
              go_wp2_with fail
              refine HCS.out.mono ?_
              rintro e W2 ⟨rfl, hs2, hl2⟩
              obtain ⟨hit2, hbw2, hzr2⟩ := HLK.out _ hl2
              obtain ⟨qa, qm, qc, ⟨d0, d1, d2, d3⟩, hcall⟩ := StkAt.pop (by omega) hs2 HWQ.out
              have HCALL := Lib.hid hcall; clear hcall
              have hcap : r.length + 1 + 1 ≤ cap := hs2.cap
              have hcc : (0 : Int) ≤ (r.length : Int) + 1 ∧ (r.length : Int) + 1 ≤ (cap : Int) := by omega
              clear hs2 hl2
              go_wp2_with fail
              refine (HCALL.out _ (bel_al _ _)).mono ?_
              rintro e W4 ⟨rfl, hs4, hl4⟩
              have hz2 : w.heap.size + 2 < W2.heap.size := (Array.getElem?_eq_some_iff.1 hit2).1
              have HIT4 : Hid (W4.heap[w.heap.size + 2]? = some (.stringIter s (pos + 1))) := Lib.hid ((hl4.2 _ (by omega) (by simp; omega) (fun e => HGK.out (by simpa [Value.ownBlock] using e.symm))).trans ((Below.heap_alloc _ _ _ (by omega)).trans hit2))
              have HB4 : Hid (Below w.heap.size w W4) := Lib.hid ((hbw2.alloc hbw2.size _).trans (hl4.1.mono (by omega)))
              have HZR4 : Hid (W4.heap[w.heap.size]? = some zRow) := Lib.hid ((hl4.1.block _ (by omega)).trans ((Below.heap_alloc _ _ _ (by omega)).trans hzr2))
              have HS4 := Lib.hid hs4
              clear hs4 hl4 hit2 hbw2 hzr2 d0 d1 d2 d3
              go_wp2
              go_roundw
              case rel => exact ⟨pos + 1, pos + 1, _, by go_num, HS4, HIT4, HB4, HZR4, HR3, Nat.le_refl _, by omega⟩
              case measure => exact HMS.out _ HIT4.out
          · have e40 : ((c : Int) == 40) = false := by rw [beq_eq_false_iff_ne]; omega
            have e41 : ((c : Int) == 41) = false := by rw [beq_eq_false_iff_ne]; omega
            have e44 : ((c : Int) == 44) = false := by rw [beq_eq_false_iff_ne]; omega
            have e32 : ((c : Int) == 32) = false := by rw [beq_eq_false_iff_ne]; omega
            have HR3 : Hid (RdAt s.data.toList (pos + wd) start (p :: r)) := Lib.hid (HR.out.plain (by rw [HSL.out]; exact hpw) (HNO.out (by rintro x (rfl | rfl | rfl | rfl) e <;> simp at e <;> omega)))
            clear h40 h44 h41 HCS HQ
            go_wp2
            go_roundw
            case rel => exact ⟨pos + wd, start, _, rfl, HS1, HIT1, HB1, HZR1, HR3, by omega, by omega⟩
            case measure => exact HMS.out _ HIT1.out
    · obtain rfl : pos = s.size := by omega
      have hnx : ∀ ty, (Instr.next (.pointer (some ⟨w.heap.size + 2, 0, none⟩)) true ty).run Tryz.prog wr = .ok (.tuple #[.bool false]) wr := fun ty => Lib.run_next_end_at wr (w.heap.size + 2) s s.size ty HIT.out hp
      have hR : RdAt s.data.toList s.data.toList.length start (p :: r) := by rw [HSL.out]; exact HR.out
      have HDN := Lib.hid hR.done
      have HWL : Hid (wL (p :: r) ≤ 100000 ∧ r.length ≤ 100000) := Lib.hid (by have := HR.out.2.2.2.2; refine ⟨by omega, ?_⟩; simp only [wL, List.length_cons] at this; omega)
      have HEX : Hid ((s.extract start s.size).data.toList = seg s.data.toList start s.data.toList.length) := Lib.hid (by rw [extract_seg, HSL.out])
      have HSZ : Hid ((s.extract start s.size).size ≤ 600) := Lib.hid (by have := congrArg List.length (extract_seg s start s.size); rw [seg_len hsp (by rw [HSL.out]; exact Nat.le_refl _)] at this; simp at this ⊢; omega)
      have HCS := Lib.hid (addSym_any (w.heap.size + 1) (w.heap.size + 3) (.slice (some ⟨g, 0, none⟩) (r.length + 1) cap) p r (s.extract start s.size) wr (by omega) (by have := HSZ.out; omega) HTR.out HS.out HWL.out.1)
      have HLK : Hid (∀ W2, Left (w.heap.size + 1) (w.heap.size + 3) (.slice (some ⟨g, 0, none⟩) (r.length + 1) cap) wr W2 → Below w.heap.size w W2 ∧ W2.heap[w.heap.size]? = some zRow) := Lib.hid (fun W2 hl2 =>
        ⟨HB.out.trans (hl2.1.mono (by omega)), (hl2.1.block _ (by omega)).trans HZR.out⟩)
      obtain ⟨q, hq⟩ := addS_cons (s.extract start s.size).data.toList p r
      rw [hq] at HCS
      have HQ : Hid (addS (seg s.data.toList start s.data.toList.length) (p :: r) = q :: r) := Lib.hid (by rw [← HEX.out]; exact hq)
      have HWQ : Hid (wL (q :: r) ≤ 3000) := Lib.hid (by have h := hR.sym; rw [HQ.out, HSL.out] at h; omega)
      clear hq hR
      obtain ⟨kq, nq, sq, xq⟩ := q
      cases r with
      | cons y r =>
        have HNONE : Hid (readR s.data.toList = none) := Lib.hid (by rw [HDN.out]; exact read_gone HQ.out (Or.inl (by simp)))
        have hrl : r.length ≤ 100000 := by have := HWL.out.2; rw [List.length_cons] at this; omega
        have hrz : ((r.length : Int) + 1 + 1 != 1) = true := by rw [bne_iff_ne]; omega
        go_wp2_with fail
        refine HCS.out.mono ?_
        rintro e W2 ⟨rfl, hs2, hl2⟩
        obtain ⟨hbw2, hzr2⟩ := HLK.out _ hl2
        have HF := Lib.hid (read_none HNONE.out hbw2)
        obtain ⟨⟨x0, x1, x2, x3⟩, f0, f1, f2, f3⟩ := cells4r hzr2
        clear hs2 hl2 hbw2 hzr2
        go_wp2
        (try simp only [Exit.inBlock, Exit.then])
        refine bodyPost_ret (v := .tuple #[tv 0 0 ByteArray.empty (.slice none 0 0), .bool false]) ?_ rfl ?_
        · refine results_ctR (a := 2) (b := 3) (t := 26) (ad := ⟨w.heap.size, 0, none⟩) rfl rfl _ _ ?_
          go_simp
          rfl
        · exact HF.out _ _ _ _
      | nil =>
        by_cases hm : xq.length = 1
        · obtain ⟨t, rfl⟩ : ∃ t, xq = [t] := List.length_eq_one_iff.1 hm
          obtain ⟨k2, n2, s2, x2⟩ := t
          have HSOME : Hid (readR s.data.toList = some (.node k2 n2 s2 x2)) := Lib.hid (by rw [HDN.out]; exact endR_one HQ.out)
          have HWT : Hid (wT (.node k2 n2 s2 x2) ≤ 4000) := Lib.hid (by have h := HWQ.out; simp only [wL, wS, List.map_cons, List.map_nil, List.sum_cons, List.sum_nil] at h; rw [wT_node] at h; simp only [wS, List.map_cons, List.map_nil, List.sum_cons, List.sum_nil] at h; omega)
          go_wp2_with fail
          refine HCS.out.mono ?_
          rintro e W2 ⟨rfl, hs2, hl2⟩
          obtain ⟨hbw2, hzr2⟩ := HLK.out _ hl2
          obtain ⟨la, lc, hc3, hlast⟩ := StkAt.last hs2
          obtain ⟨g1, a2, m2, c2, H, rfl, hs2n, ⟨d0, d1, d2, d3⟩, hown⟩ := hlast _ _ _ _ rfl
          obtain ⟨⟨x0, x1, x2', x3⟩, f0, f1, f2, f3⟩ := cells4r hzr2
          have HF := Lib.hid (read_some HSOME.out HWT.out hs2n hown (by omega) hbw2)
          clear hs2 hl2 hbw2 hzr2 hlast hown
          go_wp2
          (try simp only [Exit.inBlock, Exit.then])
          refine bodyPost_ret (v := .tuple #[tv k2 n2 s2 (.slice a2 m2 c2), .bool true]) ?_ rfl ?_
          · refine results_ctR (a := 2) (b := 3) (t := 26) (ad := ⟨w.heap.size, 0, none⟩) rfl rfl _ _ ?_
            go_simp
          · exact HF.out _ _ _ _
        · have HNONE : Hid (readR s.data.toList = none) := Lib.hid (by rw [HDN.out]; exact read_gone HQ.out (Or.inr hm))
          have hmz : ((xq.length : Int) != 1) = true := by rw [bne_iff_ne]; omega
          clear hm
          go_wp2_with fail
          refine HCS.out.mono ?_
          rintro e W2 ⟨rfl, hs2, hl2⟩
          obtain ⟨hbw2, hzr2⟩ := HLK.out _ hl2
          obtain ⟨la, lc, hc3, _⟩ := StkAt.last hs2
          have HF := Lib.hid (read_none HNONE.out hbw2)
          obtain ⟨⟨x0, x1, x2, x3⟩, f0, f1, f2, f3⟩ := cells4r hzr2
          clear hs2 hl2 hbw2 hzr2
          go_wp2
          (try simp only [Exit.inBlock, Exit.then])
          refine bodyPost_ret (v := .tuple #[tv 0 0 ByteArray.empty (.slice none 0 0), .bool false]) ?_ rfl ?_
          · refine results_ctR (a := 2) (b := 3) (t := 26) (ad := ⟨w.heap.size, 0, none⟩) rfl rfl _ _ ?_
            go_simp
            rfl
          · exact HF.out _ _ _ _
end Go.Proofs.YtidbokheeieifaaGreatDoor
