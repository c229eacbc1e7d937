/-
  Strings as lists of bytes: when two are equal. No program.
  impl.ParseTerm: the valid term whose representation the text is, and true; else the zero term and false.
-/
import Derived.Test.YtooiiomfahomjaaGreatDoorQ16
import Derived.Test.YtooiiomfahomjaaGreatDoorQ21
import Derived.WalkKit
namespace Go.Proofs.YtooiiomfahomjaaGreatDoor
open Go

/-- A string as the list of its bytes. -/
def key (s : ByteArray) : List UInt8 := s.data.toList
theorem key_inj {a b : ByteArray} (h : key a = key b) : a = b := by
  obtain ⟨⟨x⟩⟩ := a; obtain ⟨⟨y⟩⟩ := b
  unfold key at h
  simp at h
  rw [h]
theorem toList_key (a : ByteArray) : a.toList = key a := ByteArray.toList_eq a
theorem same_iff (a b : ByteArray) : (a.toList == b.toList) = true ↔ a = b := by
  rw [beq_iff_eq, toList_key, toList_key]
  exact ⟨key_inj, fun h => by rw [h]⟩
end Go.Proofs.YtooiiomfahomjaaGreatDoor
namespace Go.Proofs.YtooiiomfahomjaaGreatDoor
open Go.RowKit

/-- What parsing gives. -/
def ParseEnd (L : List UInt8) (w : World) (e : Ending) (w' : World) : Prop :=
  Below w.heap.size w w' ∧ ((∃ t k n nm a m c xs H, e = .returned (.tuple #[tv k n nm (.slice a m c), .bool true]) ∧ t = .node k n nm xs ∧ (ValidT t ∧ textL t = L ∧ L.length ≤ 600) ∧ wT t ≤ 4000 ∧ nm.size ≤ maxLen ∧ OwnR (fun _ => True) w' H (w.heap.size + 1) w'.heap.size (.slice a m c) xs) ∨
    (e = .returned (.tuple #[tv 0 0 ByteArray.empty (.slice none 0 0), .bool false]) ∧ (600 < L.length ∨ ∀ t, ValidT t → textL t ≠ L)))

theorem readR_nil : readR [] = none := by
  unfold readR runR endR
  simp [addS]
theorem fmt_text {t : T} {s : ByteArray} (h : fmtT t = s) (hr : readR s.data.toList = some t) : ValidT t ∧ textL t = s.data.toList := by
  by_cases hv : ValidT t
  · rw [fmtT_ok hv] at h
    exact ⟨hv, by rw [← h, strT_list]⟩
  · rw [fmtT_no hv] at h
    subst h
    have : (ByteArray.empty).data.toList = [] := rfl
    rw [this, readR_nil] at hr
    cases hr
theorem fmt_no {t : T} {s : ByteArray} (h : fmtT t ≠ s) (hr : readR s.data.toList = some t) (t0 : T) (hv : ValidT t0) : textL t0 ≠ s.data.toList := by
  intro e
  have h1 := read_text t0 hv.2.2
  rw [e, hr] at h1
  obtain rfl := Option.some.inj h1
  apply h
  rw [fmtT_ok hv]
  unfold strT
  rw [e, mk_data]
theorem read_no {s : ByteArray} (hr : readR s.data.toList = none) (t0 : T) (hv : ValidT t0) : textL t0 ≠ s.data.toList := by
  intro e
  have h1 := read_text t0 hv.2.2
  rw [e, hr] at h1
  cases h1

theorem parse_none {L : List UInt8} {w w' : World} (h : 600 < L.length ∨ ∀ t, ValidT t → textL t ≠ L) (hb : Below w.heap.size w w') (v0 v1 v2 v3 : Value) : ParseEnd L w (.returned (.tuple #[tv 0 0 ByteArray.empty (.slice none 0 0), .bool false])) ((((w'.setCell ⟨w.heap.size, 0, none⟩ v0).setCell ⟨w.heap.size, 1, none⟩ v1).setCell ⟨w.heap.size, 2, none⟩ v2).setCell ⟨w.heap.size, 3, none⟩ v3) :=
  ⟨leaf_below hb _ _ _ _, Or.inr ⟨rfl, h⟩⟩
theorem parse_some {L : List UInt8} {w w' : World} {k n : Int} {nm : ByteArray} {a : Option Addr} {m c H lo : Nat} {xs : List T} (h : ValidT (.node k n nm xs) ∧ textL (.node k n nm xs) = L ∧ L.length ≤ 600) (hw : wT (.node k n nm xs) ≤ 4000) (hnm : nm.size ≤ maxLen) (ho : OwnR (fun _ => True) w' H lo w'.heap.size (.slice a m c) xs) (hlo : w.heap.size + 1 ≤ lo) (hb : Below w.heap.size w w') (v0 v1 v2 v3 : Value) :
    ParseEnd L w (.returned (.tuple #[tv k n nm (.slice a m c), .bool true])) ((((w'.setCell ⟨w.heap.size, 0, none⟩ v0).setCell ⟨w.heap.size, 1, none⟩ v1).setCell ⟨w.heap.size, 2, none⟩ v2).setCell ⟨w.heap.size, 3, none⟩ v3) := by
  have st : ∀ (W : World) (j : Nat) (v : Value), OwnR (fun _ => True) W H lo w'.heap.size (.slice a m c) xs → OwnR (fun _ => True) (W.setCell ⟨w.heap.size, j, none⟩ v) H lo w'.heap.size (.slice a m c) xs := fun W j v o =>
    o.keep fun b _ h1 _ => ⟨Below.heap_setCell _ _ _ _ (fun e => by simp at e; omega), trivial⟩
  exact ⟨leaf_below hb _ _ _ _, Or.inl ⟨_, k, n, nm, a, m, c, xs, H, rfl, rfl, h, hw, hnm, (st _ _ _ (st _ _ _ (st _ _ _ (st _ _ _ ho)))).wide hlo (by simp [World.setCell])⟩⟩

set_option maxRecDepth 100000 in
set_option maxHeartbeats 1600000 in
theorem parseI_any (s : ByteArray) (w : World) (hs : s.size ≤ 281474976710656) (ht : TabsAt w) : Calls Tryz.prog 7 #[.string s] w (ParseEnd s.data.toList w) := by
  have hsl : s.data.toList.length = s.size := by simp
  have HSL := Lib.hid hsl; clear hsl
  have hbz : Below w.heap.size w (w.alloc zRow) := bel_al _ _
  have HT := Lib.hid ht; clear ht
  have HBZ := Lib.hid hbz; clear hbz
  by_cases hlen : 600 < s.size
  · have HF : Hid (ParseEnd s.data.toList w (.returned (.tuple #[tv 0 0 ByteArray.empty (.slice none 0 0), .bool false])) (w.alloc zRow)) := Lib.hid ⟨HBZ.out, Or.inr ⟨rfl, Or.inl (by rw [HSL.out]; exact hlen)⟩⟩
    obtain ⟨⟨x0, x1, x2, x3⟩, f0, f1, f2, f3⟩ := cells4r (heap_new w zRow rfl)
    go_enter Tryz.func7, Tryz.ntmps7
    go_wp2
    (try simp only [Exit.inBlock, Exit.then])
    refine bodyPost_ret (v := .tuple #[tv 0 0 ByteArray.empty (.slice none 0 0), .bool false]) ?_ rfl ?_
    · refine results_ctR (a := 2) (b := 3) (t := 26) (ad := ⟨w.heap.size, 0, none⟩) rfl rfl _ _ ?_
      go_simp
      rfl
    · exact HF.out
  · go_enter Tryz.func7, Tryz.ntmps7
    go_wp2_with fail
    refine (readI_any s (w.alloc zRow) (by omega) (HT.out.below HBZ.out HT.out.low)).mono ?_
    rintro e w1 ⟨hb1, h⟩
    have HB1 := Lib.hid (HBZ.out.trans (hb1.mono HBZ.out.size))
    have HZR : Hid (w1.heap[w.heap.size]? = some zRow) := Lib.hid ((hb1.block w.heap.size (by simp)).trans (heap_new w zRow rfl))
    clear hb1
    rcases h with ⟨t, k, n, nm, a, m, c, xs, H, rfl, rfl, hr, hw, hnm, hown⟩ | ⟨rfl, hr⟩
    · have HR := Lib.hid hr; clear hr
      have HW := Lib.hid (And.intro hw hnm); clear hw hnm
      have HO := Lib.hid hown; clear hown
      obtain ⟨W2, hW2⟩ : ∃ W2, W2 = boxed w1 k n nm (.slice a m c) := ⟨_, rfl⟩
      have hb2 : Below w1.heap.size w1 W2 := by rw [hW2]; exact boxed_below _ _ _ _ _
      have HB2 := Lib.hid (HB1.out.trans (hb2.mono HB1.out.size))
      have HO2 : Hid (∀ w3, Below W2.heap.size W2 w3 → OwnR (fun _ => True) w3 H (w.heap.size + 2) w3.heap.size (.slice a m c) xs ∧ Below w.heap.size w w3 ∧ w3.heap[w.heap.size]? = some zRow ∧
          (w3.cell? ⟨w1.heap.size, 0, none⟩ = some (.int .i64 k) ∧ w3.cell? ⟨w1.heap.size, 1, none⟩ = some (.int .i64 n) ∧ w3.cell? ⟨w1.heap.size, 2, none⟩ = some (.string nm) ∧ w3.cell? ⟨w1.heap.size, 3, none⟩ = some (.slice a m c))) := Lib.hid (fun w3 hb3 => by
        have h13 : Below w1.heap.size w1 w3 := hb2.trans (hb3.mono hb2.size)
        have hz1 := (Array.getElem?_eq_some_iff.1 HZR.out).1
        refine ⟨(HO.out.keep fun b _ _ h2 => ⟨h13.block b h2, trivial⟩).wide (by simp) h13.size, HB1.out.trans (h13.mono HB1.out.size), (h13.block _ hz1).trans HZR.out, boxed_cells (by rw [← hW2]; exact hb3)⟩)
      have HTA : Hid (TermAt W2 0 H (tv k n nm (.slice a m c)) (.node k n nm xs)) := Lib.hid ⟨k, n, nm, _, xs, rfl, rfl, HW.out.2, (HO2.out _ (Below.refl _ _)).1.args (Nat.zero_le _)⟩
      have HTW := Lib.hid (HT.out.below HB2.out HT.out.low)
      obtain ⟨_, _, _, c0, c1, c2, c3⟩ := HO2.out _ (Below.refl _ _)
      unfold boxed at hW2
      go_wp2_with fail
      rw [← hW2]
      refine (iFmtT_any _ (.node k n nm xs) 0 H W2 HTA.out (by have := HW.out.1; omega) HTW.out.1 HTW.out.low).mono ?_
      rintro e w3 ⟨rfl, hb3⟩
      obtain ⟨hO3, hB3, hz3, d0, d1, d2, d3⟩ := HO2.out _ hb3
      obtain ⟨⟨x0, x1, x2, x3⟩, f0, f1, f2, f3⟩ := cells4r hz3
      have HB3 := Lib.hid hB3
      have HO3 := Lib.hid hO3
      obtain ⟨ft, hft⟩ : ∃ ft, ft = fmtT (.node k n nm xs) := ⟨_, rfl⟩
      rw [← hft]
      by_cases hf : ft = s
      · obtain ⟨hv, htx⟩ := fmt_text (hft.symm.trans hf) HR.out
        have HF := Lib.hid (parse_some ⟨hv, htx, by rw [HSL.out]; omega⟩ HW.out.1 HW.out.2 HO3.out (by omega) HB3.out)
        clear hv htx hft hO3 hB3 hb3 hz3 c0 c1 c2 c3
        subst hf
        go_wp2
        (try simp only [Exit.inBlock, Exit.then])
        refine bodyPost_ret (v := .tuple #[tv k n nm (.slice a m c), .bool true]) ?_ rfl ?_
        · refine results_ctR (a := 2) (b := 3) (t := 26) (ad := ⟨w.heap.size, 0, none⟩) rfl rfl _ _ ?_
          go_simp
        · exact HF.out _ _ _ _
      · have HF := Lib.hid (parse_none (L := s.data.toList) (Or.inr (fmt_no (fun e => hf (hft.trans e)) HR.out)) HB3.out)
        have hne : (!(ft.toList == s.toList)) = true := by
          cases h : (ft.toList == s.toList) with
          | true => exact absurd ((same_iff ft s).1 h) hf
          | false => rfl
        clear hft hO3 hB3 hb3 hz3 c0 c1 c2 c3 hf
        go_wp2
        (try simp only [Exit.inBlock, Exit.then])
        refine bodyPost_ret (v := .tuple #[tv 0 0 ByteArray.empty (.slice none 0 0), .bool false]) ?_ rfl ?_
        · refine results_ctR (a := 2) (b := 3) (t := 26) (ad := ⟨w.heap.size, 0, none⟩) rfl rfl _ _ ?_
          go_simp
          rfl
        · exact HF.out _ _ _ _
    · have HF : Hid (600 < s.data.toList.length ∨ ∀ t, ValidT t → textL t ≠ s.data.toList) := Lib.hid (Or.inr (read_no hr))
      clear hr
      obtain ⟨⟨x0, x1, x2, x3⟩, f0, f1, f2, f3⟩ := cells4r HZR.out
      have hz1 := (Array.getElem?_eq_some_iff.1 HZR.out).1
      go_wp2
      (try simp only [Exit.inBlock, Exit.then])
      refine bodyPost_ret (v := .tuple #[tv 0 0 ByteArray.empty (.slice none 0 0), .bool false]) ?_ rfl ?_
      · refine results_ctR (a := 2) (b := 3) (t := 26) (ad := ⟨w.heap.size, 0, none⟩) rfl rfl _ _ ?_
        go_simp
        rfl
      · exact ⟨(leaf_below HB1.out _ _ _ _).alloc (leaf_below HB1.out _ _ _ _).size _, Or.inr ⟨rfl, HF.out⟩⟩
end Go.Proofs.YtooiiomfahomjaaGreatDoor
