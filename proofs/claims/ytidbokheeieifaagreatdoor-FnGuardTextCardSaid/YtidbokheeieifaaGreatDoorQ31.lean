/-
  impl.ParseTerm: the valid term whose representation the text is, and true; else the zero term and false.
  What the model's reader gives, as a relation: a valid term's representation is read as that term. No walk.
  The rows of arguments in the making, for the reader.
  spec.l5Sees: does a word stand where the reader is.
  The scan of a word and of arguments, as the model's reader does it in memory. No walk.
-/
import Derived.Test.YtidbokheeieifaaGreatDoorQ30
import Derived.Test.YtidbokheeieifaaGreatDoorQ24
import Derived.Test.YtidbokheeieifaaGreatDoorQ15
import Derived.Test.YtidbokheeieifaaGreatDoorQ29
import Derived.Test.YtidbokheeieifaaGreatDoorQ8
import Derived.Test.YtidbokheeieifaaGreatDoorQ27
import Derived.Test.YtidbokheeieifaaGreatDoorQ12
import Derived.Test.YtidbokheeieifaaGreatDoorQ5
import Derived.Test.YtidbokheeieifaaGreatDoorQ28
import Derived.Deep.RegionLaw
import Derived.Deep.AppendLies
import Derived.Deep.DeepCutAuto
import Derived.Deep.CutRange
import Derived.Deep.CutBlock
import Derived.Deep.LoopGhost
import Derived.Deep.RegionHeld3
namespace Go.Proofs.YtidbokheeieifaaGreatDoor
open Go.RowKit

/-- What parsing gives. -/
def ParseEnd (L : List UInt8) (w : World) (e : Ending) (w' : World) : Prop :=
  Below w.heap.size w w' ∧ ((∃ t k n nm a m c xs H, e = .returned (.tuple #[tv k n nm (.slice a m c), .bool true]) ∧ t = .node k n nm xs ∧ (ValidT t ∧ textL t = L ∧ L.length ≤ 600) ∧ wT t ≤ 4000 ∧ nm.size ≤ maxLen ∧ OwnR (fun _ => True) w' H (w.heap.size + 1) w'.heap.size (.slice a m c) xs) ∨
    (e = .returned (.tuple #[tv 0 0 ByteArray.empty (.slice none 0 0), .bool false]) ∧ (600 < L.length ∨ ∀ t, ValidT t → textL t ≠ L)))

theorem readR_nil : readR [] = none := by
  unfold readR runR endR
  simp [addS]
theorem fmt_text {t : T} {s : ByteArray} (h : fmtT t = s) (hr : readR s.data.toList = some t) : ValidT t ∧ textL t = s.data.toList := by
  by_cases hv : ValidT t
  · rw [fmtT_ok hv] at h
    exact ⟨hv, by rw [← h, strT_list]⟩
  · rw [fmtT_no hv] at h
    subst h
    have : (ByteArray.empty).data.toList = [] := rfl
    rw [this, readR_nil] at hr
    cases hr
theorem fmt_no {t : T} {s : ByteArray} (h : fmtT t ≠ s) (hr : readR s.data.toList = some t) (t0 : T) (hv : ValidT t0) : textL t0 ≠ s.data.toList := by
  intro e
  have h1 := read_text t0 hv.2.2
  rw [e, hr] at h1
  obtain rfl := Option.some.inj h1
  apply h
  rw [fmtT_ok hv]
  unfold strT
  rw [e, mk_data]
theorem read_no {s : ByteArray} (hr : readR s.data.toList = none) (t0 : T) (hv : ValidT t0) : textL t0 ≠ s.data.toList := by
  intro e
  have h1 := read_text t0 hv.2.2
  rw [e, hr] at h1
  cases h1

theorem parse_none {L : List UInt8} {w w' : World} (h : 600 < L.length ∨ ∀ t, ValidT t → textL t ≠ L) (hb : Below w.heap.size w w') (v0 v1 v2 v3 : Value) : ParseEnd L w (.returned (.tuple #[tv 0 0 ByteArray.empty (.slice none 0 0), .bool false])) ((((w'.setCell ⟨w.heap.size, 0, none⟩ v0).setCell ⟨w.heap.size, 1, none⟩ v1).setCell ⟨w.heap.size, 2, none⟩ v2).setCell ⟨w.heap.size, 3, none⟩ v3) :=
  ⟨leaf_below hb _ _ _ _, Or.inr ⟨rfl, h⟩⟩
theorem parse_some {L : List UInt8} {w w' : World} {k n : Int} {nm : ByteArray} {a : Option Addr} {m c H lo : Nat} {xs : List T} (h : ValidT (.node k n nm xs) ∧ textL (.node k n nm xs) = L ∧ L.length ≤ 600) (hw : wT (.node k n nm xs) ≤ 4000) (hnm : nm.size ≤ maxLen) (ho : OwnR (fun _ => True) w' H lo w'.heap.size (.slice a m c) xs) (hlo : w.heap.size + 1 ≤ lo) (hb : Below w.heap.size w w') (v0 v1 v2 v3 : Value) :
    ParseEnd L w (.returned (.tuple #[tv k n nm (.slice a m c), .bool true])) ((((w'.setCell ⟨w.heap.size, 0, none⟩ v0).setCell ⟨w.heap.size, 1, none⟩ v1).setCell ⟨w.heap.size, 2, none⟩ v2).setCell ⟨w.heap.size, 3, none⟩ v3) := by
  have st : ∀ (W : World) (j : Nat) (v : Value), OwnR (fun _ => True) W H lo w'.heap.size (.slice a m c) xs → OwnR (fun _ => True) (W.setCell ⟨w.heap.size, j, none⟩ v) H lo w'.heap.size (.slice a m c) xs := fun W j v o =>
    o.keep fun b _ h1 _ => ⟨Below.heap_setCell _ _ _ _ (fun e => by simp at e; omega), trivial⟩
  exact ⟨leaf_below hb _ _ _ _, Or.inl ⟨_, k, n, nm, a, m, c, xs, H, rfl, rfl, h, hw, hnm, (st _ _ _ (st _ _ _ (st _ _ _ (st _ _ _ ho)))).wide hlo (by simp [World.setCell])⟩⟩

set_option maxRecDepth 100000 in
set_option maxHeartbeats 1600000 in
theorem parseI_any (s : ByteArray) (w : World) (hs : s.size ≤ 281474976710656) (ht : TabsAt w) : Calls Tryz.prog 24 #[.string s] w (ParseEnd s.data.toList w) := by
  have hsl : s.data.toList.length = s.size := by simp
  have HSL := Lib.hid hsl; clear hsl
  have hbz : Below w.heap.size w (w.alloc zRow) := bel_al _ _
  have HT := Lib.hid ht; clear ht
  have HBZ := Lib.hid hbz; clear hbz
  by_cases hlen : 600 < s.size
  · have HF : Hid (ParseEnd s.data.toList w (.returned (.tuple #[tv 0 0 ByteArray.empty (.slice none 0 0), .bool false])) (w.alloc zRow)) := Lib.hid ⟨HBZ.out, Or.inr ⟨rfl, Or.inl (by rw [HSL.out]; exact hlen)⟩⟩
    obtain ⟨⟨x0, x1, x2, x3⟩, f0, f1, f2, f3⟩ := cells4r (heap_new w zRow rfl)
    go_enter Tryz.func24, Tryz.ntmps24
    go_wp2
    (try simp only [Exit.inBlock, Exit.then])
    refine bodyPost_ret (v := .tuple #[tv 0 0 ByteArray.empty (.slice none 0 0), .bool false]) ?_ rfl ?_
    · refine results_ctR (a := 2) (b := 3) (t := 26) (ad := ⟨w.heap.size, 0, none⟩) rfl rfl _ _ ?_
      go_simp
      rfl
    · exact HF.out
  · go_enter Tryz.func24, Tryz.ntmps24
    go_wp2_with fail
    refine (readI_any s (w.alloc zRow) (by omega) (HT.out.below HBZ.out HT.out.low)).mono ?_
    rintro e w1 ⟨hb1, h⟩
    have HB1 := Lib.hid (HBZ.out.trans (hb1.mono HBZ.out.size))
    have HZR : Hid (w1.heap[w.heap.size]? = some zRow) := Lib.hid ((hb1.block w.heap.size (by simp)).trans (heap_new w zRow rfl))
    clear hb1
    rcases h with ⟨t, k, n, nm, a, m, c, xs, H, rfl, rfl, hr, hw, hnm, hown⟩ | ⟨rfl, hr⟩
    · have HR := Lib.hid hr; clear hr
      have HW := Lib.hid (And.intro hw hnm); clear hw hnm
      have HO := Lib.hid hown; clear hown
      obtain ⟨W2, hW2⟩ : ∃ W2, W2 = boxed w1 k n nm (.slice a m c) := ⟨_, rfl⟩
      have hb2 : Below w1.heap.size w1 W2 := by rw [hW2]; exact boxed_below _ _ _ _ _
      have HB2 := Lib.hid (HB1.out.trans (hb2.mono HB1.out.size))
      have HO2 : Hid (∀ w3, Below W2.heap.size W2 w3 → OwnR (fun _ => True) w3 H (w.heap.size + 2) w3.heap.size (.slice a m c) xs ∧ Below w.heap.size w w3 ∧ w3.heap[w.heap.size]? = some zRow ∧
          (w3.cell? ⟨w1.heap.size, 0, none⟩ = some (.int .i64 k) ∧ w3.cell? ⟨w1.heap.size, 1, none⟩ = some (.int .i64 n) ∧ w3.cell? ⟨w1.heap.size, 2, none⟩ = some (.string nm) ∧ w3.cell? ⟨w1.heap.size, 3, none⟩ = some (.slice a m c))) := Lib.hid (fun w3 hb3 => by
        have h13 : Below w1.heap.size w1 w3 := hb2.trans (hb3.mono hb2.size)
        have hz1 := (Array.getElem?_eq_some_iff.1 HZR.out).1
        refine ⟨(HO.out.keep fun b _ _ h2 => ⟨h13.block b h2, trivial⟩).wide (by simp) h13.size, HB1.out.trans (h13.mono HB1.out.size), (h13.block _ hz1).trans HZR.out, boxed_cells (by rw [← hW2]; exact hb3)⟩)
      have HTA : Hid (TermAt W2 0 H (tv k n nm (.slice a m c)) (.node k n nm xs)) := Lib.hid ⟨k, n, nm, _, xs, rfl, rfl, HW.out.2, (HO2.out _ (Below.refl _ _)).1.args (Nat.zero_le _)⟩
      have HTW := Lib.hid (HT.out.below HB2.out HT.out.low)
      obtain ⟨_, _, _, c0, c1, c2, c3⟩ := HO2.out _ (Below.refl _ _)
      unfold boxed at hW2
      go_wp2_with fail
      rw [← hW2]
      refine (iFmtT_any _ (.node k n nm xs) 0 H W2 HTA.out (by have := HW.out.1; omega) HTW.out.1 HTW.out.low).mono ?_
      rintro e w3 ⟨rfl, hb3⟩
      obtain ⟨hO3, hB3, hz3, d0, d1, d2, d3⟩ := HO2.out _ hb3
      obtain ⟨⟨x0, x1, x2, x3⟩, f0, f1, f2, f3⟩ := cells4r hz3
      have HB3 := Lib.hid hB3
      have HO3 := Lib.hid hO3
      obtain ⟨ft, hft⟩ : ∃ ft, ft = fmtT (.node k n nm xs) := ⟨_, rfl⟩
      rw [← hft]
      by_cases hf : ft = s
      · obtain ⟨hv, htx⟩ := fmt_text (hft.symm.trans hf) HR.out
        have HF := Lib.hid (parse_some ⟨hv, htx, by rw [HSL.out]; omega⟩ HW.out.1 HW.out.2 HO3.out (by omega) HB3.out)
        clear hv htx hft hO3 hB3 hb3 hz3 c0 c1 c2 c3
        subst hf
        go_wp2
        (try simp only [Exit.inBlock, Exit.then])
        refine bodyPost_ret (v := .tuple #[tv k n nm (.slice a m c), .bool true]) ?_ rfl ?_
        · refine results_ctR (a := 2) (b := 3) (t := 26) (ad := ⟨w.heap.size, 0, none⟩) rfl rfl _ _ ?_
          go_simp
        · exact HF.out _ _ _ _
      · have HF := Lib.hid (parse_none (L := s.data.toList) (Or.inr (fmt_no (fun e => hf (hft.trans e)) HR.out)) HB3.out)
        have hne : (!(ft.toList == s.toList)) = true := by
          cases h : (ft.toList == s.toList) with
          | true => exact absurd ((same_iff ft s).1 h) hf
          | false => rfl
        clear hft hO3 hB3 hb3 hz3 c0 c1 c2 c3 hf
        go_wp2
        (try simp only [Exit.inBlock, Exit.then])
        refine bodyPost_ret (v := .tuple #[tv 0 0 ByteArray.empty (.slice none 0 0), .bool false]) ?_ rfl ?_
        · refine results_ctR (a := 2) (b := 3) (t := 26) (ad := ⟨w.heap.size, 0, none⟩) rfl rfl _ _ ?_
          go_simp
          rfl
        · exact HF.out _ _ _ _
    · have HF : Hid (600 < s.data.toList.length ∨ ∀ t, ValidT t → textL t ≠ s.data.toList) := Lib.hid (Or.inr (read_no hr))
      clear hr
      obtain ⟨⟨x0, x1, x2, x3⟩, f0, f1, f2, f3⟩ := cells4r HZR.out
      have hz1 := (Array.getElem?_eq_some_iff.1 HZR.out).1
      go_wp2
      (try simp only [Exit.inBlock, Exit.then])
      refine bodyPost_ret (v := .tuple #[tv 0 0 ByteArray.empty (.slice none 0 0), .bool false]) ?_ rfl ?_
      · refine results_ctR (a := 2) (b := 3) (t := 26) (ad := ⟨w.heap.size, 0, none⟩) rfl rfl _ _ ?_
        go_simp
        rfl
      · exact ⟨(leaf_below HB1.out _ _ _ _).alloc (leaf_below HB1.out _ _ _ _).size _, Or.inr ⟨rfl, HF.out⟩⟩
end Go.Proofs.YtidbokheeieifaaGreatDoor
namespace Go.Proofs.YtidbokheeieifaaGreatDoor
open Go.RowKit

theorem dT_pos (t : T) : 1 ≤ dT t := by obtain ⟨k, n, s, xs⟩ := t; rw [dT_node]; omega
theorem foldl_ge : ∀ (l : List Nat) (a : Nat), a ≤ l.foldl max a ∧ ∀ x ∈ l, x ≤ l.foldl max a
  | [], a => ⟨Nat.le_refl _, by simp⟩
  | y :: l, a => by
    obtain ⟨h1, h2⟩ := foldl_ge l (max a y)
    rw [List.foldl_cons]
    refine ⟨by omega, fun x hx => ?_⟩
    rcases List.mem_cons.1 hx with rfl | hx
    · omega
    · exact h2 x hx
theorem dT_mem (ys : List T) (y : T) (h : y ∈ ys) : dT y ≤ dS ys := (foldl_ge (ys.map dT) 0).2 _ (List.mem_map.2 ⟨y, h, rfl⟩)

/-- What follows a word: nothing, or a special byte. -/
def SpStart (r : List UInt8) : Prop := r = [] ∨ ∃ c r', r = c :: r' ∧ Special c
/-- What follows a term. -/
def Stop (r : List UInt8) : Prop := r = [] ∨ ∃ c r', r = c :: r' ∧ (c = 41 ∨ c = 44)
theorem Stop.sp {r : List UInt8} (h : Stop r) : SpStart r := by
  rcases h with h | ⟨c, r', h, hc⟩
  · exact Or.inl h
  · exact Or.inr ⟨c, r', h, by unfold Special; rcases hc with h | h <;> simp [h]⟩
theorem scan_unique : ∀ {l l' r r' : List UInt8}, l ++ r = l' ++ r' → (∀ c ∈ l, ¬ Special c) → SpStart r → (∀ c ∈ l', ¬ Special c) → SpStart r' → l = l' ∧ r = r'
  | [], [], _, _, h, _, _, _, _ => ⟨rfl, h⟩
  | [], c :: l', r, r', h, _, hr, hl', _ => by
    rcases hr with rfl | ⟨x, r'', rfl, hx⟩
    · simp at h
    · simp at h; exact absurd (h.1 ▸ hx) (hl' c (by simp))
  | c :: l, [], r, r', h, hl, _, _, hr' => by
    rcases hr' with rfl | ⟨x, r'', rfl, hx⟩
    · simp at h
    · simp at h; exact absurd (h.1 ▸ hx) (hl c (by simp))
  | c :: l, c' :: l', r, r', h, hl, hr, hl', hr' => by
    simp only [List.cons_append, List.cons.injEq] at h
    obtain ⟨rfl, h⟩ := h
    obtain ⟨rfl, rfl⟩ := scan_unique h (fun x hx => hl x (by simp [hx])) hr (fun x hx => hl' x (by simp [hx])) hr'
    exact ⟨rfl, rfl⟩

open Classical in
/-- What a word alone stands for. -/
noncomputable def leafS (l : List UInt8) : T :=
  if Nm 65 90 ⟨l.toArray⟩ then .node 1 0 ⟨l.toArray⟩ [] else match l with
  | [c] => if 48 ≤ c.toNat ∧ c.toNat ≤ 57 then .node 3 ((c.toNat : Int) - 48) ByteArray.empty [] else .node 2 0 ⟨[c].toArray⟩ []
  | l => .node 2 0 ⟨l.toArray⟩ []
theorem leafS_var {l : List UInt8} (h : Nm 65 90 ⟨l.toArray⟩) : leafS l = .node 1 0 ⟨l.toArray⟩ [] := by unfold leafS; rw [if_pos h]
theorem leafS_dig {c : UInt8} (h : ¬ Nm 65 90 ⟨[c].toArray⟩) (h2 : 48 ≤ c.toNat ∧ c.toNat ≤ 57) : leafS [c] = .node 3 ((c.toNat : Int) - 48) ByteArray.empty [] := by
  unfold leafS; rw [if_neg h]; simp only; rw [if_pos h2]
theorem leafS_app {l : List UInt8} (h : ¬ Nm 65 90 ⟨l.toArray⟩) (h2 : ∀ c, l = [c] → ¬ (48 ≤ c.toNat ∧ c.toNat ≤ 57)) : leafS l = .node 2 0 ⟨l.toArray⟩ [] := by
  unfold leafS; rw [if_neg h]
  match l with
  | [] => rfl
  | [c] => simp only; rw [if_neg (h2 c rfl)]
  | _ :: _ :: _ => rfl
theorem leafS_form (l : List UInt8) : ∃ k n s, leafS l = .node k n s [] ∧ s.size ≤ l.length := by
  by_cases h : Nm 65 90 ⟨l.toArray⟩
  · exact ⟨_, _, _, leafS_var h, by simp [ByteArray.size]⟩
  · by_cases h2 : ∃ c, l = [c] ∧ (48 ≤ c.toNat ∧ c.toNat ≤ 57)
    · obtain ⟨c, rfl, hc⟩ := h2
      exact ⟨_, _, _, leafS_dig h hc, by simp⟩
    · exact ⟨_, _, _, leafS_app h (fun c e hc => h2 ⟨c, e, hc⟩), by simp [ByteArray.size]⟩
theorem dig3_toNat {n : Int} (h0 : 0 ≤ n) (h1 : n ≤ 3) : (UInt8.ofNat (48 + n.toNat)).toNat = 48 + n.toNat := by
  rw [UInt8.toNat_ofNat']; omega
/-- A leaf's word. -/
theorem leafS_ok {k n : Int} {s : ByteArray} (h : NodeOk k n s 0) : leafS (textL (.node k n s [])) = .node k n s [] := by
  rw [textL_node]
  rcases h with ⟨rfl, hs, rfl, _⟩ | ⟨rfl, hs, rfl⟩ | ⟨rfl, hs, h0, h1, _⟩
  · rw [if_neg (by decide), if_pos (by rfl), leafS_var (by rw [mk_data]; exact hs), mk_data]
  · rw [if_neg (by decide), if_pos (by rfl)]
    exact (leafS_app (by rw [mk_data]; exact fun h => nm_apart s hs h) (fun c e hc => by
      have h1 := hs.2.2.1
      have h2 := hs.1
      rw [byteAt_lt s 0 (by omega)] at h1
      have : s[0] = c := by
        have : s.data.toList[0]? = some c := by rw [e]; rfl
        rw [List.getElem?_eq_getElem (by simpa using (by omega : 0 < s.size))] at this
        show s.data[0] = c
        simpa using this
      rw [this] at h1
      omega)).trans (by rw [mk_data])
  · rw [if_pos rfl, itoa_word h0 h1, leafS_dig (fun h => by
      have h2 := h.2.2.1
      have h3 : byteAt (ByteArray.mk [UInt8.ofNat (48 + n.toNat)].toArray) 0 = ((UInt8.ofNat (48 + n.toNat)).toNat : Int) := byteAt_lt (ByteArray.mk [UInt8.ofNat (48 + n.toNat)].toArray) 0 Nat.zero_lt_one
      rw [h3, dig3_toNat h0 h1] at h2
      omega) (by rw [dig3_toNat h0 h1]; omega), dig3_toNat h0 h1]
    have : s = ByteArray.empty := by
      apply ByteArray.ext
      exact Array.eq_empty_of_size_eq_zero hs
    rw [this]
    congr 1
    omega
/-- The word of a node with arguments. -/
theorem leafS_head {k n : Int} {s : ByteArray} {m : Nat} (h : NodeOk k n s m) (hm : m ≠ 0) : k = 2 ∧ n = 0 ∧ leafS s.data.toList = .node 2 0 s [] ∧ ∀ c ∈ s.data.toList, ¬ Special c := by
  have hk : k = 2 ∧ Nm 97 122 s ∧ n = 0 := by
    rcases h with ⟨_, _, _, h⟩ | h | ⟨_, _, _, _, h⟩
    · exact absurd h hm
    · exact h
    · exact absurd h hm
  obtain ⟨rfl, hs, rfl⟩ := hk
  have h0 : NodeOk 2 0 s 0 := Or.inr (Or.inl ⟨rfl, hs, rfl⟩)
  have h1 := leafS_ok h0
  have e : textL (.node 2 0 s []) = s.data.toList := by rw [textL_node, if_neg (by decide), if_pos (by rfl)]
  rw [e] at h1
  exact ⟨rfl, rfl, h1, (name_bytes hs (by decide) (by decide)).2⟩

/-- From at on, at depth d, the reader gave t, came to at2, and says whether it met an error: a valid term's representation is read as that term. -/
def ReadsT (s : List UInt8) (d at1 : Nat) (t : T) (at2 : Nat) (bad : Bool) : Prop :=
  ∀ t0 rest, OkT t0 → d + dT t0 ≤ 17 → cT t0 ≤ 60 → s.drop at1 = textL t0 ++ rest → Stop rest → t = t0 ∧ at2 = at1 + (textL t0).length ∧ bad = false

/-- Some of the arguments were read: ts, up to at2. -/
def ReadsA (s : List UInt8) (d at1 : Nat) (ts : List T) (at2 : Nat) (bad : Bool) : Prop :=
  ∀ ys rest, ys ≠ [] → (∀ y ∈ ys, OkT y ∧ d + 1 + dT y ≤ 17) → cS ys ≤ 59 → s.drop at1 = Lib.join (ys.map textL) [44, 32] ++ [41] ++ rest →
    bad = false ∧ ts = ys.take ts.length ∧ ts.length < ys.length ∧ s.drop at2 = Lib.join ((ys.drop ts.length).map textL) [44, 32] ++ [41] ++ rest ∧ at1 ≤ at2

theorem ReadsA.start (s : List UInt8) (d at1 : Nat) : ReadsA s d at1 [] at1 false := by
  intro ys rest h0 _ _ h
  exact ⟨rfl, rfl, List.length_pos_iff.2 h0, h, Nat.le_refl _⟩

theorem drop_more {l a b : List UInt8} {n : Nat} (h : l.drop n = a ++ b) : l.drop (n + a.length) = b := by
  rw [← List.drop_drop, h, List.drop_left]

/-- A word alone. -/
theorem reads_word {s : List UInt8} {d at1 : Nat} {l r : List UInt8} (h : s.drop at1 = l ++ r) (hl : ∀ c ∈ l, ¬ Special c) (hr : SpStart r) (h40 : ¬ [40] <+: r) : ReadsT s d at1 (leafS l) (at1 + l.length) false := by
  intro t0 rest hok _ _ ht hstop
  obtain ⟨k, n, nm, xs⟩ := t0
  obtain ⟨hn, _⟩ := okT_kid hok
  by_cases hx : xs = []
  · subst hx
    have hb := leaf_ok hn
    obtain ⟨rfl, rfl⟩ := scan_unique (h.symm.trans ht) hl hr hb.2.1 hstop.sp
    exact ⟨leafS_ok hn, rfl, rfl⟩
  · have hne : xs.length ≠ 0 := fun e => hx (List.eq_nil_of_length_eq_zero e)
    obtain ⟨rfl, rfl, _, hb⟩ := leafS_head hn hne
    have e : textL (.node 2 0 nm xs) ++ rest = nm.data.toList ++ ([40] ++ (Lib.join (xs.map textL) [44, 32] ++ [41] ++ rest)) := by
      rw [textL_node, if_neg (by decide), if_neg hne]; simp
    rw [e] at ht
    obtain ⟨_, rfl⟩ := scan_unique (h.symm.trans ht) hl hr hb (Or.inr ⟨40, _, rfl, Or.inl rfl⟩)
    exact absurd ⟨_, rfl⟩ h40

/-- The arguments of a term that is valid lie behind its word and a bracket. -/
theorem reads_args {s : List UInt8} {d at1 : Nat} {l r : List UInt8} (h : s.drop at1 = l ++ r) (hl : ∀ c ∈ l, ¬ Special c) (hr : SpStart r) (h40 : [40] <+: r) {t0 : T} {rest : List UInt8} (hok : OkT t0) (hd : d + dT t0 ≤ 17) (hc : cT t0 ≤ 60)
    (ht : s.drop at1 = textL t0 ++ rest) (hstop : Stop rest) : ∃ nm ys, t0 = .node 2 0 nm ys ∧ leafS l = .node 2 0 nm [] ∧ ys ≠ [] ∧ (∀ y ∈ ys, OkT y ∧ d + 1 + dT y ≤ 17) ∧ cS ys ≤ 59 ∧
      s.drop (at1 + l.length + 1) = Lib.join (ys.map textL) [44, 32] ++ [41] ++ rest ∧ (textL t0).length = l.length + 1 + (Lib.join (ys.map textL) [44, 32]).length + 1 := by
  obtain ⟨k, n, nm, xs⟩ := t0
  obtain ⟨hn, hx⟩ := okT_kid hok
  by_cases hx0 : xs = []
  · subst hx0
    have hb := leaf_ok hn
    obtain ⟨rfl, rfl⟩ := scan_unique (h.symm.trans ht) hl hr hb.2.1 hstop.sp
    obtain ⟨r', h40⟩ := h40
    rcases hstop with e | ⟨c, r2, e, hc⟩
    · rw [e] at h40; simp at h40
    · rw [e] at h40; simp at h40
      rcases hc with e2 | e2 <;> · rw [e2] at h40; simp at h40
  · have hne : xs.length ≠ 0 := fun e => hx0 (List.eq_nil_of_length_eq_zero e)
    obtain ⟨rfl, rfl, h3, hb⟩ := leafS_head hn hne
    have e0 : textL (.node 2 0 nm xs) = nm.data.toList ++ ([40] ++ (Lib.join (xs.map textL) [44, 32] ++ [41])) := by
      rw [textL_node, if_neg (by decide), if_neg hne]; simp
    have e : textL (.node 2 0 nm xs) ++ rest = nm.data.toList ++ ([40] ++ (Lib.join (xs.map textL) [44, 32] ++ [41] ++ rest)) := by
      rw [e0]; simp
    rw [e] at ht
    obtain ⟨rfl, rfl⟩ := scan_unique (h.symm.trans ht) hl hr hb (Or.inr ⟨40, _, rfl, Or.inl rfl⟩)
    refine ⟨nm, xs, rfl, h3, hx0, fun y hy => ⟨hx y hy, ?_⟩, by rw [cT_node] at hc; omega, ?_, by rw [e0]; simp; omega⟩
    · have h1 := dT_mem xs y hy
      rw [dT_node] at hd
      omega
    · have h1 := drop_more ht
      rw [show nm.data.toList.length = nm.data.toList.length from rfl] at h1
      have h2 := drop_more h1
      exact h2

theorem join_head {x : T} {ys : List T} (hy : ys ≠ []) : Lib.join ((x :: ys).map textL) [44, 32] = textL x ++ [44, 32] ++ Lib.join (ys.map textL) [44, 32] := by
  cases ys with
  | nil => exact absurd rfl hy
  | cons y r => simp [Lib.join_cons, Lib.joinTail]
theorem mem_cS {x : T} {ys : List T} (h : x ∈ ys) : cT x ≤ cS ys := cT_mem ys x h

/-- One more argument is read: either it was the last one, or a comma and a space follow. -/
theorem ReadsA.step {s : List UInt8} {d at1 : Nat} {ts : List T} {at2 : Nat} (h : ReadsA s d at1 ts at2 false) {c : T} {at3 : Nat} {bad : Bool} (hc : ReadsT s (d + 1) at2 c at3 bad) {ys : List T} {rest : List UInt8} (h0 : ys ≠ []) (hy : ∀ y ∈ ys, OkT y ∧ d + 1 + dT y ≤ 17) (hcs : cS ys ≤ 59)
    (hs : s.drop at1 = Lib.join (ys.map textL) [44, 32] ++ [41] ++ rest) : bad = false ∧ ts ++ [c] = ys.take (ts.length + 1) ∧ at1 ≤ at3 ∧
      ((ts.length + 1 = ys.length ∧ s.drop at3 = [41] ++ rest) ∨ (ts.length + 1 < ys.length ∧ s.drop at3 = [44, 32] ++ (Lib.join ((ys.drop (ts.length + 1)).map textL) [44, 32] ++ [41] ++ rest))) := by
  obtain ⟨_, ht, hl, hd, hle⟩ := h ys rest h0 hy hcs hs
  obtain ⟨y, hyk⟩ : ∃ y, ys[ts.length]? = some y := ⟨_, List.getElem?_eq_getElem hl⟩
  have hym : y ∈ ys := List.mem_of_getElem? hyk
  have hdr : ys.drop ts.length = y :: ys.drop (ts.length + 1) := by
    rw [List.drop_eq_getElem_cons hl]
    congr 1
    rw [List.getElem?_eq_getElem hl] at hyk
    exact Option.some.inj hyk
  have htk : ts ++ [y] = ys.take (ts.length + 1) := by rw [tk ys _ y hyk, ← ht]
  have hcy := mem_cS hym
  by_cases hlast : ts.length + 1 = ys.length
  · have e : ys.drop (ts.length + 1) = [] := List.drop_eq_nil_of_le (by omega)
    rw [hdr, e] at hd
    have hd2 : s.drop at2 = textL y ++ ([41] ++ rest) := by rw [hd]; simp [Lib.join_one]
    obtain ⟨rfl, rfl, rfl⟩ := hc y ([41] ++ rest) (hy y hym).1 (by have := (hy y hym).2; omega) (by omega) hd2 (Or.inr ⟨41, rest, rfl, Or.inl rfl⟩)
    exact ⟨rfl, htk, by omega, Or.inl ⟨hlast, drop_more hd2⟩⟩
  · have hne : ys.drop (ts.length + 1) ≠ [] := fun e => by have := congrArg List.length e; simp at this; omega
    rw [hdr, join_head hne] at hd
    have hd2 : s.drop at2 = textL y ++ ([44, 32] ++ (Lib.join ((ys.drop (ts.length + 1)).map textL) [44, 32] ++ [41] ++ rest)) := by rw [hd]; simp
    obtain ⟨rfl, rfl, rfl⟩ := hc y _ (hy y hym).1 (by have := (hy y hym).2; omega) (by omega) hd2 (Or.inr ⟨44, _, rfl, Or.inr rfl⟩)
    exact ⟨rfl, htk, by omega, Or.inr ⟨by omega, drop_more hd2⟩⟩

/-- A comma and a space: the next argument. -/
theorem ReadsA.next {s : List UInt8} {d at1 : Nat} {ts : List T} {at2 : Nat} (h : ReadsA s d at1 ts at2 false) {c : T} {at3 : Nat} {bad q : Bool} (hc : ReadsT s (d + 1) at2 c at3 bad) (h41 : ¬ [41] <+: s.drop at3) (hq : q = true ↔ [44, 32] <+: s.drop at3) :
    ReadsA s d at1 (ts ++ [c]) (at3 + 2) (bad || !q) := by
  intro ys rest h0 hy hcs hs
  obtain ⟨rfl, htk, hle, hor⟩ := h.step hc h0 hy hcs hs
  rcases hor with ⟨_, hd⟩ | ⟨hl, hd⟩
  · exact absurd ⟨rest, hd.symm⟩ h41
  · have hq1 : q = true := hq.2 ⟨_, hd.symm⟩
    subst hq1
    refine ⟨rfl, by rw [List.length_append, List.length_singleton]; exact htk, by simpa using hl, ?_, by omega⟩
    rw [List.length_append, List.length_singleton]
    exact drop_more (a := [44, 32]) hd
/-- A bracket: the end of the arguments. -/
theorem ReadsA.close {s : List UInt8} {d at1 at0 : Nat} {ts : List T} {at2 : Nat} {l r : List UInt8} (h : ReadsA s d at1 ts at2 false) {c : T} {at3 : Nat} {bad : Bool} (hc : ReadsT s (d + 1) at2 c at3 bad) (h41 : [41] <+: s.drop at3)
    (hw : s.drop at0 = l ++ r) (hl : ∀ c ∈ l, ¬ Special c) (hr : SpStart r) (h40 : [40] <+: r) (hat : at1 = at0 + l.length + 1) {k n : Int} {nm : ByteArray} (hleaf : leafS l = .node k n nm []) : ReadsT s d at0 (.node k n nm (ts ++ [c])) (at3 + 1) bad := by
  intro t0 rest hok hd hct ht hstop
  obtain ⟨nm', ys, rfl, h3, h0, hy, hcs, hs, hlen⟩ := reads_args hw hl hr h40 hok hd hct ht hstop
  rw [hleaf] at h3
  simp only [T.node.injEq, and_true] at h3
  obtain ⟨rfl, rfl, rfl⟩ := h3
  rw [← hat] at hs
  obtain ⟨rfl, htk, hle, hor⟩ := h.step hc h0 hy hcs hs
  rcases hor with ⟨hl2, hd2⟩ | ⟨_, hd2⟩
  · rw [htk, hl2, List.take_length]
    refine ⟨rfl, ?_, rfl⟩
    have e1 : s.drop at1 = Lib.join (ys.map textL) [44, 32] ++ ([41] ++ rest) := by rw [hs]; simp
    have l1 := congrArg List.length e1
    have l2 := congrArg List.length hd2
    simp only [List.length_drop, List.length_append, List.length_singleton] at l1 l2
    omega
  · obtain ⟨r2, h41⟩ := h41
    rw [hd2] at h41
    simp at h41
/-- An error: no valid term's representation lies there. -/
theorem ReadsA.bad {s : List UInt8} {d at1 at0 : Nat} {ts : List T} {at2 at9 : Nat} {l r : List UInt8} {t : T} {b b' : Bool} (h : ReadsA s d at1 ts at2 b) (hb : b = true ∨ 16 < d ∨ 60 < ts.length) (hw : s.drop at0 = l ++ r) (hl : ∀ c ∈ l, ¬ Special c) (hr : SpStart r) (h40 : [40] <+: r) (hat : at1 = at0 + l.length + 1) : ReadsT s d at0 t at9 b' := by
  intro t0 rest hok hd hct ht hstop
  obtain ⟨nm', ys, rfl, h3, h0, hy, hcs, hs, hlen⟩ := reads_args hw hl hr h40 hok hd hct ht hstop
  rw [← hat] at hs
  obtain ⟨rfl, _, hlt, _⟩ := h ys rest h0 hy hcs hs
  have h1 := len_le_cS ys
  cases ys with
  | nil => exact absurd rfl h0
  | cons y r => have := (hy y (by simp)).2; have h2 := dT_pos y; rcases hb with hb | hb | hb <;> (try omega); simp at hb
end Go.Proofs.YtidbokheeieifaaGreatDoor

namespace Go.Proofs.YtidbokheeieifaaGreatDoor
open Go.RowKit

/-- The model's reader in memory. -/
abbrev RB (s : ByteArray) (at1 : Nat) (bad : Bool) : Obj := .cells #[.string s, .int .i64 at1, .bool bad] 70
theorem cells3r {Y : World} {b : Nat} {x0 x1 x2 : Value} {T : TypeId} (hb : Y.heap[b]? = some (.cells #[x0, x1, x2] T (0, 0))) : (Y.cell? ⟨b, 0, none⟩ = some x0 ∧ Y.cell? ⟨b, 1, none⟩ = some x1 ∧ Y.cell? ⟨b, 2, none⟩ = some x2) ∧
    (Y.frozen? ⟨b, 0, none⟩ = false ∧ Y.frozen? ⟨b, 1, none⟩ = false ∧ Y.frozen? ⟨b, 2, none⟩ = false) := by
  have a0 := cell_of_row Y b 0 _ _ _ hb
  have a1 := cell_of_row Y b 1 _ _ _ hb
  have a2 := cell_of_row Y b 2 _ _ _ hb
  simp at a0 a1 a2
  exact ⟨⟨a0, a1, a2⟩, frozen_of_row Y b 0 _ _ hb, frozen_of_row Y b 1 _ _ hb, frozen_of_row Y b 2 _ _ hb⟩

/-- The bytes p stand in L from place a on. -/
def Sees (L p : List UInt8) (a : Nat) : Prop := p <+: L.drop a
theorem sees_seg {L p : List UInt8} {a : Nat} (_ : a + p.length ≤ L.length) : Sees L p a ↔ seg L a (a + p.length) = p := by
  unfold Sees seg
  rw [show a + p.length - a = p.length by omega]
  constructor
  · rintro ⟨r, hr⟩
    rw [← hr, List.take_left]
  · intro h2
    exact ⟨(L.drop a).drop p.length, by conv => lhs; lhs; rw [← h2]
                                        exact List.take_append_drop _ _⟩
theorem sees_no {L p : List UInt8} {a : Nat} (h : ¬ a + p.length ≤ L.length) (hp : p ≠ []) : ¬ Sees L p a := by
  rintro ⟨r, hr⟩
  have := congrArg List.length hr
  have h1 := List.length_pos_iff.2 hp
  simp only [List.length_append, List.length_drop] at this
  omega

def SeesEnd (s p : ByteArray) (a : Nat) (w : World) (e : Ending) (w' : World) : Prop := ∃ q : Bool, e = .returned (.bool q) ∧ (q = true ↔ Sees s.data.toList p.data.toList a) ∧ ∃ n, w' = w.drewN n

set_option maxRecDepth 100000 in
set_option maxHeartbeats 800000 in
theorem sees_any (rb : Nat) (s p : ByteArray) (a : Nat) (bad : Bool) (w : World) (hs : s.size ≤ 600) (ha : a ≤ 1000) (hp : p.size ≤ 10) (hp0 : 0 < p.size) (hr : w.heap[rb]? = some (RB s a bad)) :
    Calls Tryz.prog 76 #[.pointer (some ⟨rb, 0, none⟩), .string p] w (SeesEnd s p a w) := by
  have hsl : s.data.toList.length = s.size := by simp
  have hpl : p.data.toList.length = p.size := by simp
  have HS := Lib.hid hsl; clear hsl
  have HP := Lib.hid hpl; clear hpl
  obtain ⟨⟨c0, c1, c2⟩, _⟩ := cells3r hr
  clear hr
  have e1 : IntKind.i64.wrap ((a : Int) + (p.size : Int)) = (a : Int) + (p.size : Int) := IntWalk.i64_in _ (by omega)
  by_cases h : a + p.size ≤ s.size
  · have h1 : decide ((a : Int) + (p.size : Int) ≤ (s.size : Int)) = true := by rw [decide_eq_true_iff]; omega
    have h2 : (a : Int) ≤ (a : Int) + (p.size : Int) := by omega
    have h3 : ((a : Int) + (p.size : Int)).toNat = a + p.size := by omega
    have h4 : (0 : Int) ≤ (a : Int) + (p.size : Int) := by omega
    have HQ : Hid ((((s.extract a (a + p.size)).toList == p.toList) = true) ↔ Sees s.data.toList p.data.toList a) := Lib.hid (by
      rw [same_iff, sees_seg (by rw [HP.out]; have := HS.out; omega), HP.out, ← extract_seg]
      exact ⟨fun e => by rw [e], fun e => key_inj e⟩)
    go_enter Tryz.func76, Tryz.ntmps76
    go_wp2
    go_quiet (fail)
    go_wp2
    go_ret
    exact ⟨_, rfl, HQ.out, _, rfl⟩
  · have h1 : decide ((a : Int) + (p.size : Int) ≤ (s.size : Int)) = false := by rw [decide_eq_false_iff_not]; omega
    have HQ : Hid (¬ Sees s.data.toList p.data.toList a) := Lib.hid (sees_no (by rw [HS.out, HP.out]; exact h) (fun e => by have h0 := HP.out; rw [e] at h0; simp at h0; omega))
    clear h
    go_enter Tryz.func76, Tryz.ntmps76
    go_wp2
    go_quiet (fail)
    go_wp2
    go_ret
    exact ⟨false, rfl, ⟨fun e => (by cases e), fun k => absurd k HQ.out⟩, _, rfl⟩
end Go.Proofs.YtidbokheeieifaaGreatDoor
namespace Go.Proofs.YtidbokheeieifaaGreatDoor
open Go.RowKit

/-- The scan of a word: from a to b there is no special byte. -/
def ScanAt (L : List UInt8) (a b : Nat) : Prop := a ≤ b ∧ b ≤ L.length ∧ ∀ c ∈ seg L a b, ¬ Special c
theorem ScanAt.start {L : List UInt8} {a : Nat} (h : a ≤ L.length) : ScanAt L a a := ⟨Nat.le_refl _, h, by rw [seg_nil]; simp⟩
theorem ScanAt.next {L : List UInt8} {a b : Nat} (h : ScanAt L a b) {c : UInt8} (hc : L[b]? = some c) (hs : ¬ Special c) : ScanAt L a (b + 1) := by
  obtain ⟨h1, _, h3⟩ := h
  refine ⟨by omega, (List.getElem?_eq_some_iff.1 hc).1, fun x hx => ?_⟩
  rw [← seg_app h1 (Nat.le_succ b), seg_one hc, List.mem_append, List.mem_singleton] at hx
  rcases hx with hx | rfl
  · exact h3 x hx
  · exact hs
theorem drop_seg (L : List UInt8) {a b : Nat} (h : a ≤ b) : L.drop a = seg L a b ++ L.drop b := by
  unfold seg
  rw [show L.drop b = (L.drop a).drop (b - a) by rw [List.drop_drop, show a + (b - a) = b by omega], List.take_append_drop]

/-- Where the model's reader lies. -/
def posOf (rb : Nat) (w : World) : Nat := match w.cell? ⟨rb, 1, none⟩ with | some (.int _ n) => n.toNat | _ => 0
theorem posOf_of {rb : Nat} {w : World} {s : ByteArray} {a : Nat} {q : Bool} (h : w.heap[rb]? = some (RB s a q)) : posOf rb w = a := by
  unfold posOf; rw [(cells3r h).1.2.1]; simp

theorem RB_at {w : World} {rb a b : Nat} {s : ByteArray} {q : Bool} (h : w.heap[rb]? = some (RB s a q)) {v : Int} (hv : v = b) : (w.setCell ⟨rb, 1, none⟩ (.int .i64 v)).heap[rb]? = some (RB s b q) := by
  rw [heap_setCell_same _ _ _ _ _ _ h, hv]; rfl
theorem RB_bad {w : World} {rb a : Nat} {s : ByteArray} {q : Bool} (h : w.heap[rb]? = some (RB s a q)) (q' : Bool) : (w.setCell ⟨rb, 2, none⟩ (.bool q')).heap[rb]? = some (RB s a q') := by
  rw [heap_setCell_same _ _ _ _ _ _ h]; rfl

theorem set_box {Y : World} {b : Nat} {x0 x1 x2 x3 : Value} {T : TypeId} (h : Y.heap[b]? = some (.cells #[x0, x1, x2, x3] T (0, 0))) (y0 y1 y2 y3 : Value) :
    ((((Y.setCell ⟨b, 0, none⟩ y0).setCell ⟨b, 1, none⟩ y1).setCell ⟨b, 2, none⟩ y2).setCell ⟨b, 3, none⟩ y3).heap[b]? = some (.cells #[y0, y1, y2, y3] T (0, 0)) := by
  have h1 := heap_setCell_same _ _ 0 _ _ y0 h
  have h2 := heap_setCell_same _ _ 1 _ _ y1 h1
  have h3 := heap_setCell_same _ _ 2 _ _ y2 h2
  exact heap_setCell_same _ _ 3 _ _ y3 h3
/-- A word's leaf in a box of its own. -/
def LeafAt (wd : ByteArray) (W wx : World) : Prop := ∃ k n nm, leafS wd.data.toList = .node k n nm [] ∧ nm.size ≤ wd.size ∧ wx.heap[W.heap.size]? = some (.cells #[.int .i64 k, .int .i64 n, .string nm, .slice none 0 0] 26 (0, 0)) ∧ Below W.heap.size W wx
theorem leaf_var {wd : ByteArray} {W : World} (h : Nm 65 90 wd) : LeafAt wd W (W.alloc (.cells #[.int .i64 1, .int .i64 0, .string wd, .slice none 0 0] 26)) :=
  ⟨1, 0, wd, by rw [leafS_var (by rw [mk_data]; exact h), mk_data], Nat.le_refl _, heap_new _ _ rfl, bel_al _ _⟩
theorem leaf_app {wd : ByteArray} {W : World} (h : ¬ Nm 65 90 wd) (h2 : ¬ (wd.size = 1 ∧ 48 ≤ byteAt wd 0 ∧ byteAt wd 0 ≤ 57)) : LeafAt wd W (W.alloc (.cells #[.int .i64 2, .int .i64 0, .string wd, .slice none 0 0] 26)) :=
  ⟨2, 0, wd, by
    rw [leafS_app (by rw [mk_data]; exact h) (fun c e hc => h2 ?_), mk_data]
    have hl : wd.size = 1 := by have := congrArg List.length e; simpa using this
    have e0 : wd.data.toList[0]? = some c := by rw [e]; rfl
    rw [List.getElem?_eq_getElem (by simpa using (by omega : 0 < wd.size))] at e0
    rw [byteAt_lt wd 0 (by omega)]
    have hz : 0 < wd.data.size := by show 0 < wd.size; omega
    have : wd[0]'(by omega) = c := by show wd.data[0] = c; simpa using e0
    rw [this]
    omega, Nat.le_refl _, heap_new _ _ rfl, bel_al _ _⟩
theorem leaf_dig {wd : ByteArray} (h : ¬ Nm 65 90 wd) (hl : wd.size = 1) (h2 : 48 ≤ byteAt wd 0 ∧ byteAt wd 0 ≤ 57) : leafS wd.data.toList = .node 3 (byteAt wd 0 - 48) ByteArray.empty [] := by
  have hl2 : wd.data.toList.length = 1 := by simpa using hl
  obtain ⟨c, e⟩ := List.length_eq_one_iff.1 hl2
  have e0 : wd.data.toList[0]? = some c := by rw [e]; rfl
  rw [List.getElem?_eq_getElem (by rw [hl2]; decide)] at e0
  have hz : 0 < wd.data.size := by show 0 < wd.size; omega
  have hc : wd[0]'(by omega) = c := by show wd.data[0] = c; simpa using e0
  rw [byteAt_lt wd 0 (by omega), hc] at h2 ⊢
  rw [e]
  have hm : (⟨[c].toArray⟩ : ByteArray) = wd := by rw [← e, mk_data]
  exact leafS_dig (by rw [hm]; exact h) (by omega)

/-- What a reading of a term gives. -/
def TermEnd (s : ByteArray) (d rb at1 : Nat) (w : World) (e : Ending) (w' : World) : Prop :=
  ∃ k n nm a c xs H at2 bad, e = .returned (tv k n nm (.slice a xs.length c)) ∧ w'.heap[rb]? = some (RB s at2 bad) ∧ w.grownBy w' (some rb) ∧ ReadsT s.data.toList d at1 (.node k n nm xs) at2 bad ∧
    (at1 ≤ at2 ∧ (bad = false → at2 ≤ s.size) ∧ at2 ≤ s.size + 2 * (17 - d)) ∧ wT (.node k n nm xs) ≤ at2 - at1 ∧ OwnR (fun _ => True) w' H w.heap.size w'.heap.size (.slice a xs.length c) xs

theorem term_fin {s : ByteArray} {d rb at1 : Nat} {w wf : World} {k n : Int} {nm : ByteArray} {a : Option Addr} {c : Nat} {xs : List T} {H at2 lo : Nat} {bad : Bool} (hrb : wf.heap[rb]? = some (RB s at2 bad)) (hg : w.grownBy wf (some rb)) (hlt : rb < w.heap.size) (hR : ReadsT s.data.toList d at1 (.node k n nm xs) at2 bad)
    (hat : at1 ≤ at2 ∧ (bad = false → at2 ≤ s.size) ∧ at2 ≤ s.size + 2 * (17 - d)) (hw : wT (.node k n nm xs) ≤ at2 - at1) (ho : OwnR (fun _ => True) wf H lo wf.heap.size (.slice a xs.length c) xs) (hlo : w.heap.size < lo) (v0 v1 v2 v3 : Value) :
    TermEnd s d rb at1 w (.returned (tv k n nm (.slice a xs.length c))) ((((wf.setCell ⟨w.heap.size, 0, none⟩ v0).setCell ⟨w.heap.size, 1, none⟩ v1).setCell ⟨w.heap.size, 2, none⟩ v2).setCell ⟨w.heap.size, 3, none⟩ v3) := by
  have hne : rb ≠ w.heap.size := by omega
  have st : ∀ (W : World) (j : Nat) (v : Value), OwnR (fun _ => True) W H lo wf.heap.size (.slice a xs.length c) xs → OwnR (fun _ => True) (W.setCell ⟨w.heap.size, j, none⟩ v) H lo wf.heap.size (.slice a xs.length c) xs := fun W j v o =>
    o.keep fun b _ h1 _ => ⟨Below.heap_setCell _ _ _ _ (fun e => by simp at e; omega), trivial⟩
  have sg : ∀ (W : World) (j : Nat) (v : Value), w.grownBy W (some rb) → w.grownBy (W.setCell ⟨w.heap.size, j, none⟩ v) (some rb) := fun W j v g =>
    ⟨g.os, g.tape, g.output, Nat.le_trans g.size (by simp), fun b hb hr => (Below.heap_setCell _ _ _ _ (fun e => by simp at e; omega)).trans (g.block b hb hr)⟩
  refine ⟨k, n, nm, a, c, xs, H, at2, bad, rfl, ?_, sg _ _ _ (sg _ _ _ (sg _ _ _ (sg _ _ _ hg))), hR, hat, hw, (st _ _ _ (st _ _ _ (st _ _ _ (st _ _ _ ho)))).wide (by omega) (by simp)⟩
  rw [heap_off _ _ hne, heap_off _ _ hne, heap_off _ _ hne, heap_off _ _ hne]
  exact hrb

/-- Where the reader stands among the arguments that begin at a1. -/
def ArgPos (s : ByteArray) (d a1 at3 : Nat) (bad : Bool) (ts : List T) : Prop := a1 ≤ at3 ∧ (bad = false → at3 ≤ s.size) ∧ at3 ≤ s.size + 2 * (17 - d) ∧ wS ts + ts.length ≤ at3 - a1
/-- The arguments so far. -/
def ArgsSo (w : World) (lo : Nat) (ua : Option Addr) (uc : Nat) (ts : List T) (wr : World) : Prop := (∃ H, OwnR (fun _ => True) wr (H + 1) lo wr.heap.size (.slice ua ts.length uc) ts) ∧ (ts = [] → Value.slice ua ts.length uc = .slice none 0 0) ∧ w.heap.size < lo
theorem news4c (w : World) (x0 x1 x2 x3 : Value) (t : TypeId) {n : Nat} (h : n = w.heap.size) : ∀ (j : Nat) (u : Value), [x0, x1, x2, x3][j]? = some u → (w.alloc (.cells #[x0, x1, x2, x3] t)).cell? (Addr.add ⟨n, 0, none⟩ j) = some u := by
  subst h
  intro j u hj
  have e := fun j => World.cell?_alloc_mark w #[x0, x1, x2, x3] t (0, 0) j
  match j, hj with
  | 0, hj => simp at hj; subst hj; exact e 0
  | 1, hj => simp at hj; subst hj; exact e 1
  | 2, hj => simp at hj; subst hj; exact e 2
  | 3, hj => simp at hj; subst hj; exact e 3
  | j + 4, hj => simp at hj
/-- What stands once an argument was read and appended. -/
structure Got (s : ByteArray) (w : World) (rb tb : Nat) (k0 n0 : Int) (nm : ByteArray) (at4 : Nat) (bad : Bool) (ts : List T) (ua : Option Addr) (uc : Nat) (W : World) : Prop where
  rd : W.heap[rb]? = some (RB s at4 bad)
  gr : w.grownBy W (some rb)
  zr : W.heap[w.heap.size]? = some zRow
  tt : W.heap[tb]? = some (.cells #[.int .i64 k0, .int .i64 n0, .string nm, .slice ua ts.length uc] 26 (0, 0))
  so : ArgsSo w (tb + 1) ua uc ts W

theorem got_step {s : ByteArray} {w wr w1 : World} {rb tb : Nat} {k0 n0 : Int} {nm : ByteArray} {at4 : Nat} {bad : Bool} {ts : List T} {m : Nat} {ua : Option Addr} {uc : Nat} {kc nc : Int} {nmc : ByteArray} {ac : Option Addr} {cc : Nat} {xc : List T} {Hc : Nat}
    (hml : m = ts.length) (hg : w.grownBy wr (some rb)) (hz : wr.heap[w.heap.size]? = some zRow) (ht : wr.heap[tb]? = some (.cells #[.int .i64 k0, .int .i64 n0, .string nm, .slice ua m uc] 26 (0, 0))) (has : ArgsSo w (tb + 1) ua uc ts wr) (hrlt : rb < w.heap.size) (hzt : w.heap.size < tb)
    (hr1 : w1.heap[rb]? = some (RB s at4 bad)) (hg1 : wr.drew.grownBy w1 (some rb)) (hoc : OwnR (fun _ => True) w1 Hc wr.drew.heap.size w1.heap.size (.slice ac xc.length cc) xc) (hnc : nmc.size ≤ maxLen) (hm : m + 1 ≤ maxLen) :
    ∃ ys, (w1.alloc (.cells #[.int .i64 kc, .int .i64 nc, .string nmc, .slice ac xc.length cc] 26)).ownsRow (tb + 1) 26 4 (.slice ua m uc) m ys ∧ tb + 1 ≤ w1.heap.size ∧
      ∀ g3 c3 w3, w3.ownsRow (tb + 1) 26 4 (.slice (some ⟨g3, 0, none⟩) (m + 1) c3) (m + 1) (ys ++ [.int .i64 kc, .int .i64 nc, .string nmc, .slice ac xc.length cc]) → (w1.alloc (.cells #[.int .i64 kc, .int .i64 nc, .string nmc, .slice ac xc.length cc] 26)).grownBy w3 (Value.slice ua m uc).ownBlock →
        ((Value.slice ua m uc).ownBlock = some g3 ∨ g3 = (w1.alloc (.cells #[.int .i64 kc, .int .i64 nc, .string nmc, .slice ac xc.length cc] 26)).heap.size) →
        w3.heap[tb]? = some (.cells #[.int .i64 k0, .int .i64 n0, .string nm, .slice ua m uc] 26 (0, 0)) ∧ Got s w rb tb k0 n0 nm at4 bad (ts ++ [.node kc nc nmc xc]) (some ⟨g3, 0, none⟩) c3 (w3.setCell ⟨tb, 3, none⟩ (.slice (some ⟨g3, 0, none⟩) (m + 1) c3)) := by
  subst hml
  obtain ⟨⟨H, ho⟩, hnil, _⟩ := has
  have hts : tb < wr.heap.size := (Array.getElem?_eq_some_iff.1 ht).1
  have hs1 : wr.heap.size ≤ w1.heap.size := hg1.size
  have ho0 : OwnR (fun _ => True) w1 (H + 1) (tb + 1) wr.heap.size (.slice ua ts.length uc) ts := OwnR.keep (Q := fun _ => True) (w := wr) (fun b _ h1 h2 => ⟨hg1.block b h2 (fun e => by have := Option.some.inj e; omega), trivial⟩) ho
  have ho1 : OwnR (fun _ => True) w1 (max H Hc + 1) (tb + 1) wr.heap.size (.slice ua ts.length uc) ts := ho0.le (by omega)
  have hoc1 : OwnR (fun _ => True) w1 (max H Hc) wr.heap.size w1.heap.size (.slice ac xc.length cc) xc := hoc.le (by omega)
  obtain ⟨ys, hrow, hnv, hstep⟩ := ho1.row (lo0 := tb + 1) (Nat.le_refl _) hnil hs1 (by omega) hm
  refine ⟨ys, keep_own hrow (bel_al _ _), by omega, fun g3 c3 w3 h3 hg3 ha3 => ?_⟩
  have hzz : (w1.alloc (.cells #[.int .i64 kc, .int .i64 nc, .string nmc, .slice ac xc.length cc] 26)).heap.size = w1.heap.size + 1 := by simp
  have hs3 := hg3.size
  rw [hzz] at hs3 ha3
  -- what a block keeps
  have hkb : ∀ b, b < w1.heap.size → (Value.slice ua ts.length uc).ownBlock ≠ some b → w3.heap[b]? = w1.heap[b]? := fun b hb hno => (hg3.block b (by omega) (fun e => hno e.symm)).trans (Below.heap_alloc _ _ _ hb)
  have hlow : ∀ b, b ≤ tb → (Value.slice ua ts.length uc).ownBlock ≠ some b := fun b hb e => by have := (hnv b e).1; omega
  have hsn : Snoc (tb + 1) w1 (.slice ua ts.length uc) ts.length ys [.int .i64 kc, .int .i64 nc, .string nmc, .slice ac xc.length cc] w3 (.slice (some ⟨g3, 0, none⟩) (ts.length + 1) c3) :=
    ⟨by omega, fun b hb hno => hkb b hb (fun e => hno e.symm), h3, by
      rcases ha3 with e | e
      · exact Or.inl e.symm
      · exact Or.inr ⟨g3, rfl, by omega⟩⟩
  have hnew := hstep w3 (.slice (some ⟨g3, 0, none⟩) (ts.length + 1) c3) kc nc nmc _ xc wr.heap.size w1.heap.size hsn hnc (by omega) (Nat.le_refl _) (Nat.le_refl _) hoc1
  have htb3 : w3.heap[tb]? = some (.cells #[.int .i64 k0, .int .i64 n0, .string nm, .slice ua ts.length uc] 26 (0, 0)) :=
    (hkb tb (by omega) (hlow tb (Nat.le_refl _))).trans ((hg1.block tb hts (fun e => by have := Option.some.inj e; omega)).trans ht)
  have hg2 : w.grownBy w1 (some rb) := grown_trans hg (grown_trans (Below.toGrown ((Below.refl _ _).drew) (some rb)) hg1)
  have hw1 : w.heap.size ≤ w1.heap.size := hg2.size
  refine ⟨htb3, ?_, ?_, ?_, ?_, ?_, ?_, ?_⟩
  · rw [heap_off _ _ (by omega), hkb rb (by omega) (hlow rb (by omega))]
    exact hr1
  · refine ⟨hg3.os.trans hg2.os, hg3.tape.trans hg2.tape, hg3.output.trans hg2.output, by simp; omega, fun b hb hr => ?_⟩
    rw [heap_off _ _ (by omega), hkb b (by omega) (hlow b (by omega))]
    exact hg2.block b hb hr
  · rw [heap_off _ _ (by omega), hkb _ (by omega) (hlow _ (by omega)), hg1.block _ (Array.getElem?_eq_some_iff.1 hz).1 (fun e => by have := Option.some.inj e; omega)]
    exact hz
  · rw [heap_setCell_same _ _ _ _ _ _ htb3, List.length_append, List.length_singleton]; rfl
  · refine ⟨max H Hc, ?_⟩
    rw [List.length_append, List.length_singleton]
    exact (hnew.keep fun b _ h1 _ => ⟨heap_off _ _ (by omega), trivial⟩).wide (Nat.le_refl _) (by simp)
  · intro e; simp at e
  · omega

theorem ArgsSo.keep {w wr wr' : World} {lo : Nat} {ua : Option Addr} {uc : Nat} {ts : List T} (h : ArgsSo w lo ua uc ts wr) (hs : wr.heap.size ≤ wr'.heap.size) (hk : ∀ b, lo ≤ b → b < wr.heap.size → wr'.heap[b]? = wr.heap[b]?) : ArgsSo w lo ua uc ts wr' := by
  obtain ⟨⟨H, ho⟩, h1, h2⟩ := h
  exact ⟨⟨H, (OwnR.keep (Q := fun _ => True) (w := wr) (fun b _ b1 b2 => ⟨hk b b1 b2, trivial⟩) ho).wide (Nat.le_refl _) hs⟩, h1, h2⟩
theorem Got.drewN {s : ByteArray} {w W : World} {rb tb : Nat} {k0 n0 : Int} {nm : ByteArray} {at4 : Nat} {bad : Bool} {ts : List T} {ua : Option Addr} {uc : Nat} (h : Got s w rb tb k0 n0 nm at4 bad ts ua uc W) (n : Nat) : Got s w rb tb k0 n0 nm at4 bad ts ua uc (W.drewN n) :=
  ⟨h.rd, grown_trans h.gr (Below.toGrown (below_q _ _) _), h.zr, h.tt, h.so.keep (Nat.le_refl _) fun _ _ _ => rfl⟩
theorem Got.set {s : ByteArray} {w W : World} {rb tb : Nat} {k0 n0 : Int} {nm : ByteArray} {at4 at5 : Nat} {bad bad' : Bool} {ts : List T} {ua : Option Addr} {uc : Nat} (h : Got s w rb tb k0 n0 nm at4 bad ts ua uc W) (h1 : rb < w.heap.size) (h2 : w.heap.size < tb) (j : Nat) (v : Value)
    (hr : (W.setCell ⟨rb, j, none⟩ v).heap[rb]? = some (RB s at5 bad')) : Got s w rb tb k0 n0 nm at5 bad' ts ua uc (W.setCell ⟨rb, j, none⟩ v) :=
  ⟨hr, grown_trans h.gr (set_grown _ _ _ _), (heap_off _ _ (by omega)).trans h.zr, (heap_off _ _ (by omega)).trans h.tt, h.so.keep (by simp) fun b h3 _ => heap_off _ _ (by omega)⟩
theorem ArgPos.next {s : ByteArray} {d a1 at3 at4 : Nat} {ts : List T} {c : T} {badc q : Bool} (h : ArgPos s d a1 at3 false ts) (hd : d ≤ 16) (hp : (at3 ≤ at4 ∧ (badc = false → at4 ≤ s.size) ∧ at4 ≤ s.size + 2 * (17 - (d + 1))) ∧ wT c ≤ at4 - at3)
    (hq : badc = false → q = true → at4 + 2 ≤ s.size) : ArgPos s d a1 (at4 + 2) (badc || !q) (ts ++ [c]) := by
  obtain ⟨h1, _, h3, h4⟩ := h
  refine ⟨by omega, fun e => ?_, by omega, ?_⟩
  · cases badc with
    | true => simp at e
    | false => exact hq rfl (by simpa using e)
  · rw [wS_snoc, List.length_append, List.length_singleton]; omega
theorem sees_len {L p : List UInt8} {a : Nat} (h : Sees L p a) (hp : p ≠ []) : a + p.length ≤ L.length := by
  by_cases h2 : a + p.length ≤ L.length
  · exact h2
  · exact absurd h (sees_no h2 hp)

/-- What an argument's reading gives to the reader of the arguments. -/
def GotArg (s : ByteArray) (w : World) (rb tb : Nat) (k0 n0 : Int) (nm : ByteArray) (ts : List T) (m : Nat) (ua : Option Addr) (uc d at3 : Nat) (e : Ending) (w1 : World) : Prop :=
  ∃ kc nc nmc ac cc xc at4 bad ys, e = .returned (tv kc nc nmc (.slice ac (xc : List T).length cc)) ∧ w1.heap[tb]? = some (.cells #[.int .i64 k0, .int .i64 n0, .string nm, .slice ua m uc] 26 (0, 0)) ∧
    (w1.alloc (.cells #[.int .i64 kc, .int .i64 nc, .string nmc, .slice ac xc.length cc] 26)).ownsRow (tb + 1) 26 4 (.slice ua m uc) m ys ∧ tb + 1 ≤ (w1.alloc (.cells #[.int .i64 kc, .int .i64 nc, .string nmc, .slice ac xc.length cc] 26)).heap.size ∧
    (∀ g3 c3 w3, w3.ownsRow (tb + 1) 26 4 (.slice (some ⟨g3, 0, none⟩) (m + 1) c3) (m + 1) (ys ++ [.int .i64 kc, .int .i64 nc, .string nmc, .slice ac xc.length cc]) → (w1.alloc (.cells #[.int .i64 kc, .int .i64 nc, .string nmc, .slice ac xc.length cc] 26)).grownBy w3 (Value.slice ua m uc).ownBlock →
        ((Value.slice ua m uc).ownBlock = some g3 ∨ g3 = (w1.alloc (.cells #[.int .i64 kc, .int .i64 nc, .string nmc, .slice ac xc.length cc] 26)).heap.size) →
        w3.heap[tb]? = some (.cells #[.int .i64 k0, .int .i64 n0, .string nm, .slice ua m uc] 26 (0, 0)) ∧ Got s w rb tb k0 n0 nm at4 bad (ts ++ [.node kc nc nmc xc]) (some ⟨g3, 0, none⟩) c3 (w3.setCell ⟨tb, 3, none⟩ (.slice (some ⟨g3, 0, none⟩) (m + 1) c3))) ∧
    ReadsT s.data.toList (d + 1) at3 (.node kc nc nmc xc) at4 bad ∧ (at3 ≤ at4 ∧ (bad = false → at4 ≤ s.size) ∧ at4 ≤ s.size + 2 * (17 - (d + 1))) ∧ wT (.node kc nc nmc xc) ≤ at4 - at3
theorem got_arg {s : ByteArray} {w wr w1 : World} {rb tb : Nat} {k0 n0 : Int} {nm : ByteArray} {ts : List T} {m : Nat} {ua : Option Addr} {uc d at3 : Nat} {e : Ending} (h : TermEnd s (d + 1) rb at3 wr.drew e w1) (hs : s.size ≤ 600)
    (hml : m = ts.length) (hg : w.grownBy wr (some rb)) (hz : wr.heap[w.heap.size]? = some zRow) (ht : wr.heap[tb]? = some (.cells #[.int .i64 k0, .int .i64 n0, .string nm, .slice ua m uc] 26 (0, 0))) (has : ArgsSo w (tb + 1) ua uc ts wr) (hrlt : rb < w.heap.size) (hzt : w.heap.size < tb) (hm : m + 1 ≤ maxLen) :
    GotArg s w rb tb k0 n0 nm ts m ua uc d at3 e w1 := by
  obtain ⟨kc, nc, nmc, ac, cc, xc, Hc, at4, badc, rfl, hr1, hg1, hrt1, hpos1, hwt1, ho1⟩ := h
  have hnc1 : nmc.size ≤ maxLen := by have := hwt1; rw [wT_node] at this; unfold maxLen; omega
  obtain ⟨ys, hys, hlo1, hgot⟩ := got_step hml hg hz ht has hrlt hzt hr1 hg1 ho1 hnc1 hm
  refine ⟨kc, nc, nmc, ac, cc, xc, at4, badc, ys, rfl, ?_, hys, by simp; omega, hgot, hrt1, hpos1, hwt1⟩
  exact (hg1.block tb (Array.getElem?_eq_some_iff.1 ht).1 (fun e => by have := Option.some.inj e; omega)).trans ht
end Go.Proofs.YtidbokheeieifaaGreatDoor
