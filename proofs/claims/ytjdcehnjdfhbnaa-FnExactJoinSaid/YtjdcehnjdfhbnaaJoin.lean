/-
  spec.Join and impl.Join return the elements with the separator between them; the law on Join answers true at every list and separator.
-/
import Derived.Test.YtjdcehnjdfhbnaaStrs
import Derived.Test.YtjdcehnjdfhbnaaLaysJ
import Derived.Lib.Join
import Derived.Lib.AppendStr
import Derived.Lib.UnsafeStr
import Derived.Laws.IdiomStrings
import Derived.Shelf.Strings.OnBuilder
namespace Go.Proofs.Ytjdcehnjdfhbnaa
open Go.RowKit

theorem infoByte' : (Try.prog.info? 5).map (fun i => (i.zero, i.size, i.bytes)) = some (some (.int .u8 0), 1, 1) := by kernel_rfl

theorem joinTail_snoc (sep : List UInt8) (r : List (List UInt8)) (x : List UInt8) : Lib.joinTail sep (r ++ [x]) = Lib.joinTail sep r ++ sep ++ x := by simp [Lib.joinTail]
theorem join_snoc (sep : List UInt8) (l : List (List UInt8)) (x : List UInt8) (h : l ≠ []) : Lib.join (l ++ [x]) sep = Lib.join l sep ++ sep ++ x := by
  cases l with
  | nil => exact absurd rfl h
  | cons y r => rw [List.cons_append, Lib.join_cons, Lib.join_cons, joinTail_snoc]; simp
theorem join_length (sep : List UInt8) (ps : List ByteArray) : (Lib.join (ps.map (·.data.toList)) sep).length ≤ total ps + ps.length * sep.length := by
  cases ps with
  | nil => simp [Lib.join_nil]
  | cons p r =>
    rw [List.map_cons, Lib.join_cons]
    have h : ∀ r : List ByteArray, (Lib.joinTail sep (r.map (·.data.toList))).length = total r + r.length * sep.length := by
      intro r
      induction r with
      | nil => simp [Lib.joinTail, total]
      | cons q r ih =>
        have e : Lib.joinTail sep ((q :: r).map (·.data.toList)) = sep ++ q.data.toList ++ Lib.joinTail sep (r.map (·.data.toList)) := by simp [Lib.joinTail]
        have e2 : total (q :: r) = q.size + total r := by simp [total]
        have e3 : q.data.toList.length = q.size := by simp
        rw [e, List.length_append, List.length_append, ih, e2, e3, List.length_cons, Nat.add_mul]
        omega
    have e2 : total (p :: r) = p.size + total r := by simp [total]
    have e3 : p.data.toList.length = p.size := by simp
    rw [List.length_append, h r, e2, e3, List.length_cons, Nat.add_mul]
    omega

/-- The first k elements, joined. -/
def J (ps : List ByteArray) (sep : ByteArray) (k : Nat) : List UInt8 := Lib.join ((ps.take k).map (·.data.toList)) sep.data.toList
theorem J_zero (ps : List ByteArray) (sep : ByteArray) : J ps sep 0 = [] := rfl
theorem J_first (ps : List ByteArray) (sep : ByteArray) (p : ByteArray) (hp : ps[0]? = some p) : J ps sep 1 = p.data.toList := by
  unfold J; rw [take_next ps 0 p hp]; simp [Lib.join_one]
theorem J_next (ps : List ByteArray) (sep : ByteArray) (k : Nat) (p : ByteArray) (hk : 0 < k) (hp : ps[k]? = some p) : J ps sep (k + 1) = J ps sep k ++ sep.data.toList ++ p.data.toList := by
  unfold J
  have hlt := (List.getElem?_eq_some_iff.1 hp).1
  rw [take_next ps k p hp, List.map_append, List.map_cons, List.map_nil, join_snoc]
  intro e
  have := congrArg List.length e
  rw [List.length_map, List.length_take, List.length_nil] at this
  omega
theorem J_all (ps : List ByteArray) (sep : ByteArray) : J ps sep ps.length = Lib.join (ps.map (·.data.toList)) sep.data.toList := by unfold J; rw [List.take_length]
theorem J_le (ps : List ByteArray) (sep : ByteArray) (k : Nat) (h : ps.length + total ps ≤ 1048576) (hs : sep.size ≤ 1048576) : (J ps sep k).length ≤ 1099512676352 := by
  have h1 := join_length sep.data.toList (ps.take k)
  have h2 := total_take_le ps k
  have h3 : (ps.take k).length ≤ ps.length := by rw [List.length_take]; omega
  have e3 : sep.data.toList.length = sep.size := by simp
  have h4 : (ps.take k).length * sep.data.toList.length ≤ 1048576 * 1048576 := Nat.mul_le_mul (by omega) (by omega)
  unfold J
  omega

def JoinEnd (ps : List ByteArray) (sep : ByteArray) (w : World) (e : Ending) (w' : World) : Prop :=
  e = .returned (.string ⟨(Lib.join (ps.map (·.data.toList)) sep.data.toList).toArray⟩) ∧ Below w.heap.size w w'

/-- A slice of the call's own that holds the bytes l. -/
def Bytes (w : World) (B : Nat) (v : Value) (l : List UInt8) : Prop :=
  w.ownsRow B 5 1 v l.length (Lib.byteCells l) ∧ ∃ g cap, v = .slice (some ⟨g, 0, none⟩) l.length cap

theorem Bytes.mk {w : World} {B n : Nat} {v : Value} {l : List UInt8} {xs : List Value} (h : w.ownsRow B 5 1 v n xs) (hn : n = l.length) (hx : xs = Lib.byteCells l) (hv : v ≠ .slice none 0 0) : Bytes w B v l := by
  subst hn; subst hx
  refine ⟨h, ?_⟩
  rcases h.2 with ⟨e, _⟩ | ⟨g, cap, cur, e, _⟩
  · exact absurd e hv
  · exact ⟨g, cap, e⟩

theorem conv_bytes {w : World} {B g cap : Nat} {l : List UInt8} (h : w.ownsRow B 5 1 (.slice (some ⟨g, 0, none⟩) l.length cap) l.length (Lib.byteCells l)) :
    (convert 28 9 (.slice (some ⟨g, 0, none⟩) l.length cap)).run Try.prog w = .ok (.string ⟨l.toArray⟩) w :=
  run_convert_bytes_back (P := Try.prog) w 28 9 5 ⟨g, 0, none⟩ cap l Try.underlying28 Try.underlying5 Try.underlying9 (fun j hj => by
    have hc := h.cells (g := g) rfl j (.int .u8 (l[j].toNat : Int)) (by simp [Lib.byteCells, hj])
    exact hc)

set_option maxRecDepth 100000 in
set_option maxHeartbeats 400000 in
theorem sJoin_empty (a : Option Addr) (cap : Nat) (sep : ByteArray) (w : World) :
    Calls Try.prog 5 #[.slice a 0 cap, .string sep] w (JoinEnd [] sep w) := by
  have hown := World.ownsRow_lit (base := w.heap.size) (size := 1) (e := 5) w #[] 0 (Nat.le_refl _) (by decide) rfl
  have hcv : (convert 28 9 (.slice (some ⟨w.heap.size, 0, none⟩) 0 0)).run Try.prog (w.alloc (.cells #[] 5)) = .ok (.string ⟨#[]⟩) (w.alloc (.cells #[] 5)) := conv_bytes (l := []) (B := w.heap.size) (by simpa [Lib.byteCells] using hown)
  clear hown
  go_enter Try.func5, Try.ntmps5
  go_wp2
  refine wp_loop_rounds 1 ?_
  rw [rounds_succ]
  go_wp2
  go_ret
  exact ⟨rfl, (Below.refl _ _).alloc (Nat.le_refl _) _⟩

set_option maxRecDepth 100000 in
set_option maxHeartbeats 1600000 in
theorem sJoin_some (b o cap : Nat) (ps : List ByteArray) (sep : ByteArray) (w : World) (hl : ps.length + total ps ≤ 1048576) (hs : sep.size ≤ 1048576)
    (hc : ∀ i p, ps[i]? = some p → w.cell? ⟨b, o + i, none⟩ = some (.string p)) :
    Calls Try.prog 5 #[.slice (some ⟨b, o, none⟩) ps.length cap, .string sep] w (JoinEnd ps sep w) := by
  obtain ⟨i0, hi, hz0, hz1, hz2⟩ := info_parts infoByte'
  have HI := Lib.hid hi; clear hi
  have HZ0 := Lib.hid hz0; clear hz0
  have HZ1 := Lib.hid hz1; clear hz1
  have HZ2 := Lib.hid hz2; clear hz2
  have HC := Lib.hid hc; clear hc
  have HL := Lib.hid hl; clear hl
  obtain ⟨n, hn⟩ : ∃ n, n = ps.length := ⟨_, rfl⟩
  have hn1 : n ≤ 1048576 := by have := HL.out; omega
  rw [← hn]
  have HN := Lib.hid hn; clear hn
  go_enter Try.func5, Try.ntmps5
  go_wp2
  go_loopw [5, 6] (fun v i wr => ∃ k : Nat, k ≤ n ∧ i = .int .i64 k ∧ Bytes wr w.heap.size v (J ps sep k) ∧ Below w.heap.size w wr) (fun _ i _ => n - (intOf i).toNat)
  case atStart =>
    refine ⟨0, Nat.zero_le _, rfl, Bytes.mk (World.ownsRow_lit w #[] 0 (Nat.le_refl _) (by decide) rfl) rfl rfl (by simp), (Below.refl _ _).alloc (Nat.le_refl _) _⟩
  case round =>
    obtain ⟨k, hk, rfl, ⟨hown, g, c, rfl⟩, hb⟩ := hrel
    have HB := Lib.hid hb; clear hb
    have hjl := J_le ps sep k HL.out hs
    by_cases hlt : k < n
    · obtain ⟨p, hp⟩ : ∃ p, ps[k]? = some p := ⟨_, List.getElem?_eq_getElem (by have := HN.out; omega)⟩
      have hpl : p.size ≤ 1048576 := by
        have h1 := take_next ps k p hp
        have h2 := total_take_le ps (k + 1)
        rw [h1, total_snoc] at h2
        have := HL.out; omega
      have hc0 := HC.out k p hp
      have hlow : w.heap.size ≤ wr.heap.size := HB.out.size
      by_cases hk0 : k = 0
      · subst hk0
        have HJ := Lib.hid (J_first ps sep p hp); clear hp
        have hc1 : w.cell? ⟨b, o, none⟩ = some (.string p) := hc0
        have hcell : wr.cell? ⟨b, o, none⟩ = some (.string p) := by rw [HB.out.cell (World.block_lt_of_cell? w _ hc1)]; exact hc1
        clear hc0 hc1
        have HO := Lib.hid hown; clear hown
        go_wp2_with (first | (at_builtin; refine Lib.wpList_append_own_string _ rfl (.tmp 19) (.tmp 23) 28 9 rfl w.heap.size 5 i0 Try.underlying28 Try.underlying9 HI.out HZ0.out HZ1.out HZ2.out _ _ _ rfl HO.out p rfl ?a1 ?a2 ?a3 ?_))
        case a1 => unfold maxLen; omega
        case a2 => omega
        case a3 => exact hlow
        intro v' w1 hown' hgrow hnil
        have hb2 := HB.out.grown hgrow hlow (fun j hj => (HO.out.lt j hj).1)
        have hby := Bytes.mk (l := J ps sep 1) hown' (by rw [HJ.out, J_zero]; simp) (by rw [HJ.out, J_zero, Lib.strCells_eq]; rfl) hnil
        have HY := Lib.hid hby; clear hby hown' hgrow hnil
        have HB2 := Lib.hid hb2; clear hb2
        go_wp2
        go_roundw
        case rel => exact ⟨1, by omega, by go_num, HY.out, HB2.out⟩
        case measure => simp [intOf]; omega
      · have hkp : (0 : Int) < (k : Int) := by omega
        have HJ := Lib.hid (J_next ps sep k p (by omega) hp); clear hp
        have hcell : ∀ w1 : World, Below w.heap.size w w1 → w1.cell? ⟨b, o + k, none⟩ = some (.string p) := fun w1 h => by rw [h.cell (World.block_lt_of_cell? w _ hc0)]; exact hc0
        have HCE := Lib.hid hcell; clear hcell hc0
        have HO := Lib.hid hown; clear hown
        go_wp2_with (first | (at_builtin; refine Lib.wpList_append_own_string _ rfl (.tmp 16) (.tmp 17) 28 9 rfl w.heap.size 5 i0 Try.underlying28 Try.underlying9 HI.out HZ0.out HZ1.out HZ2.out _ _ _ rfl HO.out sep rfl ?b1 ?b2 ?b3 ?_))
        case b1 => unfold maxLen; omega
        case b2 => omega
        case b3 => exact hlow
        intro v' w1 hown' hgrow hnil
        have hb2 := HB.out.grown hgrow hlow (fun j hj => (HO.out.lt j hj).1)
        obtain ⟨ho2, g2, c2, rfl⟩ := Bytes.mk (l := J ps sep k ++ sep.data.toList) hown' (by simp) (by rw [Lib.strCells_eq, ← Lib.byteCells_append]) hnil
        have HO2 := Lib.hid ho2; clear ho2 hown' hgrow hnil
        have hcell2 := HCE.out w1 hb2
        have hlow2 : w.heap.size ≤ w1.heap.size := hb2.size
        have HB2 := Lib.hid hb2; clear hb2
        have hjl2 : (J ps sep k ++ sep.data.toList).length ≤ 1099513724928 := by rw [List.length_append]; have e3 : sep.data.toList.length = sep.size := by simp
                                                                                 omega
        obtain ⟨m, hm⟩ : ∃ m, m = (J ps sep k ++ sep.data.toList).length := ⟨_, rfl⟩
        rw [← hm] at hjl2 HO2 ⊢
        have HM := Lib.hid hm; clear hm
        go_wp2_with (first | (at_builtin; refine Lib.wpList_append_own_string _ rfl (.tmp 19) (.tmp 23) 28 9 rfl w.heap.size 5 i0 Try.underlying28 Try.underlying9 HI.out HZ0.out HZ1.out HZ2.out _ _ _ rfl HO2.out p rfl ?e1 ?e2 ?e3 ?_))
        case e1 => unfold maxLen; omega
        case e2 => omega
        case e3 => exact hlow2
        intro v3 w3 hown3 hgrow3 hnil3
        have hb3 := HB2.out.grown hgrow3 hlow2 (fun j hj => (HO2.out.lt j hj).1)
        have hby := Bytes.mk (l := J ps sep (k + 1)) hown3 (by rw [HJ.out, HM.out]; simp [Nat.add_assoc]) (by rw [HJ.out, Lib.strCells_eq, ← Lib.byteCells_append]) hnil3
        have HY := Lib.hid hby; clear hby hown3 hgrow3 hnil3
        have HB3 := Lib.hid hb3; clear hb3
        go_wp2
        go_roundw
        case rel => exact ⟨k + 1, by omega, by go_num, HY.out, HB3.out⟩
        case measure => simp [intOf]; omega
    · have HJ : Hid (J ps sep k = Lib.join (ps.map (·.data.toList)) sep.data.toList) := Lib.hid (by
        have hkn : k = ps.length := by have := HN.out; omega
        rw [hkn, J_all])
      have hcv := conv_bytes hown
      have HO := Lib.hid hown; clear hown
      go_wp2
      go_ret
      exact ⟨by rw [HJ.out]; rfl, HB.out⟩

theorem sJoin_any (v : Value) (ps : List ByteArray) (sep : ByteArray) (w : World) (hl : ps.length + total ps ≤ 1048576) (hs : sep.size ≤ 1048576) (hv : StrsAt w v ps) :
    Calls Try.prog 5 #[v, .string sep] w (JoinEnd ps sep w) := by
  obtain ⟨a, cap, rfl, hv⟩ := hv
  rcases hv with rfl | ⟨b, o, rfl, hv⟩
  · exact sJoin_empty a cap sep w
  · exact sJoin_some b o cap ps sep w hl hs hv

set_option maxRecDepth 100000 in
set_option maxHeartbeats 400000 in
theorem iJoin_any (B : Nat) (v : Value) (ps : List ByteArray) (sep : ByteArray) (w : World) (hl : ps.length + total ps ≤ 1048576) (hs : sep.size ≤ 1048576)
    (hown : w.ownsRow B 9 1 v ps.length (ps.map Value.string)) :
    Calls Try.prog 7 #[v, .string sep] w (JoinEnd ps sep w) := by
  have hjl := join_length sep.data.toList ps
  have e3 : sep.data.toList.length = sep.size := by simp
  have h4 : ps.length * sep.data.toList.length ≤ 1048576 * 1048576 := Nat.mul_le_mul (by omega) (by omega)
  have hj : (Lib.join (ps.map (·.data.toList)) sep.data.toList).length ≤ 140737488355328 := by omega
  have HJ := Lib.hid hj; clear hj hjl h4 e3
  have hc : Calls Try.prog 9 #[v, .string sep] w (JoinEnd ps sep w) := by
    rcases hown.2 with ⟨rfl, h0⟩ | ⟨g, cap, cur, rfl, hbg, hg, hnc, hcm, hcs, htk⟩
    · have hp : ps = [] := List.eq_nil_of_length_eq_zero h0
      subst hp
      exact (Any.strings_Join_none Try.lays156 Try.Builder_Extra_156 none 0 sep w).mono fun e w' ⟨he, hw⟩ => ⟨he, hw ▸ Below.refl _ _⟩
    · exact (Any.strings_Join Try.lays156 Try.Builder_Extra_156 g 0 cap ps sep w (fun j x hx => by
        have hj : j < ps.length := (List.getElem?_eq_some_iff.1 hx).1
        rw [Nat.zero_add, hown.cellAt j (by omega)]
        simp [hx]) (hown.lt g rfl).2 (by omega) hnc HJ.out).mono fun e w' h => h
  have HC := Lib.hid hc; clear hc
  go_enter Try.func7, Try.ntmps7
  go_wp2_with fail
  refine HC.out.mono ?_
  rintro e w1 ⟨rfl, hb⟩
  go_wp2
  go_ret
  exact ⟨rfl, hb⟩

set_option maxRecDepth 100000 in
set_option maxHeartbeats 800000 in
theorem exJoin_any (v : Value) (ps : List ByteArray) (sep : ByteArray) (w : World) (hpl : ps.length ≤ 9223372036854775807) (hps : ∀ p ∈ ps, p.size ≤ 9223372036854775807) (hv : StrsAt w v ps) :
    Calls Try.prog 3 #[v, .string sep] w (TrueEnd w) := by
  have HV := Lib.hid hv; clear hv
  by_cases hs : 1048576 < sep.size
  · go_enter Try.func3, Try.ntmps3
    go_wp2
    go_ret
    exact ⟨rfl, Below.refl _ _⟩
  · have hs2 : sep.size ≤ 1048576 := by omega
    go_enter Try.func3, Try.ntmps3
    go_wp2_with fail
    refine (sz_any 1048576 v ps _ (by omega) (by omega) hpl hps HV.out).mono ?_
    rintro e w1 ⟨r, rfl, rfl, hr1, hr2⟩
    have HR := Lib.hid hr2; clear hr2
    by_cases hr : r < 0
    · go_wp2
      go_ret
      exact ⟨rfl, Below.refl _ _⟩
    · have hl := HR.out (by omega)
      have hl2 : ps.length + total ps ≤ 1048576 := by omega
      have HL := Lib.hid hl2; clear hl hl2
      go_wp2_with fail
      refine (copy_any v ps _ (by have := HL.out; omega) HV.out).mono ?_
      rintro e w2 ⟨v1, rfl, hown1, hb2⟩
      have HO1 := Lib.hid hown1; clear hown1
      have HB2 := Lib.hid hb2; clear hb2
      go_wp2_with fail
      refine (sJoin_any v1 ps sep _ HL.out hs2 (StrsAt.of_owns HO1.out)).mono ?_
      rintro e w3 ⟨rfl, hb3⟩
      have HB3 := Lib.hid (HB2.out.trans (hb3.mono HB2.out.size)); clear hb3
      go_wp2_with fail
      refine (copy_any v ps _ (by have := HL.out; omega) (HV.out.below HB3.out)).mono ?_
      rintro e w4 ⟨v2, rfl, hown2, hb4⟩
      have HO2 := Lib.hid hown2; clear hown2
      have HB4 := Lib.hid (HB3.out.trans (hb4.mono HB3.out.size)); clear hb4
      go_wp2_with fail
      refine (iJoin_any _ v2 ps sep _ HL.out hs2 HO2.out).mono ?_
      rintro e w5 ⟨rfl, hb5⟩
      have HO2b := Lib.hid (keep_own HO2.out hb5)
      have HB5 := Lib.hid (HB4.out.trans (hb5.mono HB4.out.size)); clear hb5
      have hq : (Lib.join (ps.map (·.data.toList)) sep.data.toList == Lib.join (ps.map (·.data.toList)) sep.data.toList) = true := by simp
      go_wp2_with fail
      refine (copy_any v ps _ (by have := HL.out; omega) (HV.out.below HB5.out)).mono ?_
      rintro e w6 ⟨v3, rfl, hown3, hb6⟩
      have HO3 := Lib.hid hown3; clear hown3
      have HO2c := Lib.hid (keep_own HO2b.out hb6)
      have HB6 := Lib.hid (HB5.out.trans (hb6.mono HB5.out.size)); clear hb6
      go_wp2_with fail
      refine (eqStrs_any v2 v3 ps ps _ (by have := HL.out; omega) (StrsAt.of_owns HO2c.out) (StrsAt.of_owns HO3.out) rfl).mono ?_
      rintro e w7 ⟨rfl, q, rfl⟩
      have HB7 := Lib.hid (HB6.out.trans ((below_q w6 q).mono HB6.out.size))
      go_wp2
      go_ret
      exact ⟨rfl, HB7.out⟩
end Go.Proofs.Ytjdcehnjdfhbnaa
