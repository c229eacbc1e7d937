/-
  The ascending list of a list's strings, as a term; what its Binds weigh. No walk.
  laws.eqStringS returns true for two slices of the same strings; it changes nothing.
  laws.szStringS counts what a slice of strings holds; laws.toStringS copies it into a slice of the call's own.
  laws.markStringS writes these texts into a slice of the call's own; laws.heldStringS finds them there.
  Lists of strings as a law's facts: they hold as long as their blocks stay.
  laws.szTerm and laws.szTermS count what a term holds.
  laws.szBind and laws.szBindS count what a list of Binds holds.
  laws.eqBind and laws.eqBindS: two readings of one list of Binds are equal.
  laws.markBindS writes numbered marks over a list of Binds that is a call's own, and nothing else turns.
-/
import Derived.Test.YtkgpkphacjjlgaaQ24
import Derived.Test.YtkgpkphacjjlgaaQ23
import Derived.Test.YtkgpkphacjjlgaaQ6
import Derived.Test.YtkgpkphacjjlgaaQ2
import Derived.Test.YtkgpkphacjjlgaaQ9
import Derived.Test.YtkgpkphacjjlgaaQ11
import Derived.Test.YtkgpkphacjjlgaaQ20
import Derived.Test.YtkgpkphacjjlgaaQ8
import Derived.Deep.RegionHeld3
import Derived.WalkLawsBesides
import Derived.BigQuiet
import Derived.Deep.QuietTactic
namespace Go.Proofs.Ytkgpkphacjjlgaa
open Go.RowKit

def insK (s : ByteArray) : List ByteArray → List ByteArray
  | [] => [s]
  | r :: t => if key s < key r then s :: r :: t else if key r < key s then r :: insK s t else r :: t
theorem insK_mem (s x : ByteArray) : ∀ l, x ∈ insK s l ↔ x = s ∨ x ∈ l
  | [] => by simp [insK]
  | r :: t => by
    unfold insK
    by_cases h1 : key s < key r
    · rw [if_pos h1]; simp
    · rw [if_neg h1]
      by_cases h2 : key r < key s
      · rw [if_pos h2, List.mem_cons, insK_mem s x t, List.mem_cons]
        constructor
        · rintro (h | h | h)
          · exact Or.inr (Or.inl h)
          · exact Or.inl h
          · exact Or.inr (Or.inr h)
        · rintro (h | h | h)
          · exact Or.inr (Or.inl h)
          · exact Or.inl h
          · exact Or.inr (Or.inr h)
      · rw [if_neg h2]
        have e : s = r := by
          by_cases hk : key s = key r
          · exact key_inj hk
          · rcases lt_or hk with h | h
            · exact absurd h h1
            · exact absurd h h2
        subst e
        simp
theorem insK_pw (s : ByteArray) : ∀ l : List ByteArray, l.Pairwise (fun a b => key a < key b) → (insK s l).Pairwise (fun a b => key a < key b)
  | [], _ => by simp [insK]
  | r :: t, h => by
    obtain ⟨h1, h2⟩ := List.pairwise_cons.1 h
    unfold insK
    by_cases e1 : key s < key r
    · rw [if_pos e1]
      refine List.pairwise_cons.2 ⟨fun y hy => ?_, h⟩
      rcases List.mem_cons.1 hy with e | e
      · subst e; exact e1
      · exact lt_tr e1 (h1 y e)
    · rw [if_neg e1]
      by_cases e2 : key r < key s
      · rw [if_pos e2]
        refine List.pairwise_cons.2 ⟨fun y hy => ?_, insK_pw s t h2⟩
        rcases (insK_mem s y t).1 hy with e | e
        · subst e; exact e2
        · exact h1 y e
      · rw [if_neg e2]; exact h
theorem insK_len (s : ByteArray) : ∀ l : List ByteArray, (insK s l).length ≤ l.length + 1
  | [] => by simp [insK]
  | r :: t => by
    unfold insK
    by_cases e1 : key s < key r
    · rw [if_pos e1]; simp
    · rw [if_neg e1]
      by_cases e2 : key r < key s
      · rw [if_pos e2]; have := insK_len s t; simp; omega
      · rw [if_neg e2]; simp
def sortK : List ByteArray → List ByteArray
  | [] => []
  | s :: l => insK s (sortK l)
theorem sortK_of : ∀ ps, SortedOf ps (sortK ps)
  | [] => SortedOf.nil
  | s :: l => by
    obtain ⟨h1, h2⟩ := sortK_of l
    exact ⟨insK_pw s _ h1, fun x => by rw [sortK, insK_mem, h2 x, List.mem_cons]⟩
theorem sortK_len : ∀ ps, (sortK ps).length ≤ ps.length
  | [] => Nat.le_refl _
  | s :: l => by have := sortK_len l; have := insK_len s (sortK l); rw [sortK, List.length_cons]; omega
end Go.Proofs.Ytkgpkphacjjlgaa
namespace Go.Proofs.Ytkgpkphacjjlgaa
open Go.RowKit

set_option maxRecDepth 100000 in
set_option maxHeartbeats 400000 in
theorem eqStrs_empty (a b : Option Addr) (c d : Nat) (w : World) :
    Calls Try.prog 48 #[.slice a 0 c, .slice b 0 d] w fun e w' => e = .returned (.bool true) ∧ ∃ n, w' = w.drewN n := by
  go_enter Try.func48, Try.ntmps48
  go_wp2
  refine wp_loop_rounds 1 ?_
  rw [rounds_succ]
  go_wp2
  go_ret
  exact ⟨rfl, 0, rfl⟩

set_option maxRecDepth 100000 in
set_option maxHeartbeats 800000 in
theorem eqStrs_some (b o c b' o' c' : Nat) (ps qs : List ByteArray) (w : World) (hl : ps.length ≤ 9223372036854775807)
    (h1 : ∀ i p, ps[i]? = some p → w.cell? ⟨b, o + i, none⟩ = some (.string p)) (h2 : ∀ i p, qs[i]? = some p → w.cell? ⟨b', o' + i, none⟩ = some (.string p))
    (h : ps.map (·.data.toList) = qs.map (·.data.toList)) :
    Calls Try.prog 48 #[.slice (some ⟨b, o, none⟩) ps.length c, .slice (some ⟨b', o', none⟩) qs.length c'] w fun e w' => e = .returned (.bool true) ∧ ∃ n, w' = w.drewN n := by
  have hlq : qs.length = ps.length := by have := congrArg List.length h; simpa using this.symm
  have H1 := Lib.hid h1; clear h1
  have H2 := Lib.hid h2; clear h2
  have HH := Lib.hid h; clear h
  rw [hlq]
  have HLQ := Lib.hid hlq; clear hlq
  obtain ⟨n, hn⟩ : ∃ n, n = ps.length := ⟨_, rfl⟩
  rw [← hn] at hl ⊢
  have HN := Lib.hid hn; clear hn
  go_enter Try.func48, Try.ntmps48
  go_wp2
  go_loopw [5] (fun i wr => ∃ k q : Nat, k ≤ n ∧ i = .int .i64 k ∧ wr = w.drewN q) (fun i _ => n - (intOf i).toNat)
  case atStart => exact ⟨0, 0, Nat.zero_le _, rfl, rfl⟩
  case round =>
    obtain ⟨k, q, hk, rfl, rfl⟩ := hrel
    by_cases hlt : k < n
    · obtain ⟨x, hx⟩ : ∃ x, ps[k]? = some x := ⟨_, List.getElem?_eq_getElem (by have := HN.out; omega)⟩
      obtain ⟨y, hy⟩ : ∃ y, qs[k]? = some y := ⟨_, List.getElem?_eq_getElem (by have := HN.out; have := HLQ.out; omega)⟩
      have hc1 := H1.out k x hx
      have hc2 := H2.out k y hy
      have hxy : (x.toList == y.toList) = true := by
        have e := congrArg (·[k]?) HH.out
        simp only [List.getElem?_map, hx, hy, Option.map_some, Option.some.injEq] at e
        rw [ByteArray.toList_eq, ByteArray.toList_eq, e]; simp
      clear hx hy
      go_wp2
      go_quiet (fail)
      go_wp2
      go_roundw
      case rel => exact ⟨k + 1, _, by omega, by go_num, rfl⟩
      case measure => simp [intOf]; omega
    · go_wp2
      go_ret
      exact ⟨rfl, q, rfl⟩

/-- Two slices of the same strings are found equal. -/
theorem eqStrs_any (v u : Value) (ps qs : List ByteArray) (w : World) (hl : ps.length ≤ 9223372036854775807) (h1 : StrsAt w v ps) (h2 : StrsAt w u qs)
    (h : ps.map (·.data.toList) = qs.map (·.data.toList)) :
    Calls Try.prog 48 #[v, u] w fun e w' => e = .returned (.bool true) ∧ ∃ n, w' = w.drewN n := by
  have hlq : qs.length = ps.length := by have := congrArg List.length h; simpa using this.symm
  obtain ⟨a, c, rfl, h1⟩ := h1
  obtain ⟨a', c', rfl, h2⟩ := h2
  rcases h1 with rfl | ⟨b, o, rfl, h1⟩
  · have hq : qs = [] := List.eq_nil_of_length_eq_zero (by simpa using hlq)
    subst hq
    exact eqStrs_empty _ _ _ _ w
  · rcases h2 with rfl | ⟨b', o', rfl, h2⟩
    · have hp : ps = [] := List.eq_nil_of_length_eq_zero (by simpa using hlq.symm)
      subst hp
      exact eqStrs_empty _ _ _ _ w
    · exact eqStrs_some b o c b' o' c' ps qs w hl h1 h2 h
end Go.Proofs.Ytkgpkphacjjlgaa
namespace Go.Proofs.Ytkgpkphacjjlgaa
open Go.RowKit

/-- What the count says. -/
def SzEnd (left : Int) (ps : List ByteArray) (w : World) (e : Ending) (w' : World) : Prop :=
  ∃ r : Int, e = .returned (.int .i64 r) ∧ w' = w ∧ -1 ≤ r ∧ (0 ≤ r → (ps.length : Int) + total ps ≤ left ∧ r ≤ left)

set_option maxRecDepth 100000 in
set_option maxHeartbeats 400000 in
theorem sz_empty (left : Int) (a : Option Addr) (cap : Nat) (w : World) (h0 : 0 ≤ left) (h1 : left ≤ 1048576) :
    Calls Try.prog 46 #[.slice a 0 cap, .int .i64 left] w (SzEnd left [] w) := by
  have hd : decide (left < 0) = false := by simp; omega
  go_enter Try.func46, Try.ntmps46
  go_wp2
  refine wp_loop_rounds 1 ?_
  rw [rounds_succ]
  go_wp2
  go_ret
  exact ⟨left, rfl, rfl, by omega, fun _ => ⟨by simpa [total] using h0, Int.le_refl _⟩⟩

set_option maxRecDepth 100000 in
set_option maxHeartbeats 400000 in
theorem sz_some (left : Int) (b o cap : Nat) (ps : List ByteArray) (w : World) (h0 : 0 ≤ left) (h1 : left ≤ 1048576) (hl : ps.length ≤ 9223372036854775807) (hs : ∀ p ∈ ps, p.size ≤ 9223372036854775807)
    (hc : ∀ i p, ps[i]? = some p → w.cell? ⟨b, o + i, none⟩ = some (.string p)) :
    Calls Try.prog 46 #[.slice (some ⟨b, o, none⟩) ps.length cap, .int .i64 left] w (SzEnd left ps w) := by
  have HC := Lib.hid hc; clear hc
  have HS := Lib.hid hs; clear hs
  obtain ⟨n, hn⟩ : ∃ n, n = ps.length := ⟨_, rfl⟩
  rw [← hn] at hl ⊢
  have HN := Lib.hid hn; clear hn
  by_cases hbig : left < n
  · have hd : decide (left - (n : Int) < 0) = true := by simp; omega
    go_enter Try.func46, Try.ntmps46
    go_wp2
    go_ret
    exact ⟨-1, rfl, rfl, by omega, fun h => by omega⟩
  · have hd : decide (left - (n : Int) < 0) = false := by simp; omega
    go_enter Try.func46, Try.ntmps46
    go_wp2
    go_loop [1, 5] (fun q i => ∃ (k : Nat) (x : Int), k ≤ n ∧ i = .int .i64 k ∧ q = .int .i64 x ∧ 0 ≤ x ∧ x ≤ left ∧ x = left - (n : Int) - total (ps.take k)) (fun _ i => n - (intOf i).toNat)
    case atStart => exact ⟨0, left - n, Nat.zero_le _, rfl, rfl, by omega, by omega, by simp [total]⟩
    case round =>
      obtain ⟨k, x, hk, rfl, rfl, hx0, hx1, hx⟩ := hrel
      have HX := Lib.hid hx; clear hx
      by_cases hlt : k < n
      · obtain ⟨p, hp⟩ : ∃ p, ps[k]? = some p := ⟨_, List.getElem?_eq_getElem (by have := HN.out; omega)⟩
        have hcell := HC.out k p hp
        have hps := HS.out p (List.mem_of_getElem? hp)
        have HT := Lib.hid (take_next ps k p hp); clear hp
        by_cases hneg : x - (p.size : Int) < 0
        · go_wp2
          go_ret
          exact ⟨-1, rfl, rfl, by omega, fun h => by omega⟩
        · go_wp2
          go_round
          case rel => exact ⟨k + 1, x - p.size, by omega, by go_num, rfl, by omega, by omega, by rw [HT.out, total_snoc]; have := HX.out; omega⟩
          case measure => simp [intOf]; omega
      · have hkn : k = n := by omega
        go_wp2
        go_ret
        refine ⟨x, rfl, rfl, by omega, fun _ => ?_⟩
        have h2 := HX.out
        rw [hkn, HN.out, List.take_length] at h2
        omega

theorem sz_any (left : Int) (v : Value) (ps : List ByteArray) (w : World) (h0 : 0 ≤ left) (h1 : left ≤ 1048576) (hl : ps.length ≤ 9223372036854775807) (hs : ∀ p ∈ ps, p.size ≤ 9223372036854775807) (hv : StrsAt w v ps) :
    Calls Try.prog 46 #[v, .int .i64 left] w (SzEnd left ps w) := by
  obtain ⟨a, cap, rfl, hv⟩ := hv
  rcases hv with rfl | ⟨b, o, rfl, hv⟩
  · exact sz_empty left a cap w h0 h1
  · exact sz_some left b o cap ps w h0 h1 hl hs hv

/-- A copy of the strings, in a slice of the call's own. -/
def CopyEnd (ps : List ByteArray) (w : World) (e : Ending) (w' : World) : Prop :=
  ∃ v, e = .returned v ∧ w'.ownsRow w.heap.size 9 1 v ps.length (ps.map Value.string) ∧ Below w.heap.size w w'

theorem copy_set (ps : List ByteArray) (ys : List Value) (k : Nat) (p : ByteArray) (hp : ps[k]? = some p) (hy : k < ys.length) :
    ((ps.take k).map Value.string ++ ys.drop k).set k (.string p) = (ps.take (k + 1)).map Value.string ++ ys.drop (k + 1) := by
  have hk : k < ps.length := (List.getElem?_eq_some_iff.1 hp).1
  have hl : ((ps.take k).map Value.string).length = k := by simp; omega
  rw [List.set_append_right _ _ (by omega), hl, Nat.sub_self, take_next ps k p hp, List.drop_eq_getElem_cons hy, List.set_cons_zero, List.map_append, List.append_assoc]
  rfl

set_option maxRecDepth 100000 in
set_option maxHeartbeats 400000 in
theorem copy_empty (a : Option Addr) (cap : Nat) (w : World) :
    Calls Try.prog 47 #[.slice a 0 cap] w (CopyEnd [] w) := by
  obtain ⟨i0, hi, hz0, hz1, hz2⟩ := info_parts infoStr'
  have HI := Lib.hid hi; clear hi
  have HZ0 := Lib.hid hz0; clear hz0
  have HZ1 := Lib.hid hz1; clear hz1
  have HZ2 := Lib.hid hz2; clear hz2
  go_enter Try.func47, Try.ntmps47
  go_wp2_with (first | (at_make; refine wpList_make_full _ rfl (.tmp 6) (.tmp 6) 36 rfl w.heap.size 9 i0 (.string ByteArray.empty) 1 Try.underlying36 HI.out HZ0.out HZ1.out _ _ _ _ 0 rfl rfl rfl rfl ?m1 ?m2 ?m3 ?_))
  case m1 => simp
  case m2 => decide
  case m3 => exact Nat.le_refl _
  intro w1 hown hgrow
  have hb : Below w.heap.size w w1 := (Below.refl _ _).grown hgrow (Nat.le_refl _) (fun k hk => by cases hk)
  have HO := Lib.hid hown; clear hown hgrow
  go_wp2
  refine wp_loop_rounds 1 ?_
  rw [rounds_succ]
  go_wp2
  go_ret
  exact ⟨_, rfl, by simpa [madeCells] using HO.out, hb⟩

set_option maxRecDepth 100000 in
set_option maxHeartbeats 800000 in
theorem copy_some (b o cap : Nat) (ps : List ByteArray) (w : World) (hl : ps.length ≤ 1048576)
    (hc : ∀ i p, ps[i]? = some p → w.cell? ⟨b, o + i, none⟩ = some (.string p)) :
    Calls Try.prog 47 #[.slice (some ⟨b, o, none⟩) ps.length cap] w (CopyEnd ps w) := by
  obtain ⟨i0, hi, hz0, hz1, hz2⟩ := info_parts infoStr'
  have HI := Lib.hid hi; clear hi
  have HZ0 := Lib.hid hz0; clear hz0
  have HZ1 := Lib.hid hz1; clear hz1
  have HZ2 := Lib.hid hz2; clear hz2
  have HC := Lib.hid hc; clear hc
  obtain ⟨n, hn⟩ : ∃ n, n = ps.length := ⟨_, rfl⟩
  rw [← hn] at hl ⊢
  have HN := Lib.hid hn; clear hn
  go_enter Try.func47, Try.ntmps47
  go_wp2_with (first | (at_make; refine wpList_make_full _ rfl (.tmp 6) (.tmp 6) 36 rfl w.heap.size 9 i0 (.string ByteArray.empty) 1 Try.underlying36 HI.out HZ0.out HZ1.out _ _ _ _ n rfl rfl rfl rfl ?m1 ?m2 ?m3 ?_))
  case m1 => rw [HZ2.out]; omega
  case m2 => unfold maxLen; omega
  case m3 => exact Nat.le_refl _
  intro w1 hown hgrow
  have hb : Below w.heap.size w w1 := (Below.refl _ _).grown hgrow (Nat.le_refl _) (fun k hk => by cases hk)
  obtain ⟨ys, hys⟩ : ∃ ys, ys = (madeCells #[Value.string ByteArray.empty] n).toList := ⟨_, rfl⟩
  rw [← hys] at hown
  clear hys
  have hyl : ys.length = n := by simpa using hown.1
  have HYL := Lib.hid hyl; clear hyl
  have HO := Lib.hid hown; clear hown hgrow
  have HB := Lib.hid hb; clear hb
  go_wp2
  go_loopw [4] (fun i wr => ∃ k : Nat, k ≤ n ∧ i = .int .i64 k ∧ wr.ownsRow w.heap.size 9 1 (.slice (some ⟨w.heap.size, 0, none⟩) n n) n ((ps.take k).map Value.string ++ ys.drop k) ∧ Below w.heap.size w wr) (fun i _ => n - (intOf i).toNat)
  case atStart => exact ⟨0, Nat.zero_le _, rfl, by simpa using HO.out, HB.out⟩
  case round =>
    obtain ⟨k, hk, rfl, ho, hb⟩ := hrel
    have HO1 := Lib.hid ho; clear ho
    have HB1 := Lib.hid hb; clear hb
    by_cases hlt : k < n
    · obtain ⟨p, hp⟩ : ∃ p, ps[k]? = some p := ⟨_, List.getElem?_eq_getElem (by have := HN.out; omega)⟩
      have hc0 := HC.out k p hp
      have hcell : wr.cell? ⟨b, o + k, none⟩ = some (.string p) := by rw [HB1.out.cell (World.block_lt_of_cell? w _ hc0)]; exact hc0
      clear hc0
      obtain ⟨u, hu⟩ : ∃ u, ((ps.take k).map Value.string ++ ys.drop k)[k]? = some u := ⟨_, List.getElem?_eq_getElem (by simp; have := HYL.out; have := HN.out; omega)⟩
      have hold : wr.cell? ⟨w.heap.size, k, none⟩ = some u := by rw [HO1.out.cellAt k (by omega), hu]
      have hfrz : wr.frozen? ⟨w.heap.size, k, none⟩ = false := HO1.out.frozenAt k
      have hst := HO1.out.stored k (.string p)
      rw [copy_set ps ys k p hp (by have := HYL.out; omega)] at hst
      have HS := Lib.hid hst.1; clear hst hu hp
      go_wp2
      go_roundw
      case rel => exact ⟨k + 1, by omega, by go_num, HS.out, HB1.out.setCell (Nat.le_refl _) _⟩
      case measure => simp [intOf]; omega
    · have hkn : k = n := by omega
      go_wp2
      go_ret
      refine ⟨_, rfl, ?_, HB1.out⟩
      have h2 := HO1.out
      rw [hkn, List.drop_eq_nil_of_le (by have := HYL.out; omega), List.append_nil, HN.out, List.take_length] at h2
      rw [HN.out]
      exact h2

theorem copy_any (v : Value) (ps : List ByteArray) (w : World) (hl : ps.length ≤ 1048576) (hv : StrsAt w v ps) :
    Calls Try.prog 47 #[v] w (CopyEnd ps w) := by
  obtain ⟨a, cap, rfl, hv⟩ := hv
  rcases hv with rfl | ⟨b, o, rfl, hv⟩
  · exact copy_empty a cap w
  · exact copy_some b o cap ps w hl hv
end Go.Proofs.Ytkgpkphacjjlgaa
namespace Go.Proofs.Ytkgpkphacjjlgaa
open Go.RowKit

/-- The marks k, k + 1, .., n of them. -/
def marks (k n : Nat) : List ByteArray := (List.range n).map fun i => mark (k + i)
theorem marks_length (k n : Nat) : (marks k n).length = n := by simp [marks]
theorem marks_succ (k n : Nat) : marks k (n + 1) = marks k n ++ [mark (k + n)] := by simp [marks, List.range_succ]
theorem marks_at (k n i : Nat) (h : i < n) : (marks k n)[i]? = some (mark (k + i)) := by simp [marks, h]

theorem marks_set (k j : Nat) (xs : List Value) (h : j < xs.length) : ((marks k j).map Value.string ++ xs.drop j).set j (.string (mark (k + j))) = (marks k (j + 1)).map Value.string ++ xs.drop (j + 1) := by
  have hl : ((marks k j).map Value.string).length = j := by simp [marks_length]
  rw [List.set_append_right _ _ (by omega), hl, Nat.sub_self, marks_succ, List.drop_eq_getElem_cons h, List.set_cons_zero, List.map_append, List.append_assoc]
  rfl

def MarksEnd (B : Nat) (v : Value) (k n : Nat) (w : World) (e : Ending) (w' : World) : Prop :=
  e = .returned (.int .i64 ((k : Int) + n)) ∧ w'.ownsRow B 9 1 v n ((marks k n).map Value.string) ∧ w.grownBy w' v.ownBlock

set_option maxRecDepth 100000 in
set_option maxHeartbeats 400000 in
theorem marks_some (B g n cap k : Nat) (xs : List Value) (w : World) (hk : 1 ≤ k) (hkn : (k : Int) + n ≤ 9223372036854775807)
    (hown : w.ownsRow B 9 1 (.slice (some ⟨g, 0, none⟩) n cap) n xs) :
    Calls Try.prog 49 #[.slice (some ⟨g, 0, none⟩) n cap, .int .i64 k] w (MarksEnd B (.slice (some ⟨g, 0, none⟩) n cap) k n w) := by
  have HO := Lib.hid hown; clear hown
  go_enter Try.func49, Try.ntmps49
  go_wp2
  go_loopw [1, 5] (fun q i wr => ∃ j : Nat, j ≤ n ∧ i = .int .i64 j ∧ q = .int .i64 ((k : Int) + j) ∧ wr.ownsRow B 9 1 (.slice (some ⟨g, 0, none⟩) n cap) n ((marks k j).map Value.string ++ xs.drop j) ∧ w.grownBy wr (some g)) (fun _ i _ => n - (intOf i).toNat)
  case atStart => exact ⟨0, Nat.zero_le _, rfl, by simp, by simpa [marks] using HO.out, grown_refl _ _⟩
  case round =>
    obtain ⟨j, hj, rfl, rfl, ho, hg⟩ := hrel
    have HG := Lib.hid hg; clear hg
    have HO1 := Lib.hid ho; clear ho
    by_cases hlt : j < n
    · have hxl : xs.length = n := by simpa using HO.out.1
      have HXL := Lib.hid hxl; clear hxl
      go_wp2_with fail
      refine (markText_int _ (k + j) _ (by omega) (by omega) (by omega)).mono ?_
      rintro e w1 ⟨rfl, hb⟩
      have ho2 := HO1.out.kept (Below.toGrown hb none) (Or.inr (by simp [Value.ownBlock]))
      obtain ⟨u, hu⟩ : ∃ u, ((marks k j).map Value.string ++ xs.drop j)[j]? = some u := ⟨_, List.getElem?_eq_getElem (by simp [marks_length]; have := HXL.out; omega)⟩
      have hcell : w1.cell? ⟨g, j, none⟩ = some u := by rw [ho2.cellAt j (by omega), hu]
      have hfrz : w1.frozen? ⟨g, j, none⟩ = false := ho2.frozenAt j
      have hst := ho2.stored j (.string (mark (k + j)))
      rw [marks_set k j xs (by have := HXL.out; omega)] at hst
      have HS := Lib.hid hst; clear hst ho2 hu
      have HB := Lib.hid hb; clear hb
      go_wp2
      go_roundw
      case rel => exact ⟨j + 1, by omega, by go_num, by go_num, HS.out.1, grown_trans (grown_trans HG.out (Below.toGrown HB.out _)) HS.out.2⟩
      case measure => simp [intOf]; omega
    · have hje : j = n := by omega
      subst hje
      go_wp2
      go_ret
      refine ⟨rfl, ?_, HG.out⟩
      have h1 := HO1.out
      rw [List.drop_eq_nil_of_le (by have := HO.out.1; omega), List.append_nil] at h1
      exact h1

set_option maxRecDepth 100000 in
set_option maxHeartbeats 400000 in
theorem marks_none (B cap k : Nat) (a : Option Addr) (w : World) (hown : w.ownsRow B 9 1 (.slice a 0 cap) 0 []) :
    Calls Try.prog 49 #[.slice a 0 cap, .int .i64 k] w (MarksEnd B (.slice a 0 cap) k 0 w) := by
  have HO := Lib.hid hown; clear hown
  go_enter Try.func49, Try.ntmps49
  go_wp2
  refine wp_loop_rounds 1 ?_
  rw [rounds_succ]
  go_wp2
  go_ret
  exact ⟨by simp, HO.out, grown_refl _ _⟩

/-- laws.markStringS, at a slice of the call's own. -/
theorem marks_any (B n k : Nat) (v : Value) (xs : List Value) (w : World) (hk : 1 ≤ k) (hkn : (k : Int) + n ≤ 9223372036854775807) (hown : w.ownsRow B 9 1 v n xs) :
    Calls Try.prog 49 #[v, .int .i64 k] w (MarksEnd B v k n w) := by
  rcases hown.2 with ⟨rfl, rfl⟩ | ⟨g, cap, cur, rfl, _⟩
  · have hx : xs = [] := List.eq_nil_of_length_eq_zero (by simpa using hown.1)
    subst hx
    exact marks_none B 0 k none w hown
  · exact marks_some B g n cap k xs w hk hkn hown

def HeldEnd (k n : Nat) (w : World) (e : Ending) (w' : World) : Prop := e = .returned (.int .i64 ((k : Int) + n)) ∧ Below w.heap.size w w'

end Go.Proofs.Ytkgpkphacjjlgaa
namespace Go.Proofs.Ytkgpkphacjjlgaa
open Go.RowKit

theorem StrsAt.sliceK {w : World} {u : Value} {ps : List ByteArray} (h : StrsAt w u ps) : ∃ a cap, u = .slice a ps.length cap := by
  obtain ⟨a, cap, e, _⟩ := h; exact ⟨a, cap, e⟩
theorem StrsAt.same {w w' : World} {v : Value} {ps : List ByteArray} (h : StrsAt w v ps) (hs : Same 0 w.heap.size w w') : StrsAt w' v ps := by
  obtain ⟨a, cap, rfl, h⟩ := h
  refine ⟨a, cap, rfl, ?_⟩
  rcases h with h | ⟨b, o, rfl, h⟩
  · exact Or.inl h
  · refine Or.inr ⟨b, o, rfl, fun i p hp => ?_⟩
    have hv := h i p hp
    have hl := World.block_lt_of_cell? w _ hv
    unfold World.cell? at *
    rw [hs _ (Nat.zero_le _) hl]; exact hv
theorem StrsAt.kept {w : World} {v : Value} {ps : List ByteArray} (h : StrsAt w v ps) : Kept 0 w.heap.size (fun w' => StrsAt w' v ps) w := ⟨Nat.le_refl _, fun _ hs => h.same hs⟩

/-- A list of strings in a row of its own. -/
def StrsObj (lo hi : Nat) (v : Value) (b : List ByteArray) (w : World) : Prop := w.ownsRow lo 9 1 v b.length (b.map Value.string) ∧ ∀ g, v.ownBlock = some g → lo ≤ g ∧ g < hi
theorem StrsObj.kept {lo : Nat} {v : Value} {b : List ByteArray} {w : World} (h : w.ownsRow lo 9 1 v b.length (b.map Value.string)) : Kept lo w.heap.size (StrsObj lo w.heap.size v b) w :=
  ⟨Nat.le_refl _, fun _ hs => ⟨keep_at h (fun k hk => hs k (h.lt k hk).1 (h.lt k hk).2), fun g hg => h.lt g hg⟩⟩

theorem eqStrs_same (v u : Value) (ps : List ByteArray) (w : World) (hl : ps.length ≤ 9223372036854775807) (h1 : StrsAt w v ps) (h2 : StrsAt w u ps) :
    Calls Try.prog 48 #[v, u] w (fun e w' => e = .returned (.bool true) ∧ Below w.heap.size w w') :=
  (eqStrs_any v u ps ps w hl h1 h2 rfl).mono fun _ _ ⟨h, n, hn⟩ => ⟨h, by rw [hn]; exact below_q w n⟩
theorem markSS_any (v : Value) (b : List ByteArray) (lo hi k : Nat) (w : World) (h : StrsObj lo hi v b w) (hk : 1 ≤ k) (_ : hi ≤ w.heap.size) (hkn : (k : Int) + b.length ≤ 9223372036854775807) :
    Calls Try.prog 49 #[v, .int .i64 k] w (fun e w' => e = .returned (.int .i64 ((k + b.length : Nat) : Int)) ∧ Out lo hi w w') :=
  (marks_any lo b.length k v _ w hk hkn h.1).mono fun _ _ ⟨he, _, hg⟩ => ⟨by rw [he, Int.natCast_add], ⟨hg.os, hg.tape, hg.output, hg.size, fun i hi2 ho => hg.block i hi2 (fun e => by have := h.2 i e.symm; omega)⟩⟩
end Go.Proofs.Ytkgpkphacjjlgaa
namespace Go.Proofs.Ytkgpkphacjjlgaa
open Go.RowKit

/-- What the count says. -/
def TSz (m : Nat) (left : Int) (w : World) (e : Ending) (w' : World) : Prop :=
  ∃ r : Int, e = .returned (.int .i64 r) ∧ Below w.heap.size w w' ∧ -1 ≤ r ∧ (0 ≤ r → r + m ≤ left)

def SzSAt (lo h : Nat) : Prop := ∀ (u : Value) (ts : List T) (left : Int) (w : World), ArgsAt w lo h u ts → 0 ≤ left → left ≤ 1048576 →
  Calls Try.prog 69 #[u, .int .i64 left] w (TSz (ts.length + wS ts) left w)

set_option maxRecDepth 100000 in
set_option maxHeartbeats 800000 in
theorem szT_of {lo h : Nat} (hS : SzSAt lo h) (k n : Int) (s : ByteArray) (u : Value) (xs : List T) (left : Int) (w : World) (hs : s.size ≤ maxLen) (ha : ArgsAt w lo h u xs) (h0 : 0 ≤ left) (h1 : left ≤ 1048576) :
    Calls Try.prog 26 #[tv k n s u, .int .i64 left] w (TSz (wT (.node k n s xs)) left w) := by
  have hs2 : s.size ≤ 9223372036854775807 := by unfold maxLen at hs; omega
  have hb0 : Below w.heap.size w (w.alloc (.cells #[.int .i64 k, .int .i64 n, .string s, u] 45)) := (Below.refl _ _).alloc (Nat.le_refl _) _
  have HA := Lib.hid (ha.below hb0); clear ha hs
  have HB0 := Lib.hid hb0; clear hb0
  have HW := Lib.hid (wT_node k n s xs)
  by_cases hneg : left - (s.size : Int) < 0
  · go_enter Try.func26, Try.ntmps26
    go_wp2
    go_ret
    exact ⟨-1, rfl, HB0.out, by omega, fun h => by omega⟩
  · go_enter Try.func26, Try.ntmps26
    go_wp2_with fail
    refine (hS u xs (left - (s.size : Int)) _ HA.out (by omega) (by omega)).mono ?_
    rintro e w1 ⟨r, rfl, hb1, hr1, hr2⟩
    have HR := Lib.hid hr2; clear hr2
    have HB1 := Lib.hid (HB0.out.trans (hb1.mono HB0.out.size)); clear hb1
    by_cases hr : r < 0
    · go_wp2
      go_ret
      exact ⟨-1, rfl, HB1.out, by omega, fun h => by omega⟩
    · go_wp2
      go_ret
      refine ⟨r, rfl, HB1.out, by omega, fun h => ?_⟩
      have h2 := HR.out (by omega)
      rw [HW.out]
      omega

set_option maxRecDepth 100000 in
set_option maxHeartbeats 400000 in
theorem szS_empty (left : Int) (a : Option Addr) (cap : Nat) (w : World) (h0 : 0 ≤ left) (h1 : left ≤ 1048576) :
    Calls Try.prog 69 #[.slice a 0 cap, .int .i64 left] w (TSz 0 left w) := by
  have hd : decide (left < 0) = false := by simp; omega
  go_enter Try.func69, Try.ntmps69
  go_wp2
  refine wp_loop_rounds 1 ?_
  rw [rounds_succ]
  go_wp2
  go_ret
  exact ⟨left, rfl, Below.refl _ _, by omega, fun _ => by omega⟩

set_option maxRecDepth 100000 in
set_option maxHeartbeats 1600000 in
theorem szS_some {lo h : Nat} (hS : SzSAt lo h) (b o cap : Nat) (ts : List T) (left : Int) (w : World) (h0 : 0 ≤ left) (h1 : left ≤ 1048576) (hl : ts.length ≤ maxLen)
    (hc : RowAt w lo h b o ts) :
    Calls Try.prog 69 #[.slice (some ⟨b, o, none⟩) ts.length cap, .int .i64 left] w (TSz (ts.length + wS ts) left w) := by
  have HC := Lib.hid hc; clear hc
  have HSS := Lib.hid hS; clear hS
  obtain ⟨n, hn⟩ : ∃ n, n = ts.length := ⟨_, rfl⟩
  have hl2 : ts.length ≤ 9223372036854775807 := by unfold maxLen at hl; omega
  clear hl
  rw [← hn] at hl2 ⊢
  have HN := Lib.hid hn; clear hn
  by_cases hbig : left < n
  · have hd : decide (left - (n : Int) < 0) = true := by simp; omega
    go_enter Try.func69, Try.ntmps69
    go_wp2
    go_ret
    exact ⟨-1, rfl, Below.refl _ _, by omega, fun h => by omega⟩
  · have hd : decide (left - (n : Int) < 0) = false := by simp; omega
    go_enter Try.func69, Try.ntmps69
    go_wp2
    go_loopw [1, 5] (fun q i wr => ∃ (k : Nat) (x : Int), k ≤ n ∧ i = .int .i64 k ∧ q = .int .i64 x ∧ 0 ≤ x ∧ x ≤ left ∧ Hid (x + n + wS (ts.take k) ≤ left) ∧ Below w.heap.size w wr) (fun _ i _ => n - (intOf i).toNat)
    case atStart => exact ⟨0, left - n, Nat.zero_le _, rfl, rfl, by omega, by omega, Lib.hid (by simp [wS]), Below.refl _ _⟩
    case round =>
      obtain ⟨k, x, hk, rfl, rfl, hx0, hx1, HX, hb⟩ := hrel
      have HB := Lib.hid hb; clear hb
      by_cases hlt : k < n
      · obtain ⟨t, ht⟩ : ∃ t, ts[k]? = some t := ⟨_, List.getElem?_eq_getElem (by have := HN.out; omega)⟩
        obtain ⟨tk', tn, tsn, txs⟩ := t
        obtain ⟨hsz, u', c0, c1, c2, c3, har⟩ := HC.out k _ _ _ _ ht
        have keep : ∀ {ad : Addr} {v : Value}, w.cell? ad = some v → wr.cell? ad = some v := fun {ad} {v} hv => by rw [HB.out.cell (World.block_lt_of_cell? w _ hv)]; exact hv
        have d0 := keep c0
        have d1 := keep c1
        have d2 := keep c2
        have d3 := keep c3
        clear c0 c1 c2 c3 keep
        have HAR := Lib.hid (har.below HB.out); clear har
        have HT := Lib.hid (tk ts k _ ht)
        have HSZ := Lib.hid hsz; clear hsz ht
        go_wp2_with fail
        refine (szT_of HSS.out tk' tn tsn u' txs x _ HSZ.out HAR.out hx0 (by omega)).mono ?_
        rintro e w1 ⟨r, rfl, hb1, hr1, hr2⟩
        have HR := Lib.hid hr2; clear hr2
        have HB1 := Lib.hid (HB.out.trans (hb1.mono HB.out.size)); clear hb1
        by_cases hr : r < 0
        · go_wp2
          go_ret
          exact ⟨-1, rfl, HB1.out, by omega, fun h => by omega⟩
        · have hx := HR.out (by omega)
          have HX2 : Hid (r + n + wS (ts.take (k + 1)) ≤ left) := Lib.hid (by rw [HT.out, wS_snoc]; have := HX.out; omega)
          clear hx
          have hrl : r ≤ left := by have := HX2.out; omega
          go_wp2
          go_roundw
          case rel => exact ⟨k + 1, r, by omega, by go_num, rfl, by omega, hrl, HX2, HB1.out⟩
          case measure => simp [intOf]; omega
      · have hkn : k = n := by omega
        have HD : Hid (x + n + wS ts ≤ left) := Lib.hid (by
          have h2 := HX.out
          rw [hkn, HN.out, List.take_length] at h2
          have := HN.out; omega)
        clear hkn
        go_wp2
        go_ret
        exact ⟨x, rfl, HB.out, by omega, fun _ => by have := HD.out; omega⟩

theorem szS_any (lo : Nat) : ∀ h, SzSAt lo h
  | 0 => fun u ts left w ha h0 h1 => by
    obtain ⟨rfl, a, cap, rfl⟩ := ha
    have := szS_empty left a cap w h0 h1
    simpa [wS] using this
  | h + 1 => fun u ts left w ha h0 h1 => by
    rcases ha.cases with ⟨rfl, a, cap, rfl⟩ | ⟨h', b, o, cap, e, rfl, hl, _, hc⟩
    · have := szS_empty left a cap w h0 h1
      simpa [wS] using this
    · obtain rfl : h = h' := by omega
      exact szS_some (szS_any lo h) b o cap ts left w h0 h1 hl hc

theorem szT_any (v : Value) (t : T) (lo h : Nat) (left : Int) (w : World) (ht : TermAt w lo h v t) (h0 : 0 ≤ left) (h1 : left ≤ 1048576) :
    Calls Try.prog 26 #[v, .int .i64 left] w (TSz (wT t) left w) := by
  obtain ⟨k, n, s, u, xs, rfl, rfl, hs, ha⟩ := ht
  exact szT_of (szS_any lo h) k n s u xs left w hs ha h0 h1
end Go.Proofs.Ytkgpkphacjjlgaa
namespace Go.Proofs.Ytkgpkphacjjlgaa
open Go.RowKit

set_option maxRecDepth 100000 in
set_option maxHeartbeats 800000 in
theorem szBind_any {lo h : Nat} (p : ByteArray) (k n : Int) (s : ByteArray) (u : Value) (xs : List T) (left : Int) (w : World) (hp : p.size ≤ maxLen) (hs : s.size ≤ maxLen) (ha : ArgsAt w lo h u xs) (h0 : 0 ≤ left) (h1 : left ≤ 1048576) :
    Calls Try.prog 81 #[bv p k n s u, .int .i64 left] w (TSz (p.size + wT (.node k n s xs)) left w) := by
  have hp2 : p.size ≤ 9223372036854775807 := by unfold maxLen at hp; omega
  have hb0 : Below w.heap.size w (w.alloc (.cells #[.string p, .int .i64 k, .int .i64 n, .string s, u] 126)) := (Below.refl _ _).alloc (Nat.le_refl _) _
  have HA : Hid (TermAt (w.alloc (.cells #[.string p, .int .i64 k, .int .i64 n, .string s, u] 126)) lo h (tv k n s u) (.node k n s xs)) := Lib.hid ⟨_, _, _, _, xs, rfl, rfl, hs, ha.below hb0⟩
  clear ha hs
  have HB0 := Lib.hid hb0; clear hb0
  obtain ⟨tw, htw⟩ : ∃ tw, tw = wT (.node k n s xs) := ⟨_, rfl⟩
  have HC := Lib.hid (fun (l : Int) (a : 0 ≤ l) (b : l ≤ 1048576) => szT_any _ (.node k n s xs) lo h l _ HA.out a b)
  rw [← htw] at HC ⊢
  clear htw hp
  by_cases hneg : left - (p.size : Int) < 0
  · go_enter Try.func81, Try.ntmps81
    go_wp2
    go_ret
    exact ⟨-1, rfl, HB0.out, by omega, fun h => by omega⟩
  · go_enter Try.func81, Try.ntmps81
    go_wp2_with fail
    refine (HC.out (left - (p.size : Int)) (by omega) (by omega)).mono ?_
    rintro e w1 ⟨r, rfl, hb1, hr1, hr2⟩
    have HR := Lib.hid hr2; clear hr2
    have HB1 := Lib.hid (HB0.out.trans (hb1.mono HB0.out.size)); clear hb1
    by_cases hr : r < 0
    · go_wp2
      go_ret
      exact ⟨-1, rfl, HB1.out, by omega, fun h => by omega⟩
    · go_wp2
      go_ret
      refine ⟨r, rfl, HB1.out, by omega, fun h => ?_⟩
      have h2 := HR.out (by omega)
      omega

set_option maxRecDepth 100000 in
set_option maxHeartbeats 1600000 in
theorem szBs_any (u : Value) (bs : List (ByteArray × T)) (lo h : Nat) (left : Int) (w : World) (hu : BsAt w lo h u bs) (h0 : 0 ≤ left) (h1 : left ≤ 1048576) :
    Calls Try.prog 36 #[u, .int .i64 left] w (TSz (wBs bs) left w) := by
  have hl := hu.len
  have HC := Lib.hid hu
  obtain ⟨a, cap, rfl⟩ := hu.slice
  clear hu
  obtain ⟨n, hn⟩ : ∃ n, n = bs.length := ⟨_, rfl⟩
  have hl2 : bs.length ≤ 9223372036854775807 := by unfold maxLen at hl; omega
  clear hl
  rw [← hn] at hl2 HC ⊢
  have HN := Lib.hid hn; clear hn
  by_cases hbig : left < n
  · have hd : decide (left - (n : Int) < 0) = true := by simp; omega
    go_enter Try.func36, Try.ntmps36
    go_wp2
    go_ret
    exact ⟨-1, rfl, Below.refl _ _, by omega, fun h => by omega⟩
  · have hd : decide (left - (n : Int) < 0) = false := by simp; omega
    go_enter Try.func36, Try.ntmps36
    go_wp2
    go_loopw [1, 5] (fun q i wr => ∃ (k : Nat) (x : Int), k ≤ n ∧ i = .int .i64 k ∧ q = .int .i64 x ∧ 0 ≤ x ∧ x ≤ left ∧ Hid (x + n + wBs (bs.take k) ≤ left + k) ∧ Below w.heap.size w wr) (fun _ i _ => n - (intOf i).toNat)
    case atStart => exact ⟨0, left - n, Nat.zero_le _, rfl, rfl, by omega, by omega, Lib.hid (by simp [wBs]), Below.refl _ _⟩
    case round =>
      obtain ⟨k, x, hk, rfl, rfl, hx0, hx1, HX, hb⟩ := hrel
      have HB := Lib.hid hb; clear hb
      by_cases hlt : k < n
      · obtain ⟨y, ht⟩ : ∃ y, bs[k]? = some y := ⟨_, List.getElem?_eq_getElem (by have := HN.out; omega)⟩
        obtain ⟨b, o, c', p, tk', tn, tsn, txs, u', e, rfl, _, hps, hsz, c0, c1, c2, c3, c4, har⟩ := HC.out.at ht
        obtain ⟨rfl, -, rfl⟩ : a = some ⟨b, o, none⟩ ∧ n = bs.length ∧ cap = c' := by simpa using e
        have d0 := cell_on HB.out c0
        have d1 := cell_on HB.out c1
        have d2 := cell_on HB.out c2
        have d3 := cell_on HB.out c3
        have d4 := cell_on HB.out c4
        clear c0 c1 c2 c3 c4 e
        have HAR := Lib.hid (har.below HB.out); clear har
        have HT := Lib.hid (tk bs k _ ht)
        have HSZ := Lib.hid (And.intro hps hsz); clear hsz hps ht
        go_wp2_with fail
        refine (szBind_any p tk' tn tsn u' txs x _ HSZ.out.1 HSZ.out.2 HAR.out hx0 (by omega)).mono ?_
        rintro e w1 ⟨r, rfl, hb1, hr1, hr2⟩
        have HR := Lib.hid hr2; clear hr2
        have HB1 := Lib.hid (HB.out.trans (hb1.mono HB.out.size)); clear hb1
        by_cases hr : r < 0
        · go_wp2
          go_ret
          exact ⟨-1, rfl, HB1.out, by omega, fun h => by omega⟩
        · have hx := HR.out (by omega)
          have HX2 : Hid (r + n + wBs (bs.take (k + 1)) ≤ left + (k + 1 : Nat)) := Lib.hid (by rw [HT.out, wBs_snoc]; have := HX.out; simp only; omega)
          have hrl : r ≤ left := by have h1 := HX2.out; have h2 := wBs_len (bs.take (k + 1)); rw [List.length_take] at h2; have h3 := HN.out; omega
          clear hx
          go_wp2
          go_roundw
          case rel => exact ⟨k + 1, r, by omega, by go_num, rfl, by omega, hrl, HX2, HB1.out⟩
          case measure => simp [intOf]; omega
      · have hkn : k = n := by omega
        have HD : Hid (x + wBs bs ≤ left) := Lib.hid (by
          have h2 := HX.out
          rw [hkn, HN.out, List.take_length] at h2
          omega)
        clear hkn
        go_wp2
        go_ret
        exact ⟨x, rfl, HB.out, by omega, fun _ => by have := HD.out; omega⟩
end Go.Proofs.Ytkgpkphacjjlgaa
namespace Go.Proofs.Ytkgpkphacjjlgaa
open Go.RowKit

set_option maxRecDepth 100000 in
set_option maxHeartbeats 800000 in
theorem eqBind_any {lo lo' h : Nat} (p : ByteArray) (k n : Int) (s : ByteArray) (u u' : Value) (xs : List T) (w : World) (hs : s.size ≤ maxLen) (ha : ArgsAt w lo h u xs) (ha' : ArgsAt w lo' h u' xs) :
    Calls Try.prog 83 #[bv p k n s u, bv p k n s u'] w (TrueB w) := by
  have hb0 : Below w.heap.size w ((w.alloc (.cells #[.string p, .int .i64 k, .int .i64 n, .string s, u] 87)).alloc (.cells #[.string p, .int .i64 k, .int .i64 n, .string s, u'] 87)) := ((Below.refl _ _).alloc (Nat.le_refl _) _).alloc (by simp) _
  have hc := eqT_any (tv k n s u) (tv k n s u') (.node k n s xs) lo lo' h _ ⟨_, _, _, _, xs, rfl, rfl, hs, ha.below hb0⟩ ⟨_, _, _, _, xs, rfl, rfl, hs, ha'.below hb0⟩
  have HC := Lib.hid hc; clear hc ha ha'
  have HB0 := Lib.hid hb0; clear hb0
  have e3 : (p.toList == p.toList) = true := by simp
  go_enter Try.func83, Try.ntmps83
  go_wp2_with fail
  refine HC.out.mono ?_
  rintro e w1 ⟨rfl, hb1⟩
  have HB1 := Lib.hid (HB0.out.trans (hb1.mono HB0.out.size)); clear hb1
  go_wp2
  go_ret
  exact ⟨rfl, HB1.out⟩

set_option maxRecDepth 100000 in
set_option maxHeartbeats 1600000 in
theorem eqBs_any (u v : Value) (bs : List (ByteArray × T)) (lo lo' h : Nat) (w : World) (hl : bs.length ≤ 9223372036854775807) (hu : BsAt w lo h u bs) (hv : BsAt w lo' h v bs) :
    Calls Try.prog 40 #[u, v] w (TrueB w) := by
  have HC := Lib.hid hu
  have HC' := Lib.hid hv
  obtain ⟨a, cap, rfl⟩ := hu.slice
  obtain ⟨a', cap', rfl⟩ := hv.slice
  clear hu hv
  obtain ⟨n, hn⟩ : ∃ n, n = bs.length := ⟨_, rfl⟩
  rw [← hn] at hl HC HC' ⊢
  have HN := Lib.hid hn; clear hn
  go_enter Try.func40, Try.ntmps40
  go_wp2
  go_loopw [5] (fun i wr => ∃ k : Nat, k ≤ n ∧ i = .int .i64 k ∧ Hid (Below w.heap.size w wr)) (fun i _ => n - (intOf i).toNat)
  case atStart => exact ⟨0, Nat.zero_le _, rfl, Lib.hid (Below.refl _ _)⟩
  case round =>
    obtain ⟨k, hk, rfl, HB⟩ := hrel
    by_cases hlt : k < n
    · obtain ⟨y, ht⟩ : ∃ y, bs[k]? = some y := ⟨_, List.getElem?_eq_getElem (by have := HN.out; omega)⟩
      obtain ⟨b, o, c', p, tk', tn, tsn, txs, u1, e, rfl, _, _, hsz, c0, c1, c2, c3, c4, har⟩ := HC.out.at ht
      obtain ⟨b2, o2, c2', _, _, _, _, _, u2, e', e2, _, _, _, d0, d1, d2, d3, d4, har'⟩ := HC'.out.at ht
      cases e2
      obtain ⟨rfl, -, rfl⟩ : a = some ⟨b, o, none⟩ ∧ n = bs.length ∧ cap = c' := by simpa using e
      obtain ⟨rfl, -, rfl⟩ : a' = some ⟨b2, o2, none⟩ ∧ n = bs.length ∧ cap' = c2' := by simpa using e'
      have HK : Hid (∀ w', Below wr.heap.size wr w' → (w'.cell? ⟨b, o + k * 5, none⟩ = some (.string p) ∧ w'.cell? ⟨b, o + k * 5 + 1, none⟩ = some (.int .i64 tk') ∧ w'.cell? ⟨b, o + k * 5 + 2, none⟩ = some (.int .i64 tn) ∧ w'.cell? ⟨b, o + k * 5 + 3, none⟩ = some (.string tsn) ∧ w'.cell? ⟨b, o + k * 5 + 4, none⟩ = some u1 ∧
          w'.cell? ⟨b2, o2 + k * 5, none⟩ = some (.string p) ∧ w'.cell? ⟨b2, o2 + k * 5 + 1, none⟩ = some (.int .i64 tk') ∧ w'.cell? ⟨b2, o2 + k * 5 + 2, none⟩ = some (.int .i64 tn) ∧ w'.cell? ⟨b2, o2 + k * 5 + 3, none⟩ = some (.string tsn) ∧ w'.cell? ⟨b2, o2 + k * 5 + 4, none⟩ = some u2 ∧ Below wr.heap.size wr w')) := Lib.hid (fun w' hb => by
        have hq := HB.out.trans (hb.mono HB.out.size)
        exact ⟨cell_on hq c0, cell_on hq c1, cell_on hq c2, cell_on hq c3, cell_on hq c4, cell_on hq d0, cell_on hq d1, cell_on hq d2, cell_on hq d3, cell_on hq d4, hb⟩)
      have HCALL : Hid (∀ w', Below wr.heap.size wr w' → Calls Try.prog 83 #[bv p tk' tn tsn u1, bv p tk' tn tsn u2] w' (TrueB w')) := Lib.hid (fun w' hb => by
        have hq := HB.out.trans (hb.mono HB.out.size)
        exact eqBind_any p tk' tn tsn u1 u2 txs w' hsz (har.below hq) (har'.below hq))
      clear c0 c1 c2 c3 c4 d0 d1 d2 d3 d4 e e' ht har har' hsz
      obtain ⟨c0, c1, c2, c3, c4, d0, d1, d2, d3, d4, hb0⟩ := HK.out _ (Below.refl _ _)
      go_wp2
      go_region_held3 (fun w' => w'.cell? ⟨b, o + k * 5, none⟩ = some (.string p) ∧ w'.cell? ⟨b, o + k * 5 + 1, none⟩ = some (.int .i64 tk') ∧ w'.cell? ⟨b, o + k * 5 + 2, none⟩ = some (.int .i64 tn) ∧ w'.cell? ⟨b, o + k * 5 + 3, none⟩ = some (.string tsn) ∧ w'.cell? ⟨b, o + k * 5 + 4, none⟩ = some u1 ∧
          w'.cell? ⟨b2, o2 + k * 5, none⟩ = some (.string p) ∧ w'.cell? ⟨b2, o2 + k * 5 + 1, none⟩ = some (.int .i64 tk') ∧ w'.cell? ⟨b2, o2 + k * 5 + 2, none⟩ = some (.int .i64 tn) ∧ w'.cell? ⟨b2, o2 + k * 5 + 3, none⟩ = some (.string tsn) ∧ w'.cell? ⟨b2, o2 + k * 5 + 4, none⟩ = some u2 ∧ Below wr.heap.size wr w')
        (first | exact HK.out _ (by assumption) | exact HK.out _ (bel_drew (by assumption)) | exact HK.out _ (Below.drew (by assumption)) | exact HK.out _ (Below.trans (by assumption) (Below.mono (by assumption) (Below.size (by assumption)))) | go_keep)
        (first | (go_at_call 83; refine (HCALL.out _ (by first | assumption | exact Below.drew (by assumption))).mono ?_; rintro e w1 ⟨rfl, hb1⟩))
      have HB2 := Lib.hid (HB.out.trans ((bel_drew hb1).mono HB.out.size)); clear hb1
      go_wp2
      go_roundw
      case rel => exact ⟨k + 1, by omega, by go_num, HB2⟩
      case measure => simp [intOf]; omega
    · go_wp2
      go_ret
      exact ⟨rfl, HB.out⟩
theorem eqBs_two (u v : Value) (bs : List (ByteArray × T)) (lo lo' h h' : Nat) (w : World) (hl : bs.length ≤ 9223372036854775807) (hu : BsAt w lo h u bs) (hv : BsAt w lo' h' v bs) :
    Calls Try.prog 40 #[u, v] w (TrueB w) :=
  eqBs_any u v bs lo lo' (max h h') w hl (hu.two hv).1 (hu.two hv).2
end Go.Proofs.Ytkgpkphacjjlgaa
namespace Go.Proofs.Ytkgpkphacjjlgaa
open Go.RowKit

/-- A list of Binds over which the marks from k on were written. -/
def mkBs (k : Nat) : List (ByteArray × T) → List (ByteArray × T)
  | [] => []
  | x :: r => (mark k, mkT (k + 1) x.2) :: mkBs (k + (1 + 3 * cT x.2)) r
theorem mkBs_length (k : Nat) (bs : List (ByteArray × T)) : (mkBs k bs).length = bs.length := by
  induction bs generalizing k with
  | nil => rfl
  | cons x r ih => rw [mkBs, List.length_cons, List.length_cons, ih]
theorem mkBs_at (bs : List (ByteArray × T)) (k i : Nat) (x : ByteArray × T) (h : bs[i]? = some x) : (mkBs k bs)[i]? = some (mark (k + mBs (bs.take i)), mkT (k + mBs (bs.take i) + 1) x.2) := by
  induction bs generalizing k i with
  | nil => simp at h
  | cons y r ih =>
    rw [mkBs]
    cases i with
    | zero => simp at h; subst h; simp [mBs]
    | succ i =>
      simp at h
      rw [List.getElem?_cons_succ, ih _ i h, List.take_succ_cons]
      have : mBs (y :: r.take i) = (1 + 3 * cT y.2) + mBs (r.take i) := by simp [mBs]
      rw [this, Nat.add_assoc]

/-- The mark of cell q of a Bind. -/
def mvB (c : Nat) : Nat → Value
  | 0 => .string (mark c)
  | 1 => .int .i64 ((c : Int) + 1)
  | 2 => .int .i64 ((c : Int) + 1 + 1)
  | _ => .string (mark (c + 3))

/-- How far the marks of a row have come: all before element j, and q cells of it. -/
def MRowB (h g m cap k j q : Nat) (bs : List (ByteArray × T)) (U : Nat → Value) (L R : Nat → Nat) (w : World) : Prop :=
  ∃ xs, w.ownsRow g 87 5 (.slice (some ⟨g, 0, none⟩) m cap) m xs ∧ (∀ i p kk nn s txs, j ≤ i → bs[i]? = some (p, T.node kk nn s txs) → xs[i * 5 + 4]? = some (U i) ∧ OwnA w h (L i) (R i) (U i) txs) ∧
    (∀ i p kk nn s txs, i < j → bs[i]? = some (p, T.node kk nn s txs) → (∀ c, c < 4 → xs[i * 5 + c]? = some (mvB (k + mBs (bs.take i)) c)) ∧ xs[i * 5 + 4]? = some (U i) ∧ ArgsP (In (L i) (R i)) w h (U i) (mkS (k + mBs (bs.take i) + 4) txs)) ∧
    ∀ p, p < q → xs[j * 5 + p]? = some (mvB (k + mBs (bs.take j)) p)

theorem MRowB.cells {h g m cap k j p : Nat} {bs : List (ByteArray × T)} {U : Nat → Value} {L R : Nat → Nat} {w : World} (c : MRowB h g m cap k j p bs U L R w) {i : Nat} (hi : i < m) (q : Nat) (hq : q < 5) :
    (∃ v, w.cell? ⟨g, i * 5 + q, none⟩ = some v) ∧ w.frozen? ⟨g, i * 5 + q, none⟩ = false := by
  obtain ⟨xs, ho, _⟩ := c
  have hl := ho.1
  refine ⟨?_, ho.frozenAt _⟩
  rw [ho.cellAt (i * 5 + q) (by omega)]
  exact ⟨_, List.getElem?_eq_getElem (by omega)⟩
theorem MRowB.args {h g m cap k j p : Nat} {bs : List (ByteArray × T)} {U : Nat → Value} {L R : Nat → Nat} {w : World} (c : MRowB h g m cap k j p bs U L R w) {p : ByteArray} {kk nn : Int} {s : ByteArray} {txs : List T} (hj : j < m) (ht : bs[j]? = some (p, T.node kk nn s txs)) :
    w.cell? ⟨g, j * 5 + 4, none⟩ = some (U j) ∧ OwnA w h (L j) (R j) (U j) txs := by
  obtain ⟨xs, ho, hx, _⟩ := c
  obtain ⟨h1, h2⟩ := hx j p kk nn s txs (Nat.le_refl _) ht
  exact ⟨by rw [ho.cellAt (j * 5 + 4) (by omega)]; exact h1, h2⟩
/-- The next cell of element j. -/
theorem MRowB.store {h g m cap k j q : Nat} {bs : List (ByteArray × T)} {U : Nat → Value} {L R : Nat → Nat} {w : World} (c : MRowB h g m cap k j q bs U L R w) (hg : ∀ i, g < L i ∨ R i ≤ g) (hq : q < 4) (hj : j < m) {v : Value} (hv : v = mvB (k + mBs (bs.take j)) q) :
    MRowB h g m cap k j (q + 1) bs U L R (w.setCell ⟨g, j * 5 + q, none⟩ v) := by
  obtain ⟨xs, ho, hx, hd, hp⟩ := c
  have hl := ho.1
  have hs : ∀ b, b ≠ g → (w.setCell ⟨g, j * 5 + q, none⟩ v).heap[b]? = w.heap[b]? := fun b hb => Below.heap_setCell _ _ _ _ (fun e => hb (by simpa using e))
  refine ⟨_, (ho.stored (j * 5 + q) v).1, fun i pp kk nn s txs hi ht => ?_, fun i pp kk nn s txs hi ht => ?_, fun p hp' => ?_⟩
  · obtain ⟨h1, h2⟩ := hx i pp kk nn s txs hi ht
    refine ⟨by rw [List.getElem?_set_ne (by omega)]; exact h1, h2.keep fun b b1 b2 => hs b (by have := hg i; omega)⟩
  · obtain ⟨h0, h1, h2⟩ := hd i pp kk nn s txs hi ht
    refine ⟨fun p hp => by rw [List.getElem?_set_ne (by omega)]; exact h0 p hp, by rw [List.getElem?_set_ne (by omega)]; exact h1, h2.keepB fun b hb _ => hs b (by have := hg i; have := hb.1; have := hb.2; omega)⟩
  · by_cases hpq : p = q
    · subst hpq
      rw [List.getElem?_set_self (by omega), hv]
    · rw [List.getElem?_set_ne (by omega)]
      exact hp p (by omega)
theorem MRowB.below {h g m cap k j q : Nat} {bs : List (ByteArray × T)} {U : Nat → Value} {L R : Nat → Nat} {w w' : World} (c : MRowB h g m cap k j q bs U L R w) (hb : Below w.heap.size w w') (hR : ∀ i, R i ≤ w.heap.size) : MRowB h g m cap k j q bs U L R w' := by
  obtain ⟨xs, ho, hx, hd, hp⟩ := c
  refine ⟨xs, keep_own ho hb, fun i pp kk nn s txs hi ht => ?_, fun i pp kk nn s txs hi ht => ?_, hp⟩
  · obtain ⟨h1, h2⟩ := hx i pp kk nn s txs hi ht
    exact ⟨h1, h2.keep fun b b1 b2 => hb.block b (by have := hR i; omega)⟩
  · obtain ⟨h0, h1, h2⟩ := hd i pp kk nn s txs hi ht
    exact ⟨h0, h1, h2.keepB fun b _ hlt => hb.block b hlt⟩
/-- The child's marks. -/
theorem MRowB.child {h g m cap k j : Nat} {bs : List (ByteArray × T)} {U : Nat → Value} {L R : Nat → Nat} {w w' : World} (c : MRowB h g m cap k j 4 bs U L R w) (ho : Out (L j) (R j) w w') (hg : ∀ i, g < L i ∨ R i ≤ g) (hgs : g < w.heap.size) (hR : ∀ i, R i ≤ w.heap.size)
    (hd : ∀ i i', i < i' → i' < bs.length → R i ≤ L i' ∨ R i' ≤ L i) {p : ByteArray} {kk nn : Int} {s : ByteArray} {txs : List T} (ht : bs[j]? = some (p, T.node kk nn s txs)) (hm : ArgsP (In (L j) (R j)) w' h (U j) (mkS (k + mBs (bs.take j) + 4) txs)) :
    MRowB h g m cap k (j + 1) 0 bs U L R w' := by
  obtain ⟨xs, hr, hx, hdn, hp⟩ := c
  have hjl := (List.getElem?_eq_some_iff.1 ht).1
  refine ⟨xs, row_keep hr (ho.2.2.2.2 g hgs (by have := hg j; omega)), fun i pp' kk' nn' s' txs' hi ht' => ?_, fun i pp' kk' nn' s' txs' hi ht' => ?_, fun p hp => by omega⟩
  · obtain ⟨h1, h2⟩ := hx i pp' kk' nn' s' txs' (by omega) ht'
    refine ⟨h1, h2.keep fun b b1 b2 => ho.2.2.2.2 b (by have := hR i; omega) ?_⟩
    have := hd j i (by omega) (List.getElem?_eq_some_iff.1 ht').1
    omega
  · by_cases hij : i = j
    · subst hij
      rw [ht] at ht'
      cases ht'
      exact ⟨hp, (hx i p kk nn s txs (Nat.le_refl _) ht).1, hm⟩
    · obtain ⟨h0, h1, h2⟩ := hdn i pp' kk' nn' s' txs' (by omega) ht'
      refine ⟨h0, h1, h2.keepB fun b hb hlt => ho.2.2.2.2 b hlt ?_⟩
      have := hd i j (by omega) hjl
      have := hb.1; have := hb.2
      omega
theorem MRowB.done {h g m cap k : Nat} {bs : List (ByteArray × T)} {U : Nat → Value} {L R : Nat → Nat} {w : World} (c : MRowB h g m cap k m 0 bs U L R w) (hm : m = bs.length) (hl : m ≤ maxLen) (hk : k + mBs bs ≤ 2305843009213693952) :
    BsAt w 0 h (.slice (some ⟨g, 0, none⟩) m cap) (mkBs k bs) := by
  obtain ⟨xs, ho, _, hd, _⟩ := c
  refine ⟨_, cap, by rw [mkBs_length, hm], by rw [mkBs_length]; omega, Or.inr ⟨g, 0, rfl, Nat.zero_le _, fun i p a b s' txs' hi' => ?_⟩⟩
  have hil : i < bs.length := by have := (List.getElem?_eq_some_iff.1 hi').1; rwa [mkBs_length] at this
  obtain ⟨x, ht⟩ : ∃ x, bs[i]? = some x := ⟨_, List.getElem?_eq_getElem hil⟩
  obtain ⟨pp, kk, nn, s, txs⟩ := x
  rw [mkBs_at bs k i _ ht, mkT_node] at hi'
  simp only [Option.some.injEq, Prod.mk.injEq, T.node.injEq] at hi'
  obtain ⟨rfl, rfl, rfl, rfl, rfl⟩ := hi'
  obtain ⟨h0, h3, h4⟩ := hd i pp kk nn s txs (by omega) ht
  have hct := mBs_take bs (i + 1)
  rw [tk bs i _ ht, mBs_snoc] at hct
  refine ⟨mark_size _ (by omega), mark_size _ (by simp only [cT_node] at hct; omega), U i, ?_, ?_, ?_, ?_, ?_, h4.args (fun _ _ => Nat.zero_le _)⟩
  · rw [Nat.zero_add, ho.cellAt (i * 5) (by omega)]; exact h0 0 (by omega)
  · rw [Nat.zero_add, ho.cellAt (i * 5 + 1) (by omega), h0 1 (by omega)]; simp [mvB]
  · rw [Nat.zero_add, ho.cellAt (i * 5 + 2) (by omega), h0 2 (by omega)]; simp [mvB]
  · rw [Nat.zero_add, ho.cellAt (i * 5 + 3) (by omega), h0 3 (by omega)]; simp [mvB]
  · rw [Nat.zero_add, ho.cellAt (i * 5 + 4) (by omega)]; exact h3

def MarkBsE (lo hi k h : Nat) (u : Value) (bs : List (ByteArray × T)) (w : World) (e : Ending) (w' : World) : Prop := MarkOut lo hi (k + mBs bs) w e w' ∧ BsAt w' 0 h u (mkBs k bs)

set_option maxRecDepth 100000 in
set_option maxHeartbeats 400000 in
theorem markBs_empty (lo hi k h : Nat) (a : Option Addr) (cap : Nat) (w : World) :
    Calls Try.prog 41 #[.slice a 0 cap, .int .i64 k] w (MarkBsE lo hi k h (.slice a 0 cap) [] w) := by
  go_enter Try.func41, Try.ntmps41
  go_wp2
  refine wp_loop_rounds 1 ?_
  rw [rounds_succ]
  go_wp2
  go_ret
  exact ⟨⟨rfl, Out.refl _ _ _⟩, ⟨_, _, rfl, Nat.zero_le _, Or.inl rfl⟩⟩

set_option maxRecDepth 100000 in
set_option maxHeartbeats 1600000 in
theorem markBs_some {h : Nat} (g cap : Nat) (bs : List (ByteArray × T)) (U : Nat → Value) (L R : Nat → Nat) (lo hi k : Nat) (w : World) (hrel0 : MRowB h g bs.length cap k 0 0 bs U L R w) (h1 : lo ≤ g) (h2 : g < hi) (hhi : hi ≤ w.heap.size)
    (hg : ∀ i, g < L i ∨ R i ≤ g) (hL : ∀ i, lo ≤ L i) (hR : ∀ i, R i ≤ hi) (hd : ∀ i j, i < j → j < bs.length → R i ≤ L j ∨ R j ≤ L i) (hk : 1 ≤ k) (hkc : k + mBs bs ≤ 2305843009213693952) :
    Calls Try.prog 41 #[.slice (some ⟨g, 0, none⟩) bs.length cap, .int .i64 k] w (MarkBsE lo hi k h (.slice (some ⟨g, 0, none⟩) bs.length cap) bs w) := by
  have hl : bs.length ≤ 2305843009213693952 := by have := len_mBs bs; omega
  have HG := Lib.hid hg; clear hg
  have HL := Lib.hid hL; clear hL
  have HRR := Lib.hid hR; clear hR
  have HDD := Lib.hid hd; clear hd
  have HKC := Lib.hid hkc; clear hkc
  obtain ⟨m, hm⟩ : ∃ m, m = bs.length := ⟨_, rfl⟩
  rw [← hm] at hrel0 hl ⊢
  have HM := Lib.hid hm; clear hm
  have HR0 := Lib.hid hrel0; clear hrel0
  go_enter Try.func41, Try.ntmps41
  go_wp2
  go_loopw [1, 5] (fun q i wr => ∃ (j c : Nat), j ≤ m ∧ i = .int .i64 j ∧ q = .int .i64 c ∧ Hid (c = k + mBs (bs.take j)) ∧ Hid (MRowB h g m cap k j 0 bs U L R wr) ∧ Hid (Out lo hi w wr)) (fun _ i _ => m - (intOf i).toNat)
  case atStart => exact ⟨0, k, Nat.zero_le _, rfl, rfl, Lib.hid (by simp [mBs]), HR0, Lib.hid (Out.refl _ _ _)⟩
  case round =>
    obtain ⟨j, c, hj, rfl, rfl, HC, HR, HO⟩ := hrel
    have hcb : c ≤ 2305843009213693952 := by have := HC.out; have := mBs_take bs j; have := HKC.out; omega
    have hc1 : 1 ≤ c := by have := HC.out; omega
    by_cases hlt : j < m
    · obtain ⟨x, ht⟩ : ∃ x, bs[j]? = some x := ⟨_, List.getElem?_eq_getElem (by have := HM.out; omega)⟩
      obtain ⟨p1, tk1, tn1, ts1, txs⟩ := x
      have hct : mBs (bs.take (j + 1)) = mBs (bs.take j) + (1 + 3 * (1 + cS txs)) := by rw [tk bs j _ ht, mBs_snoc, cT_node]
      have hctl := mBs_take bs (j + 1)
      have HCT := Lib.hid hct
      have hcx : c + 4 + 3 * cS txs ≤ 2305843009213693952 := by have := HC.out; have := HKC.out; omega
      have htl2 : txs.length ≤ 2305843009213693952 := by have := len_cS txs; omega
      clear hct hctl
      have hgs : g < wr.heap.size := by have := HO.out.2.2.2.1; omega
      have hRs : Hid (∀ i, R i ≤ wr.heap.size) := Lib.hid (fun i => by have := HRR.out i; have := HO.out.2.2.2.1; omega)
      have HT := Lib.hid ht; clear ht
      go_wp2_with fail
      refine (markText_int _ c _ (by omega) (by omega) (by omega)).mono ?_
      rintro e w0 ⟨rfl, hb0⟩
      have HS0 := Lib.hid (HR.out.below hb0 (fun i => by have := hRs.out i; simpa using this))
      have hw0 : wr.heap.size ≤ w0.heap.size := by have := hb0.size; simpa [World.setCell] using this
      have HO0 := Lib.hid (HO.out.trans (Out.of_below hb0)); clear hb0
      obtain ⟨⟨o0, g0⟩, f0⟩ := HS0.out.cells hlt 0 (by omega)
      obtain ⟨⟨o1, g1⟩, f1⟩ := HS0.out.cells hlt 1 (by omega)
      obtain ⟨⟨o2, g2⟩, f2⟩ := HS0.out.cells hlt 2 (by omega)
      rw [Nat.add_zero] at g0 f0
      have s0 := HS0.out.store (q := 0) HG.out (by omega) hlt (v := .string (mark c)) (by rw [HC.out]; rfl)
      rw [Nat.add_zero] at s0
      have s1 := s0.store (q := 1) HG.out (by omega) hlt (v := .int .i64 ((c : Int) + 1)) (by rw [HC.out]; rfl)
      have s2 := s1.store (q := 2) HG.out (by omega) hlt (v := .int .i64 ((c : Int) + 1 + 1)) (by rw [HC.out]; rfl)
      have HS1 := Lib.hid s2; clear s0 s1 s2
      have HO1 := Lib.hid (HO0.out.trans ((Out.set (lo := lo) (hi := hi) w0 g (j * 5) (.string (mark c)) h1 h2).trans ((Out.set _ g (j * 5 + 1) (.int .i64 ((c : Int) + 1)) h1 h2).trans (Out.set _ g (j * 5 + 2) (.int .i64 ((c : Int) + 1 + 1)) h1 h2))))
      go_wp2_with fail
      refine (markText_int _ (c + 3) _ (by omega) (by omega) (by omega)).mono ?_
      rintro e w1 ⟨rfl, hb1⟩
      have HS2 := Lib.hid (HS1.out.below hb1 (fun i => by have := hRs.out i; simp [World.setCell]; omega))
      have hw1 : w0.heap.size ≤ w1.heap.size := by have := hb1.size; simpa [World.setCell] using this
      have HO2 := Lib.hid (HO1.out.trans (Out.of_below hb1)); clear hb1 g0 g1 g2 f0 f1 f2
      obtain ⟨⟨o3, g3⟩, f3⟩ := HS2.out.cells hlt 3 (by omega)
      have HS3 := Lib.hid (HS2.out.store (q := 3) HG.out (by omega) hlt (v := .string (mark (c + 3))) (by rw [HC.out]; rfl))
      have HO3 := Lib.hid (HO2.out.trans (Out.set (lo := lo) (hi := hi) w1 g (j * 5 + 3) (.string (mark (c + 3))) h1 h2))
      obtain ⟨ca, hoa⟩ := HS3.out.args hlt HT.out
      have hsz : w1.heap.size = (w1.setCell ⟨g, j * 5 + 3, none⟩ (.string (mark (c + 3)))).heap.size := by simp [World.setCell]
      have hcall := markP_any h (U j) txs (L j) (R j) (c + 4) _ hoa (by have := hRs.out j; omega) (by omega) (by omega)
      obtain ⟨ua, uc, hu⟩ := hoa.slice
      rw [hu] at ca hcall
      clear hoa
      have HUE := Lib.hid hu; clear hu
      have HCALL := Lib.hid hcall; clear hcall
      go_wp2_with fail
      have hcast : ((c : Int) + 1 + 1 + 1 + 1) = ((c + 4 : Nat) : Int) := by omega
      rw [hcast]
      refine HCALL.out.mono ?_
      rintro e w2 ⟨⟨rfl, ho2⟩, hp2⟩
      have HR4 := Lib.hid (HS3.out.child ho2 HG.out (by omega) (fun i => by have := hRs.out i; omega) HDD.out HT.out (by rw [HUE.out, ← HC.out]; exact hp2))
      have HO4 := Lib.hid (HO3.out.trans (ho2.wide (HL.out j) (HRR.out j))); clear ho2 hp2
      have HC4 : Hid (c + 4 + 3 * cS txs = k + mBs (bs.take (j + 1))) := Lib.hid (by have := HC.out; have := HCT.out; omega)
      go_wp2
      go_roundw
      case rel => exact ⟨j + 1, c + 4 + 3 * cS txs, by omega, by go_num, rfl, HC4, HR4, HO4⟩
      case measure => simp [intOf]; omega
    · have HD : Hid (c = k + mBs bs) := Lib.hid (by
        have hjm : j = bs.length := by have := HM.out; omega
        rw [HC.out, hjm, List.take_length])
      have hjm : j = m := by omega
      have HF := Lib.hid ((hjm ▸ HR.out).done HM.out (by unfold maxLen; omega) HKC.out)
      go_wp2
      go_ret
      exact ⟨⟨by rw [← HD.out]; rfl, HO.out⟩, HF.out⟩

theorem markBs_any (u : Value) (bs : List (ByteArray × T)) (h lo hi k : Nat) (w : World) (ho : OwnBs w h lo hi u bs) (hhi : hi ≤ w.heap.size) (hk : 1 ≤ k) (hkc : k + mBs bs ≤ 2305843009213693952) :
    Calls Try.prog 41 #[u, .int .i64 k] w (MarkBsE lo hi k h u bs w) := by
  obtain ⟨a, cap, rfl, hc⟩ := ho
  by_cases hn : bs = []
  · subst hn
    exact markBs_empty lo hi k h a cap w
  · obtain ⟨g, xs, U, L, R, rfl, h1, h2, ho, hx, hd⟩ := hc.resolve_left hn
    have hin : ∀ i, i < bs.length → lo ≤ L i ∧ R i ≤ hi ∧ (g < L i ∨ R i ≤ g) := fun i hi' => by
      obtain ⟨t, ht⟩ : ∃ t, bs[i]? = some t := ⟨_, List.getElem?_eq_getElem hi'⟩
      obtain ⟨p, kk, nn, s, txs⟩ := t
      obtain ⟨_, l1, l2, l3, _⟩ := hx i p kk nn s txs ht
      exact ⟨l1, l2, l3⟩
    refine markBs_some g cap bs U (fun i => if i < bs.length then L i else lo) (fun i => if i < bs.length then R i else lo) lo hi k w ⟨xs, ho, fun i p kk nn s txs _ ht => ?_, fun i _ _ _ _ _ hi' => by omega, fun p hp => by omega⟩ h1 h2 hhi ?_ ?_ ?_ ?_ hk hkc
    · have hi' := (List.getElem?_eq_some_iff.1 ht).1
      obtain ⟨x3, _, _, _, hr⟩ := hx i p kk nn s txs ht
      exact ⟨x3, by simpa [hi'] using hr⟩
    · intro i
      by_cases hi' : i < bs.length
      · simpa [hi'] using (hin i hi').2.2
      · simp [hi']; omega
    · intro i
      by_cases hi' : i < bs.length
      · simpa [hi'] using (hin i hi').1
      · simp [hi']
    · intro i
      by_cases hi' : i < bs.length
      · simpa [hi'] using (hin i hi').2.1
      · simp [hi']; omega
    · intro i j hij hj
      have hi' : i < bs.length := by omega
      simpa [hi', hj] using hd i j hij hj
end Go.Proofs.Ytkgpkphacjjlgaa
