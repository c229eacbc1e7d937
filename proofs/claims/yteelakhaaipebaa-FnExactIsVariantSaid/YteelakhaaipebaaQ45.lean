/-
  The ascending list of a list's strings, as a term; what its Binds weigh. No walk.
  spec.MatchTerm, spec.IsInstance and spec.IsVariant.
  impl.MatchTerm, impl.IsInstance and impl.IsVariant.
  laws.szTerm and laws.szTermS count what a term holds.
  What the laws on matching share. No walk.
  The law on IsVariant: its walk.
  A term that came in, as the walks take it. No walk.
-/
import Derived.Test.YteelakhaaipebaaQ24
import Derived.Test.YteelakhaaipebaaQ43
import Derived.Test.YteelakhaaipebaaQ44
import Derived.Test.YteelakhaaipebaaQ40
import Derived.Test.YteelakhaaipebaaQ42
import Derived.Test.YteelakhaaipebaaQ2
import Derived.Test.YteelakhaaipebaaQ9
import Derived.Test.YteelakhaaipebaaQ10
import Derived.Test.YteelakhaaipebaaQ6
import Derived.WalkLawsBesides
import Derived.BigQuiet
import Derived.Deep.QuietTactic
import Derived.Deep.RegionHeld3
import Derived.ProofKit
namespace Go.Proofs.Yteelakhaaipebaa
open Go.RowKit

def insK (s : ByteArray) : List ByteArray → List ByteArray
  | [] => [s]
  | r :: t => if key s < key r then s :: r :: t else if key r < key s then r :: insK s t else r :: t
theorem insK_mem (s x : ByteArray) : ∀ l, x ∈ insK s l ↔ x = s ∨ x ∈ l
  | [] => by simp [insK]
  | r :: t => by
    unfold insK
    by_cases h1 : key s < key r
    · rw [if_pos h1]; simp
    · rw [if_neg h1]
      by_cases h2 : key r < key s
      · rw [if_pos h2, List.mem_cons, insK_mem s x t, List.mem_cons]
        constructor
        · rintro (h | h | h)
          · exact Or.inr (Or.inl h)
          · exact Or.inl h
          · exact Or.inr (Or.inr h)
        · rintro (h | h | h)
          · exact Or.inr (Or.inl h)
          · exact Or.inl h
          · exact Or.inr (Or.inr h)
      · rw [if_neg h2]
        have e : s = r := by
          by_cases hk : key s = key r
          · exact key_inj hk
          · rcases lt_or hk with h | h
            · exact absurd h h1
            · exact absurd h h2
        subst e
        simp
theorem insK_pw (s : ByteArray) : ∀ l : List ByteArray, l.Pairwise (fun a b => key a < key b) → (insK s l).Pairwise (fun a b => key a < key b)
  | [], _ => by simp [insK]
  | r :: t, h => by
    obtain ⟨h1, h2⟩ := List.pairwise_cons.1 h
    unfold insK
    by_cases e1 : key s < key r
    · rw [if_pos e1]
      refine List.pairwise_cons.2 ⟨fun y hy => ?_, h⟩
      rcases List.mem_cons.1 hy with e | e
      · subst e; exact e1
      · exact lt_tr e1 (h1 y e)
    · rw [if_neg e1]
      by_cases e2 : key r < key s
      · rw [if_pos e2]
        refine List.pairwise_cons.2 ⟨fun y hy => ?_, insK_pw s t h2⟩
        rcases (insK_mem s y t).1 hy with e | e
        · subst e; exact e2
        · exact h1 y e
      · rw [if_neg e2]; exact h
theorem insK_len (s : ByteArray) : ∀ l : List ByteArray, (insK s l).length ≤ l.length + 1
  | [] => by simp [insK]
  | r :: t => by
    unfold insK
    by_cases e1 : key s < key r
    · rw [if_pos e1]; simp
    · rw [if_neg e1]
      by_cases e2 : key r < key s
      · rw [if_pos e2]; have := insK_len s t; simp; omega
      · rw [if_neg e2]; simp
def sortK : List ByteArray → List ByteArray
  | [] => []
  | s :: l => insK s (sortK l)
theorem sortK_of : ∀ ps, SortedOf ps (sortK ps)
  | [] => SortedOf.nil
  | s :: l => by
    obtain ⟨h1, h2⟩ := sortK_of l
    exact ⟨insK_pw s _ h1, fun x => by rw [sortK, insK_mem, h2 x, List.mem_cons]⟩
theorem sortK_len : ∀ ps, (sortK ps).length ≤ ps.length
  | [] => Nat.le_refl _
  | s :: l => by have := sortK_len l; have := insK_len s (sortK l); rw [sortK, List.length_cons]; omega
end Go.Proofs.Yteelakhaaipebaa
namespace Go.Proofs.Yteelakhaaipebaa
open Go.RowKit

theorem vT_size : ∀ (t : T) (x : ByteArray), x ∈ vT t → x.size ≤ wT t
  | .node k n s xs, x, h => by
    rw [vT_node] at h
    rw [wT_node]
    rcases List.mem_append.1 h with h | h
    · split at h
      · simp at h; subst h; omega
      · simp at h
    · obtain ⟨l, hl, hx⟩ := List.mem_flatten.1 h
      obtain ⟨y, hy, rfl⟩ := List.mem_map.1 hl
      have h1 := vT_size y x hx
      obtain ⟨i, hi⟩ := List.mem_iff_getElem?.1 hy
      have h2 := wT_at xs i y hi
      omega
/-- The match of a pattern and a term, in the names' order. -/
noncomputable def matchB (p t : T) : Option (List (ByteArray × T)) := (matT p t []).map (fun a => restB a (sortK (vT p)))
theorem sorted_self {ps rs : List ByteArray} (h : SortedOf ps rs) : SortedOf rs rs := ⟨h.1, fun _ => Iff.rfl⟩

/-- A list of Binds to be read, and whether there is one. -/
def ReadBbE (r : Option (List (ByteArray × T))) (w : World) (e : Ending) (w' : World) : Prop := ∃ v H, e = .returned (.tuple #[v, .bool r.isSome]) ∧ BsAt w' w.heap.size H v (r.getD []) ∧ Below w.heap.size w w'

set_option maxRecDepth 100000 in
set_option maxHeartbeats 1600000 in
theorem sMatch_any (v v' : Value) (p t : T) (lo lo2 h h2 : Nat) (w : World) (hp : TermAt w lo h v p) (ht : TermAt w lo2 h2 v' t) (hsum : wT p + wT t ≤ 1048576) :
    Calls Try.prog 35 #[v, v'] w (ReadBbE (matchB p t) w) := by
  obtain ⟨k, n, s, a, m, c, rfl⟩ := hp.shape
  obtain ⟨k', n', s', a', m', c', rfl⟩ := ht.shape
  obtain ⟨W2, hW2⟩ : ∃ W2, W2 = (w.alloc (.cells #[.int .i64 k, .int .i64 n, .string s, .slice a m c] 29)).alloc (.cells #[.int .i64 k', .int .i64 n', .string s', .slice a' m' c'] 29) := ⟨_, rfl⟩
  have hb2 : Below w.heap.size w W2 := by rw [hW2]; exact ((Below.refl _ _).alloc (Nat.le_refl _) _).alloc (by simp) _
  have rA : W2.heap[w.heap.size]? = some (trow k n s (.slice a m c)) := by rw [hW2, Below.heap_alloc _ _ _ (by simp)]; exact heap_new _ _ rfl
  have rB : W2.heap[w.heap.size + 1]? = some (trow k' n' s' (.slice a' m' c')) := by rw [hW2]; exact heap_new _ _ (by simp)
  have hz2 : W2.heap.size = w.heap.size + 2 := by rw [hW2]; simp
  obtain ⟨W3, hW3⟩ : ∃ W3, W3 = W2.alloc (.cells #[] 86) := ⟨_, rfl⟩
  have hb3 : Below W2.heap.size W2 W3 := by rw [hW3]; exact (Below.refl _ _).alloc (Nat.le_refl _) _
  have hg3 : GrowB false h2 W2.heap.size (.slice (some ⟨W2.heap.size, 0, none⟩) 0 0) [] W3 := by rw [hW3]; exact GrowB.lit _ _ _ _ (Nat.le_refl _)
  have HCALL := Lib.hid (l8Match_any 0 h _ _ p t h2 W2.heap.size h2 (.slice (some ⟨W2.heap.size, 0, none⟩) 0 0) [] W2 W3 ((hp.low (Nat.zero_le _)).below hb2) ((ht.low (Nat.zero_le _)).below hb2) (Nat.le_refl _) (by omega) (by omega) (by simp [wBs]; omega) hg3 (Nat.le_refl _) hb3 hb3.size)
  have HB2 := Lib.hid hb2; have HB3 := Lib.hid hb3; have HR := Lib.hid (And.intro rA (And.intro rB hz2))
  have HP := Lib.hid ((hp.low (Nat.zero_le _)).below hb2)
  have HSUM := Lib.hid hsum
  have HSZ : Hid (W2.heap.size = w.heap.size + 2) := Lib.hid hz2
  clear hp ht hb2 hb3 rA rB hz2 hg3 hsum
  go_enter Try.func35, Try.ntmps35
  go_upto_region 1 with fail
  rw [← hW2]
  clear hW2
  obtain ⟨⟨y0, y1, y2, y3⟩, _⟩ := cells_of4 HR.out.1
  obtain ⟨⟨z0, z1, z2, z3⟩, _⟩ := cells_of4 HR.out.2.1
  go_wp2_with fail
  rw [← hW3]
  clear hW3 y0 y1 y2 y3 z0 z1 z2 z3
  refine HCALL.out.mono ?_
  rintro e w5 ⟨ua, um, uc, rfl, hg5, hr5, hsome⟩
  have hb35 : Below W2.heap.size W2 w5 := HB3.out.grown hg5 HB3.out.size (fun i hi => by simp [Value.ownBlock] at hi; omega)
  have HB5 := Lib.hid (bel_two HB2.out hb35)
  have HB25 := Lib.hid hb35
  have HSOME := Lib.hid hsome
  clear hg5 hr5 hb35 hsome HCALL
  cases hm5 : matT p t [] with
  | none =>
    simp only [Option.isSome_none]
    have HF : Hid (ReadBbE (matchB p t) w (.returned (.tuple #[.slice (some ⟨w5.heap.size, 0, none⟩) 0 0, .bool false])) (w5.alloc (.cells #[] 86))) := Lib.hid (by
      unfold matchB
      rw [hm5]
      exact ⟨_, 0, rfl, ⟨_, 0, rfl, Nat.zero_le _, Or.inl rfl⟩, HB5.out.alloc HB5.out.size _⟩)
    clear hm5
    go_wp2
    go_ret2
    exact HF.out
  | some acc =>
    simp only [Option.isSome_some]
    obtain ⟨hum, hga⟩ := HSOME.out acc hm5
    have hwa : wBs acc ≤ 1048577 := by have h := matT_w hm5; have := HSUM.out; simp [wBs] at h ⊢; omega
    have HMB : Hid (matchB p t = some (restB acc (sortK (vT p)))) := Lib.hid (by unfold matchB; rw [hm5]; rfl)
    have HACC := Lib.hid (And.intro hwa (hga.at (by have := wBs_len acc; unfold maxLen; omega)))
    have HUM := Lib.hid hum
    have rA5 := (HB25.out.block _ (by have := HSZ.out; omega)).trans HR.out.1
    obtain ⟨⟨y0, y1, y2, y3⟩, _⟩ := cells_of4 rA5
    have HV := Lib.hid (sVarsOf_any _ p 0 h w5 (HP.out.below HB25.out) (by have := HSUM.out; omega))
    clear hm5 hga hum hwa rA5 HSOME
    go_wp2_with fail
    refine HV.out.mono ?_
    rintro e w6 ⟨vu, rs, rfl, hso, hrl, hro, hb6⟩
    have HF6 := Lib.hid (restS_anyK (.slice ua um uc) vu acc rs rs W2.heap.size h2 w6 HACC.out.1 (HACC.out.2.below hb6) (by have h1 := vT_le p; have h2 := cT_le p; have := HSUM.out; omega) (fun x hx => by have h1 := vT_size p x ((hso.2 x).1 hx); have := HSUM.out; unfold maxLen; omega) (StrsAt.of_owns hro) (sorted_self hso))
    have HRS : Hid (rs = sortK (vT p)) := Lib.hid (hso.unique (sortK_of _))
    have HB6 := Lib.hid (bel_two HB5.out hb6)
    obtain ⟨va, vc, rfl⟩ := own_formR hro
    clear hso hrl hro hb6 y0 y1 y2 y3 HV
    go_wp2_with fail
    refine HF6.out.mono ?_
    rintro e w7 ⟨xv, H7, rfl, hx7, hb7⟩
    have HF : Hid (ReadBbE (matchB p t) w (.returned (.tuple #[xv, .bool true])) w7) := Lib.hid (by
      rw [HMB.out]
      refine ⟨xv, H7, rfl, ?_, bel_two HB6.out hb7⟩
      rw [HRS.out] at hx7
      exact hx7.low (HB6.out.size))
    clear hx7 hb7
    go_wp2
    go_ret2
    exact HF.out

/-- A pattern and a term match. -/
noncomputable def isInst (t p : T) : Bool := (matchB p t).isSome

set_option maxRecDepth 100000 in
set_option maxHeartbeats 800000 in
theorem sInst_any (v v' : Value) (t p : T) (lo lo2 h h2 : Nat) (w : World) (ht : TermAt w lo h v t) (hp : TermAt w lo2 h2 v' p) (hsum : wT p + wT t ≤ 1048576) :
    Calls Try.prog 56 #[v, v'] w (AnsB (isInst t p) w) := by
  obtain ⟨k, n, s, a, m, c, rfl⟩ := ht.shape
  obtain ⟨k', n', s', a', m', c', rfl⟩ := hp.shape
  obtain ⟨W2, hW2⟩ : ∃ W2, W2 = (w.alloc (.cells #[.int .i64 k, .int .i64 n, .string s, .slice a m c] 29)).alloc (.cells #[.int .i64 k', .int .i64 n', .string s', .slice a' m' c'] 29) := ⟨_, rfl⟩
  have hb2 : Below w.heap.size w W2 := by rw [hW2]; exact ((Below.refl _ _).alloc (Nat.le_refl _) _).alloc (by simp) _
  have HCALL := Lib.hid (sMatch_any _ _ p t lo2 lo h2 h W2 (hp.below hb2) (ht.below hb2) hsum)
  have HB2 := Lib.hid hb2
  clear ht hp hb2 hsum
  go_enter Try.func56, Try.ntmps56
  go_wp2_with fail
  rw [← hW2]
  clear hW2
  refine HCALL.out.mono ?_
  rintro e w3 ⟨u, H, rfl, hu, hb3⟩
  have HF : Hid (AnsB (isInst t p) w (.returned (.bool (matchB p t).isSome)) w3) := Lib.hid ⟨rfl, bel_two HB2.out hb3⟩
  clear hu hb3
  go_wp2
  go_ret
  exact HF.out

/-- Each is an instance of the other. -/
noncomputable def isVar2 (a b : T) : Bool := isInst a b && isInst b a

set_option maxRecDepth 100000 in
set_option maxHeartbeats 800000 in
theorem sVariant_any (v v' : Value) (t p : T) (lo lo2 h h2 : Nat) (w : World) (ht : TermAt w lo h v t) (hp : TermAt w lo2 h2 v' p) (hsum : wT t + wT p ≤ 1048576) :
    Calls Try.prog 38 #[v, v'] w (AnsB (isVar2 t p) w) := by
  obtain ⟨k, n, s, a, m, c, rfl⟩ := ht.shape
  obtain ⟨k', n', s', a', m', c', rfl⟩ := hp.shape
  obtain ⟨W2, hW2⟩ : ∃ W2, W2 = (w.alloc (.cells #[.int .i64 k, .int .i64 n, .string s, .slice a m c] 29)).alloc (.cells #[.int .i64 k', .int .i64 n', .string s', .slice a' m' c'] 29) := ⟨_, rfl⟩
  have hb2 : Below w.heap.size w W2 := by rw [hW2]; exact ((Below.refl _ _).alloc (Nat.le_refl _) _).alloc (by simp) _
  have rA : W2.heap[w.heap.size]? = some (trow k n s (.slice a m c)) := by rw [hW2, Below.heap_alloc _ _ _ (by simp)]; exact heap_new _ _ rfl
  have rB : W2.heap[w.heap.size + 1]? = some (trow k' n' s' (.slice a' m' c')) := by rw [hW2]; exact heap_new _ _ (by simp)
  have HC1 := Lib.hid (sInst_any _ _ t p lo lo2 h h2 W2 (ht.below hb2) (hp.below hb2) (by omega))
  have HC2 := Lib.hid (fun w3 (hb : Below W2.heap.size W2 w3) => sInst_any _ _ p t lo2 lo h2 h w3 ((hp.below hb2).below hb) ((ht.below hb2).below hb) hsum)
  have HB2 := Lib.hid hb2
  have HR := Lib.hid (And.intro rA rB)
  obtain ⟨x, hx⟩ : ∃ x, x = isInst t p := ⟨_, rfl⟩
  obtain ⟨y, hy⟩ : ∃ y, y = isInst p t := ⟨_, rfl⟩
  have HXY : Hid (isVar2 t p = (x && y)) := Lib.hid (by rw [hx, hy]; rfl)
  rw [← hx] at HC1
  rw [← hy] at HC2
  clear ht hp hb2 hsum rA rB hx hy
  go_enter Try.func38, Try.ntmps38
  go_wp2_with fail
  rw [← hW2]
  clear hW2
  refine HC1.out.mono ?_
  rintro e w3 ⟨rfl, hb3⟩
  have HB3 := Lib.hid hb3
  have qA := (hb3.block _ (Array.getElem?_eq_some_iff.1 HR.out.1).1).trans HR.out.1
  have qB := (hb3.block _ (Array.getElem?_eq_some_iff.1 HR.out.2).1).trans HR.out.2
  obtain ⟨⟨y0, y1, y2, y3⟩, _⟩ := cells_of4 qA
  obtain ⟨⟨z0, z1, z2, z3⟩, _⟩ := cells_of4 qB
  clear hb3 qA qB
  cases x with
  | false =>
    have HF : Hid (AnsB (isVar2 t p) w (.returned (.bool false)) w3) := Lib.hid ⟨by rw [HXY.out]; rfl, bel_two HB2.out HB3.out⟩
    go_wp2
    go_ret
    exact HF.out
  | true =>
    go_wp2_with fail
    refine (HC2.out w3 HB3.out).mono ?_
    rintro e w4 ⟨rfl, hb4⟩
    have HF : Hid (AnsB (isVar2 t p) w (.returned (.bool y)) w4) := Lib.hid ⟨by rw [HXY.out]; rfl, bel_two HB2.out (bel_two HB3.out hb4)⟩
    clear hb4
    go_wp2
    go_ret
    exact HF.out
end Go.Proofs.Yteelakhaaipebaa
namespace Go.Proofs.Yteelakhaaipebaa
open Go.RowKit Go.Maps Go.WideMaps

theorem restB_eq {a b : List (ByteArray × T)} (h : ∀ nm, findB a nm = findB b nm) (rs : List ByteArray) : restB a rs = restB b rs := by
  unfold restB
  congr 1
  funext nm
  rw [h]
theorem restB_filter (a : List (ByteArray × T)) : ∀ rs : List ByteArray, restB a (rs.filter (fun nm => (findB a nm).isSome)) = restB a rs
  | [] => rfl
  | x :: r => by
    have ih := restB_filter a r
    have e1 : restB a (x :: r) = restB a [x] ++ restB a r := restB_app a [x] r
    cases h : findB a x with
    | none =>
      rw [List.filter_cons_of_neg (by simp [h]), ih, e1]
      simp [restB, h]
    | some t =>
      rw [List.filter_cons_of_pos (by simp [h]), e1]
      have e2 : restB a (x :: r.filter (fun nm => (findB a nm).isSome)) = restB a [x] ++ restB a (r.filter (fun nm => (findB a nm).isSome)) := restB_app a [x] _
      rw [e2, ih]
theorem in_findB {bs : List (ByteArray × T)} {nm : ByteArray} {t : T} (h : findB bs nm = some t) : nm ∈ bs.map Prod.fst := by
  unfold findB at h
  obtain ⟨x, hx, _⟩ := Option.map_eq_some_iff.1 h
  have h1 := List.find?_some hx
  exact List.mem_map.2 ⟨x, List.mem_of_find?_eq_some hx, (same_iff _ _).1 h1⟩
/-- The names of a match, sorted. -/
theorem match_names {p t : T} {acc full : List (ByteArray × T)} (hm : matT p t [] = some acc) (hs : ∀ nm, findB full nm = findB acc nm) :
    SortedOf (full.map Prod.fst) ((sortK (vT p)).filter (fun nm => (findB acc nm).isSome)) := by
  obtain ⟨h1, h2⟩ := sortK_of (vT p)
  refine ⟨h1.sublist List.filter_sublist, fun x => ?_⟩
  rw [List.mem_filter, h2]
  constructor
  · rintro ⟨_, h⟩
    rw [← hs] at h
    obtain ⟨t, ht⟩ := Option.isSome_iff_exists.1 h
    exact in_findB ht
  · intro h
    obtain ⟨t, ht⟩ := findB_in h
    rw [hs] at ht
    have h3 : (findB acc x).isSome = true := by rw [ht]; rfl
    exact ⟨matT_names hm x h3, h3⟩

/-- A list of Binds in memory of the call's own, and whether there is one. -/
def CopyBbE (r : Option (List (ByteArray × T))) (w : World) (e : Ending) (w' : World) : Prop := ∃ v H, e = .returned (.tuple #[v, .bool r.isSome]) ∧ BsObj w.heap.size w'.heap.size H v (r.getD []) w' ∧ Below w.heap.size w w'
theorem CopyBbE.read {r : Option (List (ByteArray × T))} {w : World} {e : Ending} {w' : World} (q : CopyBbE r w e w') : ReadBbE r w e w' := by
  obtain ⟨v, H, e1, h1, h2⟩ := q
  exact ⟨v, H, e1, h1.1, h2⟩

set_option maxRecDepth 100000 in
set_option maxHeartbeats 1600000 in
theorem iMatch_any (v v' : Value) (p t : T) (lo lo2 h h2 : Nat) (w : World) (hp : TermAt w lo h v p) (ht : TermAt w lo2 h2 v' t) (hsum : wT p + wT t ≤ 1048576) :
    Calls Try.prog 34 #[v, v'] w (CopyBbE (matchB p t) w) := by
  obtain ⟨k, n, s, a, m, c, rfl⟩ := hp.shape
  obtain ⟨k', n', s', a', m', c', rfl⟩ := ht.shape
  obtain ⟨W2, hW2⟩ : ∃ W2, W2 = (w.alloc (.cells #[.int .i64 k, .int .i64 n, .string s, .slice a m c] 29)).alloc (.cells #[.int .i64 k', .int .i64 n', .string s', .slice a' m' c'] 29) := ⟨_, rfl⟩
  have hb2 : Below w.heap.size w W2 := by rw [hW2]; exact ((Below.refl _ _).alloc (Nat.le_refl _) _).alloc (by simp) _
  have HCALL := Lib.hid (matcher_any _ _ p t lo lo2 h h2 W2 (hp.below hb2) (ht.below hb2) hsum)
  have HB2 := Lib.hid hb2
  have HSUM := Lib.hid hsum
  clear hp ht hb2 hsum
  go_enter Try.func34, Try.ntmps34
  go_wp2_with fail
  rw [← hW2]
  clear hW2
  refine HCALL.out.mono ?_
  rintro e w3 ⟨hb3, hsome, hnone⟩
  have HB3 := Lib.hid (bel_two HB2.out hb3)
  cases hm : matT p t [] with
  | none =>
    have he := hnone hm
    subst he
    have HMB : Hid (matchB p t = none) := Lib.hid (by unfold matchB; rw [hm]; rfl)
    obtain ⟨W4, hW4⟩ : ∃ W4, W4 = w3.alloc (.cells #[.map none] 83) := ⟨_, rfl⟩
    have hb4 : Below w3.heap.size w3 W4 := by rw [hW4]; exact (Below.refl _ _).alloc (Nat.le_refl _) _
    have HB4 := Lib.hid (bel_two HB3.out hb4)
    have r4 : W4.heap[w3.heap.size]? = some (.cells #[.map none] 83 (0, 0)) := by rw [hW4]; exact heap_new _ _ rfl
    have c4 := cell_of_row W4 w3.heap.size 0 _ _ _ r4
    simp at c4
    clear hsome hnone hm hb3 hb4 r4
    go_upto_region 2 with fail
    rw [← hW4]
    clear hW4
    go_wp2_with fail
    refine (sortB_nil W4).mono ?_
    rintro e w5 ⟨u, H, rfl, hu, hb5⟩
    have HF : Hid (CopyBbE (matchB p t) w (.returned (.tuple #[u, .bool false])) w5) := Lib.hid (by
      rw [HMB.out]
      exact ⟨u, H, rfl, ⟨hu.1.low HB4.out.size, hu.2.wide HB4.out.size (Nat.le_refl _)⟩, bel_two HB4.out hb5⟩)
    clear hu hb5 c4
    go_wp2
    go_ret2
    exact HF.out
  | some acc =>
    obtain ⟨b, l, full, rfl, htab, hbv, hsame, hw⟩ := hsome acc hm
    have HMB : Hid (matchB p t = some (restB full ((sortK (vT p)).filter (fun nm => (findB acc nm).isSome)))) := Lib.hid (by
      unfold matchB; rw [hm, restB_eq hsame, restB_filter]; rfl)
    obtain ⟨W4, hW4⟩ : ∃ W4, W4 = w3.alloc (.cells #[.map (some b)] 83) := ⟨_, rfl⟩
    have hb4 : Below w3.heap.size w3 W4 := by rw [hW4]; exact (Below.refl _ _).alloc (Nat.le_refl _) _
    have HB4 := Lib.hid (bel_two HB3.out hb4)
    have r4 : W4.heap[w3.heap.size]? = some (.cells #[.map (some b)] 83 (0, 0)) := by rw [hW4]; exact heap_new _ _ rfl
    have c4 := cell_of_row W4 w3.heap.size 0 _ _ _ r4
    simp at c4
    have HSB := Lib.hid (sortB_any b l full _ 0 _ W4 (htab.below hb4) (hbv.below hb4) (by have := HSUM.out; omega) (match_names hm hsame))
    clear hsome hnone hm hb3 hb4 r4 htab hbv hsame hw
    go_upto_region 2 with fail
    rw [← hW4]
    clear hW4
    go_wp2_with fail
    refine HSB.out.mono ?_
    rintro e w5 ⟨u, H, rfl, hu, hb5⟩
    have HF : Hid (CopyBbE (matchB p t) w (.returned (.tuple #[u, .bool true])) w5) := Lib.hid (by
      rw [HMB.out]
      exact ⟨u, H, rfl, ⟨hu.1.low HB4.out.size, hu.2.wide HB4.out.size (Nat.le_refl _)⟩, bel_two HB4.out hb5⟩)
    clear hu hb5 c4 HSB
    go_wp2
    go_ret2
    exact HF.out

set_option maxRecDepth 100000 in
set_option maxHeartbeats 800000 in
theorem iInst_any (v v' : Value) (t p : T) (lo lo2 h h2 : Nat) (w : World) (ht : TermAt w lo h v t) (hp : TermAt w lo2 h2 v' p) (hsum : wT p + wT t ≤ 1048576) :
    Calls Try.prog 36 #[v, v'] w (AnsB (isInst t p) w) := by
  obtain ⟨k, n, s, a, m, c, rfl⟩ := ht.shape
  obtain ⟨k', n', s', a', m', c', rfl⟩ := hp.shape
  obtain ⟨W2, hW2⟩ : ∃ W2, W2 = (w.alloc (.cells #[.int .i64 k, .int .i64 n, .string s, .slice a m c] 29)).alloc (.cells #[.int .i64 k', .int .i64 n', .string s', .slice a' m' c'] 29) := ⟨_, rfl⟩
  have hb2 : Below w.heap.size w W2 := by rw [hW2]; exact ((Below.refl _ _).alloc (Nat.le_refl _) _).alloc (by simp) _
  have HCALL := Lib.hid (matcher_any _ _ p t lo2 lo h2 h W2 (hp.below hb2) (ht.below hb2) hsum)
  have HB2 := Lib.hid hb2
  clear ht hp hb2 hsum
  go_enter Try.func36, Try.ntmps36
  go_wp2_with fail
  rw [← hW2]
  clear hW2
  refine HCALL.out.mono ?_
  rintro e w3 ⟨hb3, hsome, hnone⟩
  have HB3 := Lib.hid (bel_two HB2.out hb3)
  cases hm : matT p t [] with
  | none =>
    have he := hnone hm
    subst he
    have HF : Hid (∀ w', Below w3.heap.size w3 w' → AnsB (isInst t p) w (.returned (.bool false)) w') := Lib.hid (fun w' hb => ⟨by unfold isInst matchB; rw [hm]; rfl, bel_two HB3.out hb⟩)
    clear hsome hnone hm hb3
    go_wp2
    go_ret
    exact HF.out _ ((Below.refl _ _).alloc (Nat.le_refl _) _)
  | some acc =>
    obtain ⟨b, l, full, rfl, _, _, _, _⟩ := hsome acc hm
    have HF : Hid (∀ w', Below w3.heap.size w3 w' → AnsB (isInst t p) w (.returned (.bool true)) w') := Lib.hid (fun w' hb => ⟨by unfold isInst matchB; rw [hm]; rfl, bel_two HB3.out hb⟩)
    clear hsome hnone hm hb3
    go_wp2
    go_ret
    exact HF.out _ ((Below.refl _ _).alloc (Nat.le_refl _) _)

set_option maxRecDepth 100000 in
set_option maxHeartbeats 800000 in
theorem iVariant_any (v v' : Value) (t p : T) (lo lo2 h h2 : Nat) (w : World) (ht : TermAt w lo h v t) (hp : TermAt w lo2 h2 v' p) (hsum : wT t + wT p ≤ 1048576) :
    Calls Try.prog 28 #[v, v'] w (AnsB (isVar2 t p) w) := by
  obtain ⟨k, n, s, a, m, c, rfl⟩ := ht.shape
  obtain ⟨k', n', s', a', m', c', rfl⟩ := hp.shape
  obtain ⟨W2, hW2⟩ : ∃ W2, W2 = (w.alloc (.cells #[.int .i64 k, .int .i64 n, .string s, .slice a m c] 29)).alloc (.cells #[.int .i64 k', .int .i64 n', .string s', .slice a' m' c'] 29) := ⟨_, rfl⟩
  have hb2 : Below w.heap.size w W2 := by rw [hW2]; exact ((Below.refl _ _).alloc (Nat.le_refl _) _).alloc (by simp) _
  have rA : W2.heap[w.heap.size]? = some (trow k n s (.slice a m c)) := by rw [hW2, Below.heap_alloc _ _ _ (by simp)]; exact heap_new _ _ rfl
  have rB : W2.heap[w.heap.size + 1]? = some (trow k' n' s' (.slice a' m' c')) := by rw [hW2]; exact heap_new _ _ (by simp)
  have HC1 := Lib.hid (iInst_any _ _ t p lo lo2 h h2 W2 (ht.below hb2) (hp.below hb2) (by omega))
  have HC2 := Lib.hid (fun w3 (hb : Below W2.heap.size W2 w3) => iInst_any _ _ p t lo2 lo h2 h w3 ((hp.below hb2).below hb) ((ht.below hb2).below hb) hsum)
  have HB2 := Lib.hid hb2
  have HR := Lib.hid (And.intro rA rB)
  obtain ⟨x, hx⟩ : ∃ x, x = isInst t p := ⟨_, rfl⟩
  obtain ⟨y, hy⟩ : ∃ y, y = isInst p t := ⟨_, rfl⟩
  have HXY : Hid (isVar2 t p = (x && y)) := Lib.hid (by rw [hx, hy]; rfl)
  rw [← hx] at HC1
  rw [← hy] at HC2
  clear ht hp hb2 hsum rA rB hx hy
  go_enter Try.func28, Try.ntmps28
  go_wp2_with fail
  rw [← hW2]
  clear hW2
  refine HC1.out.mono ?_
  rintro e w3 ⟨rfl, hb3⟩
  have HB3 := Lib.hid hb3
  have qA := (hb3.block _ (Array.getElem?_eq_some_iff.1 HR.out.1).1).trans HR.out.1
  have qB := (hb3.block _ (Array.getElem?_eq_some_iff.1 HR.out.2).1).trans HR.out.2
  obtain ⟨⟨y0, y1, y2, y3⟩, _⟩ := cells_of4 qA
  obtain ⟨⟨z0, z1, z2, z3⟩, _⟩ := cells_of4 qB
  clear hb3 qA qB
  cases x with
  | false =>
    have HF : Hid (AnsB (isVar2 t p) w (.returned (.bool false)) w3) := Lib.hid ⟨by rw [HXY.out]; rfl, bel_two HB2.out HB3.out⟩
    go_wp2
    go_ret
    exact HF.out
  | true =>
    go_wp2_with fail
    refine (HC2.out w3 HB3.out).mono ?_
    rintro e w4 ⟨rfl, hb4⟩
    have HF : Hid (AnsB (isVar2 t p) w (.returned (.bool y)) w4) := Lib.hid ⟨by rw [HXY.out]; rfl, bel_two HB2.out (bel_two HB3.out hb4)⟩
    clear hb4
    go_wp2
    go_ret
    exact HF.out
end Go.Proofs.Yteelakhaaipebaa
namespace Go.Proofs.Yteelakhaaipebaa
open Go.RowKit

/-- What the count says. -/
def TSz (m : Nat) (left : Int) (w : World) (e : Ending) (w' : World) : Prop :=
  ∃ r : Int, e = .returned (.int .i64 r) ∧ Below w.heap.size w w' ∧ -1 ≤ r ∧ (0 ≤ r → r + m ≤ left)

def SzSAt (lo h : Nat) : Prop := ∀ (u : Value) (ts : List T) (left : Int) (w : World), ArgsAt w lo h u ts → 0 ≤ left → left ≤ 1048576 →
  Calls Try.prog 85 #[u, .int .i64 left] w (TSz (ts.length + wS ts) left w)

set_option maxRecDepth 100000 in
set_option maxHeartbeats 800000 in
theorem szT_of {lo h : Nat} (hS : SzSAt lo h) (k n : Int) (s : ByteArray) (u : Value) (xs : List T) (left : Int) (w : World) (hs : s.size ≤ maxLen) (ha : ArgsAt w lo h u xs) (h0 : 0 ≤ left) (h1 : left ≤ 1048576) :
    Calls Try.prog 40 #[tv k n s u, .int .i64 left] w (TSz (wT (.node k n s xs)) left w) := by
  have hs2 : s.size ≤ 9223372036854775807 := by unfold maxLen at hs; omega
  have hb0 : Below w.heap.size w (w.alloc (.cells #[.int .i64 k, .int .i64 n, .string s, u] 57)) := (Below.refl _ _).alloc (Nat.le_refl _) _
  have HA := Lib.hid (ha.below hb0); clear ha hs
  have HB0 := Lib.hid hb0; clear hb0
  have HW := Lib.hid (wT_node k n s xs)
  by_cases hneg : left - (s.size : Int) < 0
  · go_enter Try.func40, Try.ntmps40
    go_wp2
    go_ret
    exact ⟨-1, rfl, HB0.out, by omega, fun h => by omega⟩
  · go_enter Try.func40, Try.ntmps40
    go_wp2_with fail
    refine (hS u xs (left - (s.size : Int)) _ HA.out (by omega) (by omega)).mono ?_
    rintro e w1 ⟨r, rfl, hb1, hr1, hr2⟩
    have HR := Lib.hid hr2; clear hr2
    have HB1 := Lib.hid (HB0.out.trans (hb1.mono HB0.out.size)); clear hb1
    by_cases hr : r < 0
    · go_wp2
      go_ret
      exact ⟨-1, rfl, HB1.out, by omega, fun h => by omega⟩
    · go_wp2
      go_ret
      refine ⟨r, rfl, HB1.out, by omega, fun h => ?_⟩
      have h2 := HR.out (by omega)
      rw [HW.out]
      omega

set_option maxRecDepth 100000 in
set_option maxHeartbeats 400000 in
theorem szS_empty (left : Int) (a : Option Addr) (cap : Nat) (w : World) (h0 : 0 ≤ left) (h1 : left ≤ 1048576) :
    Calls Try.prog 85 #[.slice a 0 cap, .int .i64 left] w (TSz 0 left w) := by
  have hd : decide (left < 0) = false := by simp; omega
  go_enter Try.func85, Try.ntmps85
  go_wp2
  refine wp_loop_rounds 1 ?_
  rw [rounds_succ]
  go_wp2
  go_ret
  exact ⟨left, rfl, Below.refl _ _, by omega, fun _ => by omega⟩

set_option maxRecDepth 100000 in
set_option maxHeartbeats 1600000 in
theorem szS_some {lo h : Nat} (hS : SzSAt lo h) (b o cap : Nat) (ts : List T) (left : Int) (w : World) (h0 : 0 ≤ left) (h1 : left ≤ 1048576) (hl : ts.length ≤ maxLen)
    (hc : RowAt w lo h b o ts) :
    Calls Try.prog 85 #[.slice (some ⟨b, o, none⟩) ts.length cap, .int .i64 left] w (TSz (ts.length + wS ts) left w) := by
  have HC := Lib.hid hc; clear hc
  have HSS := Lib.hid hS; clear hS
  obtain ⟨n, hn⟩ : ∃ n, n = ts.length := ⟨_, rfl⟩
  have hl2 : ts.length ≤ 9223372036854775807 := by unfold maxLen at hl; omega
  clear hl
  rw [← hn] at hl2 ⊢
  have HN := Lib.hid hn; clear hn
  by_cases hbig : left < n
  · have hd : decide (left - (n : Int) < 0) = true := by simp; omega
    go_enter Try.func85, Try.ntmps85
    go_wp2
    go_ret
    exact ⟨-1, rfl, Below.refl _ _, by omega, fun h => by omega⟩
  · have hd : decide (left - (n : Int) < 0) = false := by simp; omega
    go_enter Try.func85, Try.ntmps85
    go_wp2
    go_loopw [1, 5] (fun q i wr => ∃ (k : Nat) (x : Int), k ≤ n ∧ i = .int .i64 k ∧ q = .int .i64 x ∧ 0 ≤ x ∧ x ≤ left ∧ Hid (x + n + wS (ts.take k) ≤ left) ∧ Below w.heap.size w wr) (fun _ i _ => n - (intOf i).toNat)
    case atStart => exact ⟨0, left - n, Nat.zero_le _, rfl, rfl, by omega, by omega, Lib.hid (by simp [wS]), Below.refl _ _⟩
    case round =>
      obtain ⟨k, x, hk, rfl, rfl, hx0, hx1, HX, hb⟩ := hrel
      have HB := Lib.hid hb; clear hb
      by_cases hlt : k < n
      · obtain ⟨t, ht⟩ : ∃ t, ts[k]? = some t := ⟨_, List.getElem?_eq_getElem (by have := HN.out; omega)⟩
        obtain ⟨tk', tn, tsn, txs⟩ := t
        obtain ⟨hsz, u', c0, c1, c2, c3, har⟩ := HC.out k _ _ _ _ ht
        have keep : ∀ {ad : Addr} {v : Value}, w.cell? ad = some v → wr.cell? ad = some v := fun {ad} {v} hv => by rw [HB.out.cell (World.block_lt_of_cell? w _ hv)]; exact hv
        have d0 := keep c0
        have d1 := keep c1
        have d2 := keep c2
        have d3 := keep c3
        clear c0 c1 c2 c3 keep
        have HAR := Lib.hid (har.below HB.out); clear har
        have HT := Lib.hid (tk ts k _ ht)
        have HSZ := Lib.hid hsz; clear hsz ht
        go_wp2_with fail
        refine (szT_of HSS.out tk' tn tsn u' txs x _ HSZ.out HAR.out hx0 (by omega)).mono ?_
        rintro e w1 ⟨r, rfl, hb1, hr1, hr2⟩
        have HR := Lib.hid hr2; clear hr2
        have HB1 := Lib.hid (HB.out.trans (hb1.mono HB.out.size)); clear hb1
        by_cases hr : r < 0
        · go_wp2
          go_ret
          exact ⟨-1, rfl, HB1.out, by omega, fun h => by omega⟩
        · have hx := HR.out (by omega)
          have HX2 : Hid (r + n + wS (ts.take (k + 1)) ≤ left) := Lib.hid (by rw [HT.out, wS_snoc]; have := HX.out; omega)
          clear hx
          have hrl : r ≤ left := by have := HX2.out; omega
          go_wp2
          go_roundw
          case rel => exact ⟨k + 1, r, by omega, by go_num, rfl, by omega, hrl, HX2, HB1.out⟩
          case measure => simp [intOf]; omega
      · have hkn : k = n := by omega
        have HD : Hid (x + n + wS ts ≤ left) := Lib.hid (by
          have h2 := HX.out
          rw [hkn, HN.out, List.take_length] at h2
          have := HN.out; omega)
        clear hkn
        go_wp2
        go_ret
        exact ⟨x, rfl, HB.out, by omega, fun _ => by have := HD.out; omega⟩

theorem szS_any (lo : Nat) : ∀ h, SzSAt lo h
  | 0 => fun u ts left w ha h0 h1 => by
    obtain ⟨rfl, a, cap, rfl⟩ := ha
    have := szS_empty left a cap w h0 h1
    simpa [wS] using this
  | h + 1 => fun u ts left w ha h0 h1 => by
    rcases ha.cases with ⟨rfl, a, cap, rfl⟩ | ⟨h', b, o, cap, e, rfl, hl, _, hc⟩
    · have := szS_empty left a cap w h0 h1
      simpa [wS] using this
    · obtain rfl : h = h' := by omega
      exact szS_some (szS_any lo h) b o cap ts left w h0 h1 hl hc

theorem szT_any (v : Value) (t : T) (lo h : Nat) (left : Int) (w : World) (ht : TermAt w lo h v t) (h0 : 0 ≤ left) (h1 : left ≤ 1048576) :
    Calls Try.prog 40 #[v, .int .i64 left] w (TSz (wT t) left w) := by
  obtain ⟨k, n, s, u, xs, rfl, rfl, hs, ha⟩ := ht
  exact szT_of (szS_any lo h) k n s u xs left w hs ha h0 h1
end Go.Proofs.Yteelakhaaipebaa
namespace Go.Proofs.Yteelakhaaipebaa
open Go.RowKit

/-- A list of Binds and a word. -/
def RBb (r0 : List (ByteArray × T)) (r1 : Bool) (w : World) (e : Ending) (w' : World) : Prop := ∃ v H, e = .returned (.tuple #[v, .bool r1]) ∧ BsAt w' w.heap.size H v r0 ∧ Below w.heap.size w w'
def CBb (r0 : List (ByteArray × T)) (r1 : Bool) (w : World) (e : Ending) (w' : World) : Prop := ∃ v H, e = .returned (.tuple #[v, .bool r1]) ∧ BsObj w.heap.size w'.heap.size H v r0 w' ∧ Below w.heap.size w w'
theorem restB_mK (a : List (ByteArray × T)) (rs : List ByteArray) (hw : wBs a ≤ 1048577) : mBs (restB a rs) ≤ rs.length * 12582916 := by
  induction rs with
  | nil => simp [restB, mBs]
  | cons x r ih =>
    have h1 : restB a (x :: r) = restB a [x] ++ restB a r := restB_app a [x] r
    rw [h1, mBs_app, List.length_cons, Nat.add_mul]
    have h2 : mBs (restB a [x]) ≤ 12582916 := by
      unfold restB
      cases e : findB a x with
      | none => simp [e, mBs]
      | some t => have h4 := findB_w1 e; have h5 := cT_le t; simp [e, mBs]; omega
    omega
theorem matchB_m {p t : T} (h : wT p + wT t ≤ 1048576) : mBs ((matchB p t).getD []) ≤ 1152921504606846976 ∧ ((matchB p t).getD []).length ≤ 4194304 := by
  unfold matchB
  cases hm : matT p t [] with
  | none => simp [mBs]
  | some acc =>
    have hw := matT_w hm
    have hw2 : wBs acc ≤ 1048577 := by simp [wBs] at hw ⊢; omega
    have g1 := restB_mK acc (sortK (vT p)) hw2
    have g2 := sortK_len (vT p)
    have g3 := vT_le p
    have g4 := cT_le p
    have g5 := restB_len acc (sortK (vT p))
    have g6 : (sortK (vT p)).length * 12582916 ≤ 1048577 * 12582916 := Nat.mul_le_mul_right _ (by omega)
    simp only [Option.map_some, Option.getD_some]
    exact ⟨by omega, by omega⟩
end Go.Proofs.Yteelakhaaipebaa
namespace Go.Proofs.Yteelakhaaipebaa
open Go.RowKit

set_option maxRecDepth 100000 in
set_option maxHeartbeats 3200000 in
theorem exVar2_any (v0 : Value) (t0 : T) (h0 : Nat) (v1 : Value) (t1 : T) (h1 : Nat) (w : World) (ht0 : TermAt w 0 h0 v0 t0) (ht1 : TermAt w 0 h1 v1 t1) :
    Calls Try.prog 10 #[v0, v1] w (TrueI w) := by
  obtain ⟨k0, n0, s0, u0, rfl⟩ := ht0.form
  obtain ⟨k1, n1, s1, u1, rfl⟩ := ht1.form
  obtain ⟨WB, hWB⟩ : ∃ WB, WB = ((w.alloc (.cells #[.int .i64 k0, .int .i64 n0, .string s0, u0] 57)).alloc (.cells #[.int .i64 k1, .int .i64 n1, .string s1, u1] 57)) := ⟨_, rfl⟩
  have hb0 : Below w.heap.size w WB := by rw [hWB]; exact (((Below.refl _ _).alloc (by simp; try omega) _).alloc (by simp; try omega) _)
  have HB_0 := Lib.hid hb0
  have hzb := hb0.size
  have HA0_0 := Lib.hid (TArg.kept (⟨by rw [hWB]; rw [Below.heap_alloc _ _ _ (by simp; try omega)]; exact heap_new _ _ (by simp), ht0.below hb0⟩ : TArg (w.heap.size) k0 n0 s0 u0 h0 t0 WB))
  have HA1_0 := Lib.hid (TArg.kept (⟨by rw [hWB]; exact heap_new _ _ (by simp), ht1.below hb0⟩ : TArg (w.heap.size + 1) k1 n1 s1 u1 h1 t1 WB))
  clear hb0 ht0 ht1
  go_enter Try.func10, Try.ntmps10
  go_wp2_with fail
  rw [← hWB]
  clear hWB
  refine (szT_any _ t0 0 h0 1048576 _ HA0_0.out.now.2 (by omega) (by omega)).mono ?_
  rintro e wz0 ⟨r0, rfl, hb, hr0a, hr0⟩
  have HR0 := Lib.hid hr0; clear hr0
  have HA0_1 := Lib.hid (HA0_0.out.below hb)
  have HA1_1 := Lib.hid (HA1_0.out.below hb)
  have HB_1 := Lib.hid (HB_0.out.trans (hb.mono HB_0.out.size))
  have hz0 := hb.size
  clear hb HB_0 HA0_0 HA1_0
  by_cases hr : r0 < 0
  · go_wp2
    go_ret
    exact ⟨rfl, HB_1.out⟩
  have HRN0 : Hid (0 ≤ r0) := Lib.hid (by omega)
  clear hr
  have hr00 : 0 ≤ r0 := HRN0.out
  obtain ⟨c0, c1, c2, c3⟩ := cells_of4L HA1_1.out.now.1
  go_wp2_with fail
  refine (szT_any _ t1 0 h1 r0 _ HA1_1.out.now.2 (by omega) (by have := HR0.out (by omega); omega)).mono ?_
  rintro e wz1 ⟨r1, rfl, hb, hr1a, hr1⟩
  have HR1 := Lib.hid hr1; clear hr1
  clear c0 c1 c2 c3
  have HA0_2 := Lib.hid (HA0_1.out.below hb)
  have HA1_2 := Lib.hid (HA1_1.out.below hb)
  have HB_2 := Lib.hid (HB_1.out.trans (hb.mono HB_1.out.size))
  have hz1 := hb.size
  clear hb HB_1 HA0_1 HA1_1
  by_cases hr : r1 < 0
  · go_wp2
    go_ret
    exact ⟨rfl, HB_2.out⟩
  have HRN1 : Hid (0 ≤ r1) := Lib.hid (by omega)
  clear hr
  have hr01 : 0 ≤ r1 := HRN1.out
  have HW0 : Hid (wT t0 ≤ 1048576) := Lib.hid (by have q0 := HR0.out HRN0.out; omega)
  have HW1 : Hid (wT t1 ≤ 1048576) := Lib.hid (by have q0 := HR0.out HRN0.out; have q1 := HR1.out HRN1.out; omega)
  obtain ⟨r0, hr0⟩ : ∃ r, r = isVar2 t0 t1 := ⟨_, rfl⟩
  have HSM : Hid (wT t0 + wT t1 ≤ 1048576) := Lib.hid (by have q0 := HR0.out HRN0.out; have q1 := HR1.out HRN1.out; omega)
  have HSP : Hid (∀ (u v : Value) {lo lo2 : Nat} (w : World), TermAt w lo h0 u t0 → TermAt w lo2 h1 v t1 → Calls Try.prog 38 #[u, v] w (AnsB r0 w)) := Lib.hid (fun u v lo lo2 w q1 q2 => by
    rw [hr0]; exact sVariant_any u v t0 t1 lo lo2 h0 h1 w q1 q2 HSM.out)
  have HIM : Hid (∀ (u v : Value) {lo lo2 : Nat} (w : World), TermAt w lo h0 u t0 → TermAt w lo2 h1 v t1 → Calls Try.prog 28 #[u, v] w (AnsB r0 w)) := Lib.hid (fun u v lo lo2 w q1 q2 => by
    rw [hr0]; exact iVariant_any u v t0 t1 lo lo2 h0 h1 w q1 q2 HSM.out)
  clear hr0
  have HK : Hid (∀ w', Below wz1.heap.size wz1 w' → (w'.cell? ⟨w.heap.size, 0, none⟩ = some (.int .i64 k0) ∧ w'.cell? ⟨w.heap.size, 1, none⟩ = some (.int .i64 n0) ∧ w'.cell? ⟨w.heap.size, 2, none⟩ = some (.string s0) ∧ w'.cell? ⟨w.heap.size, 3, none⟩ = some (u0) ∧ w'.cell? ⟨w.heap.size + 1, 0, none⟩ = some (.int .i64 k1) ∧ w'.cell? ⟨w.heap.size + 1, 1, none⟩ = some (.int .i64 n1) ∧ w'.cell? ⟨w.heap.size + 1, 2, none⟩ = some (.string s1) ∧ w'.cell? ⟨w.heap.size + 1, 3, none⟩ = some (u1) ∧ Below wz1.heap.size wz1 w')) := Lib.hid (fun w' hb => by
    obtain ⟨p0, p1, p2, p3⟩ := cells_of4L (HA0_2.out.below hb).now.1
    obtain ⟨b0, b1, b2, b3⟩ := cells_of4L (HA1_2.out.below hb).now.1
    exact ⟨p0, p1, p2, p3, b0, b1, b2, b3, hb⟩)
  have HT0 : Hid (∀ w', Below wz1.heap.size wz1 w' → TermAt w' 0 h0 (tv k0 n0 s0 u0) t0) := Lib.hid (fun w' hb => (HA0_2.out.below hb).now.2)
  have HT1 : Hid (∀ w', Below wz1.heap.size wz1 w' → TermAt w' 0 h1 (tv k1 n1 s1 u1) t1) := Lib.hid (fun w' hb => (HA1_2.out.below hb).now.2)
  obtain ⟨p0, p1, p2, p3, b0, b1, b2, b3, hb0⟩ := HK.out _ (Below.refl _ _)
  go_wp2
  have HF0 := Lib.hid True.intro
  go_region_held3 (fun w' => w'.cell? ⟨w.heap.size, 0, none⟩ = some (.int .i64 k0) ∧ w'.cell? ⟨w.heap.size, 1, none⟩ = some (.int .i64 n0) ∧ w'.cell? ⟨w.heap.size, 2, none⟩ = some (.string s0) ∧ w'.cell? ⟨w.heap.size, 3, none⟩ = some (u0) ∧ w'.cell? ⟨w.heap.size + 1, 0, none⟩ = some (.int .i64 k1) ∧ w'.cell? ⟨w.heap.size + 1, 1, none⟩ = some (.int .i64 n1) ∧ w'.cell? ⟨w.heap.size + 1, 2, none⟩ = some (.string s1) ∧ w'.cell? ⟨w.heap.size + 1, 3, none⟩ = some (u1) ∧ Below wz1.heap.size wz1 w')
    (first | exact HK.out _ (by assumption) | exact HK.out _ (bel_drew (by assumption)) | exact HK.out _ (Below.drew (by assumption)) | go_keep)
    (first
      | (clear HF0; go_at_call 44; refine (toT_any (tv k0 n0 s0 u0) t0 0 h0 _ (HT0.out _ (by first | assumption | exact Below.drew (by assumption))) HW0.out).mono ?_; rintro e wva ⟨vva, rfl, htva, hbva⟩; have hBva : Below wz1.heap.size wz1 wva := (by first | exact bel_two (by assumption) hbva | exact bel_two (Below.drew (by assumption)) hbva); have HFA := Lib.hid True.intro)
      | (clear HFA; go_at_call 44; refine (toT_any (tv k1 n1 s1 u1) t1 0 h1 _ (HT1.out _ (by first | assumption | exact Below.drew (by assumption))) HW1.out).mono ?_; rintro e wvb ⟨vvb, rfl, htvb, hbvb⟩; have hBvb : Below wz1.heap.size wz1 wvb := (by first | exact bel_two (by assumption) hbvb | exact bel_two (Below.drew (by assumption)) hbvb); have htva2 := htva.below hbvb; have HFB := Lib.hid True.intro)
      | (clear HFB; go_at_call 38; refine (HSP.out _ _ _ htva2 htvb).mono ?_; rintro e wm ⟨rfl, hbr⟩; have hBr : Below wz1.heap.size wz1 wm := (by first | exact bel_two (by assumption) hbr | exact bel_two (Below.drew (by assumption)) hbr)))
  clear HK HT0 HT1 p0 p1 p2 p3 b0 b1 b2 b3 hb0 htva htva2 htvb hbva hbvb hBva hBvb hbr
  have HA0_3 := Lib.hid (HA0_2.out.below hBr)
  have HA1_3 := Lib.hid (HA1_2.out.below hBr)
  have HB_3 := Lib.hid (HB_2.out.trans (hBr.mono HB_2.out.size))
  have hz2 := hBr.size
  clear hBr HB_2 HA0_2 HA1_2
  clear HSP
  obtain ⟨c0, c1, c2, c3⟩ := cells_of4L HA0_3.out.now.1
  go_wp2_with fail
  refine (toT_own _ t0 0 h0 _ HA0_3.out.now.2 HW0.out).mono ?_
  rintro e wx0 ⟨kx0, nx0, sx0, ux0, xsx0, rfl, etx, hsx, ⟨hax, hox⟩, hb⟩
  obtain ⟨ax0, cx0, rfl⟩ := hax.slice
  obtain ⟨mx0, hmx⟩ : ∃ m, m = xsx0.length := ⟨_, rfl⟩
  rw [← hmx] at hax hox ⊢
  have HCX0 : Hid (cS xsx0 ≤ 1048576) := Lib.hid (by have hw := HW0.out; rw [etx, wT_node] at hw; have := cS_le xsx0; omega)
  clear c0 c1 c2 c3
  have HA0_4 := Lib.hid (HA0_3.out.below hb)
  have HA1_4 := Lib.hid (HA1_3.out.below hb)
  have HB_4 := Lib.hid (HB_3.out.trans (hb.mono HB_3.out.size))
  have hz3 := hb.size
  clear hb HB_3 HA0_3 HA1_3
  obtain ⟨W5, hW5⟩ : ∃ W5, W5 = boxed wx0 kx0 nx0 sx0 (.slice ax0 mx0 cx0) := ⟨_, rfl⟩
  have hbb : Below wx0.heap.size wx0 W5 := by rw [hW5]; exact boxed_below _ _ _ _ _
  have hzz5 : W5.heap.size = wx0.heap.size + 1 := by rw [hW5]; simp
  have hto := tbox_of hsx hax hox hW5
  have HA0_5 := Lib.hid (HA0_4.out.below hbb)
  have HA1_5 := Lib.hid (HA1_4.out.below hbb)
  have HB_5 := Lib.hid (HB_4.out.trans (hbb.mono HB_4.out.size))
  have hz4 := hbb.size
  clear hbb HB_4 HA0_4 HA1_4
  have HX0_5 := Lib.hid (hto.kept (by omega))
  have HEX0 : Hid (t0 = .node kx0 nx0 sx0 xsx0) := Lib.hid etx
  clear hto hax hox hsx etx hmx
  unfold boxed at hW5
  obtain ⟨c0, c1, c2, c3⟩ := cells_of4L HA1_5.out.now.1
  rw [hW5] at c0 c1 c2 c3
  go_wp2_with fail
  rw [← hW5] at c0 c1 c2 c3 ⊢
  clear hW5
  refine (toT_own _ t1 0 h1 _ HA1_5.out.now.2 HW1.out).mono ?_
  rintro e wx1 ⟨kx1, nx1, sx1, ux1, xsx1, rfl, etx, hsx, ⟨hax, hox⟩, hb⟩
  obtain ⟨ax1, cx1, rfl⟩ := hax.slice
  obtain ⟨mx1, hmx⟩ : ∃ m, m = xsx1.length := ⟨_, rfl⟩
  rw [← hmx] at hax hox ⊢
  have HCX1 : Hid (cS xsx1 ≤ 1048576) := Lib.hid (by have hw := HW1.out; rw [etx, wT_node] at hw; have := cS_le xsx1; omega)
  clear c0 c1 c2 c3
  have HA0_6 := Lib.hid (HA0_5.out.below hb)
  have HA1_6 := Lib.hid (HA1_5.out.below hb)
  have HX0_6 := Lib.hid (HX0_5.out.below hb)
  have HB_6 := Lib.hid (HB_5.out.trans (hb.mono HB_5.out.size))
  have hz5 := hb.size
  clear hb HB_5 HA0_5 HA1_5 HX0_5
  obtain ⟨W7, hW7⟩ : ∃ W7, W7 = boxed wx1 kx1 nx1 sx1 (.slice ax1 mx1 cx1) := ⟨_, rfl⟩
  have hbb : Below wx1.heap.size wx1 W7 := by rw [hW7]; exact boxed_below _ _ _ _ _
  have hzz7 : W7.heap.size = wx1.heap.size + 1 := by rw [hW7]; simp
  have hto := tbox_of hsx hax hox hW7
  have HA0_7 := Lib.hid (HA0_6.out.below hbb)
  have HA1_7 := Lib.hid (HA1_6.out.below hbb)
  have HX0_7 := Lib.hid (HX0_6.out.below hbb)
  have HB_7 := Lib.hid (HB_6.out.trans (hbb.mono HB_6.out.size))
  have hz6 := hbb.size
  clear hbb HB_6 HA0_6 HA1_6 HX0_6
  have HX1_7 := Lib.hid (hto.kept (by omega))
  have HEX1 : Hid (t1 = .node kx1 nx1 sx1 xsx1) := Lib.hid etx
  clear hto hax hox hsx etx hmx
  unfold boxed at hW7
  obtain ⟨p00, p01, p02, p03⟩ := cells_of4L HX0_7.out.now.1.1
  obtain ⟨p10, p11, p12, p13⟩ := cells_of4L HX1_7.out.now.1.1
  rw [hW7] at p00 p01 p02 p03 p10 p11 p12 p13
  go_wp2_with fail
  rw [← hW7] at p00 p01 p02 p03 p10 p11 p12 p13 ⊢
  clear hW7
  refine (HIM.out _ _ _ (by have h := HX0_7.out.now.1.2; rw [← HEX0.out] at h; exact h) (by have h := HX1_7.out.now.1.2; rw [← HEX1.out] at h; exact h)).mono ?_
  rintro e wg ⟨rfl, hb⟩
  have HA0_8 := Lib.hid (HA0_7.out.below hb)
  have HA1_8 := Lib.hid (HA1_7.out.below hb)
  have HX0_8 := Lib.hid (HX0_7.out.below hb)
  have HX1_8 := Lib.hid (HX1_7.out.below hb)
  have HB_8 := Lib.hid (HB_7.out.trans (hb.mono HB_7.out.size))
  have hz7 := hb.size
  clear hb HB_7 HA0_7 HA1_7 HX0_7 HX1_7
  clear p00 p01 p02 p03 p10 p11 p12 p13
  have HK : Hid (∀ w', Below wg.heap.size wg w' → (w'.cell? ⟨wx0.heap.size, 0, none⟩ = some (.int .i64 kx0) ∧ w'.cell? ⟨wx0.heap.size, 1, none⟩ = some (.int .i64 nx0) ∧ w'.cell? ⟨wx0.heap.size, 2, none⟩ = some (.string sx0) ∧ w'.cell? ⟨wx0.heap.size, 3, none⟩ = some (.slice ax0 mx0 cx0) ∧ w'.cell? ⟨w.heap.size, 0, none⟩ = some (.int .i64 k0) ∧ w'.cell? ⟨w.heap.size, 1, none⟩ = some (.int .i64 n0) ∧ w'.cell? ⟨w.heap.size, 2, none⟩ = some (.string s0) ∧ w'.cell? ⟨w.heap.size, 3, none⟩ = some (u0) ∧ Below wg.heap.size wg w')) := Lib.hid (fun w' hb => by
    obtain ⟨p0, p1, p2, p3⟩ := cells_of4L (HX0_8.out.below hb).now.1.1
    obtain ⟨b0, b1, b2, b3⟩ := cells_of4L (HA0_8.out.below hb).now.1
    exact ⟨p0, p1, p2, p3, b0, b1, b2, b3, hb⟩)
  obtain ⟨p0, p1, p2, p3, b0, b1, b2, b3, hb0⟩ := HK.out _ (Below.refl _ _)
  have HT5 : Hid (∀ w', Below wg.heap.size wg w' → TermAt w' 0 h0 (tv k0 n0 s0 u0) t0) := Lib.hid (fun w' hb => (HA0_8.out.below hb).now.2)
  have HX5 : Hid (∀ w', Below wg.heap.size wg w' → TermAt w' wm.heap.size h0 (tv kx0 nx0 sx0 (.slice ax0 mx0 cx0)) t0) := Lib.hid (fun w' hb => by rw [HEX0.out]; exact (HX0_8.out.below hb).now.1.2)
  go_wp2
  go_region_held3 (fun w' => w'.cell? ⟨wx0.heap.size, 0, none⟩ = some (.int .i64 kx0) ∧ w'.cell? ⟨wx0.heap.size, 1, none⟩ = some (.int .i64 nx0) ∧ w'.cell? ⟨wx0.heap.size, 2, none⟩ = some (.string sx0) ∧ w'.cell? ⟨wx0.heap.size, 3, none⟩ = some (.slice ax0 mx0 cx0) ∧ w'.cell? ⟨w.heap.size, 0, none⟩ = some (.int .i64 k0) ∧ w'.cell? ⟨w.heap.size, 1, none⟩ = some (.int .i64 n0) ∧ w'.cell? ⟨w.heap.size, 2, none⟩ = some (.string s0) ∧ w'.cell? ⟨w.heap.size, 3, none⟩ = some (u0) ∧ Below wg.heap.size wg w')
    (first | exact HK.out _ (by assumption) | exact HK.out _ (bel_drew (by assumption)) | exact HK.out _ (Below.drew (by assumption)) | exact HK.out _ (bel_two (bel_drew (by assumption)) (by assumption)) | go_keep)
    (first
      | (go_at_call 44; refine (toT_any _ t0 0 h0 _ (HT5.out _ (by first | assumption | exact Below.drew (by assumption))) HW0.out).mono ?_; rintro e we0 ⟨v3, rfl, ht9, hb9⟩)
      | (go_at_call 48; refine (eqT_any _ v3 t0 _ _ h0 _ (HX5.out _ (by first | assumption | exact bel_drew (by assumption) | exact Below.drew (by assumption))) (by first | exact ht9 | exact ht9.below (Below.drew (Below.refl _ _)))).mono ?_; rintro e wf0 ⟨rfl, hb10⟩))
  have hbq : Below wg.heap.size wg wf0 := bel_two (bel_drew hb9) hb10
  clear HX5 HT5 HK p0 p1 p2 p3 b0 b1 b2 b3 hb0 hb9 hb10 ht9
  have HA0_9 := Lib.hid (HA0_8.out.below hbq)
  have HA1_9 := Lib.hid (HA1_8.out.below hbq)
  have HX0_9 := Lib.hid (HX0_8.out.below hbq)
  have HX1_9 := Lib.hid (HX1_8.out.below hbq)
  have HB_9 := Lib.hid (HB_8.out.trans (hbq.mono HB_8.out.size))
  have hz8 := hbq.size
  clear hbq HB_8 HA0_8 HA1_8 HX0_8 HX1_8
  have HK : Hid (∀ w', Below wf0.heap.size wf0 w' → (w'.cell? ⟨wx1.heap.size, 0, none⟩ = some (.int .i64 kx1) ∧ w'.cell? ⟨wx1.heap.size, 1, none⟩ = some (.int .i64 nx1) ∧ w'.cell? ⟨wx1.heap.size, 2, none⟩ = some (.string sx1) ∧ w'.cell? ⟨wx1.heap.size, 3, none⟩ = some (.slice ax1 mx1 cx1) ∧ w'.cell? ⟨w.heap.size + 1, 0, none⟩ = some (.int .i64 k1) ∧ w'.cell? ⟨w.heap.size + 1, 1, none⟩ = some (.int .i64 n1) ∧ w'.cell? ⟨w.heap.size + 1, 2, none⟩ = some (.string s1) ∧ w'.cell? ⟨w.heap.size + 1, 3, none⟩ = some (u1) ∧ Below wf0.heap.size wf0 w')) := Lib.hid (fun w' hb => by
    obtain ⟨p0, p1, p2, p3⟩ := cells_of4L (HX1_9.out.below hb).now.1.1
    obtain ⟨b0, b1, b2, b3⟩ := cells_of4L (HA1_9.out.below hb).now.1
    exact ⟨p0, p1, p2, p3, b0, b1, b2, b3, hb⟩)
  obtain ⟨p0, p1, p2, p3, b0, b1, b2, b3, hb0⟩ := HK.out _ (Below.refl _ _)
  have HT5 : Hid (∀ w', Below wf0.heap.size wf0 w' → TermAt w' 0 h1 (tv k1 n1 s1 u1) t1) := Lib.hid (fun w' hb => (HA1_9.out.below hb).now.2)
  have HX5 : Hid (∀ w', Below wf0.heap.size wf0 w' → TermAt w' W5.heap.size h1 (tv kx1 nx1 sx1 (.slice ax1 mx1 cx1)) t1) := Lib.hid (fun w' hb => by rw [HEX1.out]; exact (HX1_9.out.below hb).now.1.2)
  go_wp2
  go_region_held3 (fun w' => w'.cell? ⟨wx1.heap.size, 0, none⟩ = some (.int .i64 kx1) ∧ w'.cell? ⟨wx1.heap.size, 1, none⟩ = some (.int .i64 nx1) ∧ w'.cell? ⟨wx1.heap.size, 2, none⟩ = some (.string sx1) ∧ w'.cell? ⟨wx1.heap.size, 3, none⟩ = some (.slice ax1 mx1 cx1) ∧ w'.cell? ⟨w.heap.size + 1, 0, none⟩ = some (.int .i64 k1) ∧ w'.cell? ⟨w.heap.size + 1, 1, none⟩ = some (.int .i64 n1) ∧ w'.cell? ⟨w.heap.size + 1, 2, none⟩ = some (.string s1) ∧ w'.cell? ⟨w.heap.size + 1, 3, none⟩ = some (u1) ∧ Below wf0.heap.size wf0 w')
    (first | exact HK.out _ (by assumption) | exact HK.out _ (bel_drew (by assumption)) | exact HK.out _ (Below.drew (by assumption)) | exact HK.out _ (bel_two (bel_drew (by assumption)) (by assumption)) | go_keep)
    (first
      | (go_at_call 44; refine (toT_any _ t1 0 h1 _ (HT5.out _ (by first | assumption | exact Below.drew (by assumption))) HW1.out).mono ?_; rintro e we1 ⟨v3, rfl, ht9, hb9⟩)
      | (go_at_call 48; refine (eqT_any _ v3 t1 _ _ h1 _ (HX5.out _ (by first | assumption | exact bel_drew (by assumption) | exact Below.drew (by assumption))) (by first | exact ht9 | exact ht9.below (Below.drew (Below.refl _ _)))).mono ?_; rintro e wf1 ⟨rfl, hb10⟩))
  have hbq : Below wf0.heap.size wf0 wf1 := bel_two (bel_drew hb9) hb10
  clear HX5 HT5 HK p0 p1 p2 p3 b0 b1 b2 b3 hb0 hb9 hb10 ht9
  have HA0_10 := Lib.hid (HA0_9.out.below hbq)
  have HA1_10 := Lib.hid (HA1_9.out.below hbq)
  have HX0_10 := Lib.hid (HX0_9.out.below hbq)
  have HX1_10 := Lib.hid (HX1_9.out.below hbq)
  have HB_10 := Lib.hid (HB_9.out.trans (hbq.mono HB_9.out.size))
  have hz9 := hbq.size
  clear hbq HB_9 HA0_9 HA1_9 HX0_9 HX1_9
  go_wp2
  go_ret
  exact ⟨rfl, HB_10.out⟩
end Go.Proofs.Yteelakhaaipebaa
namespace Go.Proofs.Yteelakhaaipebaa
open Go.RowKit Go.ChangeShapes Go.WideShapes

theorem cLT : Try.prog.cellsOf 57 = 4 := by kernel_rfl
theorem cStr' : Try.prog.cellsOf 9 = 1 := by kernel_rfl
theorem cInt' : Try.prog.cellsOf 3 = 1 := by kernel_rfl
theorem cLS : Try.prog.cellsOf 55 = 1 := by kernel_rfl

theorem cells4 {W : World} {a : Addr} {cs : List Value} (h : W.cells? 0 a 4 = some cs) : ∃ v0 v1 v2 v3, cs = [v0, v1, v2, v3] ∧ W.cell? (a.add 0) = some v0 ∧ W.cell? (a.add 1) = some v1 ∧ W.cell? (a.add 2) = some v2 ∧ W.cell? (a.add 3) = some v3 := by
  unfold World.cells? at h
  rw [if_pos (Nat.zero_le _)] at h
  have e : List.range 4 = [0, 1, 2, 3] := rfl
  rw [e] at h
  simp only [List.mapM_cons, List.mapM_nil, Option.bind_eq_bind, Option.pure_def, Option.bind_eq_some_iff] at h
  obtain ⟨v0, h0, r0, ⟨v1, h1, r1, ⟨v2, h2, r2, ⟨v3, h3, r3, e3, e2⟩, e1⟩, e0⟩, ee⟩ := h
  simp at e3 e2 e1 e0 ee
  subst e3; subst e2; subst e1; subst e0; subst ee
  exact ⟨v0, v1, v2, v3, rfl, h0, h1, h2, h3⟩

theorem bound_all (f : Nat → Nat) (n : Nat) : ∃ m, ∀ i, i < n → f i ≤ m := by
  induction n with
  | zero => exact ⟨0, fun i hi => by omega⟩
  | succ n ih =>
    obtain ⟨m, hm⟩ := ih
    refine ⟨max m (f n), fun i hi => ?_⟩
    by_cases e : i = n
    · subst e; omega
    · have := hm i (by omega); omega

section
variable {H : Type} {enc : TypeId × Value → H} {W : World} {spare : Nat → Bool} {held : Bool}

theorem spot_add {a : Addr} {i : Nat} {v : Value} (h : W.cell? (a.add i) = some v) (hs : a.spot = none) : W.cell? ⟨a.block, a.off + i, none⟩ = some v := by
  obtain ⟨b, o, sp⟩ := a
  simp at hs; subst hs
  have e : (⟨b, o, none⟩ : Addr).add i = ⟨b, o + i, none⟩ := by
    unfold Addr.add
    split
    · rename_i h; subst h; rfl
    · rfl
  rw [e] at h
  exact h

set_option maxRecDepth 100000 in
/-- The reading of a struct of a term and of a slice of such. -/
theorem term_of_trod : ∀ fuel : Nat,
    (∀ (cs : List Value) (x : DataW H × List MemPlace), DataW.trod enc Try.prog W 0 spare held fuel 57 cs = some x → ∃ k n s u xs h, cs = [.int .i64 k, .int .i64 n, .string s, u] ∧ s.size ≤ maxLen ∧ ArgsAt W 0 h u xs) ∧
    (∀ (cs : List Value) (x : DataW H × List MemPlace), DataW.trod enc Try.prog W 0 spare held fuel 55 cs = some x → ∃ u xs h, cs = [u] ∧ ArgsAt W 0 h u xs) := by
  intro fuel
  induction fuel with
  | zero => exact ⟨fun cs x h => by simp [DataW.trod] at h, fun cs x h => by simp [DataW.trod] at h⟩
  | succ f ih =>
    obtain ⟨ih1, ih2⟩ := ih
    refine ⟨fun cs x h => ?_, fun cs x h => ?_⟩
    · obtain ⟨xs, n, hn, _, hl, hlen, hf⟩ := DataW.trod_struct Try.underlying57 h
      obtain rfl : f = n := by omega
      rw [cLT] at hl
      match cs, hl with
      | [v0, v1, v2, v3], _ =>
        have h0 : DataW.trod enc Try.prog W 0 spare held f 3 (([v0, v1, v2, v3].drop 0).take (Try.prog.cellsOf 3)) = xs[0]? := hf 0 _ rfl
        have h1 : DataW.trod enc Try.prog W 0 spare held f 3 (([v0, v1, v2, v3].drop 1).take (Try.prog.cellsOf 3)) = xs[1]? := hf 1 _ rfl
        have h2 : DataW.trod enc Try.prog W 0 spare held f 9 (([v0, v1, v2, v3].drop 2).take (Try.prog.cellsOf 9)) = xs[2]? := hf 2 _ rfl
        have h3 : DataW.trod enc Try.prog W 0 spare held f 55 (([v0, v1, v2, v3].drop 3).take (Try.prog.cellsOf 55)) = xs[3]? := hf 3 _ rfl
        have hl4 : xs.length = 4 := hlen
        rw [cInt'] at h0 h1
        rw [cStr'] at h2
        rw [cLS] at h3
        obtain ⟨y0, e0⟩ : ∃ y, xs[0]? = some y := ⟨_, List.getElem?_eq_getElem (by omega)⟩
        obtain ⟨y1, e1⟩ : ∃ y, xs[1]? = some y := ⟨_, List.getElem?_eq_getElem (by omega)⟩
        obtain ⟨y2, e2⟩ : ∃ y, xs[2]? = some y := ⟨_, List.getElem?_eq_getElem (by omega)⟩
        obtain ⟨y3, e3⟩ : ∃ y, xs[3]? = some y := ⟨_, List.getElem?_eq_getElem (by omega)⟩
        rw [e0] at h0; rw [e1] at h1; rw [e2] at h2; rw [e3] at h3
        (try simp at h0); (try simp at h1); (try simp at h2); (try simp at h3)
        obtain ⟨k, hk, _⟩ := DataW.trod_int Try.underlying3 h0
        obtain ⟨n, hn, _⟩ := DataW.trod_int Try.underlying3 h1
        obtain ⟨s, hs, _, hsz⟩ := DataW.trod_string Try.underlying9 h2
        obtain ⟨u, ts, hgt, hu, ha⟩ := ih2 _ _ h3
        simp at hk hn hs hu
        subst hk; subst hn; subst hs; subst hu
        exact ⟨k, n, s, _, ts, hgt, rfl, hsz, ha⟩
    · rcases DataW.trod_slice Try.underlying55 h with ⟨rfl, _⟩ | ⟨a, len, cap, elems, rest, n, hn, rfl, _, _, hlc, hcm, hlen, hel, _, _⟩
      · exact ⟨_, [], 0, rfl, ArgsAt.nil W 0 0 none 0⟩
      · obtain rfl : f = n := by omega
        have each : ∀ i, i < len → ∃ k n s u xs h, W.cells? 0 (a.add (i * 4)) 4 = some [.int .i64 k, .int .i64 n, .string s, u] ∧ s.size ≤ maxLen ∧ ArgsAt W 0 h u xs := by
          intro i hi
          have h1 := hel i hi
          rw [cLT] at h1
          obtain ⟨y, hy⟩ : ∃ y, elems[i]? = some y := ⟨_, List.getElem?_eq_getElem (by omega)⟩
          rw [hy, Option.bind_eq_some_iff] at h1
          obtain ⟨cs, hcs, ht⟩ := h1
          obtain ⟨k, n, s, u, xs, h, rfl, hsz, ha⟩ := ih1 cs _ ht
          exact ⟨k, n, s, u, xs, h, hcs, hsz, ha⟩
        by_cases h0 : len = 0
        · subst h0
          exact ⟨_, [], 0, rfl, ArgsAt.nil W 0 0 (some a) cap⟩
        · -- the elements, chosen once
          have hch : ∃ (K N : Nat → Int) (S : Nat → ByteArray) (U : Nat → Value) (X : Nat → List T) (Hh : Nat → Nat), ∀ i, i < len → W.cells? 0 (a.add (i * 4)) 4 = some [.int .i64 (K i), .int .i64 (N i), .string (S i), U i] ∧ (S i).size ≤ maxLen ∧ ArgsAt W 0 (Hh i) (U i) (X i) := by
            have hc2 : ∀ i, ∃ (k n : Int) (s : ByteArray) (u : Value) (xs : List T) (h : Nat), i < len → W.cells? 0 (a.add (i * 4)) 4 = some [.int .i64 k, .int .i64 n, .string s, u] ∧ s.size ≤ maxLen ∧ ArgsAt W 0 h u xs := by
              intro i
              by_cases hi : i < len
              · obtain ⟨k, n, s, u, xs, h, q⟩ := each i hi
                exact ⟨k, n, s, u, xs, h, fun _ => q⟩
              · exact ⟨0, 0, ByteArray.empty, .slice none 0 0, [], 0, fun h => absurd h hi⟩
            exact ⟨fun i => (hc2 i).choose, fun i => (hc2 i).choose_spec.choose, fun i => (hc2 i).choose_spec.choose_spec.choose, fun i => (hc2 i).choose_spec.choose_spec.choose_spec.choose,
              fun i => (hc2 i).choose_spec.choose_spec.choose_spec.choose_spec.choose, fun i => (hc2 i).choose_spec.choose_spec.choose_spec.choose_spec.choose_spec.choose, fun i hi => (hc2 i).choose_spec.choose_spec.choose_spec.choose_spec.choose_spec.choose_spec hi⟩
          obtain ⟨K, N, S, U, X, Hh, hall⟩ := hch
          -- one height for all
          have hmax := bound_all Hh len
          obtain ⟨hm, hle⟩ := hmax
          have hspot : a.spot = none := by
            obtain ⟨v0, _, _, _, _, c0, _⟩ := cells4 (hall 0 (by omega)).1
            have := World.cell?_spot c0
            obtain ⟨b, o, sp⟩ := a
            simpa [Addr.add] using this
          refine ⟨_, (List.range len).map fun i => T.node (K i) (N i) (S i) (X i), hm + 1, rfl, some a, cap, by simp, by simp; omega, Or.inr ⟨a.block, a.off, ?_, Nat.zero_le _, fun i k n s xs hi => ?_⟩⟩
          · obtain ⟨b, o, sp⟩ := a
            simp at hspot; subst hspot; rfl
          · have hil : i < len := by have := (List.getElem?_eq_some_iff.1 hi).1; simpa using this
            simp [hil] at hi
            obtain ⟨rfl, rfl, rfl, rfl⟩ := hi
            obtain ⟨hcs, hsz, ha⟩ := hall i hil
            obtain ⟨v0, v1, v2, v3, e, c0, c1, c2, c3⟩ := cells4 hcs
            simp at e
            obtain ⟨rfl, rfl, rfl, rfl⟩ := e
            have sp : (a.add (i * 4)).spot = none := by
              obtain ⟨b, o, sp⟩ := a
              simp at hspot; subst hspot
              unfold Addr.add
              split <;> rfl
            have eb : (a.add (i * 4)).block = a.block ∧ (a.add (i * 4)).off = a.off + i * 4 := by
              obtain ⟨b, o, sp⟩ := a
              simp at hspot; subst hspot
              unfold Addr.add
              split
              · rename_i h; rw [h]; exact ⟨rfl, rfl⟩
              · exact ⟨rfl, rfl⟩
            have d0 := spot_add c0 sp
            have d1 := spot_add c1 sp
            have d2 := spot_add c2 sp
            have d3 := spot_add c3 sp
            rw [eb.1, eb.2] at d0 d1 d2 d3
            exact ⟨hsz, _, d0, d1, d2, d3, ha.le (hle i hil)⟩
end

set_option maxRecDepth 100000 in
/-- A term that came in. -/
theorem term_came {H : Type} {enc : TypeId × Value → H} {W : World} {base : Nat} {v : Value} {d : DataW H} {p : List MemPlace} (hv : Value.okWide Try.prog W .any base 57 v)
    (h : DataW.Trod enc Try.prog W 0 (fun _ => true) true 57 v d p) : ∃ g t, TermAt W 0 g v t := by
  obtain ⟨cs, rfl, hsz⟩ := okWide_struct Try.underlying57 hv
  obtain ⟨fuel, hf⟩ := h
  obtain ⟨k, n, s, u, xs, g, e, hs, ha⟩ := (term_of_trod fuel).1 _ _ hf
  have ec : cs = #[.int .i64 k, .int .i64 n, .string s, u] := by
    have : cs.toList = [.int .i64 k, .int .i64 n, .string s, u] := e
    rw [← Array.toArray_toList (xs := cs), this]
  subst ec
  exact ⟨g, _, k, n, s, u, xs, rfl, rfl, hs, ha⟩
end Go.Proofs.Yteelakhaaipebaa
