/-
  The ascending list of a list's strings, as a term; what its Binds weigh. No walk.
  spec.MatchTerm, spec.IsInstance and spec.IsVariant.
  impl.MatchTerm, impl.IsInstance and impl.IsVariant.
  laws.szTerm and laws.szTermS count what a term holds.
  What the laws on matching share. No walk.
  laws.markBindS writes numbered marks over a list of Binds that is a call's own, and nothing else turns.
  laws.heldTermS and laws.heldTerm find the marks that were written.
  laws.heldBindS finds the marks that were written over a list of Binds.
-/
import Derived.Test.YteelakhaaipebaaQ24
import Derived.Test.YteelakhaaipebaaQ43
import Derived.Test.YteelakhaaipebaaQ44
import Derived.Test.YteelakhaaipebaaQ40
import Derived.Test.YteelakhaaipebaaQ42
import Derived.Test.YteelakhaaipebaaQ2
import Derived.Test.YteelakhaaipebaaQ9
import Derived.Test.YteelakhaaipebaaQ10
import Derived.Test.YteelakhaaipebaaQ6
import Derived.Test.YteelakhaaipebaaQ20
import Derived.Test.YteelakhaaipebaaQ8
import Derived.WalkLawsBesides
import Derived.BigQuiet
import Derived.Deep.QuietTactic
import Derived.Deep.RegionHeld3
namespace Go.Proofs.Yteelakhaaipebaa
open Go.RowKit

def insK (s : ByteArray) : List ByteArray → List ByteArray
  | [] => [s]
  | r :: t => if key s < key r then s :: r :: t else if key r < key s then r :: insK s t else r :: t
theorem insK_mem (s x : ByteArray) : ∀ l, x ∈ insK s l ↔ x = s ∨ x ∈ l
  | [] => by simp [insK]
  | r :: t => by
    unfold insK
    by_cases h1 : key s < key r
    · rw [if_pos h1]; simp
    · rw [if_neg h1]
      by_cases h2 : key r < key s
      · rw [if_pos h2, List.mem_cons, insK_mem s x t, List.mem_cons]
        constructor
        · rintro (h | h | h)
          · exact Or.inr (Or.inl h)
          · exact Or.inl h
          · exact Or.inr (Or.inr h)
        · rintro (h | h | h)
          · exact Or.inr (Or.inl h)
          · exact Or.inl h
          · exact Or.inr (Or.inr h)
      · rw [if_neg h2]
        have e : s = r := by
          by_cases hk : key s = key r
          · exact key_inj hk
          · rcases lt_or hk with h | h
            · exact absurd h h1
            · exact absurd h h2
        subst e
        simp
theorem insK_pw (s : ByteArray) : ∀ l : List ByteArray, l.Pairwise (fun a b => key a < key b) → (insK s l).Pairwise (fun a b => key a < key b)
  | [], _ => by simp [insK]
  | r :: t, h => by
    obtain ⟨h1, h2⟩ := List.pairwise_cons.1 h
    unfold insK
    by_cases e1 : key s < key r
    · rw [if_pos e1]
      refine List.pairwise_cons.2 ⟨fun y hy => ?_, h⟩
      rcases List.mem_cons.1 hy with e | e
      · subst e; exact e1
      · exact lt_tr e1 (h1 y e)
    · rw [if_neg e1]
      by_cases e2 : key r < key s
      · rw [if_pos e2]
        refine List.pairwise_cons.2 ⟨fun y hy => ?_, insK_pw s t h2⟩
        rcases (insK_mem s y t).1 hy with e | e
        · subst e; exact e2
        · exact h1 y e
      · rw [if_neg e2]; exact h
theorem insK_len (s : ByteArray) : ∀ l : List ByteArray, (insK s l).length ≤ l.length + 1
  | [] => by simp [insK]
  | r :: t => by
    unfold insK
    by_cases e1 : key s < key r
    · rw [if_pos e1]; simp
    · rw [if_neg e1]
      by_cases e2 : key r < key s
      · rw [if_pos e2]; have := insK_len s t; simp; omega
      · rw [if_neg e2]; simp
def sortK : List ByteArray → List ByteArray
  | [] => []
  | s :: l => insK s (sortK l)
theorem sortK_of : ∀ ps, SortedOf ps (sortK ps)
  | [] => SortedOf.nil
  | s :: l => by
    obtain ⟨h1, h2⟩ := sortK_of l
    exact ⟨insK_pw s _ h1, fun x => by rw [sortK, insK_mem, h2 x, List.mem_cons]⟩
theorem sortK_len : ∀ ps, (sortK ps).length ≤ ps.length
  | [] => Nat.le_refl _
  | s :: l => by have := sortK_len l; have := insK_len s (sortK l); rw [sortK, List.length_cons]; omega
end Go.Proofs.Yteelakhaaipebaa
namespace Go.Proofs.Yteelakhaaipebaa
open Go.RowKit

theorem vT_size : ∀ (t : T) (x : ByteArray), x ∈ vT t → x.size ≤ wT t
  | .node k n s xs, x, h => by
    rw [vT_node] at h
    rw [wT_node]
    rcases List.mem_append.1 h with h | h
    · split at h
      · simp at h; subst h; omega
      · simp at h
    · obtain ⟨l, hl, hx⟩ := List.mem_flatten.1 h
      obtain ⟨y, hy, rfl⟩ := List.mem_map.1 hl
      have h1 := vT_size y x hx
      obtain ⟨i, hi⟩ := List.mem_iff_getElem?.1 hy
      have h2 := wT_at xs i y hi
      omega
/-- The match of a pattern and a term, in the names' order. -/
noncomputable def matchB (p t : T) : Option (List (ByteArray × T)) := (matT p t []).map (fun a => restB a (sortK (vT p)))
theorem sorted_self {ps rs : List ByteArray} (h : SortedOf ps rs) : SortedOf rs rs := ⟨h.1, fun _ => Iff.rfl⟩

/-- A list of Binds to be read, and whether there is one. -/
def ReadBbE (r : Option (List (ByteArray × T))) (w : World) (e : Ending) (w' : World) : Prop := ∃ v H, e = .returned (.tuple #[v, .bool r.isSome]) ∧ BsAt w' w.heap.size H v (r.getD []) ∧ Below w.heap.size w w'

set_option maxRecDepth 100000 in
set_option maxHeartbeats 1600000 in
theorem sMatch_any (v v' : Value) (p t : T) (lo lo2 h h2 : Nat) (w : World) (hp : TermAt w lo h v p) (ht : TermAt w lo2 h2 v' t) (hsum : wT p + wT t ≤ 1048576) :
    Calls Try.prog 35 #[v, v'] w (ReadBbE (matchB p t) w) := by
  obtain ⟨k, n, s, a, m, c, rfl⟩ := hp.shape
  obtain ⟨k', n', s', a', m', c', rfl⟩ := ht.shape
  obtain ⟨W2, hW2⟩ : ∃ W2, W2 = (w.alloc (.cells #[.int .i64 k, .int .i64 n, .string s, .slice a m c] 29)).alloc (.cells #[.int .i64 k', .int .i64 n', .string s', .slice a' m' c'] 29) := ⟨_, rfl⟩
  have hb2 : Below w.heap.size w W2 := by rw [hW2]; exact ((Below.refl _ _).alloc (Nat.le_refl _) _).alloc (by simp) _
  have rA : W2.heap[w.heap.size]? = some (trow k n s (.slice a m c)) := by rw [hW2, Below.heap_alloc _ _ _ (by simp)]; exact heap_new _ _ rfl
  have rB : W2.heap[w.heap.size + 1]? = some (trow k' n' s' (.slice a' m' c')) := by rw [hW2]; exact heap_new _ _ (by simp)
  have hz2 : W2.heap.size = w.heap.size + 2 := by rw [hW2]; simp
  obtain ⟨W3, hW3⟩ : ∃ W3, W3 = W2.alloc (.cells #[] 86) := ⟨_, rfl⟩
  have hb3 : Below W2.heap.size W2 W3 := by rw [hW3]; exact (Below.refl _ _).alloc (Nat.le_refl _) _
  have hg3 : GrowB false h2 W2.heap.size (.slice (some ⟨W2.heap.size, 0, none⟩) 0 0) [] W3 := by rw [hW3]; exact GrowB.lit _ _ _ _ (Nat.le_refl _)
  have HCALL := Lib.hid (l8Match_any 0 h _ _ p t h2 W2.heap.size h2 (.slice (some ⟨W2.heap.size, 0, none⟩) 0 0) [] W2 W3 ((hp.low (Nat.zero_le _)).below hb2) ((ht.low (Nat.zero_le _)).below hb2) (Nat.le_refl _) (by omega) (by omega) (by simp [wBs]; omega) hg3 (Nat.le_refl _) hb3 hb3.size)
  have HB2 := Lib.hid hb2; have HB3 := Lib.hid hb3; have HR := Lib.hid (And.intro rA (And.intro rB hz2))
  have HP := Lib.hid ((hp.low (Nat.zero_le _)).below hb2)
  have HSUM := Lib.hid hsum
  have HSZ : Hid (W2.heap.size = w.heap.size + 2) := Lib.hid hz2
  clear hp ht hb2 hb3 rA rB hz2 hg3 hsum
  go_enter Try.func35, Try.ntmps35
  go_upto_region 1 with fail
  rw [← hW2]
  clear hW2
  obtain ⟨⟨y0, y1, y2, y3⟩, _⟩ := cells_of4 HR.out.1
  obtain ⟨⟨z0, z1, z2, z3⟩, _⟩ := cells_of4 HR.out.2.1
  go_wp2_with fail
  rw [← hW3]
  clear hW3 y0 y1 y2 y3 z0 z1 z2 z3
  refine HCALL.out.mono ?_
  rintro e w5 ⟨ua, um, uc, rfl, hg5, hr5, hsome⟩
  have hb35 : Below W2.heap.size W2 w5 := HB3.out.grown hg5 HB3.out.size (fun i hi => by simp [Value.ownBlock] at hi; omega)
  have HB5 := Lib.hid (bel_two HB2.out hb35)
  have HB25 := Lib.hid hb35
  have HSOME := Lib.hid hsome
  clear hg5 hr5 hb35 hsome HCALL
  cases hm5 : matT p t [] with
  | none =>
    simp only [Option.isSome_none]
    have HF : Hid (ReadBbE (matchB p t) w (.returned (.tuple #[.slice (some ⟨w5.heap.size, 0, none⟩) 0 0, .bool false])) (w5.alloc (.cells #[] 86))) := Lib.hid (by
      unfold matchB
      rw [hm5]
      exact ⟨_, 0, rfl, ⟨_, 0, rfl, Nat.zero_le _, Or.inl rfl⟩, HB5.out.alloc HB5.out.size _⟩)
    clear hm5
    go_wp2
    go_ret2
    exact HF.out
  | some acc =>
    simp only [Option.isSome_some]
    obtain ⟨hum, hga⟩ := HSOME.out acc hm5
    have hwa : wBs acc ≤ 1048577 := by have h := matT_w hm5; have := HSUM.out; simp [wBs] at h ⊢; omega
    have HMB : Hid (matchB p t = some (restB acc (sortK (vT p)))) := Lib.hid (by unfold matchB; rw [hm5]; rfl)
    have HACC := Lib.hid (And.intro hwa (hga.at (by have := wBs_len acc; unfold maxLen; omega)))
    have HUM := Lib.hid hum
    have rA5 := (HB25.out.block _ (by have := HSZ.out; omega)).trans HR.out.1
    obtain ⟨⟨y0, y1, y2, y3⟩, _⟩ := cells_of4 rA5
    have HV := Lib.hid (sVarsOf_any _ p 0 h w5 (HP.out.below HB25.out) (by have := HSUM.out; omega))
    clear hm5 hga hum hwa rA5 HSOME
    go_wp2_with fail
    refine HV.out.mono ?_
    rintro e w6 ⟨vu, rs, rfl, hso, hrl, hro, hb6⟩
    have HF6 := Lib.hid (restS_anyK (.slice ua um uc) vu acc rs rs W2.heap.size h2 w6 HACC.out.1 (HACC.out.2.below hb6) (by have h1 := vT_le p; have h2 := cT_le p; have := HSUM.out; omega) (fun x hx => by have h1 := vT_size p x ((hso.2 x).1 hx); have := HSUM.out; unfold maxLen; omega) (StrsAt.of_owns hro) (sorted_self hso))
    have HRS : Hid (rs = sortK (vT p)) := Lib.hid (hso.unique (sortK_of _))
    have HB6 := Lib.hid (bel_two HB5.out hb6)
    obtain ⟨va, vc, rfl⟩ := own_formR hro
    clear hso hrl hro hb6 y0 y1 y2 y3 HV
    go_wp2_with fail
    refine HF6.out.mono ?_
    rintro e w7 ⟨xv, H7, rfl, hx7, hb7⟩
    have HF : Hid (ReadBbE (matchB p t) w (.returned (.tuple #[xv, .bool true])) w7) := Lib.hid (by
      rw [HMB.out]
      refine ⟨xv, H7, rfl, ?_, bel_two HB6.out hb7⟩
      rw [HRS.out] at hx7
      exact hx7.low (HB6.out.size))
    clear hx7 hb7
    go_wp2
    go_ret2
    exact HF.out

/-- A pattern and a term match. -/
noncomputable def isInst (t p : T) : Bool := (matchB p t).isSome

set_option maxRecDepth 100000 in
set_option maxHeartbeats 800000 in
theorem sInst_any (v v' : Value) (t p : T) (lo lo2 h h2 : Nat) (w : World) (ht : TermAt w lo h v t) (hp : TermAt w lo2 h2 v' p) (hsum : wT p + wT t ≤ 1048576) :
    Calls Try.prog 56 #[v, v'] w (AnsB (isInst t p) w) := by
  obtain ⟨k, n, s, a, m, c, rfl⟩ := ht.shape
  obtain ⟨k', n', s', a', m', c', rfl⟩ := hp.shape
  obtain ⟨W2, hW2⟩ : ∃ W2, W2 = (w.alloc (.cells #[.int .i64 k, .int .i64 n, .string s, .slice a m c] 29)).alloc (.cells #[.int .i64 k', .int .i64 n', .string s', .slice a' m' c'] 29) := ⟨_, rfl⟩
  have hb2 : Below w.heap.size w W2 := by rw [hW2]; exact ((Below.refl _ _).alloc (Nat.le_refl _) _).alloc (by simp) _
  have HCALL := Lib.hid (sMatch_any _ _ p t lo2 lo h2 h W2 (hp.below hb2) (ht.below hb2) hsum)
  have HB2 := Lib.hid hb2
  clear ht hp hb2 hsum
  go_enter Try.func56, Try.ntmps56
  go_wp2_with fail
  rw [← hW2]
  clear hW2
  refine HCALL.out.mono ?_
  rintro e w3 ⟨u, H, rfl, hu, hb3⟩
  have HF : Hid (AnsB (isInst t p) w (.returned (.bool (matchB p t).isSome)) w3) := Lib.hid ⟨rfl, bel_two HB2.out hb3⟩
  clear hu hb3
  go_wp2
  go_ret
  exact HF.out

/-- Each is an instance of the other. -/
noncomputable def isVar2 (a b : T) : Bool := isInst a b && isInst b a

set_option maxRecDepth 100000 in
set_option maxHeartbeats 800000 in
theorem sVariant_any (v v' : Value) (t p : T) (lo lo2 h h2 : Nat) (w : World) (ht : TermAt w lo h v t) (hp : TermAt w lo2 h2 v' p) (hsum : wT t + wT p ≤ 1048576) :
    Calls Try.prog 38 #[v, v'] w (AnsB (isVar2 t p) w) := by
  obtain ⟨k, n, s, a, m, c, rfl⟩ := ht.shape
  obtain ⟨k', n', s', a', m', c', rfl⟩ := hp.shape
  obtain ⟨W2, hW2⟩ : ∃ W2, W2 = (w.alloc (.cells #[.int .i64 k, .int .i64 n, .string s, .slice a m c] 29)).alloc (.cells #[.int .i64 k', .int .i64 n', .string s', .slice a' m' c'] 29) := ⟨_, rfl⟩
  have hb2 : Below w.heap.size w W2 := by rw [hW2]; exact ((Below.refl _ _).alloc (Nat.le_refl _) _).alloc (by simp) _
  have rA : W2.heap[w.heap.size]? = some (trow k n s (.slice a m c)) := by rw [hW2, Below.heap_alloc _ _ _ (by simp)]; exact heap_new _ _ rfl
  have rB : W2.heap[w.heap.size + 1]? = some (trow k' n' s' (.slice a' m' c')) := by rw [hW2]; exact heap_new _ _ (by simp)
  have HC1 := Lib.hid (sInst_any _ _ t p lo lo2 h h2 W2 (ht.below hb2) (hp.below hb2) (by omega))
  have HC2 := Lib.hid (fun w3 (hb : Below W2.heap.size W2 w3) => sInst_any _ _ p t lo2 lo h2 h w3 ((hp.below hb2).below hb) ((ht.below hb2).below hb) hsum)
  have HB2 := Lib.hid hb2
  have HR := Lib.hid (And.intro rA rB)
  obtain ⟨x, hx⟩ : ∃ x, x = isInst t p := ⟨_, rfl⟩
  obtain ⟨y, hy⟩ : ∃ y, y = isInst p t := ⟨_, rfl⟩
  have HXY : Hid (isVar2 t p = (x && y)) := Lib.hid (by rw [hx, hy]; rfl)
  rw [← hx] at HC1
  rw [← hy] at HC2
  clear ht hp hb2 hsum rA rB hx hy
  go_enter Try.func38, Try.ntmps38
  go_wp2_with fail
  rw [← hW2]
  clear hW2
  refine HC1.out.mono ?_
  rintro e w3 ⟨rfl, hb3⟩
  have HB3 := Lib.hid hb3
  have qA := (hb3.block _ (Array.getElem?_eq_some_iff.1 HR.out.1).1).trans HR.out.1
  have qB := (hb3.block _ (Array.getElem?_eq_some_iff.1 HR.out.2).1).trans HR.out.2
  obtain ⟨⟨y0, y1, y2, y3⟩, _⟩ := cells_of4 qA
  obtain ⟨⟨z0, z1, z2, z3⟩, _⟩ := cells_of4 qB
  clear hb3 qA qB
  cases x with
  | false =>
    have HF : Hid (AnsB (isVar2 t p) w (.returned (.bool false)) w3) := Lib.hid ⟨by rw [HXY.out]; rfl, bel_two HB2.out HB3.out⟩
    go_wp2
    go_ret
    exact HF.out
  | true =>
    go_wp2_with fail
    refine (HC2.out w3 HB3.out).mono ?_
    rintro e w4 ⟨rfl, hb4⟩
    have HF : Hid (AnsB (isVar2 t p) w (.returned (.bool y)) w4) := Lib.hid ⟨by rw [HXY.out]; rfl, bel_two HB2.out (bel_two HB3.out hb4)⟩
    clear hb4
    go_wp2
    go_ret
    exact HF.out
end Go.Proofs.Yteelakhaaipebaa
namespace Go.Proofs.Yteelakhaaipebaa
open Go.RowKit Go.Maps Go.WideMaps

theorem restB_eq {a b : List (ByteArray × T)} (h : ∀ nm, findB a nm = findB b nm) (rs : List ByteArray) : restB a rs = restB b rs := by
  unfold restB
  congr 1
  funext nm
  rw [h]
theorem restB_filter (a : List (ByteArray × T)) : ∀ rs : List ByteArray, restB a (rs.filter (fun nm => (findB a nm).isSome)) = restB a rs
  | [] => rfl
  | x :: r => by
    have ih := restB_filter a r
    have e1 : restB a (x :: r) = restB a [x] ++ restB a r := restB_app a [x] r
    cases h : findB a x with
    | none =>
      rw [List.filter_cons_of_neg (by simp [h]), ih, e1]
      simp [restB, h]
    | some t =>
      rw [List.filter_cons_of_pos (by simp [h]), e1]
      have e2 : restB a (x :: r.filter (fun nm => (findB a nm).isSome)) = restB a [x] ++ restB a (r.filter (fun nm => (findB a nm).isSome)) := restB_app a [x] _
      rw [e2, ih]
theorem in_findB {bs : List (ByteArray × T)} {nm : ByteArray} {t : T} (h : findB bs nm = some t) : nm ∈ bs.map Prod.fst := by
  unfold findB at h
  obtain ⟨x, hx, _⟩ := Option.map_eq_some_iff.1 h
  have h1 := List.find?_some hx
  exact List.mem_map.2 ⟨x, List.mem_of_find?_eq_some hx, (same_iff _ _).1 h1⟩
/-- The names of a match, sorted. -/
theorem match_names {p t : T} {acc full : List (ByteArray × T)} (hm : matT p t [] = some acc) (hs : ∀ nm, findB full nm = findB acc nm) :
    SortedOf (full.map Prod.fst) ((sortK (vT p)).filter (fun nm => (findB acc nm).isSome)) := by
  obtain ⟨h1, h2⟩ := sortK_of (vT p)
  refine ⟨h1.sublist List.filter_sublist, fun x => ?_⟩
  rw [List.mem_filter, h2]
  constructor
  · rintro ⟨_, h⟩
    rw [← hs] at h
    obtain ⟨t, ht⟩ := Option.isSome_iff_exists.1 h
    exact in_findB ht
  · intro h
    obtain ⟨t, ht⟩ := findB_in h
    rw [hs] at ht
    have h3 : (findB acc x).isSome = true := by rw [ht]; rfl
    exact ⟨matT_names hm x h3, h3⟩

/-- A list of Binds in memory of the call's own, and whether there is one. -/
def CopyBbE (r : Option (List (ByteArray × T))) (w : World) (e : Ending) (w' : World) : Prop := ∃ v H, e = .returned (.tuple #[v, .bool r.isSome]) ∧ BsObj w.heap.size w'.heap.size H v (r.getD []) w' ∧ Below w.heap.size w w'
theorem CopyBbE.read {r : Option (List (ByteArray × T))} {w : World} {e : Ending} {w' : World} (q : CopyBbE r w e w') : ReadBbE r w e w' := by
  obtain ⟨v, H, e1, h1, h2⟩ := q
  exact ⟨v, H, e1, h1.1, h2⟩

set_option maxRecDepth 100000 in
set_option maxHeartbeats 1600000 in
theorem iMatch_any (v v' : Value) (p t : T) (lo lo2 h h2 : Nat) (w : World) (hp : TermAt w lo h v p) (ht : TermAt w lo2 h2 v' t) (hsum : wT p + wT t ≤ 1048576) :
    Calls Try.prog 34 #[v, v'] w (CopyBbE (matchB p t) w) := by
  obtain ⟨k, n, s, a, m, c, rfl⟩ := hp.shape
  obtain ⟨k', n', s', a', m', c', rfl⟩ := ht.shape
  obtain ⟨W2, hW2⟩ : ∃ W2, W2 = (w.alloc (.cells #[.int .i64 k, .int .i64 n, .string s, .slice a m c] 29)).alloc (.cells #[.int .i64 k', .int .i64 n', .string s', .slice a' m' c'] 29) := ⟨_, rfl⟩
  have hb2 : Below w.heap.size w W2 := by rw [hW2]; exact ((Below.refl _ _).alloc (Nat.le_refl _) _).alloc (by simp) _
  have HCALL := Lib.hid (matcher_any _ _ p t lo lo2 h h2 W2 (hp.below hb2) (ht.below hb2) hsum)
  have HB2 := Lib.hid hb2
  have HSUM := Lib.hid hsum
  clear hp ht hb2 hsum
  go_enter Try.func34, Try.ntmps34
  go_wp2_with fail
  rw [← hW2]
  clear hW2
  refine HCALL.out.mono ?_
  rintro e w3 ⟨hb3, hsome, hnone⟩
  have HB3 := Lib.hid (bel_two HB2.out hb3)
  cases hm : matT p t [] with
  | none =>
    have he := hnone hm
    subst he
    have HMB : Hid (matchB p t = none) := Lib.hid (by unfold matchB; rw [hm]; rfl)
    obtain ⟨W4, hW4⟩ : ∃ W4, W4 = w3.alloc (.cells #[.map none] 83) := ⟨_, rfl⟩
    have hb4 : Below w3.heap.size w3 W4 := by rw [hW4]; exact (Below.refl _ _).alloc (Nat.le_refl _) _
    have HB4 := Lib.hid (bel_two HB3.out hb4)
    have r4 : W4.heap[w3.heap.size]? = some (.cells #[.map none] 83 (0, 0)) := by rw [hW4]; exact heap_new _ _ rfl
    have c4 := cell_of_row W4 w3.heap.size 0 _ _ _ r4
    simp at c4
    clear hsome hnone hm hb3 hb4 r4
    go_upto_region 2 with fail
    rw [← hW4]
    clear hW4
    go_wp2_with fail
    refine (sortB_nil W4).mono ?_
    rintro e w5 ⟨u, H, rfl, hu, hb5⟩
    have HF : Hid (CopyBbE (matchB p t) w (.returned (.tuple #[u, .bool false])) w5) := Lib.hid (by
      rw [HMB.out]
      exact ⟨u, H, rfl, ⟨hu.1.low HB4.out.size, hu.2.wide HB4.out.size (Nat.le_refl _)⟩, bel_two HB4.out hb5⟩)
    clear hu hb5 c4
    go_wp2
    go_ret2
    exact HF.out
  | some acc =>
    obtain ⟨b, l, full, rfl, htab, hbv, hsame, hw⟩ := hsome acc hm
    have HMB : Hid (matchB p t = some (restB full ((sortK (vT p)).filter (fun nm => (findB acc nm).isSome)))) := Lib.hid (by
      unfold matchB; rw [hm, restB_eq hsame, restB_filter]; rfl)
    obtain ⟨W4, hW4⟩ : ∃ W4, W4 = w3.alloc (.cells #[.map (some b)] 83) := ⟨_, rfl⟩
    have hb4 : Below w3.heap.size w3 W4 := by rw [hW4]; exact (Below.refl _ _).alloc (Nat.le_refl _) _
    have HB4 := Lib.hid (bel_two HB3.out hb4)
    have r4 : W4.heap[w3.heap.size]? = some (.cells #[.map (some b)] 83 (0, 0)) := by rw [hW4]; exact heap_new _ _ rfl
    have c4 := cell_of_row W4 w3.heap.size 0 _ _ _ r4
    simp at c4
    have HSB := Lib.hid (sortB_any b l full _ 0 _ W4 (htab.below hb4) (hbv.below hb4) (by have := HSUM.out; omega) (match_names hm hsame))
    clear hsome hnone hm hb3 hb4 r4 htab hbv hsame hw
    go_upto_region 2 with fail
    rw [← hW4]
    clear hW4
    go_wp2_with fail
    refine HSB.out.mono ?_
    rintro e w5 ⟨u, H, rfl, hu, hb5⟩
    have HF : Hid (CopyBbE (matchB p t) w (.returned (.tuple #[u, .bool true])) w5) := Lib.hid (by
      rw [HMB.out]
      exact ⟨u, H, rfl, ⟨hu.1.low HB4.out.size, hu.2.wide HB4.out.size (Nat.le_refl _)⟩, bel_two HB4.out hb5⟩)
    clear hu hb5 c4 HSB
    go_wp2
    go_ret2
    exact HF.out

set_option maxRecDepth 100000 in
set_option maxHeartbeats 800000 in
theorem iInst_any (v v' : Value) (t p : T) (lo lo2 h h2 : Nat) (w : World) (ht : TermAt w lo h v t) (hp : TermAt w lo2 h2 v' p) (hsum : wT p + wT t ≤ 1048576) :
    Calls Try.prog 36 #[v, v'] w (AnsB (isInst t p) w) := by
  obtain ⟨k, n, s, a, m, c, rfl⟩ := ht.shape
  obtain ⟨k', n', s', a', m', c', rfl⟩ := hp.shape
  obtain ⟨W2, hW2⟩ : ∃ W2, W2 = (w.alloc (.cells #[.int .i64 k, .int .i64 n, .string s, .slice a m c] 29)).alloc (.cells #[.int .i64 k', .int .i64 n', .string s', .slice a' m' c'] 29) := ⟨_, rfl⟩
  have hb2 : Below w.heap.size w W2 := by rw [hW2]; exact ((Below.refl _ _).alloc (Nat.le_refl _) _).alloc (by simp) _
  have HCALL := Lib.hid (matcher_any _ _ p t lo2 lo h2 h W2 (hp.below hb2) (ht.below hb2) hsum)
  have HB2 := Lib.hid hb2
  clear ht hp hb2 hsum
  go_enter Try.func36, Try.ntmps36
  go_wp2_with fail
  rw [← hW2]
  clear hW2
  refine HCALL.out.mono ?_
  rintro e w3 ⟨hb3, hsome, hnone⟩
  have HB3 := Lib.hid (bel_two HB2.out hb3)
  cases hm : matT p t [] with
  | none =>
    have he := hnone hm
    subst he
    have HF : Hid (∀ w', Below w3.heap.size w3 w' → AnsB (isInst t p) w (.returned (.bool false)) w') := Lib.hid (fun w' hb => ⟨by unfold isInst matchB; rw [hm]; rfl, bel_two HB3.out hb⟩)
    clear hsome hnone hm hb3
    go_wp2
    go_ret
    exact HF.out _ ((Below.refl _ _).alloc (Nat.le_refl _) _)
  | some acc =>
    obtain ⟨b, l, full, rfl, _, _, _, _⟩ := hsome acc hm
    have HF : Hid (∀ w', Below w3.heap.size w3 w' → AnsB (isInst t p) w (.returned (.bool true)) w') := Lib.hid (fun w' hb => ⟨by unfold isInst matchB; rw [hm]; rfl, bel_two HB3.out hb⟩)
    clear hsome hnone hm hb3
    go_wp2
    go_ret
    exact HF.out _ ((Below.refl _ _).alloc (Nat.le_refl _) _)

set_option maxRecDepth 100000 in
set_option maxHeartbeats 800000 in
theorem iVariant_any (v v' : Value) (t p : T) (lo lo2 h h2 : Nat) (w : World) (ht : TermAt w lo h v t) (hp : TermAt w lo2 h2 v' p) (hsum : wT t + wT p ≤ 1048576) :
    Calls Try.prog 28 #[v, v'] w (AnsB (isVar2 t p) w) := by
  obtain ⟨k, n, s, a, m, c, rfl⟩ := ht.shape
  obtain ⟨k', n', s', a', m', c', rfl⟩ := hp.shape
  obtain ⟨W2, hW2⟩ : ∃ W2, W2 = (w.alloc (.cells #[.int .i64 k, .int .i64 n, .string s, .slice a m c] 29)).alloc (.cells #[.int .i64 k', .int .i64 n', .string s', .slice a' m' c'] 29) := ⟨_, rfl⟩
  have hb2 : Below w.heap.size w W2 := by rw [hW2]; exact ((Below.refl _ _).alloc (Nat.le_refl _) _).alloc (by simp) _
  have rA : W2.heap[w.heap.size]? = some (trow k n s (.slice a m c)) := by rw [hW2, Below.heap_alloc _ _ _ (by simp)]; exact heap_new _ _ rfl
  have rB : W2.heap[w.heap.size + 1]? = some (trow k' n' s' (.slice a' m' c')) := by rw [hW2]; exact heap_new _ _ (by simp)
  have HC1 := Lib.hid (iInst_any _ _ t p lo lo2 h h2 W2 (ht.below hb2) (hp.below hb2) (by omega))
  have HC2 := Lib.hid (fun w3 (hb : Below W2.heap.size W2 w3) => iInst_any _ _ p t lo2 lo h2 h w3 ((hp.below hb2).below hb) ((ht.below hb2).below hb) hsum)
  have HB2 := Lib.hid hb2
  have HR := Lib.hid (And.intro rA rB)
  obtain ⟨x, hx⟩ : ∃ x, x = isInst t p := ⟨_, rfl⟩
  obtain ⟨y, hy⟩ : ∃ y, y = isInst p t := ⟨_, rfl⟩
  have HXY : Hid (isVar2 t p = (x && y)) := Lib.hid (by rw [hx, hy]; rfl)
  rw [← hx] at HC1
  rw [← hy] at HC2
  clear ht hp hb2 hsum rA rB hx hy
  go_enter Try.func28, Try.ntmps28
  go_wp2_with fail
  rw [← hW2]
  clear hW2
  refine HC1.out.mono ?_
  rintro e w3 ⟨rfl, hb3⟩
  have HB3 := Lib.hid hb3
  have qA := (hb3.block _ (Array.getElem?_eq_some_iff.1 HR.out.1).1).trans HR.out.1
  have qB := (hb3.block _ (Array.getElem?_eq_some_iff.1 HR.out.2).1).trans HR.out.2
  obtain ⟨⟨y0, y1, y2, y3⟩, _⟩ := cells_of4 qA
  obtain ⟨⟨z0, z1, z2, z3⟩, _⟩ := cells_of4 qB
  clear hb3 qA qB
  cases x with
  | false =>
    have HF : Hid (AnsB (isVar2 t p) w (.returned (.bool false)) w3) := Lib.hid ⟨by rw [HXY.out]; rfl, bel_two HB2.out HB3.out⟩
    go_wp2
    go_ret
    exact HF.out
  | true =>
    go_wp2_with fail
    refine (HC2.out w3 HB3.out).mono ?_
    rintro e w4 ⟨rfl, hb4⟩
    have HF : Hid (AnsB (isVar2 t p) w (.returned (.bool y)) w4) := Lib.hid ⟨by rw [HXY.out]; rfl, bel_two HB2.out (bel_two HB3.out hb4)⟩
    clear hb4
    go_wp2
    go_ret
    exact HF.out
end Go.Proofs.Yteelakhaaipebaa
namespace Go.Proofs.Yteelakhaaipebaa
open Go.RowKit

/-- What the count says. -/
def TSz (m : Nat) (left : Int) (w : World) (e : Ending) (w' : World) : Prop :=
  ∃ r : Int, e = .returned (.int .i64 r) ∧ Below w.heap.size w w' ∧ -1 ≤ r ∧ (0 ≤ r → r + m ≤ left)

def SzSAt (lo h : Nat) : Prop := ∀ (u : Value) (ts : List T) (left : Int) (w : World), ArgsAt w lo h u ts → 0 ≤ left → left ≤ 1048576 →
  Calls Try.prog 85 #[u, .int .i64 left] w (TSz (ts.length + wS ts) left w)

set_option maxRecDepth 100000 in
set_option maxHeartbeats 800000 in
theorem szT_of {lo h : Nat} (hS : SzSAt lo h) (k n : Int) (s : ByteArray) (u : Value) (xs : List T) (left : Int) (w : World) (hs : s.size ≤ maxLen) (ha : ArgsAt w lo h u xs) (h0 : 0 ≤ left) (h1 : left ≤ 1048576) :
    Calls Try.prog 40 #[tv k n s u, .int .i64 left] w (TSz (wT (.node k n s xs)) left w) := by
  have hs2 : s.size ≤ 9223372036854775807 := by unfold maxLen at hs; omega
  have hb0 : Below w.heap.size w (w.alloc (.cells #[.int .i64 k, .int .i64 n, .string s, u] 57)) := (Below.refl _ _).alloc (Nat.le_refl _) _
  have HA := Lib.hid (ha.below hb0); clear ha hs
  have HB0 := Lib.hid hb0; clear hb0
  have HW := Lib.hid (wT_node k n s xs)
  by_cases hneg : left - (s.size : Int) < 0
  · go_enter Try.func40, Try.ntmps40
    go_wp2
    go_ret
    exact ⟨-1, rfl, HB0.out, by omega, fun h => by omega⟩
  · go_enter Try.func40, Try.ntmps40
    go_wp2_with fail
    refine (hS u xs (left - (s.size : Int)) _ HA.out (by omega) (by omega)).mono ?_
    rintro e w1 ⟨r, rfl, hb1, hr1, hr2⟩
    have HR := Lib.hid hr2; clear hr2
    have HB1 := Lib.hid (HB0.out.trans (hb1.mono HB0.out.size)); clear hb1
    by_cases hr : r < 0
    · go_wp2
      go_ret
      exact ⟨-1, rfl, HB1.out, by omega, fun h => by omega⟩
    · go_wp2
      go_ret
      refine ⟨r, rfl, HB1.out, by omega, fun h => ?_⟩
      have h2 := HR.out (by omega)
      rw [HW.out]
      omega

set_option maxRecDepth 100000 in
set_option maxHeartbeats 400000 in
theorem szS_empty (left : Int) (a : Option Addr) (cap : Nat) (w : World) (h0 : 0 ≤ left) (h1 : left ≤ 1048576) :
    Calls Try.prog 85 #[.slice a 0 cap, .int .i64 left] w (TSz 0 left w) := by
  have hd : decide (left < 0) = false := by simp; omega
  go_enter Try.func85, Try.ntmps85
  go_wp2
  refine wp_loop_rounds 1 ?_
  rw [rounds_succ]
  go_wp2
  go_ret
  exact ⟨left, rfl, Below.refl _ _, by omega, fun _ => by omega⟩

set_option maxRecDepth 100000 in
set_option maxHeartbeats 1600000 in
theorem szS_some {lo h : Nat} (hS : SzSAt lo h) (b o cap : Nat) (ts : List T) (left : Int) (w : World) (h0 : 0 ≤ left) (h1 : left ≤ 1048576) (hl : ts.length ≤ maxLen)
    (hc : RowAt w lo h b o ts) :
    Calls Try.prog 85 #[.slice (some ⟨b, o, none⟩) ts.length cap, .int .i64 left] w (TSz (ts.length + wS ts) left w) := by
  have HC := Lib.hid hc; clear hc
  have HSS := Lib.hid hS; clear hS
  obtain ⟨n, hn⟩ : ∃ n, n = ts.length := ⟨_, rfl⟩
  have hl2 : ts.length ≤ 9223372036854775807 := by unfold maxLen at hl; omega
  clear hl
  rw [← hn] at hl2 ⊢
  have HN := Lib.hid hn; clear hn
  by_cases hbig : left < n
  · have hd : decide (left - (n : Int) < 0) = true := by simp; omega
    go_enter Try.func85, Try.ntmps85
    go_wp2
    go_ret
    exact ⟨-1, rfl, Below.refl _ _, by omega, fun h => by omega⟩
  · have hd : decide (left - (n : Int) < 0) = false := by simp; omega
    go_enter Try.func85, Try.ntmps85
    go_wp2
    go_loopw [1, 5] (fun q i wr => ∃ (k : Nat) (x : Int), k ≤ n ∧ i = .int .i64 k ∧ q = .int .i64 x ∧ 0 ≤ x ∧ x ≤ left ∧ Hid (x + n + wS (ts.take k) ≤ left) ∧ Below w.heap.size w wr) (fun _ i _ => n - (intOf i).toNat)
    case atStart => exact ⟨0, left - n, Nat.zero_le _, rfl, rfl, by omega, by omega, Lib.hid (by simp [wS]), Below.refl _ _⟩
    case round =>
      obtain ⟨k, x, hk, rfl, rfl, hx0, hx1, HX, hb⟩ := hrel
      have HB := Lib.hid hb; clear hb
      by_cases hlt : k < n
      · obtain ⟨t, ht⟩ : ∃ t, ts[k]? = some t := ⟨_, List.getElem?_eq_getElem (by have := HN.out; omega)⟩
        obtain ⟨tk', tn, tsn, txs⟩ := t
        obtain ⟨hsz, u', c0, c1, c2, c3, har⟩ := HC.out k _ _ _ _ ht
        have keep : ∀ {ad : Addr} {v : Value}, w.cell? ad = some v → wr.cell? ad = some v := fun {ad} {v} hv => by rw [HB.out.cell (World.block_lt_of_cell? w _ hv)]; exact hv
        have d0 := keep c0
        have d1 := keep c1
        have d2 := keep c2
        have d3 := keep c3
        clear c0 c1 c2 c3 keep
        have HAR := Lib.hid (har.below HB.out); clear har
        have HT := Lib.hid (tk ts k _ ht)
        have HSZ := Lib.hid hsz; clear hsz ht
        go_wp2_with fail
        refine (szT_of HSS.out tk' tn tsn u' txs x _ HSZ.out HAR.out hx0 (by omega)).mono ?_
        rintro e w1 ⟨r, rfl, hb1, hr1, hr2⟩
        have HR := Lib.hid hr2; clear hr2
        have HB1 := Lib.hid (HB.out.trans (hb1.mono HB.out.size)); clear hb1
        by_cases hr : r < 0
        · go_wp2
          go_ret
          exact ⟨-1, rfl, HB1.out, by omega, fun h => by omega⟩
        · have hx := HR.out (by omega)
          have HX2 : Hid (r + n + wS (ts.take (k + 1)) ≤ left) := Lib.hid (by rw [HT.out, wS_snoc]; have := HX.out; omega)
          clear hx
          have hrl : r ≤ left := by have := HX2.out; omega
          go_wp2
          go_roundw
          case rel => exact ⟨k + 1, r, by omega, by go_num, rfl, by omega, hrl, HX2, HB1.out⟩
          case measure => simp [intOf]; omega
      · have hkn : k = n := by omega
        have HD : Hid (x + n + wS ts ≤ left) := Lib.hid (by
          have h2 := HX.out
          rw [hkn, HN.out, List.take_length] at h2
          have := HN.out; omega)
        clear hkn
        go_wp2
        go_ret
        exact ⟨x, rfl, HB.out, by omega, fun _ => by have := HD.out; omega⟩

theorem szS_any (lo : Nat) : ∀ h, SzSAt lo h
  | 0 => fun u ts left w ha h0 h1 => by
    obtain ⟨rfl, a, cap, rfl⟩ := ha
    have := szS_empty left a cap w h0 h1
    simpa [wS] using this
  | h + 1 => fun u ts left w ha h0 h1 => by
    rcases ha.cases with ⟨rfl, a, cap, rfl⟩ | ⟨h', b, o, cap, e, rfl, hl, _, hc⟩
    · have := szS_empty left a cap w h0 h1
      simpa [wS] using this
    · obtain rfl : h = h' := by omega
      exact szS_some (szS_any lo h) b o cap ts left w h0 h1 hl hc

theorem szT_any (v : Value) (t : T) (lo h : Nat) (left : Int) (w : World) (ht : TermAt w lo h v t) (h0 : 0 ≤ left) (h1 : left ≤ 1048576) :
    Calls Try.prog 40 #[v, .int .i64 left] w (TSz (wT t) left w) := by
  obtain ⟨k, n, s, u, xs, rfl, rfl, hs, ha⟩ := ht
  exact szT_of (szS_any lo h) k n s u xs left w hs ha h0 h1
end Go.Proofs.Yteelakhaaipebaa
namespace Go.Proofs.Yteelakhaaipebaa
open Go.RowKit

/-- A list of Binds and a word. -/
def RBb (r0 : List (ByteArray × T)) (r1 : Bool) (w : World) (e : Ending) (w' : World) : Prop := ∃ v H, e = .returned (.tuple #[v, .bool r1]) ∧ BsAt w' w.heap.size H v r0 ∧ Below w.heap.size w w'
def CBb (r0 : List (ByteArray × T)) (r1 : Bool) (w : World) (e : Ending) (w' : World) : Prop := ∃ v H, e = .returned (.tuple #[v, .bool r1]) ∧ BsObj w.heap.size w'.heap.size H v r0 w' ∧ Below w.heap.size w w'
theorem restB_mK (a : List (ByteArray × T)) (rs : List ByteArray) (hw : wBs a ≤ 1048577) : mBs (restB a rs) ≤ rs.length * 12582916 := by
  induction rs with
  | nil => simp [restB, mBs]
  | cons x r ih =>
    have h1 : restB a (x :: r) = restB a [x] ++ restB a r := restB_app a [x] r
    rw [h1, mBs_app, List.length_cons, Nat.add_mul]
    have h2 : mBs (restB a [x]) ≤ 12582916 := by
      unfold restB
      cases e : findB a x with
      | none => simp [e, mBs]
      | some t => have h4 := findB_w1 e; have h5 := cT_le t; simp [e, mBs]; omega
    omega
theorem matchB_m {p t : T} (h : wT p + wT t ≤ 1048576) : mBs ((matchB p t).getD []) ≤ 1152921504606846976 ∧ ((matchB p t).getD []).length ≤ 4194304 := by
  unfold matchB
  cases hm : matT p t [] with
  | none => simp [mBs]
  | some acc =>
    have hw := matT_w hm
    have hw2 : wBs acc ≤ 1048577 := by simp [wBs] at hw ⊢; omega
    have g1 := restB_mK acc (sortK (vT p)) hw2
    have g2 := sortK_len (vT p)
    have g3 := vT_le p
    have g4 := cT_le p
    have g5 := restB_len acc (sortK (vT p))
    have g6 : (sortK (vT p)).length * 12582916 ≤ 1048577 * 12582916 := Nat.mul_le_mul_right _ (by omega)
    simp only [Option.map_some, Option.getD_some]
    exact ⟨by omega, by omega⟩
end Go.Proofs.Yteelakhaaipebaa
namespace Go.Proofs.Yteelakhaaipebaa
open Go.RowKit

/-- A list of Binds over which the marks from k on were written. -/
def mkBs (k : Nat) : List (ByteArray × T) → List (ByteArray × T)
  | [] => []
  | x :: r => (mark k, mkT (k + 1) x.2) :: mkBs (k + (1 + 3 * cT x.2)) r
theorem mkBs_length (k : Nat) (bs : List (ByteArray × T)) : (mkBs k bs).length = bs.length := by
  induction bs generalizing k with
  | nil => rfl
  | cons x r ih => rw [mkBs, List.length_cons, List.length_cons, ih]
theorem mkBs_at (bs : List (ByteArray × T)) (k i : Nat) (x : ByteArray × T) (h : bs[i]? = some x) : (mkBs k bs)[i]? = some (mark (k + mBs (bs.take i)), mkT (k + mBs (bs.take i) + 1) x.2) := by
  induction bs generalizing k i with
  | nil => simp at h
  | cons y r ih =>
    rw [mkBs]
    cases i with
    | zero => simp at h; subst h; simp [mBs]
    | succ i =>
      simp at h
      rw [List.getElem?_cons_succ, ih _ i h, List.take_succ_cons]
      have : mBs (y :: r.take i) = (1 + 3 * cT y.2) + mBs (r.take i) := by simp [mBs]
      rw [this, Nat.add_assoc]

/-- The mark of cell q of a Bind. -/
def mvB (c : Nat) : Nat → Value
  | 0 => .string (mark c)
  | 1 => .int .i64 ((c : Int) + 1)
  | 2 => .int .i64 ((c : Int) + 1 + 1)
  | _ => .string (mark (c + 3))

/-- How far the marks of a row have come: all before element j, and q cells of it. -/
def MRowB (h g m cap k j q : Nat) (bs : List (ByteArray × T)) (U : Nat → Value) (L R : Nat → Nat) (w : World) : Prop :=
  ∃ xs, w.ownsRow g 86 5 (.slice (some ⟨g, 0, none⟩) m cap) m xs ∧ (∀ i p kk nn s txs, j ≤ i → bs[i]? = some (p, T.node kk nn s txs) → xs[i * 5 + 4]? = some (U i) ∧ OwnA w h (L i) (R i) (U i) txs) ∧
    (∀ i p kk nn s txs, i < j → bs[i]? = some (p, T.node kk nn s txs) → (∀ c, c < 4 → xs[i * 5 + c]? = some (mvB (k + mBs (bs.take i)) c)) ∧ xs[i * 5 + 4]? = some (U i) ∧ ArgsP (In (L i) (R i)) w h (U i) (mkS (k + mBs (bs.take i) + 4) txs)) ∧
    ∀ p, p < q → xs[j * 5 + p]? = some (mvB (k + mBs (bs.take j)) p)

theorem MRowB.cells {h g m cap k j p : Nat} {bs : List (ByteArray × T)} {U : Nat → Value} {L R : Nat → Nat} {w : World} (c : MRowB h g m cap k j p bs U L R w) {i : Nat} (hi : i < m) (q : Nat) (hq : q < 5) :
    (∃ v, w.cell? ⟨g, i * 5 + q, none⟩ = some v) ∧ w.frozen? ⟨g, i * 5 + q, none⟩ = false := by
  obtain ⟨xs, ho, _⟩ := c
  have hl := ho.1
  refine ⟨?_, ho.frozenAt _⟩
  rw [ho.cellAt (i * 5 + q) (by omega)]
  exact ⟨_, List.getElem?_eq_getElem (by omega)⟩
theorem MRowB.args {h g m cap k j p : Nat} {bs : List (ByteArray × T)} {U : Nat → Value} {L R : Nat → Nat} {w : World} (c : MRowB h g m cap k j p bs U L R w) {p : ByteArray} {kk nn : Int} {s : ByteArray} {txs : List T} (hj : j < m) (ht : bs[j]? = some (p, T.node kk nn s txs)) :
    w.cell? ⟨g, j * 5 + 4, none⟩ = some (U j) ∧ OwnA w h (L j) (R j) (U j) txs := by
  obtain ⟨xs, ho, hx, _⟩ := c
  obtain ⟨h1, h2⟩ := hx j p kk nn s txs (Nat.le_refl _) ht
  exact ⟨by rw [ho.cellAt (j * 5 + 4) (by omega)]; exact h1, h2⟩
/-- The next cell of element j. -/
theorem MRowB.store {h g m cap k j q : Nat} {bs : List (ByteArray × T)} {U : Nat → Value} {L R : Nat → Nat} {w : World} (c : MRowB h g m cap k j q bs U L R w) (hg : ∀ i, g < L i ∨ R i ≤ g) (hq : q < 4) (hj : j < m) {v : Value} (hv : v = mvB (k + mBs (bs.take j)) q) :
    MRowB h g m cap k j (q + 1) bs U L R (w.setCell ⟨g, j * 5 + q, none⟩ v) := by
  obtain ⟨xs, ho, hx, hd, hp⟩ := c
  have hl := ho.1
  have hs : ∀ b, b ≠ g → (w.setCell ⟨g, j * 5 + q, none⟩ v).heap[b]? = w.heap[b]? := fun b hb => Below.heap_setCell _ _ _ _ (fun e => hb (by simpa using e))
  refine ⟨_, (ho.stored (j * 5 + q) v).1, fun i pp kk nn s txs hi ht => ?_, fun i pp kk nn s txs hi ht => ?_, fun p hp' => ?_⟩
  · obtain ⟨h1, h2⟩ := hx i pp kk nn s txs hi ht
    refine ⟨by rw [List.getElem?_set_ne (by omega)]; exact h1, h2.keep fun b b1 b2 => hs b (by have := hg i; omega)⟩
  · obtain ⟨h0, h1, h2⟩ := hd i pp kk nn s txs hi ht
    refine ⟨fun p hp => by rw [List.getElem?_set_ne (by omega)]; exact h0 p hp, by rw [List.getElem?_set_ne (by omega)]; exact h1, h2.keepB fun b hb _ => hs b (by have := hg i; have := hb.1; have := hb.2; omega)⟩
  · by_cases hpq : p = q
    · subst hpq
      rw [List.getElem?_set_self (by omega), hv]
    · rw [List.getElem?_set_ne (by omega)]
      exact hp p (by omega)
theorem MRowB.below {h g m cap k j q : Nat} {bs : List (ByteArray × T)} {U : Nat → Value} {L R : Nat → Nat} {w w' : World} (c : MRowB h g m cap k j q bs U L R w) (hb : Below w.heap.size w w') (hR : ∀ i, R i ≤ w.heap.size) : MRowB h g m cap k j q bs U L R w' := by
  obtain ⟨xs, ho, hx, hd, hp⟩ := c
  refine ⟨xs, keep_own ho hb, fun i pp kk nn s txs hi ht => ?_, fun i pp kk nn s txs hi ht => ?_, hp⟩
  · obtain ⟨h1, h2⟩ := hx i pp kk nn s txs hi ht
    exact ⟨h1, h2.keep fun b b1 b2 => hb.block b (by have := hR i; omega)⟩
  · obtain ⟨h0, h1, h2⟩ := hd i pp kk nn s txs hi ht
    exact ⟨h0, h1, h2.keepB fun b _ hlt => hb.block b hlt⟩
/-- The child's marks. -/
theorem MRowB.child {h g m cap k j : Nat} {bs : List (ByteArray × T)} {U : Nat → Value} {L R : Nat → Nat} {w w' : World} (c : MRowB h g m cap k j 4 bs U L R w) (ho : Out (L j) (R j) w w') (hg : ∀ i, g < L i ∨ R i ≤ g) (hgs : g < w.heap.size) (hR : ∀ i, R i ≤ w.heap.size)
    (hd : ∀ i i', i < i' → i' < bs.length → R i ≤ L i' ∨ R i' ≤ L i) {p : ByteArray} {kk nn : Int} {s : ByteArray} {txs : List T} (ht : bs[j]? = some (p, T.node kk nn s txs)) (hm : ArgsP (In (L j) (R j)) w' h (U j) (mkS (k + mBs (bs.take j) + 4) txs)) :
    MRowB h g m cap k (j + 1) 0 bs U L R w' := by
  obtain ⟨xs, hr, hx, hdn, hp⟩ := c
  have hjl := (List.getElem?_eq_some_iff.1 ht).1
  refine ⟨xs, row_keep hr (ho.2.2.2.2 g hgs (by have := hg j; omega)), fun i pp' kk' nn' s' txs' hi ht' => ?_, fun i pp' kk' nn' s' txs' hi ht' => ?_, fun p hp => by omega⟩
  · obtain ⟨h1, h2⟩ := hx i pp' kk' nn' s' txs' (by omega) ht'
    refine ⟨h1, h2.keep fun b b1 b2 => ho.2.2.2.2 b (by have := hR i; omega) ?_⟩
    have := hd j i (by omega) (List.getElem?_eq_some_iff.1 ht').1
    omega
  · by_cases hij : i = j
    · subst hij
      rw [ht] at ht'
      cases ht'
      exact ⟨hp, (hx i p kk nn s txs (Nat.le_refl _) ht).1, hm⟩
    · obtain ⟨h0, h1, h2⟩ := hdn i pp' kk' nn' s' txs' (by omega) ht'
      refine ⟨h0, h1, h2.keepB fun b hb hlt => ho.2.2.2.2 b hlt ?_⟩
      have := hd i j (by omega) hjl
      have := hb.1; have := hb.2
      omega
theorem MRowB.done {h g m cap k : Nat} {bs : List (ByteArray × T)} {U : Nat → Value} {L R : Nat → Nat} {w : World} (c : MRowB h g m cap k m 0 bs U L R w) (hm : m = bs.length) (hl : m ≤ maxLen) (hk : k + mBs bs ≤ 2305843009213693952) :
    BsAt w 0 h (.slice (some ⟨g, 0, none⟩) m cap) (mkBs k bs) := by
  obtain ⟨xs, ho, _, hd, _⟩ := c
  refine ⟨_, cap, by rw [mkBs_length, hm], by rw [mkBs_length]; omega, Or.inr ⟨g, 0, rfl, Nat.zero_le _, fun i p a b s' txs' hi' => ?_⟩⟩
  have hil : i < bs.length := by have := (List.getElem?_eq_some_iff.1 hi').1; rwa [mkBs_length] at this
  obtain ⟨x, ht⟩ : ∃ x, bs[i]? = some x := ⟨_, List.getElem?_eq_getElem hil⟩
  obtain ⟨pp, kk, nn, s, txs⟩ := x
  rw [mkBs_at bs k i _ ht, mkT_node] at hi'
  simp only [Option.some.injEq, Prod.mk.injEq, T.node.injEq] at hi'
  obtain ⟨rfl, rfl, rfl, rfl, rfl⟩ := hi'
  obtain ⟨h0, h3, h4⟩ := hd i pp kk nn s txs (by omega) ht
  have hct := mBs_take bs (i + 1)
  rw [tk bs i _ ht, mBs_snoc] at hct
  refine ⟨mark_size _ (by omega), mark_size _ (by simp only [cT_node] at hct; omega), U i, ?_, ?_, ?_, ?_, ?_, h4.args (fun _ _ => Nat.zero_le _)⟩
  · rw [Nat.zero_add, ho.cellAt (i * 5) (by omega)]; exact h0 0 (by omega)
  · rw [Nat.zero_add, ho.cellAt (i * 5 + 1) (by omega), h0 1 (by omega)]; simp [mvB]
  · rw [Nat.zero_add, ho.cellAt (i * 5 + 2) (by omega), h0 2 (by omega)]; simp [mvB]
  · rw [Nat.zero_add, ho.cellAt (i * 5 + 3) (by omega), h0 3 (by omega)]; simp [mvB]
  · rw [Nat.zero_add, ho.cellAt (i * 5 + 4) (by omega)]; exact h3

def MarkBsE (lo hi k h : Nat) (u : Value) (bs : List (ByteArray × T)) (w : World) (e : Ending) (w' : World) : Prop := MarkOut lo hi (k + mBs bs) w e w' ∧ BsAt w' 0 h u (mkBs k bs)

set_option maxRecDepth 100000 in
set_option maxHeartbeats 400000 in
theorem markBs_empty (lo hi k h : Nat) (a : Option Addr) (cap : Nat) (w : World) :
    Calls Try.prog 52 #[.slice a 0 cap, .int .i64 k] w (MarkBsE lo hi k h (.slice a 0 cap) [] w) := by
  go_enter Try.func52, Try.ntmps52
  go_wp2
  refine wp_loop_rounds 1 ?_
  rw [rounds_succ]
  go_wp2
  go_ret
  exact ⟨⟨rfl, Out.refl _ _ _⟩, ⟨_, _, rfl, Nat.zero_le _, Or.inl rfl⟩⟩

set_option maxRecDepth 100000 in
set_option maxHeartbeats 1600000 in
theorem markBs_some {h : Nat} (g cap : Nat) (bs : List (ByteArray × T)) (U : Nat → Value) (L R : Nat → Nat) (lo hi k : Nat) (w : World) (hrel0 : MRowB h g bs.length cap k 0 0 bs U L R w) (h1 : lo ≤ g) (h2 : g < hi) (hhi : hi ≤ w.heap.size)
    (hg : ∀ i, g < L i ∨ R i ≤ g) (hL : ∀ i, lo ≤ L i) (hR : ∀ i, R i ≤ hi) (hd : ∀ i j, i < j → j < bs.length → R i ≤ L j ∨ R j ≤ L i) (hk : 1 ≤ k) (hkc : k + mBs bs ≤ 2305843009213693952) :
    Calls Try.prog 52 #[.slice (some ⟨g, 0, none⟩) bs.length cap, .int .i64 k] w (MarkBsE lo hi k h (.slice (some ⟨g, 0, none⟩) bs.length cap) bs w) := by
  have hl : bs.length ≤ 2305843009213693952 := by have := len_mBs bs; omega
  have HG := Lib.hid hg; clear hg
  have HL := Lib.hid hL; clear hL
  have HRR := Lib.hid hR; clear hR
  have HDD := Lib.hid hd; clear hd
  have HKC := Lib.hid hkc; clear hkc
  obtain ⟨m, hm⟩ : ∃ m, m = bs.length := ⟨_, rfl⟩
  rw [← hm] at hrel0 hl ⊢
  have HM := Lib.hid hm; clear hm
  have HR0 := Lib.hid hrel0; clear hrel0
  go_enter Try.func52, Try.ntmps52
  go_wp2
  go_loopw [1, 5] (fun q i wr => ∃ (j c : Nat), j ≤ m ∧ i = .int .i64 j ∧ q = .int .i64 c ∧ Hid (c = k + mBs (bs.take j)) ∧ Hid (MRowB h g m cap k j 0 bs U L R wr) ∧ Hid (Out lo hi w wr)) (fun _ i _ => m - (intOf i).toNat)
  case atStart => exact ⟨0, k, Nat.zero_le _, rfl, rfl, Lib.hid (by simp [mBs]), HR0, Lib.hid (Out.refl _ _ _)⟩
  case round =>
    obtain ⟨j, c, hj, rfl, rfl, HC, HR, HO⟩ := hrel
    have hcb : c ≤ 2305843009213693952 := by have := HC.out; have := mBs_take bs j; have := HKC.out; omega
    have hc1 : 1 ≤ c := by have := HC.out; omega
    by_cases hlt : j < m
    · obtain ⟨x, ht⟩ : ∃ x, bs[j]? = some x := ⟨_, List.getElem?_eq_getElem (by have := HM.out; omega)⟩
      obtain ⟨p1, tk1, tn1, ts1, txs⟩ := x
      have hct : mBs (bs.take (j + 1)) = mBs (bs.take j) + (1 + 3 * (1 + cS txs)) := by rw [tk bs j _ ht, mBs_snoc, cT_node]
      have hctl := mBs_take bs (j + 1)
      have HCT := Lib.hid hct
      have hcx : c + 4 + 3 * cS txs ≤ 2305843009213693952 := by have := HC.out; have := HKC.out; omega
      have htl2 : txs.length ≤ 2305843009213693952 := by have := len_cS txs; omega
      clear hct hctl
      have hgs : g < wr.heap.size := by have := HO.out.2.2.2.1; omega
      have hRs : Hid (∀ i, R i ≤ wr.heap.size) := Lib.hid (fun i => by have := HRR.out i; have := HO.out.2.2.2.1; omega)
      have HT := Lib.hid ht; clear ht
      go_wp2_with fail
      refine (markText_int _ c _ (by omega) (by omega) (by omega)).mono ?_
      rintro e w0 ⟨rfl, hb0⟩
      have HS0 := Lib.hid (HR.out.below hb0 (fun i => by have := hRs.out i; simpa using this))
      have hw0 : wr.heap.size ≤ w0.heap.size := by have := hb0.size; simpa [World.setCell] using this
      have HO0 := Lib.hid (HO.out.trans (Out.of_below hb0)); clear hb0
      obtain ⟨⟨o0, g0⟩, f0⟩ := HS0.out.cells hlt 0 (by omega)
      obtain ⟨⟨o1, g1⟩, f1⟩ := HS0.out.cells hlt 1 (by omega)
      obtain ⟨⟨o2, g2⟩, f2⟩ := HS0.out.cells hlt 2 (by omega)
      rw [Nat.add_zero] at g0 f0
      have s0 := HS0.out.store (q := 0) HG.out (by omega) hlt (v := .string (mark c)) (by rw [HC.out]; rfl)
      rw [Nat.add_zero] at s0
      have s1 := s0.store (q := 1) HG.out (by omega) hlt (v := .int .i64 ((c : Int) + 1)) (by rw [HC.out]; rfl)
      have s2 := s1.store (q := 2) HG.out (by omega) hlt (v := .int .i64 ((c : Int) + 1 + 1)) (by rw [HC.out]; rfl)
      have HS1 := Lib.hid s2; clear s0 s1 s2
      have HO1 := Lib.hid (HO0.out.trans ((Out.set (lo := lo) (hi := hi) w0 g (j * 5) (.string (mark c)) h1 h2).trans ((Out.set _ g (j * 5 + 1) (.int .i64 ((c : Int) + 1)) h1 h2).trans (Out.set _ g (j * 5 + 2) (.int .i64 ((c : Int) + 1 + 1)) h1 h2))))
      go_wp2_with fail
      refine (markText_int _ (c + 3) _ (by omega) (by omega) (by omega)).mono ?_
      rintro e w1 ⟨rfl, hb1⟩
      have HS2 := Lib.hid (HS1.out.below hb1 (fun i => by have := hRs.out i; simp [World.setCell]; omega))
      have hw1 : w0.heap.size ≤ w1.heap.size := by have := hb1.size; simpa [World.setCell] using this
      have HO2 := Lib.hid (HO1.out.trans (Out.of_below hb1)); clear hb1 g0 g1 g2 f0 f1 f2
      obtain ⟨⟨o3, g3⟩, f3⟩ := HS2.out.cells hlt 3 (by omega)
      have HS3 := Lib.hid (HS2.out.store (q := 3) HG.out (by omega) hlt (v := .string (mark (c + 3))) (by rw [HC.out]; rfl))
      have HO3 := Lib.hid (HO2.out.trans (Out.set (lo := lo) (hi := hi) w1 g (j * 5 + 3) (.string (mark (c + 3))) h1 h2))
      obtain ⟨ca, hoa⟩ := HS3.out.args hlt HT.out
      have hsz : w1.heap.size = (w1.setCell ⟨g, j * 5 + 3, none⟩ (.string (mark (c + 3)))).heap.size := by simp [World.setCell]
      have hcall := markP_any h (U j) txs (L j) (R j) (c + 4) _ hoa (by have := hRs.out j; omega) (by omega) (by omega)
      obtain ⟨ua, uc, hu⟩ := hoa.slice
      rw [hu] at ca hcall
      clear hoa
      have HUE := Lib.hid hu; clear hu
      have HCALL := Lib.hid hcall; clear hcall
      go_wp2_with fail
      have hcast : ((c : Int) + 1 + 1 + 1 + 1) = ((c + 4 : Nat) : Int) := by omega
      rw [hcast]
      refine HCALL.out.mono ?_
      rintro e w2 ⟨⟨rfl, ho2⟩, hp2⟩
      have HR4 := Lib.hid (HS3.out.child ho2 HG.out (by omega) (fun i => by have := hRs.out i; omega) HDD.out HT.out (by rw [HUE.out, ← HC.out]; exact hp2))
      have HO4 := Lib.hid (HO3.out.trans (ho2.wide (HL.out j) (HRR.out j))); clear ho2 hp2
      have HC4 : Hid (c + 4 + 3 * cS txs = k + mBs (bs.take (j + 1))) := Lib.hid (by have := HC.out; have := HCT.out; omega)
      go_wp2
      go_roundw
      case rel => exact ⟨j + 1, c + 4 + 3 * cS txs, by omega, by go_num, rfl, HC4, HR4, HO4⟩
      case measure => simp [intOf]; omega
    · have HD : Hid (c = k + mBs bs) := Lib.hid (by
        have hjm : j = bs.length := by have := HM.out; omega
        rw [HC.out, hjm, List.take_length])
      have hjm : j = m := by omega
      have HF := Lib.hid ((hjm ▸ HR.out).done HM.out (by unfold maxLen; omega) HKC.out)
      go_wp2
      go_ret
      exact ⟨⟨by rw [← HD.out]; rfl, HO.out⟩, HF.out⟩

theorem markBs_any (u : Value) (bs : List (ByteArray × T)) (h lo hi k : Nat) (w : World) (ho : OwnBs w h lo hi u bs) (hhi : hi ≤ w.heap.size) (hk : 1 ≤ k) (hkc : k + mBs bs ≤ 2305843009213693952) :
    Calls Try.prog 52 #[u, .int .i64 k] w (MarkBsE lo hi k h u bs w) := by
  obtain ⟨a, cap, rfl, hc⟩ := ho
  by_cases hn : bs = []
  · subst hn
    exact markBs_empty lo hi k h a cap w
  · obtain ⟨g, xs, U, L, R, rfl, h1, h2, ho, hx, hd⟩ := hc.resolve_left hn
    have hin : ∀ i, i < bs.length → lo ≤ L i ∧ R i ≤ hi ∧ (g < L i ∨ R i ≤ g) := fun i hi' => by
      obtain ⟨t, ht⟩ : ∃ t, bs[i]? = some t := ⟨_, List.getElem?_eq_getElem hi'⟩
      obtain ⟨p, kk, nn, s, txs⟩ := t
      obtain ⟨_, l1, l2, l3, _⟩ := hx i p kk nn s txs ht
      exact ⟨l1, l2, l3⟩
    refine markBs_some g cap bs U (fun i => if i < bs.length then L i else lo) (fun i => if i < bs.length then R i else lo) lo hi k w ⟨xs, ho, fun i p kk nn s txs _ ht => ?_, fun i _ _ _ _ _ hi' => by omega, fun p hp => by omega⟩ h1 h2 hhi ?_ ?_ ?_ ?_ hk hkc
    · have hi' := (List.getElem?_eq_some_iff.1 ht).1
      obtain ⟨x3, _, _, _, hr⟩ := hx i p kk nn s txs ht
      exact ⟨x3, by simpa [hi'] using hr⟩
    · intro i
      by_cases hi' : i < bs.length
      · simpa [hi'] using (hin i hi').2.2
      · simp [hi']; omega
    · intro i
      by_cases hi' : i < bs.length
      · simpa [hi'] using (hin i hi').1
      · simp [hi']
    · intro i
      by_cases hi' : i < bs.length
      · simpa [hi'] using (hin i hi').2.1
      · simp [hi']; omega
    · intro i j hij hj
      have hi' : i < bs.length := by omega
      simpa [hi', hj] using hd i j hij hj
end Go.Proofs.Yteelakhaaipebaa
namespace Go.Proofs.Yteelakhaaipebaa
open Go.RowKit

def HeldSAt (h : Nat) : Prop := ∀ (u : Value) (ts : List T) (lo k : Nat) (w : World), ArgsAt w lo h u (mkS k ts) → 1 ≤ k → k + 3 * cS ts ≤ 2305843009213693952 →
  Calls Try.prog 102 #[u, .int .i64 k] w (NumB ((k + 3 * cS ts : Nat) : Int) w)

set_option maxRecDepth 100000 in
set_option maxHeartbeats 1600000 in
theorem heldS_step (h : Nat) (IH : ∀ h', h = h' + 1 → HeldSAt h') : HeldSAt h := by
  intro u ts lo k w ha hk hkc
  obtain ⟨a, cap, rfl⟩ := ha.slice
  rw [mkS_length] at ha ⊢
  have hl : ts.length ≤ 2305843009213693952 := by have := len_cS ts; omega
  have HA := Lib.hid ha; clear ha
  have HIH := Lib.hid IH; clear IH
  have HKC := Lib.hid hkc; clear hkc
  obtain ⟨m, hm⟩ : ∃ m, m = ts.length := ⟨_, rfl⟩
  rw [← hm] at HA hl ⊢
  have HM := Lib.hid hm; clear hm
  go_enter Try.func102, Try.ntmps102
  go_wp2
  go_loopw [1, 5] (fun q i wr => ∃ (j c : Nat), j ≤ m ∧ i = .int .i64 j ∧ q = .int .i64 c ∧ Hid (c = k + 3 * cS (ts.take j)) ∧ Hid (Below w.heap.size w wr)) (fun _ i _ => m - (intOf i).toNat)
  case atStart => exact ⟨0, k, Nat.zero_le _, rfl, rfl, Lib.hid (by simp [cS]), Lib.hid (Below.refl _ _)⟩
  case round =>
    obtain ⟨j, c, hj, rfl, rfl, HC, HB⟩ := hrel
    have hcb : c ≤ 2305843009213693952 := by have := HC.out; have := cS_take ts j; have := HKC.out; omega
    have hc1 : 1 ≤ c := by have := HC.out; omega
    by_cases hlt : j < m
    · obtain ⟨t, ht⟩ : ∃ t, ts[j]? = some t := ⟨_, List.getElem?_eq_getElem (by have := HM.out; omega)⟩
      have hmk := mkS_at ts k j t ht
      obtain ⟨tk1, tn1, ts1, txs⟩ := t
      rw [← HC.out, mkT_node] at hmk
      have hct : cS (ts.take (j + 1)) = cS (ts.take j) + (1 + cS txs) := by rw [tk ts j _ ht, cS_snoc, cT_node]
      have hctl := cS_take ts (j + 1)
      have HCT := Lib.hid hct
      have hcx : c + 3 + 3 * cS txs ≤ 2305843009213693952 := by have := HC.out; have := HKC.out; omega
      obtain ⟨h', b, o, kk, nn, s, xs, u', e, rfl, en, hs, d0, d1, d2, d3, har⟩ := HA.out.at hmk
      cases en
      have c0 := cell_on HB.out d0
      have c1 := cell_on HB.out d1
      have c2 := cell_on HB.out d2
      have c3 := cell_on HB.out d3
      have HAR := Lib.hid (har.below HB.out); clear har d0 d1 d2 d3 hct hctl ht hmk hs
      obtain ⟨ua, uc, rfl⟩ := HAR.out.slice
      have hb0 : Below wr.heap.size wr wr := Below.refl _ _
      have hgw : b < wr.heap.size := World.block_lt_of_cell? wr _ c2
      have hq0 : ((c : Int) != (c : Int)) = false := by simp
      have hq1 : ((c : Int) + 1 != (c : Int) + 1) = false := by simp
      have hq2 : ((mark (c + 2)).toList == (mark (c + 2)).toList) = true := by simp
      have hcall := fun (w' : World) (hb : Below wr.heap.size wr w') => HIH.out h' e _ txs lo (c + 3) w' (HAR.out.below hb) (by omega) hcx
      rw [mkS_length] at hcall c3
      have HCALL := Lib.hid hcall; clear hcall
      have hcast : ((c : Int) + 1 + 1) = ((c + 2 : Nat) : Int) := by omega
      go_wp2
      go_region_held3 (fun w' => w'.cell? ⟨b, o + j * 4 + 2, none⟩ = some (.string (mark (c + 2))) ∧ w'.cell? ⟨b, o + j * 4 + 3, none⟩ = some (.slice ua txs.length uc) ∧ Below wr.heap.size wr w')
        (first | exact ⟨cell_on (bel_drew (by assumption)) c2, cell_on (bel_drew (by assumption)) c3, bel_drew (by assumption)⟩ | exact ⟨c2, c3, Below.drew (Below.refl _ _)⟩ | go_keep)
        (first | (go_at_call 101; refine (markText_int _ (c + 2) _ (by omega) (by omega) (by omega)).mono ?_; rintro e w1 ⟨rfl, hb1⟩))
      have hb2 : Below wr.heap.size wr w1 := bel_drew hb1
      have HB2 := Lib.hid (HB.out.trans (hb2.mono HB.out.size))
      have d3 := cell_on hb2 c3
      have hcall := HCALL.out _ hb2
      have HCX := Lib.hid hcall; clear hcall hb2 hb1 hb0
      go_wp2_with fail
      first | rw [show ((c : Int) + 3) = ((c + 3 : Nat) : Int) by omega] | rw [show ((c : Int) + 2 + 1) = ((c + 3 : Nat) : Int) by omega] | rw [show ((c : Int) + 1 + 1 + 1) = ((c + 3 : Nat) : Int) by omega]
      refine HCX.out.mono ?_
      rintro e w2 ⟨rfl, hb3⟩
      have HB3 := Lib.hid (HB2.out.trans (hb3.mono HB2.out.size)); clear hb3
      have HC4 : Hid (c + 3 + 3 * cS txs = k + 3 * cS (ts.take (j + 1))) := Lib.hid (by have := HC.out; have := HCT.out; omega)
      have hpos : ¬ ((c + 3 + 3 * cS txs : Nat) : Int) < 0 := by omega
      go_wp2
      go_roundw
      case rel => exact ⟨j + 1, c + 3 + 3 * cS txs, by omega, by go_num, rfl, HC4, HB3⟩
      case measure => simp [intOf]; omega
    · have HD : Hid (c = k + 3 * cS ts) := Lib.hid (by
        have hjm : j = ts.length := by have := HM.out; omega
        rw [HC.out, hjm, List.take_length])
      go_wp2
      go_ret
      exact ⟨by rw [← HD.out]; rfl, HB.out⟩

theorem heldS_any (h : Nat) : HeldSAt h := by_height heldS_step h

end Go.Proofs.Yteelakhaaipebaa
namespace Go.Proofs.Yteelakhaaipebaa
open Go.RowKit

set_option maxRecDepth 100000 in
set_option maxHeartbeats 3200000 in
theorem heldBs_any (u : Value) (bs : List (ByteArray × T)) (lo h k : Nat) (w : World) (ha : BsAt w lo h u (mkBs k bs)) (hk : 1 ≤ k) (hkc : k + mBs bs ≤ 2305843009213693952) :
    Calls Try.prog 53 #[u, .int .i64 k] w (NumB ((k + mBs bs : Nat) : Int) w) := by
  have HA := Lib.hid ha
  obtain ⟨a, cap, rfl⟩ := ha.slice
  rw [mkBs_length] at HA ⊢
  have hl : bs.length ≤ 2305843009213693952 := by have := len_mBs bs; omega
  clear ha
  have HKC := Lib.hid hkc; clear hkc
  obtain ⟨m, hm⟩ : ∃ m, m = bs.length := ⟨_, rfl⟩
  rw [← hm] at HA hl ⊢
  have HM := Lib.hid hm; clear hm
  go_enter Try.func53, Try.ntmps53
  go_wp2
  go_loopw [1, 5] (fun q i wr => ∃ (j c : Nat), j ≤ m ∧ i = .int .i64 j ∧ q = .int .i64 c ∧ Hid (c = k + mBs (bs.take j)) ∧ Hid (Below w.heap.size w wr)) (fun _ i _ => m - (intOf i).toNat)
  case atStart => exact ⟨0, k, Nat.zero_le _, rfl, rfl, Lib.hid (by simp [mBs]), Lib.hid (Below.refl _ _)⟩
  case round =>
    obtain ⟨j, c, hj, rfl, rfl, HC, HB⟩ := hrel
    have hcb : c ≤ 2305843009213693952 := by have := HC.out; have := mBs_take bs j; have := HKC.out; omega
    have hc1 : 1 ≤ c := by have := HC.out; omega
    by_cases hlt : j < m
    · obtain ⟨x, ht⟩ : ∃ x, bs[j]? = some x := ⟨_, List.getElem?_eq_getElem (by have := HM.out; omega)⟩
      have hmk := mkBs_at bs k j x ht
      obtain ⟨p1, tk1, tn1, ts1, txs⟩ := x
      rw [← HC.out, mkT_node] at hmk
      have hct : mBs (bs.take (j + 1)) = mBs (bs.take j) + (1 + 3 * (1 + cS txs)) := by rw [tk bs j _ ht, mBs_snoc, cT_node]
      have hctl := mBs_take bs (j + 1)
      have HCT := Lib.hid hct
      have hcx : c + 4 + 3 * cS txs ≤ 2305843009213693952 := by have := HC.out; have := HKC.out; omega
      obtain ⟨b, o, c', p, kk, nn, s, xs, u', e, en, _, _, _, d0, d1, d2, d3, d4, har⟩ := HA.out.at hmk
      cases en
      have hml : m = (mkBs k bs).length := by rw [mkBs_length]; exact HM.out
      obtain ⟨rfl, -, rfl⟩ : a = some ⟨b, o, none⟩ ∧ m = (mkBs k bs).length ∧ cap = c' := by simpa using e
      have c0 := cell_on HB.out d0
      have c1 := cell_on HB.out d1
      have c2 := cell_on HB.out d2
      have c3 := cell_on HB.out d3
      have c4 := cell_on HB.out d4
      have HAR := Lib.hid (har.below HB.out); clear har d0 d1 d2 d3 d4 hct hctl ht hmk e hml
      obtain ⟨ua, uc, rfl⟩ := HAR.out.slice
      have hq0 : ((mark c).toList == (mark c).toList) = true := by simp
      have hq1 : ((c : Int) + 1 != (c : Int) + 1) = false := by simp
      have hq2 : ((c : Int) + 1 + 1 != (c : Int) + 1 + 1) = false := by simp
      have hq3 : ((mark (c + 1 + 2)).toList == (mark (c + 1 + 2)).toList) = true := by simp
      have hcall := fun (w' : World) (hb : Below wr.heap.size wr w') => heldS_any h _ txs lo (c + 4) w' (HAR.out.below hb) (by omega) hcx
      rw [mkS_length] at hcall c4
      have HCALL := Lib.hid hcall; clear hcall
      have HK : Hid (∀ w', Below wr.heap.size wr w' → w'.cell? ⟨b, o + j * 5, none⟩ = some (.string (mark c)) ∧ w'.cell? ⟨b, o + j * 5 + 1, none⟩ = some (.int .i64 ((c : Int) + 1)) ∧ w'.cell? ⟨b, o + j * 5 + 2, none⟩ = some (.int .i64 ((c : Int) + 1 + 1)) ∧ w'.cell? ⟨b, o + j * 5 + 3, none⟩ = some (.string (mark (c + 1 + 2))) ∧ w'.cell? ⟨b, o + j * 5 + 4, none⟩ = some (.slice ua txs.length uc)) := Lib.hid (fun w' hb => by
        refine ⟨cell_on hb c0, cell_on hb ?_, cell_on hb ?_, cell_on hb c3, cell_on hb c4⟩
        · rw [c1]; simp
        · rw [c2]; simp)
      clear c0 c1 c2 c3 c4
      obtain ⟨c0, c1, c2, c3, c4⟩ := HK.out _ (Below.refl _ _)
      have hb0 : Below wr.heap.size wr wr := Below.refl _ _
      go_wp2
      go_region_held3 (fun w' => w'.cell? ⟨b, o + j * 5, none⟩ = some (.string (mark c)) ∧ Below wr.heap.size wr w')
        (first | exact ⟨cell_on (bel_drew (by assumption)) c0, bel_drew (by assumption)⟩ | exact ⟨c0, Below.drew (Below.refl _ _)⟩ | go_keep)
        (first | (go_at_call 101; refine (markText_int _ c _ (by omega) (by omega) (by omega)).mono ?_; rintro e w1 ⟨rfl, hb1⟩))
      have hb2 : Below wr.heap.size wr w1 := bel_drew hb1
      have HB2 := Lib.hid hb2
      clear hb0 hb1 c0 c1 c2 c3 c4
      obtain ⟨c0, c1, c2, c3, c4⟩ := HK.out _ HB2.out
      have hcast : ((c : Int) + 1 + 1 + 1) = ((c + 3 : Nat) : Int) := by omega
      have hb0 : Below w1.heap.size w1 w1 := Below.refl _ _
      clear hb2
      go_wp2
      go_region_held3 (fun w' => w'.cell? ⟨b, o + j * 5 + 3, none⟩ = some (.string (mark (c + 1 + 2))) ∧ Below w1.heap.size w1 w')
        (first | exact ⟨cell_on (bel_drew (by assumption)) c3, bel_drew (by assumption)⟩ | exact ⟨c3, Below.drew (Below.refl _ _)⟩ | go_keep)
        (first | (go_at_call 101; refine (markText_int _ (c + 1 + 2) _ (by omega) (by omega) (by omega)).mono ?_; rintro e w2 ⟨rfl, hb1⟩))
      have hb3 : Below w1.heap.size w1 w2 := bel_drew hb1
      have HB3 := Lib.hid (bel_two HB2.out hb3)
      clear hb0 hb1 hb3 c0 c1 c2 c3 c4
      obtain ⟨c0, c1, c2, c3, c4⟩ := HK.out _ HB3.out
      have hcall := HCALL.out _ HB3.out
      have HCX := Lib.hid hcall; clear hcall
      go_wp2_with fail
      first | rw [show ((c : Int) + 3 + 1) = ((c + 4 : Nat) : Int) by omega] | rw [show ((c : Int) + 4) = ((c + 4 : Nat) : Int) by omega] | rw [show ((c : Int) + 1 + 1 + 1 + 1) = ((c + 4 : Nat) : Int) by omega]
      refine HCX.out.mono ?_
      rintro e w3 ⟨rfl, hb3⟩
      have HB4 := Lib.hid (HB.out.trans ((bel_two HB3.out hb3).mono HB.out.size)); clear hb3
      have HC4 : Hid (c + 4 + 3 * cS txs = k + mBs (bs.take (j + 1))) := Lib.hid (by have := HC.out; have := HCT.out; omega)
      have hpos : ¬ ((c + 4 + 3 * cS txs : Nat) : Int) < 0 := by omega
      go_wp2
      go_roundw
      case rel => exact ⟨j + 1, c + 4 + 3 * cS txs, by omega, by go_num, rfl, HC4, HB4⟩
      case measure => simp [intOf]; omega
    · have HD : Hid (c = k + mBs bs) := Lib.hid (by
        have hjm : j = bs.length := by have := HM.out; omega
        rw [HC.out, hjm, List.take_length])
      go_wp2
      go_ret
      exact ⟨by rw [← HD.out]; rfl, HB.out⟩
end Go.Proofs.Yteelakhaaipebaa
