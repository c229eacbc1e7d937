/-
  The ascending list of a list's strings, as a term; what its Binds weigh. No walk.
  spec.MatchTerm, spec.IsInstance and spec.IsVariant.
  impl.MatchTerm, impl.IsInstance and impl.IsVariant.
  A match makes the pattern equal to the term. No program.
-/
import Derived.Test.YteelakhaaipebaaQ22
import Derived.Test.YteelakhaaipebaaQ41
import Derived.Test.YteelakhaaipebaaQ42
import Derived.Test.YteelakhaaipebaaQ38
import Derived.Test.YteelakhaaipebaaQ40
import Derived.Test.YteelakhaaipebaaQ7
namespace Go.Proofs.Yteelakhaaipebaa
open Go.RowKit

def insK (s : ByteArray) : List ByteArray → List ByteArray
  | [] => [s]
  | r :: t => if key s < key r then s :: r :: t else if key r < key s then r :: insK s t else r :: t
theorem insK_mem (s x : ByteArray) : ∀ l, x ∈ insK s l ↔ x = s ∨ x ∈ l
  | [] => by simp [insK]
  | r :: t => by
    unfold insK
    by_cases h1 : key s < key r
    · rw [if_pos h1]; simp
    · rw [if_neg h1]
      by_cases h2 : key r < key s
      · rw [if_pos h2, List.mem_cons, insK_mem s x t, List.mem_cons]
        constructor
        · rintro (h | h | h)
          · exact Or.inr (Or.inl h)
          · exact Or.inl h
          · exact Or.inr (Or.inr h)
        · rintro (h | h | h)
          · exact Or.inr (Or.inl h)
          · exact Or.inl h
          · exact Or.inr (Or.inr h)
      · rw [if_neg h2]
        have e : s = r := by
          by_cases hk : key s = key r
          · exact key_inj hk
          · rcases lt_or hk with h | h
            · exact absurd h h1
            · exact absurd h h2
        subst e
        simp
theorem insK_pw (s : ByteArray) : ∀ l : List ByteArray, l.Pairwise (fun a b => key a < key b) → (insK s l).Pairwise (fun a b => key a < key b)
  | [], _ => by simp [insK]
  | r :: t, h => by
    obtain ⟨h1, h2⟩ := List.pairwise_cons.1 h
    unfold insK
    by_cases e1 : key s < key r
    · rw [if_pos e1]
      refine List.pairwise_cons.2 ⟨fun y hy => ?_, h⟩
      rcases List.mem_cons.1 hy with e | e
      · subst e; exact e1
      · exact lt_tr e1 (h1 y e)
    · rw [if_neg e1]
      by_cases e2 : key r < key s
      · rw [if_pos e2]
        refine List.pairwise_cons.2 ⟨fun y hy => ?_, insK_pw s t h2⟩
        rcases (insK_mem s y t).1 hy with e | e
        · subst e; exact e2
        · exact h1 y e
      · rw [if_neg e2]; exact h
theorem insK_len (s : ByteArray) : ∀ l : List ByteArray, (insK s l).length ≤ l.length + 1
  | [] => by simp [insK]
  | r :: t => by
    unfold insK
    by_cases e1 : key s < key r
    · rw [if_pos e1]; simp
    · rw [if_neg e1]
      by_cases e2 : key r < key s
      · rw [if_pos e2]; have := insK_len s t; simp; omega
      · rw [if_neg e2]; simp
def sortK : List ByteArray → List ByteArray
  | [] => []
  | s :: l => insK s (sortK l)
theorem sortK_of : ∀ ps, SortedOf ps (sortK ps)
  | [] => SortedOf.nil
  | s :: l => by
    obtain ⟨h1, h2⟩ := sortK_of l
    exact ⟨insK_pw s _ h1, fun x => by rw [sortK, insK_mem, h2 x, List.mem_cons]⟩
theorem sortK_len : ∀ ps, (sortK ps).length ≤ ps.length
  | [] => Nat.le_refl _
  | s :: l => by have := sortK_len l; have := insK_len s (sortK l); rw [sortK, List.length_cons]; omega
end Go.Proofs.Yteelakhaaipebaa
namespace Go.Proofs.Yteelakhaaipebaa
open Go.RowKit

theorem vT_size : ∀ (t : T) (x : ByteArray), x ∈ vT t → x.size ≤ wT t
  | .node k n s xs, x, h => by
    rw [vT_node] at h
    rw [wT_node]
    rcases List.mem_append.1 h with h | h
    · split at h
      · simp at h; subst h; omega
      · simp at h
    · obtain ⟨l, hl, hx⟩ := List.mem_flatten.1 h
      obtain ⟨y, hy, rfl⟩ := List.mem_map.1 hl
      have h1 := vT_size y x hx
      obtain ⟨i, hi⟩ := List.mem_iff_getElem?.1 hy
      have h2 := wT_at xs i y hi
      omega
/-- The match of a pattern and a term, in the names' order. -/
noncomputable def matchB (p t : T) : Option (List (ByteArray × T)) := (matT p t []).map (fun a => restB a (sortK (vT p)))
theorem sorted_self {ps rs : List ByteArray} (h : SortedOf ps rs) : SortedOf rs rs := ⟨h.1, fun _ => Iff.rfl⟩

/-- A list of Binds to be read, and whether there is one. -/
def ReadBbE (r : Option (List (ByteArray × T))) (w : World) (e : Ending) (w' : World) : Prop := ∃ v H, e = .returned (.tuple #[v, .bool r.isSome]) ∧ BsAt w' w.heap.size H v (r.getD []) ∧ Below w.heap.size w w'

set_option maxRecDepth 100000 in
set_option maxHeartbeats 1600000 in
theorem sMatch_any (v v' : Value) (p t : T) (lo lo2 h h2 : Nat) (w : World) (hp : TermAt w lo h v p) (ht : TermAt w lo2 h2 v' t) (hsum : wT p + wT t ≤ 1048576) :
    Calls Try.prog 35 #[v, v'] w (ReadBbE (matchB p t) w) := by
  obtain ⟨k, n, s, a, m, c, rfl⟩ := hp.shape
  obtain ⟨k', n', s', a', m', c', rfl⟩ := ht.shape
  obtain ⟨W2, hW2⟩ : ∃ W2, W2 = (w.alloc (.cells #[.int .i64 k, .int .i64 n, .string s, .slice a m c] 29)).alloc (.cells #[.int .i64 k', .int .i64 n', .string s', .slice a' m' c'] 29) := ⟨_, rfl⟩
  have hb2 : Below w.heap.size w W2 := by rw [hW2]; exact ((Below.refl _ _).alloc (Nat.le_refl _) _).alloc (by simp) _
  have rA : W2.heap[w.heap.size]? = some (trow k n s (.slice a m c)) := by rw [hW2, Below.heap_alloc _ _ _ (by simp)]; exact heap_new _ _ rfl
  have rB : W2.heap[w.heap.size + 1]? = some (trow k' n' s' (.slice a' m' c')) := by rw [hW2]; exact heap_new _ _ (by simp)
  have hz2 : W2.heap.size = w.heap.size + 2 := by rw [hW2]; simp
  obtain ⟨W3, hW3⟩ : ∃ W3, W3 = W2.alloc (.cells #[] 86) := ⟨_, rfl⟩
  have hb3 : Below W2.heap.size W2 W3 := by rw [hW3]; exact (Below.refl _ _).alloc (Nat.le_refl _) _
  have hg3 : GrowB false h2 W2.heap.size (.slice (some ⟨W2.heap.size, 0, none⟩) 0 0) [] W3 := by rw [hW3]; exact GrowB.lit _ _ _ _ (Nat.le_refl _)
  have HCALL := Lib.hid (l8Match_any 0 h _ _ p t h2 W2.heap.size h2 (.slice (some ⟨W2.heap.size, 0, none⟩) 0 0) [] W2 W3 ((hp.low (Nat.zero_le _)).below hb2) ((ht.low (Nat.zero_le _)).below hb2) (Nat.le_refl _) (by omega) (by omega) (by simp [wBs]; omega) hg3 (Nat.le_refl _) hb3 hb3.size)
  have HB2 := Lib.hid hb2; have HB3 := Lib.hid hb3; have HR := Lib.hid (And.intro rA (And.intro rB hz2))
  have HP := Lib.hid ((hp.low (Nat.zero_le _)).below hb2)
  have HSUM := Lib.hid hsum
  have HSZ : Hid (W2.heap.size = w.heap.size + 2) := Lib.hid hz2
  clear hp ht hb2 hb3 rA rB hz2 hg3 hsum
  go_enter Try.func35, Try.ntmps35
  go_upto_region 1 with fail
  rw [← hW2]
  clear hW2
  obtain ⟨⟨y0, y1, y2, y3⟩, _⟩ := cells_of4 HR.out.1
  obtain ⟨⟨z0, z1, z2, z3⟩, _⟩ := cells_of4 HR.out.2.1
  go_wp2_with fail
  rw [← hW3]
  clear hW3 y0 y1 y2 y3 z0 z1 z2 z3
  refine HCALL.out.mono ?_
  rintro e w5 ⟨ua, um, uc, rfl, hg5, hr5, hsome⟩
  have hb35 : Below W2.heap.size W2 w5 := HB3.out.grown hg5 HB3.out.size (fun i hi => by simp [Value.ownBlock] at hi; omega)
  have HB5 := Lib.hid (bel_two HB2.out hb35)
  have HB25 := Lib.hid hb35
  have HSOME := Lib.hid hsome
  clear hg5 hr5 hb35 hsome HCALL
  cases hm5 : matT p t [] with
  | none =>
    simp only [Option.isSome_none]
    have HF : Hid (ReadBbE (matchB p t) w (.returned (.tuple #[.slice (some ⟨w5.heap.size, 0, none⟩) 0 0, .bool false])) (w5.alloc (.cells #[] 86))) := Lib.hid (by
      unfold matchB
      rw [hm5]
      exact ⟨_, 0, rfl, ⟨_, 0, rfl, Nat.zero_le _, Or.inl rfl⟩, HB5.out.alloc HB5.out.size _⟩)
    clear hm5
    go_wp2
    go_ret2
    exact HF.out
  | some acc =>
    simp only [Option.isSome_some]
    obtain ⟨hum, hga⟩ := HSOME.out acc hm5
    have hwa : wBs acc ≤ 1048577 := by have h := matT_w hm5; have := HSUM.out; simp [wBs] at h ⊢; omega
    have HMB : Hid (matchB p t = some (restB acc (sortK (vT p)))) := Lib.hid (by unfold matchB; rw [hm5]; rfl)
    have HACC := Lib.hid (And.intro hwa (hga.at (by have := wBs_len acc; unfold maxLen; omega)))
    have HUM := Lib.hid hum
    have rA5 := (HB25.out.block _ (by have := HSZ.out; omega)).trans HR.out.1
    obtain ⟨⟨y0, y1, y2, y3⟩, _⟩ := cells_of4 rA5
    have HV := Lib.hid (sVarsOf_any _ p 0 h w5 (HP.out.below HB25.out) (by have := HSUM.out; omega))
    clear hm5 hga hum hwa rA5 HSOME
    go_wp2_with fail
    refine HV.out.mono ?_
    rintro e w6 ⟨vu, rs, rfl, hso, hrl, hro, hb6⟩
    have HF6 := Lib.hid (restS_anyK (.slice ua um uc) vu acc rs rs W2.heap.size h2 w6 HACC.out.1 (HACC.out.2.below hb6) (by have h1 := vT_le p; have h2 := cT_le p; have := HSUM.out; omega) (fun x hx => by have h1 := vT_size p x ((hso.2 x).1 hx); have := HSUM.out; unfold maxLen; omega) (StrsAt.of_owns hro) (sorted_self hso))
    have HRS : Hid (rs = sortK (vT p)) := Lib.hid (hso.unique (sortK_of _))
    have HB6 := Lib.hid (bel_two HB5.out hb6)
    obtain ⟨va, vc, rfl⟩ := own_formR hro
    clear hso hrl hro hb6 y0 y1 y2 y3 HV
    go_wp2_with fail
    refine HF6.out.mono ?_
    rintro e w7 ⟨xv, H7, rfl, hx7, hb7⟩
    have HF : Hid (ReadBbE (matchB p t) w (.returned (.tuple #[xv, .bool true])) w7) := Lib.hid (by
      rw [HMB.out]
      refine ⟨xv, H7, rfl, ?_, bel_two HB6.out hb7⟩
      rw [HRS.out] at hx7
      exact hx7.low (HB6.out.size))
    clear hx7 hb7
    go_wp2
    go_ret2
    exact HF.out

/-- A pattern and a term match. -/
noncomputable def isInst (t p : T) : Bool := (matchB p t).isSome

set_option maxRecDepth 100000 in
set_option maxHeartbeats 800000 in
theorem sInst_any (v v' : Value) (t p : T) (lo lo2 h h2 : Nat) (w : World) (ht : TermAt w lo h v t) (hp : TermAt w lo2 h2 v' p) (hsum : wT p + wT t ≤ 1048576) :
    Calls Try.prog 56 #[v, v'] w (AnsB (isInst t p) w) := by
  obtain ⟨k, n, s, a, m, c, rfl⟩ := ht.shape
  obtain ⟨k', n', s', a', m', c', rfl⟩ := hp.shape
  obtain ⟨W2, hW2⟩ : ∃ W2, W2 = (w.alloc (.cells #[.int .i64 k, .int .i64 n, .string s, .slice a m c] 29)).alloc (.cells #[.int .i64 k', .int .i64 n', .string s', .slice a' m' c'] 29) := ⟨_, rfl⟩
  have hb2 : Below w.heap.size w W2 := by rw [hW2]; exact ((Below.refl _ _).alloc (Nat.le_refl _) _).alloc (by simp) _
  have HCALL := Lib.hid (sMatch_any _ _ p t lo2 lo h2 h W2 (hp.below hb2) (ht.below hb2) hsum)
  have HB2 := Lib.hid hb2
  clear ht hp hb2 hsum
  go_enter Try.func56, Try.ntmps56
  go_wp2_with fail
  rw [← hW2]
  clear hW2
  refine HCALL.out.mono ?_
  rintro e w3 ⟨u, H, rfl, hu, hb3⟩
  have HF : Hid (AnsB (isInst t p) w (.returned (.bool (matchB p t).isSome)) w3) := Lib.hid ⟨rfl, bel_two HB2.out hb3⟩
  clear hu hb3
  go_wp2
  go_ret
  exact HF.out

/-- Each is an instance of the other. -/
noncomputable def isVar2 (a b : T) : Bool := isInst a b && isInst b a

set_option maxRecDepth 100000 in
set_option maxHeartbeats 800000 in
theorem sVariant_any (v v' : Value) (t p : T) (lo lo2 h h2 : Nat) (w : World) (ht : TermAt w lo h v t) (hp : TermAt w lo2 h2 v' p) (hsum : wT t + wT p ≤ 1048576) :
    Calls Try.prog 38 #[v, v'] w (AnsB (isVar2 t p) w) := by
  obtain ⟨k, n, s, a, m, c, rfl⟩ := ht.shape
  obtain ⟨k', n', s', a', m', c', rfl⟩ := hp.shape
  obtain ⟨W2, hW2⟩ : ∃ W2, W2 = (w.alloc (.cells #[.int .i64 k, .int .i64 n, .string s, .slice a m c] 29)).alloc (.cells #[.int .i64 k', .int .i64 n', .string s', .slice a' m' c'] 29) := ⟨_, rfl⟩
  have hb2 : Below w.heap.size w W2 := by rw [hW2]; exact ((Below.refl _ _).alloc (Nat.le_refl _) _).alloc (by simp) _
  have rA : W2.heap[w.heap.size]? = some (trow k n s (.slice a m c)) := by rw [hW2, Below.heap_alloc _ _ _ (by simp)]; exact heap_new _ _ rfl
  have rB : W2.heap[w.heap.size + 1]? = some (trow k' n' s' (.slice a' m' c')) := by rw [hW2]; exact heap_new _ _ (by simp)
  have HC1 := Lib.hid (sInst_any _ _ t p lo lo2 h h2 W2 (ht.below hb2) (hp.below hb2) (by omega))
  have HC2 := Lib.hid (fun w3 (hb : Below W2.heap.size W2 w3) => sInst_any _ _ p t lo2 lo h2 h w3 ((hp.below hb2).below hb) ((ht.below hb2).below hb) hsum)
  have HB2 := Lib.hid hb2
  have HR := Lib.hid (And.intro rA rB)
  obtain ⟨x, hx⟩ : ∃ x, x = isInst t p := ⟨_, rfl⟩
  obtain ⟨y, hy⟩ : ∃ y, y = isInst p t := ⟨_, rfl⟩
  have HXY : Hid (isVar2 t p = (x && y)) := Lib.hid (by rw [hx, hy]; rfl)
  rw [← hx] at HC1
  rw [← hy] at HC2
  clear ht hp hb2 hsum rA rB hx hy
  go_enter Try.func38, Try.ntmps38
  go_wp2_with fail
  rw [← hW2]
  clear hW2
  refine HC1.out.mono ?_
  rintro e w3 ⟨rfl, hb3⟩
  have HB3 := Lib.hid hb3
  have qA := (hb3.block _ (Array.getElem?_eq_some_iff.1 HR.out.1).1).trans HR.out.1
  have qB := (hb3.block _ (Array.getElem?_eq_some_iff.1 HR.out.2).1).trans HR.out.2
  obtain ⟨⟨y0, y1, y2, y3⟩, _⟩ := cells_of4 qA
  obtain ⟨⟨z0, z1, z2, z3⟩, _⟩ := cells_of4 qB
  clear hb3 qA qB
  cases x with
  | false =>
    have HF : Hid (AnsB (isVar2 t p) w (.returned (.bool false)) w3) := Lib.hid ⟨by rw [HXY.out]; rfl, bel_two HB2.out HB3.out⟩
    go_wp2
    go_ret
    exact HF.out
  | true =>
    go_wp2_with fail
    refine (HC2.out w3 HB3.out).mono ?_
    rintro e w4 ⟨rfl, hb4⟩
    have HF : Hid (AnsB (isVar2 t p) w (.returned (.bool y)) w4) := Lib.hid ⟨by rw [HXY.out]; rfl, bel_two HB2.out (bel_two HB3.out hb4)⟩
    clear hb4
    go_wp2
    go_ret
    exact HF.out
end Go.Proofs.Yteelakhaaipebaa
namespace Go.Proofs.Yteelakhaaipebaa
open Go.RowKit Go.Maps Go.WideMaps

theorem restB_eq {a b : List (ByteArray × T)} (h : ∀ nm, findB a nm = findB b nm) (rs : List ByteArray) : restB a rs = restB b rs := by
  unfold restB
  congr 1
  funext nm
  rw [h]
theorem restB_filter (a : List (ByteArray × T)) : ∀ rs : List ByteArray, restB a (rs.filter (fun nm => (findB a nm).isSome)) = restB a rs
  | [] => rfl
  | x :: r => by
    have ih := restB_filter a r
    have e1 : restB a (x :: r) = restB a [x] ++ restB a r := restB_app a [x] r
    cases h : findB a x with
    | none =>
      rw [List.filter_cons_of_neg (by simp [h]), ih, e1]
      simp [restB, h]
    | some t =>
      rw [List.filter_cons_of_pos (by simp [h]), e1]
      have e2 : restB a (x :: r.filter (fun nm => (findB a nm).isSome)) = restB a [x] ++ restB a (r.filter (fun nm => (findB a nm).isSome)) := restB_app a [x] _
      rw [e2, ih]
theorem in_findB {bs : List (ByteArray × T)} {nm : ByteArray} {t : T} (h : findB bs nm = some t) : nm ∈ bs.map Prod.fst := by
  unfold findB at h
  obtain ⟨x, hx, _⟩ := Option.map_eq_some_iff.1 h
  have h1 := List.find?_some hx
  exact List.mem_map.2 ⟨x, List.mem_of_find?_eq_some hx, (same_iff _ _).1 h1⟩
/-- The names of a match, sorted. -/
theorem match_names {p t : T} {acc full : List (ByteArray × T)} (hm : matT p t [] = some acc) (hs : ∀ nm, findB full nm = findB acc nm) :
    SortedOf (full.map Prod.fst) ((sortK (vT p)).filter (fun nm => (findB acc nm).isSome)) := by
  obtain ⟨h1, h2⟩ := sortK_of (vT p)
  refine ⟨h1.sublist List.filter_sublist, fun x => ?_⟩
  rw [List.mem_filter, h2]
  constructor
  · rintro ⟨_, h⟩
    rw [← hs] at h
    obtain ⟨t, ht⟩ := Option.isSome_iff_exists.1 h
    exact in_findB ht
  · intro h
    obtain ⟨t, ht⟩ := findB_in h
    rw [hs] at ht
    have h3 : (findB acc x).isSome = true := by rw [ht]; rfl
    exact ⟨matT_names hm x h3, h3⟩

/-- A list of Binds in memory of the call's own, and whether there is one. -/
def CopyBbE (r : Option (List (ByteArray × T))) (w : World) (e : Ending) (w' : World) : Prop := ∃ v H, e = .returned (.tuple #[v, .bool r.isSome]) ∧ BsObj w.heap.size w'.heap.size H v (r.getD []) w' ∧ Below w.heap.size w w'
theorem CopyBbE.read {r : Option (List (ByteArray × T))} {w : World} {e : Ending} {w' : World} (q : CopyBbE r w e w') : ReadBbE r w e w' := by
  obtain ⟨v, H, e1, h1, h2⟩ := q
  exact ⟨v, H, e1, h1.1, h2⟩

set_option maxRecDepth 100000 in
set_option maxHeartbeats 1600000 in
theorem iMatch_any (v v' : Value) (p t : T) (lo lo2 h h2 : Nat) (w : World) (hp : TermAt w lo h v p) (ht : TermAt w lo2 h2 v' t) (hsum : wT p + wT t ≤ 1048576) :
    Calls Try.prog 34 #[v, v'] w (CopyBbE (matchB p t) w) := by
  obtain ⟨k, n, s, a, m, c, rfl⟩ := hp.shape
  obtain ⟨k', n', s', a', m', c', rfl⟩ := ht.shape
  obtain ⟨W2, hW2⟩ : ∃ W2, W2 = (w.alloc (.cells #[.int .i64 k, .int .i64 n, .string s, .slice a m c] 29)).alloc (.cells #[.int .i64 k', .int .i64 n', .string s', .slice a' m' c'] 29) := ⟨_, rfl⟩
  have hb2 : Below w.heap.size w W2 := by rw [hW2]; exact ((Below.refl _ _).alloc (Nat.le_refl _) _).alloc (by simp) _
  have HCALL := Lib.hid (matcher_any _ _ p t lo lo2 h h2 W2 (hp.below hb2) (ht.below hb2) hsum)
  have HB2 := Lib.hid hb2
  have HSUM := Lib.hid hsum
  clear hp ht hb2 hsum
  go_enter Try.func34, Try.ntmps34
  go_wp2_with fail
  rw [← hW2]
  clear hW2
  refine HCALL.out.mono ?_
  rintro e w3 ⟨hb3, hsome, hnone⟩
  have HB3 := Lib.hid (bel_two HB2.out hb3)
  cases hm : matT p t [] with
  | none =>
    have he := hnone hm
    subst he
    have HMB : Hid (matchB p t = none) := Lib.hid (by unfold matchB; rw [hm]; rfl)
    obtain ⟨W4, hW4⟩ : ∃ W4, W4 = w3.alloc (.cells #[.map none] 83) := ⟨_, rfl⟩
    have hb4 : Below w3.heap.size w3 W4 := by rw [hW4]; exact (Below.refl _ _).alloc (Nat.le_refl _) _
    have HB4 := Lib.hid (bel_two HB3.out hb4)
    have r4 : W4.heap[w3.heap.size]? = some (.cells #[.map none] 83 (0, 0)) := by rw [hW4]; exact heap_new _ _ rfl
    have c4 := cell_of_row W4 w3.heap.size 0 _ _ _ r4
    simp at c4
    clear hsome hnone hm hb3 hb4 r4
    go_upto_region 2 with fail
    rw [← hW4]
    clear hW4
    go_wp2_with fail
    refine (sortB_nil W4).mono ?_
    rintro e w5 ⟨u, H, rfl, hu, hb5⟩
    have HF : Hid (CopyBbE (matchB p t) w (.returned (.tuple #[u, .bool false])) w5) := Lib.hid (by
      rw [HMB.out]
      exact ⟨u, H, rfl, ⟨hu.1.low HB4.out.size, hu.2.wide HB4.out.size (Nat.le_refl _)⟩, bel_two HB4.out hb5⟩)
    clear hu hb5 c4
    go_wp2
    go_ret2
    exact HF.out
  | some acc =>
    obtain ⟨b, l, full, rfl, htab, hbv, hsame, hw⟩ := hsome acc hm
    have HMB : Hid (matchB p t = some (restB full ((sortK (vT p)).filter (fun nm => (findB acc nm).isSome)))) := Lib.hid (by
      unfold matchB; rw [hm, restB_eq hsame, restB_filter]; rfl)
    obtain ⟨W4, hW4⟩ : ∃ W4, W4 = w3.alloc (.cells #[.map (some b)] 83) := ⟨_, rfl⟩
    have hb4 : Below w3.heap.size w3 W4 := by rw [hW4]; exact (Below.refl _ _).alloc (Nat.le_refl _) _
    have HB4 := Lib.hid (bel_two HB3.out hb4)
    have r4 : W4.heap[w3.heap.size]? = some (.cells #[.map (some b)] 83 (0, 0)) := by rw [hW4]; exact heap_new _ _ rfl
    have c4 := cell_of_row W4 w3.heap.size 0 _ _ _ r4
    simp at c4
    have HSB := Lib.hid (sortB_any b l full _ 0 _ W4 (htab.below hb4) (hbv.below hb4) (by have := HSUM.out; omega) (match_names hm hsame))
    clear hsome hnone hm hb3 hb4 r4 htab hbv hsame hw
    go_upto_region 2 with fail
    rw [← hW4]
    clear hW4
    go_wp2_with fail
    refine HSB.out.mono ?_
    rintro e w5 ⟨u, H, rfl, hu, hb5⟩
    have HF : Hid (CopyBbE (matchB p t) w (.returned (.tuple #[u, .bool true])) w5) := Lib.hid (by
      rw [HMB.out]
      exact ⟨u, H, rfl, ⟨hu.1.low HB4.out.size, hu.2.wide HB4.out.size (Nat.le_refl _)⟩, bel_two HB4.out hb5⟩)
    clear hu hb5 c4 HSB
    go_wp2
    go_ret2
    exact HF.out

set_option maxRecDepth 100000 in
set_option maxHeartbeats 800000 in
theorem iInst_any (v v' : Value) (t p : T) (lo lo2 h h2 : Nat) (w : World) (ht : TermAt w lo h v t) (hp : TermAt w lo2 h2 v' p) (hsum : wT p + wT t ≤ 1048576) :
    Calls Try.prog 36 #[v, v'] w (AnsB (isInst t p) w) := by
  obtain ⟨k, n, s, a, m, c, rfl⟩ := ht.shape
  obtain ⟨k', n', s', a', m', c', rfl⟩ := hp.shape
  obtain ⟨W2, hW2⟩ : ∃ W2, W2 = (w.alloc (.cells #[.int .i64 k, .int .i64 n, .string s, .slice a m c] 29)).alloc (.cells #[.int .i64 k', .int .i64 n', .string s', .slice a' m' c'] 29) := ⟨_, rfl⟩
  have hb2 : Below w.heap.size w W2 := by rw [hW2]; exact ((Below.refl _ _).alloc (Nat.le_refl _) _).alloc (by simp) _
  have HCALL := Lib.hid (matcher_any _ _ p t lo2 lo h2 h W2 (hp.below hb2) (ht.below hb2) hsum)
  have HB2 := Lib.hid hb2
  clear ht hp hb2 hsum
  go_enter Try.func36, Try.ntmps36
  go_wp2_with fail
  rw [← hW2]
  clear hW2
  refine HCALL.out.mono ?_
  rintro e w3 ⟨hb3, hsome, hnone⟩
  have HB3 := Lib.hid (bel_two HB2.out hb3)
  cases hm : matT p t [] with
  | none =>
    have he := hnone hm
    subst he
    have HF : Hid (∀ w', Below w3.heap.size w3 w' → AnsB (isInst t p) w (.returned (.bool false)) w') := Lib.hid (fun w' hb => ⟨by unfold isInst matchB; rw [hm]; rfl, bel_two HB3.out hb⟩)
    clear hsome hnone hm hb3
    go_wp2
    go_ret
    exact HF.out _ ((Below.refl _ _).alloc (Nat.le_refl _) _)
  | some acc =>
    obtain ⟨b, l, full, rfl, _, _, _, _⟩ := hsome acc hm
    have HF : Hid (∀ w', Below w3.heap.size w3 w' → AnsB (isInst t p) w (.returned (.bool true)) w') := Lib.hid (fun w' hb => ⟨by unfold isInst matchB; rw [hm]; rfl, bel_two HB3.out hb⟩)
    clear hsome hnone hm hb3
    go_wp2
    go_ret
    exact HF.out _ ((Below.refl _ _).alloc (Nat.le_refl _) _)

set_option maxRecDepth 100000 in
set_option maxHeartbeats 800000 in
theorem iVariant_any (v v' : Value) (t p : T) (lo lo2 h h2 : Nat) (w : World) (ht : TermAt w lo h v t) (hp : TermAt w lo2 h2 v' p) (hsum : wT t + wT p ≤ 1048576) :
    Calls Try.prog 28 #[v, v'] w (AnsB (isVar2 t p) w) := by
  obtain ⟨k, n, s, a, m, c, rfl⟩ := ht.shape
  obtain ⟨k', n', s', a', m', c', rfl⟩ := hp.shape
  obtain ⟨W2, hW2⟩ : ∃ W2, W2 = (w.alloc (.cells #[.int .i64 k, .int .i64 n, .string s, .slice a m c] 29)).alloc (.cells #[.int .i64 k', .int .i64 n', .string s', .slice a' m' c'] 29) := ⟨_, rfl⟩
  have hb2 : Below w.heap.size w W2 := by rw [hW2]; exact ((Below.refl _ _).alloc (Nat.le_refl _) _).alloc (by simp) _
  have rA : W2.heap[w.heap.size]? = some (trow k n s (.slice a m c)) := by rw [hW2, Below.heap_alloc _ _ _ (by simp)]; exact heap_new _ _ rfl
  have rB : W2.heap[w.heap.size + 1]? = some (trow k' n' s' (.slice a' m' c')) := by rw [hW2]; exact heap_new _ _ (by simp)
  have HC1 := Lib.hid (iInst_any _ _ t p lo lo2 h h2 W2 (ht.below hb2) (hp.below hb2) (by omega))
  have HC2 := Lib.hid (fun w3 (hb : Below W2.heap.size W2 w3) => iInst_any _ _ p t lo2 lo h2 h w3 ((hp.below hb2).below hb) ((ht.below hb2).below hb) hsum)
  have HB2 := Lib.hid hb2
  have HR := Lib.hid (And.intro rA rB)
  obtain ⟨x, hx⟩ : ∃ x, x = isInst t p := ⟨_, rfl⟩
  obtain ⟨y, hy⟩ : ∃ y, y = isInst p t := ⟨_, rfl⟩
  have HXY : Hid (isVar2 t p = (x && y)) := Lib.hid (by rw [hx, hy]; rfl)
  rw [← hx] at HC1
  rw [← hy] at HC2
  clear ht hp hb2 hsum rA rB hx hy
  go_enter Try.func28, Try.ntmps28
  go_wp2_with fail
  rw [← hW2]
  clear hW2
  refine HC1.out.mono ?_
  rintro e w3 ⟨rfl, hb3⟩
  have HB3 := Lib.hid hb3
  have qA := (hb3.block _ (Array.getElem?_eq_some_iff.1 HR.out.1).1).trans HR.out.1
  have qB := (hb3.block _ (Array.getElem?_eq_some_iff.1 HR.out.2).1).trans HR.out.2
  obtain ⟨⟨y0, y1, y2, y3⟩, _⟩ := cells_of4 qA
  obtain ⟨⟨z0, z1, z2, z3⟩, _⟩ := cells_of4 qB
  clear hb3 qA qB
  cases x with
  | false =>
    have HF : Hid (AnsB (isVar2 t p) w (.returned (.bool false)) w3) := Lib.hid ⟨by rw [HXY.out]; rfl, bel_two HB2.out HB3.out⟩
    go_wp2
    go_ret
    exact HF.out
  | true =>
    go_wp2_with fail
    refine (HC2.out w3 HB3.out).mono ?_
    rintro e w4 ⟨rfl, hb4⟩
    have HF : Hid (AnsB (isVar2 t p) w (.returned (.bool y)) w4) := Lib.hid ⟨by rw [HXY.out]; rfl, bel_two HB2.out (bel_two HB3.out hb4)⟩
    clear hb4
    go_wp2
    go_ret
    exact HF.out
end Go.Proofs.Yteelakhaaipebaa
namespace Go.Proofs.Yteelakhaaipebaa
open Go.RowKit

theorem map_congr_names (F G : ByteArray → Option T) : ∀ t, (∀ nm ∈ vT t, F nm = G nm) → mapT F (fun s => s) t = mapT G (fun s => s) t
  | .node k n s xs, h => by
    have hm : xs.map (mapT F (fun s => s)) = xs.map (mapT G (fun s => s)) := List.map_congr_left (fun x hx => map_congr_names F G x (fun nm hn => h nm (by
      rw [vT_node, vS]
      exact List.mem_append_right _ (List.mem_flatten.2 ⟨_, List.mem_map.2 ⟨x, hx, rfl⟩, hn⟩))))
    rw [mapT_node, mapT_node, hm]
    by_cases hk : k = 1
    · rw [if_pos hk, if_pos hk, h s (by rw [vT_node, if_pos hk]; simp)]
    · rw [if_neg hk, if_neg hk]
/-- What is found stays, and each pattern becomes its term. -/
theorem run_apply (l : List (T × T)) (acc : List (ByteArray × T)) : ∀ a', runM l acc = some a' → (∀ nm u, findB acc nm = some u → findB a' nm = some u) ∧ ∀ x ∈ l, mapT (findB a') (fun s => s) x.1 = x.2 := by
  induction l, acc using runM.induct with
  | case1 acc => intro a' h; rw [runM_nil] at h; cases h; exact ⟨fun nm u h => h, by simp⟩
  | case2 n s ps k' n' s' ts l' acc acc' hm ih =>
    intro a' h
    rw [runM_var, hm] at h
    obtain ⟨h1, h2⟩ := ih a' h
    obtain ⟨m1, m2⟩ := meetV_keeps hm
    refine ⟨fun nm u hu => h1 nm u (m2 nm u hu), fun x hx => ?_⟩
    rcases List.mem_cons.1 hx with rfl | hx
    · simp only
      rw [mapT_node, if_pos rfl, h1 _ _ m1]
    · exact h2 x hx
  | case3 n s ps k' n' s' ts l' acc hm => intro a' h; rw [runM_var, hm] at h; cases h
  | case4 k n s ps k' n' s' ts l' acc hk he ih =>
    obtain ⟨rfl, rfl, rfl, hl⟩ := he
    intro a' h
    rw [runM_app hk hl] at h
    obtain ⟨h1, h2⟩ := ih a' h
    refine ⟨h1, fun x hx => ?_⟩
    rcases List.mem_cons.1 hx with rfl | hx
    · simp only
      rw [mapT_node, if_neg hk]
      have e : ps.map (mapT (findB a') (fun s => s)) = ts := by
        apply List.ext_getElem
        · rw [List.length_map, hl]
        · intro i i1 i2
          rw [List.getElem_map]
          have i3 : i < ps.length := by rw [List.length_map] at i1; exact i1
          have hz : (ps.zip ts)[i]? = some (ps[i], ts[i]) := by
            rw [List.getElem?_zip_eq_some]
            exact ⟨List.getElem?_eq_getElem i3, List.getElem?_eq_getElem i2⟩
          exact h2 (ps[i], ts[i]) (List.mem_append_left _ (List.mem_iff_getElem?.2 ⟨i, hz⟩))
      rw [e]
    · exact h2 x (List.mem_append_right _ hx)
  | case5 k n s ps k' n' s' ts l' acc hk he => intro a' h; rw [runM_no hk he] at h; cases h
theorem findB_rest (a : List (ByteArray × T)) : ∀ (rs : List ByteArray) (nm : ByteArray), nm ∈ rs → findB (restB a rs) nm = findB a nm
  | [], nm, h => by simp at h
  | x :: r, nm, h => by
    have e1 : restB a (x :: r) = restB a [x] ++ restB a r := restB_app a [x] r
    have app : ∀ (b c : List (ByteArray × T)), findB (b ++ c) nm = (match findB b nm with | some u => some u | none => findB c nm) := fun b c => by
      unfold findB
      rw [List.find?_append]
      cases b.find? (fun x => x.1.toList == nm.toList) <;> simp
    rw [e1, app]
    by_cases hx : x = nm
    · subst hx
      cases e : findB a x with
      | none =>
        have h1 : restB a [x] = [] := by simp [restB, e]
        rw [h1]
        simp only [findB, List.find?_nil, Option.map_none]
        have h2 : ∀ rs : List ByteArray, findB (restB a rs) x = none := fun rs => by
          cases e3 : findB (restB a rs) x with
          | none => rfl
          | some t =>
            have h3 := in_findB e3
            obtain ⟨y, hy, e4⟩ := List.mem_map.1 h3
            unfold restB at hy
            obtain ⟨nm', _, h5⟩ := List.mem_filterMap.1 hy
            obtain ⟨t', h6, rfl⟩ := Option.map_eq_some_iff.1 h5
            simp only at e4
            subst e4
            rw [e] at h6; cases h6
        exact h2 r
      | some t =>
        have h1 : restB a [x] = [(x, t)] := by simp [restB, e]
        rw [h1]
        simp [findB]
    · have hne : findB (restB a [x]) nm = none := by
        have hb : (x.toList == nm.toList) = false := by
          cases hb : (x.toList == nm.toList) with
          | false => rfl
          | true => exact absurd ((same_iff _ _).1 hb) hx
        cases e : findB a x with
        | none =>
          have h1 : restB a [x] = [] := by simp [restB, e]
          rw [h1]; rfl
        | some t =>
          have h1 : restB a [x] = [(x, t)] := by simp [restB, e]
          rw [h1]
          simp [findB, hb]
      rw [hne]
      exact findB_rest a r nm (by rcases List.mem_cons.1 h with e | e; exact absurd e.symm hx; exact e)
/-- The law itself. -/
theorem match_equal {p t : T} {s : List (ByteArray × T)} (h : matchB p t = some s) : mapT (findB s) (fun s => s) p = t := by
  unfold matchB at h
  obtain ⟨acc, hm, rfl⟩ := Option.map_eq_some_iff.1 h
  have h1 := (run_apply _ _ _ hm).2 (p, t) (by simp)
  refine Eq.trans ?_ h1
  exact map_congr_names _ _ p (fun nm hn => findB_rest acc _ nm (((sortK_of (vT p)).2 nm).2 hn))
theorem findB_cons (x : ByteArray × T) (a : List (ByteArray × T)) (nm : ByteArray) : findB (x :: a) nm = if x.1 = nm then some x.2 else findB a nm := by
  unfold findB
  rw [List.find?_cons]
  by_cases h : x.1 = nm
  · have : (x.1.toList == nm.toList) = true := (same_iff _ _).2 h
    rw [this, if_pos h]; rfl
  · have : (x.1.toList == nm.toList) = false := by
      cases hb : (x.1.toList == nm.toList) with
      | false => rfl
      | true => exact absurd ((same_iff _ _).1 hb) h
    rw [this, if_neg h]
def wF (a : List (ByteArray × T)) (nm : ByteArray) : Nat := match findB a nm with | some t => 1 + nm.size + wT t | none => 0
theorem wBs_restF (a : List (ByteArray × T)) : ∀ rs : List ByteArray, wBs (restB a rs) = (rs.map (wF a)).sum
  | [] => by simp [restB, wBs]
  | x :: r => by
    have e1 : restB a (x :: r) = restB a [x] ++ restB a r := restB_app a [x] r
    have e2 : wBs (restB a [x] ++ restB a r) = wBs (restB a [x]) + wBs (restB a r) := by simp [wBs]; omega
    rw [e1, e2, wBs_restF a r, List.map_cons, List.sum_cons]
    congr 1
    unfold wF
    cases e : findB a x with
    | none =>
      have h1 : restB a [x] = [] := by simp [restB, e]
      rw [h1]; simp [wBs]
    | some t =>
      have h1 : restB a [x] = [(x, t)] := by simp [restB, e]
      rw [h1]; simp [wBs]; omega
open Classical in
theorem wF_sum (x : ByteArray × T) (a : List (ByteArray × T)) : ∀ rs : List ByteArray, rs.Nodup → (rs.map (wF (x :: a))).sum ≤ (if x.1 ∈ rs then 1 + x.1.size + wT x.2 else 0) + (rs.map (wF a)).sum
  | [], _ => by simp
  | y :: r, h => by
    obtain ⟨h1, h2⟩ := List.nodup_cons.1 h
    have ih := wF_sum x a r h2
    rw [List.map_cons, List.map_cons, List.sum_cons, List.sum_cons]
    by_cases e : x.1 = y
    · have e1 : wF (x :: a) y = 1 + x.1.size + wT x.2 := by unfold wF; rw [findB_cons, if_pos e, e]
      have e2 : x.1 ∉ r := by rw [e]; exact h1
      rw [if_neg e2] at ih
      rw [if_pos (by rw [e]; simp), e1]
      omega
    · have e1 : wF (x :: a) y = wF a y := by unfold wF; rw [findB_cons, if_neg e]
      have e2 : (x.1 ∈ y :: r) ↔ x.1 ∈ r := by rw [List.mem_cons]; exact ⟨fun h => h.resolve_left e, Or.inr⟩
      rw [e1]
      by_cases e3 : x.1 ∈ r
      · rw [if_pos e3] at ih; rw [if_pos (e2.2 e3)]; omega
      · rw [if_neg e3] at ih; rw [if_neg (fun h => e3 (e2.1 h))]; omega
open Classical in
theorem wF_le : ∀ (a : List (ByteArray × T)) (rs : List ByteArray), rs.Nodup → (rs.map (wF a)).sum ≤ wBs a
  | [], rs, _ => by
    have : ∀ rs : List ByteArray, (rs.map (wF [])).sum = 0 := fun rs => by
      induction rs with
      | nil => rfl
      | cons y r ih => rw [List.map_cons, List.sum_cons, ih]; rfl
    rw [this]; exact Nat.zero_le _
  | x :: a, rs, h => by
    have h1 := wF_sum x a rs h
    have h2 := wF_le a rs h
    have h3 : wBs (x :: a) = (1 + x.1.size + wT x.2) + wBs a := by simp [wBs]; omega
    rw [h3]
    split at h1 <;> omega
/-- What a match weighs. -/
theorem match_weight {p t : T} {s : List (ByteArray × T)} (h : matchB p t = some s) : wBs s ≤ 1 + wT p + wT t := by
  unfold matchB at h
  obtain ⟨acc, hm, rfl⟩ := Option.map_eq_some_iff.1 h
  have hw := matT_w hm
  have hn : (sortK (vT p)).Nodup := (sortK_of (vT p)).1.imp (fun {a b} hab e => by subst e; exact lt_irr _ hab)
  have h1 := wF_le acc _ hn
  rw [← wBs_restF] at h1
  simp [wBs] at hw h1 ⊢
  omega
end Go.Proofs.Yteelakhaaipebaa
