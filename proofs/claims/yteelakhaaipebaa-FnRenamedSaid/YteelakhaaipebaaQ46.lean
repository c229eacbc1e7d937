/-
  A term with renamed variables is a variant of it. No program.
  append of a row of Binds to a row of the call's own.
-/
import Derived.Test.YteelakhaaipebaaQ43
import Derived.Test.YteelakhaaipebaaQ45
import Derived.Test.YteelakhaaipebaaQ18
import Derived.Lib.AppendZeros
namespace Go.Proofs.Yteelakhaaipebaa
open Go.RowKit

abbrev renT (x : ByteArray) : T → T := mapT (fun _ => none) (fun s => s ++ x)
theorem renT_node (x : ByteArray) (k n : Int) (s : ByteArray) (xs : List T) : renT x (.node k n s xs) = .node k n (if k = 1 then s ++ x else s) (xs.map (renT x)) := by
  unfold renT
  rw [mapT_node]
  by_cases hk : k = 1
  · rw [if_pos hk, if_pos hk]
  · rw [if_neg hk, if_neg hk]
theorem meetV_new {acc a' : List (ByteArray × T)} {s : ByteArray} {t : T} (h : meetV acc s t = some a') : ∀ nm u, findB a' nm = some u → findB acc nm = some u ∨ (nm = s ∧ u = t) := by
  intro nm u hu
  unfold meetV at h
  cases e : findB acc s with
  | some old =>
    rw [e] at h
    simp only at h
    split at h
    · cases h; exact Or.inl hu
    · cases h
  | none =>
    rw [e] at h
    cases h
    unfold findB at hu ⊢
    rw [List.find?_append] at hu
    cases e3 : acc.find? (fun y => y.1.toList == nm.toList) with
    | some y => rw [e3] at hu; left; simpa using hu
    | none =>
      rw [e3] at hu
      right
      by_cases hb : (s.toList == nm.toList) = true
      · simp [hb] at hu
        exact ⟨((same_iff _ _).1 hb).symm, hu.symm⟩
      · simp [hb] at hu
theorem meetV_none {acc : List (ByteArray × T)} {s : ByteArray} {t : T} (h : meetV acc s t = none) : ∃ old, findB acc s = some old ∧ old ≠ t := by
  unfold meetV at h
  cases e : findB acc s with
  | some old =>
    rw [e] at h
    simp only at h
    split at h
    · cases h
    · rename_i hne; exact ⟨old, rfl, hne⟩
  | none => rw [e] at h; cases h
theorem zip_mem {ps ts : List T} {y : T × T} (h : y ∈ ps.zip ts) : ∃ i : Nat, ps[i]? = some y.1 ∧ ts[i]? = some y.2 := by
  obtain ⟨i, hi⟩ := List.mem_iff_getElem?.1 h
  obtain ⟨a, b⟩ := y
  rw [List.getElem?_zip_eq_some] at hi
  exact ⟨i, hi.1, hi.2⟩

theorem run_ren (x : ByteArray) (l : List (T × T)) (acc : List (ByteArray × T)) : (∀ y ∈ l, PlainT y.1 ∧ y.2 = renT x y.1) → (∀ nm u, findB acc nm = some u → u = .node 1 0 (nm ++ x) []) → (runM l acc).isSome = true := by
  induction l, acc using runM.induct with
  | case1 acc => intro _ _; rw [runM_nil]; rfl
  | case2 n s ps k' n' s' ts l' acc acc' hm ih =>
    intro hl hc
    obtain ⟨h1, h2⟩ := hl _ List.mem_cons_self
    obtain ⟨h3, _⟩ := (PlainT_node _ _ _ _).1 h1
    obtain ⟨rfl, rfl⟩ := h3 rfl
    rw [runM_var, hm]
    refine ih (fun y hy => hl y (List.mem_cons_of_mem _ hy)) (fun nm u hu => ?_)
    rcases meetV_new hm nm u hu with h | ⟨rfl, rfl⟩
    · exact hc nm u h
    · simp only at h2
      rw [h2, renT_node, if_pos rfl]; rfl
  | case3 n s ps k' n' s' ts l' acc hm =>
    intro hl hc
    obtain ⟨h1, h2⟩ := hl _ List.mem_cons_self
    obtain ⟨h3, _⟩ := (PlainT_node _ _ _ _).1 h1
    obtain ⟨rfl, rfl⟩ := h3 rfl
    obtain ⟨old, ho, hne⟩ := meetV_none hm
    exfalso
    apply hne
    rw [hc _ _ ho]
    simp only at h2
    rw [h2, renT_node, if_pos rfl]; rfl
  | case4 k n s ps k' n' s' ts l' acc hk he ih =>
    obtain ⟨rfl, rfl, rfl, hlen⟩ := he
    intro hl hc
    obtain ⟨h1, h2⟩ := hl _ List.mem_cons_self
    rw [runM_app hk hlen]
    refine ih (fun y hy => ?_) hc
    rcases List.mem_append.1 hy with hy | hy
    · obtain ⟨i, hi, hj⟩ := zip_mem hy
      refine ⟨((PlainT_node _ _ _ _).1 h1).2 _ (List.mem_iff_getElem?.2 ⟨i, hi⟩), ?_⟩
      simp only at h2
      rw [renT_node] at h2
      injection h2 with _ _ _ h6
      rw [h6, List.getElem?_map, hi] at hj
      simp at hj
      exact hj.symm
    · exact hl y (List.mem_cons_of_mem _ hy)
  | case5 k n s ps k' n' s' ts l' acc hk he =>
    intro hl hc
    obtain ⟨h1, h2⟩ := hl _ List.mem_cons_self
    exfalso
    apply he
    simp only at h2
    rw [renT_node, if_neg hk] at h2
    injection h2 with h3 h4 h5 h6
    exact ⟨h3.symm, h4.symm, h5.symm, by rw [h6, List.length_map]⟩

theorem append_cancel {s t x : ByteArray} (h : s ++ x = t ++ x) : s = t := by
  have h1 : (s ++ x).toList = (t ++ x).toList := by rw [h]
  apply (same_iff _ _).1
  have e : ∀ a b : ByteArray, (a ++ b).data.toList = a.data.toList ++ b.data.toList := fun a b => by simp
  have h2 : (s ++ x).data.toList = (t ++ x).data.toList := by rw [h]
  rw [e, e] at h2
  have h3 := List.append_cancel_right h2
  have h4 : s = t := by
    cases s with
    | mk sd => cases t with
      | mk td => simp only at h3; congr 1; exact Array.toList_inj.1 h3
  rw [h4]; simp
theorem run_ren2 (x : ByteArray) (l : List (T × T)) (acc : List (ByteArray × T)) : (∀ y ∈ l, PlainT y.2 ∧ y.1 = renT x y.2) → (∀ nm u, findB acc nm = some u → ∃ s, nm = s ++ x ∧ u = .node 1 0 s []) → (runM l acc).isSome = true := by
  have var : ∀ {n : Int} {s : ByteArray} {ps : List T} {u : T}, PlainT u → T.node 1 n s ps = renT x u → ∃ s0, s = s0 ++ x ∧ u = .node 1 0 s0 [] := by
    intro n s ps u hp he
    obtain ⟨k', n', s', ts⟩ := u
    rw [renT_node] at he
    injection he with h3 h4 h5 h6
    subst h3
    obtain ⟨h7, _⟩ := (PlainT_node _ _ _ _).1 hp
    obtain ⟨rfl, rfl⟩ := h7 rfl
    rw [if_pos rfl] at h5
    exact ⟨s', h5, rfl⟩
  induction l, acc using runM.induct with
  | case1 acc => intro _ _; rw [runM_nil]; rfl
  | case2 n s ps k' n' s' ts l' acc acc' hm ih =>
    intro hl hc
    obtain ⟨h1, h2⟩ := hl _ List.mem_cons_self
    obtain ⟨s0, e1, e2⟩ := var h1 h2
    rw [runM_var, hm]
    refine ih (fun y hy => hl y (List.mem_cons_of_mem _ hy)) (fun nm u hu => ?_)
    rcases meetV_new hm nm u hu with h | ⟨rfl, rfl⟩
    · exact hc nm u h
    · exact ⟨s0, e1, e2⟩
  | case3 n s ps k' n' s' ts l' acc hm =>
    intro hl hc
    obtain ⟨h1, h2⟩ := hl _ List.mem_cons_self
    obtain ⟨s0, e1, e2⟩ := var h1 h2
    obtain ⟨old, ho, hne⟩ := meetV_none hm
    obtain ⟨s1, e3, e4⟩ := hc _ _ ho
    exfalso
    apply hne
    simp only at e2
    rw [e2, e4, append_cancel (e3.symm.trans e1)]
  | case4 k n s ps k' n' s' ts l' acc hk he ih =>
    obtain ⟨rfl, rfl, rfl, hlen⟩ := he
    intro hl hc
    obtain ⟨h1, h2⟩ := hl _ List.mem_cons_self
    rw [runM_app hk hlen]
    refine ih (fun y hy => ?_) hc
    rcases List.mem_append.1 hy with hy | hy
    · obtain ⟨i, hi, hj⟩ := zip_mem hy
      refine ⟨((PlainT_node _ _ _ _).1 h1).2 _ (List.mem_iff_getElem?.2 ⟨i, hj⟩), ?_⟩
      simp only at h2
      rw [renT_node] at h2
      injection h2 with _ _ _ h6
      rw [h6, List.getElem?_map, hj] at hi
      simp at hi
      exact hi.symm
    · exact hl y (List.mem_cons_of_mem _ hy)
  | case5 k n s ps k' n' s' ts l' acc hk he =>
    intro hl hc
    obtain ⟨h1, h2⟩ := hl _ List.mem_cons_self
    exfalso
    apply he
    simp only at h2
    rw [renT_node] at h2
    injection h2 with h3 h4 h5 h6
    rw [if_neg (by rw [← h3]; exact hk)] at h5
    exact ⟨h3, h4, h5, by rw [h6, List.length_map]⟩

/-- A drawn term and the same with renamed variables are variants. -/
theorem ren_variant (x : ByteArray) (t : T) (h : PlainA t) : isVar2 t (renT x t) = true := by
  obtain ⟨k, n, s, xs⟩ := t
  have hlen : xs.length = (xs.map (renT x)).length := by rw [List.length_map]
  have e1 : (matT (renT x (.node k n s xs)) (.node k n s xs) []).isSome = true := by
    rw [renT_node]
    by_cases hk : k = 1
    · subst hk
      rw [matT_var]
      simp [meetV, findB]
    · rw [if_neg hk, matT_node hk hlen.symm]
      refine run_ren2 x _ _ (fun y hy => ?_) (fun nm u hu => by simp [findB] at hu)
      obtain ⟨i, hi, hj⟩ := zip_mem hy
      refine ⟨h _ (List.mem_iff_getElem?.2 ⟨i, hj⟩), ?_⟩
      rw [List.getElem?_map, hj] at hi
      simp at hi
      exact hi.symm
  have e2 : (matT (.node k n s xs) (renT x (.node k n s xs)) []).isSome = true := by
    by_cases hk : k = 1
    · subst hk
      rw [matT_var]
      simp [meetV, findB]
    · rw [renT_node, if_neg hk, matT_node hk hlen]
      refine run_ren x _ _ (fun y hy => ?_) (fun nm u hu => by simp [findB] at hu)
      obtain ⟨i, hi, hj⟩ := zip_mem hy
      refine ⟨h _ (List.mem_iff_getElem?.2 ⟨i, hi⟩), ?_⟩
      rw [List.getElem?_map, hi] at hj
      simp at hj
      exact hj.symm
  unfold isVar2 isInst matchB
  rw [Option.isSome_map, Option.isSome_map, e1, e2]; rfl
theorem cS_ren (x : ByteArray) (xs : List T) (h : ∀ t ∈ xs, cT (renT x t) = cT t) : cS (xs.map (renT x)) = cS xs := by
  unfold cS
  rw [List.map_map]
  congr 1
  exact List.map_congr_left h
theorem cT_ren (x : ByteArray) : ∀ t, cT (renT x t) = cT t
  | .node k n s xs => by
    rw [renT_node, cT_node, cT_node, cS_ren x xs (fun t _ => cT_ren x t)]
end Go.Proofs.Yteelakhaaipebaa
namespace Go.Proofs.Yteelakhaaipebaa
open Go.RowKit

theorem run_none_cap {P : Program} {w : World} (base : Nat) (t ty e : TypeId) (i : TypeInfo) (size : Nat) (ht : P.underlying t = some (.slice e)) (hi : P.info? e = some i)
    (v : Value) (n : Nat) (xs : List Value) (hown : w.ownsRow base e size v n xs) (c : Nat) :
    (Builtin.append_ #[t, t] ty #[v, .slice none 0 c]).run P w = .ok v w := by
  rcases hown.2 with ⟨rfl, rfl⟩ | ⟨g, cap, cur, rfl, _, _, hnc, _⟩
  · simp [Builtin.append_, run_underlying ht, sizeOf, typeInfo, hi, Builtin.lenOf, Builtin.firstCells]
  · simp [Builtin.append_, run_underlying ht, sizeOf, typeInfo, hi, Builtin.lenOf, Builtin.firstCells, hnc, storeCells]

/-- The cells of a row, one behind the other. -/
theorem cells_list {w : World} {b o n : Nat} (h : ∀ j, j < n → ∃ v, w.cell? ⟨b, o + j, none⟩ = some v ∧ v.oneCell' = true) :
    ∃ l : List Value, l.length = n ∧ (∀ j u, l[j]? = some u → w.cell? ((⟨b, o, none⟩ : Addr).add j) = some u) ∧ (∀ u ∈ l, u.oneCell' = true) ∧ ∀ j v, j < n → w.cell? ⟨b, o + j, none⟩ = some v → l[j]? = some v := by
  refine ⟨(List.range n).map (fun j => (w.cell? ⟨b, o + j, none⟩).getD undef), by simp, fun j u hu => ?_, fun u hu => ?_, fun j v hj hv => ?_⟩
  · rw [List.getElem?_map] at hu
    by_cases hj : j < n
    · obtain ⟨v, hv, _⟩ := h j hj
      rw [List.getElem?_range hj] at hu
      simp [hv] at hu
      subst hu
      have e : (⟨b, o, none⟩ : Addr).add j = ⟨b, o + j, none⟩ := by
        unfold Addr.add
        split
        · rename_i h0; subst h0; rfl
        · rfl
      rw [e]; exact hv
    · rw [List.getElem?_eq_none (by simpa using hj)] at hu; cases hu
  · obtain ⟨j, hj, rfl⟩ := List.mem_map.1 hu
    obtain ⟨v, hv, h1⟩ := h j (List.mem_range.1 hj)
    rw [hv]; exact h1
  · rw [List.getElem?_map, List.getElem?_range hj]
    simp [hv]

/-- The row u appended to the call's own row v: the names stand behind. -/
theorem row_app {w : World} {base lo h n : Nat} {v u : Value} {xs : List Value} {bs : List (ByteArray × T)} (hown : w.ownsRow base 86 5 v n xs) (hu : BsAt w lo h u bs) (hm : n + bs.length ≤ 2097152) (hbase : base ≤ w.heap.size) :
    ∃ v' w' news, (Builtin.append_ #[24, 24] 24 #[v, u]).run Try.prog w = .ok v' w' ∧ w'.ownsRow base 86 5 v' (n + bs.length) (xs ++ news) ∧ (w.grownBy w' v.ownBlock) ∧ news.length = bs.length * 5 ∧ ∀ (i : Nat) (x : ByteArray × T), bs[i]? = some x → news[i * 5]? = some (.string x.1) := by
  obtain ⟨i0, hi, hz0, hz1, hz2⟩ := info_parts infoBind
  obtain ⟨a, cap, rfl, hl, hc⟩ := hu
  have hun : Try.prog.underlying 24 = some (.slice 86) := Try.underlying24
  rcases hc with rfl | ⟨b, o, rfl, hb, hc⟩
  · cases a with
    | none => exact ⟨v, w, [], run_none_cap base _ _ _ i0 5 hun hi v n xs hown cap, by simpa using hown, World.grownBy.refl _ _, rfl, fun i x h => by simp at h⟩
    | some ad =>
      obtain ⟨v', w', h1, h2, h3, _⟩ := run_append_own (P := Try.prog) w base 24 24 86 i0 _ 5 72 hun hi hz0 hz1 hz2 (by simp [Value.cells]) (by decide) v n xs hown ad 0 cap [] rfl (fun j u hj => by simp at hj) (by simp) (by unfold maxLen; omega) (by omega) hbase
      exact ⟨v', w', [], h1, h2, h3, rfl, fun i x h => by simp at h⟩
  · obtain ⟨l, l1, l2, l3, l4⟩ := cells_list (w := w) (b := b) (o := o) (n := bs.length * 5) (fun j hj => by
      obtain ⟨⟨p, k, nn, s, ys⟩, hx⟩ : ∃ x, bs[j / 5]? = some x := ⟨_, List.getElem?_eq_getElem (by omega)⟩
      obtain ⟨_, _, u', c0, c1, c2, c3, c4, har⟩ := hc _ _ _ _ _ _ hx
      obtain ⟨ua, uc, rfl⟩ := har.slice
      have hj5 : j = j / 5 * 5 + j % 5 := by omega
      rcases (by omega : j % 5 = 0 ∨ j % 5 = 1 ∨ j % 5 = 2 ∨ j % 5 = 3 ∨ j % 5 = 4) with h | h | h | h | h <;> rw [h] at hj5
      · exact ⟨_, by rw [hj5]; exact c0, rfl⟩
      · exact ⟨_, by rw [hj5]; exact c1, rfl⟩
      · exact ⟨_, by rw [hj5]; exact c2, rfl⟩
      · exact ⟨_, by rw [hj5]; exact c3, rfl⟩
      · exact ⟨_, by rw [hj5]; exact c4, rfl⟩)
    obtain ⟨v', w', h1, h2, h3, _⟩ := run_append_own (P := Try.prog) w base 24 24 86 i0 _ 5 72 hun hi hz0 hz1 hz2 (by simp [Value.cells]) (by decide) v n xs hown ⟨b, o, none⟩ bs.length cap l l1 l2 l3 (by unfold maxLen; omega) (by omega) hbase
    refine ⟨v', w', l, h1, h2, h3, l1, fun i x hx => ?_⟩
    obtain ⟨p, k, nn, s, ys⟩ := x
    obtain ⟨_, _, u', c0, _⟩ := hc _ _ _ _ _ _ hx
    have := (List.getElem?_eq_some_iff.1 hx).1
    exact l4 _ _ (by omega) c0
end Go.Proofs.Yteelakhaaipebaa
