/-
  append of a row of Binds to a row of the call's own.
-/
import Derived.Test.YtidbokheeieifaaGreatDoorQ15
import Derived.Lib.AppendZeros
namespace Go.Proofs.YtidbokheeieifaaGreatDoor
open Go.RowKit

theorem run_none_cap {P : Program} {w : World} (base : Nat) (t ty e : TypeId) (i : TypeInfo) (size : Nat) (ht : P.underlying t = some (.slice e)) (hi : P.info? e = some i)
    (v : Value) (n : Nat) (xs : List Value) (hown : w.ownsRow base e size v n xs) (c : Nat) :
    (Builtin.append_ #[t, t] ty #[v, .slice none 0 c]).run P w = .ok v w := by
  rcases hown.2 with ⟨rfl, rfl⟩ | ⟨g, cap, cur, rfl, _, _, hnc, _⟩
  · simp [Builtin.append_, run_underlying ht, sizeOf, typeInfo, hi, Builtin.lenOf, Builtin.firstCells]
  · simp [Builtin.append_, run_underlying ht, sizeOf, typeInfo, hi, Builtin.lenOf, Builtin.firstCells, hnc, storeCells]

/-- The cells of a row, one behind the other. -/
theorem cells_list {w : World} {b o n : Nat} (h : ∀ j, j < n → ∃ v, w.cell? ⟨b, o + j, none⟩ = some v ∧ v.oneCell' = true) :
    ∃ l : List Value, l.length = n ∧ (∀ j u, l[j]? = some u → w.cell? ((⟨b, o, none⟩ : Addr).add j) = some u) ∧ (∀ u ∈ l, u.oneCell' = true) ∧ ∀ j v, j < n → w.cell? ⟨b, o + j, none⟩ = some v → l[j]? = some v := by
  refine ⟨(List.range n).map (fun j => (w.cell? ⟨b, o + j, none⟩).getD undef), by simp, fun j u hu => ?_, fun u hu => ?_, fun j v hj hv => ?_⟩
  · rw [List.getElem?_map] at hu
    by_cases hj : j < n
    · obtain ⟨v, hv, _⟩ := h j hj
      rw [List.getElem?_range hj] at hu
      simp [hv] at hu
      subst hu
      have e : (⟨b, o, none⟩ : Addr).add j = ⟨b, o + j, none⟩ := by
        unfold Addr.add
        split
        · rename_i h0; subst h0; rfl
        · rfl
      rw [e]; exact hv
    · rw [List.getElem?_eq_none (by simpa using hj)] at hu; cases hu
  · obtain ⟨j, hj, rfl⟩ := List.mem_map.1 hu
    obtain ⟨v, hv, h1⟩ := h j (List.mem_range.1 hj)
    rw [hv]; exact h1
  · rw [List.getElem?_map, List.getElem?_range hj]
    simp [hv]

/-- The row u appended to the call's own row v: the names stand behind. -/
theorem row_app {w : World} {base lo h n : Nat} {v u : Value} {xs : List Value} {bs : List (ByteArray × T)} (hown : w.ownsRow base 78 5 v n xs) (hu : BsAt w lo h u bs) (hm : n + bs.length ≤ 2097152) (hbase : base ≤ w.heap.size) :
    ∃ v' w' news, (Builtin.append_ #[35, 35] 35 #[v, u]).run Tryz.prog w = .ok v' w' ∧ w'.ownsRow base 78 5 v' (n + bs.length) (xs ++ news) ∧ (w.grownBy w' v.ownBlock) ∧ news.length = bs.length * 5 ∧ ∀ (i : Nat) (x : ByteArray × T), bs[i]? = some x → news[i * 5]? = some (.string x.1) := by
  obtain ⟨i0, hi, hz0, hz1, hz2⟩ := info_parts infoBind
  obtain ⟨a, cap, rfl, hl, hc⟩ := hu
  have hun : Tryz.prog.underlying 35 = some (.slice 78) := Tryz.underlying35
  rcases hc with rfl | ⟨b, o, rfl, hb, hc⟩
  · cases a with
    | none => exact ⟨v, w, [], run_none_cap base _ _ _ i0 5 hun hi v n xs hown cap, by simpa using hown, World.grownBy.refl _ _, rfl, fun i x h => by simp at h⟩
    | some ad =>
      obtain ⟨v', w', h1, h2, h3, _⟩ := run_append_own (P := Tryz.prog) w base 35 35 78 i0 _ 5 72 hun hi hz0 hz1 hz2 (by simp [Value.cells]) (by decide) v n xs hown ad 0 cap [] rfl (fun j u hj => by simp at hj) (by simp) (by unfold maxLen; omega) (by omega) hbase
      exact ⟨v', w', [], h1, h2, h3, rfl, fun i x h => by simp at h⟩
  · obtain ⟨l, l1, l2, l3, l4⟩ := cells_list (w := w) (b := b) (o := o) (n := bs.length * 5) (fun j hj => by
      obtain ⟨⟨p, k, nn, s, ys⟩, hx⟩ : ∃ x, bs[j / 5]? = some x := ⟨_, List.getElem?_eq_getElem (by omega)⟩
      obtain ⟨_, _, u', c0, c1, c2, c3, c4, har⟩ := hc _ _ _ _ _ _ hx
      obtain ⟨ua, uc, rfl⟩ := har.slice
      have hj5 : j = j / 5 * 5 + j % 5 := by omega
      rcases (by omega : j % 5 = 0 ∨ j % 5 = 1 ∨ j % 5 = 2 ∨ j % 5 = 3 ∨ j % 5 = 4) with h | h | h | h | h <;> rw [h] at hj5
      · exact ⟨_, by rw [hj5]; exact c0, rfl⟩
      · exact ⟨_, by rw [hj5]; exact c1, rfl⟩
      · exact ⟨_, by rw [hj5]; exact c2, rfl⟩
      · exact ⟨_, by rw [hj5]; exact c3, rfl⟩
      · exact ⟨_, by rw [hj5]; exact c4, rfl⟩)
    obtain ⟨v', w', h1, h2, h3, _⟩ := run_append_own (P := Tryz.prog) w base 35 35 78 i0 _ 5 72 hun hi hz0 hz1 hz2 (by simp [Value.cells]) (by decide) v n xs hown ⟨b, o, none⟩ bs.length cap l l1 l2 l3 (by unfold maxLen; omega) (by omega) hbase
    refine ⟨v', w', l, h1, h2, h3, l1, fun i x hx => ?_⟩
    obtain ⟨p, k, nn, s, ys⟩ := x
    obtain ⟨_, _, u', c0, _⟩ := hc _ _ _ _ _ _ hx
    have := (List.getElem?_eq_some_iff.1 hx).1
    exact l4 _ _ (by omega) c0
end Go.Proofs.YtidbokheeieifaaGreatDoor
