/-
  What ParseGuard reads is what FormatGuard writes. No walk.
-/
import Derived.Test.YtidbokheeieifaaGreatDoorQ34
namespace Go.Proofs.YtidbokheeieifaaGreatDoor
open Go.RowKit

theorem ba_data {a b : ByteArray} (h : a.data.toList = b.data.toList) : a = b := by
  cases a; cases b
  congr 1
  exact Array.toList_inj.1 h
theorem cut_back {s sep : ByteArray} (h : cutF s sep = true) : s.data.toList = (cutA s sep).data.toList ++ sep.data.toList ++ (cutZ s sep).data.toList := by
  rcases Lib.index_spec s.data.toList sep.data.toList with ⟨h1, _⟩ | ⟨i, h1, h2, h3, _⟩
  · obtain ⟨_, _, e⟩ := Lib.cutB_miss s sep h1
    unfold cutF at h
    rw [e] at h; cases h
  · have e : Lib.cut s.data.toList sep.data.toList = (s.data.toList.take i, s.data.toList.drop (i + sep.data.toList.length), true) := by
      unfold Lib.cut
      rw [h1, if_pos (by omega)]
      simp
    unfold cutA cutZ
    rw [e]
    have h4 : (s.data.toList.drop i).take sep.data.toList.length = sep.data.toList := by
      unfold Lib.occAt at h3
      first
        | exact of_decide_eq_true h3
        | exact eq_of_beq h3
        | (have h5 := List.isPrefixOf_iff_prefix.1 h3; exact (List.prefix_iff_eq_take.1 h5).symm)
    have h5 : s.data.toList.drop i = sep.data.toList ++ s.data.toList.drop (i + sep.data.toList.length) := by
      have h6 := (List.take_append_drop sep.data.toList.length (s.data.toList.drop i)).symm
      rw [h4, List.drop_drop] at h6
      exact h6
    rw [List.append_assoc, ← h5, List.take_append_drop]
theorem parT_is {L : List UInt8} {t : T} (h : parT L = some t) : ValidT t ∧ textL t = L := by
  unfold parT at h
  split at h
  · rename_i hx
    injection h with h
    subst h
    exact hx.2.choose_spec
  · cases h
theorem nil_data {a : ByteArray} (h : a.toList = []) : a.data.toList = [] := by
  have e0 : ByteArray.empty.toList = [] := by
    unfold ByteArray.toList ByteArray.toList.loop
    rfl
  have e : a = ByteArray.empty := (same_iff a ByteArray.empty).1 (by rw [h, e0]; rfl)
  rw [e]; rfl
theorem try_fmt {s : ByteArray} {k : Int} {g : Gd} (hk : k = 1 ∨ k = 2 ∨ k = 3) (h : tryG s k = some g) : fmtG g = s := by
  have hf : cutF s (signB k) = true := by
    cases e : cutF s (signB k) with
    | true => rfl
    | false => rw [tryG_miss e] at h; cases h
  have hb := cut_back hf
  unfold tryG at h
  cases h1 : parT (cutA s (signB k)).data.toList with
  | none => rw [h1] at h; cases h
  | some l =>
    cases h2 : parT (cutZ s (signB k)).data.toList with
    | none => rw [h1, h2] at h; cases h
    | some r =>
      rw [h1, h2] at h
      injection h with h
      subst h
      obtain ⟨v1, e1⟩ := parT_is h1
      obtain ⟨v2, e2⟩ := parT_is h2
      have n1 : ¬ (fmtT l).toList = [] := fun e => by
        have e3 := nil_data e
        rw [fmtT_ok v1, strT_list] at e3
        rw [← e1, e3, parT_nil] at h1
        cases h1
      have n2 : ¬ (fmtT r).toList = [] := fun e => by
        have e3 := nil_data e
        rw [fmtT_ok v2, strT_list] at e3
        rw [← e2, e3, parT_nil] at h2
        cases h2
      have n3 : ¬ (signB k).toList = [] := fun e => by
        have e3 := nil_data e
        rcases hk with rfl | rfl | rfl <;> exact absurd e3 (by decide)
      rw [fmtG_of, if_neg (fun e => Or.elim e n1 (fun e2 => Or.elim e2 n2 n3))]
      apply ba_data
      have ea : ∀ a b : ByteArray, (a ++ b).data.toList = a.data.toList ++ b.data.toList := fun a b => by simp
      rw [ea, ea, fmtT_ok v1, fmtT_ok v2, strT_list, strT_list, e1, e2, hb]
theorem par_fmt {s : ByteArray} {g : Gd} (h : parG s = some g) : fmtG g = s := by
  unfold parG at h
  cases h1 : tryG s 1 with
  | some x => rw [h1] at h; cases h; exact try_fmt (Or.inl rfl) h1
  | none =>
    rw [h1] at h
    cases h2 : tryG s 2 with
    | some x => rw [h2] at h; cases h; exact try_fmt (Or.inr (Or.inl rfl)) h2
    | none =>
      rw [h2] at h
      exact try_fmt (Or.inr (Or.inr rfl)) h
/-- What is valid weighs little. -/
theorem okT_weight : ∀ t : T, OkT t → wT t + 1 ≤ 25 * cT t
  | .node k n s xs => fun h => by
    rw [okT_node] at h
    have hs : s.size ≤ 24 := by
      rcases h.1 with ⟨_, h1, _⟩ | ⟨_, h1, _⟩ | ⟨_, h1, _⟩
      · exact Nat.le_trans h1.2.1 (by decide)
      · exact Nat.le_trans h1.2.1 (by decide)
      · omega
    have hx : ∀ ys : List T, (∀ y ∈ ys, wT y + 1 ≤ 25 * cT y) → wS ys + ys.length ≤ 25 * cS ys := fun ys => by
      induction ys with
      | nil => intro _; simp [wS, cS]
      | cons y ys ih =>
        intro hy
        have h1 := hy y (List.mem_cons_self ..)
        have h2 := ih (fun z hz => hy z (List.mem_cons_of_mem _ hz))
        have e1 : wS (y :: ys) = wT y + wS ys := by simp [wS]
        have e2 : cS (y :: ys) = cT y + cS ys := by simp [cS]
        rw [e1, e2, List.length_cons]
        omega
    have h2 := hx xs (fun y hy => okT_weight y (h.2 y hy))
    rw [wT_node, cT_node]
    omega
theorem valid_weight {t : T} (h : ValidT t) : wT t ≤ 1500 := by
  have h1 := okT_weight t h.2.2
  have h2 := h.1
  omega
theorem par_wG {s : ByteArray} {g : Gd} (h : parG s = some g) : wG g ≤ 3000 := by
  have key : ∀ k, tryG s k = some g → wG g ≤ 3000 := fun k h => by
    unfold tryG at h
    cases h1 : parT (cutA s (signB k)).data.toList with
    | none => rw [h1] at h; cases h
    | some l =>
      cases h2 : parT (cutZ s (signB k)).data.toList with
      | none => rw [h1, h2] at h; cases h
      | some r =>
        rw [h1, h2] at h
        injection h with h
        subst h
        have a1 := valid_weight (parT_is h1).1
        have a2 := valid_weight (parT_is h2).1
        unfold wG
        simp only
        omega
  unfold parG at h
  cases h1 : tryG s 1 with
  | some x => rw [h1] at h; cases h; exact key 1 h1
  | none =>
    rw [h1] at h
    cases h2 : tryG s 2 with
    | some x => rw [h2] at h; cases h; exact key 2 h2
    | none =>
      rw [h2] at h
      exact key 3 h
theorem par_wG' (s : ByteArray) : wG ((parG s).getD zG) ≤ 3000 := by
  cases h : parG s with
  | some g => exact par_wG h
  | none => show wG zG ≤ 3000; unfold wG; simp only [wT_node]; simp [wS]
theorem par_fmt' {s : ByteArray} (h : (parG s).isSome = true) : fmtG ((parG s).getD zG) = s := by
  cases e : parG s with
  | some g => exact par_fmt e
  | none => rw [e] at h; cases h
end Go.Proofs.YtidbokheeieifaaGreatDoor
