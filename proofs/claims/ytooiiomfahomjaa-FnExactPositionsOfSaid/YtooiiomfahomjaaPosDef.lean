/-
  Positions: the subterm at one, a term in which it is replaced, all positions of a term. No walk.
-/
import Derived.Test.YtooiiomfahomjaaLevel
namespace Go.Proofs.Ytooiiomfahomjaa

/-- The argument with an index. -/
def argT (t : T) (p : Int) : Option T := if 0 ≤ p then (kT t)[p.toNat]? else none
/-- The subterm at a position. -/
def subT : List Int → T → Option T
  | [], t => some t
  | p :: ps, t => (argT t p).bind (subT ps)
theorem subT_nil (t : T) : subT [] t = some t := rfl
theorem subT_cons (p : Int) (ps : List Int) (t : T) : subT (p :: ps) t = (argT t p).bind (subT ps) := rfl
theorem subT_append (ps qs : List Int) (t : T) : subT (ps ++ qs) t = (subT ps t).bind (subT qs) := by
  induction ps generalizing t with
  | nil => rfl
  | cons p ps ih =>
    rw [List.cons_append, subT_cons, subT_cons]
    cases argT t p with
    | none => rfl
    | some x => exact ih x
theorem subT_snoc (ps : List Int) (p : Int) (t : T) : subT (ps ++ [p]) t = (subT ps t).bind (fun x => argT x p) := by
  rw [subT_append]
  congr 1
  funext x
  rw [subT_cons]
  cases argT x p <;> rfl
theorem argT_out {t : T} {p : Int} (h : ¬ (0 ≤ p ∧ p < (kT t).length)) : argT t p = none := by
  unfold argT
  split
  · rw [List.getElem?_eq_none]; omega
  · rfl
theorem argT_in {t : T} {p : Int} (h0 : 0 ≤ p) (h1 : p < (kT t).length) : ∃ j x, p = ((j : Nat) : Int) ∧ (kT t)[j]? = some x ∧ argT t p = some x := by
  refine ⟨p.toNat, _, by omega, List.getElem?_eq_getElem (by omega), ?_⟩
  unfold argT
  rw [if_pos h0]; exact List.getElem?_eq_getElem (by omega)

theorem wS_mem (xs : List T) : ∀ x ∈ xs, wT x ≤ wS xs := by
  induction xs with
  | nil => simp
  | cons y r ih =>
    intro x hx
    simp only [wS, List.map_cons, List.sum_cons]
    rcases List.mem_cons.1 hx with rfl | hx
    · omega
    · have := ih x hx; simp only [wS] at this; omega
theorem wT_kT (t : T) : wS (kT t) ≤ wT t := by
  obtain ⟨k, n, s, xs⟩ := t
  rw [wT_node]; show wS xs ≤ _; omega
theorem argT_mem {t x : T} {p : Int} (h : argT t p = some x) : x ∈ kT t := by
  unfold argT at h
  split at h
  · exact List.mem_of_getElem? h
  · cases h
theorem argT_w {t x : T} {p : Int} (h : argT t p = some x) : wT x ≤ wT t := Nat.le_trans (wS_mem _ x (argT_mem h)) (wT_kT t)
theorem subT_w (ps : List Int) (t x : T) (h : subT ps t = some x) : wT x ≤ wT t := by
  induction ps generalizing t with
  | nil => cases h; exact Nat.le_refl _
  | cons p ps ih =>
    rw [subT_cons] at h
    cases e : argT t p with
    | none => rw [e] at h; cases h
    | some y =>
      rw [e] at h
      exact Nat.le_trans (ih y h) (argT_w e)

/-- A term in which the subterm at a position is replaced. -/
def putT : List Int → T → T → T
  | [], _, u => u
  | p :: ps, .node k n s xs, u => match xs[p.toNat]? with
    | some x => .node k n s (xs.set p.toNat (putT ps x u))
    | none => .node k n s xs
theorem putT_nil (t u : T) : putT [] t u = u := by cases t; rfl
theorem putT_cons (j : Nat) (ps : List Int) (k n : Int) (s : ByteArray) (xs : List T) (x u : T) (h : xs[j]? = some x) : putT ((j : Int) :: ps) (.node k n s xs) u = .node k n s (xs.set j (putT ps x u)) := by
  rw [putT]
  simp only [Int.toNat_natCast, h]

/-- What is there when it is not replaced. -/
theorem putT_self (ps : List Int) (t x : T) (h : subT ps t = some x) : putT ps t x = t := by
  induction ps generalizing t with
  | nil => cases h; exact putT_nil _ _
  | cons p ps ih =>
    rw [subT_cons] at h
    cases e : argT t p with
    | none => rw [e] at h; cases h
    | some y =>
      rw [e] at h
      obtain ⟨k, n, s, xs⟩ := t
      unfold argT at e
      split at e
      · rename_i hp
        obtain ⟨j, rfl⟩ : ∃ j : Nat, p = j := ⟨p.toNat, by omega⟩
        have e' : xs[j]? = some y := by simpa [kT] using e
        rw [putT_cons j ps k n s xs y x e', ih y h]
        congr 1
        have hj := (List.getElem?_eq_some_iff.1 e')
        obtain ⟨hj, hv⟩ := hj
        rw [← hv, List.set_getElem_self]
      · cases e
theorem subT_put (ps : List Int) (t x u : T) (h : subT ps t = some x) : subT ps (putT ps t u) = some u := by
  induction ps generalizing t with
  | nil => rw [putT_nil]; rfl
  | cons p ps ih =>
    rw [subT_cons] at h
    cases e : argT t p with
    | none => rw [e] at h; cases h
    | some y =>
      rw [e] at h
      obtain ⟨k, n, s, xs⟩ := t
      unfold argT at e
      split at e
      · rename_i hp
        obtain ⟨j, rfl⟩ : ∃ j : Nat, p = j := ⟨p.toNat, by omega⟩
        have e' : xs[j]? = some y := by simpa [kT] using e
        have hj := (List.getElem?_eq_some_iff.1 e').1
        rw [putT_cons j ps k n s xs y u e', subT_cons]
        have : argT (.node k n s (xs.set j (putT ps y u))) (j : Int) = some (putT ps y u) := by
          unfold argT
          rw [if_pos hp]
          show (xs.set j (putT ps y u))[(j : Int).toNat]? = _
          rw [Int.toNat_natCast, List.getElem?_set_self hj]
        rw [this]
        exact ih y h
      · cases e

mutual
/-- All positions of a term, in order. -/
def posT : T → List (List Int)
  | .node _ _ _ xs => [] :: posS 0 xs
/-- Those in a list of arguments, from index i on. -/
def posS (i : Nat) : List T → List (List Int)
  | [] => []
  | x :: xs => (posT x).map ((i : Int) :: ·) ++ posS (i + 1) xs
end
theorem posT_node (k n : Int) (s : ByteArray) (xs : List T) : posT (.node k n s xs) = [] :: posS 0 xs := by rw [posT]
theorem posS_nil (i : Nat) : posS i [] = [] := by rw [posS]
theorem posS_cons (i : Nat) (x : T) (xs : List T) : posS i (x :: xs) = (posT x).map ((i : Int) :: ·) ++ posS (i + 1) xs := by rw [posS]
theorem posS_snoc (xs : List T) (i : Nat) (x : T) : posS i (xs ++ [x]) = posS i xs ++ (posT x).map (((i + xs.length : Nat) : Int) :: ·) := by
  induction xs generalizing i with
  | nil => rw [List.nil_append, posS_cons, posS_nil, posS_nil]; simp
  | cons y ys ih =>
    rw [List.cons_append, posS_cons, posS_cons, ih, List.append_assoc, List.length_cons]
    rw [show i + 1 + ys.length = i + (ys.length + 1) by omega]
theorem posT_length : ∀ t : T, (posT t).length = cT t
  | .node k n s xs => by
    have h : ∀ x ∈ xs, (posT x).length = cT x := fun x _ => posT_length x
    rw [posT_node, cT_node, List.length_cons]
    have : ∀ (ys : List T) (i : Nat), (∀ y ∈ ys, (posT y).length = cT y) → (posS i ys).length = cS ys := by
      intro ys
      induction ys with
      | nil => intro i _; rw [posS_nil]; rfl
      | cons y ys ih =>
        intro i hy
        rw [posS_cons, List.length_append, List.length_map, hy y (by simp), ih (i + 1) (fun z hz => hy z (by simp [hz]))]
        simp [cS]
    rw [this xs 0 h]; omega

/-- Every one of them is a position. -/
theorem posT_sub : ∀ (t : T), ∀ p ∈ posT t, ∃ x, subT p t = some x
  | .node k n s xs => by
    have h : ∀ x ∈ xs, ∀ p ∈ posT x, ∃ y, subT p x = some y := fun x _ => posT_sub x
    intro p hp
    rw [posT_node, List.mem_cons] at hp
    rcases hp with rfl | hp
    · exact ⟨_, rfl⟩
    · have key : ∀ (ys : List T) (i : Nat), (∀ y ∈ ys, ∀ p ∈ posT y, ∃ z, subT p y = some z) → ∀ p ∈ posS i ys, ∃ j q y, p = ((i + j : Nat) : Int) :: q ∧ ys[j]? = some y ∧ ∃ z, subT q y = some z := by
        intro ys
        induction ys with
        | nil => intro i _ p hp; rw [posS_nil] at hp; cases hp
        | cons y ys ih =>
          intro i hy p hp
          rw [posS_cons, List.mem_append, List.mem_map] at hp
          rcases hp with ⟨q, hq, rfl⟩ | hp
          · exact ⟨0, q, y, rfl, rfl, hy y (by simp) q hq⟩
          · obtain ⟨j, q, z, rfl, hj, hz⟩ := ih (i + 1) (fun z hz => hy z (by simp [hz])) p hp
            exact ⟨j + 1, q, z, by rw [show i + 1 + j = i + (j + 1) by omega], by simpa using hj, hz⟩
      obtain ⟨j, q, y, rfl, hj, z, hz⟩ := key xs 0 h p hp
      refine ⟨z, ?_⟩
      rw [subT_cons]
      have : argT (.node k n s xs) ((0 + j : Nat) : Int) = some y := by
        unfold argT
        rw [if_pos (by omega), Int.toNat_natCast, Nat.zero_add]
        exact hj
      rw [this]; exact hz
end Go.Proofs.Ytooiiomfahomjaa
