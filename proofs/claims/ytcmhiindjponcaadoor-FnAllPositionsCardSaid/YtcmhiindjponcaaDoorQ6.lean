/-
  Positions: the subterm at one, a term in which it is replaced, all positions of a term. No walk.
  A slice of integers: what it holds; laws.toIntS copies it, laws.eqIntS finds it equal to another.
  Lists of positions, and what spec.l4Walk's steps ask. No walk.
  What the walks over structs of terms share: a new block, a result in a cell. No walk.
-/
import Derived.Test.YtcmhiindjponcaaDoorQ4
import Derived.Test.YtcmhiindjponcaaDoorQ3
import Derived.Test.YtcmhiindjponcaaDoorQ5
import Derived.OwnWalk
import Derived.WalkLawsBesides
import Derived.Lib.Hide
import Derived.BigQuiet
import Derived.Deep.QuietTactic
namespace Go.Proofs.YtcmhiindjponcaaDoor

/-- The argument with an index. -/
def argT (t : T) (p : Int) : Option T := if 0 ≤ p then (kT t)[p.toNat]? else none
/-- The subterm at a position. -/
def subT : List Int → T → Option T
  | [], t => some t
  | p :: ps, t => (argT t p).bind (subT ps)
theorem subT_nil (t : T) : subT [] t = some t := rfl
theorem subT_cons (p : Int) (ps : List Int) (t : T) : subT (p :: ps) t = (argT t p).bind (subT ps) := rfl
theorem subT_append (ps qs : List Int) (t : T) : subT (ps ++ qs) t = (subT ps t).bind (subT qs) := by
  induction ps generalizing t with
  | nil => rfl
  | cons p ps ih =>
    rw [List.cons_append, subT_cons, subT_cons]
    cases argT t p with
    | none => rfl
    | some x => exact ih x
theorem subT_snoc (ps : List Int) (p : Int) (t : T) : subT (ps ++ [p]) t = (subT ps t).bind (fun x => argT x p) := by
  rw [subT_append]
  congr 1
  funext x
  rw [subT_cons]
  cases argT x p <;> rfl
theorem argT_out {t : T} {p : Int} (h : ¬ (0 ≤ p ∧ p < (kT t).length)) : argT t p = none := by
  unfold argT
  split
  · rw [List.getElem?_eq_none]; omega
  · rfl
theorem argT_in {t : T} {p : Int} (h0 : 0 ≤ p) (h1 : p < (kT t).length) : ∃ j x, p = ((j : Nat) : Int) ∧ (kT t)[j]? = some x ∧ argT t p = some x := by
  refine ⟨p.toNat, _, by omega, List.getElem?_eq_getElem (by omega), ?_⟩
  unfold argT
  rw [if_pos h0]; exact List.getElem?_eq_getElem (by omega)

theorem wS_mem (xs : List T) : ∀ x ∈ xs, wT x ≤ wS xs := by
  induction xs with
  | nil => simp
  | cons y r ih =>
    intro x hx
    simp only [wS, List.map_cons, List.sum_cons]
    rcases List.mem_cons.1 hx with rfl | hx
    · omega
    · have := ih x hx; simp only [wS] at this; omega
theorem wT_kT (t : T) : wS (kT t) ≤ wT t := by
  obtain ⟨k, n, s, xs⟩ := t
  rw [wT_node]; show wS xs ≤ _; omega
theorem argT_mem {t x : T} {p : Int} (h : argT t p = some x) : x ∈ kT t := by
  unfold argT at h
  split at h
  · exact List.mem_of_getElem? h
  · cases h
theorem argT_w {t x : T} {p : Int} (h : argT t p = some x) : wT x ≤ wT t := Nat.le_trans (wS_mem _ x (argT_mem h)) (wT_kT t)
theorem subT_w (ps : List Int) (t x : T) (h : subT ps t = some x) : wT x ≤ wT t := by
  induction ps generalizing t with
  | nil => cases h; exact Nat.le_refl _
  | cons p ps ih =>
    rw [subT_cons] at h
    cases e : argT t p with
    | none => rw [e] at h; cases h
    | some y =>
      rw [e] at h
      exact Nat.le_trans (ih y h) (argT_w e)

/-- A term in which the subterm at a position is replaced. -/
def putT : List Int → T → T → T
  | [], _, u => u
  | p :: ps, .node k n s xs, u => match xs[p.toNat]? with
    | some x => .node k n s (xs.set p.toNat (putT ps x u))
    | none => .node k n s xs
theorem putT_nil (t u : T) : putT [] t u = u := by cases t; rfl
theorem putT_cons (j : Nat) (ps : List Int) (k n : Int) (s : ByteArray) (xs : List T) (x u : T) (h : xs[j]? = some x) : putT ((j : Int) :: ps) (.node k n s xs) u = .node k n s (xs.set j (putT ps x u)) := by
  rw [putT]
  simp only [Int.toNat_natCast, h]

/-- What is there when it is not replaced. -/
theorem putT_self (ps : List Int) (t x : T) (h : subT ps t = some x) : putT ps t x = t := by
  induction ps generalizing t with
  | nil => cases h; exact putT_nil _ _
  | cons p ps ih =>
    rw [subT_cons] at h
    cases e : argT t p with
    | none => rw [e] at h; cases h
    | some y =>
      rw [e] at h
      obtain ⟨k, n, s, xs⟩ := t
      unfold argT at e
      split at e
      · rename_i hp
        obtain ⟨j, rfl⟩ : ∃ j : Nat, p = j := ⟨p.toNat, by omega⟩
        have e' : xs[j]? = some y := by simpa [kT] using e
        rw [putT_cons j ps k n s xs y x e', ih y h]
        congr 1
        have hj := (List.getElem?_eq_some_iff.1 e')
        obtain ⟨hj, hv⟩ := hj
        rw [← hv, List.set_getElem_self]
      · cases e
theorem subT_put (ps : List Int) (t x u : T) (h : subT ps t = some x) : subT ps (putT ps t u) = some u := by
  induction ps generalizing t with
  | nil => rw [putT_nil]; rfl
  | cons p ps ih =>
    rw [subT_cons] at h
    cases e : argT t p with
    | none => rw [e] at h; cases h
    | some y =>
      rw [e] at h
      obtain ⟨k, n, s, xs⟩ := t
      unfold argT at e
      split at e
      · rename_i hp
        obtain ⟨j, rfl⟩ : ∃ j : Nat, p = j := ⟨p.toNat, by omega⟩
        have e' : xs[j]? = some y := by simpa [kT] using e
        have hj := (List.getElem?_eq_some_iff.1 e').1
        rw [putT_cons j ps k n s xs y u e', subT_cons]
        have : argT (.node k n s (xs.set j (putT ps y u))) (j : Int) = some (putT ps y u) := by
          unfold argT
          rw [if_pos hp]
          show (xs.set j (putT ps y u))[(j : Int).toNat]? = _
          rw [Int.toNat_natCast, List.getElem?_set_self hj]
        rw [this]
        exact ih y h
      · cases e

mutual
/-- All positions of a term, in order. -/
def posT : T → List (List Int)
  | .node _ _ _ xs => [] :: posS 0 xs
/-- Those in a list of arguments, from index i on. -/
def posS (i : Nat) : List T → List (List Int)
  | [] => []
  | x :: xs => (posT x).map ((i : Int) :: ·) ++ posS (i + 1) xs
end
theorem posT_node (k n : Int) (s : ByteArray) (xs : List T) : posT (.node k n s xs) = [] :: posS 0 xs := by rw [posT]
theorem posS_nil (i : Nat) : posS i [] = [] := by rw [posS]
theorem posS_cons (i : Nat) (x : T) (xs : List T) : posS i (x :: xs) = (posT x).map ((i : Int) :: ·) ++ posS (i + 1) xs := by rw [posS]
theorem posS_snoc (xs : List T) (i : Nat) (x : T) : posS i (xs ++ [x]) = posS i xs ++ (posT x).map (((i + xs.length : Nat) : Int) :: ·) := by
  induction xs generalizing i with
  | nil => rw [List.nil_append, posS_cons, posS_nil, posS_nil]; simp
  | cons y ys ih =>
    rw [List.cons_append, posS_cons, posS_cons, ih, List.append_assoc, List.length_cons]
    rw [show i + 1 + ys.length = i + (ys.length + 1) by omega]
theorem posT_length : ∀ t : T, (posT t).length = cT t
  | .node k n s xs => by
    have h : ∀ x ∈ xs, (posT x).length = cT x := fun x _ => posT_length x
    rw [posT_node, cT_node, List.length_cons]
    have : ∀ (ys : List T) (i : Nat), (∀ y ∈ ys, (posT y).length = cT y) → (posS i ys).length = cS ys := by
      intro ys
      induction ys with
      | nil => intro i _; rw [posS_nil]; rfl
      | cons y ys ih =>
        intro i hy
        rw [posS_cons, List.length_append, List.length_map, hy y (by simp), ih (i + 1) (fun z hz => hy z (by simp [hz]))]
        simp [cS]
    rw [this xs 0 h]; omega

/-- Every one of them is a position. -/
theorem posT_sub : ∀ (t : T), ∀ p ∈ posT t, ∃ x, subT p t = some x
  | .node k n s xs => by
    have h : ∀ x ∈ xs, ∀ p ∈ posT x, ∃ y, subT p x = some y := fun x _ => posT_sub x
    intro p hp
    rw [posT_node, List.mem_cons] at hp
    rcases hp with rfl | hp
    · exact ⟨_, rfl⟩
    · have key : ∀ (ys : List T) (i : Nat), (∀ y ∈ ys, ∀ p ∈ posT y, ∃ z, subT p y = some z) → ∀ p ∈ posS i ys, ∃ j q y, p = ((i + j : Nat) : Int) :: q ∧ ys[j]? = some y ∧ ∃ z, subT q y = some z := by
        intro ys
        induction ys with
        | nil => intro i _ p hp; rw [posS_nil] at hp; cases hp
        | cons y ys ih =>
          intro i hy p hp
          rw [posS_cons, List.mem_append, List.mem_map] at hp
          rcases hp with ⟨q, hq, rfl⟩ | hp
          · exact ⟨0, q, y, rfl, rfl, hy y (by simp) q hq⟩
          · obtain ⟨j, q, z, rfl, hj, hz⟩ := ih (i + 1) (fun z hz => hy z (by simp [hz])) p hp
            exact ⟨j + 1, q, z, by rw [show i + 1 + j = i + (j + 1) by omega], by simpa using hj, hz⟩
      obtain ⟨j, q, y, rfl, hj, z, hz⟩ := key xs 0 h p hp
      refine ⟨z, ?_⟩
      rw [subT_cons]
      have : argT (.node k n s xs) ((0 + j : Nat) : Int) = some y := by
        unfold argT
        rw [if_pos (by omega), Int.toNat_natCast, Nat.zero_add]
        exact hj
      rw [this]; exact hz
end Go.Proofs.YtcmhiindjponcaaDoor
namespace Go.Proofs.YtcmhiindjponcaaDoor
open Go.RowKit

/-- An int's value. -/
abbrev iv (z : Int) : Value := .int .i64 z
/-- The slice value v holds the integers ps. -/
def IntsAt (w : World) (v : Value) (ps : List Int) : Prop :=
  ∃ a cap, v = .slice a ps.length cap ∧ ps.length ≤ cap ∧ (ps = [] ∨ ∃ b o, a = some ⟨b, o, none⟩ ∧ ∀ i p, ps[i]? = some p → w.cell? ⟨b, o + i, none⟩ = some (iv p))

theorem IntsAt.of_owns {w : World} {B : Nat} {e : TypeId} {v : Value} {ps : List Int} (h : w.ownsRow B e 1 v ps.length (ps.map iv)) : IntsAt w v ps := by
  rcases h.2 with ⟨rfl, h0⟩ | ⟨g, cap, cur, rfl, _, _, hn, _, _, _⟩
  · exact ⟨none, 0, by rw [h0], by omega, Or.inl (List.eq_nil_of_length_eq_zero h0)⟩
  · refine ⟨_, cap, rfl, hn, Or.inr ⟨g, 0, rfl, fun i p hp => ?_⟩⟩
    have hi : i < ps.length := (List.getElem?_eq_some_iff.1 hp).1
    rw [Nat.zero_add, h.cellAt i (by omega)]
    simp [hp]
theorem IntsAt.keep {w w' : World} {v : Value} {ps : List Int} (h : IntsAt w v ps) (hk : ∀ (ad : Addr) x, (∀ a n c, v = .slice (some a) n c → a.block = ad.block) → w.cell? ad = some x → w'.cell? ad = some x) : IntsAt w' v ps := by
  obtain ⟨a, cap, rfl, hc, h⟩ := h
  refine ⟨a, cap, rfl, hc, ?_⟩
  rcases h with h | ⟨b, o, rfl, h⟩
  · exact Or.inl h
  · exact Or.inr ⟨b, o, rfl, fun i p hp => hk _ _ (fun a n c e => by cases e; rfl) (h i p hp)⟩
theorem IntsAt.below {w w' : World} {v : Value} {ps : List Int} (h : IntsAt w v ps) (hb : Below w.heap.size w w') : IntsAt w' v ps :=
  h.keep fun ad x _ hc => by rw [hb.cell (World.block_lt_of_cell? w _ hc)]; exact hc
theorem IntsAt.slice {w : World} {v : Value} {ps : List Int} (h : IntsAt w v ps) : ∃ a cap, v = .slice a ps.length cap := by
  obtain ⟨a, cap, e, _⟩ := h; exact ⟨a, cap, e⟩
theorem IntsAt.at {w : World} {a : Option Addr} {n cap : Nat} {ps : List Int} (h : IntsAt w (.slice a n cap) ps) {i : Nat} {p : Int} (hp : ps[i]? = some p) : ∃ b o, a = some ⟨b, o, none⟩ ∧ w.cell? ⟨b, o + i, none⟩ = some (iv p) := by
  obtain ⟨a', cap', e, _, h⟩ := h
  cases e
  rcases h with rfl | ⟨b, o, rfl, h⟩
  · simp at hp
  · exact ⟨b, o, rfl, h i p hp⟩
theorem IntsAt.len {w : World} {a : Option Addr} {n cap : Nat} {ps : List Int} (h : IntsAt w (.slice a n cap) ps) : n = ps.length := by
  obtain ⟨a', cap', e, _, h⟩ := h; cases e; rfl
theorem IntsAt.cap {w : World} {a : Option Addr} {n cap : Nat} {ps : List Int} (h : IntsAt w (.slice a n cap) ps) : n ≤ cap := by
  obtain ⟨a', cap', e, hc, h⟩ := h; cases e; exact hc
theorem IntsAt.tail {w : World} {b o n cap : Nat} {p : Int} {ps : List Int} (h : IntsAt w (.slice (some ⟨b, o, none⟩) n cap) (p :: ps)) : IntsAt w (.slice (some ⟨b, o + 1, none⟩) ps.length (cap - 1)) ps := by
  have hc := h.cap
  have hl := h.len
  simp at hl
  refine ⟨_, _, rfl, by omega, Or.inr ⟨b, o + 1, rfl, fun j q hq => ?_⟩⟩
  obtain ⟨b', o', e, hx⟩ := h.at (i := j + 1) (p := q) (by simpa using hq)
  cases e
  rw [show o + 1 + j = o + (j + 1) by omega]; exact hx

theorem infoInt : (Tryd.prog.info? 3).map (fun i => (i.zero, i.size, i.bytes)) = some (some (iv 0), 1, 8) := by kernel_rfl

/-- A copy of the integers, in a slice of the call's own. -/
def CopyI (ps : List Int) (w : World) (e : Ending) (w' : World) : Prop :=
  ∃ v, e = .returned v ∧ w'.ownsRow w.heap.size 3 1 v ps.length (ps.map iv) ∧ Below w.heap.size w w'

theorem takeI (ps : List Int) (k : Nat) (p : Int) (h : ps[k]? = some p) : ps.take (k + 1) = ps.take k ++ [p] := by
  rw [List.take_add_one, h]; rfl
theorem copyI_set (ps : List Int) (ys : List Value) (k : Nat) (p : Int) (hp : ps[k]? = some p) (hy : k < ys.length) :
    ((ps.take k).map iv ++ ys.drop k).set k (iv p) = (ps.take (k + 1)).map iv ++ ys.drop (k + 1) := by
  have hk : k < ps.length := (List.getElem?_eq_some_iff.1 hp).1
  have hl : ((ps.take k).map iv).length = k := by simp; omega
  rw [List.set_append_right _ _ (by omega), hl, Nat.sub_self, takeI ps k p hp, List.drop_eq_getElem_cons hy, List.set_cons_zero, List.map_append, List.append_assoc]
  rfl

/-- An answer that leaves what was there. -/
def TrueI (w : World) (e : Ending) (w' : World) : Prop := e = .returned (.bool true) ∧ Below w.heap.size w w'

end Go.Proofs.YtcmhiindjponcaaDoor
namespace Go.Proofs.YtcmhiindjponcaaDoor
open Go.RowKit

/-- The cells of a list of lists of integers: each holds one in a row of the call's own, in blocks from B on of which Q holds. -/
def RowI (w : World) (B : Nat) (Q : Nat → Prop) (vs : List Value) (pss : List (List Int)) : Prop :=
  vs.length = pss.length ∧ ∀ (i : Nat) (q : List Int), pss[i]? = some q → ∃ u : Value, vs[i]? = some u ∧ w.ownsRow B 3 1 u q.length (q.map iv) ∧ ∀ k, u.ownBlock = some k → k < w.heap.size ∧ Q k
theorem own_at {w w' : World} {B n size : Nat} {e : TypeId} {v : Value} {xs : List Value} (h : w.ownsRow B e size v n xs) (hk : ∀ k, v.ownBlock = some k → w'.heap[k]? = w.heap[k]?) : w'.ownsRow B e size v n xs := by
  refine ⟨h.1, ?_⟩
  rcases h.2 with hn | ⟨g, cap, cur, rfl, hg, hc, rest⟩
  · exact Or.inl hn
  · exact Or.inr ⟨g, cap, cur, rfl, hg, by rw [hk g rfl]; exact hc, rest⟩
theorem RowI.keep {w w' : World} {B : Nat} {Q Q' : Nat → Prop} {vs : List Value} {pss : List (List Int)} (h : RowI w B Q vs pss) (hs : w.heap.size ≤ w'.heap.size) (hk : ∀ k, k < w.heap.size → Q k → w'.heap[k]? = w.heap[k]? ∧ Q' k) : RowI w' B Q' vs pss := by
  refine ⟨h.1, fun i q hq => ?_⟩
  obtain ⟨u, hu, hi, hb⟩ := h.2 i q hq
  refine ⟨u, hu, own_at hi fun k e => ?_, fun k e => ?_⟩
  · obtain ⟨h2, h3⟩ := hb k e; exact (hk k h2 h3).1
  · obtain ⟨h2, h3⟩ := hb k e; exact ⟨by omega, (hk k h2 h3).2⟩
theorem RowI.snoc {w : World} {B : Nat} {Q : Nat → Prop} {vs : List Value} {pss : List (List Int)} (h : RowI w B Q vs pss) {u : Value} {q : List Int} (hi : w.ownsRow B 3 1 u q.length (q.map iv)) (hb : ∀ k, u.ownBlock = some k → k < w.heap.size ∧ Q k) : RowI w B Q (vs ++ [u]) (pss ++ [q]) := by
  have hl := h.1
  refine ⟨by simp [hl], fun i q' hq => ?_⟩
  by_cases hlt : i < pss.length
  · rw [List.getElem?_append_left hlt] at hq
    obtain ⟨u', hu', hi', hb'⟩ := h.2 i q' hq
    exact ⟨u', by rw [List.getElem?_append_left (by omega)]; exact hu', hi', hb'⟩
  · have e : i = pss.length := by
      have h1 := (List.getElem?_eq_some_iff.1 hq).1
      simp at h1; omega
    subst e
    rw [List.getElem?_append_right (Nat.le_refl _), Nat.sub_self] at hq
    simp at hq
    subst hq
    exact ⟨u, by rw [← hl, List.getElem?_append_right (Nat.le_refl _), Nat.sub_self]; rfl, hi, hb⟩

/-- A list of positions in a slice of the call's own; the positions lie in other blocks. -/
def ListI (w : World) (B : Nat) (v : Value) (pss : List (List Int)) : Prop := ∃ vs, w.ownsRow B 33 1 v pss.length vs ∧ RowI w B (NotOwn v) vs pss
theorem ListI.grew {w w' : World} {B : Nat} {v : Value} {pss : List (List Int)} (h : ListI w B v pss) (hg : Below w.heap.size w w') : ListI w' B v pss := by
  obtain ⟨vs, ho, hr⟩ := h
  exact ⟨vs, keep_own ho hg, hr.keep hg.size fun k h2 h3 => ⟨hg.block k h2, h3⟩⟩
/-- One more position. -/
theorem ListI.push {w w3 : World} {B : Nat} {v : Value} {pss : List (List Int)} {vs : List Value} {o : Obj} {u : Value} {q : List Int} {g3 cap3 : Nat} (hr : RowI w B (NotOwn v) vs pss) (hi : w.ownsRow B 3 1 u q.length (q.map iv)) (hb : ∀ k, u.ownBlock = some k → k < w.heap.size ∧ NotOwn v k)
    (hown : w3.ownsRow B 33 1 (.slice (some ⟨g3, 0, none⟩) (pss.length + 1) cap3) (pss.length + 1) (vs ++ [u])) (hgr : (w.alloc o).grownBy w3 v.ownBlock) (hat : v.ownBlock = some g3 ∨ g3 = (w.alloc o).heap.size) :
    ListI w3 B (.slice (some ⟨g3, 0, none⟩) (pss.length + 1) cap3) (pss ++ [q]) ∧ Grew v w (.slice (some ⟨g3, 0, none⟩) (pss.length + 1) cap3) w3 := by
  have hg := grew_app (n := pss.length + 1) (cap := cap3) hgr hat
  refine ⟨⟨_, by simpa using hown, (hr.snoc hi hb).keep hg.1 fun k h2 h3 => ⟨hg.2.1 k h2 h3, notOwn_old hg.2.2 h2 h3⟩⟩, hg⟩

/-- The position handed down, in a row. -/
def RowAtI (w : World) (v : Value) (g c : Nat) (ps : List Int) : Prop := v = .slice (some ⟨g, 0, none⟩) ps.length c ∧ g < w.heap.size ∧ ∀ (j : Nat) (u : Value), (ps.map iv)[j]? = some u → w.cell? ⟨g, j, none⟩ = some u
theorem RowAtI.keep {w w' : World} {v : Value} {g c : Nat} {ps : List Int} (h : RowAtI w v g c ps) (hs : w.heap.size ≤ w'.heap.size) (hk : w'.heap[g]? = w.heap[g]?) : RowAtI w' v g c ps :=
  ⟨h.1, by have := h.2.1; omega, fun j u hu => by rw [World.cell?_of_block hk]; exact h.2.2 j u hu⟩
theorem RowAtI.of_owns {w : World} {B g c n : Nat} {e : TypeId} {ps : List Int} (h : w.ownsRow B e 1 (.slice (some ⟨g, 0, none⟩) n c) n (ps.map iv)) (hn : n = ps.length) : RowAtI w (.slice (some ⟨g, 0, none⟩) n c) g c ps := by
  subst hn
  refine ⟨rfl, (h.lt g rfl).2, fun j u hu => ?_⟩
  have hj := (List.getElem?_eq_some_iff.1 hu).1
  rw [h.cellAt j (by simpa using hj)]; exact hu

/-- What a walk leaves. -/
def WalkE (w0 : World) (lv : Value) (pss : List (List Int)) (w : World) (e : Ending) (w' : World) : Prop :=
  ∃ v', e = .returned v' ∧ ListI w' w0.heap.size v' pss ∧ Grew lv w v' w' ∧ Below w0.heap.size w0 w'
def WalkAt (h : Nat) : Prop := ∀ (w0 : World) (v : Value) (t : T) (av lv : Value) (g c : Nat) (ps : List Int) (pss : List (List Int)) (w : World), TermAt w0 0 h v t → Below w0.heap.size w0 w → RowAtI w av g c ps → NotOwn lv g → ListI w w0.heap.size lv pss → wT t ≤ 1048576 →
  ps.length + dT t ≤ 4194304 → pss.length + cT t ≤ 4194304 → Calls Tryd.prog 46 #[v, av, lv] w (WalkE w0 lv (pss ++ (posT t).map (ps ++ ·)) w)
end Go.Proofs.YtcmhiindjponcaaDoor
namespace Go.Proofs.YtcmhiindjponcaaDoor
open Go.RowKit

theorem infoTerm : (Tryd.prog.info? 26).map (fun i => (i.zero, i.size, i.bytes)) = some (some (.agg #[.int .i64 0, .int .i64 0, .string ByteArray.empty, .slice none 0 0]), 4, 56) := by kernel_rfl

theorem heap_new (w : World) (o : Obj) {n : Nat} (h : n = w.heap.size) : (w.alloc o).heap[n]? = some o := by
  subst h
  show (w.heap.push o)[w.heap.size]? = _
  simp
theorem heap_mid (w : World) (o p : Obj) {n : Nat} (h : n = w.heap.size) : ((w.alloc o).alloc p).heap[n]? = some o := by
  rw [Below.heap_alloc _ _ _ (by simp; omega)]
  exact heap_new w o h

theorem results_cell {fn : Func} {a : Tmp} {t : TypeId} {tmps : Array Value} {ad : Addr} (h : fn.results = #[.cell a t]) (ha : tmps.getD a undef = .pointer (some ad)) (P : Program) (w : World) :
    (results fn tmps).run P w = (loadVar t ad).run P w := by
  have h2 : tmps[a]?.getD undef = .pointer (some ad) := by rw [← ha]; simp
  simp [results, h, h2, asAddr]

theorem bel_drew {wr w1 : World} (hb : Below wr.drew.heap.size wr.drew w1) : Below wr.heap.size wr w1 := ((Below.refl _ _).drew).trans hb
end Go.Proofs.YtcmhiindjponcaaDoor
