/-
  laws.heldTermS and laws.heldTerm find the marks that were written.
  Positions: the subterm at one, a term in which it is replaced, all positions of a term. No walk.
  A slice of integers: what it holds; laws.toIntS copies it, laws.eqIntS finds it equal to another.
-/
import Derived.Test.YtooiiomfahomjaaDoorQ31
import Derived.Test.YtooiiomfahomjaaDoorQ5
import Derived.Test.YtooiiomfahomjaaDoorQ4
import Derived.OwnWalk
import Derived.WalkLawsBesides
import Derived.Lib.Hide
import Derived.BigQuiet
import Derived.Deep.QuietTactic
namespace Go.Proofs.YtooiiomfahomjaaDoor
open Go.RowKit

def HeldSAt (h : Nat) : Prop := ∀ (u : Value) (ts : List T) (lo k : Nat) (w : World), ArgsAt w lo h u (mkS k ts) → 1 ≤ k → k + 3 * cS ts ≤ 12582912 →
  Calls Tryd.prog 47 #[u, .int .i64 k] w (NumB ((k + 3 * cS ts : Nat) : Int) w)

set_option maxRecDepth 100000 in
set_option maxHeartbeats 1600000 in
theorem heldS_step (h : Nat) (IH : ∀ h', h = h' + 1 → HeldSAt h') : HeldSAt h := by
  intro u ts lo k w ha hk hkc
  obtain ⟨a, cap, rfl⟩ := ha.slice
  rw [mkS_length] at ha ⊢
  have hl : ts.length ≤ 4194304 := by have := len_cS ts; omega
  have HA := Lib.hid ha; clear ha
  have HIH := Lib.hid IH; clear IH
  have HKC := Lib.hid hkc; clear hkc
  obtain ⟨m, hm⟩ : ∃ m, m = ts.length := ⟨_, rfl⟩
  rw [← hm] at HA hl ⊢
  have HM := Lib.hid hm; clear hm
  go_enter Tryd.func47, Tryd.ntmps47
  go_wp2
  go_loopw [1, 5] (fun q i wr => ∃ (j c : Nat), j ≤ m ∧ i = .int .i64 j ∧ q = .int .i64 c ∧ Hid (c = k + 3 * cS (ts.take j)) ∧ Hid (Below w.heap.size w wr)) (fun _ i _ => m - (intOf i).toNat)
  case atStart => exact ⟨0, k, Nat.zero_le _, rfl, rfl, Lib.hid (by simp [cS]), Lib.hid (Below.refl _ _)⟩
  case round =>
    obtain ⟨j, c, hj, rfl, rfl, HC, HB⟩ := hrel
    have hcb : c ≤ 12582912 := by have := HC.out; have := cS_take ts j; have := HKC.out; omega
    have hc1 : 1 ≤ c := by have := HC.out; omega
    by_cases hlt : j < m
    · obtain ⟨t, ht⟩ : ∃ t, ts[j]? = some t := ⟨_, List.getElem?_eq_getElem (by have := HM.out; omega)⟩
      have hmk := mkS_at ts k j t ht
      obtain ⟨tk1, tn1, ts1, txs⟩ := t
      rw [← HC.out, mkT_node] at hmk
      have hct : cS (ts.take (j + 1)) = cS (ts.take j) + (1 + cS txs) := by rw [tk ts j _ ht, cS_snoc, cT_node]
      have hctl := cS_take ts (j + 1)
      have HCT := Lib.hid hct
      have hcx : c + 3 + 3 * cS txs ≤ 12582912 := by have := HC.out; have := HKC.out; omega
      obtain ⟨h', b, o, kk, nn, s, xs, u', e, rfl, en, hs, d0, d1, d2, d3, har⟩ := HA.out.at hmk
      cases en
      have c0 := cell_on HB.out d0
      have c1 := cell_on HB.out d1
      have c2 := cell_on HB.out d2
      have c3 := cell_on HB.out d3
      have HAR := Lib.hid (har.below HB.out); clear har d0 d1 d2 d3 hct hctl ht hmk hs
      obtain ⟨ua, uc, rfl⟩ := HAR.out.slice
      have hb0 : Below wr.heap.size wr wr := Below.refl _ _
      have hgw : b < wr.heap.size := World.block_lt_of_cell? wr _ c2
      have hq0 : ((c : Int) != (c : Int)) = false := by simp
      have hq1 : ((c : Int) + 1 != (c : Int) + 1) = false := by simp
      have hq2 : ((mark (c + 2)).toList == (mark (c + 2)).toList) = true := by simp
      have hcall := fun (w' : World) (hb : Below wr.heap.size wr w') => HIH.out h' e _ txs lo (c + 3) w' (HAR.out.below hb) (by omega) hcx
      rw [mkS_length] at hcall c3
      have HCALL := Lib.hid hcall; clear hcall
      have hcast : ((c : Int) + 1 + 1) = ((c + 2 : Nat) : Int) := by omega
      go_wp2
      go_region_held3 (fun w' => w'.cell? ⟨b, o + j * 4 + 2, none⟩ = some (.string (mark (c + 2))) ∧ w'.cell? ⟨b, o + j * 4 + 3, none⟩ = some (.slice ua txs.length uc) ∧ Below wr.heap.size wr w')
        (first | exact ⟨cell_on (bel_drew (by assumption)) c2, cell_on (bel_drew (by assumption)) c3, bel_drew (by assumption)⟩ | exact ⟨c2, c3, Below.drew (Below.refl _ _)⟩ | go_keep)
        (first | (go_at_call 71; refine (markText_int _ (c + 2) _ (by omega) (by omega) (by omega)).mono ?_; rintro e w1 ⟨rfl, hb1⟩))
      have hb2 : Below wr.heap.size wr w1 := bel_drew hb1
      have HB2 := Lib.hid (HB.out.trans (hb2.mono HB.out.size))
      have d3 := cell_on hb2 c3
      have hcall := HCALL.out _ hb2
      have HCX := Lib.hid hcall; clear hcall hb2 hb1 hb0
      go_wp2_with fail
      first | rw [show ((c : Int) + 3) = ((c + 3 : Nat) : Int) by omega] | rw [show ((c : Int) + 2 + 1) = ((c + 3 : Nat) : Int) by omega] | rw [show ((c : Int) + 1 + 1 + 1) = ((c + 3 : Nat) : Int) by omega]
      refine HCX.out.mono ?_
      rintro e w2 ⟨rfl, hb3⟩
      have HB3 := Lib.hid (HB2.out.trans (hb3.mono HB2.out.size)); clear hb3
      have HC4 : Hid (c + 3 + 3 * cS txs = k + 3 * cS (ts.take (j + 1))) := Lib.hid (by have := HC.out; have := HCT.out; omega)
      have hpos : ¬ ((c + 3 + 3 * cS txs : Nat) : Int) < 0 := by omega
      go_wp2
      go_roundw
      case rel => exact ⟨j + 1, c + 3 + 3 * cS txs, by omega, by go_num, rfl, HC4, HB3⟩
      case measure => simp [intOf]; omega
    · have HD : Hid (c = k + 3 * cS ts) := Lib.hid (by
        have hjm : j = ts.length := by have := HM.out; omega
        rw [HC.out, hjm, List.take_length])
      go_wp2
      go_ret
      exact ⟨by rw [← HD.out]; rfl, HB.out⟩

theorem heldS_any (h : Nat) : HeldSAt h := by_height heldS_step h

set_option maxRecDepth 100000 in
set_option maxHeartbeats 800000 in
/-- laws.heldTerm, at a term over whose arguments the marks were written. -/
theorem heldT_any (kk nn : Int) (s : ByteArray) (u : Value) (xs : List T) (lo h k : Nat) (w : World) (ha : ArgsAt w lo h u (mkS k xs)) (hk : 1 ≤ k) (hkc : k + 3 * cS xs ≤ 12582912) :
    Calls Tryd.prog 24 #[tv kk nn s u, .int .i64 k] w (NumB ((k + 3 * cS xs : Nat) : Int) w) := by
  have hb0 := boxed_below w kk nn s u
  have hcall := heldS_any h u xs lo k _ (ha.below hb0) hk hkc
  obtain ⟨a, cap, rfl⟩ := ha.slice
  clear ha
  have HCALL := Lib.hid hcall; clear hcall
  have HB0 := Lib.hid hb0; clear hb0
  have hpos : ¬ ((k + 3 * cS xs : Nat) : Int) < 0 := by omega
  go_enter Tryd.func24, Tryd.ntmps24
  go_wp2_with fail
  refine HCALL.out.mono ?_
  rintro e w1 ⟨rfl, hb1⟩
  have HB1 := Lib.hid (HB0.out.trans (hb1.mono HB0.out.size)); clear hb1
  go_wp2
  go_ret
  exact ⟨rfl, HB1.out⟩
end Go.Proofs.YtooiiomfahomjaaDoor
namespace Go.Proofs.YtooiiomfahomjaaDoor

/-- The argument with an index. -/
def argT (t : T) (p : Int) : Option T := if 0 ≤ p then (kT t)[p.toNat]? else none
/-- The subterm at a position. -/
def subT : List Int → T → Option T
  | [], t => some t
  | p :: ps, t => (argT t p).bind (subT ps)
theorem subT_nil (t : T) : subT [] t = some t := rfl
theorem subT_cons (p : Int) (ps : List Int) (t : T) : subT (p :: ps) t = (argT t p).bind (subT ps) := rfl
theorem subT_append (ps qs : List Int) (t : T) : subT (ps ++ qs) t = (subT ps t).bind (subT qs) := by
  induction ps generalizing t with
  | nil => rfl
  | cons p ps ih =>
    rw [List.cons_append, subT_cons, subT_cons]
    cases argT t p with
    | none => rfl
    | some x => exact ih x
theorem subT_snoc (ps : List Int) (p : Int) (t : T) : subT (ps ++ [p]) t = (subT ps t).bind (fun x => argT x p) := by
  rw [subT_append]
  congr 1
  funext x
  rw [subT_cons]
  cases argT x p <;> rfl
theorem argT_out {t : T} {p : Int} (h : ¬ (0 ≤ p ∧ p < (kT t).length)) : argT t p = none := by
  unfold argT
  split
  · rw [List.getElem?_eq_none]; omega
  · rfl
theorem argT_in {t : T} {p : Int} (h0 : 0 ≤ p) (h1 : p < (kT t).length) : ∃ j x, p = ((j : Nat) : Int) ∧ (kT t)[j]? = some x ∧ argT t p = some x := by
  refine ⟨p.toNat, _, by omega, List.getElem?_eq_getElem (by omega), ?_⟩
  unfold argT
  rw [if_pos h0]; exact List.getElem?_eq_getElem (by omega)

theorem wS_mem (xs : List T) : ∀ x ∈ xs, wT x ≤ wS xs := by
  induction xs with
  | nil => simp
  | cons y r ih =>
    intro x hx
    simp only [wS, List.map_cons, List.sum_cons]
    rcases List.mem_cons.1 hx with rfl | hx
    · omega
    · have := ih x hx; simp only [wS] at this; omega
theorem wT_kT (t : T) : wS (kT t) ≤ wT t := by
  obtain ⟨k, n, s, xs⟩ := t
  rw [wT_node]; show wS xs ≤ _; omega
theorem argT_mem {t x : T} {p : Int} (h : argT t p = some x) : x ∈ kT t := by
  unfold argT at h
  split at h
  · exact List.mem_of_getElem? h
  · cases h
theorem argT_w {t x : T} {p : Int} (h : argT t p = some x) : wT x ≤ wT t := Nat.le_trans (wS_mem _ x (argT_mem h)) (wT_kT t)
theorem subT_w (ps : List Int) (t x : T) (h : subT ps t = some x) : wT x ≤ wT t := by
  induction ps generalizing t with
  | nil => cases h; exact Nat.le_refl _
  | cons p ps ih =>
    rw [subT_cons] at h
    cases e : argT t p with
    | none => rw [e] at h; cases h
    | some y =>
      rw [e] at h
      exact Nat.le_trans (ih y h) (argT_w e)

/-- A term in which the subterm at a position is replaced. -/
def putT : List Int → T → T → T
  | [], _, u => u
  | p :: ps, .node k n s xs, u => match xs[p.toNat]? with
    | some x => .node k n s (xs.set p.toNat (putT ps x u))
    | none => .node k n s xs
theorem putT_nil (t u : T) : putT [] t u = u := by cases t; rfl
theorem putT_cons (j : Nat) (ps : List Int) (k n : Int) (s : ByteArray) (xs : List T) (x u : T) (h : xs[j]? = some x) : putT ((j : Int) :: ps) (.node k n s xs) u = .node k n s (xs.set j (putT ps x u)) := by
  rw [putT]
  simp only [Int.toNat_natCast, h]

/-- What is there when it is not replaced. -/
theorem putT_self (ps : List Int) (t x : T) (h : subT ps t = some x) : putT ps t x = t := by
  induction ps generalizing t with
  | nil => cases h; exact putT_nil _ _
  | cons p ps ih =>
    rw [subT_cons] at h
    cases e : argT t p with
    | none => rw [e] at h; cases h
    | some y =>
      rw [e] at h
      obtain ⟨k, n, s, xs⟩ := t
      unfold argT at e
      split at e
      · rename_i hp
        obtain ⟨j, rfl⟩ : ∃ j : Nat, p = j := ⟨p.toNat, by omega⟩
        have e' : xs[j]? = some y := by simpa [kT] using e
        rw [putT_cons j ps k n s xs y x e', ih y h]
        congr 1
        have hj := (List.getElem?_eq_some_iff.1 e')
        obtain ⟨hj, hv⟩ := hj
        rw [← hv, List.set_getElem_self]
      · cases e
theorem subT_put (ps : List Int) (t x u : T) (h : subT ps t = some x) : subT ps (putT ps t u) = some u := by
  induction ps generalizing t with
  | nil => rw [putT_nil]; rfl
  | cons p ps ih =>
    rw [subT_cons] at h
    cases e : argT t p with
    | none => rw [e] at h; cases h
    | some y =>
      rw [e] at h
      obtain ⟨k, n, s, xs⟩ := t
      unfold argT at e
      split at e
      · rename_i hp
        obtain ⟨j, rfl⟩ : ∃ j : Nat, p = j := ⟨p.toNat, by omega⟩
        have e' : xs[j]? = some y := by simpa [kT] using e
        have hj := (List.getElem?_eq_some_iff.1 e').1
        rw [putT_cons j ps k n s xs y u e', subT_cons]
        have : argT (.node k n s (xs.set j (putT ps y u))) (j : Int) = some (putT ps y u) := by
          unfold argT
          rw [if_pos hp]
          show (xs.set j (putT ps y u))[(j : Int).toNat]? = _
          rw [Int.toNat_natCast, List.getElem?_set_self hj]
        rw [this]
        exact ih y h
      · cases e

mutual
/-- All positions of a term, in order. -/
def posT : T → List (List Int)
  | .node _ _ _ xs => [] :: posS 0 xs
/-- Those in a list of arguments, from index i on. -/
def posS (i : Nat) : List T → List (List Int)
  | [] => []
  | x :: xs => (posT x).map ((i : Int) :: ·) ++ posS (i + 1) xs
end
theorem posT_node (k n : Int) (s : ByteArray) (xs : List T) : posT (.node k n s xs) = [] :: posS 0 xs := by rw [posT]
theorem posS_nil (i : Nat) : posS i [] = [] := by rw [posS]
theorem posS_cons (i : Nat) (x : T) (xs : List T) : posS i (x :: xs) = (posT x).map ((i : Int) :: ·) ++ posS (i + 1) xs := by rw [posS]
theorem posS_snoc (xs : List T) (i : Nat) (x : T) : posS i (xs ++ [x]) = posS i xs ++ (posT x).map (((i + xs.length : Nat) : Int) :: ·) := by
  induction xs generalizing i with
  | nil => rw [List.nil_append, posS_cons, posS_nil, posS_nil]; simp
  | cons y ys ih =>
    rw [List.cons_append, posS_cons, posS_cons, ih, List.append_assoc, List.length_cons]
    rw [show i + 1 + ys.length = i + (ys.length + 1) by omega]
theorem posT_length : ∀ t : T, (posT t).length = cT t
  | .node k n s xs => by
    have h : ∀ x ∈ xs, (posT x).length = cT x := fun x _ => posT_length x
    rw [posT_node, cT_node, List.length_cons]
    have : ∀ (ys : List T) (i : Nat), (∀ y ∈ ys, (posT y).length = cT y) → (posS i ys).length = cS ys := by
      intro ys
      induction ys with
      | nil => intro i _; rw [posS_nil]; rfl
      | cons y ys ih =>
        intro i hy
        rw [posS_cons, List.length_append, List.length_map, hy y (by simp), ih (i + 1) (fun z hz => hy z (by simp [hz]))]
        simp [cS]
    rw [this xs 0 h]; omega

/-- Every one of them is a position. -/
theorem posT_sub : ∀ (t : T), ∀ p ∈ posT t, ∃ x, subT p t = some x
  | .node k n s xs => by
    have h : ∀ x ∈ xs, ∀ p ∈ posT x, ∃ y, subT p x = some y := fun x _ => posT_sub x
    intro p hp
    rw [posT_node, List.mem_cons] at hp
    rcases hp with rfl | hp
    · exact ⟨_, rfl⟩
    · have key : ∀ (ys : List T) (i : Nat), (∀ y ∈ ys, ∀ p ∈ posT y, ∃ z, subT p y = some z) → ∀ p ∈ posS i ys, ∃ j q y, p = ((i + j : Nat) : Int) :: q ∧ ys[j]? = some y ∧ ∃ z, subT q y = some z := by
        intro ys
        induction ys with
        | nil => intro i _ p hp; rw [posS_nil] at hp; cases hp
        | cons y ys ih =>
          intro i hy p hp
          rw [posS_cons, List.mem_append, List.mem_map] at hp
          rcases hp with ⟨q, hq, rfl⟩ | hp
          · exact ⟨0, q, y, rfl, rfl, hy y (by simp) q hq⟩
          · obtain ⟨j, q, z, rfl, hj, hz⟩ := ih (i + 1) (fun z hz => hy z (by simp [hz])) p hp
            exact ⟨j + 1, q, z, by rw [show i + 1 + j = i + (j + 1) by omega], by simpa using hj, hz⟩
      obtain ⟨j, q, y, rfl, hj, z, hz⟩ := key xs 0 h p hp
      refine ⟨z, ?_⟩
      rw [subT_cons]
      have : argT (.node k n s xs) ((0 + j : Nat) : Int) = some y := by
        unfold argT
        rw [if_pos (by omega), Int.toNat_natCast, Nat.zero_add]
        exact hj
      rw [this]; exact hz
end Go.Proofs.YtooiiomfahomjaaDoor
namespace Go.Proofs.YtooiiomfahomjaaDoor
open Go.RowKit

/-- An int's value. -/
abbrev iv (z : Int) : Value := .int .i64 z
/-- The slice value v holds the integers ps. -/
def IntsAt (w : World) (v : Value) (ps : List Int) : Prop :=
  ∃ a cap, v = .slice a ps.length cap ∧ ps.length ≤ cap ∧ (ps = [] ∨ ∃ b o, a = some ⟨b, o, none⟩ ∧ ∀ i p, ps[i]? = some p → w.cell? ⟨b, o + i, none⟩ = some (iv p))

theorem IntsAt.of_owns {w : World} {B : Nat} {e : TypeId} {v : Value} {ps : List Int} (h : w.ownsRow B e 1 v ps.length (ps.map iv)) : IntsAt w v ps := by
  rcases h.2 with ⟨rfl, h0⟩ | ⟨g, cap, cur, rfl, _, _, hn, _, _, _⟩
  · exact ⟨none, 0, by rw [h0], by omega, Or.inl (List.eq_nil_of_length_eq_zero h0)⟩
  · refine ⟨_, cap, rfl, hn, Or.inr ⟨g, 0, rfl, fun i p hp => ?_⟩⟩
    have hi : i < ps.length := (List.getElem?_eq_some_iff.1 hp).1
    rw [Nat.zero_add, h.cellAt i (by omega)]
    simp [hp]
theorem IntsAt.keep {w w' : World} {v : Value} {ps : List Int} (h : IntsAt w v ps) (hk : ∀ (ad : Addr) x, (∀ a n c, v = .slice (some a) n c → a.block = ad.block) → w.cell? ad = some x → w'.cell? ad = some x) : IntsAt w' v ps := by
  obtain ⟨a, cap, rfl, hc, h⟩ := h
  refine ⟨a, cap, rfl, hc, ?_⟩
  rcases h with h | ⟨b, o, rfl, h⟩
  · exact Or.inl h
  · exact Or.inr ⟨b, o, rfl, fun i p hp => hk _ _ (fun a n c e => by cases e; rfl) (h i p hp)⟩
theorem IntsAt.below {w w' : World} {v : Value} {ps : List Int} (h : IntsAt w v ps) (hb : Below w.heap.size w w') : IntsAt w' v ps :=
  h.keep fun ad x _ hc => by rw [hb.cell (World.block_lt_of_cell? w _ hc)]; exact hc
theorem IntsAt.slice {w : World} {v : Value} {ps : List Int} (h : IntsAt w v ps) : ∃ a cap, v = .slice a ps.length cap := by
  obtain ⟨a, cap, e, _⟩ := h; exact ⟨a, cap, e⟩
theorem IntsAt.at {w : World} {a : Option Addr} {n cap : Nat} {ps : List Int} (h : IntsAt w (.slice a n cap) ps) {i : Nat} {p : Int} (hp : ps[i]? = some p) : ∃ b o, a = some ⟨b, o, none⟩ ∧ w.cell? ⟨b, o + i, none⟩ = some (iv p) := by
  obtain ⟨a', cap', e, _, h⟩ := h
  cases e
  rcases h with rfl | ⟨b, o, rfl, h⟩
  · simp at hp
  · exact ⟨b, o, rfl, h i p hp⟩
theorem IntsAt.len {w : World} {a : Option Addr} {n cap : Nat} {ps : List Int} (h : IntsAt w (.slice a n cap) ps) : n = ps.length := by
  obtain ⟨a', cap', e, _, h⟩ := h; cases e; rfl
theorem IntsAt.cap {w : World} {a : Option Addr} {n cap : Nat} {ps : List Int} (h : IntsAt w (.slice a n cap) ps) : n ≤ cap := by
  obtain ⟨a', cap', e, hc, h⟩ := h; cases e; exact hc
theorem IntsAt.tail {w : World} {b o n cap : Nat} {p : Int} {ps : List Int} (h : IntsAt w (.slice (some ⟨b, o, none⟩) n cap) (p :: ps)) : IntsAt w (.slice (some ⟨b, o + 1, none⟩) ps.length (cap - 1)) ps := by
  have hc := h.cap
  have hl := h.len
  simp at hl
  refine ⟨_, _, rfl, by omega, Or.inr ⟨b, o + 1, rfl, fun j q hq => ?_⟩⟩
  obtain ⟨b', o', e, hx⟩ := h.at (i := j + 1) (p := q) (by simpa using hq)
  cases e
  rw [show o + 1 + j = o + (j + 1) by omega]; exact hx

theorem infoInt : (Tryd.prog.info? 3).map (fun i => (i.zero, i.size, i.bytes)) = some (some (iv 0), 1, 8) := by kernel_rfl

/-- A copy of the integers, in a slice of the call's own. -/
def CopyI (ps : List Int) (w : World) (e : Ending) (w' : World) : Prop :=
  ∃ v, e = .returned v ∧ w'.ownsRow w.heap.size 3 1 v ps.length (ps.map iv) ∧ Below w.heap.size w w'

theorem takeI (ps : List Int) (k : Nat) (p : Int) (h : ps[k]? = some p) : ps.take (k + 1) = ps.take k ++ [p] := by
  rw [List.take_add_one, h]; rfl
theorem copyI_set (ps : List Int) (ys : List Value) (k : Nat) (p : Int) (hp : ps[k]? = some p) (hy : k < ys.length) :
    ((ps.take k).map iv ++ ys.drop k).set k (iv p) = (ps.take (k + 1)).map iv ++ ys.drop (k + 1) := by
  have hk : k < ps.length := (List.getElem?_eq_some_iff.1 hp).1
  have hl : ((ps.take k).map iv).length = k := by simp; omega
  rw [List.set_append_right _ _ (by omega), hl, Nat.sub_self, takeI ps k p hp, List.drop_eq_getElem_cons hy, List.set_cons_zero, List.map_append, List.append_assoc]
  rfl

/-- An answer that leaves what was there. -/
def TrueI (w : World) (e : Ending) (w' : World) : Prop := e = .returned (.bool true) ∧ Below w.heap.size w w'

end Go.Proofs.YtooiiomfahomjaaDoor
