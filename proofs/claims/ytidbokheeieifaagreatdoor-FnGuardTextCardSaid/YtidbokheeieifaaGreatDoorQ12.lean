/-
  impl.copyTerm: the term in memory of the call's own, all rows below it owned and apart.
  A row of arguments in the making: each argument's rows lie behind those of the ones before. No walk.
  A term of which the variables are changed, in memory of the call's own: what is still to be done, and what it will have been worth. No walk.
  What the laws on functions share: facts that hold as long as some blocks stay as they are. No walk.
  Guards: what a value holds, whose its rows are. No walk.
  laws.szTerm and laws.szTermS count what a term holds.
  laws.toTerm and laws.toTermS copy a term into memory of the call's own.
-/
import Derived.Test.YtidbokheeieifaaGreatDoorQ11
import Derived.Test.YtidbokheeieifaaGreatDoorQ10
import Derived.Test.YtidbokheeieifaaGreatDoorQ5
import Derived.Deep.LoopGhost
import Derived.WalkLawsBesides
import Derived.BigQuiet
import Derived.Deep.QuietTactic
namespace Go.Proofs.YtidbokheeieifaaGreatDoor
open Go.RowKit

/-- The pointer to a node. -/
abbrev pP (p : Pd) : Value := .pointer (some ⟨p.b, p.o, none⟩)
/-- How many terms are still to do. -/
def todo (ps : List Pd) : Nat := (ps.map fun p => 1 + cS p.xs).sum
theorem todo_cons (p : Pd) (ps : List Pd) : todo (p :: ps) = 1 + cS p.xs + todo ps := by simp [todo]
theorem todo_app (ps qs : List Pd) : todo (ps ++ qs) = todo ps + todo qs := by simp [todo]
theorem todo_kids (g h : Nat) (U : Nat → Value) (xs : List T) (j : Nat) (hj : j ≤ xs.length) : todo (kidL g h U (fun i => ((xs[i]?).map kT).getD []) j) = cS (xs.take j) := by
  induction j with
  | zero => simp [kidL, todo, cS]
  | succ j ih =>
    obtain ⟨t, ht⟩ : ∃ t, xs[j]? = some t := ⟨_, List.getElem?_eq_getElem (by omega)⟩
    rw [kidL, todo_cons, ih (by omega), tk xs j t ht, cS_snoc, cT_kT]
    simp [kid, ht]; omega
theorem todo_len (ps : List Pd) : ps.length ≤ todo ps := by
  induction ps with
  | nil => simp [todo]
  | cons p ps ih => rw [todo_cons, List.length_cons]; omega

/-- A row of the call's own, cut short. -/
theorem own_front {w : World} {B n k cap : Nat} {e : TypeId} {a : Option Addr} {xs ys : List Value} (h : w.ownsRow B e 1 (.slice a n cap) n (xs ++ ys)) (hk : xs.length = k) (hx : ys ≠ []) : w.ownsRow B e 1 (.slice a k cap) k xs := by
  have hl := h.1
  rw [List.length_append, Nat.mul_one] at hl
  refine ⟨by omega, ?_⟩
  rcases h.2 with ⟨e1, h0⟩ | ⟨g, c, cur, e1, hb, hg, hc, hm, hs, ht⟩
  · exfalso
    have : ys.length ≠ 0 := fun e => hx (List.eq_nil_of_length_eq_zero e)
    omega
  · simp only [Value.slice.injEq] at e1
    obtain ⟨rfl, _, rfl⟩ := e1
    refine Or.inr ⟨g, cap, cur, rfl, hb, hg, by omega, hm, hs, ?_⟩
    have h2 := congrArg (List.take k) ht
    rw [List.take_take, List.take_left' hk] at h2
    rw [← h2]; congr 1; omega

/-- The node's arguments were copied, and all of them are put behind what is still to do. -/
theorem good_push {w0 : World} {Pb : Nat → Prop} {Fin : World → Prop} {ps : List Pd} {p : Pd} {v v1 vi : Value} {w wc wi : World} {a : Option Addr} {m c g : Nat} {vs : List Value}
    (cont : ∀ v' w' u', Done p v w v' w' u' → GoodW w0 Pb Fin ps v' w') (hp : p.b < w.heap.size) (hpo : NotOwn v p.b) (hl : p.xs.length ≤ maxLen) (hm : m = p.xs.length) (hv1 : v1.ownBlock = v.ownBlock) (hvl : ∀ k, v.ownBlock = some k → k < w.heap.size)
    (hb : Below w.heap.size w wc) (ho : wc.ownsRow w.heap.size 26 4 (.slice a m c) m vs) (hg : m = 0 ∨ a = some ⟨g, 0, none⟩) (hPg : ∀ b, w.heap.size ≤ b → Pb b)
    (hr : RowV w0 (p.h - 1) p.xs vs) (hh : p.h = 0 → p.xs = []) (hG : Grew v1 (wc.setCell ⟨p.b, p.o + 3, none⟩ (.slice a m c)) vi wi) :
    GoodW w0 Pb Fin (kidL g (p.h - 1) (fun i => (vs[i * 4 + 3]?).getD undef) (fun i => ((p.xs[i]?).map kT).getD []) m ++ ps) vi wi := by
  obtain ⟨s1, k1, o1⟩ := hG
  have hz : (wc.setCell ⟨p.b, p.o + 3, none⟩ (.slice a m c)).heap.size = wc.heap.size := by simp [World.setCell]
  rw [hz] at s1 k1 o1
  have hws := hb.size
  rw [hv1] at o1
  have hn1 : ∀ b, NotOwn v b → NotOwn v1 b := fun b h => by unfold NotOwn at *; rw [hv1]; exact h
  have hnv : ∀ b, w.heap.size ≤ b → NotOwn v b := fun b h e => by have := hvl b e.symm; omega
  have size : w.heap.size ≤ wi.heap.size := by omega
  have keep : ∀ b, b < w.heap.size → b ≠ p.b → NotOwn v b → wi.heap[b]? = w.heap[b]? := fun b h1 h2 h3 =>
    (k1 b (by omega) (hn1 b h3)).trans ((Below.heap_setCell _ _ _ _ (fun e => h2 (by simpa using e))).trans (hb.block b h1))
  have cell : wi.heap[p.b]? = (w.setCell ⟨p.b, p.o + 3, none⟩ (.slice a m c)).heap[p.b]? :=
    (k1 p.b (by omega) (hn1 _ hpo)).trans (setCell_heap (ad := ⟨p.b, p.o + 3, none⟩) (hb.block p.b hp))
  have ob : vi.ownBlock = v.ownBlock ∨ ∃ k, vi.ownBlock = some k ∧ w.heap.size ≤ k := by
    rcases o1 with o1 | ⟨k, e, hk⟩
    · exact Or.inl o1
    · exact Or.inr ⟨k, e, by omega⟩
  by_cases h0 : m = 0
  · have hx : p.xs = [] := List.eq_nil_of_length_eq_zero (by omega)
    subst h0
    exact cont vi wi _ ⟨size, keep, cell, ob, by rw [hx]; exact OwnR.nil _ _ _ _ _ _ _⟩
  · have ha : a = some ⟨g, 0, none⟩ := hg.resolve_left h0
    subst ha
    have hlt := ho.lt g rfl
    obtain ⟨h', hh'⟩ : ∃ h', p.h = h' + 1 := ⟨p.h - 1, by
      have : p.h ≠ 0 := fun e => h0 (by rw [hm, hh e]; rfl)
      omega⟩
    rw [show p.h - 1 = h' by omega] at hr ⊢
    refine GoodW.kids (cap := c) cont hlt.1 (hPg g hlt.1) hp hpo hl hh' (fun i k n s txs hi => ?_) m vi wi (by omega) ⟨size, keep, by rw [← hm]; exact cell, ob, by omega, notOwn_old (n := wc.heap.size) o1 hlt.2 (hnv g hlt.1), ?_⟩
    · obtain ⟨_, a', m', cap', _, _, _, x3, ha⟩ := hr.at i k n s txs hi
      simp only [hi, Option.map_some, Option.getD_some, x3]
      exact ⟨rfl, ha⟩
    · have hrow1 : (wc.setCell ⟨p.b, p.o + 3, none⟩ (.slice (some ⟨g, 0, none⟩) m c)).ownsRow w.heap.size 26 4 (.slice (some ⟨g, 0, none⟩) m c) m vs := row_keep ho (Below.heap_setCell _ _ _ _ (fun e => by simp at e; omega))
      have hrow2 := row_keep hrow1 (w' := wi) (k1 g hlt.2 (hn1 _ (hnv g hlt.1)))
      have hrow3 : wi.ownsRow g 26 4 (.slice (some ⟨g, 0, none⟩) m c) m vs := by
        refine ⟨hrow2.1, ?_⟩
        rcases hrow2.2 with ⟨e, _⟩ | ⟨g', cap', cur, e, _, rest⟩
        · cases e
        · cases e
          exact Or.inr ⟨g, c, cur, rfl, Nat.le_refl _, rest⟩
      refine ⟨vs, fun _ => undef, fun _ => 0, fun _ => 0, by rw [← hm]; exact hrow3, fun i k n s txs hi => ?_, fun i i' h1 h2 h3 => by omega⟩
      obtain ⟨hs, a', m', cap', x0, x1, x2, x3, _⟩ := hr.at i k n s txs hi
      have hil := (List.getElem?_eq_some_iff.1 hi).1
      exact ⟨⟨hs, x0, x1, x2⟩, fun _ => by simp [x3], fun hle => by omega⟩

/-- A copy whose rows are the call's own, and apart. -/
def CopyR (h : Nat) (t : T) (w : World) (e : Ending) (w' : World) : Prop :=
  ∃ k n s u xs, e = .returned (tv k n s u) ∧ t = .node k n s xs ∧ s.size ≤ maxLen ∧ OwnR (fun _ => True) w' h w.heap.size w'.heap.size u xs ∧ Below w.heap.size w w'
end Go.Proofs.YtidbokheeieifaaGreatDoor
namespace Go.Proofs.YtidbokheeieifaaGreatDoor
open Go.RowKit

theorem OwnR.more {Q : Nat → Prop} {w : World} : ∀ {h lo hi : Nat} {u : Value} {ts : List T}, OwnR Q w h lo hi u ts → OwnR Q w (h + 1) lo hi u ts
  | 0, _, _, _, _, ⟨e, a, cap, e2⟩ => by subst e; exact ⟨a, cap, e2, Nat.zero_le _, Or.inl rfl⟩
  | h + 1, lo, hi, u, ts, ⟨a, cap, e, hl, hc⟩ => by
    refine ⟨a, cap, e, hl, ?_⟩
    rcases hc with hc | ⟨g, xs, U, L, R, ea, hq, h1, h2, ho, hx, hd⟩
    · exact Or.inl hc
    · refine Or.inr ⟨g, xs, U, L, R, ea, hq, h1, h2, ho, fun i k n s txs hi => ?_, hd⟩
      obtain ⟨c, x3, l1, l2, l3, hr⟩ := hx i k n s txs hi
      exact ⟨c, x3, l1, l2, l3, hr.more⟩
theorem OwnR.le {Q : Nat → Prop} {w : World} {h h' lo hi : Nat} {u : Value} {ts : List T} (k : OwnR Q w h lo hi u ts) (hle : h ≤ h') : OwnR Q w h' lo hi u ts := by
  induction hle with
  | refl => exact k
  | step _ ih => exact ih.more

/-- What an append to a slice leaves. -/
structure Snoc (lo0 : Nat) (w : World) (u : Value) (m : Nat) (ys cs : List Value) (w' : World) (u' : Value) : Prop where
  size : w.heap.size ≤ w'.heap.size
  keep : ∀ b, b < w.heap.size → NotOwn u b → w'.heap[b]? = w.heap[b]?
  new : w'.ownsRow lo0 26 4 u' (m + 1) (ys ++ cs)
  ob : u'.ownBlock = u.ownBlock ∨ ∃ k, u'.ownBlock = some k ∧ w.heap.size ≤ k

/-- One argument more. -/
theorem OwnR.row {w : World} {lo0 lo hi H : Nat} {u : Value} {txs : List T} (ho : OwnR (fun _ => True) w (H + 1) lo hi u txs) (h0 : lo0 ≤ lo) (hn : txs = [] → u = .slice none 0 0) (hhi : hi ≤ w.heap.size) (hlw : lo ≤ w.heap.size) (hm : txs.length + 1 ≤ maxLen) :
    ∃ ys, w.ownsRow lo0 26 4 u txs.length ys ∧ (∀ j, u.ownBlock = some j → lo ≤ j ∧ j < hi) ∧
      ∀ w' u' ka na sa ua axs La Ra, Snoc lo0 w u txs.length ys [.int .i64 ka, .int .i64 na, .string sa, ua] w' u' → sa.size ≤ maxLen → lo ≤ La → hi ≤ La → Ra ≤ w.heap.size → OwnR (fun _ => True) w H La Ra ua axs →
        OwnR (fun _ => True) w' (H + 1) lo w'.heap.size u' (txs ++ [.node ka na sa axs]) := by
  have hrow : ∃ ys, w.ownsRow lo0 26 4 u txs.length ys ∧ (∀ j, u.ownBlock = some j → lo ≤ j ∧ j < hi) ∧ ∃ (V : Nat → Value) (L' R' : Nat → Nat),
      (∀ i kk nn s' tx, txs[i]? = some (T.node kk nn s' tx) → (s'.size ≤ maxLen ∧ ys[i * 4]? = some (.int .i64 kk) ∧ ys[i * 4 + 1]? = some (.int .i64 nn) ∧ ys[i * 4 + 2]? = some (.string s')) ∧ ys[i * 4 + 3]? = some (V i) ∧ (lo ≤ L' i ∧ R' i ≤ hi) ∧ (∀ j, u.ownBlock = some j → j < L' i ∨ R' i ≤ j) ∧ OwnR (fun _ => True) w H (L' i) (R' i) (V i) tx) ∧
      (∀ i j, i < j → j < txs.length → R' i ≤ L' j ∨ R' j ≤ L' i) := by
    by_cases ht : txs = []
    · subst ht
      rw [hn rfl]
      exact ⟨[], ⟨rfl, Or.inl ⟨rfl, rfl⟩⟩, fun j e => by simp [Value.ownBlock] at e, fun _ => undef, fun _ => 0, fun _ => 0, fun i _ _ _ _ hi => by simp at hi, fun i j _ h2 => by simp at h2⟩
    · obtain ⟨a, cap, e, hle, hc⟩ := ho
      obtain ⟨g, ys, V, L', R', rfl, hq, h1, h2, how, hxx, hdd⟩ := hc.resolve_left ht
      have how' := how
      rw [e] at how'
      refine ⟨ys, own_low how (by omega), fun j ej => ?_, V, L', R', fun i kk nn s' tx hi => ?_, hdd⟩
      · rw [e] at ej; simp [Value.ownBlock] at ej; subst ej; exact ⟨h1, h2⟩
      · obtain ⟨cc, y3, l1, l2, l3, hr⟩ := hxx i kk nn s' tx hi
        exact ⟨cc, y3, ⟨l1, l2⟩, fun j ej => by rw [e] at ej; simp [Value.ownBlock] at ej; subst ej; exact l3, hr⟩
  obtain ⟨ys, how, hnv, V, L', R', hxx, hdd⟩ := hrow
  refine ⟨ys, how, hnv, fun w' u' ka na sa ua axs La Ra A hsa hLl hLa hRa hoa => ?_⟩
  have hyl : ys.length = txs.length * 4 := how.1
  have hsz := A.size
  have hkb : ∀ b, b < w.heap.size → (∀ j, u.ownBlock = some j → b ≠ j) → w'.heap[b]? = w.heap[b]? := fun b hb h2 => A.keep b hb (fun e => h2 b e.symm rfl)
  obtain ⟨g', cap', rfl⟩ : ∃ g' cap', u' = .slice (some ⟨g', 0, none⟩) (txs.length + 1) cap' := by
    rcases A.new.2 with ⟨_, h0⟩ | ⟨g, c, cur, e, _⟩
    · omega
    · exact ⟨g, c, e⟩
  have hg' : u.ownBlock = some g' ∨ w.heap.size ≤ g' := by
    rcases A.ob with e | ⟨j, e, hj⟩
    · exact Or.inl e.symm
    · simp [Value.ownBlock] at e; subst e; exact Or.inr hj
  have hg'lt : g' < w'.heap.size := (A.new.lt g' rfl).2
  have hg'lo : lo ≤ g' := by
    rcases hg' with e | e
    · exact (hnv g' e).1
    · omega
  refine ⟨_, cap', by simp, by simpa using hm, Or.inr ⟨g', ys ++ [.int .i64 ka, .int .i64 na, .string sa, ua], fun i => if i = txs.length then ua else V i, fun i => if i = txs.length then La else L' i, fun i => if i = txs.length then Ra else R' i, rfl, trivial, hg'lo, hg'lt, ?_, fun i kk nn s' tx hi => ?_, fun i j h1 h2 => ?_⟩⟩
  · rw [List.length_append, List.length_singleton]
    refine ⟨A.new.1, ?_⟩
    rcases A.new.2 with ⟨_, h0⟩ | ⟨g, c, cur, e, hb, rest⟩
    · omega
    · cases e; exact Or.inr ⟨g', cap', cur, rfl, Nat.le_refl _, rest⟩
  · rcases Nat.lt_trichotomy i txs.length with hlt | hlt | hlt
    · rw [List.getElem?_append_left hlt] at hi
      obtain ⟨⟨d0, d1, d2, d3⟩, y3, l1, l3, hr⟩ := hxx i kk nn s' tx hi
      have e : i ≠ txs.length := by omega
      simp only [if_neg e]
      refine ⟨⟨d0, ?_, ?_, ?_⟩, ?_, l1.1, by omega, ?_, hr.keep fun b hb b1 b2 => ⟨hkb b (by omega) fun j ej ebj => ?_, trivial⟩⟩
      · rw [List.getElem?_append_left (by omega)]; exact d1
      · rw [List.getElem?_append_left (by omega)]; exact d2
      · rw [List.getElem?_append_left (by omega)]; exact d3
      · rw [List.getElem?_append_left (by omega)]; exact y3
      · rcases hg' with eg | eg
        · exact l3 g' eg
        · exact Or.inr (by omega)
      · have := l3 j ej; omega
    · subst hlt
      simp only [List.getElem?_concat_length, Option.some.injEq, T.node.injEq] at hi
      obtain ⟨rfl, rfl, rfl, rfl⟩ := hi
      simp only [if_true]
      refine ⟨⟨hsa, ?_, ?_, ?_⟩, ?_, by omega, by omega, ?_, hoa.keep fun b hb b1 b2 => ⟨hkb b (by omega) fun j ej ebj => ?_, trivial⟩⟩
      · rw [List.getElem?_append_right (by omega), hyl, Nat.sub_self]; rfl
      · rw [List.getElem?_append_right (by omega), hyl, show txs.length * 4 + 1 - txs.length * 4 = 1 by omega]; rfl
      · rw [List.getElem?_append_right (by omega), hyl, show txs.length * 4 + 2 - txs.length * 4 = 2 by omega]; rfl
      · rw [List.getElem?_append_right (by omega), hyl, show txs.length * 4 + 3 - txs.length * 4 = 3 by omega]; rfl
      · rcases hg' with eg | eg
        · have := (hnv g' eg).2; exact Or.inl (by omega)
        · exact Or.inr (by omega)
      · have := (hnv j ej).2; omega
    · rw [List.getElem?_eq_none (by simp; omega)] at hi; cases hi
  · rw [List.length_append, List.length_singleton] at h2
    have e : i ≠ txs.length := by omega
    simp only [if_neg e]
    by_cases e2 : j = txs.length
    · simp only [if_pos e2]
      obtain ⟨t, ht⟩ : ∃ t, txs[i]? = some t := ⟨_, List.getElem?_eq_getElem (by omega)⟩
      obtain ⟨k1, n1, s1, x1⟩ := t
      obtain ⟨_, _, l1, _, _⟩ := hxx i k1 n1 s1 x1 ht
      exact Or.inl (by omega)
    · simp only [if_neg e2]; exact hdd i j h1 (by omega)
end Go.Proofs.YtidbokheeieifaaGreatDoor
namespace Go.Proofs.YtidbokheeieifaaGreatDoor
open Go.RowKit

/-- The variables are changed: by its name one becomes a term, or gets another name. -/
def mapT (F : ByteArray → Option T) (R : ByteArray → ByteArray) : T → T
  | .node k n s xs => if k = 1 then (match F s with | some t => t | none => .node k n (R s) (xs.map (mapT F R))) else .node k n s (xs.map (mapT F R))
theorem mapT_node (F : ByteArray → Option T) (R : ByteArray → ByteArray) (k n : Int) (s : ByteArray) (xs : List T) : mapT F R (.node k n s xs) = if k = 1 then (match F s with | some t => t | none => .node k n (R s) (xs.map (mapT F R))) else .node k n s (xs.map (mapT F R)) := by rw [mapT]

theorem set_id_heap {w : World} {ad : Addr} {v : Value} (h : w.cell? ad = some v) : (w.setCell ad v).heap = w.heap := by
  unfold World.setCell
  apply Array.ext_getElem?
  intro i
  rw [Array.getElem?_modify]
  by_cases hi : ad.block = i
  · subst hi
    rw [if_pos rfl]
    unfold World.cell? at h
    cases hb : w.heap[ad.block]? with
    | none => rfl
    | some o =>
      rw [hb] at h
      cases o with
      | cells c elem frozen =>
        simp only [Option.map_some]
        cases hs : ad.spot with
        | some x => simp
        | none =>
          simp only [hs, Option.isSome_none, Bool.false_eq_true, if_false] at h ⊢
          congr 2
          apply Array.ext_getElem?
          intro j
          rw [Array.getElem?_setIfInBounds]
          by_cases hj : ad.off = j
          · subst hj
            have hlt := (Array.getElem?_eq_some_iff.1 h).1
            rw [if_pos rfl, if_pos hlt, h]
          · rw [if_neg hj]
      | _ => rfl
  · rw [if_neg hi]
theorem set_id {w : World} {ad : Addr} {v : Value} (h : w.cell? ad = some v) : w.setCell ad v = w := by
  have e := set_id_heap h
  calc w.setCell ad v = { w with heap := (w.setCell ad v).heap } := rfl
    _ = w := by rw [e]
theorem lset4 {xs : List Value} {a p : Nat} {v0 v1 v2 v3 : Value} (h0 : a ≠ p) (h1 : a + 1 ≠ p) (h2 : a + 2 ≠ p) (h3 : a + 3 ≠ p) :
    ((((xs.set a v0).set (a + 1) v1).set (a + 2) v2).set (a + 3) v3)[p]? = xs[p]? := by
  rw [List.getElem?_set_ne h3, List.getElem?_set_ne h2, List.getElem?_set_ne h1, List.getElem?_set_ne h0]

/-- The four cells of a node. -/
abbrev cellsQ (w : World) (b o : Nat) (k n : Int) (s : ByteArray) (u : Value) : World :=
  (((w.setCell ⟨b, o, none⟩ (.int .i64 k)).setCell ⟨b, o + 1, none⟩ (.int .i64 n)).setCell ⟨b, o + 2, none⟩ (.string s)).setCell ⟨b, o + 3, none⟩ u
theorem setCell_heap' {w w' : World} {b o : Nat} {x : Value} (h : w'.heap[b]? = w.heap[b]?) : (w'.setCell ⟨b, o, none⟩ x).heap[b]? = (w.setCell ⟨b, o, none⟩ x).heap[b]? := setCell_heap (ad := ⟨b, o, none⟩) h
theorem cellsQ_heap {w w' : World} {b o : Nat} {k n : Int} {s : ByteArray} {u : Value} (h : w'.heap[b]? = w.heap[b]?) : (cellsQ w' b o k n s u).heap[b]? = (cellsQ w b o k n s u).heap[b]? :=
  setCell_heap' (setCell_heap' (setCell_heap' (setCell_heap' h)))
theorem cellsQ_head {w : World} {b o : Nat} {k n : Int} {s : ByteArray} {u : Value} (h0 : w.cell? ⟨b, o, none⟩ = some (.int .i64 k)) (h1 : w.cell? ⟨b, o + 1, none⟩ = some (.int .i64 n)) : cellsQ w b o k n s u = (w.setCell ⟨b, o + 2, none⟩ (.string s)).setCell ⟨b, o + 3, none⟩ u := by
  unfold cellsQ
  rw [set_id h0, set_id h1]

/-- A node that is still to be changed: where it lies, what its cells hold, its arguments. -/
structure Pv where
  b : Nat
  o : Nat
  h : Nat
  k : Int
  n : Int
  s : ByteArray
  u : Value
  xs : List T

/-- The node was changed: only its cells have turned, beside the slice v of what is still to do, which may have moved; its arguments lie in new blocks. -/
structure DoneM (f : T → T) (D : Nat) (p : Pv) (v : Value) (w : World) (v' : Value) (w' : World) : Prop where
  size : w.heap.size ≤ w'.heap.size
  keep : ∀ b, b < w.heap.size → b ≠ p.b → NotOwn v b → w'.heap[b]? = w.heap[b]?
  ob : v'.ownBlock = v.ownBlock ∨ ∃ k, v'.ownBlock = some k ∧ w.heap.size ≤ k
  res : ∃ k n s u xs, f (.node p.k p.n p.s p.xs) = .node k n s xs ∧ s.size ≤ maxLen ∧ w'.heap[p.b]? = (cellsQ w p.b p.o k n s u).heap[p.b]? ∧ OwnR (NotOwn v') w' (p.h + D) w.heap.size w'.heap.size u xs

/-- The node's cells. -/
structure NodeC (w : World) (b o : Nat) (k n : Int) (s : ByteArray) (u : Value) : Prop where
  c0 : w.cell? ⟨b, o, none⟩ = some (.int .i64 k)
  c1 : w.cell? ⟨b, o + 1, none⟩ = some (.int .i64 n)
  c2 : w.cell? ⟨b, o + 2, none⟩ = some (.string s)
  c3 : w.cell? ⟨b, o + 3, none⟩ = some u
  f0 : w.frozen? ⟨b, o, none⟩ = false
  f1 : w.frozen? ⟨b, o + 1, none⟩ = false
  f2 : w.frozen? ⟨b, o + 2, none⟩ = false
  f3 : w.frozen? ⟨b, o + 3, none⟩ = false

/-- What is still to do, the next one first, is worth Fin: once all of it is done, Fin holds. -/
def GoodM (f : T → T) (D : Nat) (w0 : World) (Pb : Nat → Prop) (Fin : World → Prop) : List Pv → Value → World → Prop
  | [], _, w => Fin w
  | p :: ps, v, w => (NodeC w p.b p.o p.k p.n p.s p.u ∧ wT (.node p.k p.n p.s p.xs) ≤ 4194303 ∧ Pb p.b ∧ p.b < w.heap.size ∧ NotOwn v p.b ∧ ArgsAt w0 0 p.h p.u p.xs) ∧ ∀ v' w', DoneM f D p v w v' w' → GoodM f D w0 Pb Fin ps v' w'

/-- What a row of arguments holds at its j-th. -/
structure Hd where
  k : Int
  n : Int
  s : ByteArray
  u : Value
  xs : List T
def kidM (g h : Nat) (U : Nat → Hd) (j : Nat) : Pv := ⟨g, j * 4, h, (U j).k, (U j).n, (U j).s, (U j).u, (U j).xs⟩
def kidsM (g h : Nat) (U : Nat → Hd) : Nat → List Pv
  | 0 => []
  | j + 1 => kidM g h U j :: kidsM g h U j

/-- A node whose row was copied, and whose arguments from j on are done. -/
structure MidM (f : T → T) (D : Nat) (p : Pv) (S : ByteArray) (v : Value) (w : World) (g cap h : Nat) (U : Nat → Hd) (j : Nat) (vj : Value) (wj : World) : Prop where
  size : w.heap.size ≤ wj.heap.size
  keep : ∀ b, b < w.heap.size → b ≠ p.b → NotOwn v b → wj.heap[b]? = w.heap[b]?
  cell : wj.heap[p.b]? = (cellsQ w p.b p.o p.k p.n S (.slice (some ⟨g, 0, none⟩) p.xs.length cap)).heap[p.b]?
  ob : vj.ownBlock = v.ownBlock ∨ ∃ k, vj.ownBlock = some k ∧ w.heap.size ≤ k
  gs : g < wj.heap.size
  gn : NotOwn vj g
  row : ∃ (ys : List Value) (V : Nat → Value) (L R : Nat → Nat), wj.ownsRow g 26 4 (.slice (some ⟨g, 0, none⟩) p.xs.length cap) p.xs.length ys ∧
    (∀ i, i < j → i < p.xs.length → ys[i * 4]? = some (.int .i64 (U i).k) ∧ ys[i * 4 + 1]? = some (.int .i64 (U i).n) ∧ ys[i * 4 + 2]? = some (.string (U i).s) ∧ ys[i * 4 + 3]? = some (U i).u) ∧
    (∀ i t, j ≤ i → p.xs[i]? = some t → ∃ k n s txs, f t = .node k n s txs ∧ (s.size ≤ maxLen ∧ ys[i * 4]? = some (.int .i64 k) ∧ ys[i * 4 + 1]? = some (.int .i64 n) ∧ ys[i * 4 + 2]? = some (.string s)) ∧ ys[i * 4 + 3]? = some (V i) ∧ g < L i ∧ w.heap.size ≤ L i ∧ R i ≤ wj.heap.size ∧ OwnR (NotOwn vj) wj (h + D) (L i) (R i) (V i) txs) ∧
    ∀ i i', j ≤ i → i < i' → i' < p.xs.length → R i' ≤ L i

theorem MidM.step {f : T → T} {D : Nat} {p : Pv} {S : ByteArray} {v : Value} {w : World} {g cap h : Nat} {U : Nat → Hd} {j : Nat} {vj : Value} {wj : World} {v' : Value} {w' : World} (m : MidM f D p S v w g cap h U (j + 1) vj wj) (d : DoneM f D (kidM g h U j) vj wj v' w')
    (hg : w.heap.size ≤ g) (hp : p.b < w.heap.size) (hpo : NotOwn v p.b) (hj : j < p.xs.length) (hX : ∀ i k n s txs, p.xs[i]? = some (.node k n s txs) → (U i).k = k ∧ (U i).n = n ∧ (U i).s = s ∧ (U i).xs = txs) : MidM f D p S v w g cap h U j v' w' := by
  obtain ⟨ys, V, L, R, ho, hlo, hhi, hd⟩ := m.row
  have hyl := ho.1
  have dk : ∀ b, b < wj.heap.size → b ≠ g → NotOwn vj b → w'.heap[b]? = wj.heap[b]? := d.keep
  have ms := m.size
  have ds := d.size
  obtain ⟨k', n', s', u', xs', ef, hs', hc', hown⟩ := d.res
  refine ⟨Nat.le_trans m.size d.size, fun b hb hne hno => ?_, ?_, ob_trans m.size m.ob d.ob, Nat.lt_of_lt_of_le m.gs d.size, notOwn_old d.ob m.gs m.gn, ?_⟩
  · exact (dk b (by omega) (by omega) (notOwn_old m.ob hb hno)).trans (m.keep b hb hne hno)
  · exact (dk p.b (by omega) (by omega) (notOwn_old m.ob hp hpo)).trans m.cell
  · have o1 := (ho.stored (j * 4) (.int .i64 k')).1
    have o2 := (o1.stored (j * 4 + 1) (.int .i64 n')).1
    have o3 := (o2.stored (j * 4 + 2) (.string s')).1
    have o4 := (o3.stored (j * 4 + 3) u').1
    have hrow := row_keep o4 (w' := w') (hc' : w'.heap[g]? = (cellsQ wj g (j * 4) k' n' s' u').heap[g]?)
    refine ⟨_, fun i => if i = j then u' else V i, fun i => if i = j then wj.heap.size else L i, fun i => if i = j then w'.heap.size else R i, hrow, fun i hi hil => ?_, fun i t hle hi => ?_, fun i i' h1 h2 h3 => ?_⟩
    · obtain ⟨x0, x1, x2, x3⟩ := hlo i (by omega) hil
      rw [lset4 (by omega) (by omega) (by omega) (by omega), lset4 (by omega) (by omega) (by omega) (by omega), lset4 (by omega) (by omega) (by omega) (by omega), lset4 (by omega) (by omega) (by omega) (by omega)]
      exact ⟨x0, x1, x2, x3⟩
    · have hil := (List.getElem?_eq_some_iff.1 hi).1
      by_cases e : i = j
      · subst e
        obtain ⟨tk, tn, tsn, txs⟩ := t
        obtain ⟨e1, e2, e3, e4⟩ := hX i tk tn tsn txs hi
        have e5 : f (.node tk tn tsn txs) = .node k' n' s' xs' := by rw [← ef, ← e1, ← e2, ← e3, ← e4]; rfl
        refine ⟨k', n', s', xs', e5, ⟨hs', ?_, ?_, ?_⟩, ?_, ?_⟩
        · simp [List.getElem?_set]; omega
        · simp [List.getElem?_set]; omega
        · simp [List.getElem?_set]; omega
        · simp [List.getElem?_set]; omega
        · simp only [if_true]
          exact ⟨m.gs, m.size, Nat.le_refl _, hown⟩
      · simp only [if_neg e]
        obtain ⟨k, n, s, txs, ef', ⟨hs, x0, x1, x2⟩, x3, l1, l2, l3, hr⟩ := hhi i t (by omega) hi
        refine ⟨k, n, s, txs, ef', ⟨hs, ?_, ?_, ?_⟩, ?_, l1, l2, by omega, hr.keep (fun b hb b1 b2 => ⟨dk b (by omega) (by omega) hb, notOwn_old d.ob (by omega) hb⟩)⟩
        · rw [lset4 (by omega) (by omega) (by omega) (by omega)]; exact x0
        · rw [lset4 (by omega) (by omega) (by omega) (by omega)]; exact x1
        · rw [lset4 (by omega) (by omega) (by omega) (by omega)]; exact x2
        · rw [lset4 (by omega) (by omega) (by omega) (by omega)]; exact x3
    · by_cases e : i = j
      · subst e
        have e2 : i' ≠ i := by omega
        simp only [if_true, if_neg e2]
        obtain ⟨t, ht⟩ : ∃ t, p.xs[i']? = some t := ⟨_, List.getElem?_eq_getElem h3⟩
        obtain ⟨_, _, _, _, _, _, _, _, _, l3, _⟩ := hhi i' t (by omega) ht
        exact l3
      · have e2 : i' ≠ j := by omega
        simp only [if_neg e, if_neg e2]
        exact hd i i' (by omega) h2 h3

theorem MidM.done {f : T → T} {D : Nat} {p : Pv} {S : ByteArray} {v : Value} {w : World} {g cap h : Nat} {U : Nat → Hd} {vj : Value} {wj : World} (m : MidM f D p S v w g cap h U 0 vj wj) (hg : w.heap.size ≤ g) (hl : p.xs.length ≤ maxLen) (hh : p.h = h + 1)
    (hS : S.size ≤ maxLen) (hf : f (.node p.k p.n p.s p.xs) = .node p.k p.n S (p.xs.map f)) : DoneM f D p v w vj wj := by
  obtain ⟨ys, V, L, R, ho, _, hhi, hd⟩ := m.row
  refine ⟨m.size, m.keep, m.ob, _, _, _, _, _, hf, hS, m.cell, ?_⟩
  rw [hh, show h + 1 + D = h + D + 1 by omega]
  have ho' := ho
  rw [show p.xs.length = (p.xs.map f).length by simp] at ho' ⊢
  refine ⟨_, cap, rfl, by simpa using hl, Or.inr ⟨g, ys, V, L, R, rfl, m.gn, hg, m.gs, ho', fun i k n s txs hi => ?_, fun i j h1 h2 => Or.inr (hd i j (Nat.zero_le _) h1 (by simpa using h2))⟩⟩
  rw [List.getElem?_map] at hi
  obtain ⟨t, ht, et⟩ := Option.map_eq_some_iff.1 hi
  obtain ⟨k', n', s', txs', ef, c, x3, l1, l2, l3, hr⟩ := hhi i t (Nat.zero_le _) ht
  rw [et] at ef
  cases ef
  exact ⟨c, x3, l2, l3, Or.inl l1, hr⟩

theorem GoodM.kids {f : T → T} {D : Nat} {w0 : World} {Pb : Nat → Prop} {Fin : World → Prop} {ps : List Pv} {p : Pv} {S : ByteArray} {v : Value} {w : World} {g cap h : Nat} {U : Nat → Hd}
    (cont : ∀ v' w', DoneM f D p v w v' w' → GoodM f D w0 Pb Fin ps v' w') (hg : w.heap.size ≤ g) (hn : Pb g) (hp : p.b < w.heap.size) (hpo : NotOwn v p.b) (hl : p.xs.length ≤ maxLen) (hh : p.h = h + 1)
    (hS : S.size ≤ maxLen) (hf : f (.node p.k p.n p.s p.xs) = .node p.k p.n S (p.xs.map f)) (hw : wT (.node p.k p.n p.s p.xs) ≤ 4194303)
    (hX : ∀ i k n s txs, p.xs[i]? = some (.node k n s txs) → (U i).k = k ∧ (U i).n = n ∧ (U i).s = s ∧ (U i).xs = txs ∧ ArgsAt w0 0 h (U i).u txs) :
    ∀ (j : Nat) (vj : Value) (wj : World), j ≤ p.xs.length → MidM f D p S v w g cap h U j vj wj → GoodM f D w0 Pb Fin (kidsM g h U j ++ ps) vj wj
  | 0, vj, wj, _, m => cont _ _ (m.done hg hl hh hS hf)
  | j + 1, vj, wj, hj, m => by
    obtain ⟨t, ht⟩ : ∃ t, p.xs[j]? = some t := ⟨_, List.getElem?_eq_getElem (by omega)⟩
    obtain ⟨k, n, s, txs⟩ := t
    obtain ⟨ys, V, L, R, ho, hlo, _, hd⟩ := m.row
    obtain ⟨x0, x1, x2, x3⟩ := hlo j (by omega) (by omega)
    have hyl := ho.1
    obtain ⟨e1, e2, e3, e4, hag⟩ := hX j k n s txs ht
    refine ⟨⟨⟨?_, ?_, ?_, ?_, ho.frozenAt _, ho.frozenAt _, ho.frozenAt _, ho.frozenAt _⟩, ?_, hn, m.gs, m.gn, ?_⟩, fun v' w' d => GoodM.kids cont hg hn hp hpo hl hh hS hf hw hX j v' w' (by omega) (m.step d hg hp hpo (by omega) (fun i k n s txs hi => by obtain ⟨a, b, c, d, _⟩ := hX i k n s txs hi; exact ⟨a, b, c, d⟩))⟩
    · show wj.cell? ⟨g, j * 4, none⟩ = _
      rw [ho.cellAt (j * 4) (by omega), x0]; rfl
    · show wj.cell? ⟨g, j * 4 + 1, none⟩ = _
      rw [ho.cellAt (j * 4 + 1) (by omega), x1]; rfl
    · show wj.cell? ⟨g, j * 4 + 2, none⟩ = _
      rw [ho.cellAt (j * 4 + 2) (by omega), x2]; rfl
    · show wj.cell? ⟨g, j * 4 + 3, none⟩ = _
      rw [ho.cellAt (j * 4 + 3) (by omega), x3]; rfl
    · show wT (.node (U j).k (U j).n (U j).s (U j).xs) ≤ 4194303
      rw [e1, e2, e3, e4]
      have h1 := wT_at p.xs j _ ht
      rw [wT_node] at hw
      omega
    · show ArgsAt w0 0 h (U j).u (U j).xs
      rw [e4]; exact hag
end Go.Proofs.YtidbokheeieifaaGreatDoor
namespace Go.Proofs.YtidbokheeieifaaGreatDoor
open Go.RowKit

/-- P holds in every world in which the blocks from lo to hi are as they are here. -/
def Kept (lo hi : Nat) (P : World → Prop) (w : World) : Prop := hi ≤ w.heap.size ∧ ∀ w', Same lo hi w w' → P w'
theorem Kept.now {lo hi : Nat} {P : World → Prop} {w : World} (h : Kept lo hi P w) : P w := h.2 w fun _ _ _ => rfl
theorem Kept.same {lo hi : Nat} {P : World → Prop} {w w1 : World} (h : Kept lo hi P w) (hs : Same lo hi w w1) (hz : w.heap.size ≤ w1.heap.size) : Kept lo hi P w1 :=
  ⟨Nat.le_trans h.1 hz, fun w' h' => h.2 w' fun b b1 b2 => (h' b b1 b2).trans (hs b b1 b2)⟩
theorem Kept.below {lo hi : Nat} {P : World → Prop} {w w1 : World} (h : Kept lo hi P w) (hb : Below w.heap.size w w1) : Kept lo hi P w1 :=
  h.same (fun b _ b2 => hb.block b (Nat.lt_of_lt_of_le b2 h.1)) hb.size
theorem Kept.out {lo hi l2 h2 : Nat} {P : World → Prop} {w w1 : World} (h : Kept lo hi P w) (ho : Out l2 h2 w w1) (hd : hi ≤ l2 ∨ h2 ≤ lo) : Kept lo hi P w1 :=
  h.same (fun b b1 b2 => ho.2.2.2.2 b (Nat.lt_of_lt_of_le b2 h.1) (by omega)) ho.2.2.2.1
theorem Kept.grown {lo hi : Nat} {P : World → Prop} {w w1 : World} {row : Option Nat} (h : Kept lo hi P w) (hg : w.grownBy w1 row) (hd : ∀ k, row = some k → k < lo ∨ hi ≤ k) : Kept lo hi P w1 :=
  h.same (fun b b1 b2 => hg.block b (Nat.lt_of_lt_of_le b2 h.1) (fun e => by have := hd b e.symm; omega)) hg.size
theorem Kept.mono {lo hi : Nat} {P Q : World → Prop} {w : World} (h : Kept lo hi P w) (hq : ∀ w', P w' → Q w') : Kept lo hi Q w := ⟨h.1, fun w' hs => hq w' (h.2 w' hs)⟩

theorem ArgsAt.same {w w' : World} {lo h : Nat} {u : Value} {ts : List T} (k : ArgsAt w lo h u ts) (hs : Same lo w.heap.size w w') : ArgsAt w' lo h u ts :=
  k.keep fun ad v hlo hv => by
    have hl := World.block_lt_of_cell? w _ hv
    unfold World.cell? at *
    rw [hs ad.block hlo hl]; exact hv
theorem TermAt.same {w w' : World} {lo h : Nat} {v : Value} {t : T} (k : TermAt w lo h v t) (hs : Same lo w.heap.size w w') : TermAt w' lo h v t := by
  obtain ⟨k, n, s, u, xs, e1, e2, hsz, ha⟩ := k
  exact ⟨k, n, s, u, xs, e1, e2, hsz, ha.same hs⟩
theorem OwnA.same {w w' : World} {h lo hi : Nat} {u : Value} {ts : List T} (k : OwnA w h lo hi u ts) (hs : Same lo hi w w') : OwnA w' h lo hi u ts := k.keep fun b b1 b2 => hs b b1 b2

theorem TermAt.kept {w : World} {lo h : Nat} {v : Value} {t : T} (k : TermAt w lo h v t) : Kept lo w.heap.size (fun w' => TermAt w' lo h v t) w := ⟨Nat.le_refl _, fun _ hs => k.same hs⟩
/-- A term in a box, its rows and the box in the blocks from lo to hi. -/
def TBox (lo b : Nat) (k n : Int) (s : ByteArray) (u : Value) (h : Nat) (t : T) (w : World) : Prop := w.heap[b]? = some (trow k n s u) ∧ TermAt w lo h (tv k n s u) t
theorem TBox.kept {lo b h : Nat} {k n : Int} {s : ByteArray} {u : Value} {t : T} {w : World} (x : TBox lo b k n s u h t w) (hb : lo ≤ b) : Kept lo w.heap.size (TBox lo b k n s u h t) w :=
  ⟨Nat.le_refl _, fun _ hs => ⟨(hs b hb (Array.getElem?_eq_some_iff.1 x.1).1).trans x.1, x.2.same hs⟩⟩
/-- The same, and its rows are a call's own. -/
def TBoxO (lo b : Nat) (k n : Int) (s : ByteArray) (u : Value) (h : Nat) (xs : List T) (w : World) : Prop := TBox lo b k n s u h (.node k n s xs) w ∧ OwnA w h lo b u xs
theorem TBoxO.kept {lo b h : Nat} {k n : Int} {s : ByteArray} {u : Value} {xs : List T} {w : World} (x : TBoxO lo b k n s u h xs w) (hb : lo ≤ b) : Kept lo w.heap.size (TBoxO lo b k n s u h xs) w := by
  have hl := (Array.getElem?_eq_some_iff.1 x.1.1).1
  exact ⟨Nat.le_refl _, fun w' hs => ⟨(x.1.kept hb).2 w' hs, x.2.same fun c c1 c2 => hs c c1 (by omega)⟩⟩
/-- What a copy leaves, in its box. -/
theorem tbox_of {w1 W1 : World} {lo h : Nat} {k n : Int} {s : ByteArray} {u : Value} {xs : List T} (hs : s.size ≤ maxLen) (ha : ArgsAt w1 lo h u xs) (ho : OwnA w1 h lo w1.heap.size u xs) (hW : W1 = boxed w1 k n s u) : TBoxO lo w1.heap.size k n s u h xs W1 := by
  have hb : Below w1.heap.size w1 W1 := by rw [hW]; exact boxed_below _ _ _ _ _
  exact ⟨⟨by rw [hW]; exact heap_new _ _ rfl, ⟨_, _, _, _, xs, rfl, rfl, hs, ha.below hb⟩⟩, ho.keep fun b _ b2 => hb.block b b2⟩
theorem cells_of4L {Y : World} {b : Nat} {x0 x1 x2 x3 : Value} {t : TypeId} (hb : Y.heap[b]? = some (.cells #[x0, x1, x2, x3] t (0, 0))) : Y.cell? ⟨b, 0, none⟩ = some x0 ∧ Y.cell? ⟨b, 1, none⟩ = some x1 ∧ Y.cell? ⟨b, 2, none⟩ = some x2 ∧ Y.cell? ⟨b, 3, none⟩ = some x3 := by
  have h0 := cell_of_row Y b 0 _ _ _ hb
  have h1 := cell_of_row Y b 1 _ _ _ hb
  have h2 := cell_of_row Y b 2 _ _ _ hb
  have h3 := cell_of_row Y b 3 _ _ _ hb
  simp at h0 h1 h2 h3
  exact ⟨h0, h1, h2, h3⟩

/-- A copy, of whatever height. -/
def CopyE (r : T) (w : World) (e : Ending) (w' : World) : Prop := ∃ H, CopyR H r w e w'

/-- A term to be read, of whatever height. -/
def ReadE (r : T) (w : World) (e : Ending) (w' : World) : Prop := ∃ H, LCopyT H r w e w'
theorem CopyE.read {r : T} {w : World} {e : Ending} {w' : World} (c : CopyE r w e w') : ReadE r w e w' := by
  obtain ⟨H, k, n, s, u, xs, rfl, rfl, hs, ho, hb⟩ := c
  obtain ⟨a, cap, rfl⟩ := ho.slice
  exact ⟨H, k, n, s, a, _, cap, rfl, ⟨_, _, _, _, xs, rfl, rfl, hs, ho.args (Nat.le_refl _)⟩, hb⟩
theorem tread_of {w1 W1 : World} {lo h : Nat} {k n : Int} {s : ByteArray} {u : Value} {t : T} (ht : TermAt w1 lo h (tv k n s u) t) (hW : W1 = boxed w1 k n s u) : TBox lo w1.heap.size k n s u h t W1 := by
  have hb : Below w1.heap.size w1 W1 := by rw [hW]; exact boxed_below _ _ _ _ _
  exact ⟨by rw [hW]; exact heap_new _ _ rfl, ht.below hb⟩

/-- A term in a new box, behind a region that makes the box somewhere among its calls. -/
def BoxT (W : World) (r : T) (pu : Value) (wc : World) : Prop :=
  ∃ B k n s a m c H, pu = .pointer (some ⟨B, 0, none⟩) ∧ wc.heap[B]? = some (trow k n s (.slice a m c)) ∧ TermAt wc W.heap.size H (tv k n s (.slice a m c)) r ∧ Below W.heap.size W wc ∧ W.heap.size ≤ B
theorem boxT_new {W w1 : World} {B h lo : Nat} {r : T} {k n : Int} {s : ByteArray} {a : Option Addr} {m c : Nat} (hB : Below W.heap.size W w1) (ht : TermAt w1 lo h (tv k n s (.slice a m c)) r) (hlo : W.heap.size ≤ lo) (hb : B = w1.heap.size) :
    BoxT W r (.pointer (some ⟨B, 0, none⟩)) (w1.alloc (.cells #[.int .i64 k, .int .i64 n, .string s, .slice a m c] 26)) := by
  subst hb
  have hb1 : Below w1.heap.size w1 (w1.alloc (.cells #[.int .i64 k, .int .i64 n, .string s, .slice a m c] 26)) := (Below.refl _ _).alloc (Nat.le_refl _) _
  exact ⟨_, k, n, s, a, m, c, h, rfl, heap_new _ _ rfl, (ht.below hb1).low hlo, hB.trans (hb1.mono hB.size), hB.size⟩
theorem heap_set_atK {w : World} {b : Nat} {cs : Array Value} {e : TypeId} (h : w.heap[b]? = some (.cells cs e (0, 0))) (j : Nat) (v : Value) : (w.setCell ⟨b, j, none⟩ v).heap[b]? = some (.cells (cs.setIfInBounds j v) e (0, 0)) := by
  unfold World.setCell
  simp [Array.getElem?_modify, h]
theorem boxT_set {W w1 : World} {B h lo : Nat} {r : T} {x0 x1 x2 x3 : Value} {k n : Int} {s : ByteArray} {a : Option Addr} {m c : Nat} (hB : Below W.heap.size W w1) (ht : TermAt w1 lo h (tv k n s (.slice a m c)) r) (hZ : w1.heap[B]? = some (.cells #[x0, x1, x2, x3] 26 (0, 0))) (hlo : B < lo) (hb : W.heap.size ≤ B) :
    BoxT W r (.pointer (some ⟨B, 0, none⟩)) ((((w1.setCell ⟨B, 0, none⟩ (.int .i64 k)).setCell ⟨B, 1, none⟩ (.int .i64 n)).setCell ⟨B, 2, none⟩ (.string s)).setCell ⟨B, 3, none⟩ (.slice a m c)) := by
  have st : ∀ (X : World) (j : Nat) (v : Value), TermAt X lo h (tv k n s (.slice a m c)) r → TermAt (X.setCell ⟨B, j, none⟩ v) lo h (tv k n s (.slice a m c)) r := fun X j v q => by
    obtain ⟨k, n, s, u, xs, e1, e2, hs, ha⟩ := q
    exact ⟨k, n, s, u, xs, e1, e2, hs, ha.grown (set_grown X B j v) (fun i e => by cases e; exact hlo)⟩
  exact ⟨_, k, n, s, a, m, c, h, rfl, heap_set_atK (heap_set_atK (heap_set_atK (heap_set_atK hZ 0 _) 1 _) 2 _) 3 _, (st _ _ _ (st _ _ _ (st _ _ _ (st _ _ _ ht)))).low (by omega), (((hB.setCell hb _).setCell hb _).setCell hb _).setCell hb _, hb⟩
theorem zk_new {w w' : World} (hb : Below (w.alloc (.cells #[.int .i64 0, .int .i64 0, .string ⟨#[]⟩, .slice none 0 0] 26)).heap.size (w.alloc (.cells #[.int .i64 0, .int .i64 0, .string ⟨#[]⟩, .slice none 0 0] 26)) w') : w'.heap[w.heap.size]? = some (trow 0 0 ⟨#[]⟩ (.slice none 0 0)) :=
  (hb.block _ (by simp)).trans (heap_new _ _ rfl)
theorem zk_drew {w w' : World} (hb : Below (w.alloc (.cells #[.int .i64 0, .int .i64 0, .string ⟨#[]⟩, .slice none 0 0] 26)).drew.heap.size (w.alloc (.cells #[.int .i64 0, .int .i64 0, .string ⟨#[]⟩, .slice none 0 0] 26)).drew w') : w'.heap[w.heap.size]? = some (trow 0 0 ⟨#[]⟩ (.slice none 0 0)) :=
  zk_new (bel_drew hb)
theorem zk_keep {w w' : World} {b : Nat} {o : Obj} (h : w.heap[b]? = some o) (hb : Below w.heap.size w w') : w'.heap[b]? = some o := (hb.block b (Array.getElem?_eq_some_iff.1 h).1).trans h
theorem al_belK (w : World) (o : Obj) : Below w.heap.size w (w.alloc o) := (Below.refl _ _).alloc (Nat.le_refl _) o
theorem bel_alK {w w' : World} (h : Below w.heap.size w w') (o : Obj) : Below w.heap.size w (w'.alloc o) := h.alloc h.size o

/-- How many nodes a changed term has. -/
theorem cS_map (f : T → T) (M : Nat) (xs : List T) (h : ∀ x ∈ xs, cT (f x) ≤ cT x * M) : cS (xs.map f) ≤ cS xs * M := by
  induction xs with
  | nil => simp [cS]
  | cons x r ih =>
    have h1 := h x (by simp)
    have h2 := ih (fun y hy => h y (by simp [hy]))
    simp only [cS, List.map_cons, List.sum_cons, Nat.add_mul] at *
    omega
theorem cT_map (F : ByteArray → Option T) (R : ByteArray → ByteArray) (M : Nat) (hF : ∀ s u, F s = some u → cT u ≤ M) (hM : 1 ≤ M) : ∀ t, cT (mapT F R t) ≤ cT t * M
  | .node k n s xs => by
    have hm : cS (xs.map (mapT F R)) ≤ cS xs * M := cS_map _ M xs fun x _ => cT_map F R M hF hM x
    have hn : ∀ s', cT (.node k n s' (xs.map (mapT F R))) ≤ cT (.node k n s xs) * M := fun s' => by
      rw [cT_node, cT_node, Nat.add_mul]; omega
    rw [mapT_node]
    split
    · split
      · rename_i u hu
        have := hF _ _ hu
        rw [cT_node, Nat.add_mul]; omega
      · exact hn _
    · exact hn _
end Go.Proofs.YtidbokheeieifaaGreatDoor
namespace Go.Proofs.YtidbokheeieifaaGreatDoor
open Go.RowKit

/-- A guard: its kind, its sides. -/
structure Gd where
  kd : Int
  l : T
  r : T

/-- The value of a guard. -/
abbrev gv (kd k n : Int) (s : ByteArray) (u : Value) (k' n' : Int) (s' : ByteArray) (u' : Value) : Value := .agg #[.int .i64 kd, .int .i64 k, .int .i64 n, .string s, u, .int .i64 k', .int .i64 n', .string s', u']
/-- The value v is the guard g, the sides of a depth of at most h below them, in blocks from lo on. -/
def GAt (w : World) (lo h : Nat) (v : Value) (g : Gd) : Prop :=
  ∃ k n s u k' n' s' u', v = gv g.kd k n s u k' n' s' u' ∧ TermAt w lo h (tv k n s u) g.l ∧ TermAt w lo h (tv k' n' s' u') g.r
theorem GAt.form {w : World} {lo h : Nat} {v : Value} {g : Gd} (q : GAt w lo h v g) : ∃ k n s u k' n' s' u', v = gv g.kd k n s u k' n' s' u' := by
  obtain ⟨k, n, s, u, k', n', s', u', e, _⟩ := q
  exact ⟨k, n, s, u, k', n', s', u', e⟩
theorem GAt.sides {w : World} {lo h : Nat} {kd k n : Int} {s : ByteArray} {u : Value} {k' n' : Int} {s' : ByteArray} {u' : Value} {g : Gd} (q : GAt w lo h (gv kd k n s u k' n' s' u') g) : TermAt w lo h (tv k n s u) g.l ∧ TermAt w lo h (tv k' n' s' u') g.r := by
  obtain ⟨_, _, _, _, _, _, _, _, e, h1, h2⟩ := q
  cases e
  exact ⟨h1, h2⟩
theorem GAt.below {w w' : World} {lo h : Nat} {v : Value} {g : Gd} (q : GAt w lo h v g) (hb : Below w.heap.size w w') : GAt w' lo h v g := by
  obtain ⟨k, n, s, u, k', n', s', u', e, h1, h2⟩ := q
  exact ⟨k, n, s, u, k', n', s', u', e, h1.below hb, h2.below hb⟩
theorem GAt.same {w w' : World} {lo h : Nat} {v : Value} {g : Gd} (q : GAt w lo h v g) (hs : Same lo w.heap.size w w') : GAt w' lo h v g := by
  obtain ⟨k, n, s, u, k', n', s', u', e, h1, h2⟩ := q
  exact ⟨k, n, s, u, k', n', s', u', e, h1.same hs, h2.same hs⟩
theorem GAt.low {w : World} {lo lo' h : Nat} {v : Value} {g : Gd} (q : GAt w lo h v g) (hlo : lo' ≤ lo) : GAt w lo' h v g := by
  obtain ⟨k, n, s, u, k', n', s', u', e, h1, h2⟩ := q
  exact ⟨k, n, s, u, k', n', s', u', e, h1.low hlo, h2.low hlo⟩
theorem GAt.le {w : World} {lo h h' : Nat} {v : Value} {g : Gd} (q : GAt w lo h v g) (hle : h ≤ h') : GAt w lo h' v g := by
  obtain ⟨k, n, s, u, k', n', s', u', e, h1, h2⟩ := q
  exact ⟨k, n, s, u, k', n', s', u', e, h1.le hle, h2.le hle⟩
theorem GAt.kept {w : World} {lo h : Nat} {v : Value} {g : Gd} (q : GAt w lo h v g) : Kept lo w.heap.size (fun w' => GAt w' lo h v g) w := ⟨Nat.le_refl _, fun _ hs => q.same hs⟩

/-- Both rows of arguments, and those below, are owned, lie in blocks from lo to hi, and lie apart. -/
def OwnG (w : World) (h lo hi : Nat) (u u' : Value) (xs xs' : List T) : Prop :=
  ∃ l r l' r', lo ≤ l ∧ r ≤ hi ∧ lo ≤ l' ∧ r' ≤ hi ∧ (r ≤ l' ∨ r' ≤ l) ∧ OwnA w h l r u xs ∧ OwnA w h l' r' u' xs'
theorem OwnG.same {w w' : World} {h lo hi : Nat} {u u' : Value} {xs xs' : List T} (q : OwnG w h lo hi u u' xs xs') (hs : Same lo hi w w') : OwnG w' h lo hi u u' xs xs' := by
  obtain ⟨l, r, l', r', h1, h2, h3, h4, h5, o1, o2⟩ := q
  exact ⟨l, r, l', r', h1, h2, h3, h4, h5, o1.same fun b b1 b2 => hs b (by omega) (by omega), o2.same fun b b1 b2 => hs b (by omega) (by omega)⟩

/-- A guard in a box of type t. -/
abbrev grow (ty : TypeId) (kd k n : Int) (s : ByteArray) (u : Value) (k' n' : Int) (s' : ByteArray) (u' : Value) : Obj := .cells #[.int .i64 kd, .int .i64 k, .int .i64 n, .string s, u, .int .i64 k', .int .i64 n', .string s', u'] ty (0, 0)
/-- A guard in a box, its rows and the box in the blocks from lo on. -/
def GBox (lo b : Nat) (kd k n : Int) (s : ByteArray) (u : Value) (k' n' : Int) (s' : ByteArray) (u' : Value) (h : Nat) (g : Gd) (w : World) : Prop :=
  w.heap[b]? = some (grow 28 kd k n s u k' n' s' u') ∧ GAt w lo h (gv kd k n s u k' n' s' u') g
theorem GBox.kept {lo b h : Nat} {kd k n : Int} {s : ByteArray} {u : Value} {k' n' : Int} {s' : ByteArray} {u' : Value} {g : Gd} {w : World} (x : GBox lo b kd k n s u k' n' s' u' h g w) (hb : lo ≤ b) : Kept lo w.heap.size (GBox lo b kd k n s u k' n' s' u' h g) w :=
  ⟨Nat.le_refl _, fun _ hs => ⟨(hs b hb (Array.getElem?_eq_some_iff.1 x.1).1).trans x.1, x.2.same hs⟩⟩
/-- The same, and its rows are a call's own. -/
def GBoxO (lo b : Nat) (kd k n : Int) (s : ByteArray) (u : Value) (k' n' : Int) (s' : ByteArray) (u' : Value) (h : Nat) (xs xs' : List T) (w : World) : Prop :=
  GBox lo b kd k n s u k' n' s' u' h ⟨kd, .node k n s xs, .node k' n' s' xs'⟩ w ∧ OwnG w h lo b u u' xs xs'
theorem GBoxO.kept {lo b h : Nat} {kd k n : Int} {s : ByteArray} {u : Value} {k' n' : Int} {s' : ByteArray} {u' : Value} {xs xs' : List T} {w : World} (x : GBoxO lo b kd k n s u k' n' s' u' h xs xs' w) (hb : lo ≤ b) : Kept lo w.heap.size (GBoxO lo b kd k n s u k' n' s' u' h xs xs') w := by
  have hl := (Array.getElem?_eq_some_iff.1 x.1.1).1
  exact ⟨Nat.le_refl _, fun w' hs => ⟨(x.1.kept hb).2 w' hs, x.2.same fun c c1 c2 => hs c c1 (by omega)⟩⟩
theorem cells_of9 {Y : World} {b : Nat} {x0 x1 x2 x3 x4 x5 x6 x7 x8 : Value} {t : TypeId} (hb : Y.heap[b]? = some (.cells #[x0, x1, x2, x3, x4, x5, x6, x7, x8] t (0, 0))) :
    Y.cell? ⟨b, 0, none⟩ = some x0 ∧ Y.cell? ⟨b, 1, none⟩ = some x1 ∧ Y.cell? ⟨b, 2, none⟩ = some x2 ∧ Y.cell? ⟨b, 3, none⟩ = some x3 ∧ Y.cell? ⟨b, 4, none⟩ = some x4 ∧ Y.cell? ⟨b, 5, none⟩ = some x5 ∧ Y.cell? ⟨b, 6, none⟩ = some x6 ∧ Y.cell? ⟨b, 7, none⟩ = some x7 ∧ Y.cell? ⟨b, 8, none⟩ = some x8 := by
  have h0 := cell_of_row Y b 0 _ _ _ hb
  have h1 := cell_of_row Y b 1 _ _ _ hb
  have h2 := cell_of_row Y b 2 _ _ _ hb
  have h3 := cell_of_row Y b 3 _ _ _ hb
  have h4 := cell_of_row Y b 4 _ _ _ hb
  have h5 := cell_of_row Y b 5 _ _ _ hb
  have h6 := cell_of_row Y b 6 _ _ _ hb
  have h7 := cell_of_row Y b 7 _ _ _ hb
  have h8 := cell_of_row Y b 8 _ _ _ hb
  simp at h0 h1 h2 h3 h4 h5 h6 h7 h8
  exact ⟨h0, h1, h2, h3, h4, h5, h6, h7, h8⟩

/-- How much a guard holds. -/
def wG (g : Gd) : Nat := wT g.l + wT g.r
/-- A copy of a guard. -/
def CopyGO (h : Nat) (g : Gd) (w : World) (e : Ending) (w' : World) : Prop :=
  ∃ k n s u xs k' n' s' u' xs', e = .returned (gv g.kd k n s u k' n' s' u') ∧ g.l = .node k n s xs ∧ g.r = .node k' n' s' xs' ∧ (s.size ≤ maxLen ∧ s'.size ≤ maxLen) ∧ (ArgsAt w' w.heap.size h u xs ∧ ArgsAt w' w.heap.size h u' xs') ∧ OwnG w' h w.heap.size w'.heap.size u u' xs xs' ∧ Below w.heap.size w w'
/-- The same, for reading. -/
def ReadGO (h : Nat) (g : Gd) (w : World) (e : Ending) (w' : World) : Prop := ∃ v, e = .returned v ∧ GAt w' w.heap.size h v g ∧ Below w.heap.size w w'
theorem CopyGO.read {h : Nat} {g : Gd} {w : World} {e : Ending} {w' : World} (c : CopyGO h g w e w') : ReadGO h g w e w' := by
  obtain ⟨k, n, s, u, xs, k', n', s', u', xs', rfl, e1, e2, hs, ⟨h1, h2⟩, _, hb⟩ := c
  refine ⟨_, rfl, ⟨k, n, s, u, k', n', s', u', rfl, ?_, ?_⟩, hb⟩
  · rw [e1]; exact ⟨_, _, _, _, _, rfl, rfl, hs.1, h1⟩
  · rw [e2]; exact ⟨_, _, _, _, _, rfl, rfl, hs.2, h2⟩
end Go.Proofs.YtidbokheeieifaaGreatDoor
namespace Go.Proofs.YtidbokheeieifaaGreatDoor
open Go.RowKit

/-- What the count says. -/
def TSz (m : Nat) (left : Int) (w : World) (e : Ending) (w' : World) : Prop :=
  ∃ r : Int, e = .returned (.int .i64 r) ∧ Below w.heap.size w w' ∧ -1 ≤ r ∧ (0 ≤ r → r + m ≤ left)

end Go.Proofs.YtidbokheeieifaaGreatDoor
namespace Go.Proofs.YtidbokheeieifaaGreatDoor
open Go.RowKit

/-- A copy of the arguments: a slice whose rows are all new. -/
def CopyS (h : Nat) (ts : List T) (w : World) (e : Ending) (w' : World) : Prop :=
  ∃ u, e = .returned u ∧ (ArgsAt w' w.heap.size h u ts ∧ OwnA w' h w.heap.size w'.heap.size u ts) ∧ Below w.heap.size w w'
def CopyT (h : Nat) (t : T) (w : World) (e : Ending) (w' : World) : Prop :=
  ∃ v, e = .returned v ∧ TermAt w' w.heap.size h v t ∧ Below w.heap.size w w'

/-- The copy's rows are its own besides. -/
def CopyTO (h : Nat) (t : T) (w : World) (e : Ending) (w' : World) : Prop :=
  ∃ k n s u xs, e = .returned (tv k n s u) ∧ t = .node k n s xs ∧ s.size ≤ maxLen ∧ (ArgsAt w' w.heap.size h u xs ∧ OwnA w' h w.heap.size w'.heap.size u xs) ∧ Below w.heap.size w w'
theorem CopyTO.copy {h : Nat} {t : T} {w : World} {e : Ending} {w' : World} (c : CopyTO h t w e w') : CopyT h t w e w' := by
  obtain ⟨k, n, s, u, xs, e1, e2, hs, ⟨ha, _⟩, hb⟩ := c
  exact ⟨_, e1, ⟨k, n, s, u, xs, rfl, e2, hs, ha⟩, hb⟩

/-- How far the copy of a row has come; the rows below it lie in blocks up to B. -/
def CopyRel (h g n k B : Nat) (ts : List T) (w : World) : Prop :=
  ∃ (xs : List Value) (U : Nat → Value) (L R : Nat → Nat), w.ownsRow g 26 4 (.slice (some ⟨g, 0, none⟩) n n) n xs ∧ (∀ i kk nn s txs, i < k → ts[i]? = some (T.node kk nn s txs) →
    s.size ≤ maxLen ∧ xs[i * 4]? = some (.int .i64 kk) ∧ xs[i * 4 + 1]? = some (.int .i64 nn) ∧ xs[i * 4 + 2]? = some (.string s) ∧ xs[i * 4 + 3]? = some (U i) ∧ ArgsAt w (g + 1) h (U i) txs ∧ OwnA w h (L i) (R i) (U i) txs) ∧
    (∀ i, i < k → g < L i ∧ L i ≤ R i ∧ R i ≤ B) ∧ (∀ i j, i < j → j < k → R i ≤ L j)

theorem CopyRel.below {h g n k B : Nat} {ts : List T} {w w' : World} (c : CopyRel h g n k B ts w) (hb : Below w.heap.size w w') (hB : B ≤ w.heap.size) : CopyRel h g n k B ts w' := by
  obtain ⟨xs, U, L, R, ho, hx, hl, hd⟩ := c
  refine ⟨xs, U, L, R, keep_own ho hb, fun i kk nn s txs hi ht => ?_, hl, hd⟩
  obtain ⟨hs, x0, x1, x2, x3, ha, hoa⟩ := hx i kk nn s txs hi ht
  exact ⟨hs, x0, x1, x2, x3, ha.below hb, hoa.keep fun b b1 b2 => hb.block b (by have := hl i hi; omega)⟩

theorem CopyRel.cells {h g n k B : Nat} {ts : List T} {w : World} (c : CopyRel h g n k B ts w) (hk : k < n) (j : Nat) (hj : j < 4) :
    (∃ v, w.cell? ⟨g, k * 4 + j, none⟩ = some v) ∧ w.frozen? ⟨g, k * 4 + j, none⟩ = false := by
  obtain ⟨xs, U, L, R, ho, _⟩ := c
  have hl := ho.1
  refine ⟨?_, ho.frozenAt _⟩
  rw [ho.cellAt (k * 4 + j) (by omega)]
  exact ⟨_, List.getElem?_eq_getElem (by omega)⟩

theorem set4 {xs : List Value} {a p : Nat} {v0 v1 v2 v3 : Value} (h0 : a ≠ p) (h1 : a + 1 ≠ p) (h2 : a + 2 ≠ p) (h3 : a + 3 ≠ p) :
    ((((xs.set a v0).set (a + 1) v1).set (a + 2) v2).set (a + 3) v3)[p]? = xs[p]? := by
  rw [List.getElem?_set_ne h3, List.getElem?_set_ne h2, List.getElem?_set_ne h1, List.getElem?_set_ne h0]

theorem CopyRel.step {h g n k B B' : Nat} {ts : List T} {w : World} (c : CopyRel h g n k B ts w) (hk : k < n) {kk nn : Int} {s : ByteArray} {txs : List T} {u : Value} (ht : ts[k]? = some (T.node kk nn s txs)) (hs : s.size ≤ maxLen) (ha : ArgsAt w (g + 1) h u txs)
    (hoa : OwnA w h B B' u txs) (hgB : g < B) (hBB : B ≤ B') :
    CopyRel h g n (k + 1) B' ts ((((w.setCell ⟨g, k * 4, none⟩ (.int .i64 kk)).setCell ⟨g, k * 4 + 1, none⟩ (.int .i64 nn)).setCell ⟨g, k * 4 + 2, none⟩ (.string s)).setCell ⟨g, k * 4 + 3, none⟩ u) := by
  obtain ⟨xs, U, L, R, ho, hx, hlr, hd⟩ := c
  have hl : xs.length = n * 4 := ho.1
  have o1 := (ho.stored (k * 4) (.int .i64 kk)).1
  have o2 := (o1.stored (k * 4 + 1) (.int .i64 nn)).1
  have o3 := (o2.stored (k * 4 + 2) (.string s)).1
  have o4 := (o3.stored (k * 4 + 3) u).1
  have up : ∀ {u' : Value} {txs' : List T}, ArgsAt w (g + 1) h u' txs' → ArgsAt ((((w.setCell ⟨g, k * 4, none⟩ (.int .i64 kk)).setCell ⟨g, k * 4 + 1, none⟩ (.int .i64 nn)).setCell ⟨g, k * 4 + 2, none⟩ (.string s)).setCell ⟨g, k * 4 + 3, none⟩ u) (g + 1) h u' txs' := by
    intro u' txs' q
    have hg : ∀ j, some g = some j → j < g + 1 := fun j e => by cases e; omega
    refine ArgsAt.grown ?_ (set_grown _ g _ _) hg
    refine ArgsAt.grown ?_ (set_grown _ g _ _) hg
    refine ArgsAt.grown ?_ (set_grown _ g _ _) hg
    exact ArgsAt.grown q (set_grown _ g _ _) hg
  have upo : ∀ {u' : Value} {txs' : List T} {l r : Nat}, g < l → OwnA w h l r u' txs' → OwnA ((((w.setCell ⟨g, k * 4, none⟩ (.int .i64 kk)).setCell ⟨g, k * 4 + 1, none⟩ (.int .i64 nn)).setCell ⟨g, k * 4 + 2, none⟩ (.string s)).setCell ⟨g, k * 4 + 3, none⟩ u) h l r u' txs' :=
    fun hgl q => (((q.off (Or.inl hgl) _ _).off (Or.inl hgl) _ _).off (Or.inl hgl) _ _).off (Or.inl hgl) _ _
  refine ⟨_, fun i => if i = k then u else U i, fun i => if i = k then B else L i, fun i => if i = k then B' else R i, o4, fun i kk' nn' s' txs' hi ht' => ?_, fun i hi => ?_, fun i j hij hj => ?_⟩
  · by_cases hik : i = k
    · subst hik
      rw [ht] at ht'
      cases ht'
      refine ⟨hs, ?_, ?_, ?_, ?_, by simpa using up ha, by simpa using upo hgB hoa⟩
      · simp [List.getElem?_set]; omega
      · simp [List.getElem?_set]; omega
      · simp [List.getElem?_set]; omega
      · simp [List.getElem?_set]; omega
    · obtain ⟨hs', x0, x1, x2, x3, ha', hoa'⟩ := hx i kk' nn' s' txs' (by omega) ht'
      refine ⟨hs', ?_, ?_, ?_, ?_, by simpa [hik] using up ha', by simpa [hik] using upo (hlr i (by omega)).1 hoa'⟩
      · rw [set4 (by omega) (by omega) (by omega) (by omega)]; exact x0
      · rw [set4 (by omega) (by omega) (by omega) (by omega)]; exact x1
      · rw [set4 (by omega) (by omega) (by omega) (by omega)]; exact x2
      · rw [set4 (by omega) (by omega) (by omega) (by omega)]; simpa [hik] using x3
  · by_cases hik : i = k
    · simp [hik]; omega
    · have := hlr i (by omega)
      simp [hik]; omega
  · have hik : i ≠ k := by omega
    by_cases hjk : j = k
    · have := hlr i (by omega)
      simp [hik, hjk]; omega
    · simpa [hik, hjk] using hd i j hij (by omega)

theorem CopyRel.done {h g n B : Nat} {ts : List T} {w : World} (c : CopyRel h g n n B ts w) (hn : n = ts.length) (hl : n ≤ maxLen) (hB : g < B) : ArgsAt w g (h + 1) (.slice (some ⟨g, 0, none⟩) n n) ts ∧ OwnA w (h + 1) g B (.slice (some ⟨g, 0, none⟩) n n) ts := by
  obtain ⟨xs, U, L, R, ho, hx, hlr, hd⟩ := c
  have hii : ∀ {i : Nat} {t : T}, ts[i]? = some t → i < n := fun {i} {t} ht => by have := (List.getElem?_eq_some_iff.1 ht).1; omega
  constructor
  · refine ⟨_, n, by rw [hn], by omega, Or.inr ⟨g, 0, rfl, Nat.le_refl _, fun i kk nn s txs ht => ?_⟩⟩
    have hi := hii ht
    obtain ⟨hs, x0, x1, x2, x3, ha, _⟩ := hx i kk nn s txs hi ht
    refine ⟨hs, U i, ?_, ?_, ?_, ?_, ha.low (by omega)⟩
    · rw [Nat.zero_add, ho.cellAt (i * 4) (by omega), x0]
    · rw [Nat.zero_add, ho.cellAt (i * 4 + 1) (by omega), x1]
    · rw [Nat.zero_add, ho.cellAt (i * 4 + 2) (by omega), x2]
    · rw [Nat.zero_add, ho.cellAt (i * 4 + 3) (by omega), x3]
  · subst hn
    refine ⟨_, _, rfl, Or.inr ⟨g, xs, U, L, R, rfl, Nat.le_refl _, hB, ho, fun i kk nn s txs ht => ?_, fun i j hij hj => Or.inl (hd i j hij hj)⟩⟩
    obtain ⟨_, _, _, _, x3, _, hoa⟩ := hx i kk nn s txs (hii ht) ht
    have := hlr i (hii ht)
    exact ⟨x3, by omega, by omega, by omega, hoa⟩

end Go.Proofs.YtidbokheeieifaaGreatDoor
