/-
  impl.matcherOf: the substitution that makes a pattern equal to a term, by a list of equations and a goto.
-/
import Derived.Test.YteelakhaaipebaaQ2
import Derived.Test.YteelakhaaipebaaQ27
import Derived.Test.YteelakhaaipebaaQ31
import Derived.Test.YteelakhaaipebaaQ12
import Derived.Test.YteelakhaaipebaaQ37
import Derived.Test.YteelakhaaipebaaQ5
namespace Go.Proofs.Yteelakhaaipebaa
open Go.RowKit Go.Maps Go.WideMaps

/-- The pairs that are still open, the next one last, and their structs. -/
def PairT (w : World) (h : Nat) (st : List (T × T)) (nds : List (Nd × Nd)) : Prop := nds.length = st.length ∧ ∀ (i : Nat) (x : T × T) (d : Nd × Nd), st[i]? = some x → nds[i]? = some d → NdT w h x.1 d.1 ∧ NdT w h x.2 d.2
theorem NdT.le {w : World} {h h' : Nat} (hle : h ≤ h') {t : T} {d : Nd} (k : NdT w h t d) : NdT w h' t d := by
  obtain ⟨xs, e, hs, ha⟩ := k
  exact ⟨xs, e, hs, ha.le hle⟩
theorem PairT.pop {w : World} {h : Nat} {st : List (T × T)} {x : T × T} {nds : List (Nd × Nd)} (q : PairT w h (st ++ [x]) nds) : ∃ n0 d, nds = n0 ++ [d] ∧ PairT w h st n0 ∧ NdT w h x.1 d.1 ∧ NdT w h x.2 d.2 := by
  obtain ⟨hl, hx⟩ := q
  rw [List.length_append, List.length_singleton] at hl
  rcases List.eq_nil_or_concat nds with e | ⟨n0, d, e⟩
  · rw [e] at hl; simp at hl
  · have e' : nds = n0 ++ [d] := by simpa using e
    subst e'
    rw [List.length_append, List.length_singleton] at hl
    have hl' : n0.length = st.length := by omega
    refine ⟨n0, d, rfl, ⟨hl', fun i y z h1 h2 => ?_⟩, ?_⟩
    · have i1 := (List.getElem?_eq_some_iff.1 h1).1
      exact hx i y z (by rw [List.getElem?_append_left i1]; exact h1) (by rw [List.getElem?_append_left (by omega)]; exact h2)
    · exact hx st.length x d (by simp) (by rw [← hl']; simp)
theorem NdsT.get {w : World} {h : Nat} : ∀ {ts : List T} {ds : List Nd}, NdsT w h ts ds → ∀ (i : Nat) t d, ts[i]? = some t → ds[i]? = some d → NdT w h t d
  | [], _, _, i, t, d, h1, _ => by simp at h1
  | _ :: _, [], _, i, t, d, _, h2 => by simp at h2
  | _ :: _, _ :: _, ⟨q, r⟩, i, t, d, h1, h2 => by
    cases i with
    | zero => simp at h1 h2; subst h1 h2; exact q
    | succ i => exact r.get i t d (by simpa using h1) (by simpa using h2)
theorem PairT.push {w : World} {h : Nat} {st : List (T × T)} {nds : List (Nd × Nd)} {ps ts : List T} {ds es : List Nd} (q : PairT w h st nds) (hp : NdsT w h ps ds) (ht : NdsT w h ts es) : PairT w h (st ++ (ps.zip ts).reverse) (nds ++ (ds.zip es).reverse) := by
  have l1 := hp.len
  have l2 := ht.len
  refine ⟨by rw [List.length_append, List.length_append, List.length_reverse, List.length_reverse, List.length_zip, List.length_zip, q.1, l1, l2], fun i x d h1 h2 => ?_⟩
  by_cases hi : i < st.length
  · rw [List.getElem?_append_left hi] at h1
    rw [List.getElem?_append_left (by rw [q.1]; exact hi)] at h2
    exact q.2 i x d h1 h2
  · rw [List.getElem?_append_right (by omega)] at h1
    rw [List.getElem?_append_right (by rw [q.1]; omega), q.1] at h2
    have b1 := (List.getElem?_eq_some_iff.1 h1).1
    have b2 := (List.getElem?_eq_some_iff.1 h2).1
    rw [List.length_reverse] at b1 b2
    rw [List.getElem?_reverse b1] at h1
    rw [List.getElem?_reverse b2] at h2
    have e : (ds.zip es).length - 1 - (i - st.length) = (ps.zip ts).length - 1 - (i - st.length) := by rw [List.length_zip, List.length_zip, l1, l2]
    rw [e] at h2
    obtain ⟨x1, x2⟩ := x
    obtain ⟨d1, d2⟩ := d
    rw [List.getElem?_zip_eq_some] at h1 h2
    exact ⟨hp.get _ _ _ h1.1 h2.1, ht.get _ _ _ h1.2 h2.2⟩
/-- How many nodes of patterns are still open. -/
def cP (st : List (T × T)) : Nat := (st.map (fun x => cT x.1)).sum
theorem cP_app (a b : List (T × T)) : cP (a ++ b) = cP a + cP b := by simp [cP]
theorem cP_zip : ∀ (ps ts : List T), cP (ps.zip ts).reverse ≤ cS ps := fun ps ts => by
  have h := zip_c ps ts
  unfold cP
  rw [List.map_reverse, List.sum_reverse]
  exact h

/-- What the call answers. -/
def MatcherE (p t : T) (h : Nat) (w : World) (e : Ending) (w' : World) : Prop :=
  Below w.heap.size w w' ∧ (∀ acc, matT p t [] = some acc → ∃ b l full, e = .returned (.tuple #[.agg #[.map (some b)], .bool true]) ∧ TabAt b l w' ∧ BsV w' 0 h full l ∧ (∀ nm, findB full nm = findB acc nm) ∧ wBs full ≤ 1 + wT p + wT t) ∧
    (matT p t [] = none → e = .returned (.tuple #[.agg #[.map none], .bool false]))

/-- What is known when an equation is taken. -/
structure MatS (p t : T) (h : Nat) (w : World) (st : List (T × T)) (nds : List (Nd × Nd)) (acc full : List (ByteArray × T)) (l : List (ByteArray × Value)) (oa : Option Addr) (on oc : Nat) (wr : World) : Prop where
  run : runM st.reverse acc = matT p t []
  same : ∀ nm, findB full nm = findB acc nm
  weight : wBs full + wP st ≤ 1 + wT p + wT t
  pairs : PairT w h st nds
  row : wr.ownsRow w.heap.size 148 8 (.slice oa on oc) on (nds.flatMap eqC)
  tab : TabAt (w.heap.size + 3) l wr
  vals : BsV w 0 h full l
  box2 : wr.heap[w.heap.size + 2]? = some (.cells #[.map none] 83 (0, 0))
  box4 : wr.heap[w.heap.size + 4]? = some (.cells #[.map (some (w.heap.size + 3))] 83 (0, 0))
  bel : Below w.heap.size w wr
  size : w.heap.size + 5 ≤ wr.heap.size
  far : ∀ j, (Value.slice oa on oc).ownBlock = some j → w.heap.size + 5 ≤ j
theorem MatS.below {p t : T} {h : Nat} {w wr w' : World} {st : List (T × T)} {nds : List (Nd × Nd)} {acc full : List (ByteArray × T)} {l : List (ByteArray × Value)} {oa : Option Addr} {on oc : Nat} (q : MatS p t h w st nds acc full l oa on oc wr) (hb : Below wr.heap.size wr w') : MatS p t h w st nds acc full l oa on oc w' :=
  ⟨q.run, q.same, q.weight, q.pairs, keep_own q.row hb, q.tab.below hb, q.vals, (hb.block _ (by have := q.size; omega)).trans q.box2, (hb.block _ (by have := q.size; omega)).trans q.box4, bel_two q.bel hb, Nat.le_trans q.size hb.size, q.far⟩
/-- What holds when an equation is taken. -/
def MatR (p t : T) (h : Nat) (w : World) (g : Nat) (ov : Value) (wr : World) : Prop :=
  ∃ (st : List (T × T)) (nds : List (Nd × Nd)) (acc full : List (ByteArray × T)) (l : List (ByteArray × Value)) (oa : Option Addr) (on oc : Nat), g = cP st ∧ ov = .slice oa on oc ∧ on = st.length ∧ on ≤ 1048577 ∧ MatS p t h w st nds acc full l oa on oc wr

theorem eqC_len (l : List (Nd × Nd)) : (l.flatMap eqC).length = l.length * 8 := by
  induction l with
  | nil => rfl
  | cons x r ih => rw [List.flatMap_cons, List.length_append, ih, List.length_cons]; simp [eqC, Nd.cs]; omega
theorem full_step {acc acc' full : List (ByteArray × T)} {s : ByteArray} {t : T} (hs : ∀ nm, findB full nm = findB acc nm) (hm : meetV acc s t = some acc') : ∀ nm, findB (full ++ [(s, t)]) nm = findB acc' nm := by
  have app : ∀ (b : List (ByteArray × T)) nm, findB (b ++ [(s, t)]) nm = (match findB b nm with | some u => some u | none => findB [(s, t)] nm) := fun b nm => by
    unfold findB
    rw [List.find?_append]
    cases b.find? (fun x => x.1.toList == nm.toList) <;> simp
  intro nm
  rw [app]
  unfold meetV at hm
  cases e : findB acc s with
  | some old =>
    rw [e] at hm
    simp only at hm
    split at hm
    · rename_i ho
      cases hm
      rw [hs nm]
      cases e2 : findB acc nm with
      | some u => rfl
      | none =>
        simp only
        have hne : (s.toList == nm.toList) = false := by
          cases hb : (s.toList == nm.toList) with
          | false => rfl
          | true => rw [← (same_iff _ _).1 hb, e] at e2; cases e2
        simp [findB, hne]
    · cases hm
  | none =>
    rw [e] at hm
    cases hm
    rw [app, hs nm]
theorem BsV.snoc {w : World} {lo h : Nat} {bs : List (ByteArray × T)} {l : List (ByteArray × Value)} (q : BsV w lo h bs l) {p : ByteArray} {t : T} {v : Value} (hp : p.size ≤ maxLen) (ht : TermAt w lo h v t) : BsV w lo h (bs ++ [(p, t)]) (l ++ [(p, v)]) := by
  refine ⟨by simp [q.1], fun i p' t' hi => ?_⟩
  by_cases hlt : i < bs.length
  · rw [List.getElem?_append_left hlt] at hi
    obtain ⟨v', h1, h2, h3⟩ := q.2 i p' t' hi
    exact ⟨v', by rw [List.getElem?_append_left (by rw [q.1]; exact hlt)]; exact h1, h2, h3⟩
  · have e : i = bs.length := by
      have := (List.getElem?_eq_some_iff.1 hi).1
      rw [List.length_append, List.length_singleton] at this
      omega
    subst e
    simp at hi
    obtain ⟨rfl, rfl⟩ := hi
    exact ⟨v, by rw [← q.1]; simp, hp, ht⟩
theorem own_same (oa : Option Addr) (n c n' c' : Nat) : (Value.slice oa n c).ownBlock = (Value.slice oa n' c').ownBlock := by cases oa <;> rfl
theorem NdT.term {w : World} {h : Nat} {t : T} {d : Nd} (q : NdT w h t d) : TermAt w 0 h (tv d.k d.n d.s (.slice d.a d.m d.c)) t := by
  obtain ⟨xs, e, hs, ha⟩ := q
  exact ⟨_, _, _, _, xs, rfl, e, hs, ha⟩

/-- A variable has met a term. -/
theorem mat_var {p t : T} {h : Nat} {w W w2 : World} {st : List (T × T)} {n0 : List (Nd × Nd)} {dp dt : Nd} {x : T × T} {acc acc' full : List (ByteArray × T)} {l : List (ByteArray × Value)} {oa : Option Addr} {q oc : Nat} {e : Ending}
    (hS : MatS p t h w (st ++ [x]) (n0 ++ [(dp, dt)]) acc full l oa (q + 1) oc W) (hq : q = st.length) (hp0 : PairT w h st n0) (h1 : NdT w h x.1 dp) (h2 : NdT w h x.2 dt) (hk : dp.k = 1) (hm : meetV acc dp.s x.2 = some acc')
    (hadd : AddE (w.heap.size + 3) (l ++ [(dp.s, tv dt.k dt.n dt.s (.slice dt.a dt.m dt.c))]) W e w2) : MatS p t h w st n0 acc' (full ++ [(dp.s, x.2)]) (l ++ [(dp.s, tv dt.k dt.n dt.s (.slice dt.a dt.m dt.c))]) oa q oc w2 := by
  obtain ⟨_, htab, hg⟩ := hadd
  obtain ⟨xs1, e1, hs1, _⟩ := h1
  have hrow := own_cut hS.row (Nat.le_succ q)
  have hl : (n0.flatMap eqC).length = q * 8 := by rw [eqC_len, hp0.1, hq]
  rw [List.flatMap_append, ← hl, List.take_left' rfl, ] at hrow
  have hne : (Value.slice oa q oc).ownBlock = none ∨ (Value.slice oa q oc).ownBlock ≠ some (w.heap.size + 3) := by
    cases hb : (Value.slice oa q oc).ownBlock with
    | none => exact Or.inl rfl
    | some j =>
      have := hS.far j (by rw [← hb]; exact own_same _ _ _ _ _)
      exact Or.inr (fun e => by cases e; omega)
  refine ⟨?_, full_step hS.same hm, ?_, hp0, hrow.kept hg hne, htab, hS.vals.snoc hs1 h2.term, (hg.block _ (by have := hS.size; omega) (by simp)).trans hS.box2, (hg.block _ (by have := hS.size; omega) (by simp)).trans hS.box4, hS.bel.grown hg hS.bel.size (fun j hj => by cases hj; omega), Nat.le_trans hS.size hg.size, fun j hj => hS.far j (by rw [← hj]; exact own_same _ _ _ _ _)⟩
  · have h := hS.run
    rw [List.reverse_append, List.reverse_singleton, List.singleton_append] at h
    obtain ⟨x1, x2⟩ := x
    simp only at e1
    rw [e1, hk, runM_var, hm] at h
    exact h
  · have h := hS.weight
    rw [wP_app] at h
    have e2 : wP [x] = 1 + wT x.1 + wT x.2 := by simp [wP]
    rw [e2, e1, wT_node] at h
    rw [wBs_snoc]
    simp only
    omega
/-- Two nodes are parted. -/
theorem mat_app {p t : T} {h : Nat} {w W w2 : World} {st : List (T × T)} {n0 : List (Nd × Nd)} {dp dt : Nd} {x : T × T} {acc full : List (ByteArray × T)} {l : List (ByteArray × Value)} {oa : Option Addr} {q oc : Nat} {ps ts : List T} {ds es : List Nd} {v' : Value}
    (hS : MatS p t h w (st ++ [x]) (n0 ++ [(dp, dt)]) acc full l oa (q + 1) oc W) (hq : q = st.length) (hp0 : PairT w h st n0) (hx : x = (.node dp.k dp.n dp.s ps, .node dp.k dp.n dp.s ts)) (hk : dp.k ≠ 1) (hl : ps.length = ts.length) (hd : NdsT w h ps ds) (he : NdsT w h ts es)
    (ho : w2.ownsRow w.heap.size 148 8 v' (q + ds.length) (n0.flatMap eqC ++ (ds.zip es).reverse.flatMap eqC)) (hg : W.grownBy w2 (Value.slice oa q oc).ownBlock) (hm : Moved (.slice oa q oc) W v') :
    ∃ oa' oc', v' = .slice oa' (q + ds.length) oc' ∧ q + ds.length = (st ++ (ps.zip ts).reverse).length ∧ MatS p t h w (st ++ (ps.zip ts).reverse) (n0 ++ (ds.zip es).reverse) acc full l oa' (q + ds.length) oc' w2 := by
  obtain ⟨oa', oc', rfl⟩ := own_form ho
  have hfar : ∀ j, (Value.slice oa q oc).ownBlock = some j → w.heap.size + 5 ≤ j := fun j hj => hS.far j (by rw [← hj]; exact own_same _ _ _ _ _)
  have hb : ∀ i, i < w.heap.size + 5 → w2.heap[i]? = W.heap[i]? := fun i hi => hg.block i (by have := hS.size; omega) (fun e => by have := hfar i e.symm; omega)
  have l1 := hd.len
  refine ⟨oa', oc', rfl, ?_, ?_, hS.same, ?_, hp0.push hd he, by rw [List.flatMap_append]; exact ho, hS.tab.kept hg (fun e => by have := hfar _ e.symm; omega), hS.vals, (hb _ (by omega)).trans hS.box2, (hb _ (by omega)).trans hS.box4, hS.bel.grown hg hS.bel.size (fun j hj => by have := hfar j hj; omega), Nat.le_trans hS.size hg.size, fun j hj => ?_⟩
  · rw [List.length_append, List.length_reverse, List.length_zip, ← hq, l1, hl, Nat.min_self]
  · have h := hS.run
    rw [List.reverse_append, List.reverse_singleton, List.singleton_append, hx, runM_app hk hl] at h
    rw [List.reverse_append, List.reverse_reverse]
    exact h
  · have h := hS.weight
    have hz := wP_zip ps ts
    have e3 : wP (ps.zip ts).reverse = wP (ps.zip ts) := by unfold wP; rw [List.map_reverse, List.sum_reverse]
    rw [wP_app] at h ⊢
    have e2 : wP [x] = 1 + wT x.1 + wT x.2 := by simp [wP]
    rw [e2, hx] at h
    simp only [wT_node] at h
    omega
  · rcases hm with e | ⟨i, e1, e2⟩
    · exact hfar j (by rw [← e]; exact hj)
    · rw [e1] at hj; cases hj; have := hS.size; omega

set_option maxRecDepth 100000 in
set_option maxHeartbeats 6400000 in
theorem matcher_any (v v' : Value) (p t : T) (lo lo2 h0 h2 : Nat) (w : World) (hp : TermAt w lo h0 v p) (ht : TermAt w lo2 h2 v' t) (hsum : wT p + wT t ≤ 1048576) :
    Calls Try.prog 79 #[v, v'] w (MatcherE p t (max h0 h2) w) := by
  obtain ⟨k, n, s, a, m, c, rfl⟩ := hp.shape
  obtain ⟨k', n', s', a', m', c', rfl⟩ := ht.shape
  have HP := Lib.hid (hp.low (Nat.zero_le _))
  have HT := Lib.hid (ht.low (Nat.zero_le _))
  have HSUM := Lib.hid hsum
  obtain ⟨W5, hW5⟩ : ∃ W5, W5 = (((((w.alloc (.cells #[.int .i64 k, .int .i64 n, .string s, .slice a m c] 29)).alloc (.cells #[.int .i64 k', .int .i64 n', .string s', .slice a' m' c'] 29)).alloc (.cells #[.map none] 83)).alloc (.map #[] 0)).alloc (.cells #[.map (some (w.heap.size + 1 + 1 + 1))] 83)).alloc (.cells #[.int .i64 k, .int .i64 n, .string s, .slice a m c, .int .i64 k', .int .i64 n', .string s', .slice a' m' c'] 148) := ⟨_, rfl⟩
  have HM0 : Hid (MatR p t (max h0 h2) w (cP [(p, t)]) (.slice (some ⟨w.heap.size + 1 + 1 + 1 + 1 + 1, 0, none⟩) 1 1) W5) := Lib.hid (by
    obtain ⟨X4, hX4⟩ : ∃ X4, X4 = ((((w.alloc (.cells #[.int .i64 k, .int .i64 n, .string s, .slice a m c] 29)).alloc (.cells #[.int .i64 k', .int .i64 n', .string s', .slice a' m' c'] 29)).alloc (.cells #[.map none] 83)).alloc (.map #[] 0)).alloc (.cells #[.map (some (w.heap.size + 1 + 1 + 1))] 83) := ⟨_, rfl⟩
    have hz4 : X4.heap.size = w.heap.size + 5 := by rw [hX4]; simp
    have hb4 : Below w.heap.size w X4 := by rw [hX4]; exact (((((Below.refl _ _).alloc (Nat.le_refl _) _).alloc (by simp) _).alloc (by simp; omega) _).alloc (by simp; omega) _).alloc (by simp; omega) _
    have r2 : X4.heap[w.heap.size + 2]? = some (.cells #[.map none] 83 (0, 0)) := by
      rw [hX4, Below.heap_alloc _ _ _ (by simp), Below.heap_alloc _ _ _ (by simp)]; exact heap_new _ _ (by simp)
    have r4 : X4.heap[w.heap.size + 4]? = some (.cells #[.map (some (w.heap.size + 3))] 83 (0, 0)) := by
      rw [hX4]; exact heap_new _ _ (by simp)
    have ht0 : TabAt (w.heap.size + 3) [] X4 := by
      refine ⟨_, ?_, TabOk.nil⟩
      rw [hX4]
      have h1 := World.ownsMap_made (((w.alloc (.cells #[.int .i64 k, .int .i64 n, .string s, .slice a m c] 29)).alloc (.cells #[.int .i64 k', .int .i64 n', .string s', .slice a' m' c'] 29)).alloc (.cells #[.map none] 83)) Try.prog 9 heldV
      have e : (((w.alloc (.cells #[.int .i64 k, .int .i64 n, .string s, .slice a m c] 29)).alloc (.cells #[.int .i64 k', .int .i64 n', .string s', .slice a' m' c'] 29)).alloc (.cells #[.map none] 83)).heap.size = w.heap.size + 3 := by simp
      rw [e] at h1
      exact h1.alloc _
    rw [← hX4] at hW5
    have hb5 : Below X4.heap.size X4 W5 := by rw [hW5]; exact (Below.refl _ _).alloc (Nat.le_refl _) _
    have hz5 : W5.heap.size = w.heap.size + 6 := by rw [hW5]; simp [hz4]
    refine ⟨[(p, t)], [(⟨k, n, s, a, m, c⟩, ⟨k', n', s', a', m', c'⟩)], [], [], [], _, 1, 1, rfl, rfl, rfl, by decide, rfl, fun _ => rfl, by simp [wP, wBs], ⟨rfl, fun i x d h1 h2 => ?_⟩, ?_, ht0.below hb5, ⟨rfl, fun i p t h => by simp at h⟩, (hb5.block _ (by omega)).trans r2, (hb5.block _ (by omega)).trans r4, bel_two hb4 hb5, by omega, fun j hj => by simp [Value.ownBlock] at hj; omega⟩
    · cases i with
      | succ i => simp at h1
      | zero =>
        simp at h1 h2
        subst h1 h2
        constructor
        · obtain ⟨_, _, _, _, xs, e1, e2, e3, e4⟩ := HP.out
          cases e1
          exact ⟨xs, e2, e3, e4.le (Nat.le_max_left _ _)⟩
        · obtain ⟨_, _, _, _, xs, e1, e2, e3, e4⟩ := HT.out
          cases e1
          exact ⟨xs, e2, e3, e4.le (Nat.le_max_right _ _)⟩
    · have h1 := World.ownsRow_lit (base := w.heap.size) (size := 8) (e := 148) X4 #[.int .i64 k, .int .i64 n, .string s, .slice a m c, .int .i64 k', .int .i64 n', .string s', .slice a' m' c'] 1 hb4.size (by simp [maxLen]) rfl
      rw [← hW5, hz4] at h1
      exact h1)
  clear hp ht hsum
  go_enter Try.func79, Try.ntmps79
  go_wp2
  refine wp_scope_ghostS 0 (fun g act wr => ∃ (ov x5 x8 x9 x10 x11 x12 x13 x14 x15 x16 x17 x18 x19 x20 x21 x22 x23 x24 x25 x26 x27 x28 x29 x30 x31 x32 x33 x34 x35 x36 x37 x38 x39 x40 x41 x42 x43 x44 x45 x46 x47 x48 x49 x50 x51 x52 x53 x54 x55 x56 x57 x58 x59 x60 x61 x62 x63 x64 x65 x66 x67 x68 x69 x70 x71 x72 x73 x74 : Value), act = { tmps := #[tv k n s (.slice a m c), tv k' n' s' (.slice a' m' c'), .pointer (some ⟨w.heap.size, 0, none⟩), .pointer (some ⟨w.heap.size + 1, 0, none⟩), .pointer (some ⟨w.heap.size + 2, 0, none⟩), x5, .pointer (some ⟨w.heap.size + 4, 0, none⟩), ov, x8, x9, x10, x11, x12, x13, x14, x15, x16, x17, x18, x19, x20, x21, x22, x23, x24, x25, x26, x27, x28, x29, x30, x31, x32, x33, x34, x35, x36, x37, x38, x39, x40, x41, x42, x43, x44, x45, x46, x47, x48, x49, x50, x51, x52, x53, x54, x55, x56, x57, x58, x59, x60, x61, x62, x63, x64, x65, x66, x67, x68, x69, x70, x71, x72, x73, x74], defers := [] } ∧ Hid (MatR p t (max h0 h2) w g ov wr)) rfl ?pass ?first
  case first =>
    intro HK
    have hmm := @run_makeMap Try.prog
    go_wp2
    go_step3
    rw [← hW5]
    rename_i hKK
    refine hKK _ _ (HK (cP [(p, t)]) _ _ ?_)
    iterate 69 apply Exists.intro
    exact ⟨rfl, HM0⟩
  case pass =>
    clear hW5 HM0 W5
    rintro g0 act W ⟨ov0, x5, x8, x9, x10, x11, x12, x13, x14, x15, x16, x17, x18, x19, x20, x21, x22, x23, x24, x25, x26, x27, x28, x29, x30, x31, x32, x33, x34, x35, x36, x37, x38, x39, x40, x41, x42, x43, x44, x45, x46, x47, x48, x49, x50, x51, x52, x53, x54, x55, x56, x57, x58, x59, x60, x61, x62, x63, x64, x65, x66, x67, x68, x69, x70, x71, x72, x73, x74, rfl, HM⟩
    obtain ⟨hh, hhh⟩ : ∃ hh, hh = max h0 h2 := ⟨_, rfl⟩
    rw [← hhh] at HM ⊢
    clear hhh
    go_wp2
    go_loopg [7] g0 (fun g ov wr => g ≤ g0 ∧ Hid (MatR p t hh w g ov wr))
    case atStart => exact ⟨Nat.le_refl _, HM⟩
    case round =>
      clear HM
      obtain ⟨hg0, HM⟩ := hrel
      obtain ⟨st, nds, acc, full, l, oa, on, oc, hg, rfl, hon, honl, hS⟩ := HM.out
      have HG := Lib.hid (And.intro hg hg0)
      clear hg hg0 HM
      rcases (show st = [] ∨ ∃ L x, st = L ++ [x] from (by rcases List.eq_nil_or_concat st with h | ⟨L, x, h⟩; exact Or.inl h; exact Or.inr ⟨L, x, by simpa using h⟩)) with rfl | ⟨st1, x, rfl⟩
      · have hon0 : on = 0 := by simpa using hon
        subst hon0
        have HF : Hid (∀ v0, MatcherE p t hh w (.returned (.tuple #[.agg #[.map (some (w.heap.size + 3))], .bool true])) (wr.setCell ⟨w.heap.size + 2, 0, none⟩ v0)) := Lib.hid (fun v0 => by
          have hrun := hS.run
          rw [List.reverse_nil, runM_nil] at hrun
          refine ⟨hS.bel.setCell (by simp) _, fun acc' ha => ?_, fun hn => by rw [hn] at hrun; cases hrun⟩
          rw [ha] at hrun
          cases hrun
          have hw := hS.weight
          have hkeep : ∀ (ad : Addr) v, w.cell? ad = some v → wr.cell? ad = some v := fun ad v hv => cell_on hS.bel hv
          exact ⟨_, l, full, rfl, hS.tab.kept (set_grown wr _ 0 v0) (by simp), hS.vals.below (hS.bel.setCell (by simp) _), hS.same, by omega⟩)
        have c4 := cell_of_row wr (w.heap.size + 4) 0 _ _ _ hS.box4
        have c2 := cell_of_row wr (w.heap.size + 2) 0 _ _ _ hS.box2
        have f2 := frozen_of_row wr (w.heap.size + 2) 0 _ _ hS.box2
        simp at c4 c2
        clear hS hon honl
        go_wp2
        simp only [Exit.jump]
        (try simp only [Exit.inBlock, Exit.then])
        refine bodyPost_ret (v := .tuple #[.agg #[.map (some (w.heap.size + 3))], .bool true]) ?_ rfl ?_
        · refine results_ct (a := 4) (b := 5) (t := 83) (ad := ⟨w.heap.size + 2, 0, none⟩) rfl rfl _ _ ?_
          go_simp
        · exact HF.out _
      · obtain ⟨q, hq⟩ : ∃ q, q = st1.length := ⟨_, rfl⟩
        have honq : on = q + 1 := by rw [hon, hq]; simp
        clear hon
        subst honq
        obtain ⟨n0, d, hnds, hp0, hd1, hd2⟩ := hS.pairs.pop
        subst hnds
        obtain ⟨dp, dt⟩ := d
        obtain ⟨gb, cap', rfl, rfl⟩ : ∃ gb cap', oa = some ⟨gb, 0, none⟩ ∧ oc = cap' := by
          rcases hS.row.2 with ⟨_, h0⟩ | ⟨g', cap', cur, e, _⟩
          · omega
          · simp only [Value.slice.injEq] at e
            exact ⟨g', cap', e.1, e.2.2⟩
        have hcell : ∀ j u, (eqC (dp, dt))[j]? = some u → wr.cell? ⟨gb, q * 8 + j, none⟩ = some u := fun j u hj => by
          have hjl : j < 8 := by have := (List.getElem?_eq_some_iff.1 hj).1; simpa [eqC, Nd.cs] using this
          have hl : (n0.flatMap eqC).length = q * 8 := by rw [eqC_len, hp0.1, hq]
          rw [hS.row.cellAt (q * 8 + j) (by omega), List.flatMap_append, List.getElem?_append_right (by omega), hl, Nat.add_sub_cancel_left]
          simpa using hj
        have a0 := hcell 0 _ rfl
        have a1 := hcell 1 _ rfl
        have a2 := hcell 2 _ rfl
        have a3 := hcell 3 _ rfl
        have b0 := hcell 4 _ rfl
        have b1 := hcell 5 _ rfl
        have b2 := hcell 6 _ rfl
        have b3 := hcell 7 _ rfl
        simp only [Nat.add_zero] at a0
        have hcap := own_cap hS.row
        have HS := Lib.hid hS
        have HP0 := Lib.hid hp0
        have HD := Lib.hid (And.intro hd1 hd2)
        have HQ := Lib.hid hq
        have hlk : (q : Int) < (q : Int) + 1 := by omega
        have hcapz : (q : Int) ≤ (oc : Int) := by omega
        clear hcell hS hp0 hd1 hd2 hq hcap
        go_upto_region 5 with fail
        have ax0 : ∀ o, (wr.alloc o).cell? ⟨gb, q * 8, none⟩ = some (.int .i64 dp.k) := fun o => cell_on ((Below.refl _ _).alloc (Nat.le_refl _) o) a0
        have ay0 : ∀ o o2, ((wr.alloc o).alloc o2).cell? ⟨gb, q * 8, none⟩ = some (.int .i64 dp.k) := fun o o2 => cell_on ((Below.refl _ _).alloc (Nat.le_refl _) o2) (ax0 o)
        have ax1 : ∀ o, (wr.alloc o).cell? ⟨gb, q * 8 + 1, none⟩ = some (.int .i64 dp.n) := fun o => cell_on ((Below.refl _ _).alloc (Nat.le_refl _) o) a1
        have ay1 : ∀ o o2, ((wr.alloc o).alloc o2).cell? ⟨gb, q * 8 + 1, none⟩ = some (.int .i64 dp.n) := fun o o2 => cell_on ((Below.refl _ _).alloc (Nat.le_refl _) o2) (ax1 o)
        have ax2 : ∀ o, (wr.alloc o).cell? ⟨gb, q * 8 + 2, none⟩ = some (.string dp.s) := fun o => cell_on ((Below.refl _ _).alloc (Nat.le_refl _) o) a2
        have ay2 : ∀ o o2, ((wr.alloc o).alloc o2).cell? ⟨gb, q * 8 + 2, none⟩ = some (.string dp.s) := fun o o2 => cell_on ((Below.refl _ _).alloc (Nat.le_refl _) o2) (ax2 o)
        have ax3 : ∀ o, (wr.alloc o).cell? ⟨gb, q * 8 + 3, none⟩ = some (.slice dp.a dp.m dp.c) := fun o => cell_on ((Below.refl _ _).alloc (Nat.le_refl _) o) a3
        have ay3 : ∀ o o2, ((wr.alloc o).alloc o2).cell? ⟨gb, q * 8 + 3, none⟩ = some (.slice dp.a dp.m dp.c) := fun o o2 => cell_on ((Below.refl _ _).alloc (Nat.le_refl _) o2) (ax3 o)
        have bx0 : ∀ o, (wr.alloc o).cell? ⟨gb, q * 8 + 4, none⟩ = some (.int .i64 dt.k) := fun o => cell_on ((Below.refl _ _).alloc (Nat.le_refl _) o) b0
        have by0 : ∀ o o2, ((wr.alloc o).alloc o2).cell? ⟨gb, q * 8 + 4, none⟩ = some (.int .i64 dt.k) := fun o o2 => cell_on ((Below.refl _ _).alloc (Nat.le_refl _) o2) (bx0 o)
        have bx1 : ∀ o, (wr.alloc o).cell? ⟨gb, q * 8 + 5, none⟩ = some (.int .i64 dt.n) := fun o => cell_on ((Below.refl _ _).alloc (Nat.le_refl _) o) b1
        have by1 : ∀ o o2, ((wr.alloc o).alloc o2).cell? ⟨gb, q * 8 + 5, none⟩ = some (.int .i64 dt.n) := fun o o2 => cell_on ((Below.refl _ _).alloc (Nat.le_refl _) o2) (bx1 o)
        have bx2 : ∀ o, (wr.alloc o).cell? ⟨gb, q * 8 + 6, none⟩ = some (.string dt.s) := fun o => cell_on ((Below.refl _ _).alloc (Nat.le_refl _) o) b2
        have by2 : ∀ o o2, ((wr.alloc o).alloc o2).cell? ⟨gb, q * 8 + 6, none⟩ = some (.string dt.s) := fun o o2 => cell_on ((Below.refl _ _).alloc (Nat.le_refl _) o2) (bx2 o)
        have bx3 : ∀ o, (wr.alloc o).cell? ⟨gb, q * 8 + 7, none⟩ = some (.slice dt.a dt.m dt.c) := fun o => cell_on ((Below.refl _ _).alloc (Nat.le_refl _) o) b3
        have by3 : ∀ o o2, ((wr.alloc o).alloc o2).cell? ⟨gb, q * 8 + 7, none⟩ = some (.slice dt.a dt.m dt.c) := fun o o2 => cell_on ((Below.refl _ _).alloc (Nat.le_refl _) o2) (bx3 o)
        go_cut [9, 10] (fun pA pB wc => Hid (NodesAt wr wc pA pB #[.int .i64 dp.k, .int .i64 dp.n, .string dp.s, .slice dp.a dp.m dp.c] #[.int .i64 dt.k, .int .i64 dt.n, .string dt.s, .slice dt.a dt.m dt.c]))
        case first =>
          go_region
          all_goals go_wp2_with fail
          all_goals go_meet
          · exact Lib.hid (nodes_ab wr _ _ (by simp) (by simp))
          · exact Lib.hid (nodes_ab wr _ _ (by simp) (by simp)).swap
        obtain ⟨BA, BB, e8, e9, hBA, hBB, hcA, hcB, hbc⟩ := hcut.out
        subst e8
        subst e9
        have HSc := Lib.hid (HS.out.below hbc)
        have p0 := cell_of_row wc BA 0 _ _ _ hcA
        have p1 := cell_of_row wc BA 1 _ _ _ hcA
        have p2 := cell_of_row wc BA 2 _ _ _ hcA
        have p3 := cell_of_row wc BA 3 _ _ _ hcA
        have r0 := cell_of_row wc BB 0 _ _ _ hcB
        have r1 := cell_of_row wc BB 1 _ _ _ hcB
        have r2 := cell_of_row wc BB 2 _ _ _ hcB
        have r3 := cell_of_row wc BB 3 _ _ _ hcB
        simp at p0 p1 p2 p3 r0 r1 r2 r3
        have HCA := Lib.hid hcA
        have HCB := Lib.hid hcB
        have HG1 : Hid (cP st1 < cP (st1 ++ [x]) ∧ cP (st1 ++ [x]) ≤ g0) := Lib.hid ⟨by rw [cP_app]; obtain ⟨x1, x2⟩ := x; obtain ⟨kk, nn, ss, xx⟩ := x1; simp [cP, cT_node]; omega, by have := HG.out.1; have := HG.out.2; omega⟩
        clear hcut hBA hBB hcA hcB hbc HS a0 a1 a2 a3 b0 b1 b2 b3 ax0 ax1 ax2 ax3 ay0 ay1 ay2 ay3 bx0 bx1 bx2 bx3 by0 by1 by2 by3
        by_cases hk : dp.k = 1
        · have hk1 : (dp.k != 1) = false := by rw [hk]; rfl
          have HK1 := Lib.hid hk; clear hk
          have hsz : dp.s.size ≤ maxLen := by obtain ⟨_, _, h, _⟩ := HD.out.1; exact h
          have hwf : wBs full ≤ 1048577 := by have h := HSc.out.weight; have := HSUM.out; omega
          have hwx : wT x.2 ≤ 1048576 := by
            have h := HSc.out.weight; have := HSUM.out
            rw [wP_app] at h
            have h2 : wP [x] = 1 + wT x.1 + wT x.2 := by simp [wP]
            omega
          have hlook := HSc.out.tab.look hsz
          have hvl : ∀ v, firstV l dp.s = some v → ∃ old, findB full dp.s = some old ∧ TermAt w 0 hh v old := fun v hv => by
            obtain ⟨f1, f2⟩ := HSc.out.vals.first dp.s
            cases e : findB full dp.s with
            | none => rw [f1 e] at hv; cases hv
            | some old => obtain ⟨v', e2, e3⟩ := f2 old e; rw [hv] at e2; cases e2; exact ⟨old, rfl, e3⟩
          have hll : l.length ≤ 4194304 := by rw [HSc.out.vals.1]; have := wBs_len full; omega
          have HLL := Lib.hid (And.intro hll (And.intro hsz (And.intro hwf hwx)))
          have c4 := cell_of_row wc (w.heap.size + 4) 0 _ _ _ HSc.out.box4
          simp at c4
          have HVL := Lib.hid hvl
          have HRUNX : Hid (runM (st1 ++ [x]).reverse acc = (meetV acc dp.s x.2).bind (runM st1.reverse)) := Lib.hid (by
            obtain ⟨ps, ep, _⟩ := HD.out.1
            rw [List.reverse_append, List.reverse_singleton, List.singleton_append]
            obtain ⟨x1, x2⟩ := x
            simp only at ep
            rw [ep, HK1.out, runM_var])
          clear hll hvl hsz hwf hwx
          have hadd : ∀ W, Below wc.heap.size wc W → Calls Try.prog 113 #[.map (some (w.heap.size + 3)), .string dp.s, tv dt.k dt.n dt.s (.slice dt.a dt.m dt.c)] W (AddE (w.heap.size + 3) (l ++ [(dp.s, tv dt.k dt.n dt.s (.slice dt.a dt.m dt.c))]) W) := fun W hb =>
            add_any (w.heap.size + 3) l dp.s dt.k dt.n dt.s dt.a dt.m dt.c W (HSc.out.tab.below hb) HLL.out.2.1 HLL.out.1 (fun v hv => by obtain ⟨old, _, h3⟩ := HVL.out v hv; exact h3.shape)
          have HADD := Lib.hid hadd
          clear hadd
          cases hfv : firstV l dp.s with
          | none =>
            rw [hfv] at hlook
            simp only [Option.getD_none, Option.isSome_none] at hlook
            have HMV : Hid (meetV acc dp.s x.2 = some (acc ++ [(dp.s, x.2)])) := Lib.hid (by
              have e : findB acc dp.s = none := by
                rw [← HSc.out.same]
                cases e : findB full dp.s with
                | none => rfl
                | some t => obtain ⟨v, e2, _⟩ := (HSc.out.vals.first dp.s).2 t e; rw [hfv] at e2; cases e2
              unfold meetV; rw [e])
            obtain ⟨W6, hW6⟩ : ∃ W6, W6 = wc.alloc (.cells #[.int .i64 0, .int .i64 0, .string ByteArray.empty, .slice none 0 0] 29) := ⟨_, rfl⟩
            have hb6 : Below wc.heap.size wc W6 := by rw [hW6]; exact (Below.refl _ _).alloc (Nat.le_refl _) _
            have HB6 := Lib.hid hb6
            have qA := cells_of4 ((hb6.block BA (Array.getElem?_eq_some_iff.1 HCA.out).1).trans HCA.out)
            have qB := cells_of4 ((hb6.block BB (Array.getElem?_eq_some_iff.1 HCB.out).1).trans HCB.out)
            obtain ⟨⟨s0, s1, s2, s3⟩, _⟩ := qA
            obtain ⟨⟨t0, t1, t2, t3⟩, _⟩ := qB
            have d4 := cell_on hb6 c4
            clear hfv hb6
            go_upto_region 12 with fail
            rw [← hW6]
            clear hW6 c4 hlook p0 p1 p2 p3 r0 r1 r2 r3
            go_wp2_with fail
            refine (HADD.out W6 HB6.out).mono ?_
            rintro e w7 ha
            have he := ha.1
            subst he
            have HM7 : Hid (cP st1 ≤ g0 ∧ MatR p t hh w (cP st1) (.slice (some ⟨gb, 0, none⟩) q oc) w7) := Lib.hid ⟨by have := HG1.out.1; have := HG1.out.2; omega, _, _, _, _, _, _, _, _, rfl, rfl, HQ.out, by omega, mat_var (HSc.out.below HB6.out) HQ.out HP0.out HD.out.1 HD.out.2 HK1.out HMV.out ha⟩
            clear ha s0 s1 s2 s3 t0 t1 t2 t3 d4
            go_wp2
            go_roundg (cP st1)
            case measure => have := HG1.out.1; have := HG.out.1; omega
            case rel => exact ⟨HM7.out.1, Lib.hid HM7.out.2⟩
          | some vo =>
            obtain ⟨old, hfo, hto⟩ := HVL.out vo hfv
            obtain ⟨ko, no, so, ao, mo, co, rfl⟩ := hto.shape
            rw [hfv] at hlook
            simp only [Option.getD_some, Option.isSome_some] at hlook
            have hfa : findB acc dp.s = some old := by rw [← HSc.out.same]; exact hfo
            obtain ⟨W6, hW6⟩ : ∃ W6, W6 = wc.alloc (.cells #[.int .i64 ko, .int .i64 no, .string so, .slice ao mo co] 29) := ⟨_, rfl⟩
            have hb6 : Below wc.heap.size wc W6 := by rw [hW6]; exact (Below.refl _ _).alloc (Nat.le_refl _) _
            have HB6 := Lib.hid hb6
            have qA := cells_of4 ((hb6.block BA (Array.getElem?_eq_some_iff.1 HCA.out).1).trans HCA.out)
            have qB := cells_of4 ((hb6.block BB (Array.getElem?_eq_some_iff.1 HCB.out).1).trans HCB.out)
            have qO := cells_of4 (show W6.heap[wc.heap.size]? = some (trow ko no so (.slice ao mo co)) by rw [hW6]; exact heap_new _ _ rfl)
            obtain ⟨⟨s0, s1, s2, s3⟩, _⟩ := qA
            obtain ⟨⟨t0, t1, t2, t3⟩, _⟩ := qB
            obtain ⟨⟨o0, o1, o2, o3⟩, _⟩ := qO
            have HEQ := Lib.hid (equalTI_any _ _ old x.2 0 0 hh hh W6 (hto.below (bel_two HSc.out.bel hb6)) ((HD.out.2.term).below (bel_two HSc.out.bel hb6)) (by have := findB_w1 hfo; have := HLL.out.2.2.1; omega) HLL.out.2.2.2)
            have HFA := Lib.hid hfa
            clear hfv hb6 hfo hto hfa
            go_upto_region 12 with fail
            rw [← hW6]
            clear hW6 c4 hlook p0 p1 p2 p3 r0 r1 r2 r3
            go_wp2_with fail
            refine HEQ.out.mono ?_
            rintro e w7 ⟨b, ⟨rfl, hb7⟩, hiff⟩
            have HB7 := Lib.hid (bel_two HB6.out hb7)
            have HS7 := Lib.hid (HSc.out.below HB7.out)
            cases b with
            | false =>
              have HNO : Hid (matT p t [] = none) := Lib.hid (by
                rw [← HSc.out.run, HRUNX.out]
                unfold meetV
                rw [HFA.out]
                simp only
                rw [if_neg (fun h => by have := hiff.2 h; cases this)]; rfl)
              have HF : Hid (∀ v0, MatcherE p t hh w (.returned (.tuple #[.agg #[.map none], .bool false])) (w7.setCell ⟨w.heap.size + 2, 0, none⟩ v0)) := Lib.hid (fun v0 => ⟨HS7.out.bel.setCell (by simp) _, fun acc' ha => (by rw [HNO.out] at ha; cases ha), fun _ => rfl⟩)
              have c2 := cell_of_row w7 (w.heap.size + 2) 0 _ _ _ HS7.out.box2
              have f2 := frozen_of_row w7 (w.heap.size + 2) 0 _ _ HS7.out.box2
              simp at c2
              clear hb7 hiff s0 s1 s2 s3 t0 t1 t2 t3 o0 o1 o2 o3
              go_wp2
              simp only [Exit.jump]
              (try simp only [Exit.inBlock, Exit.then])
              refine bodyPost_ret (v := .tuple #[.agg #[.map none], .bool false]) ?_ rfl ?_
              · refine results_ct (a := 4) (b := 5) (t := 83) (ad := ⟨w.heap.size + 2, 0, none⟩) rfl rfl _ _ ?_
                go_simp
              · exact HF.out _
            | true =>
              have HMV : Hid (meetV acc dp.s x.2 = some acc) := Lib.hid (by
                unfold meetV
                rw [HFA.out]
                simp only
                rw [if_pos (hiff.1 rfl)])
              have qA := cells_of4 ((HB7.out.block BA (Array.getElem?_eq_some_iff.1 HCA.out).1).trans HCA.out)
              have qB := cells_of4 ((HB7.out.block BB (Array.getElem?_eq_some_iff.1 HCB.out).1).trans HCB.out)
              clear s0 s1 s2 s3 t0 t1 t2 t3 o0 o1 o2 o3
              obtain ⟨⟨s0, s1, s2, s3⟩, _⟩ := qA
              obtain ⟨⟨t0, t1, t2, t3⟩, _⟩ := qB
              have d4 := cell_of_row w7 (w.heap.size + 4) 0 _ _ _ HS7.out.box4
              simp at d4
              clear hb7 hiff
              go_wp2_with fail
              refine (HADD.out w7 HB7.out).mono ?_
              rintro e w8 ha
              have he := ha.1
              subst he
              have HM8 : Hid (cP st1 ≤ g0 ∧ MatR p t hh w (cP st1) (.slice (some ⟨gb, 0, none⟩) q oc) w8) := Lib.hid ⟨by have := HG1.out.1; have := HG1.out.2; omega, _, _, _, _, _, _, _, _, rfl, rfl, HQ.out, by omega, mat_var HS7.out HQ.out HP0.out HD.out.1 HD.out.2 HK1.out HMV.out ha⟩
              clear ha s0 s1 s2 s3 t0 t1 t2 t3 d4
              go_wp2
              go_roundg (cP st1)
              case measure => have := HG1.out.1; have := HG.out.1; omega
              case rel => exact ⟨HM8.out.1, Lib.hid HM8.out.2⟩
        · have hk1 : (dp.k != 1) = true := by simpa using hk
          have HK1 := Lib.hid hk; clear hk
          go_wp2_with fail
          refine (node_any dp.k dp.n dp.s dp.a dp.m dp.c dt.k dt.n dt.s dt.a dt.m dt.c _).mono ?_
          rintro e w2 ⟨rfl, hb2⟩
          obtain ⟨z, hz⟩ : ∃ z, z = nz (headC dp.k dp.n dp.s dp.m dt.k dt.n dt.s dt.m) := ⟨_, rfl⟩
          rw [← hz]
          have HZ : Hid (z = 0 ↔ dp.k = dt.k ∧ dp.n = dt.n ∧ dp.s = dt.s ∧ dp.m = dt.m) := Lib.hid (by rw [hz]; exact head_zero)
          have HS2 := Lib.hid (HSc.out.below hb2)
          have HCA2 := Lib.hid ((hb2.block BA (Array.getElem?_eq_some_iff.1 HCA.out).1).trans HCA.out)
          have HCB2 := Lib.hid ((hb2.block BB (Array.getElem?_eq_some_iff.1 HCB.out).1).trans HCB.out)
          clear hz hb2 HSc HCA HCB p0 p1 p2 p3 r0 r1 r2 r3
          obtain ⟨ps, ep, hsp, hap⟩ := HD.out.1
          obtain ⟨ts, et, hst, hat⟩ := HD.out.2
          have hlp : dp.m = ps.length := by obtain ⟨_, _, e⟩ := hap.slice; simp only [Value.slice.injEq] at e; exact e.2.1
          have hlt : dt.m = ts.length := by obtain ⟨_, _, e⟩ := hat.slice; simp only [Value.slice.injEq] at e; exact e.2.1
          have HPT := Lib.hid (And.intro ep (And.intro et (And.intro hap hat)))
          have HLN := Lib.hid (And.intro hlp hlt)
          clear ep et hsp hst hap hat hlp hlt
          by_cases hz0 : z = 0
          · subst hz0
            obtain ⟨ek, en, es', em⟩ := HZ.out.1 rfl
            obtain ⟨dsA, hdA, hiA⟩ := nds_of HPT.out.2.2.1
            obtain ⟨dsB, hdB, hiB⟩ := nds_of HPT.out.2.2.2
            have hlA := hdA.len
            have hlB := hdB.len
            have HXE : Hid (x = (T.node dp.k dp.n dp.s ps, T.node dp.k dp.n dp.s ts)) := Lib.hid (by obtain ⟨x1, x2⟩ := x; have h1 := HPT.out.1; have h2 := HPT.out.2.1; simp only at h1 h2; rw [h1, h2, ek, en, es'])
            have HLE : Hid (ps.length = ts.length) := Lib.hid (by have := HLN.out.1; have := HLN.out.2; omega)
            have HND := Lib.hid (And.intro hdA hdB)
            have hwt : wP (st1 ++ [x]) ≤ 1048577 := by have h := HS2.out.weight; have := HSUM.out; omega
            have hps : ps.length ≤ wT x.1 := by rw [HPT.out.1, wT_node]; omega
            have hst1 : st1.length + 1 + wT x.1 ≤ wP (st1 ++ [x]) := by
              rw [wP_app]
              have h1 : st1.length ≤ wP st1 := by
                unfold wP
                have : ∀ l : List (T × T), l.length ≤ (l.map (fun x => 1 + wT x.1 + wT x.2)).sum := fun l => by
                  induction l with
                  | nil => simp
                  | cons y r ih => simp only [List.length_cons, List.map_cons, List.sum_cons]; omega
                exact this st1
              have h2 : wP [x] = 1 + wT x.1 + wT x.2 := by simp [wP]
              omega
            have hql : q + dsA.length ≤ 1048577 := by have := HQ.out; omega
            have HCALL := Lib.hid (fun (W : World) (hW : Below w2.heap.size w2 W) => appE_any (some ⟨gb, 0, none⟩) q oc ((n0.flatMap eqC)) dp.a dp.m dp.c dsA dt.a dt.m dt.c dsB w.heap.size W (by
              have hrow := own_cut (keep_own HS2.out.row hW) (Nat.le_succ q)
              have hl : (n0.flatMap eqC).length = q * 8 := by rw [eqC_len, HP0.out.1, HQ.out]
              rw [List.flatMap_append, ← hl, List.take_left' rfl] at hrow
              exact hrow) (bel_two HS2.out.bel hW).size (hiA.below (bel_two HS2.out.bel hW)) (hiB.below (bel_two HS2.out.bel hW)) (by have := HLE.out; omega) (by omega) (by omega))
            have HQL := Lib.hid hql
            have p3 := cell_of_row w2 BA 3 _ _ _ HCA2.out
            have r3 := cell_of_row w2 BB 3 _ _ _ HCB2.out
            simp at p3 r3
            clear ek en es' em hdA hdB hiA hiB hlA hlB hwt hps hst1 hql
            go_wp2_with fail
            refine (HCALL.out w2 (Below.refl _ _)).mono ?_
            rintro e w3 ⟨v3, rfl, ho3, hb3, hg3, hm3⟩
            obtain ⟨oa', oc', rfl, hlen, hS3⟩ := mat_app HS2.out HQ.out HP0.out HXE.out HK1.out HLE.out HND.out.1 HND.out.2 ho3 hg3 hm3
            have HM3 : Hid (cP (st1 ++ (ps.zip ts).reverse) < g0 ∧ MatR p t hh w (cP (st1 ++ (ps.zip ts).reverse)) (.slice oa' (q + dsA.length) oc') w3) := Lib.hid ⟨by
              have h1 := HG1.out
              have h2 := cP_zip ps ts
              rw [cP_app] at h1 ⊢
              have h3 : cP [x] = 1 + cS ps := by unfold cP; simp only [List.map_cons, List.map_nil, List.sum_cons, List.sum_nil]; rw [HPT.out.1, cT_node]; omega
              omega, _, _, acc, full, l, oa', _, oc', rfl, rfl, hlen, HQL.out, hS3⟩
            clear ho3 hb3 hg3 hm3 hlen hS3 p3 r3
            go_wp2
            go_step3
            simp only [Exit.inBlock, Exit.then]
            refine ⟨rfl, _, HM3.out.1, ?_⟩
            iterate 69 apply Exists.intro
            exact ⟨rfl, Lib.hid HM3.out.2⟩
          · have hz1 : (z != 0) = true := by simpa using hz0
            have HNO : Hid (matT p t [] = none) := Lib.hid (by
              have hrun := HS2.out.run
              rw [← hrun, List.reverse_append, List.reverse_singleton, List.singleton_append]
              obtain ⟨x1, x2⟩ := x
              have h1 := HPT.out.1; have h2 := HPT.out.2.1
              simp only at h1 h2
              rw [h1, h2]
              exact runM_no HK1.out (fun h => hz0 (HZ.out.2 ⟨h.1, h.2.1, h.2.2.1, by rw [HLN.out.1, HLN.out.2]; exact h.2.2.2⟩)))
            have HF : Hid (∀ v0, MatcherE p t hh w (.returned (.tuple #[.agg #[.map none], .bool false])) (w2.setCell ⟨w.heap.size + 2, 0, none⟩ v0)) := Lib.hid (fun v0 => ⟨HS2.out.bel.setCell (by simp) _, fun acc' ha => (by rw [HNO.out] at ha; cases ha), fun _ => rfl⟩)
            have c2 := cell_of_row w2 (w.heap.size + 2) 0 _ _ _ HS2.out.box2
            have f2 := frozen_of_row w2 (w.heap.size + 2) 0 _ _ HS2.out.box2
            simp at c2
            go_wp2
            simp only [Exit.jump]
            (try simp only [Exit.inBlock, Exit.then])
            refine bodyPost_ret (v := .tuple #[.agg #[.map none], .bool false]) ?_ rfl ?_
            · refine results_ct (a := 4) (b := 5) (t := 83) (ad := ⟨w.heap.size + 2, 0, none⟩) rfl rfl _ _ ?_
              go_simp
            · exact HF.out _
end Go.Proofs.Yteelakhaaipebaa
