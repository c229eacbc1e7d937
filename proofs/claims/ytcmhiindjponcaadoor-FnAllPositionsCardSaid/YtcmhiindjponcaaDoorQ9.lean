/-
  The stack of terms with their positions, and the positions so far: what a step leaves. No walk.
-/
import Derived.Test.YtcmhiindjponcaaDoorQ8
import Derived.WalkSmall
namespace Go.Proofs.YtcmhiindjponcaaDoor
open Go.RowKit Go.Shelf

/-- An entry of the stack. -/
structure En where
  ps : List Int
  k : Int
  n : Int
  s : ByteArray
  a : Option Addr
  m : Nat
  c : Nat
  av : Value
def En.cs (e : En) : List Value := [.int .i64 e.k, .int .i64 e.n, .string e.s, .slice e.a e.m e.c, e.av]
/-- Slices of integers, in rows. -/
def RowN (W : World) (B : Nat) (us : List Value) (pss : List (List Int)) : Prop := us.length = pss.length ∧ ∀ (i : Nat) (q : List Int), pss[i]? = some q → ∃ u : Value, us[i]? = some u ∧ W.ownsRow B 3 1 u q.length (q.map iv)
/-- Two values that share no row. -/
def Apart (u u' : Value) : Prop := ∀ k, u.ownBlock = some k → u'.ownBlock ≠ some k
theorem Apart.symm {u u' : Value} (h : Apart u u') : Apart u' u := fun k e e2 => h k e2 e

theorem own_typed {w : World} {B n size k : Nat} {e : TypeId} {v : Value} {xs : List Value} (h : w.ownsRow B e size v n xs) (hk : v.ownBlock = some k) : ∃ cs, w.heap[k]? = some (Obj.cells cs e (0, 0)) := by
  rcases h.2 with ⟨rfl, _⟩ | ⟨g, cap, cur, rfl, _, hc, _⟩
  · cases hk
  · cases hk; exact ⟨cur, hc⟩
theorem own_same {w w' : World} {B n size : Nat} {e : TypeId} {v : Value} {xs : List Value} (h : w.ownsRow B e size v n xs) (hk : ∀ (k : Nat) (cs : Array Value), w.heap[k]? = some (Obj.cells cs e (0, 0)) → w'.heap[k]? = w.heap[k]?) : w'.ownsRow B e size v n xs :=
  own_at h fun k hv => by obtain ⟨cs, hc⟩ := own_typed h hv; exact hk k cs hc
theorem RowN.keep {W W' : World} {B : Nat} {us : List Value} {pss : List (List Int)} (h : RowN W B us pss) (hk : ∀ (k : Nat) (cs : Array Value), W.heap[k]? = some (Obj.cells cs 3 (0, 0)) → W'.heap[k]? = W.heap[k]?) : RowN W' B us pss :=
  ⟨h.1, fun i q hq => by obtain ⟨u, hu, ho⟩ := h.2 i q hq; exact ⟨u, hu, own_same ho hk⟩⟩
theorem RowN.insert {W : World} {B : Nat} {A C : List Value} {P R : List (List Int)} (h : RowN W B (A ++ C) (P ++ R)) (hl : A.length = P.length) {u : Value} {q : List Int} (ho : W.ownsRow B 3 1 u q.length (q.map iv)) : RowN W B (A ++ u :: C) (P ++ q :: R) := by
  have h1 := h.1
  rw [List.length_append, List.length_append] at h1
  refine ⟨by simp; omega, fun i q' hq => ?_⟩
  rcases Nat.lt_trichotomy i P.length with hi | hi | hi
  · rw [List.getElem?_append_left hi] at hq
    obtain ⟨u', hu, ho'⟩ := h.2 i q' (by rw [List.getElem?_append_left hi]; exact hq)
    rw [List.getElem?_append_left (by omega)] at hu
    exact ⟨u', by rw [List.getElem?_append_left (by omega)]; exact hu, ho'⟩
  · subst hi
    rw [List.getElem?_append_right (Nat.le_refl _), Nat.sub_self] at hq
    simp at hq
    subst hq
    exact ⟨u, by rw [List.getElem?_append_right (by omega), ← hl, Nat.sub_self]; rfl, ho⟩
  · rw [List.getElem?_append_right (by omega), List.getElem?_cons] at hq
    rw [if_neg (by omega)] at hq
    obtain ⟨u', hu, ho'⟩ := h.2 (i - 1) q' (by rw [List.getElem?_append_right (by omega)]; rw [← hq]; congr 1; omega)
    rw [List.getElem?_append_right (by omega)] at hu
    refine ⟨u', ?_, ho'⟩
    rw [List.getElem?_append_right (by omega), List.getElem?_cons, if_neg (by omega), ← hu]
    congr 1; omega
theorem RowN.block {W : World} {B : Nat} {us : List Value} {pss : List (List Int)} (h : RowN W B us pss) {u : Value} (hu : u ∈ us) {k : Nat} (hk : u.ownBlock = some k) : k < W.heap.size := by
  obtain ⟨i, hi, rfl⟩ := List.getElem_of_mem hu
  obtain ⟨q, hq⟩ : ∃ q, pss[i]? = some q := ⟨_, List.getElem?_eq_getElem (by rw [← h.1]; exact hi)⟩
  obtain ⟨u', hu', ho⟩ := h.2 i q hq
  rw [List.getElem?_eq_getElem hi] at hu'
  cases hu'
  exact (ho.lt k hk).2
theorem RowN.src {W : World} {B : Nat} {us : List Value} {pss : List (List Int)} (h : RowN W B us pss) {i : Nat} {u : Value} {q : List Int} (hu : us[i]? = some u) (hq : pss[i]? = some q) (hf : u = .slice none 0 0 ∧ q = [] ∨ 0 < q.length) :
    ∃ aa ac, u = .slice aa q.length ac ∧ SrcI W aa ac q := by
  obtain ⟨u', hu', ho⟩ := h.2 i q hq
  rw [hu] at hu'
  cases hu'
  rcases hf with ⟨rfl, rfl⟩ | hp
  · exact ⟨none, 0, rfl, Or.inl ⟨rfl, rfl, rfl⟩⟩
  · obtain ⟨g, c, rfl⟩ : ∃ g c, u = .slice (some ⟨g, 0, none⟩) q.length c := by
      rcases ho.2 with ⟨_, h0⟩ | ⟨g, c, _, e, _⟩
      · omega
      · exact ⟨g, c, e⟩
    refine ⟨_, _, rfl, Or.inr ⟨g, rfl, hp, fun j x hj => ?_⟩⟩
    have hjl := (List.getElem?_eq_some_iff.1 hj).1
    have := ho.cellAt j (by simpa using hjl)
    have e : (⟨g, 0, none⟩ : Addr).add j = ⟨g, j, none⟩ := by
      unfold Addr.add
      by_cases h0 : j = 0 <;> simp [h0]
    rw [e]
    exact this.trans hj
theorem apart_insert {A C : List Value} {u : Value} (h : (A ++ C).Pairwise Apart) (hu : ∀ x ∈ A ++ C, Apart x u) : (A ++ u :: C).Pairwise Apart := by
  rw [List.pairwise_append] at h ⊢
  refine ⟨h.1, ?_, fun x hx y hy => ?_⟩
  · rw [List.pairwise_cons]
    exact ⟨fun y hy => (hu y (List.mem_append_right _ hy)).symm, h.2.1⟩
  · rcases List.mem_cons.1 hy with rfl | hy
    · exact hu x (List.mem_append_left _ hx)
    · exact h.2.2 x hx y hy

/-- The stack in its box, the positions so far, and the rows of all positions, of those and of these. -/
structure PosSt (Bo : Nat) (w0 : World) (v : Value) (va : Option Addr) (vc : Nat) (rv us : List Value) (pss : List (List Int)) (st : List En) (W : World) : Prop where
  bel : Below w0.heap.size w0 W
  bo : w0.heap.size ≤ Bo
  box : Boxed W Bo 43 (.slice va st.length vc)
  own : W.ownsRow w0.heap.size 42 5 (.slice va st.length vc) st.length (st.reverse.flatMap En.cs)
  res : W.ownsRow w0.heap.size 33 1 v rv.length rv
  ints : RowN W w0.heap.size us pss
  sep : us.Pairwise Apart

theorem PosSt.grown {Bo : Nat} {w0 W W' : World} {v : Value} {va : Option Addr} {vc : Nat} {rv us : List Value} {pss : List (List Int)} {st : List En} {row : Option Nat} (h : PosSt Bo w0 v va vc rv us pss st W) (hg : W.grownBy W' row)
    (hr : ∀ r, row = some r → w0.heap.size ≤ r ∧ ∃ o : Obj, W.heap[r]? = some o ∧ o.isCells = false) : PosSt Bo w0 v va vc rv us pss st W' := by
  have hk : ∀ (k : Nat) (cs : Array Value) (t : TypeId), W.heap[k]? = some (Obj.cells cs t (0, 0)) → W'.heap[k]? = W.heap[k]? := fun k cs t hc => hg.block k (Array.getElem?_eq_some_iff.1 hc).1 (fun e => by
    obtain ⟨_, o, ho, hn⟩ := hr k e.symm
    rw [hc] at ho; cases ho; cases hn)
  have hb := h.bel
  refine ⟨⟨hg.os.trans hb.os, hg.tape.trans hb.tape, hg.output.trans hb.output, Nat.le_trans hb.size hg.size, fun k hk2 => (hg.block k (Nat.lt_of_lt_of_le hk2 hb.size) (fun e => ?_)).trans (hb.block k hk2)⟩, h.bo, (hk _ _ _ h.box).trans h.box, own_same h.own fun k cs hc => hk k cs _ hc, own_same h.res fun k cs hc => hk k cs _ hc, h.ints.keep fun k cs hc => hk k cs _ hc, h.sep⟩
  have := (hr k e.symm).1
  omega
theorem PosSt.below {Bo : Nat} {w0 W W' : World} {v : Value} {va : Option Addr} {vc : Nat} {rv us : List Value} {pss : List (List Int)} {st : List En} (h : PosSt Bo w0 v va vc rv us pss st W) (hb : Below W.heap.size W W') : PosSt Bo w0 v va vc rv us pss st W' :=
  h.grown (Below.toGrown hb none) (fun r e => by cases e)

/-- The topmost one is taken off. -/
theorem PosSt.pop {Bo : Nat} {w0 W : World} {v : Value} {va : Option Addr} {vc : Nat} {rv us : List Value} {pss : List (List Int)} {st : List En} {e : En} (h : PosSt Bo w0 v va vc rv us pss (e :: st) W) :
    PosSt Bo w0 v va vc rv us pss st (W.setCell ⟨Bo, 0, none⟩ (.slice va st.length vc)) := by
  obtain ⟨g, rfl⟩ : ∃ g, va = some ⟨g, 0, none⟩ := by
    rcases h.own.2 with ⟨_, h0⟩ | ⟨g, _, _, e1, _⟩
    · simp at h0
    · simp only [Value.slice.injEq] at e1; exact ⟨g, e1.1⟩
  have hk : ∀ (k : Nat) (cs : Array Value) (t : TypeId), t ≠ 43 → W.heap[k]? = some (Obj.cells cs t (0, 0)) → (W.setCell ⟨Bo, 0, none⟩ (.slice (some ⟨g, 0, none⟩) st.length vc)).heap[k]? = W.heap[k]? := fun k cs t ht hc => Below.heap_setCell _ _ _ _ (fun e => by
    have e : k = Bo := e
    subst e
    have hb := h.box
    unfold Boxed at hb
    rw [hb] at hc; cases hc; exact ht rfl)
  have ho := h.own
  have e1 : (e :: st).reverse.flatMap En.cs = st.reverse.flatMap En.cs ++ e.cs := by simp
  rw [e1] at ho
  have hl : (st.reverse.flatMap En.cs).length = st.length * 5 := by
    have := ho.1
    rw [List.length_append, List.length_cons] at this
    have e2 : e.cs.length = 5 := rfl
    omega
  refine ⟨h.bel.setCell h.bo _, h.bo, h.box.set _, own_same (ownsRow_pop (n := st.length) (last := e.cs) hl ho) fun k cs hc => hk k cs _ (by decide) hc, own_same h.res fun k cs hc => hk k cs _ (by decide) hc, h.ints.keep fun k cs hc => hk k cs _ (by decide) hc, h.sep⟩

/-- The topmost one's cells. -/
theorem PosSt.top {Bo : Nat} {w0 W : World} {v : Value} {va : Option Addr} {vc : Nat} {rv us : List Value} {pss : List (List Int)} {st : List En} {e : En} (h : PosSt Bo w0 v va vc rv us pss (e :: st) W) :
    ∃ g, va = some ⟨g, 0, none⟩ ∧ st.length + 1 ≤ vc ∧ W.cell? ⟨g, st.length * 5, none⟩ = some (.int .i64 e.k) ∧ W.cell? ⟨g, st.length * 5 + 1, none⟩ = some (.int .i64 e.n) ∧ W.cell? ⟨g, st.length * 5 + 2, none⟩ = some (.string e.s) ∧ W.cell? ⟨g, st.length * 5 + 3, none⟩ = some (.slice e.a e.m e.c) ∧ W.cell? ⟨g, st.length * 5 + 4, none⟩ = some e.av := by
  have ho := h.own
  have e1 : (e :: st).reverse.flatMap En.cs = st.reverse.flatMap En.cs ++ e.cs := by simp
  rw [e1, List.length_cons] at ho
  have hl : (st.reverse.flatMap En.cs).length = st.length * 5 := by
    have := ho.1
    rw [List.length_append] at this
    have e2 : e.cs.length = 5 := rfl
    omega
  obtain ⟨g, rfl, hc⟩ : ∃ g, va = some ⟨g, 0, none⟩ ∧ st.length + 1 ≤ vc := by
    rcases ho.2 with ⟨_, h0⟩ | ⟨g, _, _, e2, _, _, hc, _⟩
    · simp at h0
    · simp only [Value.slice.injEq] at e2; exact ⟨g, e2.1, by omega⟩
  have hx : ∀ j, j < 5 → W.cell? ⟨g, st.length * 5 + j, none⟩ = e.cs[j]? := fun j hj => by
    rw [ho.cellAt _ (by omega), List.getElem?_append_right (by omega), hl, Nat.add_sub_cancel_left]
  exact ⟨g, rfl, hc, hx 0 (by omega), hx 1 (by omega), hx 2 (by omega), hx 3 (by omega), hx 4 (by omega)⟩

/-- A position is handed over to the answer. -/
theorem PosSt.took {Bo : Nat} {w0 W W' : World} {v v' : Value} {va : Option Addr} {vc : Nat} {rv us : List Value} {pss : List (List Int)} {st : List En} {x : Value} (h : PosSt Bo w0 v va vc rv us pss st W) (hg : W.grownBy W' v.ownBlock) (ho : W'.ownsRow w0.heap.size 33 1 v' (rv.length + 1) (rv ++ [x])) :
    PosSt Bo w0 v' va vc (rv ++ [x]) us pss st W' := by
  have hk : ∀ (k : Nat) (cs : Array Value) (t : TypeId), t ≠ 33 → W.heap[k]? = some (Obj.cells cs t (0, 0)) → W'.heap[k]? = W.heap[k]? := fun k cs t ht hc => hg.block k (Array.getElem?_eq_some_iff.1 hc).1 (fun e => by
    obtain ⟨cs', hc'⟩ := own_typed h.res e.symm
    rw [hc] at hc'; cases hc'; exact ht rfl)
  refine ⟨h.bel.grown hg h.bel.size (fun j e => (h.res.lt j e).1), h.bo, (hk _ _ _ (by decide) h.box).trans h.box, own_same h.own fun k cs hc => hk k cs _ (by decide) hc, by rw [List.length_append, List.length_singleton]; exact ho, h.ints.keep fun k cs hc => hk k cs _ (by decide) hc, h.sep⟩

/-- An argument with its position is put on the stack. -/
theorem PosSt.push {Bo : Nat} {w0 W W' : World} {v : Value} {va : Option Addr} {vc : Nat} {rv A C : List Value} {P R : List (List Int)} {st : List En} {k n : Int} {s : ByteArray} {a : Option Addr} {m c : Nat} {qs : List Int} (h : PosSt Bo w0 v va vc rv (A ++ C) (P ++ R) st W) (hl : A.length = P.length)
    (hf : PosFin w0.heap.size Bo st.length va vc (st.reverse.flatMap En.cs) k n s a m c qs W W') :
    ∃ va' vc' av, PosSt Bo w0 v va' vc' rv (A ++ av :: C) (P ++ qs :: R) (⟨qs, k, n, s, a, m, c, av⟩ :: st) W' ∧ KeepsOthers W W' ∧ Below w0.heap.size W W' ∧ (∀ (j : Nat) (cs : Array Value) (t : TypeId), j < W.heap.size → W.heap[j]? = some (Obj.cells cs t (0, 0)) → t ≠ 43 → t ≠ 42 → W'.heap[j]? = W.heap[j]?) ∧
      (∀ j, j < W.heap.size → j ≠ Bo → some j ≠ (Value.slice va st.length vc).ownBlock → W'.heap[j]? = W.heap[j]? ∧ some j ≠ (Value.slice va' (st.length + 1) vc').ownBlock) := by
  obtain ⟨g7, c7, w7, ho7, hb7, g, cap, ⟨hbx, hown⟩, hko, hbl, hst, hob⟩ := hf
  have hs7 := hb7.size
  have hbo7 : Boxed w7 Bo 43 (.slice va st.length vc) := (hb7.block Bo h.box.lt).trans h.box
  have hown7 := keep_own h.own hb7
  have hk7 : ∀ (j : Nat) (cs : Array Value) (t : TypeId), w7.heap[j]? = some (Obj.cells cs t (0, 0)) → t ≠ 43 → t ≠ 42 → W'.heap[j]? = w7.heap[j]? := fun j cs t hc h1 h2 => hst j (Array.getElem?_eq_some_iff.1 hc).1 (fun e => by
      subst e
      unfold Boxed at hbo7
      rw [hbo7] at hc; cases hc; exact h1 rfl) (fun e => by
      obtain ⟨cs', hc'⟩ := own_typed hown7 e.symm
      rw [hc] at hc'; cases hc'; exact h2 rfl)
  have hk : ∀ (j : Nat) (cs : Array Value) (t : TypeId), j < W.heap.size → W.heap[j]? = some (Obj.cells cs t (0, 0)) → t ≠ 43 → t ≠ 42 → W'.heap[j]? = W.heap[j]? := fun j cs t hj hc h1 h2 =>
    (hk7 j cs t ((hb7.block j hj).trans hc) h1 h2).trans (hb7.block j hj)
  have hkc : ∀ (j : Nat) (cs : Array Value) (t : TypeId), t ≠ 43 → t ≠ 42 → W.heap[j]? = some (Obj.cells cs t (0, 0)) → W'.heap[j]? = W.heap[j]? := fun j cs t h1 h2 hc => hk j cs t (Array.getElem?_eq_some_iff.1 hc).1 hc h1 h2
  have hbl0 : Below w0.heap.size W W' := (hb7.mono h.bel.size).trans hbl
  have hints : RowN W' w0.heap.size (A ++ C) (P ++ R) := h.ints.keep fun j cs hc => hkc j cs _ (by decide) (by decide) hc
  have how7 : w7.ownsRow w0.heap.size 3 1 (.slice (some ⟨g7, 0, none⟩) qs.length c7) qs.length (qs.map iv) := own_low ho7 h.bel.size
  have how' : W'.ownsRow w0.heap.size 3 1 (.slice (some ⟨g7, 0, none⟩) qs.length c7) qs.length (qs.map iv) := own_same how7 fun j cs hc => hk7 j cs _ hc (by decide) (by decide)
  have hg7 : W.heap.size ≤ g7 := (ho7.lt g7 rfl).1
  refine ⟨some ⟨g, 0, none⟩, cap, .slice (some ⟨g7, 0, none⟩) qs.length c7, ⟨h.bel.trans hbl0, h.bo, hbx, ?_, own_same h.res fun j cs hc => hkc j cs _ (by decide) (by decide) hc, hints.insert hl how', apart_insert h.sep fun x hx j e e2 => ?_⟩, ⟨Nat.le_trans hs7 hko.size, fun j o hj ho => hko.same j o ((hb7.block j (Array.getElem?_eq_some_iff.1 hj).1).trans hj) ho⟩, hbl0, hk, fun j hj h1 h2 => ⟨(hst j (by omega) h1 h2).trans (hb7.block j hj), fun e => ?_⟩⟩
  · have e1 : ((⟨qs, k, n, s, a, m, c, .slice (some ⟨g7, 0, none⟩) qs.length c7⟩ : En) :: st).reverse.flatMap En.cs = st.reverse.flatMap En.cs ++ [.int .i64 k, .int .i64 n, .string s, .slice a m c, .slice (some ⟨g7, 0, none⟩) qs.length c7] := by simp [En.cs]
    rw [e1]
    exact hown
  · have h1 := h.ints.block hx e
    have h2 : g7 = j := by simpa [Value.ownBlock] using e2
    omega
  · have e : j = g := by simpa [Value.ownBlock] using e
    subst e
    rcases hob with h3 | h3
    · exact h2 h3.symm
    · omega
end Go.Proofs.YtcmhiindjponcaaDoor
