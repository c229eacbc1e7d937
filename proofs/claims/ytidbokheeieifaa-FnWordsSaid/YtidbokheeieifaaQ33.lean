/-
  The nodes of a term while they are reduced from the last to the first. No walk.
-/
import Derived.Test.YtidbokheeieifaaQ19
import Derived.Test.YtidbokheeieifaaQ32
namespace Go.Proofs.Ytidbokheeieifaa
open Go.RowKit Go.Maps Go.WideMaps

theorem T.form (t : T) : ∃ k n s xs, t = .node k n s xs := by
  cases t with
  | node k n s xs => exact ⟨k, n, s, xs, rfl⟩
/-- A node becomes its word. -/
def goesT : T → Bool
  | .node k n s xs => goesB k n s (xs.map redT)
/-- What a node's fourth cell holds behind its turn. -/
def slR (L : Lay) (x : Nat) : Value := if goesT (L.V x) = true then .slice none 0 0 else L.sl x
theorem red_goes {k n : Int} {s : ByteArray} {xs : List T} (h : goesT (.node k n s xs) = true) : redT (.node k n s xs) = .node 3 (opW s ((((xs.map redT)[0]?).map numT).getD 0) ((((xs.map redT)[1]?).map numT).getD 0)) ByteArray.empty [] := by
  rw [redT_node]; exact red1_yes h
theorem red_stays {k n : Int} {s : ByteArray} {xs : List T} (h : goesT (.node k n s xs) = false) : redT (.node k n s xs) = .node k n s (xs.map redT) := by
  rw [redT_node]; exact red1_no h
/-- All nodes from i on are reduced. -/
structure RedSt (L : Lay) (N i : Nat) (w : World) : Prop where
  old : ∀ x, x < i → x < N → NodeAt w (L.b x) (L.o x) (L.V x) (L.sl x)
  new : ∀ x, i ≤ x → x < N → NodeAt w (L.b x) (L.o x) (redT (L.V x)) (slR L x)

theorem NodeAt.below {w w' : World} {b o : Nat} {t : T} {u : Value} (h : NodeAt w b o t u) (hb : Below w.heap.size w w') : NodeAt w' b o t u := h.keep (hb.block b h.lt)
theorem NodeAt.set4 {w : World} {b o b' o' : Nat} {t : T} {u : Value} (h : NodeAt w b' o' t u) (hd : b' = b → o' + 4 ≤ o ∨ o + 4 ≤ o') (v0 v1 v2 v3 : Value) :
    NodeAt ((((w.setCell ⟨b, o, none⟩ v0).setCell ⟨b, o + 1, none⟩ v1).setCell ⟨b, o + 2, none⟩ v2).setCell ⟨b, o + 3, none⟩ v3) b' o' t u := by
  have st : ∀ (X : World) (j : Nat) (v : Value), j < 4 → NodeAt X b' o' t u → NodeAt (X.setCell ⟨b, o + j, none⟩ v) b' o' t u := fun X j v hj q => by
    obtain ⟨k, n, s, xs, e, hs, c0, c1, c2, c3, f0, f1, f2, f3⟩ := q
    have cl : ∀ p, p < 4 → ∀ x, X.cell? ⟨b', o' + p, none⟩ = some x → (X.setCell ⟨b, o + j, none⟩ v).cell? ⟨b', o' + p, none⟩ = some x := fun p hp x hx => by
      rw [World.cell?_setCell_other _ _ _ _ (fun e => by simp only [Addr.mk.injEq] at e; have := hd e.1.symm; omega)]; exact hx
    exact ⟨k, n, s, xs, e, hs, cl 0 (by omega) _ c0, cl 1 (by omega) _ c1, cl 2 (by omega) _ c2, cl 3 (by omega) _ c3, by rw [World.frozen?_setCell]; exact f0, by rw [World.frozen?_setCell]; exact f1, by rw [World.frozen?_setCell]; exact f2, by rw [World.frozen?_setCell]; exact f3⟩
  exact st _ 3 _ (by omega) (st _ 2 _ (by omega) (st _ 1 _ (by omega) (st _ 0 _ (by omega) h)))
theorem node_new {w : World} {b o : Nat} {t : T} {u : Value} (h : NodeAt w b o t u) (z : Int) :
    NodeAt ((((w.setCell ⟨b, o, none⟩ (.int .i64 3)).setCell ⟨b, o + 1, none⟩ (.int .i64 z)).setCell ⟨b, o + 2, none⟩ (.string ByteArray.empty)).setCell ⟨b, o + 3, none⟩ (.slice none 0 0)) b o (.node 3 z ByteArray.empty []) (.slice none 0 0) := by
  obtain ⟨k, n, s, xs, e, hs, c0, c1, c2, c3, f0, f1, f2, f3⟩ := h
  have so : ∀ (X : World) (j p : Nat) (v x : Value), j ≠ p → X.cell? ⟨b, o + p, none⟩ = some x → (X.setCell ⟨b, o + j, none⟩ v).cell? ⟨b, o + p, none⟩ = some x := fun X j p v x hne hx => by
    rw [World.cell?_setCell_other _ _ _ _ (fun e => by simp only [Addr.mk.injEq] at e; omega)]; exact hx
  have ss : ∀ (X : World) (j : Nat) (v x : Value), X.cell? ⟨b, o + j, none⟩ = some x → (X.setCell ⟨b, o + j, none⟩ v).cell? ⟨b, o + j, none⟩ = some v := fun X j v x hx => World.cell?_setCell_same' _ _ _ (by rw [hx]; rfl)
  have a0 := ss w 0 (.int .i64 3) _ c0
  have a1 := so w 0 1 (.int .i64 3) _ (by omega) c1
  have a2 := so w 0 2 (.int .i64 3) _ (by omega) c2
  have a3 := so w 0 3 (.int .i64 3) _ (by omega) c3
  have b1 := ss _ 1 (.int .i64 z) _ a1
  have b0 := so _ 1 0 (.int .i64 z) _ (by omega) a0
  have b2 := so _ 1 2 (.int .i64 z) _ (by omega) a2
  have b3 := so _ 1 3 (.int .i64 z) _ (by omega) a3
  have d2 := ss _ 2 (.string ByteArray.empty) _ b2
  have d0 := so _ 2 0 (.string ByteArray.empty) _ (by omega) b0
  have d1 := so _ 2 1 (.string ByteArray.empty) _ (by omega) b1
  have d3 := so _ 2 3 (.string ByteArray.empty) _ (by omega) b3
  refine ⟨3, z, ByteArray.empty, [], rfl, by decide, so _ 3 0 (.slice none 0 0) _ (by omega) d0, so _ 3 1 (.slice none 0 0) _ (by omega) d1, so _ 3 2 (.slice none 0 0) _ (by omega) d2, ss _ 3 (.slice none 0 0) _ d3, ?_, ?_, ?_, ?_⟩
  · simp only [World.frozen?_setCell]; exact f0
  · simp only [World.frozen?_setCell]; exact f1
  · simp only [World.frozen?_setCell]; exact f2
  · simp only [World.frozen?_setCell]; exact f3

theorem slR_len {w0 : World} {h B : Nat} {L : Lay} {N : Nat} {w : World} (x : LayAt w0 h B L N N w) {i : Nat} (hi : i < N) : ∃ a c, slR L i = .slice a (kT (redT (L.V i))).length c ∧ (kT (redT (L.V i)) ≠ [] → a = some ⟨L.g i, 0, none⟩) := by
  obtain ⟨a, c, e, ha⟩ := x.own i hi
  obtain ⟨k, n, s, xs, hV⟩ : ∃ k n s xs, L.V i = .node k n s xs := T.form _
  unfold slR
  cases hg : goesT (L.V i) with
  | true =>
    rw [if_pos rfl]
    rw [hV] at hg ⊢
    rw [red_goes hg]
    exact ⟨none, 0, rfl, fun hne => absurd rfl hne⟩
  | false =>
    rw [if_neg (by simp)]
    rw [hV] at hg ⊢
    rw [red_stays hg]
    rw [hV] at e ha
    refine ⟨a, c, by rw [e]; simp [kT], fun hne => ha (fun e2 => hne (by simp only [kT] at e2 ⊢; rw [e2]; rfl))⟩

theorem goB_eq {k n : Int} {s : ByteArray} {xs : List T} {wa wb : Bool} (h : xs.length = 2 → ((xs.map redT)[0]?).map wordB = some wa ∧ ((xs.map redT)[1]?).map wordB = some wb) : goB k n s xs.length wa wb = goesB k n s (xs.map redT) := by
  unfold goB goesB
  by_cases hl : xs.length = 2
  · obtain ⟨h1, h2⟩ := h hl
    rw [h1, h2, List.length_map]
    rfl
  · rw [List.length_map]
    simp [hl]

/-- One node's turn. -/
theorem RedSt.step {w0 : World} {h B : Nat} {L : Lay} {N p : Nat} {wL wr w' : World} (x : LayAt w0 h B L N N wL) (hp : p < N) (st : RedSt L N (p + 1) wr) {k n : Int} {s : ByteArray} {xs : List T} (hV : L.V p = .node k n s xs) {e : Ending} {go : Bool} {z : Int}
    (hgo : go = goesB k n s (xs.map redT)) (hz : go = true → z = opW s ((((xs.map redT)[0]?).map numT).getD 0) ((((xs.map redT)[1]?).map numT).getD 0)) (hr : RedNE (L.b p) (L.o p) go z wr e w') : RedSt L N p w' := by
  obtain ⟨_, w1, hb1, hw'⟩ := hr
  have hap : ∀ y, y < N → y ≠ p → L.b y = L.b p → L.o y + 4 ≤ L.o p ∨ L.o p + 4 ≤ L.o y := fun y hy hne hbb => by
    rcases Nat.lt_or_ge y p with h1 | h1
    · exact Or.inl (x.apart y p h1 hp hbb)
    · exact Or.inr (x.apart p y (by omega) hy hbb.symm)
  have hgt : goesT (L.V p) = go := by rw [hV, hgo]; rfl
  cases go with
  | true =>
    rw [if_pos rfl] at hw'
    subst hw'
    refine ⟨fun y h1 h2 => ((st.old y (by omega) h2).below hb1).set4 (hap y h2 (by omega)) _ _ _ _, fun y h1 h2 => ?_⟩
    by_cases hy : y = p
    · subst hy
      have h3 := node_new ((st.old y (by omega) h2).below hb1) z
      unfold slR
      rw [hgt, if_pos rfl, hV, red_goes (by rw [← hV]; exact hgt), ← hz rfl]
      exact h3
    · exact ((st.new y (by omega) h2).below hb1).set4 (hap y h2 hy) _ _ _ _
  | false =>
    rw [if_neg (by simp)] at hw'
    subst hw'
    refine ⟨fun y h1 h2 => (st.old y (by omega) h2).below hb1, fun y h1 h2 => ?_⟩
    by_cases hy : y = p
    · subst hy
      obtain ⟨k', n', s', xs', e', hs', c0, c1, c2, c3, f⟩ := (st.old y (by omega) h2).below hb1
      rw [hV] at e'
      cases e'
      unfold slR
      rw [hgt, if_neg (by simp), hV, red_stays (by rw [← hV]; exact hgt)]
      exact ⟨k, n, s, xs.map redT, rfl, hs', c0, c1, c2, c3, f⟩
    · exact (st.new y (by omega) h2).below hb1

/-- All nodes are reduced: what is read below each. -/
theorem RedSt.args {w0 : World} {h B : Nat} {L : Lay} {N : Nat} {wL w : World} (x : LayAt w0 h B L N N wL) (st : RedSt L N 0 w) (hN : N ≤ maxLen) : ∀ d i, i < N → N - i ≤ d → ArgsAt w B d (slR L i) (kT (redT (L.V i)))
  | 0, i, h1, h2 => by omega
  | d + 1, i, h1, h2 => by
    obtain ⟨a, c, e, ha⟩ := slR_len x h1
    obtain ⟨hF, hkid⟩ := x.kid i h1
    rw [e]
    obtain ⟨k, n, s, xs, hV⟩ : ∃ k n s xs, L.V i = .node k n s xs := T.form _
    by_cases h0 : kT (redT (L.V i)) = []
    · rw [h0]; exact ArgsAt.nil _ _ _ _ _
    have eg : goesT (L.V i) = false := by
      cases hg : goesT (L.V i) with
      | false => rfl
      | true => rw [hV] at hg h0; rw [red_goes hg] at h0; exact absurd rfl h0
    have ek : kT (redT (L.V i)) = xs.map redT := by rw [hV] at eg ⊢; rw [red_stays eg]; rfl
    have ekV : kT (L.V i) = xs := by rw [hV]; rfl
    rw [ha h0]
    rw [ek] at h0 ⊢
    have hxl : xs ≠ [] := fun e2 => h0 (by rw [e2]; rfl)
    have hlen : (xs.map redT).length ≤ maxLen ∧ B ≤ L.g i := by
      have hpos : 0 < xs.length := by
        cases xs with
        | nil => exact absurd rfl hxl
        | cons y ys => simp
      obtain ⟨t0, ht0⟩ : ∃ t, xs[0]? = some t := ⟨_, List.getElem?_eq_getElem hpos⟩
      obtain ⟨t9, ht9⟩ : ∃ t, xs[xs.length - 1]? = some t := ⟨_, List.getElem?_eq_getElem (by omega)⟩
      obtain ⟨r1, _⟩ := hkid (xs.length - 1) t9 (by rw [ekV]; exact ht9)
      obtain ⟨q1, q2, _⟩ := hkid 0 t0 (by rw [ekV]; exact ht0)
      refine ⟨?_, by rw [← q2]; exact (x.at_ _ q1).2⟩
      rw [List.length_map]
      omega
    refine ⟨_, c, rfl, hlen.1, Or.inr ⟨L.g i, 0, rfl, hlen.2, fun j kk nn ss txs hj => ?_⟩⟩
    rw [List.getElem?_map] at hj
    obtain ⟨t, ht, he⟩ := Option.map_eq_some_iff.1 hj
    obtain ⟨q1, q2, q3, q4⟩ := hkid j t (by rw [ekV]; exact ht)
    obtain ⟨k', n', s', xs', e', hs', c0, c1, c2, c3, _⟩ := st.new (L.F i + j) (Nat.zero_le _) q1
    rw [q4, he] at e'
    cases e'
    rw [q2, q3] at c0 c1 c2 c3
    have hr := RedSt.args x st hN d (L.F i + j) q1 (by omega)
    rw [q4, he] at hr
    exact ⟨hs', _, by rw [Nat.zero_add]; exact c0, by rw [Nat.zero_add]; exact c1, by rw [Nat.zero_add]; exact c2, by rw [Nat.zero_add]; exact c3, hr⟩
end Go.Proofs.Ytidbokheeieifaa
