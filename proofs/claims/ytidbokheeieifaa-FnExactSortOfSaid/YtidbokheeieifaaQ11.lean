/-
  The sort of a term from its root down: places that are still to be checked, the last one next. No walk.
-/
import Derived.Test.YtidbokheeieifaaQ10
import Derived.Test.YtidbokheeieifaaQ9
namespace Go.Proofs.Ytidbokheeieifaa
open Go.RowKit

theorem ba_ext {a b : ByteArray} (h : a.toList = b.toList) : a = b := (same_iff a b).1 (by simpa using h)
theorem zE_nil : zE.toList = [] := by
  unfold ByteArray.toList ByteArray.toList.loop
  rfl

/-- Every place has the sort that it must have. -/
def GoodD (ds : List OpD) (vs : List (ByteArray × ByteArray)) (l : List (T × ByteArray)) : Prop := ∀ p ∈ l, p.2 ≠ zE ∧ sortT ds vs p.1 = p.2
/-- The sort of a node if its arguments are right. -/
def nodeT (ds : List OpD) (vs : List (ByteArray × ByteArray)) : T → ByteArray
  | .node k _ s xs => nodeSort ds (envOf vs) k s xs.length
theorem sort_two (ds : List OpD) (vs : List (ByteArray × ByteArray)) (t : T) : sortT ds vs t = nodeT ds vs t ∨ sortT ds vs t = zE := by
  obtain ⟨k, n, s, xs⟩ := t
  rw [sortT_node]
  show headT ds vs k s (xs.map (sortT ds vs)) = nodeSort ds (envOf vs) k s xs.length ∨ _
  unfold headT nodeSort
  by_cases h3 : k = 3
  · left; rw [if_pos h3, if_pos h3]
  by_cases h1 : k = 1
  · left; rw [if_neg h3, if_neg h3, if_pos h1, if_pos h1]
  by_cases h2 : k = 2
  · rw [if_neg h3, if_neg h3, if_neg h1, if_neg h1, if_pos h2, if_pos h2]
    unfold headD
    cases hf : findD ds s with
    | none => right; rfl
    | some d =>
      simp only
      by_cases hc : (xs.map (sortT ds vs)).map ByteArray.toList = d.args.map ByteArray.toList ∧ (∀ a ∈ d.args, ¬ a.toList = [])
      · left
        have hl := congrArg List.length hc.1
        simp only [List.length_map] at hl
        rw [if_pos hc, if_pos hl]
      · right; rw [if_neg hc]
  · right; rw [if_neg h3, if_neg h1, if_neg h2]
/-- A place that is right by itself: the application's arguments decide. -/
theorem good_app {ds : List OpD} {vs : List (ByteArray × ByteArray)} {n : Int} {s d : ByteArray} {xs : List T} (hd : d ≠ zE) (hn : nodeT ds vs (.node 2 n s xs) = d) : sortT ds vs (.node 2 n s xs) = d ↔ GoodD ds vs (places (findD ds s) xs) := by
  have hn2 : headD ds s xs.length = d := by
    have : nodeSort ds (envOf vs) 2 s xs.length = d := hn
    unfold nodeSort at this
    simpa using this
  unfold headD at hn2
  cases hf : findD ds s with
  | none => rw [hf] at hn2; exact absurd hn2.symm hd
  | some o =>
    rw [hf] at hn2
    simp only at hn2
    by_cases hl : xs.length = o.args.length
    · rw [if_pos hl] at hn2
      rw [sortT_node]
      have hpl : ∀ (i : Nat) (x : T), xs[i]? = some x → ∃ a, o.args[i]? = some a ∧ demT (some o) i = a := fun i x hx => by
        have := (List.getElem?_eq_some_iff.1 hx).1
        obtain ⟨a, ha⟩ : ∃ a, o.args[i]? = some a := ⟨_, List.getElem?_eq_getElem (by omega)⟩
        refine ⟨a, ha, ?_⟩
        unfold demT
        simp [ha]
      constructor
      · intro he p hp
        unfold places at hp
        obtain ⟨⟨x, i⟩, hxi, rfl⟩ := List.mem_map.1 hp
        have hx : xs[i]? = some x := by simpa using List.mem_zipIdx_iff_getElem?.1 hxi
        obtain ⟨a, ha, e⟩ := hpl i x hx
        simp only
        rw [e]
        by_cases hb : (¬ (sortT ds vs x).toList = a.toList) ∨ a.toList = []
        · rw [head_bad (k := i) (z := sortT ds vs x) vs _ hf (by rw [List.getElem?_map, hx]; rfl) ha hb] at he
          exact absurd he.symm hd
        · have h1 : (sortT ds vs x).toList = a.toList := Classical.byContradiction fun h => hb (Or.inl h)
          have h2 : a.toList ≠ [] := fun h => hb (Or.inr h)
          exact ⟨fun e0 => h2 (by rw [e0]; exact zE_nil), ba_ext h1⟩
      · intro hg
        rw [head_good vs _ hf (by rw [List.length_map]; exact hl.symm) (fun k z a hz ha => ?_)]
        · exact hn2
        · rw [List.getElem?_map] at hz
          obtain ⟨x, hx, rfl⟩ := Option.map_eq_some_iff.1 hz
          obtain ⟨a', ha', e⟩ := hpl k x hx
          rw [ha] at ha'
          cases ha'
          have hm : (x, demT (some o) k) ∈ places (some o) xs := by
            unfold places
            exact List.mem_map.2 ⟨(x, k), List.mem_zipIdx_iff_getElem?.2 (by simpa using hx), rfl⟩
          obtain ⟨g1, g2⟩ := hg _ hm
          simp only at g1 g2
          rw [e] at g1 g2
          exact ⟨by rw [g2], fun e0 => g1 (ba_ext (by rw [e0]; exact zE_nil.symm))⟩
    · rw [if_neg hl] at hn2
      exact absurd hn2.symm hd
theorem good_leaf {ds : List OpD} {vs : List (ByteArray × ByteArray)} {k n : Int} {s d : ByteArray} {xs : List T} (hk : k ≠ 2) (hd : d ≠ zE) (hn : nodeT ds vs (.node k n s xs) = d) : sortT ds vs (.node k n s xs) = d := by
  have hn2 : nodeSort ds (envOf vs) k s xs.length = d := hn
  unfold nodeSort at hn2
  rw [sortT_node]
  by_cases h3 : k = 3
  · subst h3; rw [head_word]; simpa using hn2
  by_cases h1 : k = 1
  · subst h1; rw [head_var]; simpa using hn2
  · rw [if_neg h3, if_neg h1, if_neg hk] at hn2
    exact absurd hn2.symm hd
theorem good_not {ds : List OpD} {vs : List (ByteArray × ByteArray)} {t : T} {d : ByteArray} (hn : nodeT ds vs t ≠ d) (hd : d ≠ zE) : sortT ds vs t ≠ d := by
  intro e
  rcases sort_two ds vs t with h | h
  · exact hn (h.symm.trans e)
  · exact hd (e.symm.trans h)

/-- What is known of the root while places are pending. -/
def Pend (ds : List OpD) (vs : List (ByteArray × ByteArray)) (root : T) (s0 : ByteArray) (l : List (T × ByteArray)) : Prop := (GoodD ds vs l → sortT ds vs root = s0) ∧ (¬ GoodD ds vs l → sortT ds vs root = zE)
theorem Pend.start (ds : List OpD) (vs : List (ByteArray × ByteArray)) (t : T) : Pend ds vs t (nodeT ds vs t) [(t, nodeT ds vs t)] := by
  refine ⟨fun h => (h _ (List.mem_singleton.2 rfl)).2, fun h => ?_⟩
  rcases sort_two ds vs t with e | e
  · by_cases hz : nodeT ds vs t = zE
    · rw [e, hz]
    · exact absurd (fun p hp => by rw [List.mem_singleton.1 hp]; exact ⟨hz, e⟩) h
  · exact e
theorem Pend.done {ds : List OpD} {vs : List (ByteArray × ByteArray)} {root : T} {s0 : ByteArray} (h : Pend ds vs root s0 []) : sortT ds vs root = s0 := h.1 (fun p hp => by cases hp)
theorem Pend.bad {ds : List OpD} {vs : List (ByteArray × ByteArray)} {root t : T} {s0 d : ByteArray} {l : List (T × ByteArray)} (h : Pend ds vs root s0 (l ++ [(t, d)])) (hb : d = zE ∨ nodeT ds vs t ≠ d) : sortT ds vs root = zE := by
  refine h.2 (fun hg => ?_)
  obtain ⟨g1, g2⟩ := hg _ (List.mem_append.2 (Or.inr (List.mem_singleton.2 rfl)))
  rcases hb with e | e
  · exact g1 e
  · exact good_not e g1 g2
theorem good_iff {ds : List OpD} {vs : List (ByteArray × ByteArray)} {l : List (T × ByteArray)} {t : T} {d : ByteArray} : GoodD ds vs (l ++ [(t, d)]) ↔ GoodD ds vs l ∧ d ≠ zE ∧ sortT ds vs t = d :=
  ⟨fun h => ⟨fun p hp => h p (List.mem_append.2 (Or.inl hp)), h _ (List.mem_append.2 (Or.inr (List.mem_singleton.2 rfl)))⟩, fun h p hp => by
    rcases List.mem_append.1 hp with hp | hp
    · exact h.1 p hp
    · rw [List.mem_singleton.1 hp]; exact h.2⟩
theorem good_app2 {ds : List OpD} {vs : List (ByteArray × ByteArray)} {l l2 : List (T × ByteArray)} : GoodD ds vs (l ++ l2) ↔ GoodD ds vs l ∧ GoodD ds vs l2 :=
  ⟨fun h => ⟨fun p hp => h p (List.mem_append.2 (Or.inl hp)), fun p hp => h p (List.mem_append.2 (Or.inr hp))⟩, fun h p hp => by
    rcases List.mem_append.1 hp with hp | hp
    · exact h.1 p hp
    · exact h.2 p hp⟩
theorem Pend.leaf {ds : List OpD} {vs : List (ByteArray × ByteArray)} {root : T} {s0 d s : ByteArray} {k n : Int} {xs : List T} {l : List (T × ByteArray)} (h : Pend ds vs root s0 (l ++ [(.node k n s xs, d)])) (hk : k ≠ 2) (hd : d ≠ zE) (hn : nodeT ds vs (.node k n s xs) = d) : Pend ds vs root s0 l :=
  have e := good_leaf hk hd hn
  ⟨fun hg => h.1 (good_iff.2 ⟨hg, hd, e⟩), fun hg => h.2 (fun h2 => hg (good_iff.1 h2).1)⟩
theorem Pend.app {ds : List OpD} {vs : List (ByteArray × ByteArray)} {root : T} {s0 d s : ByteArray} {n : Int} {xs : List T} {l : List (T × ByteArray)} (h : Pend ds vs root s0 (l ++ [(.node 2 n s xs, d)])) (hd : d ≠ zE) (hn : nodeT ds vs (.node 2 n s xs) = d) : Pend ds vs root s0 (l ++ places (findD ds s) xs) :=
  have e := good_app hd hn
  ⟨fun hg => h.1 (good_iff.2 ⟨(good_app2.1 hg).1, hd, e.2 (good_app2.1 hg).2⟩), fun hg => h.2 (fun h2 => hg (good_app2.2 ⟨(good_iff.1 h2).1, e.1 (good_iff.1 h2).2.2⟩))⟩

/-- How many nodes are pending. -/
def cD (l : List (T × ByteArray)) : Nat := cS (l.map Prod.fst)
theorem places_fst (o : Option OpD) (xs : List T) : (places o xs).map Prod.fst = xs := by
  unfold places
  rw [List.map_map]
  have : (Prod.fst ∘ fun (p : T × Nat) => (p.1, demT o p.2)) = Prod.fst := rfl
  rw [this]
  simp
theorem cD_app (l l2 : List (T × ByteArray)) : cD (l ++ l2) = cD l + cD l2 := by
  unfold cD
  rw [List.map_append]
  generalize l.map Prod.fst = a
  generalize l2.map Prod.fst = b
  induction a with
  | nil => simp [cS]
  | cons x a ih => rw [List.cons_append]; simp only [cS, List.map_cons, List.sum_cons] at ih ⊢; omega
theorem cD_one (k n : Int) (s d : ByteArray) (xs : List T) : cD [(.node k n s xs, d)] = 1 + cS xs := by
  unfold cD; simp [cS, cT_node]
theorem cD_places (o : Option OpD) (xs : List T) : cD (places o xs) = cS xs := by unfold cD; rw [places_fst]
theorem cD_len (l : List (T × ByteArray)) : l.length ≤ cD l := by
  have h : ∀ ts : List T, ts.length ≤ cS ts := fun ts => by
    induction ts with
    | nil => exact Nat.zero_le _
    | cons t ts ih =>
      obtain ⟨k, n, s, xs⟩ := t
      have hc : cS (T.node k n s xs :: ts) = cT (T.node k n s xs) + cS ts := by simp [cS]
      rw [hc, cT_node]
      simp only [List.length_cons]
      omega
  have := h (l.map Prod.fst)
  rwa [List.length_map] at this
theorem DemCells.len {w0 : World} : ∀ {l : List (T × ByteArray)} {vs : List Value}, DemCells w0 l vs → vs.length = l.length * 5
  | [], _, e => by rw [show _ = [] from e]; rfl
  | (.node _ _ _ _, _) :: _, _, ⟨_, rest, _, e, _, _, hr⟩ => by
    have := hr.len
    rw [e]; simp only [List.length_cons]; omega
theorem DemCells.app {w0 : World} : ∀ {l l2 : List (T × ByteArray)} {vs v2 : List Value}, DemCells w0 l vs → DemCells w0 l2 v2 → DemCells w0 (l ++ l2) (vs ++ v2)
  | [], _, _, _, e, h2 => by rw [show _ = [] from e]; exact h2
  | (.node _ _ _ _, _) :: _, _, _, _, ⟨u', rest, h', e, hs', ha', hr⟩, h2 => ⟨u', _, h', by rw [e]; rfl, hs', ha', hr.app h2⟩
theorem DemCells.pop {w0 : World} {k n : Int} {s d : ByteArray} {xs : List T} : ∀ {l : List (T × ByteArray)} {vs : List Value}, DemCells w0 (l ++ [(.node k n s xs, d)]) vs → ∃ v1 u h, vs = v1 ++ [.int .i64 k, .int .i64 n, .string s, u, .string d] ∧ s.size ≤ maxLen ∧ ArgsAt w0 0 h u xs ∧ DemCells w0 l v1
  | [], _, ⟨u', rest, h', e, hs', ha', hr⟩ => by
    have : rest = [] := hr
    subst this
    exact ⟨[], u', h', e, hs', ha', rfl⟩
  | (.node _ _ _ _, _) :: _, _, ⟨u', rest, h', e, hs', ha', hr⟩ => by
    obtain ⟨v1, u, h, e1, h1, h2, h3⟩ := hr.pop
    exact ⟨_, u, h, by rw [e, e1]; rfl, h1, h2, ⟨u', v1, h', rfl, hs', ha', h3⟩⟩
end Go.Proofs.Ytidbokheeieifaa
