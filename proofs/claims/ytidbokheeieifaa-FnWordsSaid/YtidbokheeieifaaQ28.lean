/-
  Comparing two terms by two lists of nodes that are still to be compared, the next one last. No walk.
-/
import Derived.Test.YtidbokheeieifaaQ25
import Derived.Test.YtidbokheeieifaaQ5
import Derived.Test.YtidbokheeieifaaQ27
namespace Go.Proofs.Ytidbokheeieifaa
open Go.RowKit

theorem first_app : ∀ (ps cs bs ds : List T), ps.length = cs.length → firstNZ ((ps ++ bs).map cmpT) (cs ++ ds) = if firstNZ (ps.map cmpT) cs = 0 then firstNZ (bs.map cmpT) ds else firstNZ (ps.map cmpT) cs
  | [], [], bs, ds, _ => by simp [firstNZ]
  | [], _ :: _, _, _, h => by simp at h
  | _ :: _, [], _, _, h => by simp at h
  | p :: ps, c :: cs, bs, ds, h => by
    have ih := first_app ps cs bs ds (by simpa using h)
    simp only [List.cons_append, List.map_cons, firstNZ]
    by_cases e : cmpT p c = 0
    · simp only [e, if_true]; exact ih
    · simp [e]

/-- What is left of a comparison. -/
noncomputable def SC (ls rs : List T) : Int := firstNZ (ls.reverse.map cmpT) rs.reverse
theorem SC_nil : SC [] [] = 0 := rfl
theorem SC_one (t u : T) : SC [t] [u] = cmpT t u := by
  simp [SC, firstNZ]
  intro h; exact h.symm
theorem SC_snoc (ls rs : List T) (x y : T) : SC (ls ++ [x]) (rs ++ [y]) = if cmpT x y = 0 then SC ls rs else cmpT x y := by
  simp [SC, firstNZ]
theorem SC_app (ls rs xs ys : List T) (h : xs.length = ys.length) : SC (ls ++ xs.reverse) (rs ++ ys.reverse) = if firstNZ (xs.map cmpT) ys = 0 then SC ls rs else firstNZ (xs.map cmpT) ys := by
  unfold SC
  rw [List.reverse_append, List.reverse_append, List.reverse_reverse, List.reverse_reverse, first_app _ _ _ _ h]
theorem head_len {k n : Int} {s : ByteArray} {m : Nat} {k' n' : Int} {s' : ByteArray} {m' : Nat} (h : nz (headC k n s m k' n' s' m') = 0) : m = m' := by
  have := (nz_zero _).1 h (cmpI m m') (by simp [headC])
  have := (cmpI_zero _ _).1 this
  omega
theorem SC_ne {ls rs : List T} {k n : Int} {s : ByteArray} {xs : List T} {k' n' : Int} {s' : ByteArray} {ys : List T} (h : nz (headC k n s xs.length k' n' s' ys.length) ≠ 0) :
    SC (ls ++ [.node k n s xs]) (rs ++ [.node k' n' s' ys]) = nz (headC k n s xs.length k' n' s' ys.length) := by
  have e : cmpT (.node k n s xs) (.node k' n' s' ys) = nz (headC k n s xs.length k' n' s' ys.length) := by rw [cmpT_node, if_neg h]
  rw [SC_snoc, e, if_neg h]
theorem SC_eq {ls rs : List T} {k n : Int} {s : ByteArray} {xs : List T} {k' n' : Int} {s' : ByteArray} {ys : List T} (h : nz (headC k n s xs.length k' n' s' ys.length) = 0) :
    SC (ls ++ [.node k n s xs]) (rs ++ [.node k' n' s' ys]) = SC (ls ++ xs.reverse) (rs ++ ys.reverse) := by
  have e : cmpT (.node k n s xs) (.node k' n' s' ys) = firstNZ (xs.map cmpT) ys := by rw [cmpT_node, if_pos h]
  rw [SC_snoc, e, SC_app _ _ _ _ (head_len h)]

/-! ### rows of nodes -/
theorem RowV.le {w : World} {h h' : Nat} (hle : h ≤ h') : ∀ {ts : List T} {vs : List Value}, RowV w h ts vs → RowV w h' ts vs
  | [], _, e => e
  | .node _ _ _ _ :: _, _, ⟨a, m, cap, rest, e, hs, ha, hr⟩ => ⟨a, m, cap, rest, e, hs, ha.le hle, hr.le hle⟩
theorem RowV.split {w : World} {h : Nat} {us : List T} : ∀ {ts : List T} {vs : List Value}, RowV w h (ts ++ us) vs → ∃ v1 v2, vs = v1 ++ v2 ∧ RowV w h ts v1 ∧ RowV w h us v2
  | [], vs, r => ⟨[], vs, rfl, rfl, r⟩
  | .node _ _ _ _ :: ts, _, ⟨a, m, cap, rest, e, hs, ha, hr⟩ => by
    obtain ⟨v1, v2, e1, h1, h2⟩ := RowV.split (ts := ts) hr
    exact ⟨_, v2, by rw [e, e1]; rfl, ⟨a, m, cap, v1, rfl, hs, ha, h1⟩, h2⟩
/-- A node's struct holds a term. -/
def NdT (w : World) (h : Nat) (t : T) (d : Nd) : Prop := ∃ xs, t = .node d.k d.n d.s xs ∧ d.s.size ≤ maxLen ∧ ArgsAt w 0 h (.slice d.a d.m d.c) xs
def NdsT (w : World) (h : Nat) : List T → List Nd → Prop
  | [], [] => True
  | t :: ts, d :: ds => NdT w h t d ∧ NdsT w h ts ds
  | _, _ => False
theorem NdsT.row {w : World} {h : Nat} : ∀ {ts : List T} {ds : List Nd}, NdsT w h ts ds → RowV w h ts (ds.flatMap Nd.cs)
  | [], [], _ => rfl
  | [], _ :: _, k => k.elim
  | _ :: _, [], k => k.elim
  | _ :: _, d :: _, ⟨⟨xs, e, hs, ha⟩, hr⟩ => by
    subst e
    exact ⟨d.a, d.m, d.c, _, rfl, hs, ha, hr.row⟩
theorem NdsT.app {w : World} {h : Nat} {us : List T} {es : List Nd} (q : NdsT w h us es) : ∀ {ts : List T} {ds : List Nd}, NdsT w h ts ds → NdsT w h (ts ++ us) (ds ++ es)
  | [], [], _ => q
  | [], _ :: _, k => k.elim
  | _ :: _, [], k => k.elim
  | _ :: _, _ :: _, ⟨h1, hr⟩ => ⟨h1, q.app hr⟩
theorem NdsT.rev {w : World} {h : Nat} : ∀ {ts : List T} {ds : List Nd}, NdsT w h ts ds → NdsT w h ts.reverse ds.reverse
  | [], [], _ => trivial
  | [], _ :: _, k => k.elim
  | _ :: _, [], k => k.elim
  | t :: ts, d :: ds, ⟨h1, hr⟩ => by
    rw [List.reverse_cons, List.reverse_cons]
    have q : NdsT w h [t] [d] := ⟨h1, trivial⟩
    exact q.app hr.rev
theorem NdsT.len {w : World} {h : Nat} : ∀ {ts : List T} {ds : List Nd}, NdsT w h ts ds → ds.length = ts.length
  | [], [], _ => rfl
  | [], _ :: _, k => k.elim
  | _ :: _, [], k => k.elim
  | _ :: _, _ :: _, ⟨_, hr⟩ => by simp [hr.len]
theorem NdsT.of_row {w : World} {lo h b : Nat} : ∀ {ts : List T} {o : Nat}, RowAt w lo h b o ts → ∃ ds, NdsT w h ts ds ∧ NdsAt w b o ds
  | [], _, _ => ⟨[], trivial, by intro j d hj; simp at hj⟩
  | .node k n s xs :: ts, o, hc => by
    obtain ⟨hs, u', c0, c1, c2, c3, hr⟩ := hc 0 k n s xs rfl
    obtain ⟨a, cap, rfl⟩ := hr.slice
    have hc' : RowAt w lo h b (o + 4) ts := fun i k n s xs hi => by
      have := hc (i + 1) k n s xs (by simpa using hi)
      rw [show o + (i + 1) * 4 = o + 4 + i * 4 by omega] at this
      exact this
    obtain ⟨ds, hd, hx⟩ := NdsT.of_row hc'
    refine ⟨⟨k, n, s, a, xs.length, cap⟩ :: ds, ⟨⟨xs, rfl, hs, hr.low (Nat.zero_le _)⟩, hd⟩, fun j d hj => ?_⟩
    cases j with
    | zero =>
      simp at hj; subst hj
      simp only [Nat.zero_mul, Nat.add_zero] at c0 c1 c2 c3 ⊢
      exact ⟨c0, c1, c2, c3⟩
    | succ j =>
      have := hx j d (by simpa using hj)
      rw [show o + (j + 1) * 4 = o + 4 + j * 4 by omega]
      exact this
/-- The arguments of a node, as what is appended. -/
theorem nds_of {w : World} {h : Nat} {v : Value} {xs : List T} (ha : ArgsAt w 0 h v xs) : ∃ ds, NdsT w h xs ds ∧ NdsIn w.heap.size w v ds := by
  rcases ha.cases with ⟨rfl, a, cap, rfl⟩ | ⟨h', b, o, cap, rfl, rfl, hl, _, hrow⟩
  · exact ⟨[], trivial, Or.inl ⟨a, cap, rfl, rfl⟩⟩
  · obtain ⟨ds, hd, hx⟩ := NdsT.of_row hrow
    have hlen := hd.len
    cases xs with
    | nil =>
      have : ds = [] := List.eq_nil_of_length_eq_zero (by simpa using hlen)
      subst this
      exact ⟨[], trivial, Or.inl ⟨_, cap, rfl, rfl⟩⟩
    | cons t ts =>
      obtain ⟨k, n, s, ys⟩ := t
      obtain ⟨_, u', c0, _⟩ := hrow 0 k n s ys rfl
      refine ⟨ds, ?_, Or.inr ⟨b, o, cap, by rw [hlen], World.block_lt_of_cell? w _ c0, hx⟩⟩
      have up : ∀ {ts : List T} {ds : List Nd}, NdsT w h' ts ds → NdsT w (h' + 1) ts ds := by
        intro ts
        induction ts with
        | nil => intro ds k; cases ds with
          | nil => trivial
          | cons _ _ => exact k.elim
        | cons t ts ih => intro ds k; cases ds with
          | nil => exact k.elim
          | cons d ds => exact ⟨by obtain ⟨xs, e, hs, ha⟩ := k.1; exact ⟨xs, e, hs, ha.le (Nat.le_succ _)⟩, ih k.2⟩
      exact up hd

/-- A list without its last node. -/
theorem own_cut {w : World} {B n m size cap : Nat} {e : TypeId} {a : Option Addr} {xs : List Value} (h : w.ownsRow B e size (.slice a n cap) n xs) (hm : m ≤ n) : w.ownsRow B e size (.slice a m cap) m (xs.take (m * size)) := by
  rcases h.2 with ⟨h1, h2⟩ | ⟨g, cap', cur, h1, hg, hc, hn, hcm, hs, ht⟩
  · have hm0 : m = 0 := by omega
    cases h1
    subst hm0
    exact ⟨by simp, Or.inl ⟨rfl, rfl⟩⟩
  · cases h1
    refine ⟨by rw [List.length_take, h.1]; exact Nat.min_eq_left (Nat.mul_le_mul_right _ hm), Or.inr ⟨g, cap, cur, rfl, hg, hc, by omega, hcm, hs, ?_⟩⟩
    rw [← ht, List.take_take, Nat.min_eq_left (Nat.mul_le_mul_right _ hm)]
end Go.Proofs.Ytidbokheeieifaa
