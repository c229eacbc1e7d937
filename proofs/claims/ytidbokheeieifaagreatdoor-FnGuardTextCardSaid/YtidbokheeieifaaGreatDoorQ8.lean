/-
  Levels of terms: impl.argsOf returns the row of all arguments of a row of terms, in memory of the call's own.
  Arguments, and rows of terms, whose rows lie in blocks of which a property holds. No walk.
-/
import Derived.Test.YtidbokheeieifaaGreatDoorQ5
import Derived.OwnWalk
import Derived.Laws.AppendOwn
namespace Go.Proofs.YtidbokheeieifaaGreatDoor
open Go.RowKit

/-- A term's arguments. -/
def kT : T → List T
  | .node _ _ _ xs => xs
/-- The level below a level. -/
def kids (ts : List T) : List T := ts.flatMap kT

theorem kids_snoc (l : List T) (t : T) : kids (l ++ [t]) = kids l ++ kT t := by simp [kids]
theorem kids_nil : kids [] = [] := rfl
theorem cS_cons (t : T) (l : List T) : cS (t :: l) = cT t + cS l := by simp [cS]
theorem cS_app (l m : List T) : cS (l ++ m) = cS l + cS m := by simp [cS]
theorem cT_kT (t : T) : cT t = 1 + cS (kT t) := by
  obtain ⟨k, n, s, xs⟩ := t
  exact cT_node k n s xs
theorem cS_kids (ts : List T) : cS ts = ts.length + cS (kids ts) := by
  induction ts with
  | nil => simp [cS, kids]
  | cons t l ih =>
    have e : kids (t :: l) = kT t ++ kids l := by simp [kids]
    rw [e, cS_cons, cS_app, cT_kT, ih, List.length_cons]; omega
theorem len_le_cS (ts : List T) : ts.length ≤ cS ts := by rw [cS_kids ts]; omega
theorem kids_take (ts : List T) (k : Nat) : (kids (ts.take k)).length ≤ (kids ts).length := by
  have h : kids ts = kids (ts.take k) ++ kids (ts.drop k) := by
    unfold kids
    rw [← List.flatMap_append, List.take_append_drop]
  rw [h, List.length_append]; omega
theorem dS_cons (t : T) (l : List T) : dS (t :: l) = max (dT t) (dS l) := by
  unfold dS
  rw [List.map_cons, List.foldl_cons]
  generalize l.map dT = m
  have : ∀ (m : List Nat) (a b : Nat), m.foldl max (max a b) = max b (m.foldl max a) := by
    intro m
    induction m with
    | nil => intro a b; simp [Nat.max_comm]
    | cons x m ih => intro a b; rw [List.foldl_cons, List.foldl_cons, ← ih, Nat.max_assoc, Nat.max_comm b x, Nat.max_assoc]
  exact this m 0 (dT t)
theorem dS_nil : dS [] = 0 := rfl
theorem dT_kT (t : T) : dT t = dS (kT t) + 1 := by
  obtain ⟨k, n, s, xs⟩ := t
  rw [dT]; rfl
theorem dS_app (l m : List T) : dS (l ++ m) = max (dS l) (dS m) := by
  induction l with
  | nil => simp [dS_nil]
  | cons t l ih => rw [List.cons_append, dS_cons, dS_cons, ih, Nat.max_assoc]
theorem dS_kids (ts : List T) : ts ≠ [] → dS ts = 1 + dS (kids ts) := by
  induction ts with
  | nil => simp
  | cons t l ih =>
    intro _
    have e : kids (t :: l) = kT t ++ kids l := by simp [kids]
    rw [e, dS_cons, dS_app, dT_kT]
    cases l with
    | nil => simp [kids, dS_nil]; omega
    | cons t' l' => rw [ih (by simp)]; omega

/-- The cells of a row of terms. -/
def RowV (w : World) (h : Nat) : List T → List Value → Prop
  | [], vs => vs = []
  | .node k n s xs :: ts, vs => ∃ a m cap rest, vs = .int .i64 k :: .int .i64 n :: .string s :: .slice a m cap :: rest ∧ s.size ≤ maxLen ∧ ArgsAt w 0 h (.slice a m cap) xs ∧ RowV w h ts rest

theorem RowV.keep {w w' : World} {h : Nat} (hk : ∀ (ad : Addr) v, w.cell? ad = some v → w'.cell? ad = some v) : ∀ {ts : List T} {vs : List Value}, RowV w h ts vs → RowV w' h ts vs
  | [], _, e => e
  | .node _ _ _ _ :: _, _, ⟨a, m, cap, rest, e, hs, ha, hr⟩ => ⟨a, m, cap, rest, e, hs, ha.keep (fun ad v _ hv => hk ad v hv), hr.keep hk⟩
theorem RowV.below {w w' : World} {h : Nat} {ts : List T} {vs : List Value} (r : RowV w h ts vs) (hb : Below w.heap.size w w') : RowV w' h ts vs :=
  r.keep fun _ _ hv => cell_on hb hv
theorem RowV.app {w : World} {h : Nat} {us : List T} {ws : List Value} (q : RowV w h us ws) : ∀ {ts : List T} {vs : List Value}, RowV w h ts vs → RowV w h (ts ++ us) (vs ++ ws)
  | [], _, e => by cases e; exact q
  | .node _ _ _ _ :: _, _, ⟨a, m, cap, rest, e, hs, ha, hr⟩ => ⟨a, m, cap, rest ++ ws, by rw [e]; rfl, hs, ha, q.app hr⟩
theorem RowV.len {w : World} {h : Nat} : ∀ {ts : List T} {vs : List Value}, RowV w h ts vs → vs.length = ts.length * 4
  | [], _, e => by cases e; rfl
  | .node _ _ _ _ :: _, _, ⟨a, m, cap, rest, e, _, _, hr⟩ => by rw [e]; simp [hr.len]; omega
theorem RowV.one {w : World} {h : Nat} : ∀ {ts : List T} {vs : List Value}, RowV w h ts vs → ∀ u ∈ vs, u.oneCell' = true
  | [], _, e => by cases e; simp
  | .node _ _ _ _ :: _, _, ⟨a, m, cap, rest, e, _, _, hr⟩ => by
    intro u hu
    rw [e] at hu
    simp only [List.mem_cons] at hu
    rcases hu with rfl | rfl | rfl | rfl | hu
    · rfl
    · rfl
    · rfl
    · rfl
    · exact hr.one u hu
theorem RowV.at {w : World} {h : Nat} : ∀ {ts : List T} {vs : List Value}, RowV w h ts vs → ∀ (i : Nat) (k n : Int) (s : ByteArray) (xs : List T), ts[i]? = some (T.node k n s xs) →
    s.size ≤ maxLen ∧ ∃ a m cap, vs[i * 4]? = some (.int .i64 k) ∧ vs[i * 4 + 1]? = some (.int .i64 n) ∧ vs[i * 4 + 2]? = some (.string s) ∧ vs[i * 4 + 3]? = some (.slice a m cap) ∧ ArgsAt w 0 h (.slice a m cap) xs
  | [], _, _ => by simp
  | .node _ _ _ _ :: _, _, ⟨a, m, cap, rest, e, hs, ha, hr⟩ => by
    intro i k n s xs hi
    cases i with
    | zero =>
      simp at hi
      obtain ⟨rfl, rfl, rfl, rfl⟩ := hi
      subst e
      exact ⟨hs, a, m, cap, rfl, rfl, rfl, rfl, ha⟩
    | succ i =>
      simp at hi
      obtain ⟨hs', a', m', cap', x0, x1, x2, x3, ha'⟩ := hr.at i k n s xs hi
      subst e
      refine ⟨hs', a', m', cap', ?_, ?_, ?_, ?_, ha'⟩
      · rw [show (i + 1) * 4 = i * 4 + 4 by omega]; simpa using x0
      · rw [show (i + 1) * 4 + 1 = i * 4 + 1 + 4 by omega]; simpa using x1
      · rw [show (i + 1) * 4 + 2 = i * 4 + 2 + 4 by omega]; simpa using x2
      · rw [show (i + 1) * 4 + 3 = i * 4 + 3 + 4 by omega]; simpa using x3
theorem RowV.of_row {w : World} {lo h b : Nat} : ∀ {ts : List T} {o : Nat}, RowAt w lo h b o ts → ∃ vs, RowV w h ts vs ∧ ∀ (j : Nat) (u : Value), vs[j]? = some u → w.cell? (Addr.add ⟨b, o, none⟩ j) = some u
  | [], _, _ => ⟨[], rfl, by simp⟩
  | .node k n s xs :: ts, o, hc => by
    obtain ⟨hs, u', c0, c1, c2, c3, hr⟩ := hc 0 k n s xs rfl
    obtain ⟨a, cap, rfl⟩ := hr.slice
    have hc' : RowAt w lo h b (o + 4) ts := fun i k n s xs hi => by
      have := hc (i + 1) k n s xs (by simpa using hi)
      rw [show o + (i + 1) * 4 = o + 4 + i * 4 by omega] at this
      exact this
    obtain ⟨vs, hv, hx⟩ := RowV.of_row hc'
    refine ⟨_, ⟨a, _, cap, vs, rfl, hs, hr.low (Nat.zero_le _), hv⟩, fun j u hj => ?_⟩
    simp only [Nat.zero_mul, Nat.add_zero] at c0 c1 c2 c3
    match j, hj with
    | 0, hj => simp at hj; subst hj; simpa [Addr.add] using c0
    | 1, hj => simp at hj; subst hj; simpa [Addr.add] using c1
    | 2, hj => simp at hj; subst hj; simpa [Addr.add] using c2
    | 3, hj => simp at hj; subst hj; simpa [Addr.add] using c3
    | j + 4, hj =>
      simp at hj
      have := hx j u hj
      rw [show Addr.add ⟨b, o, none⟩ (j + 4) = Addr.add ⟨b, o + 4, none⟩ j from ?_]
      · exact this
      · unfold Addr.add
        by_cases hj0 : j = 0
        · subst hj0; simp
        · simp [hj0]; omega

/-- A row of the call's own as the arguments of a term. -/
theorem RowV.args {w : World} {B h n : Nat} {v : Value} {ts : List T} {vs : List Value} (r : RowV w h ts vs) (ho : w.ownsRow B 26 4 v n vs) (hn : n = ts.length) (hl : n ≤ maxLen) : ArgsAt w 0 (h + 1) v ts := by
  rcases ho.2 with hnil | ⟨g, cap, cur, rfl, hg, rest⟩
  · obtain ⟨rfl, h0⟩ := hnil
    have : ts = [] := List.eq_nil_of_length_eq_zero (by omega)
    subst this
    exact ArgsAt.nil _ _ _ _ _
  · subst hn
    refine ⟨_, cap, rfl, hl, Or.inr ⟨g, 0, rfl, Nat.zero_le _, fun i k n s xs hi => ?_⟩⟩
    obtain ⟨hs, a, m, c, x0, x1, x2, x3, ha⟩ := r.at i k n s xs hi
    have hli : i < ts.length := (List.getElem?_eq_some_iff.1 hi).1
    refine ⟨hs, _, ?_, ?_, ?_, ?_, ha⟩
    · rw [Nat.zero_add, ho.cellAt (i * 4) (by omega), x0]
    · rw [Nat.zero_add, ho.cellAt (i * 4 + 1) (by omega), x1]
    · rw [Nat.zero_add, ho.cellAt (i * 4 + 2) (by omega), x2]
    · rw [Nat.zero_add, ho.cellAt (i * 4 + 3) (by omega), x3]
end Go.Proofs.YtidbokheeieifaaGreatDoor
namespace Go.Proofs.YtidbokheeieifaaGreatDoor
open Go.RowKit

/-- The reading of arguments whose rows lie in blocks of which P holds. -/
def ArgsP (P : Nat → Prop) (w : World) : Nat → Value → List T → Prop
  | 0, u, ts => ts = [] ∧ ∃ a cap, u = .slice a 0 cap
  | h + 1, u, ts => ∃ a cap, u = .slice a ts.length cap ∧ ts.length ≤ maxLen ∧ (ts = [] ∨ ∃ b o, a = some ⟨b, o, none⟩ ∧ P b ∧ ∀ i k n s xs, ts[i]? = some (T.node k n s xs) → s.size ≤ maxLen ∧ ∃ u', w.cell? ⟨b, o + i * 4, none⟩ = some (.int .i64 k) ∧
      w.cell? ⟨b, o + i * 4 + 1, none⟩ = some (.int .i64 n) ∧ w.cell? ⟨b, o + i * 4 + 2, none⟩ = some (.string s) ∧ w.cell? ⟨b, o + i * 4 + 3, none⟩ = some u' ∧ ArgsP P w h u' xs)
theorem ArgsP.keep {P : Nat → Prop} {w w' : World} (hk : ∀ (ad : Addr) v, P ad.block → w.cell? ad = some v → w'.cell? ad = some v) : ∀ {h : Nat} {u : Value} {ts : List T}, ArgsP P w h u ts → ArgsP P w' h u ts
  | 0, _, _, k => k
  | h + 1, _, _, ⟨a, cap, e, hl, hc⟩ => by
    refine ⟨a, cap, e, hl, ?_⟩
    rcases hc with hc | ⟨b, o, rfl, hp, hc⟩
    · exact Or.inl hc
    · refine Or.inr ⟨b, o, rfl, hp, fun i k n s xs hi => ?_⟩
      obtain ⟨hs, u', c0, c1, c2, c3, hr⟩ := hc i k n s xs hi
      exact ⟨hs, u', hk _ _ hp c0, hk _ _ hp c1, hk _ _ hp c2, hk _ _ hp c3, hr.keep hk⟩
theorem ArgsP.args {P : Nat → Prop} {w : World} {lo : Nat} (hp : ∀ j, P j → lo ≤ j) : ∀ {h : Nat} {u : Value} {ts : List T}, ArgsP P w h u ts → ArgsAt w lo h u ts
  | 0, _, _, k => k
  | h + 1, _, _, ⟨a, cap, e, hl, hc⟩ => by
    refine ⟨a, cap, e, hl, ?_⟩
    rcases hc with hc | ⟨b, o, rfl, hb, hc⟩
    · exact Or.inl hc
    · refine Or.inr ⟨b, o, rfl, hp _ hb, fun i k n s xs hi => ?_⟩
      obtain ⟨hs, u', c0, c1, c2, c3, hr⟩ := hc i k n s xs hi
      exact ⟨hs, u', c0, c1, c2, c3, hr.args hp⟩
theorem ArgsP.of {P : Nat → Prop} {w : World} {lo : Nat} (hp : ∀ j, lo ≤ j → j < w.heap.size → P j) : ∀ {h : Nat} {u : Value} {ts : List T}, ArgsAt w lo h u ts → ArgsP P w h u ts
  | 0, _, _, k => k
  | h + 1, _, ts, ⟨a, cap, e, hl, hc⟩ => by
    refine ⟨a, cap, e, hl, ?_⟩
    rcases hc with hc | ⟨b, o, rfl, hb, hc⟩
    · exact Or.inl hc
    · cases ts with
      | nil => exact Or.inl rfl
      | cons t r =>
        obtain ⟨k, n, s, xs⟩ := t
        obtain ⟨_, _, c0, _⟩ := hc 0 k n s xs rfl
        refine Or.inr ⟨b, o, rfl, hp b hb (World.block_lt_of_cell? w _ c0), fun i k n s xs hi => ?_⟩
        obtain ⟨hs, u', c0, c1, c2, c3, hr⟩ := hc i k n s xs hi
        exact ⟨hs, u', c0, c1, c2, c3, ArgsP.of hp hr⟩
theorem ArgsP.grown {P : Nat → Prop} {w w' : World} {B h : Nat} {u : Value} {ts : List T} (k : ArgsP P w h u ts) (hg : w.grownBy w' (some B)) (hp : ∀ j, P j → j ≠ B) : ArgsP P w' h u ts :=
  k.keep fun ad v hP hv => hg.cell hv (fun e => by cases e; exact hp _ hP rfl)
theorem ArgsP.empty (P : Nat → Prop) (w : World) (h : Nat) : ArgsP P w h (.slice Option.none 0 0) [] := by
  cases h with
  | zero => exact ⟨rfl, _, _, rfl⟩
  | succ h => exact ⟨_, _, rfl, Nat.zero_le _, Or.inl rfl⟩
theorem ArgsP.more {P : Nat → Prop} {w : World} : ∀ {h : Nat} {u : Value} {ts : List T}, ArgsP P w h u ts → ArgsP P w (h + 1) u ts
  | 0, _, _, ⟨e, a, cap, e2⟩ => by subst e; exact ⟨a, cap, e2, Nat.zero_le _, Or.inl rfl⟩
  | h + 1, _, _, ⟨a, cap, e, hl, hc⟩ => by
    refine ⟨a, cap, e, hl, ?_⟩
    rcases hc with hc | ⟨b, o, rfl, hb, hc⟩
    · exact Or.inl hc
    · refine Or.inr ⟨b, o, rfl, hb, fun i k n s xs hi => ?_⟩
      obtain ⟨hs, u', c0, c1, c2, c3, hr⟩ := hc i k n s xs hi
      exact ⟨hs, u', c0, c1, c2, c3, hr.more⟩
theorem ArgsP.one {P : Nat → Prop} {w : World} {g h : Nat} {k n : Int} {s : ByteArray} {u : Value} {ts : List T} (hg : w.heap[g]? = some (.cells #[.int .i64 k, .int .i64 n, .string s, u] 26 (0, 0))) (hp : P g) (hs : s.size ≤ maxLen) (ha : ArgsP P w h u ts) :
    ArgsP P w (h + 1) (.slice (some ⟨g, 0, none⟩) 1 1) [.node k n s ts] := by
  refine ⟨_, _, rfl, by unfold maxLen; simp, Or.inr ⟨g, 0, rfl, hp, fun i kk nn ss xx hi => ?_⟩⟩
  match i, hi with
  | 0, hi =>
    simp at hi
    obtain ⟨rfl, rfl, rfl, rfl⟩ := hi
    exact ⟨hs, u, by rw [cell_of_row w g _ _ _ _ hg]; rfl, by rw [cell_of_row w g _ _ _ _ hg]; rfl, by rw [cell_of_row w g _ _ _ _ hg]; rfl, by rw [cell_of_row w g _ _ _ _ hg]; rfl, ha⟩
  | i + 1, hi => simp at hi

/-- The cells of a row of terms whose own rows lie in blocks of which P holds. -/
def RowP (P : Nat → Prop) (w : World) (h : Nat) : List T → List Value → Prop
  | [], vs => vs = []
  | .node k n s xs :: ts, vs => ∃ a m cap rest, vs = .int .i64 k :: .int .i64 n :: .string s :: .slice a m cap :: rest ∧ s.size ≤ maxLen ∧ ArgsP P w h (.slice a m cap) xs ∧ RowP P w h ts rest
theorem RowP.keep {P : Nat → Prop} {w w' : World} {h : Nat} (hk : ∀ (ad : Addr) v, P ad.block → w.cell? ad = some v → w'.cell? ad = some v) : ∀ {ts : List T} {vs : List Value}, RowP P w h ts vs → RowP P w' h ts vs
  | [], _, e => e
  | .node _ _ _ _ :: _, _, ⟨a, m, cap, rest, e, hs, ha, hr⟩ => ⟨a, m, cap, rest, e, hs, ha.keep hk, hr.keep hk⟩
theorem ArgsP.imp {P Q : Nat → Prop} {w : World} (hp : ∀ j, P j → Q j) : ∀ {h : Nat} {u : Value} {ts : List T}, ArgsP P w h u ts → ArgsP Q w h u ts
  | 0, _, _, k => k
  | h + 1, _, _, ⟨a, cap, e, hl, hc⟩ => by
    refine ⟨a, cap, e, hl, ?_⟩
    rcases hc with hc | ⟨b, o, rfl, hb, hc⟩
    · exact Or.inl hc
    · refine Or.inr ⟨b, o, rfl, hp _ hb, fun i k n s xs hi => ?_⟩
      obtain ⟨hs, u', c0, c1, c2, c3, hr⟩ := hc i k n s xs hi
      exact ⟨hs, u', c0, c1, c2, c3, hr.imp hp⟩
theorem RowP.imp {P Q : Nat → Prop} {w : World} {h : Nat} (hp : ∀ j, P j → Q j) : ∀ {ts : List T} {vs : List Value}, RowP P w h ts vs → RowP Q w h ts vs
  | [], _, e => e
  | .node _ _ _ _ :: _, _, ⟨a, m, cap, rest, e, hs, ha, hr⟩ => ⟨a, m, cap, rest, e, hs, ha.imp hp, hr.imp hp⟩
theorem RowP.snoc {P : Nat → Prop} {w : World} {h : Nat} {k n : Int} {s : ByteArray} {a : Option Addr} {m cap : Nat} {xs : List T} (hs : s.size ≤ maxLen) (ha : ArgsP P w h (.slice a m cap) xs) : ∀ {ts : List T} {vs : List Value}, RowP P w h ts vs →
    RowP P w h (ts ++ [.node k n s xs]) (vs ++ [.int .i64 k, .int .i64 n, .string s, .slice a m cap])
  | [], _, e => by cases e; exact ⟨a, m, cap, [], rfl, hs, ha, rfl⟩
  | .node _ _ _ _ :: _, _, ⟨a', m', cap', rest, e, hs', ha', hr⟩ => ⟨a', m', cap', _, by rw [e]; rfl, hs', ha', hr.snoc hs ha⟩
theorem RowP.rowV {P : Nat → Prop} {w : World} {h : Nat} : ∀ {ts : List T} {vs : List Value}, RowP P w h ts vs → RowV w h ts vs
  | [], _, e => e
  | .node _ _ _ _ :: _, _, ⟨a, m, cap, rest, e, hs, ha, hr⟩ => ⟨a, m, cap, rest, e, hs, ha.args (fun _ _ => Nat.zero_le _), hr.rowV⟩
theorem RowP.at {P : Nat → Prop} {w : World} {h : Nat} : ∀ {ts : List T} {vs : List Value}, RowP P w h ts vs → ∀ (i : Nat) (k n : Int) (s : ByteArray) (xs : List T), ts[i]? = some (T.node k n s xs) →
    ∃ a m cap, vs[i * 4 + 3]? = some (.slice a m cap) ∧ ArgsP P w h (.slice a m cap) xs
  | [], _, _ => by simp
  | .node _ _ _ _ :: _, _, ⟨a, m, cap, rest, e, hs, ha, hr⟩ => by
    intro i k n s xs hi
    cases i with
    | zero =>
      simp at hi
      obtain ⟨rfl, rfl, rfl, rfl⟩ := hi
      subst e
      exact ⟨a, m, cap, rfl, ha⟩
    | succ i =>
      simp at hi
      obtain ⟨a', m', cap', x3, ha'⟩ := hr.at i k n s xs hi
      subst e
      exact ⟨a', m', cap', by rw [show (i + 1) * 4 + 3 = i * 4 + 3 + 4 by omega]; simpa using x3, ha'⟩
theorem RowP.args {P : Nat → Prop} {w : World} {B lo h n : Nat} {v : Value} {ts : List T} {vs : List Value} (r : RowP P w h ts vs) (ho : w.ownsRow B 26 4 v n vs) (hn : n = ts.length) (hl : n ≤ maxLen) (hP : ∀ j, P j → lo ≤ j) (hB : lo ≤ B) : ArgsAt w lo (h + 1) v ts := by
  rcases ho.2 with hnil | ⟨g, cap, cur, rfl, hg, rest⟩
  · obtain ⟨rfl, h0⟩ := hnil
    have : ts = [] := List.eq_nil_of_length_eq_zero (by omega)
    subst this
    exact ArgsAt.nil _ _ _ _ _
  · subst hn
    refine ⟨_, cap, rfl, hl, Or.inr ⟨g, 0, rfl, by omega, fun i k n s xs hi => ?_⟩⟩
    obtain ⟨hs, a, m, c, x0, x1, x2, x3, _⟩ := r.rowV.at i k n s xs hi
    obtain ⟨a2, m2, c2, y3, ha⟩ := r.at i k n s xs hi
    rw [x3] at y3
    cases y3
    have hli : i < ts.length := (List.getElem?_eq_some_iff.1 hi).1
    refine ⟨hs, _, ?_, ?_, ?_, ?_, ha.args hP⟩
    · rw [Nat.zero_add, ho.cellAt (i * 4) (by omega), x0]
    · rw [Nat.zero_add, ho.cellAt (i * 4 + 1) (by omega), x1]
    · rw [Nat.zero_add, ho.cellAt (i * 4 + 2) (by omega), x2]
    · rw [Nat.zero_add, ho.cellAt (i * 4 + 3) (by omega), x3]

end Go.Proofs.YtidbokheeieifaaGreatDoor
