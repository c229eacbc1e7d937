/-
  Arguments, and rows of terms, whose rows lie in blocks of which a property holds. No walk.
-/
import Derived.Test.YtooiiomfahomjaaTermOwn
import Derived.Test.YtooiiomfahomjaaLevel
namespace Go.Proofs.Ytooiiomfahomjaa
open Go.RowKit

/-- The reading of arguments whose rows lie in blocks of which P holds. -/
def ArgsP (P : Nat → Prop) (w : World) : Nat → Value → List T → Prop
  | 0, u, ts => ts = [] ∧ ∃ a cap, u = .slice a 0 cap
  | h + 1, u, ts => ∃ a cap, u = .slice a ts.length cap ∧ ts.length ≤ maxLen ∧ (ts = [] ∨ ∃ b o, a = some ⟨b, o, none⟩ ∧ P b ∧ ∀ i k n s xs, ts[i]? = some (T.node k n s xs) → s.size ≤ maxLen ∧ ∃ u', w.cell? ⟨b, o + i * 4, none⟩ = some (.int .i64 k) ∧
      w.cell? ⟨b, o + i * 4 + 1, none⟩ = some (.int .i64 n) ∧ w.cell? ⟨b, o + i * 4 + 2, none⟩ = some (.string s) ∧ w.cell? ⟨b, o + i * 4 + 3, none⟩ = some u' ∧ ArgsP P w h u' xs)
theorem ArgsP.keep {P : Nat → Prop} {w w' : World} (hk : ∀ (ad : Addr) v, P ad.block → w.cell? ad = some v → w'.cell? ad = some v) : ∀ {h : Nat} {u : Value} {ts : List T}, ArgsP P w h u ts → ArgsP P w' h u ts
  | 0, _, _, k => k
  | h + 1, _, _, ⟨a, cap, e, hl, hc⟩ => by
    refine ⟨a, cap, e, hl, ?_⟩
    rcases hc with hc | ⟨b, o, rfl, hp, hc⟩
    · exact Or.inl hc
    · refine Or.inr ⟨b, o, rfl, hp, fun i k n s xs hi => ?_⟩
      obtain ⟨hs, u', c0, c1, c2, c3, hr⟩ := hc i k n s xs hi
      exact ⟨hs, u', hk _ _ hp c0, hk _ _ hp c1, hk _ _ hp c2, hk _ _ hp c3, hr.keep hk⟩
theorem ArgsP.args {P : Nat → Prop} {w : World} {lo : Nat} (hp : ∀ j, P j → lo ≤ j) : ∀ {h : Nat} {u : Value} {ts : List T}, ArgsP P w h u ts → ArgsAt w lo h u ts
  | 0, _, _, k => k
  | h + 1, _, _, ⟨a, cap, e, hl, hc⟩ => by
    refine ⟨a, cap, e, hl, ?_⟩
    rcases hc with hc | ⟨b, o, rfl, hb, hc⟩
    · exact Or.inl hc
    · refine Or.inr ⟨b, o, rfl, hp _ hb, fun i k n s xs hi => ?_⟩
      obtain ⟨hs, u', c0, c1, c2, c3, hr⟩ := hc i k n s xs hi
      exact ⟨hs, u', c0, c1, c2, c3, hr.args hp⟩
theorem ArgsP.of {P : Nat → Prop} {w : World} {lo : Nat} (hp : ∀ j, lo ≤ j → j < w.heap.size → P j) : ∀ {h : Nat} {u : Value} {ts : List T}, ArgsAt w lo h u ts → ArgsP P w h u ts
  | 0, _, _, k => k
  | h + 1, _, ts, ⟨a, cap, e, hl, hc⟩ => by
    refine ⟨a, cap, e, hl, ?_⟩
    rcases hc with hc | ⟨b, o, rfl, hb, hc⟩
    · exact Or.inl hc
    · cases ts with
      | nil => exact Or.inl rfl
      | cons t r =>
        obtain ⟨k, n, s, xs⟩ := t
        obtain ⟨_, _, c0, _⟩ := hc 0 k n s xs rfl
        refine Or.inr ⟨b, o, rfl, hp b hb (World.block_lt_of_cell? w _ c0), fun i k n s xs hi => ?_⟩
        obtain ⟨hs, u', c0, c1, c2, c3, hr⟩ := hc i k n s xs hi
        exact ⟨hs, u', c0, c1, c2, c3, ArgsP.of hp hr⟩
theorem ArgsP.grown {P : Nat → Prop} {w w' : World} {B h : Nat} {u : Value} {ts : List T} (k : ArgsP P w h u ts) (hg : w.grownBy w' (some B)) (hp : ∀ j, P j → j ≠ B) : ArgsP P w' h u ts :=
  k.keep fun ad v hP hv => hg.cell hv (fun e => by cases e; exact hp _ hP rfl)
theorem ArgsP.empty (P : Nat → Prop) (w : World) (h : Nat) : ArgsP P w h (.slice Option.none 0 0) [] := by
  cases h with
  | zero => exact ⟨rfl, _, _, rfl⟩
  | succ h => exact ⟨_, _, rfl, Nat.zero_le _, Or.inl rfl⟩
theorem ArgsP.more {P : Nat → Prop} {w : World} : ∀ {h : Nat} {u : Value} {ts : List T}, ArgsP P w h u ts → ArgsP P w (h + 1) u ts
  | 0, _, _, ⟨e, a, cap, e2⟩ => by subst e; exact ⟨a, cap, e2, Nat.zero_le _, Or.inl rfl⟩
  | h + 1, _, _, ⟨a, cap, e, hl, hc⟩ => by
    refine ⟨a, cap, e, hl, ?_⟩
    rcases hc with hc | ⟨b, o, rfl, hb, hc⟩
    · exact Or.inl hc
    · refine Or.inr ⟨b, o, rfl, hb, fun i k n s xs hi => ?_⟩
      obtain ⟨hs, u', c0, c1, c2, c3, hr⟩ := hc i k n s xs hi
      exact ⟨hs, u', c0, c1, c2, c3, hr.more⟩
theorem ArgsP.one {P : Nat → Prop} {w : World} {g h : Nat} {k n : Int} {s : ByteArray} {u : Value} {ts : List T} (hg : w.heap[g]? = some (.cells #[.int .i64 k, .int .i64 n, .string s, u] 26 (0, 0))) (hp : P g) (hs : s.size ≤ maxLen) (ha : ArgsP P w h u ts) :
    ArgsP P w (h + 1) (.slice (some ⟨g, 0, none⟩) 1 1) [.node k n s ts] := by
  refine ⟨_, _, rfl, by unfold maxLen; simp, Or.inr ⟨g, 0, rfl, hp, fun i kk nn ss xx hi => ?_⟩⟩
  match i, hi with
  | 0, hi =>
    simp at hi
    obtain ⟨rfl, rfl, rfl, rfl⟩ := hi
    exact ⟨hs, u, by rw [cell_of_row w g _ _ _ _ hg]; rfl, by rw [cell_of_row w g _ _ _ _ hg]; rfl, by rw [cell_of_row w g _ _ _ _ hg]; rfl, by rw [cell_of_row w g _ _ _ _ hg]; rfl, ha⟩
  | i + 1, hi => simp at hi

/-- The cells of a row of terms whose own rows lie in blocks of which P holds. -/
def RowP (P : Nat → Prop) (w : World) (h : Nat) : List T → List Value → Prop
  | [], vs => vs = []
  | .node k n s xs :: ts, vs => ∃ a m cap rest, vs = .int .i64 k :: .int .i64 n :: .string s :: .slice a m cap :: rest ∧ s.size ≤ maxLen ∧ ArgsP P w h (.slice a m cap) xs ∧ RowP P w h ts rest
theorem RowP.keep {P : Nat → Prop} {w w' : World} {h : Nat} (hk : ∀ (ad : Addr) v, P ad.block → w.cell? ad = some v → w'.cell? ad = some v) : ∀ {ts : List T} {vs : List Value}, RowP P w h ts vs → RowP P w' h ts vs
  | [], _, e => e
  | .node _ _ _ _ :: _, _, ⟨a, m, cap, rest, e, hs, ha, hr⟩ => ⟨a, m, cap, rest, e, hs, ha.keep hk, hr.keep hk⟩
theorem ArgsP.imp {P Q : Nat → Prop} {w : World} (hp : ∀ j, P j → Q j) : ∀ {h : Nat} {u : Value} {ts : List T}, ArgsP P w h u ts → ArgsP Q w h u ts
  | 0, _, _, k => k
  | h + 1, _, _, ⟨a, cap, e, hl, hc⟩ => by
    refine ⟨a, cap, e, hl, ?_⟩
    rcases hc with hc | ⟨b, o, rfl, hb, hc⟩
    · exact Or.inl hc
    · refine Or.inr ⟨b, o, rfl, hp _ hb, fun i k n s xs hi => ?_⟩
      obtain ⟨hs, u', c0, c1, c2, c3, hr⟩ := hc i k n s xs hi
      exact ⟨hs, u', c0, c1, c2, c3, hr.imp hp⟩
theorem RowP.imp {P Q : Nat → Prop} {w : World} {h : Nat} (hp : ∀ j, P j → Q j) : ∀ {ts : List T} {vs : List Value}, RowP P w h ts vs → RowP Q w h ts vs
  | [], _, e => e
  | .node _ _ _ _ :: _, _, ⟨a, m, cap, rest, e, hs, ha, hr⟩ => ⟨a, m, cap, rest, e, hs, ha.imp hp, hr.imp hp⟩
theorem RowP.snoc {P : Nat → Prop} {w : World} {h : Nat} {k n : Int} {s : ByteArray} {a : Option Addr} {m cap : Nat} {xs : List T} (hs : s.size ≤ maxLen) (ha : ArgsP P w h (.slice a m cap) xs) : ∀ {ts : List T} {vs : List Value}, RowP P w h ts vs →
    RowP P w h (ts ++ [.node k n s xs]) (vs ++ [.int .i64 k, .int .i64 n, .string s, .slice a m cap])
  | [], _, e => by cases e; exact ⟨a, m, cap, [], rfl, hs, ha, rfl⟩
  | .node _ _ _ _ :: _, _, ⟨a', m', cap', rest, e, hs', ha', hr⟩ => ⟨a', m', cap', _, by rw [e]; rfl, hs', ha', hr.snoc hs ha⟩
theorem RowP.rowV {P : Nat → Prop} {w : World} {h : Nat} : ∀ {ts : List T} {vs : List Value}, RowP P w h ts vs → RowV w h ts vs
  | [], _, e => e
  | .node _ _ _ _ :: _, _, ⟨a, m, cap, rest, e, hs, ha, hr⟩ => ⟨a, m, cap, rest, e, hs, ha.args (fun _ _ => Nat.zero_le _), hr.rowV⟩
theorem RowP.at {P : Nat → Prop} {w : World} {h : Nat} : ∀ {ts : List T} {vs : List Value}, RowP P w h ts vs → ∀ (i : Nat) (k n : Int) (s : ByteArray) (xs : List T), ts[i]? = some (T.node k n s xs) →
    ∃ a m cap, vs[i * 4 + 3]? = some (.slice a m cap) ∧ ArgsP P w h (.slice a m cap) xs
  | [], _, _ => by simp
  | .node _ _ _ _ :: _, _, ⟨a, m, cap, rest, e, hs, ha, hr⟩ => by
    intro i k n s xs hi
    cases i with
    | zero =>
      simp at hi
      obtain ⟨rfl, rfl, rfl, rfl⟩ := hi
      subst e
      exact ⟨a, m, cap, rfl, ha⟩
    | succ i =>
      simp at hi
      obtain ⟨a', m', cap', x3, ha'⟩ := hr.at i k n s xs hi
      subst e
      exact ⟨a', m', cap', by rw [show (i + 1) * 4 + 3 = i * 4 + 3 + 4 by omega]; simpa using x3, ha'⟩
theorem RowP.args {P : Nat → Prop} {w : World} {B lo h n : Nat} {v : Value} {ts : List T} {vs : List Value} (r : RowP P w h ts vs) (ho : w.ownsRow B 26 4 v n vs) (hn : n = ts.length) (hl : n ≤ maxLen) (hP : ∀ j, P j → lo ≤ j) (hB : lo ≤ B) : ArgsAt w lo (h + 1) v ts := by
  rcases ho.2 with hnil | ⟨g, cap, cur, rfl, hg, rest⟩
  · obtain ⟨rfl, h0⟩ := hnil
    have : ts = [] := List.eq_nil_of_length_eq_zero (by omega)
    subst this
    exact ArgsAt.nil _ _ _ _ _
  · subst hn
    refine ⟨_, cap, rfl, hl, Or.inr ⟨g, 0, rfl, by omega, fun i k n s xs hi => ?_⟩⟩
    obtain ⟨hs, a, m, c, x0, x1, x2, x3, _⟩ := r.rowV.at i k n s xs hi
    obtain ⟨a2, m2, c2, y3, ha⟩ := r.at i k n s xs hi
    rw [x3] at y3
    cases y3
    have hli : i < ts.length := (List.getElem?_eq_some_iff.1 hi).1
    refine ⟨hs, _, ?_, ?_, ?_, ?_, ha.args hP⟩
    · rw [Nat.zero_add, ho.cellAt (i * 4) (by omega), x0]
    · rw [Nat.zero_add, ho.cellAt (i * 4 + 1) (by omega), x1]
    · rw [Nat.zero_add, ho.cellAt (i * 4 + 2) (by omega), x2]
    · rw [Nat.zero_add, ho.cellAt (i * 4 + 3) (by omega), x3]

end Go.Proofs.Ytooiiomfahomjaa
