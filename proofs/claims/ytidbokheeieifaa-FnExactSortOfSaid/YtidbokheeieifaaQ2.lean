/-
  A slice of strings: what it holds. No walk.
  What a call owns stays owned while other memory is made or written: small facts on worlds. No walk.
  Plain facts on the sizes of lists of strings and of what is joined out of them. No program.
  A slice of strings that came in, or that was made: small facts. No walk.
  Terms as trees; a term that lies in memory; how much it holds. No walk.
  A term that came in, as the walks take it. No walk.
  A signature that lies in memory, as the walks take it; one that came in. No walk.
  impl.IsBuiltin and its model spec.IsBuiltin tell the names plus, minus and times.
  laws.eqStringS returns true for two slices of the same strings; it changes nothing.
  laws.szStringS counts what a slice of strings holds; laws.toStringS copies it into a slice of the call's own.
  The rows of a term that are a call's own and lie apart: what keeps them. No walk.
  What the walks over structs of terms share: a new block, a result in a cell. No walk.
-/
import Derived.Test.YtidbokheeieifaaRows
import Derived.WalkKit
import Derived.WalkSpells
import Derived.WalkLawsBesides
import Derived.Lib.Hide
import Derived.BigQuiet
import Derived.Deep.QuietTactic
import Derived.Lib.Join
import Derived.ProofKit
namespace Go.Proofs.Ytidbokheeieifaa
open Go.RowKit

/-- The slice value v holds the strings ps. -/
def StrsAt (w : World) (v : Value) (ps : List ByteArray) : Prop :=
  ∃ a cap, v = .slice a ps.length cap ∧ (ps = [] ∨ ∃ b o, a = some ⟨b, o, none⟩ ∧ ∀ i p, ps[i]? = some p → w.cell? ⟨b, o + i, none⟩ = some (.string p))

theorem StrsAt.of_owns {w : World} {B : Nat} {e : TypeId} {v : Value} {ps : List ByteArray} (h : w.ownsRow B e 1 v ps.length (ps.map Value.string)) : StrsAt w v ps := by
  rcases h.2 with ⟨rfl, h0⟩ | ⟨g, cap, cur, rfl, _, _, _, _, _, _⟩
  · exact ⟨none, 0, by rw [h0], Or.inl (List.eq_nil_of_length_eq_zero h0)⟩
  · refine ⟨_, cap, rfl, Or.inr ⟨g, 0, rfl, fun i p hp => ?_⟩⟩
    have hi : i < ps.length := (List.getElem?_eq_some_iff.1 hp).1
    rw [Nat.zero_add, h.cellAt i (by omega)]
    simp [hp]
theorem StrsAt.drewN {w : World} {v : Value} {ps : List ByteArray} (h : StrsAt w v ps) (n : Nat) : StrsAt (w.drewN n) v ps := by
  obtain ⟨a, cap, rfl, h⟩ := h
  refine ⟨a, cap, rfl, ?_⟩
  rcases h with h | ⟨b, o, rfl, h⟩
  · exact Or.inl h
  · exact Or.inr ⟨b, o, rfl, fun i p hp => by simpa using h i p hp⟩

end Go.Proofs.Ytidbokheeieifaa
namespace Go.Proofs.Ytidbokheeieifaa
open Go.RowKit

theorem Below.toGrown {w w' : World} (h : Below w.heap.size w w') (row : Option Nat) : w.grownBy w' row := ⟨h.os, h.tape, h.output, h.size, fun k hk _ => h.block k hk⟩
theorem grown_trans {a b c : World} {row : Option Nat} (h : a.grownBy b row) (k : b.grownBy c row) : a.grownBy c row :=
  ⟨k.os.trans h.os, k.tape.trans h.tape, k.output.trans h.output, Nat.le_trans h.size k.size, fun i hi hr => (k.block i (Nat.lt_of_lt_of_le hi h.size) hr).trans (h.block i hi hr)⟩
theorem grown_refl (a : World) (row : Option Nat) : a.grownBy a row := ⟨rfl, rfl, rfl, Nat.le_refl _, fun _ _ _ => rfl⟩

def TrueEnd (w : World) (e : Ending) (w' : World) : Prop := e = .returned (.bool true) ∧ Below w.heap.size w w'

theorem keep_own {w w' : World} {B n size : Nat} {e : TypeId} {v : Value} {xs : List Value} (h : w.ownsRow B e size v n xs) (hb : Below w.heap.size w w') : w'.ownsRow B e size v n xs :=
  h.kept (Below.toGrown hb none) (by rcases h.2 with ⟨rfl, _⟩ | ⟨g, cap, cur, rfl, _⟩ <;> simp [Value.ownBlock])
theorem keep_other {w w' : World} {A B n m size : Nat} {e f : TypeId} {v u : Value} {xs ys : List Value} (h : w.ownsRow A e size v n xs) (hA : ∀ k, v.ownBlock = some k → k < B) (hu : w.ownsRow B f size u m ys) (hg : w.grownBy w' u.ownBlock) : w'.ownsRow A e size v n xs :=
  h.kept hg (by
    cases hv : v.ownBlock with
    | none => exact Or.inl rfl
    | some k =>
      refine Or.inr fun e2 => ?_
      have h1 := hA k hv
      have h2 := (hu.lt k e2.symm).1
      omega)
theorem keep_above {w w' : World} {A n size : Nat} {e : TypeId} {v u : Value} {xs : List Value} (h : w.ownsRow A e size v n xs) (hA : ∀ k, u.ownBlock = some k → k < A) (hg : w.grownBy w' u.ownBlock) : w'.ownsRow A e size v n xs :=
  h.kept hg (by
    cases hv : v.ownBlock with
    | none => exact Or.inl rfl
    | some k =>
      refine Or.inr fun e2 => ?_
      have h1 := hA k e2.symm
      have h2 := (h.lt k hv).1
      omega)

theorem own_low {w : World} {B B' n size : Nat} {e : TypeId} {v : Value} {xs : List Value} (h : w.ownsRow B e size v n xs) (hb : B' ≤ B) : w.ownsRow B' e size v n xs := by
  refine ⟨h.1, ?_⟩
  rcases h.2 with hn | ⟨g, cap, cur, hv, hg, rest⟩
  · exact Or.inl hn
  · exact Or.inr ⟨g, cap, cur, hv, Nat.le_trans hb hg, rest⟩
theorem set_grown (w : World) (B j : Nat) (v : Value) : w.grownBy (w.setCell ⟨B, j, none⟩ v) (some B) :=
  ⟨rfl, rfl, rfl, by simp [World.setCell], fun k _ hk => Below.heap_setCell _ _ _ _ (fun e => hk (by rw [e]))⟩
theorem below_q (w : World) (q : Nat) : Below w.heap.size w (w.drewN q) := ⟨rfl, rfl, rfl, Nat.le_refl _, fun _ _ => rfl⟩

end Go.Proofs.Ytidbokheeieifaa
namespace Go.Proofs.Ytidbokheeieifaa
open Go

/-- The bytes of all strings together. -/
def total (ps : List ByteArray) : Nat := (ps.map (·.size)).sum
theorem total_snoc (ps : List ByteArray) (p : ByteArray) : total (ps ++ [p]) = total ps + p.size := by simp [total]
theorem take_next {α : Type} (l : List α) (k : Nat) (x : α) (h : l[k]? = some x) : l.take (k + 1) = l.take k ++ [x] := by
  rw [List.take_add_one, h]; rfl
theorem total_take_le (ps : List ByteArray) (k : Nat) : total (ps.take k) ≤ total ps := by
  have h : total ps = total (ps.take k) + total (ps.drop k) := by
    unfold total
    rw [← List.sum_append, ← List.map_append, List.take_append_drop]
  omega

theorem join_length (sep : List UInt8) (ps : List ByteArray) : (Lib.join (ps.map (·.data.toList)) sep).length ≤ total ps + ps.length * sep.length := by
  cases ps with
  | nil => simp [Lib.join_nil]
  | cons p r =>
    rw [List.map_cons, Lib.join_cons]
    have h : ∀ r : List ByteArray, (Lib.joinTail sep (r.map (·.data.toList))).length = total r + r.length * sep.length := by
      intro r
      induction r with
      | nil => simp [Lib.joinTail, total]
      | cons q r ih =>
        have e : Lib.joinTail sep ((q :: r).map (·.data.toList)) = sep ++ q.data.toList ++ Lib.joinTail sep (r.map (·.data.toList)) := by simp [Lib.joinTail]
        have e2 : total (q :: r) = q.size + total r := by simp [total]
        have e3 : q.data.toList.length = q.size := by simp
        rw [e, List.length_append, List.length_append, ih, e2, e3, List.length_cons, Nat.add_mul]
        omega
    have e2 : total (p :: r) = p.size + total r := by simp [total]
    have e3 : p.data.toList.length = p.size := by simp
    rw [List.length_append, h r, e2, e3, List.length_cons, Nat.add_mul]
    omega

end Go.Proofs.Ytidbokheeieifaa
namespace Go.Proofs.Ytidbokheeieifaa
open Go.RowKit

theorem infoStr' : (Try.prog.info? 9).map (fun i => (i.zero, i.size, i.bytes)) = some (some (.string ByteArray.empty), 1, 16) := by kernel_rfl

/-- A slice of strings that came in. -/
theorem strsAt_of_open {w : World} {a : Addr} {len cap : Nat} {ss : List ByteArray} (hl : len ≤ ss.length)
    (hc : ∀ i, i < ss.length → w.cell? (a.add i) = some (.string (ss.getD i ByteArray.empty))) : StrsAt w (.slice (some a) len cap) (ss.take len) := by
  have hlen : (ss.take len).length = len := by simp; omega
  refine ⟨some a, cap, by rw [hlen], ?_⟩
  by_cases h0 : len = 0
  · left; rw [h0]; simp
  · right
    have h := hc 0 (by omega)
    have hs := World.cell?_spot h
    obtain ⟨b, o, sp⟩ := a
    have hsp : sp = none := by simpa [Addr.add] using hs
    subst hsp
    refine ⟨b, o, rfl, fun i p hp => ?_⟩
    have hi : i < len := by have := (List.getElem?_eq_some_iff.1 hp).1; omega
    have hx := hc i (by omega)
    have e : (⟨b, o, none⟩ : Addr).add i = ⟨b, o + i, none⟩ := by
      unfold Addr.add
      split
      · rename_i h; subst h; rfl
      · rfl
    rw [e] at hx
    rw [hx]
    rw [List.getElem?_take, if_pos hi] at hp
    simp [List.getD, hp]

theorem StrsAt.below {w w' : World} {v : Value} {ps : List ByteArray} (h : StrsAt w v ps) (hb : Below w.heap.size w w') : StrsAt w' v ps := by
  obtain ⟨a, cap, rfl, h⟩ := h
  refine ⟨a, cap, rfl, ?_⟩
  rcases h with h | ⟨b, o, rfl, h⟩
  · exact Or.inl h
  · refine Or.inr ⟨b, o, rfl, fun i p hp => ?_⟩
    have hc := h i p hp
    rw [hb.cell (World.block_lt_of_cell? w _ hc)]; exact hc
end Go.Proofs.Ytidbokheeieifaa
namespace Go.Proofs.Ytidbokheeieifaa
open Go.RowKit

/-- A term: its kind, its number, its name, its arguments. -/
inductive T where
  | node (k n : Int) (s : ByteArray) (xs : List T) : T

/-- The value of a struct of a term. -/
abbrev tv (k n : Int) (s : ByteArray) (u : Value) : Value := .agg #[.int .i64 k, .int .i64 n, .string s, u]

/-- The slice value u holds the terms ts, of a depth of at most h, in blocks from lo on. -/
def ArgsAt (w : World) (lo : Nat) : Nat → Value → List T → Prop
  | 0, u, ts => ts = [] ∧ ∃ a cap, u = .slice a 0 cap
  | h + 1, u, ts => ∃ a cap, u = .slice a ts.length cap ∧ ts.length ≤ maxLen ∧ (ts = [] ∨ ∃ b o, a = some ⟨b, o, none⟩ ∧ lo ≤ b ∧ ∀ i k n s xs, ts[i]? = some (T.node k n s xs) → s.size ≤ maxLen ∧ ∃ u', w.cell? ⟨b, o + i * 4, none⟩ = some (.int .i64 k) ∧
      w.cell? ⟨b, o + i * 4 + 1, none⟩ = some (.int .i64 n) ∧ w.cell? ⟨b, o + i * 4 + 2, none⟩ = some (.string s) ∧ w.cell? ⟨b, o + i * 4 + 3, none⟩ = some u' ∧ ArgsAt w lo h u' xs)

/-- The value v is the term t, of a depth of at most h below it. -/
def TermAt (w : World) (lo h : Nat) (v : Value) (t : T) : Prop := ∃ k n s u xs, v = tv k n s u ∧ t = .node k n s xs ∧ s.size ≤ maxLen ∧ ArgsAt w lo h u xs

/-- What the cells of a row of terms hold. -/
def RowAt (w : World) (lo h b o : Nat) (ts : List T) : Prop :=
  ∀ i k n s xs, ts[i]? = some (T.node k n s xs) → s.size ≤ maxLen ∧ ∃ u', w.cell? ⟨b, o + i * 4, none⟩ = some (.int .i64 k) ∧
    w.cell? ⟨b, o + i * 4 + 1, none⟩ = some (.int .i64 n) ∧ w.cell? ⟨b, o + i * 4 + 2, none⟩ = some (.string s) ∧ w.cell? ⟨b, o + i * 4 + 3, none⟩ = some u' ∧ ArgsAt w lo h u' xs

theorem TermAt.form {w : World} {lo h : Nat} {v : Value} {t : T} (ht : TermAt w lo h v t) : ∃ k n s u, v = tv k n s u := by
  obtain ⟨k, n, s, u, _, e, _⟩ := ht
  exact ⟨k, n, s, u, e⟩

theorem ArgsAt.nil (w : World) (lo h : Nat) (a : Option Addr) (cap : Nat) : ArgsAt w lo h (.slice a 0 cap) [] := by
  cases h with
  | zero => exact ⟨rfl, a, cap, rfl⟩
  | succ h => exact ⟨a, cap, rfl, Nat.zero_le _, Or.inl rfl⟩

theorem ArgsAt.keep {w w' : World} {lo : Nat} (hk : ∀ (ad : Addr) v, lo ≤ ad.block → w.cell? ad = some v → w'.cell? ad = some v) : ∀ {h : Nat} {u : Value} {ts : List T}, ArgsAt w lo h u ts → ArgsAt w' lo h u ts
  | 0, _, _, k => k
  | h + 1, _, _, ⟨a, cap, e, hl, hc⟩ => by
    refine ⟨a, cap, e, hl, ?_⟩
    rcases hc with hc | ⟨b, o, rfl, hlo, hc⟩
    · exact Or.inl hc
    · refine Or.inr ⟨b, o, rfl, hlo, fun i k n s xs hi => ?_⟩
      obtain ⟨hs, u', c0, c1, c2, c3, hr⟩ := hc i k n s xs hi
      exact ⟨hs, u', hk _ _ hlo c0, hk _ _ hlo c1, hk _ _ hlo c2, hk _ _ hlo c3, hr.keep hk⟩
theorem ArgsAt.below {w w' : World} {lo h : Nat} {u : Value} {ts : List T} (k : ArgsAt w lo h u ts) (hb : Below w.heap.size w w') : ArgsAt w' lo h u ts :=
  k.keep fun ad v _ hv => by rw [hb.cell (World.block_lt_of_cell? w _ hv)]; exact hv
theorem ArgsAt.grown {w w' : World} {lo h : Nat} {u : Value} {ts : List T} {row : Option Nat} (k : ArgsAt w lo h u ts) (hg : w.grownBy w' row) (hr : ∀ j, row = some j → j < lo) : ArgsAt w' lo h u ts :=
  k.keep fun ad v hlo hv => hg.cell hv (fun e => by have := hr ad.block e.symm; omega)
theorem ArgsAt.low {w : World} {lo lo' : Nat} (hlo : lo' ≤ lo) : ∀ {h : Nat} {u : Value} {ts : List T}, ArgsAt w lo h u ts → ArgsAt w lo' h u ts
  | 0, _, _, k => k
  | h + 1, _, _, ⟨a, cap, e, hl, hc⟩ => by
    refine ⟨a, cap, e, hl, ?_⟩
    rcases hc with hc | ⟨b, o, rfl, hb, hc⟩
    · exact Or.inl hc
    · refine Or.inr ⟨b, o, rfl, Nat.le_trans hlo hb, fun i k n s xs hi => ?_⟩
      obtain ⟨hs, u', c0, c1, c2, c3, hr⟩ := hc i k n s xs hi
      exact ⟨hs, u', c0, c1, c2, c3, hr.low hlo⟩
theorem TermAt.below {w w' : World} {lo h : Nat} {v : Value} {t : T} (ht : TermAt w lo h v t) (hb : Below w.heap.size w w') : TermAt w' lo h v t := by
  obtain ⟨k, n, s, u, xs, e1, e2, hs, ha⟩ := ht
  exact ⟨k, n, s, u, xs, e1, e2, hs, ha.below hb⟩
theorem TermAt.low {w : World} {lo lo' h : Nat} {v : Value} {t : T} (ht : TermAt w lo h v t) (hlo : lo' ≤ lo) : TermAt w lo' h v t := by
  obtain ⟨k, n, s, u, xs, e1, e2, hs, ha⟩ := ht
  exact ⟨k, n, s, u, xs, e1, e2, hs, ha.low hlo⟩
theorem ArgsAt.more {w : World} {lo : Nat} : ∀ {h : Nat} {u : Value} {ts : List T}, ArgsAt w lo h u ts → ArgsAt w lo (h + 1) u ts
  | 0, _, _, ⟨e, a, cap, e2⟩ => by subst e; exact ⟨a, cap, e2, Nat.zero_le _, Or.inl rfl⟩
  | h + 1, _, _, ⟨a, cap, e, hl, hc⟩ => by
    refine ⟨a, cap, e, hl, ?_⟩
    rcases hc with hc | ⟨b, o, rfl, hb, hc⟩
    · exact Or.inl hc
    · refine Or.inr ⟨b, o, rfl, hb, fun i k n s xs hi => ?_⟩
      obtain ⟨hs, u', c0, c1, c2, c3, hr⟩ := hc i k n s xs hi
      exact ⟨hs, u', c0, c1, c2, c3, hr.more⟩
theorem ArgsAt.le {w : World} {lo h h' : Nat} {u : Value} {ts : List T} (k : ArgsAt w lo h u ts) (hle : h ≤ h') : ArgsAt w lo h' u ts := by
  induction hle with
  | refl => exact k
  | step _ ih => exact ih.more
/-- What a loop over the arguments sees: empty, or a row. -/
theorem ArgsAt.cases {w : World} {lo h : Nat} {u : Value} {ts : List T} (k : ArgsAt w lo h u ts) :
    (ts = [] ∧ ∃ a cap, u = .slice a 0 cap) ∨ ∃ h' b o cap, h = h' + 1 ∧ u = .slice (some ⟨b, o, none⟩) ts.length cap ∧ ts.length ≤ maxLen ∧ lo ≤ b ∧ RowAt w lo h' b o ts := by
  cases h with
  | zero => exact Or.inl k
  | succ h =>
    obtain ⟨a, cap, e, hl, hc⟩ := k
    rcases hc with rfl | ⟨b, o, rfl, hb, hc⟩
    · exact Or.inl ⟨rfl, a, cap, e⟩
    · exact Or.inr ⟨h, b, o, cap, rfl, e, hl, hb, hc⟩

theorem ArgsAt.slice {w : World} {lo h : Nat} {u : Value} {ts : List T} (k : ArgsAt w lo h u ts) : ∃ a cap, u = .slice a ts.length cap := by
  cases h with
  | zero => obtain ⟨rfl, a, cap, rfl⟩ := k; exact ⟨a, cap, rfl⟩
  | succ h => obtain ⟨a, cap, e, _⟩ := k; exact ⟨a, cap, e⟩

theorem TermAt.shape {w : World} {lo h : Nat} {v : Value} {t : T} (ht : TermAt w lo h v t) : ∃ k n s a m cap, v = tv k n s (.slice a m cap) := by
  obtain ⟨k, n, s, u, xs, e, _, _, ha⟩ := ht
  obtain ⟨a, cap, rfl⟩ := ha.slice
  exact ⟨k, n, s, a, _, cap, e⟩

/-! ### how much a term holds -/
/-- The bytes of the names and the arguments below a term. -/
def wT : T → Nat
  | .node _ _ s xs => s.size + (xs.length + (xs.map wT).sum)
def wS (xs : List T) : Nat := (xs.map wT).sum
/-- How many terms there are in a term. -/
def cT : T → Nat
  | .node _ _ _ xs => 1 + (xs.map cT).sum
def cS (xs : List T) : Nat := (xs.map cT).sum
/-- How deep a term is. -/
def dT : T → Nat
  | .node _ _ _ xs => (xs.map dT).foldl max 0 + 1
def dS (xs : List T) : Nat := (xs.map dT).foldl max 0
theorem foldl_max (l : List Nat) (a b : Nat) (h : ∀ x ∈ l, x ≤ b) (ha : a ≤ b) : l.foldl max a ≤ b := by
  induction l generalizing a with
  | nil => exact ha
  | cons x l ih => exact ih (max a x) (fun y hy => h y (by simp [hy])) (by have := h x (by simp); omega)
theorem wS_snoc (l : List T) (t : T) : wS (l ++ [t]) = wS l + wT t := by simp [wS]
theorem cS_snoc (l : List T) (t : T) : cS (l ++ [t]) = cS l + cT t := by simp [cS]
theorem wT_node (k n : Int) (s : ByteArray) (xs : List T) : wT (.node k n s xs) = s.size + (xs.length + wS xs) := by rw [wT]; rfl
theorem cT_node (k n : Int) (s : ByteArray) (xs : List T) : cT (.node k n s xs) = 1 + cS xs := by rw [cT]; rfl
theorem cS_of (xs : List T) (h : ∀ x ∈ xs, cT x ≤ 1 + wT x) : cS xs ≤ xs.length + wS xs := by
  induction xs with
  | nil => simp [cS]
  | cons x r ih =>
    have h1 := h x (by simp)
    have h2 := ih (fun y hy => h y (by simp [hy]))
    simp only [cS, wS, List.map_cons, List.sum_cons, List.length_cons] at *
    omega
theorem cT_le : ∀ t : T, cT t ≤ 1 + wT t
  | .node k n s xs => by
    have h := cS_of xs (fun x _ => cT_le x)
    rw [cT_node, wT_node]
    omega
theorem cT_mem (xs : List T) : ∀ x ∈ xs, cT x ≤ cS xs := by
  induction xs with
  | nil => simp
  | cons y r ih =>
    intro x hx
    simp only [cS, List.map_cons, List.sum_cons]
    rcases List.mem_cons.1 hx with rfl | hx
    · omega
    · have := ih x hx; simp only [cS] at this; omega
theorem dT_le : ∀ t : T, dT t ≤ cT t
  | .node k n s xs => by
    have h : ∀ x ∈ xs, dT x ≤ cT x := fun x _ => dT_le x
    rw [dT, cT_node]
    have := foldl_max (xs.map dT) 0 (cS xs) (fun y hy => by
      obtain ⟨x, hx, rfl⟩ := List.mem_map.1 hy
      exact Nat.le_trans (h x hx) (cT_mem xs x hx)) (Nat.zero_le _)
    omega
theorem cS_le (xs : List T) : cS xs ≤ xs.length + wS xs := cS_of xs (fun x _ => cT_le x)
theorem tk {α : Type} (l : List α) (k : Nat) (x : α) (h : l[k]? = some x) : l.take (k + 1) = l.take k ++ [x] := by
  rw [List.take_add_one, h]; rfl
theorem wS_take (ts : List T) (k : Nat) : wS (ts.take k) ≤ wS ts := by
  have h : wS ts = wS (ts.take k) + wS (ts.drop k) := by
    unfold wS
    rw [← List.sum_append, ← List.map_append, List.take_append_drop]
  omega
theorem wT_at (ts : List T) (k : Nat) (t : T) (h : ts[k]? = some t) : wS (ts.take k) + wT t ≤ wS ts := by
  have h1 := wS_take ts (k + 1)
  rw [tk ts k t h, wS_snoc] at h1
  exact h1
end Go.Proofs.Ytidbokheeieifaa
namespace Go.Proofs.Ytidbokheeieifaa
open Go.RowKit Go.ChangeShapes Go.WideShapes

theorem cLT : Try.prog.cellsOf 41 = 4 := by kernel_rfl
theorem cStr' : Try.prog.cellsOf 9 = 1 := by kernel_rfl
theorem cInt' : Try.prog.cellsOf 3 = 1 := by kernel_rfl
theorem cLS : Try.prog.cellsOf 39 = 1 := by kernel_rfl

theorem cells4 {W : World} {a : Addr} {cs : List Value} (h : W.cells? 0 a 4 = some cs) : ∃ v0 v1 v2 v3, cs = [v0, v1, v2, v3] ∧ W.cell? (a.add 0) = some v0 ∧ W.cell? (a.add 1) = some v1 ∧ W.cell? (a.add 2) = some v2 ∧ W.cell? (a.add 3) = some v3 := by
  unfold World.cells? at h
  rw [if_pos (Nat.zero_le _)] at h
  have e : List.range 4 = [0, 1, 2, 3] := rfl
  rw [e] at h
  simp only [List.mapM_cons, List.mapM_nil, Option.bind_eq_bind, Option.pure_def, Option.bind_eq_some_iff] at h
  obtain ⟨v0, h0, r0, ⟨v1, h1, r1, ⟨v2, h2, r2, ⟨v3, h3, r3, e3, e2⟩, e1⟩, e0⟩, ee⟩ := h
  simp at e3 e2 e1 e0 ee
  subst e3; subst e2; subst e1; subst e0; subst ee
  exact ⟨v0, v1, v2, v3, rfl, h0, h1, h2, h3⟩

theorem bound_all (f : Nat → Nat) (n : Nat) : ∃ m, ∀ i, i < n → f i ≤ m := by
  induction n with
  | zero => exact ⟨0, fun i hi => by omega⟩
  | succ n ih =>
    obtain ⟨m, hm⟩ := ih
    refine ⟨max m (f n), fun i hi => ?_⟩
    by_cases e : i = n
    · subst e; omega
    · have := hm i (by omega); omega

section
variable {H : Type} {enc : TypeId × Value → H} {W : World} {spare : Nat → Bool} {held : Bool}

theorem spot_add {a : Addr} {i : Nat} {v : Value} (h : W.cell? (a.add i) = some v) (hs : a.spot = none) : W.cell? ⟨a.block, a.off + i, none⟩ = some v := by
  obtain ⟨b, o, sp⟩ := a
  simp at hs; subst hs
  have e : (⟨b, o, none⟩ : Addr).add i = ⟨b, o + i, none⟩ := by
    unfold Addr.add
    split
    · rename_i h; subst h; rfl
    · rfl
  rw [e] at h
  exact h

set_option maxRecDepth 100000 in
/-- The reading of a struct of a term and of a slice of such. -/
theorem term_of_trod : ∀ fuel : Nat,
    (∀ (cs : List Value) (x : DataW H × List MemPlace), DataW.trod enc Try.prog W 0 spare held fuel 41 cs = some x → ∃ k n s u xs h, cs = [.int .i64 k, .int .i64 n, .string s, u] ∧ s.size ≤ maxLen ∧ ArgsAt W 0 h u xs) ∧
    (∀ (cs : List Value) (x : DataW H × List MemPlace), DataW.trod enc Try.prog W 0 spare held fuel 39 cs = some x → ∃ u xs h, cs = [u] ∧ ArgsAt W 0 h u xs) := by
  intro fuel
  induction fuel with
  | zero => exact ⟨fun cs x h => by simp [DataW.trod] at h, fun cs x h => by simp [DataW.trod] at h⟩
  | succ f ih =>
    obtain ⟨ih1, ih2⟩ := ih
    refine ⟨fun cs x h => ?_, fun cs x h => ?_⟩
    · obtain ⟨xs, n, hn, _, hl, hlen, hf⟩ := DataW.trod_struct Try.underlying41 h
      obtain rfl : f = n := by omega
      rw [cLT] at hl
      match cs, hl with
      | [v0, v1, v2, v3], _ =>
        have h0 : DataW.trod enc Try.prog W 0 spare held f 3 (([v0, v1, v2, v3].drop 0).take (Try.prog.cellsOf 3)) = xs[0]? := hf 0 _ rfl
        have h1 : DataW.trod enc Try.prog W 0 spare held f 3 (([v0, v1, v2, v3].drop 1).take (Try.prog.cellsOf 3)) = xs[1]? := hf 1 _ rfl
        have h2 : DataW.trod enc Try.prog W 0 spare held f 9 (([v0, v1, v2, v3].drop 2).take (Try.prog.cellsOf 9)) = xs[2]? := hf 2 _ rfl
        have h3 : DataW.trod enc Try.prog W 0 spare held f 39 (([v0, v1, v2, v3].drop 3).take (Try.prog.cellsOf 39)) = xs[3]? := hf 3 _ rfl
        have hl4 : xs.length = 4 := hlen
        rw [cInt'] at h0 h1
        rw [cStr'] at h2
        rw [cLS] at h3
        obtain ⟨y0, e0⟩ : ∃ y, xs[0]? = some y := ⟨_, List.getElem?_eq_getElem (by omega)⟩
        obtain ⟨y1, e1⟩ : ∃ y, xs[1]? = some y := ⟨_, List.getElem?_eq_getElem (by omega)⟩
        obtain ⟨y2, e2⟩ : ∃ y, xs[2]? = some y := ⟨_, List.getElem?_eq_getElem (by omega)⟩
        obtain ⟨y3, e3⟩ : ∃ y, xs[3]? = some y := ⟨_, List.getElem?_eq_getElem (by omega)⟩
        rw [e0] at h0; rw [e1] at h1; rw [e2] at h2; rw [e3] at h3
        (try simp at h0); (try simp at h1); (try simp at h2); (try simp at h3)
        obtain ⟨k, hk, _⟩ := DataW.trod_int Try.underlying3 h0
        obtain ⟨n, hn, _⟩ := DataW.trod_int Try.underlying3 h1
        obtain ⟨s, hs, _, hsz⟩ := DataW.trod_string Try.underlying9 h2
        obtain ⟨u, ts, hgt, hu, ha⟩ := ih2 _ _ h3
        simp at hk hn hs hu
        subst hk; subst hn; subst hs; subst hu
        exact ⟨k, n, s, _, ts, hgt, rfl, hsz, ha⟩
    · rcases DataW.trod_slice Try.underlying39 h with ⟨rfl, _⟩ | ⟨a, len, cap, elems, rest, n, hn, rfl, _, _, hlc, hcm, hlen, hel, _, _⟩
      · exact ⟨_, [], 0, rfl, ArgsAt.nil W 0 0 none 0⟩
      · obtain rfl : f = n := by omega
        have each : ∀ i, i < len → ∃ k n s u xs h, W.cells? 0 (a.add (i * 4)) 4 = some [.int .i64 k, .int .i64 n, .string s, u] ∧ s.size ≤ maxLen ∧ ArgsAt W 0 h u xs := by
          intro i hi
          have h1 := hel i hi
          rw [cLT] at h1
          obtain ⟨y, hy⟩ : ∃ y, elems[i]? = some y := ⟨_, List.getElem?_eq_getElem (by omega)⟩
          rw [hy, Option.bind_eq_some_iff] at h1
          obtain ⟨cs, hcs, ht⟩ := h1
          obtain ⟨k, n, s, u, xs, h, rfl, hsz, ha⟩ := ih1 cs _ ht
          exact ⟨k, n, s, u, xs, h, hcs, hsz, ha⟩
        by_cases h0 : len = 0
        · subst h0
          exact ⟨_, [], 0, rfl, ArgsAt.nil W 0 0 (some a) cap⟩
        · -- the elements, chosen once
          have hch : ∃ (K N : Nat → Int) (S : Nat → ByteArray) (U : Nat → Value) (X : Nat → List T) (Hh : Nat → Nat), ∀ i, i < len → W.cells? 0 (a.add (i * 4)) 4 = some [.int .i64 (K i), .int .i64 (N i), .string (S i), U i] ∧ (S i).size ≤ maxLen ∧ ArgsAt W 0 (Hh i) (U i) (X i) := by
            have hc2 : ∀ i, ∃ (k n : Int) (s : ByteArray) (u : Value) (xs : List T) (h : Nat), i < len → W.cells? 0 (a.add (i * 4)) 4 = some [.int .i64 k, .int .i64 n, .string s, u] ∧ s.size ≤ maxLen ∧ ArgsAt W 0 h u xs := by
              intro i
              by_cases hi : i < len
              · obtain ⟨k, n, s, u, xs, h, q⟩ := each i hi
                exact ⟨k, n, s, u, xs, h, fun _ => q⟩
              · exact ⟨0, 0, ByteArray.empty, .slice none 0 0, [], 0, fun h => absurd h hi⟩
            exact ⟨fun i => (hc2 i).choose, fun i => (hc2 i).choose_spec.choose, fun i => (hc2 i).choose_spec.choose_spec.choose, fun i => (hc2 i).choose_spec.choose_spec.choose_spec.choose,
              fun i => (hc2 i).choose_spec.choose_spec.choose_spec.choose_spec.choose, fun i => (hc2 i).choose_spec.choose_spec.choose_spec.choose_spec.choose_spec.choose, fun i hi => (hc2 i).choose_spec.choose_spec.choose_spec.choose_spec.choose_spec.choose_spec hi⟩
          obtain ⟨K, N, S, U, X, Hh, hall⟩ := hch
          -- one height for all
          have hmax := bound_all Hh len
          obtain ⟨hm, hle⟩ := hmax
          have hspot : a.spot = none := by
            obtain ⟨v0, _, _, _, _, c0, _⟩ := cells4 (hall 0 (by omega)).1
            have := World.cell?_spot c0
            obtain ⟨b, o, sp⟩ := a
            simpa [Addr.add] using this
          refine ⟨_, (List.range len).map fun i => T.node (K i) (N i) (S i) (X i), hm + 1, rfl, some a, cap, by simp, by simp; omega, Or.inr ⟨a.block, a.off, ?_, Nat.zero_le _, fun i k n s xs hi => ?_⟩⟩
          · obtain ⟨b, o, sp⟩ := a
            simp at hspot; subst hspot; rfl
          · have hil : i < len := by have := (List.getElem?_eq_some_iff.1 hi).1; simpa using this
            simp [hil] at hi
            obtain ⟨rfl, rfl, rfl, rfl⟩ := hi
            obtain ⟨hcs, hsz, ha⟩ := hall i hil
            obtain ⟨v0, v1, v2, v3, e, c0, c1, c2, c3⟩ := cells4 hcs
            simp at e
            obtain ⟨rfl, rfl, rfl, rfl⟩ := e
            have sp : (a.add (i * 4)).spot = none := by
              obtain ⟨b, o, sp⟩ := a
              simp at hspot; subst hspot
              unfold Addr.add
              split <;> rfl
            have eb : (a.add (i * 4)).block = a.block ∧ (a.add (i * 4)).off = a.off + i * 4 := by
              obtain ⟨b, o, sp⟩ := a
              simp at hspot; subst hspot
              unfold Addr.add
              split
              · rename_i h; rw [h]; exact ⟨rfl, rfl⟩
              · exact ⟨rfl, rfl⟩
            have d0 := spot_add c0 sp
            have d1 := spot_add c1 sp
            have d2 := spot_add c2 sp
            have d3 := spot_add c3 sp
            rw [eb.1, eb.2] at d0 d1 d2 d3
            exact ⟨hsz, _, d0, d1, d2, d3, ha.le (hle i hil)⟩
end

set_option maxRecDepth 100000 in
/-- A term that came in. -/
theorem term_came {H : Type} {enc : TypeId × Value → H} {W : World} {base : Nat} {v : Value} {d : DataW H} {p : List MemPlace} (hv : Value.okWide Try.prog W .any base 41 v)
    (h : DataW.Trod enc Try.prog W 0 (fun _ => true) true 41 v d p) : ∃ g t, TermAt W 0 g v t := by
  obtain ⟨cs, rfl, hsz⟩ := okWide_struct Try.underlying41 hv
  obtain ⟨fuel, hf⟩ := h
  obtain ⟨k, n, s, u, xs, g, e, hs, ha⟩ := (term_of_trod fuel).1 _ _ hf
  have ec : cs = #[.int .i64 k, .int .i64 n, .string s, u] := by
    have : cs.toList = [.int .i64 k, .int .i64 n, .string s, u] := e
    rw [← Array.toArray_toList (xs := cs), this]
  subst ec
  exact ⟨g, _, k, n, s, u, xs, rfl, rfl, hs, ha⟩
end Go.Proofs.Ytidbokheeieifaa
namespace Go.Proofs.Ytidbokheeieifaa
open Go.RowKit Go.ChangeShapes Go.WideShapes

/-- An operator: its name, the sorts of its arguments, the sort of its result. -/
structure OpD where
  name : ByteArray
  args : List ByteArray
  res : ByteArray

/-- The value of a struct of an operator. -/
abbrev ov (n : ByteArray) (u : Value) (r : ByteArray) : Value := .agg #[.string n, u, .string r]

/-- Strings that a machine holds. -/
def StrsOk (ps : List ByteArray) : Prop := ps.length ≤ maxLen ∧ ∀ p ∈ ps, p.size ≤ maxLen
def OpOk (d : OpD) : Prop := d.name.size ≤ maxLen ∧ StrsOk d.args ∧ d.res.size ≤ maxLen
def OpsOk (ds : List OpD) : Prop := ds.length ≤ maxLen ∧ ∀ d ∈ ds, OpOk d

/-- The slice value u holds the operators ds. -/
def OpsAt (w : World) (u : Value) (ds : List OpD) : Prop :=
  ∃ a cap, u = .slice a ds.length cap ∧ (ds = [] ∨ ∃ b o, a = some ⟨b, o, none⟩ ∧ ∀ i d, ds[i]? = some d → ∃ u', w.cell? ⟨b, o + i * 3, none⟩ = some (.string d.name) ∧ w.cell? ⟨b, o + i * 3 + 1, none⟩ = some u' ∧
    w.cell? ⟨b, o + i * 3 + 2, none⟩ = some (.string d.res) ∧ StrsAt w u' d.args)

theorem OpsAt.nil (w : World) (a : Option Addr) (cap : Nat) : OpsAt w (.slice a 0 cap) [] := ⟨a, cap, rfl, Or.inl rfl⟩
theorem OpsAt.slice {w : World} {u : Value} {ds : List OpD} (h : OpsAt w u ds) : ∃ a cap, u = .slice a ds.length cap := by
  obtain ⟨a, cap, e, _⟩ := h; exact ⟨a, cap, e⟩
theorem StrsAt.slice {w : World} {u : Value} {ps : List ByteArray} (h : StrsAt w u ps) : ∃ a cap, u = .slice a ps.length cap := by
  obtain ⟨a, cap, e, _⟩ := h; exact ⟨a, cap, e⟩
theorem OpsAt.below {w w' : World} {u : Value} {ds : List OpD} (h : OpsAt w u ds) (hb : Below w.heap.size w w') : OpsAt w' u ds := by
  obtain ⟨a, cap, rfl, h⟩ := h
  refine ⟨a, cap, rfl, ?_⟩
  rcases h with h | ⟨b, o, rfl, h⟩
  · exact Or.inl h
  · refine Or.inr ⟨b, o, rfl, fun i d hd => ?_⟩
    obtain ⟨u', c0, c1, c2, hs⟩ := h i d hd
    have k : ∀ {ad : Addr} {v : Value}, w.cell? ad = some v → w'.cell? ad = some v := fun hc => by rw [hb.cell (World.block_lt_of_cell? w _ hc)]; exact hc
    exact ⟨u', k c0, k c1, k c2, hs.below hb⟩

/-- The value of a struct of a signature. -/
abbrev sv (a b : Value) : Value := .agg #[a, b]
/-- A signature in memory. -/
def SigAt (w : World) (v : Value) (ps : List ByteArray) (ds : List OpD) : Prop := ∃ a b, v = sv a b ∧ StrsAt w a ps ∧ OpsAt w b ds

theorem cLO : Try.prog.cellsOf 172 = 3 := by kernel_rfl
theorem cLOS : Try.prog.cellsOf 36 = 1 := by kernel_rfl
theorem cSS : Try.prog.cellsOf 35 = 1 := by kernel_rfl
theorem cLSig : Try.prog.cellsOf 38 = 2 := by kernel_rfl

theorem cells3 {W : World} {a : Addr} {cs : List Value} (h : W.cells? 0 a 3 = some cs) : ∃ v0 v1 v2, cs = [v0, v1, v2] ∧ W.cell? (a.add 0) = some v0 ∧ W.cell? (a.add 1) = some v1 ∧ W.cell? (a.add 2) = some v2 := by
  unfold World.cells? at h
  rw [if_pos (Nat.zero_le _)] at h
  have e : List.range 3 = [0, 1, 2] := rfl
  rw [e] at h
  simp only [List.mapM_cons, List.mapM_nil, Option.bind_eq_bind, Option.pure_def, Option.bind_eq_some_iff] at h
  obtain ⟨v0, h0, r0, ⟨v1, h1, r1, ⟨v2, h2, r2, e2, e1⟩, e0⟩, ee⟩ := h
  simp at e2 e1 e0 ee
  subst e2; subst e1; subst e0; subst ee
  exact ⟨v0, v1, v2, rfl, h0, h1, h2⟩

section
variable {H : Type} {enc : TypeId × Value → H} {W : World} {held : Bool}

theorem strs_of_trod {fuel : Nat} {cs : List Value} {x : DataW H × List MemPlace} (h : DataW.trod enc Try.prog W 0 (fun _ => true) held fuel 35 cs = some x) : ∃ u ps, cs = [u] ∧ StrsOk ps ∧ StrsAt W u ps := by
  rcases open_strings Try.underlying35 Try.underlying9 cStr' h with ⟨rfl, hx⟩ | ⟨a, len, cap, ss, rfl, _, hl, hm, hz, hx, hcell, hws⟩
  · exact ⟨_, [], rfl, ⟨Nat.zero_le _, fun p hp => by cases hp⟩, ⟨none, 0, rfl, Or.inl rfl⟩⟩
  · simp only [if_true] at hz
    refine ⟨_, ss.take len, rfl, ⟨by simp; omega, fun p hp => hws p (List.mem_of_mem_take hp)⟩, strsAt_of_open (by omega) hcell⟩

set_option maxRecDepth 100000 in
theorem op_of_trod {fuel : Nat} {cs : List Value} {x : DataW H × List MemPlace} (h : DataW.trod enc Try.prog W 0 (fun _ => true) held fuel 172 cs = some x) : ∃ (d : OpD) (u : Value), cs = [.string d.name, u, .string d.res] ∧ OpOk d ∧ StrsAt W u d.args := by
  obtain ⟨xs, n, hn, _, hl, hlen, hf⟩ := DataW.trod_struct Try.underlying172 h
  rw [cLO] at hl
  match cs, hl with
  | [v0, v1, v2], _ =>
    have h0 : DataW.trod enc Try.prog W 0 (fun _ => true) held n 9 (([v0, v1, v2].drop 0).take (Try.prog.cellsOf 9)) = xs[0]? := hf 0 _ rfl
    have h1 : DataW.trod enc Try.prog W 0 (fun _ => true) held n 35 (([v0, v1, v2].drop 1).take (Try.prog.cellsOf 35)) = xs[1]? := hf 1 _ rfl
    have h2 : DataW.trod enc Try.prog W 0 (fun _ => true) held n 9 (([v0, v1, v2].drop 2).take (Try.prog.cellsOf 9)) = xs[2]? := hf 2 _ rfl
    have hl3 : xs.length = 3 := hlen
    rw [cStr'] at h0 h2
    rw [cSS] at h1
    obtain ⟨y0, e0⟩ : ∃ y, xs[0]? = some y := ⟨_, List.getElem?_eq_getElem (by omega)⟩
    obtain ⟨y1, e1⟩ : ∃ y, xs[1]? = some y := ⟨_, List.getElem?_eq_getElem (by omega)⟩
    obtain ⟨y2, e2⟩ : ∃ y, xs[2]? = some y := ⟨_, List.getElem?_eq_getElem (by omega)⟩
    rw [e0] at h0; rw [e1] at h1; rw [e2] at h2
    (try simp at h0); (try simp at h1); (try simp at h2)
    obtain ⟨s, hs, _, hsz⟩ := DataW.trod_string Try.underlying9 h0
    obtain ⟨r, hr, _, hrz⟩ := DataW.trod_string Try.underlying9 h2
    obtain ⟨u, ps, hu, hps, ha⟩ := strs_of_trod h1
    simp at hs hr hu
    subst hs; subst hr; subst hu
    exact ⟨⟨s, ps, r⟩, _, rfl, ⟨hsz, hps, hrz⟩, ha⟩

set_option maxRecDepth 100000 in
theorem ops_of_trod {fuel : Nat} {cs : List Value} {x : DataW H × List MemPlace} (h : DataW.trod enc Try.prog W 0 (fun _ => true) held fuel 36 cs = some x) : ∃ (u : Value) (ds : List OpD), cs = [u] ∧ OpsOk ds ∧ OpsAt W u ds := by
  rcases DataW.trod_slice Try.underlying36 h with ⟨rfl, _⟩ | ⟨a, len, cap, elems, rest, n, hn, rfl, _, _, hlc, hcm, hlen, hel, _, _⟩
  · exact ⟨_, [], rfl, ⟨Nat.zero_le _, fun d hd => by cases hd⟩, OpsAt.nil W none 0⟩
  · have each : ∀ i, i < len → ∃ (d : OpD) (u : Value), W.cells? 0 (a.add (i * 3)) 3 = some [.string d.name, u, .string d.res] ∧ OpOk d ∧ StrsAt W u d.args := by
      intro i hi
      have h1 := hel i hi
      rw [cLO] at h1
      obtain ⟨y, hy⟩ : ∃ y, elems[i]? = some y := ⟨_, List.getElem?_eq_getElem (by omega)⟩
      rw [hy, Option.bind_eq_some_iff] at h1
      obtain ⟨cs, hcs, ht⟩ := h1
      obtain ⟨d, u, rfl, hd, ha⟩ := op_of_trod ht
      exact ⟨d, u, hcs, hd, ha⟩
    by_cases h0 : len = 0
    · subst h0
      exact ⟨_, [], rfl, ⟨Nat.zero_le _, fun d hd => by cases hd⟩, OpsAt.nil W (some a) cap⟩
    · have hch : ∃ (D : Nat → OpD) (U : Nat → Value), ∀ i, i < len → W.cells? 0 (a.add (i * 3)) 3 = some [.string (D i).name, U i, .string (D i).res] ∧ OpOk (D i) ∧ StrsAt W (U i) (D i).args := by
        have hc2 : ∀ i, ∃ (d : OpD) (u : Value), i < len → W.cells? 0 (a.add (i * 3)) 3 = some [.string d.name, u, .string d.res] ∧ OpOk d ∧ StrsAt W u d.args := by
          intro i
          by_cases hi : i < len
          · obtain ⟨d, u, q⟩ := each i hi
            exact ⟨d, u, fun _ => q⟩
          · exact ⟨⟨ByteArray.empty, [], ByteArray.empty⟩, .slice none 0 0, fun h => absurd h hi⟩
        exact ⟨fun i => (hc2 i).choose, fun i => (hc2 i).choose_spec.choose, fun i hi => (hc2 i).choose_spec.choose_spec hi⟩
      obtain ⟨D, U, hall⟩ := hch
      have hspot : a.spot = none := by
        obtain ⟨v0, _, _, _, c0, _⟩ := cells3 (hall 0 (by omega)).1
        have := World.cell?_spot c0
        obtain ⟨b, o, sp⟩ := a
        simpa [Addr.add] using this
      refine ⟨_, (List.range len).map D, rfl, ⟨by simp; omega, fun d hd => ?_⟩, some a, cap, by simp, Or.inr ⟨a.block, a.off, ?_, fun i d hi => ?_⟩⟩
      · obtain ⟨i, hi, rfl⟩ := List.mem_map.1 hd
        exact (hall i (by simpa using hi)).2.1
      · obtain ⟨b, o, sp⟩ := a
        simp at hspot; subst hspot; rfl
      · have hil : i < len := by have := (List.getElem?_eq_some_iff.1 hi).1; simpa using this
        simp [hil] at hi
        subst hi
        obtain ⟨hcs, _, ha⟩ := hall i hil
        obtain ⟨v0, v1, v2, e, c0, c1, c2⟩ := cells3 hcs
        simp at e
        obtain ⟨rfl, rfl, rfl⟩ := e
        have sp : (a.add (i * 3)).spot = none := by
          obtain ⟨b, o, sp⟩ := a
          simp at hspot; subst hspot
          unfold Addr.add
          split <;> rfl
        have eb : (a.add (i * 3)).block = a.block ∧ (a.add (i * 3)).off = a.off + i * 3 := by
          obtain ⟨b, o, sp⟩ := a
          simp at hspot; subst hspot
          unfold Addr.add
          split
          · rename_i h; rw [h]; exact ⟨rfl, rfl⟩
          · exact ⟨rfl, rfl⟩
        have d0 := spot_add c0 sp
        have d1 := spot_add c1 sp
        have d2 := spot_add c2 sp
        rw [eb.1, eb.2] at d0 d1 d2
        exact ⟨_, d0, d1, d2, ha⟩
end

set_option maxRecDepth 100000 in
/-- A signature that came in. -/
theorem sig_came {H : Type} {enc : TypeId × Value → H} {W : World} {base : Nat} {v : Value} {d : DataW H} {p : List MemPlace} (hv : Value.okWide Try.prog W .any base 38 v)
    (h : DataW.Trod enc Try.prog W 0 (fun _ => true) true 38 v d p) : ∃ ps ds, StrsOk ps ∧ OpsOk ds ∧ SigAt W v ps ds := by
  obtain ⟨cs, rfl, hsz⟩ := okWide_struct Try.underlying38 hv
  obtain ⟨fuel, hf⟩ := h
  obtain ⟨xs, n, hn, _, hl, hlen, hfl⟩ := DataW.trod_struct Try.underlying38 hf
  rw [cLSig] at hl
  obtain ⟨v0, v1, ec⟩ : ∃ v0 v1, cs = #[v0, v1] := by
    have hl2 : cs.toList.length = 2 := hl
    match h : cs.toList, hl2 with
    | [v0, v1], _ => exact ⟨v0, v1, by rw [← Array.toArray_toList (xs := cs), h]⟩
  subst ec
  have h0 : DataW.trod enc Try.prog W 0 (fun _ => true) true n 35 (([v0, v1].drop 0).take (Try.prog.cellsOf 35)) = xs[0]? := hfl 0 _ rfl
  have h1 : DataW.trod enc Try.prog W 0 (fun _ => true) true n 36 (([v0, v1].drop 1).take (Try.prog.cellsOf 36)) = xs[1]? := hfl 1 _ rfl
  have hl2 : xs.length = 2 := hlen
  rw [cSS] at h0
  rw [cLOS] at h1
  obtain ⟨y0, e0⟩ : ∃ y, xs[0]? = some y := ⟨_, List.getElem?_eq_getElem (by omega)⟩
  obtain ⟨y1, e1⟩ : ∃ y, xs[1]? = some y := ⟨_, List.getElem?_eq_getElem (by omega)⟩
  rw [e0] at h0; rw [e1] at h1
  (try simp at h0); (try simp at h1)
  obtain ⟨u, ps, hu, hps, ha⟩ := strs_of_trod h0
  obtain ⟨u', ds, hu', hds, ha'⟩ := ops_of_trod h1
  simp at hu hu'
  subst hu; subst hu'
  exact ⟨ps, ds, hps, hds, _, _, rfl, ha, ha'⟩
end Go.Proofs.Ytidbokheeieifaa
namespace Go.Proofs.Ytidbokheeieifaa
open Go.RowKit

abbrev kPlus : ByteArray := ⟨#[112, 108, 117, 115]⟩
abbrev kMinus : ByteArray := ⟨#[109, 105, 110, 117, 115]⟩
abbrev kTimes : ByteArray := ⟨#[116, 105, 109, 101, 115]⟩
abbrev kWord : ByteArray := ⟨#[119, 111, 114, 100]⟩

/-- Is the name that of a built-in operator? -/
def builtinB (s : ByteArray) : Bool := (s.toList == [112, 108, 117, 115]) || (s.toList == [109, 105, 110, 117, 115]) || (s.toList == [116, 105, 109, 101, 115])
def BuiltEnd (s : ByteArray) (w : World) (e : Ending) (w' : World) : Prop := e = .returned (.bool (builtinB s)) ∧ w' = w

/-- The ways a name goes. -/
theorem builtin_ways (s : ByteArray) : (s.toList = [112, 108, 117, 115] ∧ (s.toList == [112, 108, 117, 115]) = true ∧ builtinB s = true) ∨
    (¬ s.toList = [112, 108, 117, 115] ∧ (s.toList == [112, 108, 117, 115]) = false ∧ s.toList = [109, 105, 110, 117, 115] ∧ (s.toList == [109, 105, 110, 117, 115]) = true ∧ builtinB s = true) ∨
    (¬ s.toList = [112, 108, 117, 115] ∧ (s.toList == [112, 108, 117, 115]) = false ∧ ¬ s.toList = [109, 105, 110, 117, 115] ∧ (s.toList == [109, 105, 110, 117, 115]) = false ∧ s.toList = [116, 105, 109, 101, 115] ∧ (s.toList == [116, 105, 109, 101, 115]) = true ∧ builtinB s = true) ∨
    (¬ s.toList = [112, 108, 117, 115] ∧ (s.toList == [112, 108, 117, 115]) = false ∧ ¬ s.toList = [109, 105, 110, 117, 115] ∧ (s.toList == [109, 105, 110, 117, 115]) = false ∧ ¬ s.toList = [116, 105, 109, 101, 115] ∧ (s.toList == [116, 105, 109, 101, 115]) = false ∧ builtinB s = false) := by
  unfold builtinB
  by_cases h1 : s.toList = [112, 108, 117, 115]
  · left; simp [h1]
  by_cases h2 : s.toList = [109, 105, 110, 117, 115]
  · right; left; simp [h2]
  by_cases h3 : s.toList = [116, 105, 109, 101, 115]
  · right; right; left; simp [h3]
  · right; right; right; simp [h1, h2, h3]

set_option maxRecDepth 100000 in
theorem iBuiltin_any (s : ByteArray) (w : World) : Calls Try.prog 164 #[.string s] w (BuiltEnd s w) := by
  rcases builtin_ways s with ⟨p1, b1, hb⟩ | ⟨p1, b1, p2, b2, hb⟩ | ⟨p1, b1, p2, b2, p3, b3, hb⟩ | ⟨p1, b1, p2, b2, p3, b3, hb⟩
  · have HB := Lib.hid hb; clear hb p1
    go_enter Try.func164, Try.ntmps164
    go_wp2
    go_ret
    exact ⟨by rw [HB.out]; rfl, rfl⟩
  · have HB := Lib.hid hb; clear hb p1 p2
    go_enter Try.func164, Try.ntmps164
    go_wp2
    go_ret
    exact ⟨by rw [HB.out]; rfl, rfl⟩
  · have HB := Lib.hid hb; clear hb p1 p2 p3
    go_enter Try.func164, Try.ntmps164
    go_wp2
    go_ret
    exact ⟨by rw [HB.out]; rfl, rfl⟩
  · have HB := Lib.hid hb; clear hb p1 p2 p3
    go_enter Try.func164, Try.ntmps164
    go_wp2
    go_ret
    exact ⟨by rw [HB.out]; rfl, rfl⟩

set_option maxRecDepth 100000 in
theorem sBuiltin_any (s : ByteArray) (w : World) : Calls Try.prog 60 #[.string s] w (BuiltEnd s w) := by
  rcases builtin_ways s with ⟨p1, b1, hb⟩ | ⟨p1, b1, p2, b2, hb⟩ | ⟨p1, b1, p2, b2, p3, b3, hb⟩ | ⟨p1, b1, p2, b2, p3, b3, hb⟩
  · have HB := Lib.hid hb; clear hb p1
    go_enter Try.func60, Try.ntmps60
    go_wp2
    go_ret
    exact ⟨by rw [HB.out]; rfl, rfl⟩
  · have HB := Lib.hid hb; clear hb p1 p2
    go_enter Try.func60, Try.ntmps60
    go_wp2
    go_ret
    exact ⟨by rw [HB.out]; rfl, rfl⟩
  · have HB := Lib.hid hb; clear hb p1 p2 p3
    go_enter Try.func60, Try.ntmps60
    go_wp2
    go_ret
    exact ⟨by rw [HB.out]; rfl, rfl⟩
  · have HB := Lib.hid hb; clear hb p1 p2 p3
    go_enter Try.func60, Try.ntmps60
    go_wp2
    go_ret
    exact ⟨by rw [HB.out]; rfl, rfl⟩

end Go.Proofs.Ytidbokheeieifaa
namespace Go.Proofs.Ytidbokheeieifaa
open Go.RowKit

set_option maxRecDepth 100000 in
set_option maxHeartbeats 400000 in
theorem eqStrs_empty (a b : Option Addr) (c d : Nat) (w : World) :
    Calls Try.prog 80 #[.slice a 0 c, .slice b 0 d] w fun e w' => e = .returned (.bool true) ∧ ∃ n, w' = w.drewN n := by
  go_enter Try.func80, Try.ntmps80
  go_wp2
  refine wp_loop_rounds 1 ?_
  rw [rounds_succ]
  go_wp2
  go_ret
  exact ⟨rfl, 0, rfl⟩

set_option maxRecDepth 100000 in
set_option maxHeartbeats 800000 in
theorem eqStrs_some (b o c b' o' c' : Nat) (ps qs : List ByteArray) (w : World) (hl : ps.length ≤ 9223372036854775807)
    (h1 : ∀ i p, ps[i]? = some p → w.cell? ⟨b, o + i, none⟩ = some (.string p)) (h2 : ∀ i p, qs[i]? = some p → w.cell? ⟨b', o' + i, none⟩ = some (.string p))
    (h : ps.map (·.data.toList) = qs.map (·.data.toList)) :
    Calls Try.prog 80 #[.slice (some ⟨b, o, none⟩) ps.length c, .slice (some ⟨b', o', none⟩) qs.length c'] w fun e w' => e = .returned (.bool true) ∧ ∃ n, w' = w.drewN n := by
  have hlq : qs.length = ps.length := by have := congrArg List.length h; simpa using this.symm
  have H1 := Lib.hid h1; clear h1
  have H2 := Lib.hid h2; clear h2
  have HH := Lib.hid h; clear h
  rw [hlq]
  have HLQ := Lib.hid hlq; clear hlq
  obtain ⟨n, hn⟩ : ∃ n, n = ps.length := ⟨_, rfl⟩
  rw [← hn] at hl ⊢
  have HN := Lib.hid hn; clear hn
  go_enter Try.func80, Try.ntmps80
  go_wp2
  go_loopw [5] (fun i wr => ∃ k q : Nat, k ≤ n ∧ i = .int .i64 k ∧ wr = w.drewN q) (fun i _ => n - (intOf i).toNat)
  case atStart => exact ⟨0, 0, Nat.zero_le _, rfl, rfl⟩
  case round =>
    obtain ⟨k, q, hk, rfl, rfl⟩ := hrel
    by_cases hlt : k < n
    · obtain ⟨x, hx⟩ : ∃ x, ps[k]? = some x := ⟨_, List.getElem?_eq_getElem (by have := HN.out; omega)⟩
      obtain ⟨y, hy⟩ : ∃ y, qs[k]? = some y := ⟨_, List.getElem?_eq_getElem (by have := HN.out; have := HLQ.out; omega)⟩
      have hc1 := H1.out k x hx
      have hc2 := H2.out k y hy
      have hxy : (x.toList == y.toList) = true := by
        have e := congrArg (·[k]?) HH.out
        simp only [List.getElem?_map, hx, hy, Option.map_some, Option.some.injEq] at e
        rw [ByteArray.toList_eq, ByteArray.toList_eq, e]; simp
      clear hx hy
      go_wp2
      go_quiet (fail)
      go_wp2
      go_roundw
      case rel => exact ⟨k + 1, _, by omega, by go_num, rfl⟩
      case measure => simp [intOf]; omega
    · go_wp2
      go_ret
      exact ⟨rfl, q, rfl⟩

/-- Two slices of the same strings are found equal. -/
theorem eqStrs_any (v u : Value) (ps qs : List ByteArray) (w : World) (hl : ps.length ≤ 9223372036854775807) (h1 : StrsAt w v ps) (h2 : StrsAt w u qs)
    (h : ps.map (·.data.toList) = qs.map (·.data.toList)) :
    Calls Try.prog 80 #[v, u] w fun e w' => e = .returned (.bool true) ∧ ∃ n, w' = w.drewN n := by
  have hlq : qs.length = ps.length := by have := congrArg List.length h; simpa using this.symm
  obtain ⟨a, c, rfl, h1⟩ := h1
  obtain ⟨a', c', rfl, h2⟩ := h2
  rcases h1 with rfl | ⟨b, o, rfl, h1⟩
  · have hq : qs = [] := List.eq_nil_of_length_eq_zero (by simpa using hlq)
    subst hq
    exact eqStrs_empty _ _ _ _ w
  · rcases h2 with rfl | ⟨b', o', rfl, h2⟩
    · have hp : ps = [] := List.eq_nil_of_length_eq_zero (by simpa using hlq.symm)
      subst hp
      exact eqStrs_empty _ _ _ _ w
    · exact eqStrs_some b o c b' o' c' ps qs w hl h1 h2 h
end Go.Proofs.Ytidbokheeieifaa
namespace Go.Proofs.Ytidbokheeieifaa
open Go.RowKit

/-- What the count says. -/
def SzEnd (left : Int) (ps : List ByteArray) (w : World) (e : Ending) (w' : World) : Prop :=
  ∃ r : Int, e = .returned (.int .i64 r) ∧ w' = w ∧ -1 ≤ r ∧ (0 ≤ r → (ps.length : Int) + total ps ≤ left ∧ r ≤ left)

set_option maxRecDepth 100000 in
set_option maxHeartbeats 400000 in
theorem sz_empty (left : Int) (a : Option Addr) (cap : Nat) (w : World) (h0 : 0 ≤ left) (h1 : left ≤ 1048576) :
    Calls Try.prog 68 #[.slice a 0 cap, .int .i64 left] w (SzEnd left [] w) := by
  have hd : decide (left < 0) = false := by simp; omega
  go_enter Try.func68, Try.ntmps68
  go_wp2
  refine wp_loop_rounds 1 ?_
  rw [rounds_succ]
  go_wp2
  go_ret
  exact ⟨left, rfl, rfl, by omega, fun _ => ⟨by simpa [total] using h0, Int.le_refl _⟩⟩

set_option maxRecDepth 100000 in
set_option maxHeartbeats 400000 in
theorem sz_some (left : Int) (b o cap : Nat) (ps : List ByteArray) (w : World) (h0 : 0 ≤ left) (h1 : left ≤ 1048576) (hl : ps.length ≤ 9223372036854775807) (hs : ∀ p ∈ ps, p.size ≤ 9223372036854775807)
    (hc : ∀ i p, ps[i]? = some p → w.cell? ⟨b, o + i, none⟩ = some (.string p)) :
    Calls Try.prog 68 #[.slice (some ⟨b, o, none⟩) ps.length cap, .int .i64 left] w (SzEnd left ps w) := by
  have HC := Lib.hid hc; clear hc
  have HS := Lib.hid hs; clear hs
  obtain ⟨n, hn⟩ : ∃ n, n = ps.length := ⟨_, rfl⟩
  rw [← hn] at hl ⊢
  have HN := Lib.hid hn; clear hn
  by_cases hbig : left < n
  · have hd : decide (left - (n : Int) < 0) = true := by simp; omega
    go_enter Try.func68, Try.ntmps68
    go_wp2
    go_ret
    exact ⟨-1, rfl, rfl, by omega, fun h => by omega⟩
  · have hd : decide (left - (n : Int) < 0) = false := by simp; omega
    go_enter Try.func68, Try.ntmps68
    go_wp2
    go_loop [1, 5] (fun q i => ∃ (k : Nat) (x : Int), k ≤ n ∧ i = .int .i64 k ∧ q = .int .i64 x ∧ 0 ≤ x ∧ x ≤ left ∧ x = left - (n : Int) - total (ps.take k)) (fun _ i => n - (intOf i).toNat)
    case atStart => exact ⟨0, left - n, Nat.zero_le _, rfl, rfl, by omega, by omega, by simp [total]⟩
    case round =>
      obtain ⟨k, x, hk, rfl, rfl, hx0, hx1, hx⟩ := hrel
      have HX := Lib.hid hx; clear hx
      by_cases hlt : k < n
      · obtain ⟨p, hp⟩ : ∃ p, ps[k]? = some p := ⟨_, List.getElem?_eq_getElem (by have := HN.out; omega)⟩
        have hcell := HC.out k p hp
        have hps := HS.out p (List.mem_of_getElem? hp)
        have HT := Lib.hid (take_next ps k p hp); clear hp
        by_cases hneg : x - (p.size : Int) < 0
        · go_wp2
          go_ret
          exact ⟨-1, rfl, rfl, by omega, fun h => by omega⟩
        · go_wp2
          go_round
          case rel => exact ⟨k + 1, x - p.size, by omega, by go_num, rfl, by omega, by omega, by rw [HT.out, total_snoc]; have := HX.out; omega⟩
          case measure => simp [intOf]; omega
      · have hkn : k = n := by omega
        go_wp2
        go_ret
        refine ⟨x, rfl, rfl, by omega, fun _ => ?_⟩
        have h2 := HX.out
        rw [hkn, HN.out, List.take_length] at h2
        omega

theorem sz_any (left : Int) (v : Value) (ps : List ByteArray) (w : World) (h0 : 0 ≤ left) (h1 : left ≤ 1048576) (hl : ps.length ≤ 9223372036854775807) (hs : ∀ p ∈ ps, p.size ≤ 9223372036854775807) (hv : StrsAt w v ps) :
    Calls Try.prog 68 #[v, .int .i64 left] w (SzEnd left ps w) := by
  obtain ⟨a, cap, rfl, hv⟩ := hv
  rcases hv with rfl | ⟨b, o, rfl, hv⟩
  · exact sz_empty left a cap w h0 h1
  · exact sz_some left b o cap ps w h0 h1 hl hs hv

/-- A copy of the strings, in a slice of the call's own. -/
def CopyEnd (ps : List ByteArray) (w : World) (e : Ending) (w' : World) : Prop :=
  ∃ v, e = .returned v ∧ w'.ownsRow w.heap.size 9 1 v ps.length (ps.map Value.string) ∧ Below w.heap.size w w'

theorem copy_set (ps : List ByteArray) (ys : List Value) (k : Nat) (p : ByteArray) (hp : ps[k]? = some p) (hy : k < ys.length) :
    ((ps.take k).map Value.string ++ ys.drop k).set k (.string p) = (ps.take (k + 1)).map Value.string ++ ys.drop (k + 1) := by
  have hk : k < ps.length := (List.getElem?_eq_some_iff.1 hp).1
  have hl : ((ps.take k).map Value.string).length = k := by simp; omega
  rw [List.set_append_right _ _ (by omega), hl, Nat.sub_self, take_next ps k p hp, List.drop_eq_getElem_cons hy, List.set_cons_zero, List.map_append, List.append_assoc]
  rfl

set_option maxRecDepth 100000 in
set_option maxHeartbeats 400000 in
theorem copy_empty (a : Option Addr) (cap : Nat) (w : World) :
    Calls Try.prog 74 #[.slice a 0 cap] w (CopyEnd [] w) := by
  obtain ⟨i0, hi, hz0, hz1, hz2⟩ := info_parts infoStr'
  have HI := Lib.hid hi; clear hi
  have HZ0 := Lib.hid hz0; clear hz0
  have HZ1 := Lib.hid hz1; clear hz1
  have HZ2 := Lib.hid hz2; clear hz2
  go_enter Try.func74, Try.ntmps74
  go_wp2_with (first | (at_make; refine wpList_make_full _ rfl (.tmp 6) (.tmp 6) 35 rfl w.heap.size 9 i0 (.string ByteArray.empty) 1 Try.underlying35 HI.out HZ0.out HZ1.out _ _ _ _ 0 rfl rfl rfl rfl ?m1 ?m2 ?m3 ?_))
  case m1 => simp
  case m2 => decide
  case m3 => exact Nat.le_refl _
  intro w1 hown hgrow
  have hb : Below w.heap.size w w1 := (Below.refl _ _).grown hgrow (Nat.le_refl _) (fun k hk => by cases hk)
  have HO := Lib.hid hown; clear hown hgrow
  go_wp2
  refine wp_loop_rounds 1 ?_
  rw [rounds_succ]
  go_wp2
  go_ret
  exact ⟨_, rfl, by simpa [madeCells] using HO.out, hb⟩

set_option maxRecDepth 100000 in
set_option maxHeartbeats 800000 in
theorem copy_some (b o cap : Nat) (ps : List ByteArray) (w : World) (hl : ps.length ≤ 1048576)
    (hc : ∀ i p, ps[i]? = some p → w.cell? ⟨b, o + i, none⟩ = some (.string p)) :
    Calls Try.prog 74 #[.slice (some ⟨b, o, none⟩) ps.length cap] w (CopyEnd ps w) := by
  obtain ⟨i0, hi, hz0, hz1, hz2⟩ := info_parts infoStr'
  have HI := Lib.hid hi; clear hi
  have HZ0 := Lib.hid hz0; clear hz0
  have HZ1 := Lib.hid hz1; clear hz1
  have HZ2 := Lib.hid hz2; clear hz2
  have HC := Lib.hid hc; clear hc
  obtain ⟨n, hn⟩ : ∃ n, n = ps.length := ⟨_, rfl⟩
  rw [← hn] at hl ⊢
  have HN := Lib.hid hn; clear hn
  go_enter Try.func74, Try.ntmps74
  go_wp2_with (first | (at_make; refine wpList_make_full _ rfl (.tmp 6) (.tmp 6) 35 rfl w.heap.size 9 i0 (.string ByteArray.empty) 1 Try.underlying35 HI.out HZ0.out HZ1.out _ _ _ _ n rfl rfl rfl rfl ?m1 ?m2 ?m3 ?_))
  case m1 => rw [HZ2.out]; omega
  case m2 => unfold maxLen; omega
  case m3 => exact Nat.le_refl _
  intro w1 hown hgrow
  have hb : Below w.heap.size w w1 := (Below.refl _ _).grown hgrow (Nat.le_refl _) (fun k hk => by cases hk)
  obtain ⟨ys, hys⟩ : ∃ ys, ys = (madeCells #[Value.string ByteArray.empty] n).toList := ⟨_, rfl⟩
  rw [← hys] at hown
  clear hys
  have hyl : ys.length = n := by simpa using hown.1
  have HYL := Lib.hid hyl; clear hyl
  have HO := Lib.hid hown; clear hown hgrow
  have HB := Lib.hid hb; clear hb
  go_wp2
  go_loopw [4] (fun i wr => ∃ k : Nat, k ≤ n ∧ i = .int .i64 k ∧ wr.ownsRow w.heap.size 9 1 (.slice (some ⟨w.heap.size, 0, none⟩) n n) n ((ps.take k).map Value.string ++ ys.drop k) ∧ Below w.heap.size w wr) (fun i _ => n - (intOf i).toNat)
  case atStart => exact ⟨0, Nat.zero_le _, rfl, by simpa using HO.out, HB.out⟩
  case round =>
    obtain ⟨k, hk, rfl, ho, hb⟩ := hrel
    have HO1 := Lib.hid ho; clear ho
    have HB1 := Lib.hid hb; clear hb
    by_cases hlt : k < n
    · obtain ⟨p, hp⟩ : ∃ p, ps[k]? = some p := ⟨_, List.getElem?_eq_getElem (by have := HN.out; omega)⟩
      have hc0 := HC.out k p hp
      have hcell : wr.cell? ⟨b, o + k, none⟩ = some (.string p) := by rw [HB1.out.cell (World.block_lt_of_cell? w _ hc0)]; exact hc0
      clear hc0
      obtain ⟨u, hu⟩ : ∃ u, ((ps.take k).map Value.string ++ ys.drop k)[k]? = some u := ⟨_, List.getElem?_eq_getElem (by simp; have := HYL.out; have := HN.out; omega)⟩
      have hold : wr.cell? ⟨w.heap.size, k, none⟩ = some u := by rw [HO1.out.cellAt k (by omega), hu]
      have hfrz : wr.frozen? ⟨w.heap.size, k, none⟩ = false := HO1.out.frozenAt k
      have hst := HO1.out.stored k (.string p)
      rw [copy_set ps ys k p hp (by have := HYL.out; omega)] at hst
      have HS := Lib.hid hst.1; clear hst hu hp
      go_wp2
      go_roundw
      case rel => exact ⟨k + 1, by omega, by go_num, HS.out, HB1.out.setCell (Nat.le_refl _) _⟩
      case measure => simp [intOf]; omega
    · have hkn : k = n := by omega
      go_wp2
      go_ret
      refine ⟨_, rfl, ?_, HB1.out⟩
      have h2 := HO1.out
      rw [hkn, List.drop_eq_nil_of_le (by have := HYL.out; omega), List.append_nil, HN.out, List.take_length] at h2
      rw [HN.out]
      exact h2

theorem copy_any (v : Value) (ps : List ByteArray) (w : World) (hl : ps.length ≤ 1048576) (hv : StrsAt w v ps) :
    Calls Try.prog 74 #[v] w (CopyEnd ps w) := by
  obtain ⟨a, cap, rfl, hv⟩ := hv
  rcases hv with rfl | ⟨b, o, rfl, hv⟩
  · exact copy_empty a cap w
  · exact copy_some b o cap ps w hl hv
end Go.Proofs.Ytidbokheeieifaa
namespace Go.Proofs.Ytidbokheeieifaa
open Go.RowKit

/-- The slice value u holds as many terms as ts; its rows, and those below, are owned, lie in blocks from lo to hi, and lie apart. -/
def OwnA (w : World) : Nat → Nat → Nat → Value → List T → Prop
  | 0, _, _, u, ts => ts = [] ∧ ∃ a cap, u = .slice a 0 cap
  | h + 1, lo, hi, u, ts => ∃ a cap, u = .slice a ts.length cap ∧ (ts = [] ∨ ∃ (g : Nat) (xs : List Value) (U : Nat → Value) (L R : Nat → Nat), a = some ⟨g, 0, none⟩ ∧ lo ≤ g ∧ g < hi ∧ w.ownsRow g 26 4 u ts.length xs ∧
      (∀ i k n s txs, ts[i]? = some (T.node k n s txs) → xs[i * 4 + 3]? = some (U i) ∧ lo ≤ L i ∧ R i ≤ hi ∧ (g < L i ∨ R i ≤ g) ∧ OwnA w h (L i) (R i) (U i) txs) ∧
      (∀ i j, i < j → j < ts.length → R i ≤ L j ∨ R j ≤ L i))

/-- Only blocks from lo to hi have turned, and new ones are there. -/
def Out (lo hi : Nat) (w w' : World) : Prop :=
  w'.os = w.os ∧ w'.tape = w.tape ∧ w'.output = w.output ∧ w.heap.size ≤ w'.heap.size ∧ ∀ b, b < w.heap.size → (b < lo ∨ hi ≤ b) → w'.heap[b]? = w.heap[b]?
theorem Out.refl (lo hi : Nat) (w : World) : Out lo hi w w := ⟨rfl, rfl, rfl, Nat.le_refl _, fun _ _ _ => rfl⟩
theorem Out.trans {lo hi : Nat} {a b c : World} (h : Out lo hi a b) (k : Out lo hi b c) : Out lo hi a c :=
  ⟨k.1.trans h.1, k.2.1.trans h.2.1, k.2.2.1.trans h.2.2.1, Nat.le_trans h.2.2.2.1 k.2.2.2.1, fun i hi ho => (k.2.2.2.2 i (Nat.lt_of_lt_of_le hi h.2.2.2.1) ho).trans (h.2.2.2.2 i hi ho)⟩
theorem Out.of_below {lo hi : Nat} {w w' : World} (h : Below w.heap.size w w') : Out lo hi w w' := ⟨h.os, h.tape, h.output, h.size, fun b hb _ => h.block b hb⟩
theorem Out.set {lo hi : Nat} (w : World) (g j : Nat) (v : Value) (h1 : lo ≤ g) (h2 : g < hi) : Out lo hi w (w.setCell ⟨g, j, none⟩ v) := by
  have h := set_grown w g j v
  exact ⟨h.os, h.tape, h.output, h.size, fun b hb ho => h.block b hb (fun e => by cases e; omega)⟩
theorem Out.wide {lo hi lo' hi' : Nat} {w w' : World} (h : Out lo hi w w') (h1 : lo' ≤ lo) (h2 : hi ≤ hi') : Out lo' hi' w w' :=
  ⟨h.1, h.2.1, h.2.2.1, h.2.2.2.1, fun b hb ho => h.2.2.2.2 b hb (by omega)⟩

theorem row_keep {w w' : World} {B g n cap size : Nat} {e : TypeId} {xs : List Value} (h : w.ownsRow B e size (.slice (some ⟨g, 0, none⟩) n cap) n xs) (hk : w'.heap[g]? = w.heap[g]?) : w'.ownsRow B e size (.slice (some ⟨g, 0, none⟩) n cap) n xs := by
  refine ⟨h.1, ?_⟩
  rcases h.2 with ⟨e1, _⟩ | ⟨g', cap', cur, e1, hb, hg, rest⟩
  · simp at e1
  · simp only [Value.slice.injEq, Option.some.injEq, Addr.mk.injEq] at e1
    obtain ⟨⟨rfl, _⟩, _, rfl⟩ := e1
    exact Or.inr ⟨g, cap, cur, rfl, hb, by rw [hk]; exact hg, rest⟩

theorem OwnA.keep {w w' : World} : ∀ {h lo hi : Nat} {u : Value} {ts : List T}, (∀ b, lo ≤ b → b < hi → w'.heap[b]? = w.heap[b]?) → OwnA w h lo hi u ts → OwnA w' h lo hi u ts
  | 0, _, _, _, _, _, k => k
  | h + 1, lo, hi, u, ts, hk, ⟨a, cap, e, hc⟩ => by
    refine ⟨a, cap, e, ?_⟩
    rcases hc with hc | ⟨g, xs, U, L, R, rfl, h1, h2, ho, hx, hd⟩
    · exact Or.inl hc
    · subst e
      refine Or.inr ⟨g, xs, U, L, R, rfl, h1, h2, row_keep ho (hk g h1 h2), fun i k n s txs hi => ?_, hd⟩
      obtain ⟨x3, l1, l2, l3, hr⟩ := hx i k n s txs hi
      exact ⟨x3, l1, l2, l3, hr.keep (fun b b1 b2 => hk b (by omega) (by omega))⟩
theorem OwnA.wide {w : World} : ∀ {h lo hi lo' hi' : Nat} {u : Value} {ts : List T}, lo' ≤ lo → hi ≤ hi' → OwnA w h lo hi u ts → OwnA w h lo' hi' u ts
  | 0, _, _, _, _, _, _, _, _, k => k
  | h + 1, lo, hi, lo', hi', u, ts, w1, w2, ⟨a, cap, e, hc⟩ => by
    refine ⟨a, cap, e, ?_⟩
    rcases hc with hc | ⟨g, xs, U, L, R, ea, h1, h2, ho, hx, hd⟩
    · exact Or.inl hc
    · refine Or.inr ⟨g, xs, U, L, R, ea, by omega, by omega, ho, fun i k n s txs hi => ?_, hd⟩
      obtain ⟨x3, l1, l2, l3, hr⟩ := hx i k n s txs hi
      exact ⟨x3, by omega, by omega, l3, hr⟩
theorem OwnA.slice {w : World} {h lo hi : Nat} {u : Value} {ts : List T} (k : OwnA w h lo hi u ts) : ∃ a cap, u = .slice a ts.length cap := by
  cases h with
  | zero => obtain ⟨rfl, a, cap, rfl⟩ := k; exact ⟨a, cap, rfl⟩
  | succ h => obtain ⟨a, cap, e, _⟩ := k; exact ⟨a, cap, e⟩
theorem OwnA.nil (w : World) (h lo hi : Nat) (a : Option Addr) (cap : Nat) : OwnA w h lo hi (.slice a 0 cap) [] := by
  cases h with
  | zero => exact ⟨rfl, a, cap, rfl⟩
  | succ h => exact ⟨a, cap, rfl, Or.inl rfl⟩
theorem OwnA.off {w : World} {h lo hi : Nat} {u : Value} {ts : List T} (k : OwnA w h lo hi u ts) {g : Nat} (hg : g < lo ∨ hi ≤ g) (j : Nat) (v : Value) : OwnA (w.setCell ⟨g, j, none⟩ v) h lo hi u ts :=
  k.keep fun b b1 b2 => Below.heap_setCell _ _ _ _ (fun e => by simp at e; omega)
end Go.Proofs.Ytidbokheeieifaa
namespace Go.Proofs.Ytidbokheeieifaa
open Go.RowKit

theorem infoTerm : (Try.prog.info? 26).map (fun i => (i.zero, i.size, i.bytes)) = some (some (.agg #[.int .i64 0, .int .i64 0, .string ByteArray.empty, .slice none 0 0]), 4, 56) := by kernel_rfl

theorem heap_new (w : World) (o : Obj) {n : Nat} (h : n = w.heap.size) : (w.alloc o).heap[n]? = some o := by
  subst h
  show (w.heap.push o)[w.heap.size]? = _
  simp
theorem heap_mid (w : World) (o p : Obj) {n : Nat} (h : n = w.heap.size) : ((w.alloc o).alloc p).heap[n]? = some o := by
  rw [Below.heap_alloc _ _ _ (by simp; omega)]
  exact heap_new w o h

theorem results_cell {fn : Func} {a : Tmp} {t : TypeId} {tmps : Array Value} {ad : Addr} (h : fn.results = #[.cell a t]) (ha : tmps.getD a undef = .pointer (some ad)) (P : Program) (w : World) :
    (results fn tmps).run P w = (loadVar t ad).run P w := by
  have h2 : tmps[a]?.getD undef = .pointer (some ad) := by rw [← ha]; simp
  simp [results, h, h2, asAddr]

theorem bel_drew {wr w1 : World} (hb : Below wr.drew.heap.size wr.drew w1) : Below wr.heap.size wr w1 := ((Below.refl _ _).drew).trans hb
end Go.Proofs.Ytidbokheeieifaa
