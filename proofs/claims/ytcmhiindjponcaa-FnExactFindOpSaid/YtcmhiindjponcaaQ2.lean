/-
  A slice of strings: what it holds. No walk.
  What a call owns stays owned while other memory is made or written: small facts on worlds. No walk.
  Plain facts on the sizes of lists of strings and of what is joined out of them. No program.
  A slice of strings that came in, or that was made: small facts. No walk.
  Terms as trees; a term that lies in memory; how much it holds. No walk.
-/
import Derived.Test.YtcmhiindjponcaaRows
import Derived.WalkKit
import Derived.WalkSpells
import Derived.WalkLawsBesides
import Derived.Lib.Hide
import Derived.BigQuiet
import Derived.Deep.QuietTactic
import Derived.Lib.Join
import Derived.ProofKit
namespace Go.Proofs.Ytcmhiindjponcaa
open Go.RowKit

/-- The slice value v holds the strings ps. -/
def StrsAt (w : World) (v : Value) (ps : List ByteArray) : Prop :=
  ∃ a cap, v = .slice a ps.length cap ∧ (ps = [] ∨ ∃ b o, a = some ⟨b, o, none⟩ ∧ ∀ i p, ps[i]? = some p → w.cell? ⟨b, o + i, none⟩ = some (.string p))

theorem StrsAt.of_owns {w : World} {B : Nat} {e : TypeId} {v : Value} {ps : List ByteArray} (h : w.ownsRow B e 1 v ps.length (ps.map Value.string)) : StrsAt w v ps := by
  rcases h.2 with ⟨rfl, h0⟩ | ⟨g, cap, cur, rfl, _, _, _, _, _, _⟩
  · exact ⟨none, 0, by rw [h0], Or.inl (List.eq_nil_of_length_eq_zero h0)⟩
  · refine ⟨_, cap, rfl, Or.inr ⟨g, 0, rfl, fun i p hp => ?_⟩⟩
    have hi : i < ps.length := (List.getElem?_eq_some_iff.1 hp).1
    rw [Nat.zero_add, h.cellAt i (by omega)]
    simp [hp]
theorem StrsAt.drewN {w : World} {v : Value} {ps : List ByteArray} (h : StrsAt w v ps) (n : Nat) : StrsAt (w.drewN n) v ps := by
  obtain ⟨a, cap, rfl, h⟩ := h
  refine ⟨a, cap, rfl, ?_⟩
  rcases h with h | ⟨b, o, rfl, h⟩
  · exact Or.inl h
  · exact Or.inr ⟨b, o, rfl, fun i p hp => by simpa using h i p hp⟩

end Go.Proofs.Ytcmhiindjponcaa
namespace Go.Proofs.Ytcmhiindjponcaa
open Go.RowKit

theorem Below.toGrown {w w' : World} (h : Below w.heap.size w w') (row : Option Nat) : w.grownBy w' row := ⟨h.os, h.tape, h.output, h.size, fun k hk _ => h.block k hk⟩
theorem grown_trans {a b c : World} {row : Option Nat} (h : a.grownBy b row) (k : b.grownBy c row) : a.grownBy c row :=
  ⟨k.os.trans h.os, k.tape.trans h.tape, k.output.trans h.output, Nat.le_trans h.size k.size, fun i hi hr => (k.block i (Nat.lt_of_lt_of_le hi h.size) hr).trans (h.block i hi hr)⟩
theorem grown_refl (a : World) (row : Option Nat) : a.grownBy a row := ⟨rfl, rfl, rfl, Nat.le_refl _, fun _ _ _ => rfl⟩

def TrueEnd (w : World) (e : Ending) (w' : World) : Prop := e = .returned (.bool true) ∧ Below w.heap.size w w'

theorem keep_own {w w' : World} {B n size : Nat} {e : TypeId} {v : Value} {xs : List Value} (h : w.ownsRow B e size v n xs) (hb : Below w.heap.size w w') : w'.ownsRow B e size v n xs :=
  h.kept (Below.toGrown hb none) (by rcases h.2 with ⟨rfl, _⟩ | ⟨g, cap, cur, rfl, _⟩ <;> simp [Value.ownBlock])
theorem keep_other {w w' : World} {A B n m size : Nat} {e f : TypeId} {v u : Value} {xs ys : List Value} (h : w.ownsRow A e size v n xs) (hA : ∀ k, v.ownBlock = some k → k < B) (hu : w.ownsRow B f size u m ys) (hg : w.grownBy w' u.ownBlock) : w'.ownsRow A e size v n xs :=
  h.kept hg (by
    cases hv : v.ownBlock with
    | none => exact Or.inl rfl
    | some k =>
      refine Or.inr fun e2 => ?_
      have h1 := hA k hv
      have h2 := (hu.lt k e2.symm).1
      omega)
theorem keep_above {w w' : World} {A n size : Nat} {e : TypeId} {v u : Value} {xs : List Value} (h : w.ownsRow A e size v n xs) (hA : ∀ k, u.ownBlock = some k → k < A) (hg : w.grownBy w' u.ownBlock) : w'.ownsRow A e size v n xs :=
  h.kept hg (by
    cases hv : v.ownBlock with
    | none => exact Or.inl rfl
    | some k =>
      refine Or.inr fun e2 => ?_
      have h1 := hA k e2.symm
      have h2 := (h.lt k hv).1
      omega)

theorem own_low {w : World} {B B' n size : Nat} {e : TypeId} {v : Value} {xs : List Value} (h : w.ownsRow B e size v n xs) (hb : B' ≤ B) : w.ownsRow B' e size v n xs := by
  refine ⟨h.1, ?_⟩
  rcases h.2 with hn | ⟨g, cap, cur, hv, hg, rest⟩
  · exact Or.inl hn
  · exact Or.inr ⟨g, cap, cur, hv, Nat.le_trans hb hg, rest⟩
theorem set_grown (w : World) (B j : Nat) (v : Value) : w.grownBy (w.setCell ⟨B, j, none⟩ v) (some B) :=
  ⟨rfl, rfl, rfl, by simp [World.setCell], fun k _ hk => Below.heap_setCell _ _ _ _ (fun e => hk (by rw [e]))⟩
theorem below_q (w : World) (q : Nat) : Below w.heap.size w (w.drewN q) := ⟨rfl, rfl, rfl, Nat.le_refl _, fun _ _ => rfl⟩

end Go.Proofs.Ytcmhiindjponcaa
namespace Go.Proofs.Ytcmhiindjponcaa
open Go

/-- The bytes of all strings together. -/
def total (ps : List ByteArray) : Nat := (ps.map (·.size)).sum
theorem total_snoc (ps : List ByteArray) (p : ByteArray) : total (ps ++ [p]) = total ps + p.size := by simp [total]
theorem take_next {α : Type} (l : List α) (k : Nat) (x : α) (h : l[k]? = some x) : l.take (k + 1) = l.take k ++ [x] := by
  rw [List.take_add_one, h]; rfl
theorem total_take_le (ps : List ByteArray) (k : Nat) : total (ps.take k) ≤ total ps := by
  have h : total ps = total (ps.take k) + total (ps.drop k) := by
    unfold total
    rw [← List.sum_append, ← List.map_append, List.take_append_drop]
  omega

theorem join_length (sep : List UInt8) (ps : List ByteArray) : (Lib.join (ps.map (·.data.toList)) sep).length ≤ total ps + ps.length * sep.length := by
  cases ps with
  | nil => simp [Lib.join_nil]
  | cons p r =>
    rw [List.map_cons, Lib.join_cons]
    have h : ∀ r : List ByteArray, (Lib.joinTail sep (r.map (·.data.toList))).length = total r + r.length * sep.length := by
      intro r
      induction r with
      | nil => simp [Lib.joinTail, total]
      | cons q r ih =>
        have e : Lib.joinTail sep ((q :: r).map (·.data.toList)) = sep ++ q.data.toList ++ Lib.joinTail sep (r.map (·.data.toList)) := by simp [Lib.joinTail]
        have e2 : total (q :: r) = q.size + total r := by simp [total]
        have e3 : q.data.toList.length = q.size := by simp
        rw [e, List.length_append, List.length_append, ih, e2, e3, List.length_cons, Nat.add_mul]
        omega
    have e2 : total (p :: r) = p.size + total r := by simp [total]
    have e3 : p.data.toList.length = p.size := by simp
    rw [List.length_append, h r, e2, e3, List.length_cons, Nat.add_mul]
    omega

end Go.Proofs.Ytcmhiindjponcaa
namespace Go.Proofs.Ytcmhiindjponcaa
open Go.RowKit

theorem infoStr' : (Try.prog.info? 9).map (fun i => (i.zero, i.size, i.bytes)) = some (some (.string ByteArray.empty), 1, 16) := by kernel_rfl

/-- A slice of strings that came in. -/
theorem strsAt_of_open {w : World} {a : Addr} {len cap : Nat} {ss : List ByteArray} (hl : len ≤ ss.length)
    (hc : ∀ i, i < ss.length → w.cell? (a.add i) = some (.string (ss.getD i ByteArray.empty))) : StrsAt w (.slice (some a) len cap) (ss.take len) := by
  have hlen : (ss.take len).length = len := by simp; omega
  refine ⟨some a, cap, by rw [hlen], ?_⟩
  by_cases h0 : len = 0
  · left; rw [h0]; simp
  · right
    have h := hc 0 (by omega)
    have hs := World.cell?_spot h
    obtain ⟨b, o, sp⟩ := a
    have hsp : sp = none := by simpa [Addr.add] using hs
    subst hsp
    refine ⟨b, o, rfl, fun i p hp => ?_⟩
    have hi : i < len := by have := (List.getElem?_eq_some_iff.1 hp).1; omega
    have hx := hc i (by omega)
    have e : (⟨b, o, none⟩ : Addr).add i = ⟨b, o + i, none⟩ := by
      unfold Addr.add
      split
      · rename_i h; subst h; rfl
      · rfl
    rw [e] at hx
    rw [hx]
    rw [List.getElem?_take, if_pos hi] at hp
    simp [List.getD, hp]

theorem StrsAt.below {w w' : World} {v : Value} {ps : List ByteArray} (h : StrsAt w v ps) (hb : Below w.heap.size w w') : StrsAt w' v ps := by
  obtain ⟨a, cap, rfl, h⟩ := h
  refine ⟨a, cap, rfl, ?_⟩
  rcases h with h | ⟨b, o, rfl, h⟩
  · exact Or.inl h
  · refine Or.inr ⟨b, o, rfl, fun i p hp => ?_⟩
    have hc := h i p hp
    rw [hb.cell (World.block_lt_of_cell? w _ hc)]; exact hc
end Go.Proofs.Ytcmhiindjponcaa
namespace Go.Proofs.Ytcmhiindjponcaa
open Go.RowKit

/-- A term: its kind, its number, its name, its arguments. -/
inductive T where
  | node (k n : Int) (s : ByteArray) (xs : List T) : T

/-- The value of a struct of a term. -/
abbrev tv (k n : Int) (s : ByteArray) (u : Value) : Value := .agg #[.int .i64 k, .int .i64 n, .string s, u]

/-- The slice value u holds the terms ts, of a depth of at most h, in blocks from lo on. -/
def ArgsAt (w : World) (lo : Nat) : Nat → Value → List T → Prop
  | 0, u, ts => ts = [] ∧ ∃ a cap, u = .slice a 0 cap
  | h + 1, u, ts => ∃ a cap, u = .slice a ts.length cap ∧ ts.length ≤ maxLen ∧ (ts = [] ∨ ∃ b o, a = some ⟨b, o, none⟩ ∧ lo ≤ b ∧ ∀ i k n s xs, ts[i]? = some (T.node k n s xs) → s.size ≤ maxLen ∧ ∃ u', w.cell? ⟨b, o + i * 4, none⟩ = some (.int .i64 k) ∧
      w.cell? ⟨b, o + i * 4 + 1, none⟩ = some (.int .i64 n) ∧ w.cell? ⟨b, o + i * 4 + 2, none⟩ = some (.string s) ∧ w.cell? ⟨b, o + i * 4 + 3, none⟩ = some u' ∧ ArgsAt w lo h u' xs)

/-- The value v is the term t, of a depth of at most h below it. -/
def TermAt (w : World) (lo h : Nat) (v : Value) (t : T) : Prop := ∃ k n s u xs, v = tv k n s u ∧ t = .node k n s xs ∧ s.size ≤ maxLen ∧ ArgsAt w lo h u xs

/-- What the cells of a row of terms hold. -/
def RowAt (w : World) (lo h b o : Nat) (ts : List T) : Prop :=
  ∀ i k n s xs, ts[i]? = some (T.node k n s xs) → s.size ≤ maxLen ∧ ∃ u', w.cell? ⟨b, o + i * 4, none⟩ = some (.int .i64 k) ∧
    w.cell? ⟨b, o + i * 4 + 1, none⟩ = some (.int .i64 n) ∧ w.cell? ⟨b, o + i * 4 + 2, none⟩ = some (.string s) ∧ w.cell? ⟨b, o + i * 4 + 3, none⟩ = some u' ∧ ArgsAt w lo h u' xs

theorem TermAt.form {w : World} {lo h : Nat} {v : Value} {t : T} (ht : TermAt w lo h v t) : ∃ k n s u, v = tv k n s u := by
  obtain ⟨k, n, s, u, _, e, _⟩ := ht
  exact ⟨k, n, s, u, e⟩

theorem ArgsAt.nil (w : World) (lo h : Nat) (a : Option Addr) (cap : Nat) : ArgsAt w lo h (.slice a 0 cap) [] := by
  cases h with
  | zero => exact ⟨rfl, a, cap, rfl⟩
  | succ h => exact ⟨a, cap, rfl, Nat.zero_le _, Or.inl rfl⟩

theorem ArgsAt.keep {w w' : World} {lo : Nat} (hk : ∀ (ad : Addr) v, lo ≤ ad.block → w.cell? ad = some v → w'.cell? ad = some v) : ∀ {h : Nat} {u : Value} {ts : List T}, ArgsAt w lo h u ts → ArgsAt w' lo h u ts
  | 0, _, _, k => k
  | h + 1, _, _, ⟨a, cap, e, hl, hc⟩ => by
    refine ⟨a, cap, e, hl, ?_⟩
    rcases hc with hc | ⟨b, o, rfl, hlo, hc⟩
    · exact Or.inl hc
    · refine Or.inr ⟨b, o, rfl, hlo, fun i k n s xs hi => ?_⟩
      obtain ⟨hs, u', c0, c1, c2, c3, hr⟩ := hc i k n s xs hi
      exact ⟨hs, u', hk _ _ hlo c0, hk _ _ hlo c1, hk _ _ hlo c2, hk _ _ hlo c3, hr.keep hk⟩
theorem ArgsAt.below {w w' : World} {lo h : Nat} {u : Value} {ts : List T} (k : ArgsAt w lo h u ts) (hb : Below w.heap.size w w') : ArgsAt w' lo h u ts :=
  k.keep fun ad v _ hv => by rw [hb.cell (World.block_lt_of_cell? w _ hv)]; exact hv
theorem ArgsAt.grown {w w' : World} {lo h : Nat} {u : Value} {ts : List T} {row : Option Nat} (k : ArgsAt w lo h u ts) (hg : w.grownBy w' row) (hr : ∀ j, row = some j → j < lo) : ArgsAt w' lo h u ts :=
  k.keep fun ad v hlo hv => hg.cell hv (fun e => by have := hr ad.block e.symm; omega)
theorem ArgsAt.low {w : World} {lo lo' : Nat} (hlo : lo' ≤ lo) : ∀ {h : Nat} {u : Value} {ts : List T}, ArgsAt w lo h u ts → ArgsAt w lo' h u ts
  | 0, _, _, k => k
  | h + 1, _, _, ⟨a, cap, e, hl, hc⟩ => by
    refine ⟨a, cap, e, hl, ?_⟩
    rcases hc with hc | ⟨b, o, rfl, hb, hc⟩
    · exact Or.inl hc
    · refine Or.inr ⟨b, o, rfl, Nat.le_trans hlo hb, fun i k n s xs hi => ?_⟩
      obtain ⟨hs, u', c0, c1, c2, c3, hr⟩ := hc i k n s xs hi
      exact ⟨hs, u', c0, c1, c2, c3, hr.low hlo⟩
theorem TermAt.below {w w' : World} {lo h : Nat} {v : Value} {t : T} (ht : TermAt w lo h v t) (hb : Below w.heap.size w w') : TermAt w' lo h v t := by
  obtain ⟨k, n, s, u, xs, e1, e2, hs, ha⟩ := ht
  exact ⟨k, n, s, u, xs, e1, e2, hs, ha.below hb⟩
theorem TermAt.low {w : World} {lo lo' h : Nat} {v : Value} {t : T} (ht : TermAt w lo h v t) (hlo : lo' ≤ lo) : TermAt w lo' h v t := by
  obtain ⟨k, n, s, u, xs, e1, e2, hs, ha⟩ := ht
  exact ⟨k, n, s, u, xs, e1, e2, hs, ha.low hlo⟩
theorem ArgsAt.more {w : World} {lo : Nat} : ∀ {h : Nat} {u : Value} {ts : List T}, ArgsAt w lo h u ts → ArgsAt w lo (h + 1) u ts
  | 0, _, _, ⟨e, a, cap, e2⟩ => by subst e; exact ⟨a, cap, e2, Nat.zero_le _, Or.inl rfl⟩
  | h + 1, _, _, ⟨a, cap, e, hl, hc⟩ => by
    refine ⟨a, cap, e, hl, ?_⟩
    rcases hc with hc | ⟨b, o, rfl, hb, hc⟩
    · exact Or.inl hc
    · refine Or.inr ⟨b, o, rfl, hb, fun i k n s xs hi => ?_⟩
      obtain ⟨hs, u', c0, c1, c2, c3, hr⟩ := hc i k n s xs hi
      exact ⟨hs, u', c0, c1, c2, c3, hr.more⟩
theorem ArgsAt.le {w : World} {lo h h' : Nat} {u : Value} {ts : List T} (k : ArgsAt w lo h u ts) (hle : h ≤ h') : ArgsAt w lo h' u ts := by
  induction hle with
  | refl => exact k
  | step _ ih => exact ih.more
/-- What a loop over the arguments sees: empty, or a row. -/
theorem ArgsAt.cases {w : World} {lo h : Nat} {u : Value} {ts : List T} (k : ArgsAt w lo h u ts) :
    (ts = [] ∧ ∃ a cap, u = .slice a 0 cap) ∨ ∃ h' b o cap, h = h' + 1 ∧ u = .slice (some ⟨b, o, none⟩) ts.length cap ∧ ts.length ≤ maxLen ∧ lo ≤ b ∧ RowAt w lo h' b o ts := by
  cases h with
  | zero => exact Or.inl k
  | succ h =>
    obtain ⟨a, cap, e, hl, hc⟩ := k
    rcases hc with rfl | ⟨b, o, rfl, hb, hc⟩
    · exact Or.inl ⟨rfl, a, cap, e⟩
    · exact Or.inr ⟨h, b, o, cap, rfl, e, hl, hb, hc⟩

theorem ArgsAt.slice {w : World} {lo h : Nat} {u : Value} {ts : List T} (k : ArgsAt w lo h u ts) : ∃ a cap, u = .slice a ts.length cap := by
  cases h with
  | zero => obtain ⟨rfl, a, cap, rfl⟩ := k; exact ⟨a, cap, rfl⟩
  | succ h => obtain ⟨a, cap, e, _⟩ := k; exact ⟨a, cap, e⟩

theorem TermAt.shape {w : World} {lo h : Nat} {v : Value} {t : T} (ht : TermAt w lo h v t) : ∃ k n s a m cap, v = tv k n s (.slice a m cap) := by
  obtain ⟨k, n, s, u, xs, e, _, _, ha⟩ := ht
  obtain ⟨a, cap, rfl⟩ := ha.slice
  exact ⟨k, n, s, a, _, cap, e⟩

/-! ### how much a term holds -/
/-- The bytes of the names and the arguments below a term. -/
def wT : T → Nat
  | .node _ _ s xs => s.size + (xs.length + (xs.map wT).sum)
def wS (xs : List T) : Nat := (xs.map wT).sum
/-- How many terms there are in a term. -/
def cT : T → Nat
  | .node _ _ _ xs => 1 + (xs.map cT).sum
def cS (xs : List T) : Nat := (xs.map cT).sum
/-- How deep a term is. -/
def dT : T → Nat
  | .node _ _ _ xs => (xs.map dT).foldl max 0 + 1
def dS (xs : List T) : Nat := (xs.map dT).foldl max 0
theorem foldl_max (l : List Nat) (a b : Nat) (h : ∀ x ∈ l, x ≤ b) (ha : a ≤ b) : l.foldl max a ≤ b := by
  induction l generalizing a with
  | nil => exact ha
  | cons x l ih => exact ih (max a x) (fun y hy => h y (by simp [hy])) (by have := h x (by simp); omega)
theorem wS_snoc (l : List T) (t : T) : wS (l ++ [t]) = wS l + wT t := by simp [wS]
theorem cS_snoc (l : List T) (t : T) : cS (l ++ [t]) = cS l + cT t := by simp [cS]
theorem wT_node (k n : Int) (s : ByteArray) (xs : List T) : wT (.node k n s xs) = s.size + (xs.length + wS xs) := by rw [wT]; rfl
theorem cT_node (k n : Int) (s : ByteArray) (xs : List T) : cT (.node k n s xs) = 1 + cS xs := by rw [cT]; rfl
theorem cS_of (xs : List T) (h : ∀ x ∈ xs, cT x ≤ 1 + wT x) : cS xs ≤ xs.length + wS xs := by
  induction xs with
  | nil => simp [cS]
  | cons x r ih =>
    have h1 := h x (by simp)
    have h2 := ih (fun y hy => h y (by simp [hy]))
    simp only [cS, wS, List.map_cons, List.sum_cons, List.length_cons] at *
    omega
theorem cT_le : ∀ t : T, cT t ≤ 1 + wT t
  | .node k n s xs => by
    have h := cS_of xs (fun x _ => cT_le x)
    rw [cT_node, wT_node]
    omega
theorem cT_mem (xs : List T) : ∀ x ∈ xs, cT x ≤ cS xs := by
  induction xs with
  | nil => simp
  | cons y r ih =>
    intro x hx
    simp only [cS, List.map_cons, List.sum_cons]
    rcases List.mem_cons.1 hx with rfl | hx
    · omega
    · have := ih x hx; simp only [cS] at this; omega
theorem dT_le : ∀ t : T, dT t ≤ cT t
  | .node k n s xs => by
    have h : ∀ x ∈ xs, dT x ≤ cT x := fun x _ => dT_le x
    rw [dT, cT_node]
    have := foldl_max (xs.map dT) 0 (cS xs) (fun y hy => by
      obtain ⟨x, hx, rfl⟩ := List.mem_map.1 hy
      exact Nat.le_trans (h x hx) (cT_mem xs x hx)) (Nat.zero_le _)
    omega
theorem cS_le (xs : List T) : cS xs ≤ xs.length + wS xs := cS_of xs (fun x _ => cT_le x)
theorem tk {α : Type} (l : List α) (k : Nat) (x : α) (h : l[k]? = some x) : l.take (k + 1) = l.take k ++ [x] := by
  rw [List.take_add_one, h]; rfl
theorem wS_take (ts : List T) (k : Nat) : wS (ts.take k) ≤ wS ts := by
  have h : wS ts = wS (ts.take k) + wS (ts.drop k) := by
    unfold wS
    rw [← List.sum_append, ← List.map_append, List.take_append_drop]
  omega
theorem wT_at (ts : List T) (k : Nat) (t : T) (h : ts[k]? = some t) : wS (ts.take k) + wT t ≤ wS ts := by
  have h1 := wS_take ts (k + 1)
  rw [tk ts k t h, wS_snoc] at h1
  exact h1
end Go.Proofs.Ytcmhiindjponcaa
