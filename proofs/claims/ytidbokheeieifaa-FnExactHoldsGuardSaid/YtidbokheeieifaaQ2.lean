/-
  What a call owns stays owned while other memory is made or written: small facts on worlds. No walk.
  Terms as trees; a term that lies in memory; how much it holds. No walk.
  The rows of a term that are a call's own and lie apart: what keeps them. No walk.
  What the walks over terms share: a struct in a block, an argument's cells, an answer that leaves what was there. No walk.
  Levels of terms: impl.argsOf returns the row of all arguments of a row of terms, in memory of the call's own.
  Arguments, and rows of terms, whose rows lie in blocks of which a property holds. No walk.
  A term of which all rows below are a call's own and lie apart, with what they hold; a copy in the making: what is still to be copied, and what it will have been worth. No walk.
  Positions: the subterm at one, a term in which it is replaced, all positions of a term. No walk.
-/
import Derived.Test.YtidbokheeieifaaRows
import Derived.WalkKit
import Derived.WalkSpells
import Derived.BigQuiet
import Derived.Deep.QuietTactic
import Derived.Lib.Hide
import Derived.WalkLawsBesides
import Derived.OwnWalk
import Derived.Laws.AppendOwn
namespace Go.Proofs.Ytidbokheeieifaa
open Go.RowKit

theorem Below.toGrown {w w' : World} (h : Below w.heap.size w w') (row : Option Nat) : w.grownBy w' row := ⟨h.os, h.tape, h.output, h.size, fun k hk _ => h.block k hk⟩
theorem grown_trans {a b c : World} {row : Option Nat} (h : a.grownBy b row) (k : b.grownBy c row) : a.grownBy c row :=
  ⟨k.os.trans h.os, k.tape.trans h.tape, k.output.trans h.output, Nat.le_trans h.size k.size, fun i hi hr => (k.block i (Nat.lt_of_lt_of_le hi h.size) hr).trans (h.block i hi hr)⟩
theorem grown_refl (a : World) (row : Option Nat) : a.grownBy a row := ⟨rfl, rfl, rfl, Nat.le_refl _, fun _ _ _ => rfl⟩

def TrueEnd (w : World) (e : Ending) (w' : World) : Prop := e = .returned (.bool true) ∧ Below w.heap.size w w'

theorem keep_own {w w' : World} {B n size : Nat} {e : TypeId} {v : Value} {xs : List Value} (h : w.ownsRow B e size v n xs) (hb : Below w.heap.size w w') : w'.ownsRow B e size v n xs :=
  h.kept (Below.toGrown hb none) (by rcases h.2 with ⟨rfl, _⟩ | ⟨g, cap, cur, rfl, _⟩ <;> simp [Value.ownBlock])
theorem keep_other {w w' : World} {A B n m size : Nat} {e f : TypeId} {v u : Value} {xs ys : List Value} (h : w.ownsRow A e size v n xs) (hA : ∀ k, v.ownBlock = some k → k < B) (hu : w.ownsRow B f size u m ys) (hg : w.grownBy w' u.ownBlock) : w'.ownsRow A e size v n xs :=
  h.kept hg (by
    cases hv : v.ownBlock with
    | none => exact Or.inl rfl
    | some k =>
      refine Or.inr fun e2 => ?_
      have h1 := hA k hv
      have h2 := (hu.lt k e2.symm).1
      omega)
theorem keep_above {w w' : World} {A n size : Nat} {e : TypeId} {v u : Value} {xs : List Value} (h : w.ownsRow A e size v n xs) (hA : ∀ k, u.ownBlock = some k → k < A) (hg : w.grownBy w' u.ownBlock) : w'.ownsRow A e size v n xs :=
  h.kept hg (by
    cases hv : v.ownBlock with
    | none => exact Or.inl rfl
    | some k =>
      refine Or.inr fun e2 => ?_
      have h1 := hA k e2.symm
      have h2 := (h.lt k hv).1
      omega)

theorem own_low {w : World} {B B' n size : Nat} {e : TypeId} {v : Value} {xs : List Value} (h : w.ownsRow B e size v n xs) (hb : B' ≤ B) : w.ownsRow B' e size v n xs := by
  refine ⟨h.1, ?_⟩
  rcases h.2 with hn | ⟨g, cap, cur, hv, hg, rest⟩
  · exact Or.inl hn
  · exact Or.inr ⟨g, cap, cur, hv, Nat.le_trans hb hg, rest⟩
theorem set_grown (w : World) (B j : Nat) (v : Value) : w.grownBy (w.setCell ⟨B, j, none⟩ v) (some B) :=
  ⟨rfl, rfl, rfl, by simp [World.setCell], fun k _ hk => Below.heap_setCell _ _ _ _ (fun e => hk (by rw [e]))⟩
theorem below_q (w : World) (q : Nat) : Below w.heap.size w (w.drewN q) := ⟨rfl, rfl, rfl, Nat.le_refl _, fun _ _ => rfl⟩

end Go.Proofs.Ytidbokheeieifaa
namespace Go.Proofs.Ytidbokheeieifaa
open Go.RowKit

/-- A term: its kind, its number, its name, its arguments. -/
inductive T where
  | node (k n : Int) (s : ByteArray) (xs : List T) : T

/-- The value of a struct of a term. -/
abbrev tv (k n : Int) (s : ByteArray) (u : Value) : Value := .agg #[.int .i64 k, .int .i64 n, .string s, u]

/-- The slice value u holds the terms ts, of a depth of at most h, in blocks from lo on. -/
def ArgsAt (w : World) (lo : Nat) : Nat → Value → List T → Prop
  | 0, u, ts => ts = [] ∧ ∃ a cap, u = .slice a 0 cap
  | h + 1, u, ts => ∃ a cap, u = .slice a ts.length cap ∧ ts.length ≤ maxLen ∧ (ts = [] ∨ ∃ b o, a = some ⟨b, o, none⟩ ∧ lo ≤ b ∧ ∀ i k n s xs, ts[i]? = some (T.node k n s xs) → s.size ≤ maxLen ∧ ∃ u', w.cell? ⟨b, o + i * 4, none⟩ = some (.int .i64 k) ∧
      w.cell? ⟨b, o + i * 4 + 1, none⟩ = some (.int .i64 n) ∧ w.cell? ⟨b, o + i * 4 + 2, none⟩ = some (.string s) ∧ w.cell? ⟨b, o + i * 4 + 3, none⟩ = some u' ∧ ArgsAt w lo h u' xs)

/-- The value v is the term t, of a depth of at most h below it. -/
def TermAt (w : World) (lo h : Nat) (v : Value) (t : T) : Prop := ∃ k n s u xs, v = tv k n s u ∧ t = .node k n s xs ∧ s.size ≤ maxLen ∧ ArgsAt w lo h u xs

/-- What the cells of a row of terms hold. -/
def RowAt (w : World) (lo h b o : Nat) (ts : List T) : Prop :=
  ∀ i k n s xs, ts[i]? = some (T.node k n s xs) → s.size ≤ maxLen ∧ ∃ u', w.cell? ⟨b, o + i * 4, none⟩ = some (.int .i64 k) ∧
    w.cell? ⟨b, o + i * 4 + 1, none⟩ = some (.int .i64 n) ∧ w.cell? ⟨b, o + i * 4 + 2, none⟩ = some (.string s) ∧ w.cell? ⟨b, o + i * 4 + 3, none⟩ = some u' ∧ ArgsAt w lo h u' xs

theorem TermAt.form {w : World} {lo h : Nat} {v : Value} {t : T} (ht : TermAt w lo h v t) : ∃ k n s u, v = tv k n s u := by
  obtain ⟨k, n, s, u, _, e, _⟩ := ht
  exact ⟨k, n, s, u, e⟩

theorem ArgsAt.nil (w : World) (lo h : Nat) (a : Option Addr) (cap : Nat) : ArgsAt w lo h (.slice a 0 cap) [] := by
  cases h with
  | zero => exact ⟨rfl, a, cap, rfl⟩
  | succ h => exact ⟨a, cap, rfl, Nat.zero_le _, Or.inl rfl⟩

theorem ArgsAt.keep {w w' : World} {lo : Nat} (hk : ∀ (ad : Addr) v, lo ≤ ad.block → w.cell? ad = some v → w'.cell? ad = some v) : ∀ {h : Nat} {u : Value} {ts : List T}, ArgsAt w lo h u ts → ArgsAt w' lo h u ts
  | 0, _, _, k => k
  | h + 1, _, _, ⟨a, cap, e, hl, hc⟩ => by
    refine ⟨a, cap, e, hl, ?_⟩
    rcases hc with hc | ⟨b, o, rfl, hlo, hc⟩
    · exact Or.inl hc
    · refine Or.inr ⟨b, o, rfl, hlo, fun i k n s xs hi => ?_⟩
      obtain ⟨hs, u', c0, c1, c2, c3, hr⟩ := hc i k n s xs hi
      exact ⟨hs, u', hk _ _ hlo c0, hk _ _ hlo c1, hk _ _ hlo c2, hk _ _ hlo c3, hr.keep hk⟩
theorem ArgsAt.below {w w' : World} {lo h : Nat} {u : Value} {ts : List T} (k : ArgsAt w lo h u ts) (hb : Below w.heap.size w w') : ArgsAt w' lo h u ts :=
  k.keep fun ad v _ hv => by rw [hb.cell (World.block_lt_of_cell? w _ hv)]; exact hv
theorem ArgsAt.grown {w w' : World} {lo h : Nat} {u : Value} {ts : List T} {row : Option Nat} (k : ArgsAt w lo h u ts) (hg : w.grownBy w' row) (hr : ∀ j, row = some j → j < lo) : ArgsAt w' lo h u ts :=
  k.keep fun ad v hlo hv => hg.cell hv (fun e => by have := hr ad.block e.symm; omega)
theorem ArgsAt.low {w : World} {lo lo' : Nat} (hlo : lo' ≤ lo) : ∀ {h : Nat} {u : Value} {ts : List T}, ArgsAt w lo h u ts → ArgsAt w lo' h u ts
  | 0, _, _, k => k
  | h + 1, _, _, ⟨a, cap, e, hl, hc⟩ => by
    refine ⟨a, cap, e, hl, ?_⟩
    rcases hc with hc | ⟨b, o, rfl, hb, hc⟩
    · exact Or.inl hc
    · refine Or.inr ⟨b, o, rfl, Nat.le_trans hlo hb, fun i k n s xs hi => ?_⟩
      obtain ⟨hs, u', c0, c1, c2, c3, hr⟩ := hc i k n s xs hi
      exact ⟨hs, u', c0, c1, c2, c3, hr.low hlo⟩
theorem TermAt.below {w w' : World} {lo h : Nat} {v : Value} {t : T} (ht : TermAt w lo h v t) (hb : Below w.heap.size w w') : TermAt w' lo h v t := by
  obtain ⟨k, n, s, u, xs, e1, e2, hs, ha⟩ := ht
  exact ⟨k, n, s, u, xs, e1, e2, hs, ha.below hb⟩
theorem TermAt.low {w : World} {lo lo' h : Nat} {v : Value} {t : T} (ht : TermAt w lo h v t) (hlo : lo' ≤ lo) : TermAt w lo' h v t := by
  obtain ⟨k, n, s, u, xs, e1, e2, hs, ha⟩ := ht
  exact ⟨k, n, s, u, xs, e1, e2, hs, ha.low hlo⟩
theorem ArgsAt.more {w : World} {lo : Nat} : ∀ {h : Nat} {u : Value} {ts : List T}, ArgsAt w lo h u ts → ArgsAt w lo (h + 1) u ts
  | 0, _, _, ⟨e, a, cap, e2⟩ => by subst e; exact ⟨a, cap, e2, Nat.zero_le _, Or.inl rfl⟩
  | h + 1, _, _, ⟨a, cap, e, hl, hc⟩ => by
    refine ⟨a, cap, e, hl, ?_⟩
    rcases hc with hc | ⟨b, o, rfl, hb, hc⟩
    · exact Or.inl hc
    · refine Or.inr ⟨b, o, rfl, hb, fun i k n s xs hi => ?_⟩
      obtain ⟨hs, u', c0, c1, c2, c3, hr⟩ := hc i k n s xs hi
      exact ⟨hs, u', c0, c1, c2, c3, hr.more⟩
theorem ArgsAt.le {w : World} {lo h h' : Nat} {u : Value} {ts : List T} (k : ArgsAt w lo h u ts) (hle : h ≤ h') : ArgsAt w lo h' u ts := by
  induction hle with
  | refl => exact k
  | step _ ih => exact ih.more
/-- What a loop over the arguments sees: empty, or a row. -/
theorem ArgsAt.cases {w : World} {lo h : Nat} {u : Value} {ts : List T} (k : ArgsAt w lo h u ts) :
    (ts = [] ∧ ∃ a cap, u = .slice a 0 cap) ∨ ∃ h' b o cap, h = h' + 1 ∧ u = .slice (some ⟨b, o, none⟩) ts.length cap ∧ ts.length ≤ maxLen ∧ lo ≤ b ∧ RowAt w lo h' b o ts := by
  cases h with
  | zero => exact Or.inl k
  | succ h =>
    obtain ⟨a, cap, e, hl, hc⟩ := k
    rcases hc with rfl | ⟨b, o, rfl, hb, hc⟩
    · exact Or.inl ⟨rfl, a, cap, e⟩
    · exact Or.inr ⟨h, b, o, cap, rfl, e, hl, hb, hc⟩

theorem ArgsAt.slice {w : World} {lo h : Nat} {u : Value} {ts : List T} (k : ArgsAt w lo h u ts) : ∃ a cap, u = .slice a ts.length cap := by
  cases h with
  | zero => obtain ⟨rfl, a, cap, rfl⟩ := k; exact ⟨a, cap, rfl⟩
  | succ h => obtain ⟨a, cap, e, _⟩ := k; exact ⟨a, cap, e⟩

theorem TermAt.shape {w : World} {lo h : Nat} {v : Value} {t : T} (ht : TermAt w lo h v t) : ∃ k n s a m cap, v = tv k n s (.slice a m cap) := by
  obtain ⟨k, n, s, u, xs, e, _, _, ha⟩ := ht
  obtain ⟨a, cap, rfl⟩ := ha.slice
  exact ⟨k, n, s, a, _, cap, e⟩

/-! ### how much a term holds -/
/-- The bytes of the names and the arguments below a term. -/
def wT : T → Nat
  | .node _ _ s xs => s.size + (xs.length + (xs.map wT).sum)
def wS (xs : List T) : Nat := (xs.map wT).sum
/-- How many terms there are in a term. -/
def cT : T → Nat
  | .node _ _ _ xs => 1 + (xs.map cT).sum
def cS (xs : List T) : Nat := (xs.map cT).sum
/-- How deep a term is. -/
def dT : T → Nat
  | .node _ _ _ xs => (xs.map dT).foldl max 0 + 1
def dS (xs : List T) : Nat := (xs.map dT).foldl max 0
theorem foldl_max (l : List Nat) (a b : Nat) (h : ∀ x ∈ l, x ≤ b) (ha : a ≤ b) : l.foldl max a ≤ b := by
  induction l generalizing a with
  | nil => exact ha
  | cons x l ih => exact ih (max a x) (fun y hy => h y (by simp [hy])) (by have := h x (by simp); omega)
theorem wS_snoc (l : List T) (t : T) : wS (l ++ [t]) = wS l + wT t := by simp [wS]
theorem cS_snoc (l : List T) (t : T) : cS (l ++ [t]) = cS l + cT t := by simp [cS]
theorem wT_node (k n : Int) (s : ByteArray) (xs : List T) : wT (.node k n s xs) = s.size + (xs.length + wS xs) := by rw [wT]; rfl
theorem cT_node (k n : Int) (s : ByteArray) (xs : List T) : cT (.node k n s xs) = 1 + cS xs := by rw [cT]; rfl
theorem cS_of (xs : List T) (h : ∀ x ∈ xs, cT x ≤ 1 + wT x) : cS xs ≤ xs.length + wS xs := by
  induction xs with
  | nil => simp [cS]
  | cons x r ih =>
    have h1 := h x (by simp)
    have h2 := ih (fun y hy => h y (by simp [hy]))
    simp only [cS, wS, List.map_cons, List.sum_cons, List.length_cons] at *
    omega
theorem cT_le : ∀ t : T, cT t ≤ 1 + wT t
  | .node k n s xs => by
    have h := cS_of xs (fun x _ => cT_le x)
    rw [cT_node, wT_node]
    omega
theorem cT_mem (xs : List T) : ∀ x ∈ xs, cT x ≤ cS xs := by
  induction xs with
  | nil => simp
  | cons y r ih =>
    intro x hx
    simp only [cS, List.map_cons, List.sum_cons]
    rcases List.mem_cons.1 hx with rfl | hx
    · omega
    · have := ih x hx; simp only [cS] at this; omega
theorem dT_le : ∀ t : T, dT t ≤ cT t
  | .node k n s xs => by
    have h : ∀ x ∈ xs, dT x ≤ cT x := fun x _ => dT_le x
    rw [dT, cT_node]
    have := foldl_max (xs.map dT) 0 (cS xs) (fun y hy => by
      obtain ⟨x, hx, rfl⟩ := List.mem_map.1 hy
      exact Nat.le_trans (h x hx) (cT_mem xs x hx)) (Nat.zero_le _)
    omega
theorem cS_le (xs : List T) : cS xs ≤ xs.length + wS xs := cS_of xs (fun x _ => cT_le x)
theorem tk {α : Type} (l : List α) (k : Nat) (x : α) (h : l[k]? = some x) : l.take (k + 1) = l.take k ++ [x] := by
  rw [List.take_add_one, h]; rfl
theorem wS_take (ts : List T) (k : Nat) : wS (ts.take k) ≤ wS ts := by
  have h : wS ts = wS (ts.take k) + wS (ts.drop k) := by
    unfold wS
    rw [← List.sum_append, ← List.map_append, List.take_append_drop]
  omega
theorem wT_at (ts : List T) (k : Nat) (t : T) (h : ts[k]? = some t) : wS (ts.take k) + wT t ≤ wS ts := by
  have h1 := wS_take ts (k + 1)
  rw [tk ts k t h, wS_snoc] at h1
  exact h1
end Go.Proofs.Ytidbokheeieifaa
namespace Go.Proofs.Ytidbokheeieifaa
open Go.RowKit

/-- The slice value u holds as many terms as ts; its rows, and those below, are owned, lie in blocks from lo to hi, and lie apart. -/
def OwnA (w : World) : Nat → Nat → Nat → Value → List T → Prop
  | 0, _, _, u, ts => ts = [] ∧ ∃ a cap, u = .slice a 0 cap
  | h + 1, lo, hi, u, ts => ∃ a cap, u = .slice a ts.length cap ∧ (ts = [] ∨ ∃ (g : Nat) (xs : List Value) (U : Nat → Value) (L R : Nat → Nat), a = some ⟨g, 0, none⟩ ∧ lo ≤ g ∧ g < hi ∧ w.ownsRow g 26 4 u ts.length xs ∧
      (∀ i k n s txs, ts[i]? = some (T.node k n s txs) → xs[i * 4 + 3]? = some (U i) ∧ lo ≤ L i ∧ R i ≤ hi ∧ (g < L i ∨ R i ≤ g) ∧ OwnA w h (L i) (R i) (U i) txs) ∧
      (∀ i j, i < j → j < ts.length → R i ≤ L j ∨ R j ≤ L i))

/-- Only blocks from lo to hi have turned, and new ones are there. -/
def Out (lo hi : Nat) (w w' : World) : Prop :=
  w'.os = w.os ∧ w'.tape = w.tape ∧ w'.output = w.output ∧ w.heap.size ≤ w'.heap.size ∧ ∀ b, b < w.heap.size → (b < lo ∨ hi ≤ b) → w'.heap[b]? = w.heap[b]?
theorem Out.refl (lo hi : Nat) (w : World) : Out lo hi w w := ⟨rfl, rfl, rfl, Nat.le_refl _, fun _ _ _ => rfl⟩
theorem Out.trans {lo hi : Nat} {a b c : World} (h : Out lo hi a b) (k : Out lo hi b c) : Out lo hi a c :=
  ⟨k.1.trans h.1, k.2.1.trans h.2.1, k.2.2.1.trans h.2.2.1, Nat.le_trans h.2.2.2.1 k.2.2.2.1, fun i hi ho => (k.2.2.2.2 i (Nat.lt_of_lt_of_le hi h.2.2.2.1) ho).trans (h.2.2.2.2 i hi ho)⟩
theorem Out.of_below {lo hi : Nat} {w w' : World} (h : Below w.heap.size w w') : Out lo hi w w' := ⟨h.os, h.tape, h.output, h.size, fun b hb _ => h.block b hb⟩
theorem Out.set {lo hi : Nat} (w : World) (g j : Nat) (v : Value) (h1 : lo ≤ g) (h2 : g < hi) : Out lo hi w (w.setCell ⟨g, j, none⟩ v) := by
  have h := set_grown w g j v
  exact ⟨h.os, h.tape, h.output, h.size, fun b hb ho => h.block b hb (fun e => by cases e; omega)⟩
theorem Out.wide {lo hi lo' hi' : Nat} {w w' : World} (h : Out lo hi w w') (h1 : lo' ≤ lo) (h2 : hi ≤ hi') : Out lo' hi' w w' :=
  ⟨h.1, h.2.1, h.2.2.1, h.2.2.2.1, fun b hb ho => h.2.2.2.2 b hb (by omega)⟩

theorem row_keep {w w' : World} {B g n cap size : Nat} {e : TypeId} {xs : List Value} (h : w.ownsRow B e size (.slice (some ⟨g, 0, none⟩) n cap) n xs) (hk : w'.heap[g]? = w.heap[g]?) : w'.ownsRow B e size (.slice (some ⟨g, 0, none⟩) n cap) n xs := by
  refine ⟨h.1, ?_⟩
  rcases h.2 with ⟨e1, _⟩ | ⟨g', cap', cur, e1, hb, hg, rest⟩
  · simp at e1
  · simp only [Value.slice.injEq, Option.some.injEq, Addr.mk.injEq] at e1
    obtain ⟨⟨rfl, _⟩, _, rfl⟩ := e1
    exact Or.inr ⟨g, cap, cur, rfl, hb, by rw [hk]; exact hg, rest⟩

theorem OwnA.keep {w w' : World} : ∀ {h lo hi : Nat} {u : Value} {ts : List T}, (∀ b, lo ≤ b → b < hi → w'.heap[b]? = w.heap[b]?) → OwnA w h lo hi u ts → OwnA w' h lo hi u ts
  | 0, _, _, _, _, _, k => k
  | h + 1, lo, hi, u, ts, hk, ⟨a, cap, e, hc⟩ => by
    refine ⟨a, cap, e, ?_⟩
    rcases hc with hc | ⟨g, xs, U, L, R, rfl, h1, h2, ho, hx, hd⟩
    · exact Or.inl hc
    · subst e
      refine Or.inr ⟨g, xs, U, L, R, rfl, h1, h2, row_keep ho (hk g h1 h2), fun i k n s txs hi => ?_, hd⟩
      obtain ⟨x3, l1, l2, l3, hr⟩ := hx i k n s txs hi
      exact ⟨x3, l1, l2, l3, hr.keep (fun b b1 b2 => hk b (by omega) (by omega))⟩
theorem OwnA.wide {w : World} : ∀ {h lo hi lo' hi' : Nat} {u : Value} {ts : List T}, lo' ≤ lo → hi ≤ hi' → OwnA w h lo hi u ts → OwnA w h lo' hi' u ts
  | 0, _, _, _, _, _, _, _, _, k => k
  | h + 1, lo, hi, lo', hi', u, ts, w1, w2, ⟨a, cap, e, hc⟩ => by
    refine ⟨a, cap, e, ?_⟩
    rcases hc with hc | ⟨g, xs, U, L, R, ea, h1, h2, ho, hx, hd⟩
    · exact Or.inl hc
    · refine Or.inr ⟨g, xs, U, L, R, ea, by omega, by omega, ho, fun i k n s txs hi => ?_, hd⟩
      obtain ⟨x3, l1, l2, l3, hr⟩ := hx i k n s txs hi
      exact ⟨x3, by omega, by omega, l3, hr⟩
theorem OwnA.slice {w : World} {h lo hi : Nat} {u : Value} {ts : List T} (k : OwnA w h lo hi u ts) : ∃ a cap, u = .slice a ts.length cap := by
  cases h with
  | zero => obtain ⟨rfl, a, cap, rfl⟩ := k; exact ⟨a, cap, rfl⟩
  | succ h => obtain ⟨a, cap, e, _⟩ := k; exact ⟨a, cap, e⟩
theorem OwnA.nil (w : World) (h lo hi : Nat) (a : Option Addr) (cap : Nat) : OwnA w h lo hi (.slice a 0 cap) [] := by
  cases h with
  | zero => exact ⟨rfl, a, cap, rfl⟩
  | succ h => exact ⟨a, cap, rfl, Or.inl rfl⟩
theorem OwnA.off {w : World} {h lo hi : Nat} {u : Value} {ts : List T} (k : OwnA w h lo hi u ts) {g : Nat} (hg : g < lo ∨ hi ≤ g) (j : Nat) (v : Value) : OwnA (w.setCell ⟨g, j, none⟩ v) h lo hi u ts :=
  k.keep fun b b1 b2 => Below.heap_setCell _ _ _ _ (fun e => by simp at e; omega)
end Go.Proofs.Ytidbokheeieifaa
namespace Go.Proofs.Ytidbokheeieifaa
open Go.RowKit

/-- A struct in a block of its own. -/
abbrev boxed (w : World) (k n : Int) (s : ByteArray) (u : Value) : World := w.alloc (.cells #[.int .i64 k, .int .i64 n, .string s, u] 26)
theorem boxed_below (w : World) (k n : Int) (s : ByteArray) (u : Value) : Below w.heap.size w (boxed w k n s u) := (Below.refl _ _).alloc (Nat.le_refl _) _
theorem boxed_cells {w wr : World} {k n : Int} {s : ByteArray} {u : Value} (hb : Below (boxed w k n s u).heap.size (boxed w k n s u) wr) :
    wr.cell? ⟨w.heap.size, 0, none⟩ = some (.int .i64 k) ∧ wr.cell? ⟨w.heap.size, 1, none⟩ = some (.int .i64 n) ∧ wr.cell? ⟨w.heap.size, 2, none⟩ = some (.string s) ∧ wr.cell? ⟨w.heap.size, 3, none⟩ = some u := by
  have hlt : w.heap.size < (boxed w k n s u).heap.size := by simp
  have c : ∀ j v, #[Value.int .i64 k, .int .i64 n, .string s, u][j]? = some v → wr.cell? ⟨w.heap.size, j, none⟩ = some v := by
    intro j v hv
    rw [hb.cell (by exact hlt), World.cell?_alloc_mark w _ 26 (0, 0) j]
    exact hv
  exact ⟨c 0 _ rfl, c 1 _ rfl, c 2 _ rfl, c 3 _ rfl⟩

/-- What a round over the arguments sees. -/
theorem ArgsAt.at {w : World} {lo h : Nat} {a : Option Addr} {m cap : Nat} {ts : List T} {i : Nat} {t : T} (ha : ArgsAt w lo h (.slice a m cap) ts) (ht : ts[i]? = some t) :
    ∃ h' b o k n s xs u', h = h' + 1 ∧ a = some ⟨b, o, none⟩ ∧ t = .node k n s xs ∧ s.size ≤ maxLen ∧ w.cell? ⟨b, o + i * 4, none⟩ = some (.int .i64 k) ∧ w.cell? ⟨b, o + i * 4 + 1, none⟩ = some (.int .i64 n) ∧
      w.cell? ⟨b, o + i * 4 + 2, none⟩ = some (.string s) ∧ w.cell? ⟨b, o + i * 4 + 3, none⟩ = some u' ∧ ArgsAt w lo h' u' xs := by
  rcases ha.cases with ⟨rfl, _⟩ | ⟨h', b, o, cap', e, e2, _, _, hc⟩
  · simp at ht
  · obtain ⟨k, n, s, xs⟩ := t
    obtain ⟨hs, u', c0, c1, c2, c3, hr⟩ := hc i k n s xs ht
    simp only [Value.slice.injEq] at e2
    exact ⟨h', b, o, k, n, s, xs, u', e, e2.1, rfl, hs, c0, c1, c2, c3, hr⟩

theorem cell_on {w w' : World} (hb : Below w.heap.size w w') {ad : Addr} {v : Value} (hv : w.cell? ad = some v) : w'.cell? ad = some v := by
  rw [hb.cell (World.block_lt_of_cell? w _ hv)]; exact hv

/-- A call that hands back a number and leaves what was there. -/
def NumB (x : Int) (w : World) (e : Ending) (w' : World) : Prop := e = .returned (.int .i64 x) ∧ Below w.heap.size w w'

theorem by_height {X : Nat → Prop} (step : ∀ h, (∀ h', h = h' + 1 → X h') → X h) (h : Nat) : X h := by
  induction h with
  | zero => exact step 0 (fun h' e => by omega)
  | succ h ih => exact step (h + 1) (fun h' e => by cases e; exact ih)

theorem cS_take (ts : List T) (k : Nat) : cS (ts.take k) ≤ cS ts := by
  have h : cS ts = cS (ts.take k) + cS (ts.drop k) := by
    unfold cS
    rw [← List.sum_append, ← List.map_append, List.take_append_drop]
  omega

theorem dS_snoc (l : List T) (t : T) : dS (l ++ [t]) = max (dS l) (dT t) := by simp [dS, List.foldl_append]
theorem dT_node (k n : Int) (s : ByteArray) (xs : List T) : dT (.node k n s xs) = dS xs + 1 := by rw [dT]; rfl
end Go.Proofs.Ytidbokheeieifaa
namespace Go.Proofs.Ytidbokheeieifaa
open Go.RowKit

/-- A term's arguments. -/
def kT : T → List T
  | .node _ _ _ xs => xs
/-- The level below a level. -/
def kids (ts : List T) : List T := ts.flatMap kT

theorem kids_snoc (l : List T) (t : T) : kids (l ++ [t]) = kids l ++ kT t := by simp [kids]
theorem kids_nil : kids [] = [] := rfl
theorem cS_cons (t : T) (l : List T) : cS (t :: l) = cT t + cS l := by simp [cS]
theorem cS_app (l m : List T) : cS (l ++ m) = cS l + cS m := by simp [cS]
theorem cT_kT (t : T) : cT t = 1 + cS (kT t) := by
  obtain ⟨k, n, s, xs⟩ := t
  exact cT_node k n s xs
theorem cS_kids (ts : List T) : cS ts = ts.length + cS (kids ts) := by
  induction ts with
  | nil => simp [cS, kids]
  | cons t l ih =>
    have e : kids (t :: l) = kT t ++ kids l := by simp [kids]
    rw [e, cS_cons, cS_app, cT_kT, ih, List.length_cons]; omega
theorem len_le_cS (ts : List T) : ts.length ≤ cS ts := by rw [cS_kids ts]; omega
theorem kids_take (ts : List T) (k : Nat) : (kids (ts.take k)).length ≤ (kids ts).length := by
  have h : kids ts = kids (ts.take k) ++ kids (ts.drop k) := by
    unfold kids
    rw [← List.flatMap_append, List.take_append_drop]
  rw [h, List.length_append]; omega
theorem dS_cons (t : T) (l : List T) : dS (t :: l) = max (dT t) (dS l) := by
  unfold dS
  rw [List.map_cons, List.foldl_cons]
  generalize l.map dT = m
  have : ∀ (m : List Nat) (a b : Nat), m.foldl max (max a b) = max b (m.foldl max a) := by
    intro m
    induction m with
    | nil => intro a b; simp [Nat.max_comm]
    | cons x m ih => intro a b; rw [List.foldl_cons, List.foldl_cons, ← ih, Nat.max_assoc, Nat.max_comm b x, Nat.max_assoc]
  exact this m 0 (dT t)
theorem dS_nil : dS [] = 0 := rfl
theorem dT_kT (t : T) : dT t = dS (kT t) + 1 := by
  obtain ⟨k, n, s, xs⟩ := t
  rw [dT]; rfl
theorem dS_app (l m : List T) : dS (l ++ m) = max (dS l) (dS m) := by
  induction l with
  | nil => simp [dS_nil]
  | cons t l ih => rw [List.cons_append, dS_cons, dS_cons, ih, Nat.max_assoc]
theorem dS_kids (ts : List T) : ts ≠ [] → dS ts = 1 + dS (kids ts) := by
  induction ts with
  | nil => simp
  | cons t l ih =>
    intro _
    have e : kids (t :: l) = kT t ++ kids l := by simp [kids]
    rw [e, dS_cons, dS_app, dT_kT]
    cases l with
    | nil => simp [kids, dS_nil]; omega
    | cons t' l' => rw [ih (by simp)]; omega

/-- The cells of a row of terms. -/
def RowV (w : World) (h : Nat) : List T → List Value → Prop
  | [], vs => vs = []
  | .node k n s xs :: ts, vs => ∃ a m cap rest, vs = .int .i64 k :: .int .i64 n :: .string s :: .slice a m cap :: rest ∧ s.size ≤ maxLen ∧ ArgsAt w 0 h (.slice a m cap) xs ∧ RowV w h ts rest

theorem RowV.keep {w w' : World} {h : Nat} (hk : ∀ (ad : Addr) v, w.cell? ad = some v → w'.cell? ad = some v) : ∀ {ts : List T} {vs : List Value}, RowV w h ts vs → RowV w' h ts vs
  | [], _, e => e
  | .node _ _ _ _ :: _, _, ⟨a, m, cap, rest, e, hs, ha, hr⟩ => ⟨a, m, cap, rest, e, hs, ha.keep (fun ad v _ hv => hk ad v hv), hr.keep hk⟩
theorem RowV.below {w w' : World} {h : Nat} {ts : List T} {vs : List Value} (r : RowV w h ts vs) (hb : Below w.heap.size w w') : RowV w' h ts vs :=
  r.keep fun _ _ hv => cell_on hb hv
theorem RowV.app {w : World} {h : Nat} {us : List T} {ws : List Value} (q : RowV w h us ws) : ∀ {ts : List T} {vs : List Value}, RowV w h ts vs → RowV w h (ts ++ us) (vs ++ ws)
  | [], _, e => by cases e; exact q
  | .node _ _ _ _ :: _, _, ⟨a, m, cap, rest, e, hs, ha, hr⟩ => ⟨a, m, cap, rest ++ ws, by rw [e]; rfl, hs, ha, q.app hr⟩
theorem RowV.len {w : World} {h : Nat} : ∀ {ts : List T} {vs : List Value}, RowV w h ts vs → vs.length = ts.length * 4
  | [], _, e => by cases e; rfl
  | .node _ _ _ _ :: _, _, ⟨a, m, cap, rest, e, _, _, hr⟩ => by rw [e]; simp [hr.len]; omega
theorem RowV.one {w : World} {h : Nat} : ∀ {ts : List T} {vs : List Value}, RowV w h ts vs → ∀ u ∈ vs, u.oneCell' = true
  | [], _, e => by cases e; simp
  | .node _ _ _ _ :: _, _, ⟨a, m, cap, rest, e, _, _, hr⟩ => by
    intro u hu
    rw [e] at hu
    simp only [List.mem_cons] at hu
    rcases hu with rfl | rfl | rfl | rfl | hu
    · rfl
    · rfl
    · rfl
    · rfl
    · exact hr.one u hu
theorem RowV.at {w : World} {h : Nat} : ∀ {ts : List T} {vs : List Value}, RowV w h ts vs → ∀ (i : Nat) (k n : Int) (s : ByteArray) (xs : List T), ts[i]? = some (T.node k n s xs) →
    s.size ≤ maxLen ∧ ∃ a m cap, vs[i * 4]? = some (.int .i64 k) ∧ vs[i * 4 + 1]? = some (.int .i64 n) ∧ vs[i * 4 + 2]? = some (.string s) ∧ vs[i * 4 + 3]? = some (.slice a m cap) ∧ ArgsAt w 0 h (.slice a m cap) xs
  | [], _, _ => by simp
  | .node _ _ _ _ :: _, _, ⟨a, m, cap, rest, e, hs, ha, hr⟩ => by
    intro i k n s xs hi
    cases i with
    | zero =>
      simp at hi
      obtain ⟨rfl, rfl, rfl, rfl⟩ := hi
      subst e
      exact ⟨hs, a, m, cap, rfl, rfl, rfl, rfl, ha⟩
    | succ i =>
      simp at hi
      obtain ⟨hs', a', m', cap', x0, x1, x2, x3, ha'⟩ := hr.at i k n s xs hi
      subst e
      refine ⟨hs', a', m', cap', ?_, ?_, ?_, ?_, ha'⟩
      · rw [show (i + 1) * 4 = i * 4 + 4 by omega]; simpa using x0
      · rw [show (i + 1) * 4 + 1 = i * 4 + 1 + 4 by omega]; simpa using x1
      · rw [show (i + 1) * 4 + 2 = i * 4 + 2 + 4 by omega]; simpa using x2
      · rw [show (i + 1) * 4 + 3 = i * 4 + 3 + 4 by omega]; simpa using x3
theorem RowV.of_row {w : World} {lo h b : Nat} : ∀ {ts : List T} {o : Nat}, RowAt w lo h b o ts → ∃ vs, RowV w h ts vs ∧ ∀ (j : Nat) (u : Value), vs[j]? = some u → w.cell? (Addr.add ⟨b, o, none⟩ j) = some u
  | [], _, _ => ⟨[], rfl, by simp⟩
  | .node k n s xs :: ts, o, hc => by
    obtain ⟨hs, u', c0, c1, c2, c3, hr⟩ := hc 0 k n s xs rfl
    obtain ⟨a, cap, rfl⟩ := hr.slice
    have hc' : RowAt w lo h b (o + 4) ts := fun i k n s xs hi => by
      have := hc (i + 1) k n s xs (by simpa using hi)
      rw [show o + (i + 1) * 4 = o + 4 + i * 4 by omega] at this
      exact this
    obtain ⟨vs, hv, hx⟩ := RowV.of_row hc'
    refine ⟨_, ⟨a, _, cap, vs, rfl, hs, hr.low (Nat.zero_le _), hv⟩, fun j u hj => ?_⟩
    simp only [Nat.zero_mul, Nat.add_zero] at c0 c1 c2 c3
    match j, hj with
    | 0, hj => simp at hj; subst hj; simpa [Addr.add] using c0
    | 1, hj => simp at hj; subst hj; simpa [Addr.add] using c1
    | 2, hj => simp at hj; subst hj; simpa [Addr.add] using c2
    | 3, hj => simp at hj; subst hj; simpa [Addr.add] using c3
    | j + 4, hj =>
      simp at hj
      have := hx j u hj
      rw [show Addr.add ⟨b, o, none⟩ (j + 4) = Addr.add ⟨b, o + 4, none⟩ j from ?_]
      · exact this
      · unfold Addr.add
        by_cases hj0 : j = 0
        · subst hj0; simp
        · simp [hj0]; omega

/-- A row of the call's own as the arguments of a term. -/
theorem RowV.args {w : World} {B h n : Nat} {v : Value} {ts : List T} {vs : List Value} (r : RowV w h ts vs) (ho : w.ownsRow B 26 4 v n vs) (hn : n = ts.length) (hl : n ≤ maxLen) : ArgsAt w 0 (h + 1) v ts := by
  rcases ho.2 with hnil | ⟨g, cap, cur, rfl, hg, rest⟩
  · obtain ⟨rfl, h0⟩ := hnil
    have : ts = [] := List.eq_nil_of_length_eq_zero (by omega)
    subst this
    exact ArgsAt.nil _ _ _ _ _
  · subst hn
    refine ⟨_, cap, rfl, hl, Or.inr ⟨g, 0, rfl, Nat.zero_le _, fun i k n s xs hi => ?_⟩⟩
    obtain ⟨hs, a, m, c, x0, x1, x2, x3, ha⟩ := r.at i k n s xs hi
    have hli : i < ts.length := (List.getElem?_eq_some_iff.1 hi).1
    refine ⟨hs, _, ?_, ?_, ?_, ?_, ha⟩
    · rw [Nat.zero_add, ho.cellAt (i * 4) (by omega), x0]
    · rw [Nat.zero_add, ho.cellAt (i * 4 + 1) (by omega), x1]
    · rw [Nat.zero_add, ho.cellAt (i * 4 + 2) (by omega), x2]
    · rw [Nat.zero_add, ho.cellAt (i * 4 + 3) (by omega), x3]
end Go.Proofs.Ytidbokheeieifaa
namespace Go.Proofs.Ytidbokheeieifaa
open Go.RowKit

/-- The reading of arguments whose rows lie in blocks of which P holds. -/
def ArgsP (P : Nat → Prop) (w : World) : Nat → Value → List T → Prop
  | 0, u, ts => ts = [] ∧ ∃ a cap, u = .slice a 0 cap
  | h + 1, u, ts => ∃ a cap, u = .slice a ts.length cap ∧ ts.length ≤ maxLen ∧ (ts = [] ∨ ∃ b o, a = some ⟨b, o, none⟩ ∧ P b ∧ ∀ i k n s xs, ts[i]? = some (T.node k n s xs) → s.size ≤ maxLen ∧ ∃ u', w.cell? ⟨b, o + i * 4, none⟩ = some (.int .i64 k) ∧
      w.cell? ⟨b, o + i * 4 + 1, none⟩ = some (.int .i64 n) ∧ w.cell? ⟨b, o + i * 4 + 2, none⟩ = some (.string s) ∧ w.cell? ⟨b, o + i * 4 + 3, none⟩ = some u' ∧ ArgsP P w h u' xs)
theorem ArgsP.keep {P : Nat → Prop} {w w' : World} (hk : ∀ (ad : Addr) v, P ad.block → w.cell? ad = some v → w'.cell? ad = some v) : ∀ {h : Nat} {u : Value} {ts : List T}, ArgsP P w h u ts → ArgsP P w' h u ts
  | 0, _, _, k => k
  | h + 1, _, _, ⟨a, cap, e, hl, hc⟩ => by
    refine ⟨a, cap, e, hl, ?_⟩
    rcases hc with hc | ⟨b, o, rfl, hp, hc⟩
    · exact Or.inl hc
    · refine Or.inr ⟨b, o, rfl, hp, fun i k n s xs hi => ?_⟩
      obtain ⟨hs, u', c0, c1, c2, c3, hr⟩ := hc i k n s xs hi
      exact ⟨hs, u', hk _ _ hp c0, hk _ _ hp c1, hk _ _ hp c2, hk _ _ hp c3, hr.keep hk⟩
theorem ArgsP.args {P : Nat → Prop} {w : World} {lo : Nat} (hp : ∀ j, P j → lo ≤ j) : ∀ {h : Nat} {u : Value} {ts : List T}, ArgsP P w h u ts → ArgsAt w lo h u ts
  | 0, _, _, k => k
  | h + 1, _, _, ⟨a, cap, e, hl, hc⟩ => by
    refine ⟨a, cap, e, hl, ?_⟩
    rcases hc with hc | ⟨b, o, rfl, hb, hc⟩
    · exact Or.inl hc
    · refine Or.inr ⟨b, o, rfl, hp _ hb, fun i k n s xs hi => ?_⟩
      obtain ⟨hs, u', c0, c1, c2, c3, hr⟩ := hc i k n s xs hi
      exact ⟨hs, u', c0, c1, c2, c3, hr.args hp⟩
theorem ArgsP.of {P : Nat → Prop} {w : World} {lo : Nat} (hp : ∀ j, lo ≤ j → j < w.heap.size → P j) : ∀ {h : Nat} {u : Value} {ts : List T}, ArgsAt w lo h u ts → ArgsP P w h u ts
  | 0, _, _, k => k
  | h + 1, _, ts, ⟨a, cap, e, hl, hc⟩ => by
    refine ⟨a, cap, e, hl, ?_⟩
    rcases hc with hc | ⟨b, o, rfl, hb, hc⟩
    · exact Or.inl hc
    · cases ts with
      | nil => exact Or.inl rfl
      | cons t r =>
        obtain ⟨k, n, s, xs⟩ := t
        obtain ⟨_, _, c0, _⟩ := hc 0 k n s xs rfl
        refine Or.inr ⟨b, o, rfl, hp b hb (World.block_lt_of_cell? w _ c0), fun i k n s xs hi => ?_⟩
        obtain ⟨hs, u', c0, c1, c2, c3, hr⟩ := hc i k n s xs hi
        exact ⟨hs, u', c0, c1, c2, c3, ArgsP.of hp hr⟩
theorem ArgsP.grown {P : Nat → Prop} {w w' : World} {B h : Nat} {u : Value} {ts : List T} (k : ArgsP P w h u ts) (hg : w.grownBy w' (some B)) (hp : ∀ j, P j → j ≠ B) : ArgsP P w' h u ts :=
  k.keep fun ad v hP hv => hg.cell hv (fun e => by cases e; exact hp _ hP rfl)
theorem ArgsP.empty (P : Nat → Prop) (w : World) (h : Nat) : ArgsP P w h (.slice Option.none 0 0) [] := by
  cases h with
  | zero => exact ⟨rfl, _, _, rfl⟩
  | succ h => exact ⟨_, _, rfl, Nat.zero_le _, Or.inl rfl⟩
theorem ArgsP.more {P : Nat → Prop} {w : World} : ∀ {h : Nat} {u : Value} {ts : List T}, ArgsP P w h u ts → ArgsP P w (h + 1) u ts
  | 0, _, _, ⟨e, a, cap, e2⟩ => by subst e; exact ⟨a, cap, e2, Nat.zero_le _, Or.inl rfl⟩
  | h + 1, _, _, ⟨a, cap, e, hl, hc⟩ => by
    refine ⟨a, cap, e, hl, ?_⟩
    rcases hc with hc | ⟨b, o, rfl, hb, hc⟩
    · exact Or.inl hc
    · refine Or.inr ⟨b, o, rfl, hb, fun i k n s xs hi => ?_⟩
      obtain ⟨hs, u', c0, c1, c2, c3, hr⟩ := hc i k n s xs hi
      exact ⟨hs, u', c0, c1, c2, c3, hr.more⟩
theorem ArgsP.one {P : Nat → Prop} {w : World} {g h : Nat} {k n : Int} {s : ByteArray} {u : Value} {ts : List T} (hg : w.heap[g]? = some (.cells #[.int .i64 k, .int .i64 n, .string s, u] 26 (0, 0))) (hp : P g) (hs : s.size ≤ maxLen) (ha : ArgsP P w h u ts) :
    ArgsP P w (h + 1) (.slice (some ⟨g, 0, none⟩) 1 1) [.node k n s ts] := by
  refine ⟨_, _, rfl, by unfold maxLen; simp, Or.inr ⟨g, 0, rfl, hp, fun i kk nn ss xx hi => ?_⟩⟩
  match i, hi with
  | 0, hi =>
    simp at hi
    obtain ⟨rfl, rfl, rfl, rfl⟩ := hi
    exact ⟨hs, u, by rw [cell_of_row w g _ _ _ _ hg]; rfl, by rw [cell_of_row w g _ _ _ _ hg]; rfl, by rw [cell_of_row w g _ _ _ _ hg]; rfl, by rw [cell_of_row w g _ _ _ _ hg]; rfl, ha⟩
  | i + 1, hi => simp at hi

/-- The cells of a row of terms whose own rows lie in blocks of which P holds. -/
def RowP (P : Nat → Prop) (w : World) (h : Nat) : List T → List Value → Prop
  | [], vs => vs = []
  | .node k n s xs :: ts, vs => ∃ a m cap rest, vs = .int .i64 k :: .int .i64 n :: .string s :: .slice a m cap :: rest ∧ s.size ≤ maxLen ∧ ArgsP P w h (.slice a m cap) xs ∧ RowP P w h ts rest
theorem RowP.keep {P : Nat → Prop} {w w' : World} {h : Nat} (hk : ∀ (ad : Addr) v, P ad.block → w.cell? ad = some v → w'.cell? ad = some v) : ∀ {ts : List T} {vs : List Value}, RowP P w h ts vs → RowP P w' h ts vs
  | [], _, e => e
  | .node _ _ _ _ :: _, _, ⟨a, m, cap, rest, e, hs, ha, hr⟩ => ⟨a, m, cap, rest, e, hs, ha.keep hk, hr.keep hk⟩
theorem ArgsP.imp {P Q : Nat → Prop} {w : World} (hp : ∀ j, P j → Q j) : ∀ {h : Nat} {u : Value} {ts : List T}, ArgsP P w h u ts → ArgsP Q w h u ts
  | 0, _, _, k => k
  | h + 1, _, _, ⟨a, cap, e, hl, hc⟩ => by
    refine ⟨a, cap, e, hl, ?_⟩
    rcases hc with hc | ⟨b, o, rfl, hb, hc⟩
    · exact Or.inl hc
    · refine Or.inr ⟨b, o, rfl, hp _ hb, fun i k n s xs hi => ?_⟩
      obtain ⟨hs, u', c0, c1, c2, c3, hr⟩ := hc i k n s xs hi
      exact ⟨hs, u', c0, c1, c2, c3, hr.imp hp⟩
theorem RowP.imp {P Q : Nat → Prop} {w : World} {h : Nat} (hp : ∀ j, P j → Q j) : ∀ {ts : List T} {vs : List Value}, RowP P w h ts vs → RowP Q w h ts vs
  | [], _, e => e
  | .node _ _ _ _ :: _, _, ⟨a, m, cap, rest, e, hs, ha, hr⟩ => ⟨a, m, cap, rest, e, hs, ha.imp hp, hr.imp hp⟩
theorem RowP.snoc {P : Nat → Prop} {w : World} {h : Nat} {k n : Int} {s : ByteArray} {a : Option Addr} {m cap : Nat} {xs : List T} (hs : s.size ≤ maxLen) (ha : ArgsP P w h (.slice a m cap) xs) : ∀ {ts : List T} {vs : List Value}, RowP P w h ts vs →
    RowP P w h (ts ++ [.node k n s xs]) (vs ++ [.int .i64 k, .int .i64 n, .string s, .slice a m cap])
  | [], _, e => by cases e; exact ⟨a, m, cap, [], rfl, hs, ha, rfl⟩
  | .node _ _ _ _ :: _, _, ⟨a', m', cap', rest, e, hs', ha', hr⟩ => ⟨a', m', cap', _, by rw [e]; rfl, hs', ha', hr.snoc hs ha⟩
theorem RowP.rowV {P : Nat → Prop} {w : World} {h : Nat} : ∀ {ts : List T} {vs : List Value}, RowP P w h ts vs → RowV w h ts vs
  | [], _, e => e
  | .node _ _ _ _ :: _, _, ⟨a, m, cap, rest, e, hs, ha, hr⟩ => ⟨a, m, cap, rest, e, hs, ha.args (fun _ _ => Nat.zero_le _), hr.rowV⟩
theorem RowP.at {P : Nat → Prop} {w : World} {h : Nat} : ∀ {ts : List T} {vs : List Value}, RowP P w h ts vs → ∀ (i : Nat) (k n : Int) (s : ByteArray) (xs : List T), ts[i]? = some (T.node k n s xs) →
    ∃ a m cap, vs[i * 4 + 3]? = some (.slice a m cap) ∧ ArgsP P w h (.slice a m cap) xs
  | [], _, _ => by simp
  | .node _ _ _ _ :: _, _, ⟨a, m, cap, rest, e, hs, ha, hr⟩ => by
    intro i k n s xs hi
    cases i with
    | zero =>
      simp at hi
      obtain ⟨rfl, rfl, rfl, rfl⟩ := hi
      subst e
      exact ⟨a, m, cap, rfl, ha⟩
    | succ i =>
      simp at hi
      obtain ⟨a', m', cap', x3, ha'⟩ := hr.at i k n s xs hi
      subst e
      exact ⟨a', m', cap', by rw [show (i + 1) * 4 + 3 = i * 4 + 3 + 4 by omega]; simpa using x3, ha'⟩
theorem RowP.args {P : Nat → Prop} {w : World} {B lo h n : Nat} {v : Value} {ts : List T} {vs : List Value} (r : RowP P w h ts vs) (ho : w.ownsRow B 26 4 v n vs) (hn : n = ts.length) (hl : n ≤ maxLen) (hP : ∀ j, P j → lo ≤ j) (hB : lo ≤ B) : ArgsAt w lo (h + 1) v ts := by
  rcases ho.2 with hnil | ⟨g, cap, cur, rfl, hg, rest⟩
  · obtain ⟨rfl, h0⟩ := hnil
    have : ts = [] := List.eq_nil_of_length_eq_zero (by omega)
    subst this
    exact ArgsAt.nil _ _ _ _ _
  · subst hn
    refine ⟨_, cap, rfl, hl, Or.inr ⟨g, 0, rfl, by omega, fun i k n s xs hi => ?_⟩⟩
    obtain ⟨hs, a, m, c, x0, x1, x2, x3, _⟩ := r.rowV.at i k n s xs hi
    obtain ⟨a2, m2, c2, y3, ha⟩ := r.at i k n s xs hi
    rw [x3] at y3
    cases y3
    have hli : i < ts.length := (List.getElem?_eq_some_iff.1 hi).1
    refine ⟨hs, _, ?_, ?_, ?_, ?_, ha.args hP⟩
    · rw [Nat.zero_add, ho.cellAt (i * 4) (by omega), x0]
    · rw [Nat.zero_add, ho.cellAt (i * 4 + 1) (by omega), x1]
    · rw [Nat.zero_add, ho.cellAt (i * 4 + 2) (by omega), x2]
    · rw [Nat.zero_add, ho.cellAt (i * 4 + 3) (by omega), x3]

end Go.Proofs.Ytidbokheeieifaa
namespace Go.Proofs.Ytidbokheeieifaa
open Go.RowKit

/-- The slice value u holds the terms ts; its rows, and those below, are owned, lie in blocks from lo to hi of which Q holds, and lie apart. -/
def OwnR (Q : Nat → Prop) (w : World) : Nat → Nat → Nat → Value → List T → Prop
  | 0, _, _, u, ts => ts = [] ∧ ∃ a cap, u = .slice a 0 cap
  | h + 1, lo, hi, u, ts => ∃ a cap, u = .slice a ts.length cap ∧ ts.length ≤ maxLen ∧ (ts = [] ∨ ∃ (g : Nat) (xs : List Value) (U : Nat → Value) (L R : Nat → Nat), a = some ⟨g, 0, none⟩ ∧ Q g ∧ lo ≤ g ∧ g < hi ∧ w.ownsRow g 26 4 u ts.length xs ∧
      (∀ i k n s txs, ts[i]? = some (T.node k n s txs) → (s.size ≤ maxLen ∧ xs[i * 4]? = some (.int .i64 k) ∧ xs[i * 4 + 1]? = some (.int .i64 n) ∧ xs[i * 4 + 2]? = some (.string s)) ∧ xs[i * 4 + 3]? = some (U i) ∧ lo ≤ L i ∧ R i ≤ hi ∧ (g < L i ∨ R i ≤ g) ∧ OwnR Q w h (L i) (R i) (U i) txs) ∧
      (∀ i j, i < j → j < ts.length → R i ≤ L j ∨ R j ≤ L i))

theorem OwnR.own {Q : Nat → Prop} {w : World} : ∀ {h lo hi : Nat} {u : Value} {ts : List T}, OwnR Q w h lo hi u ts → OwnA w h lo hi u ts
  | 0, _, _, _, _, k => k
  | h + 1, lo, hi, u, ts, ⟨a, cap, e, _, hc⟩ => by
    refine ⟨a, cap, e, ?_⟩
    rcases hc with hc | ⟨g, xs, U, L, R, ea, _, h1, h2, ho, hx, hd⟩
    · exact Or.inl hc
    · refine Or.inr ⟨g, xs, U, L, R, ea, h1, h2, ho, fun i k n s txs hi => ?_, hd⟩
      obtain ⟨_, x3, l1, l2, l3, hr⟩ := hx i k n s txs hi
      exact ⟨x3, l1, l2, l3, hr.own⟩
theorem OwnR.args {Q : Nat → Prop} {w : World} {m : Nat} : ∀ {h lo hi : Nat} {u : Value} {ts : List T}, m ≤ lo → OwnR Q w h lo hi u ts → ArgsAt w m h u ts
  | 0, _, _, _, _, _, k => k
  | h + 1, lo, hi, u, ts, hm, ⟨a, cap, e, hl, hc⟩ => by
    refine ⟨a, cap, e, hl, ?_⟩
    rcases hc with hc | ⟨g, xs, U, L, R, ea, _, h1, h2, ho, hx, hd⟩
    · exact Or.inl hc
    · subst ea
      subst e
      refine Or.inr ⟨g, 0, rfl, by omega, fun i k n s txs hi => ?_⟩
      obtain ⟨⟨hs, x0, x1, x2⟩, x3, l1, l2, l3, hr⟩ := hx i k n s txs hi
      have hil : i < ts.length := (List.getElem?_eq_some_iff.1 hi).1
      refine ⟨hs, U i, ?_, ?_, ?_, ?_, hr.args (by omega)⟩
      · rw [Nat.zero_add, ho.cellAt (i * 4) (by omega), x0]
      · rw [Nat.zero_add, ho.cellAt (i * 4 + 1) (by omega), x1]
      · rw [Nat.zero_add, ho.cellAt (i * 4 + 2) (by omega), x2]
      · rw [Nat.zero_add, ho.cellAt (i * 4 + 3) (by omega), x3]
theorem OwnR.keep {Q Q' : Nat → Prop} {w w' : World} : ∀ {h lo hi : Nat} {u : Value} {ts : List T}, (∀ b, Q b → lo ≤ b → b < hi → w'.heap[b]? = w.heap[b]? ∧ Q' b) → OwnR Q w h lo hi u ts → OwnR Q' w' h lo hi u ts
  | 0, _, _, _, _, _, k => k
  | h + 1, lo, hi, u, ts, hk, ⟨a, cap, e, hl, hc⟩ => by
    refine ⟨a, cap, e, hl, ?_⟩
    rcases hc with hc | ⟨g, xs, U, L, R, rfl, hq, h1, h2, ho, hx, hd⟩
    · exact Or.inl hc
    · subst e
      refine Or.inr ⟨g, xs, U, L, R, rfl, (hk g hq h1 h2).2, h1, h2, row_keep ho (hk g hq h1 h2).1, fun i k n s txs hi => ?_, hd⟩
      obtain ⟨c, x3, l1, l2, l3, hr⟩ := hx i k n s txs hi
      exact ⟨c, x3, l1, l2, l3, hr.keep (fun b hb b1 b2 => hk b hb (by omega) (by omega))⟩
theorem OwnR.wide {Q : Nat → Prop} {w : World} : ∀ {h lo hi lo' hi' : Nat} {u : Value} {ts : List T}, lo' ≤ lo → hi ≤ hi' → OwnR Q w h lo hi u ts → OwnR Q w h lo' hi' u ts
  | 0, _, _, _, _, _, _, _, _, k => k
  | h + 1, lo, hi, lo', hi', u, ts, w1, w2, ⟨a, cap, e, hl, hc⟩ => by
    refine ⟨a, cap, e, hl, ?_⟩
    rcases hc with hc | ⟨g, xs, U, L, R, ea, hq, h1, h2, ho, hx, hd⟩
    · exact Or.inl hc
    · refine Or.inr ⟨g, xs, U, L, R, ea, hq, by omega, by omega, ho, fun i k n s txs hi => ?_, hd⟩
      obtain ⟨c, x3, l1, l2, l3, hr⟩ := hx i k n s txs hi
      exact ⟨c, x3, by omega, by omega, l3, hr⟩
theorem OwnR.nil (Q : Nat → Prop) (w : World) (h lo hi : Nat) (a : Option Addr) (cap : Nat) : OwnR Q w h lo hi (.slice a 0 cap) [] := by
  cases h with
  | zero => exact ⟨rfl, a, cap, rfl⟩
  | succ h => exact ⟨a, cap, rfl, Nat.zero_le _, Or.inl rfl⟩
theorem OwnR.slice {Q : Nat → Prop} {w : World} {h lo hi : Nat} {u : Value} {ts : List T} (k : OwnR Q w h lo hi u ts) : ∃ a cap, u = .slice a ts.length cap := k.own.slice

/-- A node whose arguments are still those of another term: where it lies, what its fourth cell holds, the terms that are read there. -/
structure Pd where
  b : Nat
  o : Nat
  h : Nat
  u : Value
  xs : List T
/-- A block that is not a slice's own. -/
def NotOwn (v : Value) (g : Nat) : Prop := some g ≠ v.ownBlock

theorem setCell_heap {w w' : World} {ad : Addr} {x : Value} (h : w'.heap[ad.block]? = w.heap[ad.block]?) : (w'.setCell ad x).heap[ad.block]? = (w.setCell ad x).heap[ad.block]? := by
  unfold World.setCell
  simp only [Array.getElem?_modify]
  simp [h]

/-- The node was copied: only its fourth cell has turned, beside the slice v of what is still to do, which may have moved; its arguments lie in new blocks. -/
structure Done (p : Pd) (v : Value) (w : World) (v' : Value) (w' : World) (u' : Value) : Prop where
  size : w.heap.size ≤ w'.heap.size
  keep : ∀ b, b < w.heap.size → b ≠ p.b → NotOwn v b → w'.heap[b]? = w.heap[b]?
  cell : w'.heap[p.b]? = (w.setCell ⟨p.b, p.o + 3, none⟩ u').heap[p.b]?
  ob : v'.ownBlock = v.ownBlock ∨ ∃ k, v'.ownBlock = some k ∧ w.heap.size ≤ k
  own : OwnR (NotOwn v') w' p.h w.heap.size w'.heap.size u' p.xs

/-- What is still to do, the next one first, is worth Fin: once all of it is done, Fin holds. -/
def GoodW (w0 : World) (Pb : Nat → Prop) (Fin : World → Prop) : List Pd → Value → World → Prop
  | [], _, w => Fin w
  | p :: ps, v, w => (w.cell? ⟨p.b, p.o + 3, none⟩ = some p.u ∧ w.frozen? ⟨p.b, p.o + 3, none⟩ = false ∧ Pb p.b ∧ p.b < w.heap.size ∧ NotOwn v p.b ∧ ArgsAt w0 0 p.h p.u p.xs) ∧ ∀ v' w' u', Done p v w v' w' u' → GoodW w0 Pb Fin ps v' w'

/-- An argument of a node whose row of arguments is the call's own. -/
def kid (g h : Nat) (U : Nat → Value) (X : Nat → List T) (j : Nat) : Pd := ⟨g, j * 4, h, U j, X j⟩
def kidL (g h : Nat) (U : Nat → Value) (X : Nat → List T) : Nat → List Pd
  | 0 => []
  | j + 1 => kid g h U X j :: kidL g h U X j

/-- A node whose row was copied, and whose arguments from j on are done. -/
structure Mid (p : Pd) (v : Value) (w : World) (g cap h : Nat) (U : Nat → Value) (j : Nat) (vj : Value) (wj : World) : Prop where
  size : w.heap.size ≤ wj.heap.size
  keep : ∀ b, b < w.heap.size → b ≠ p.b → NotOwn v b → wj.heap[b]? = w.heap[b]?
  cell : wj.heap[p.b]? = (w.setCell ⟨p.b, p.o + 3, none⟩ (.slice (some ⟨g, 0, none⟩) p.xs.length cap)).heap[p.b]?
  ob : vj.ownBlock = v.ownBlock ∨ ∃ k, vj.ownBlock = some k ∧ w.heap.size ≤ k
  gs : g < wj.heap.size
  gn : NotOwn vj g
  row : ∃ (ys : List Value) (V : Nat → Value) (L R : Nat → Nat), wj.ownsRow g 26 4 (.slice (some ⟨g, 0, none⟩) p.xs.length cap) p.xs.length ys ∧
    (∀ i k n s txs, p.xs[i]? = some (.node k n s txs) → (s.size ≤ maxLen ∧ ys[i * 4]? = some (.int .i64 k) ∧ ys[i * 4 + 1]? = some (.int .i64 n) ∧ ys[i * 4 + 2]? = some (.string s)) ∧ (i < j → ys[i * 4 + 3]? = some (U i)) ∧
      (j ≤ i → ys[i * 4 + 3]? = some (V i) ∧ g < L i ∧ w.heap.size ≤ L i ∧ R i ≤ wj.heap.size ∧ OwnR (NotOwn vj) wj h (L i) (R i) (V i) txs)) ∧
    ∀ i i', j ≤ i → i < i' → i' < p.xs.length → R i' ≤ L i

theorem ob_trans {v1 v2 v3 : Value} {n1 n2 : Nat} (hn : n1 ≤ n2) (h1 : v2.ownBlock = v1.ownBlock ∨ ∃ k, v2.ownBlock = some k ∧ n1 ≤ k) (h2 : v3.ownBlock = v2.ownBlock ∨ ∃ k, v3.ownBlock = some k ∧ n2 ≤ k) :
    v3.ownBlock = v1.ownBlock ∨ ∃ k, v3.ownBlock = some k ∧ n1 ≤ k := by
  rcases h2 with h2 | ⟨k, e, hk⟩
  · rw [h2]; exact h1
  · exact Or.inr ⟨k, e, by omega⟩
theorem notOwn_old {v v' : Value} {n b : Nat} (h : v'.ownBlock = v.ownBlock ∨ ∃ k, v'.ownBlock = some k ∧ n ≤ k) (hb : b < n) (hv : NotOwn v b) : NotOwn v' b := by
  unfold NotOwn at *
  rcases h with h | ⟨k, e, hk⟩
  · rw [h]; exact hv
  · rw [e]; intro e2; cases e2; omega

theorem Mid.step {p : Pd} {v : Value} {w : World} {g cap h : Nat} {U : Nat → Value} {X : Nat → List T} {j : Nat} {vj : Value} {wj : World} {v' : Value} {w' : World} {u' : Value} (m : Mid p v w g cap h U (j + 1) vj wj) (d : Done (kid g h U X j) vj wj v' w' u')
    (hg : w.heap.size ≤ g) (hp : p.b < w.heap.size) (hpo : NotOwn v p.b) (hj : j < p.xs.length) (hX : ∀ i k n s txs, p.xs[i]? = some (.node k n s txs) → txs = X i) : Mid p v w g cap h U j v' w' := by
  obtain ⟨ys, V, L, R, ho, hx, hd⟩ := m.row
  have hyl := ho.1
  have dk : ∀ b, b < wj.heap.size → b ≠ g → NotOwn vj b → w'.heap[b]? = wj.heap[b]? := d.keep
  have ms := m.size
  have ds := d.size
  refine ⟨Nat.le_trans m.size d.size, fun b hb hne hno => ?_, ?_, ob_trans m.size m.ob d.ob, Nat.lt_of_lt_of_le m.gs d.size, notOwn_old d.ob m.gs m.gn, ?_⟩
  · exact (dk b (by omega) (by omega) (notOwn_old m.ob hb hno)).trans (m.keep b hb hne hno)
  · exact (dk p.b (by omega) (by omega) (notOwn_old m.ob hp hpo)).trans m.cell
  · have hst := (ho.stored (j * 4 + 3) u').1
    have hrow := row_keep hst (w' := w') (d.cell : w'.heap[g]? = (wj.setCell ⟨g, j * 4 + 3, none⟩ u').heap[g]?)
    refine ⟨ys.set (j * 4 + 3) u', fun i => if i = j then u' else V i, fun i => if i = j then wj.heap.size else L i, fun i => if i = j then w'.heap.size else R i, hrow, fun i k n s txs hi => ?_, fun i i' h1 h2 h3 => ?_⟩
    · obtain ⟨⟨c0, c1, c2, c3⟩, hlo, hhi⟩ := hx i k n s txs hi
      refine ⟨⟨c0, by rw [List.getElem?_set_ne (by omega)]; exact c1, by rw [List.getElem?_set_ne (by omega)]; exact c2, by rw [List.getElem?_set_ne (by omega)]; exact c3⟩, fun hlt => ?_, fun hle => ?_⟩
      · rw [List.getElem?_set_ne (by omega)]; exact hlo (by omega)
      · by_cases e : i = j
        · subst e
          simp only [if_true]
          have hown := d.own
          have hxs : (kid g h U X i).xs = txs := (hX i k n s txs hi).symm
          rw [hxs] at hown
          exact ⟨List.getElem?_set_self (by omega), m.gs, m.size, Nat.le_refl _, hown⟩
        · simp only [if_neg e]
          obtain ⟨x3, l1, l2, l3, hr⟩ := hhi (by omega)
          rw [List.getElem?_set_ne (by omega)]
          exact ⟨x3, l1, l2, by omega, hr.keep (fun b hb b1 b2 => ⟨dk b (by omega) (by omega) hb, notOwn_old d.ob (by omega) hb⟩)⟩
    · by_cases e : i = j
      · subst e
        have e2 : i' ≠ i := by omega
        simp only [if_true, if_neg e2]
        obtain ⟨t, ht⟩ : ∃ t, p.xs[i']? = some t := ⟨_, List.getElem?_eq_getElem h3⟩
        obtain ⟨k, n, s, txs⟩ := t
        obtain ⟨_, _, hhi⟩ := hx i' k n s txs ht
        exact (hhi (by omega)).2.2.2.1
      · have e2 : i' ≠ j := by omega
        simp only [if_neg e, if_neg e2]
        exact hd i i' (by omega) h2 h3

theorem Mid.done {p : Pd} {v : Value} {w : World} {g cap h : Nat} {U : Nat → Value} {vj : Value} {wj : World} (m : Mid p v w g cap h U 0 vj wj) (hg : w.heap.size ≤ g) (hl : p.xs.length ≤ maxLen) (hh : p.h = h + 1) :
    Done p v w vj wj (.slice (some ⟨g, 0, none⟩) p.xs.length cap) := by
  obtain ⟨ys, V, L, R, ho, hx, hd⟩ := m.row
  refine ⟨m.size, m.keep, m.cell, m.ob, ?_⟩
  rw [hh]
  refine ⟨_, cap, rfl, hl, Or.inr ⟨g, ys, V, L, R, rfl, m.gn, hg, m.gs, ho, fun i k n s txs hi => ?_, fun i j h1 h2 => Or.inr (hd i j (Nat.zero_le _) h1 h2)⟩⟩
  obtain ⟨c, _, hhi⟩ := hx i k n s txs hi
  obtain ⟨x3, l1, l2, l3, hr⟩ := hhi (Nat.zero_le _)
  exact ⟨c, x3, l2, l3, Or.inl l1, hr⟩

theorem GoodW.kids {w0 : World} {Pb : Nat → Prop} {Fin : World → Prop} {ps : List Pd} {p : Pd} {v : Value} {w : World} {g cap h : Nat} {U : Nat → Value} {X : Nat → List T}
    (cont : ∀ v' w' u', Done p v w v' w' u' → GoodW w0 Pb Fin ps v' w') (hg : w.heap.size ≤ g) (hn : Pb g) (hp : p.b < w.heap.size) (hpo : NotOwn v p.b) (hl : p.xs.length ≤ maxLen) (hh : p.h = h + 1)
    (hX : ∀ i k n s txs, p.xs[i]? = some (.node k n s txs) → txs = X i ∧ ArgsAt w0 0 h (U i) (X i)) :
    ∀ (j : Nat) (vj : Value) (wj : World), j ≤ p.xs.length → Mid p v w g cap h U j vj wj → GoodW w0 Pb Fin (kidL g h U X j ++ ps) vj wj
  | 0, vj, wj, _, m => cont _ _ _ (m.done hg hl hh)
  | j + 1, vj, wj, hj, m => by
    obtain ⟨t, ht⟩ : ∃ t, p.xs[j]? = some t := ⟨_, List.getElem?_eq_getElem (by omega)⟩
    obtain ⟨k, n, s, txs⟩ := t
    obtain ⟨ys, V, L, R, ho, hx, hd⟩ := m.row
    obtain ⟨_, hlo, _⟩ := hx j k n s txs ht
    refine ⟨⟨?_, ho.frozenAt _, hn, m.gs, m.gn, (hX j k n s txs ht).2⟩, fun v' w' u' d => GoodW.kids cont hg hn hp hpo hl hh hX j v' w' (by omega) (m.step d hg hp hpo (by omega) (fun i k n s txs hi => (hX i k n s txs hi).1))⟩
    show wj.cell? ⟨g, j * 4 + 3, none⟩ = some (U j)
    rw [ho.cellAt (j * 4 + 3) (by omega), hlo (by omega)]
end Go.Proofs.Ytidbokheeieifaa
namespace Go.Proofs.Ytidbokheeieifaa

/-- The argument with an index. -/
def argT (t : T) (p : Int) : Option T := if 0 ≤ p then (kT t)[p.toNat]? else none
/-- The subterm at a position. -/
def subT : List Int → T → Option T
  | [], t => some t
  | p :: ps, t => (argT t p).bind (subT ps)
theorem subT_nil (t : T) : subT [] t = some t := rfl
theorem subT_cons (p : Int) (ps : List Int) (t : T) : subT (p :: ps) t = (argT t p).bind (subT ps) := rfl
theorem subT_append (ps qs : List Int) (t : T) : subT (ps ++ qs) t = (subT ps t).bind (subT qs) := by
  induction ps generalizing t with
  | nil => rfl
  | cons p ps ih =>
    rw [List.cons_append, subT_cons, subT_cons]
    cases argT t p with
    | none => rfl
    | some x => exact ih x
theorem subT_snoc (ps : List Int) (p : Int) (t : T) : subT (ps ++ [p]) t = (subT ps t).bind (fun x => argT x p) := by
  rw [subT_append]
  congr 1
  funext x
  rw [subT_cons]
  cases argT x p <;> rfl
theorem argT_out {t : T} {p : Int} (h : ¬ (0 ≤ p ∧ p < (kT t).length)) : argT t p = none := by
  unfold argT
  split
  · rw [List.getElem?_eq_none]; omega
  · rfl
theorem argT_in {t : T} {p : Int} (h0 : 0 ≤ p) (h1 : p < (kT t).length) : ∃ j x, p = ((j : Nat) : Int) ∧ (kT t)[j]? = some x ∧ argT t p = some x := by
  refine ⟨p.toNat, _, by omega, List.getElem?_eq_getElem (by omega), ?_⟩
  unfold argT
  rw [if_pos h0]; exact List.getElem?_eq_getElem (by omega)

theorem wS_mem (xs : List T) : ∀ x ∈ xs, wT x ≤ wS xs := by
  induction xs with
  | nil => simp
  | cons y r ih =>
    intro x hx
    simp only [wS, List.map_cons, List.sum_cons]
    rcases List.mem_cons.1 hx with rfl | hx
    · omega
    · have := ih x hx; simp only [wS] at this; omega
theorem wT_kT (t : T) : wS (kT t) ≤ wT t := by
  obtain ⟨k, n, s, xs⟩ := t
  rw [wT_node]; show wS xs ≤ _; omega
theorem argT_mem {t x : T} {p : Int} (h : argT t p = some x) : x ∈ kT t := by
  unfold argT at h
  split at h
  · exact List.mem_of_getElem? h
  · cases h
theorem argT_w {t x : T} {p : Int} (h : argT t p = some x) : wT x ≤ wT t := Nat.le_trans (wS_mem _ x (argT_mem h)) (wT_kT t)
theorem subT_w (ps : List Int) (t x : T) (h : subT ps t = some x) : wT x ≤ wT t := by
  induction ps generalizing t with
  | nil => cases h; exact Nat.le_refl _
  | cons p ps ih =>
    rw [subT_cons] at h
    cases e : argT t p with
    | none => rw [e] at h; cases h
    | some y =>
      rw [e] at h
      exact Nat.le_trans (ih y h) (argT_w e)

/-- A term in which the subterm at a position is replaced. -/
def putT : List Int → T → T → T
  | [], _, u => u
  | p :: ps, .node k n s xs, u => match xs[p.toNat]? with
    | some x => .node k n s (xs.set p.toNat (putT ps x u))
    | none => .node k n s xs
theorem putT_nil (t u : T) : putT [] t u = u := by cases t; rfl
theorem putT_cons (j : Nat) (ps : List Int) (k n : Int) (s : ByteArray) (xs : List T) (x u : T) (h : xs[j]? = some x) : putT ((j : Int) :: ps) (.node k n s xs) u = .node k n s (xs.set j (putT ps x u)) := by
  rw [putT]
  simp only [Int.toNat_natCast, h]

/-- What is there when it is not replaced. -/
theorem putT_self (ps : List Int) (t x : T) (h : subT ps t = some x) : putT ps t x = t := by
  induction ps generalizing t with
  | nil => cases h; exact putT_nil _ _
  | cons p ps ih =>
    rw [subT_cons] at h
    cases e : argT t p with
    | none => rw [e] at h; cases h
    | some y =>
      rw [e] at h
      obtain ⟨k, n, s, xs⟩ := t
      unfold argT at e
      split at e
      · rename_i hp
        obtain ⟨j, rfl⟩ : ∃ j : Nat, p = j := ⟨p.toNat, by omega⟩
        have e' : xs[j]? = some y := by simpa [kT] using e
        rw [putT_cons j ps k n s xs y x e', ih y h]
        congr 1
        have hj := (List.getElem?_eq_some_iff.1 e')
        obtain ⟨hj, hv⟩ := hj
        rw [← hv, List.set_getElem_self]
      · cases e
theorem subT_put (ps : List Int) (t x u : T) (h : subT ps t = some x) : subT ps (putT ps t u) = some u := by
  induction ps generalizing t with
  | nil => rw [putT_nil]; rfl
  | cons p ps ih =>
    rw [subT_cons] at h
    cases e : argT t p with
    | none => rw [e] at h; cases h
    | some y =>
      rw [e] at h
      obtain ⟨k, n, s, xs⟩ := t
      unfold argT at e
      split at e
      · rename_i hp
        obtain ⟨j, rfl⟩ : ∃ j : Nat, p = j := ⟨p.toNat, by omega⟩
        have e' : xs[j]? = some y := by simpa [kT] using e
        have hj := (List.getElem?_eq_some_iff.1 e').1
        rw [putT_cons j ps k n s xs y u e', subT_cons]
        have : argT (.node k n s (xs.set j (putT ps y u))) (j : Int) = some (putT ps y u) := by
          unfold argT
          rw [if_pos hp]
          show (xs.set j (putT ps y u))[(j : Int).toNat]? = _
          rw [Int.toNat_natCast, List.getElem?_set_self hj]
        rw [this]
        exact ih y h
      · cases e

mutual
/-- All positions of a term, in order. -/
def posT : T → List (List Int)
  | .node _ _ _ xs => [] :: posS 0 xs
/-- Those in a list of arguments, from index i on. -/
def posS (i : Nat) : List T → List (List Int)
  | [] => []
  | x :: xs => (posT x).map ((i : Int) :: ·) ++ posS (i + 1) xs
end
theorem posT_node (k n : Int) (s : ByteArray) (xs : List T) : posT (.node k n s xs) = [] :: posS 0 xs := by rw [posT]
theorem posS_nil (i : Nat) : posS i [] = [] := by rw [posS]
theorem posS_cons (i : Nat) (x : T) (xs : List T) : posS i (x :: xs) = (posT x).map ((i : Int) :: ·) ++ posS (i + 1) xs := by rw [posS]
theorem posS_snoc (xs : List T) (i : Nat) (x : T) : posS i (xs ++ [x]) = posS i xs ++ (posT x).map (((i + xs.length : Nat) : Int) :: ·) := by
  induction xs generalizing i with
  | nil => rw [List.nil_append, posS_cons, posS_nil, posS_nil]; simp
  | cons y ys ih =>
    rw [List.cons_append, posS_cons, posS_cons, ih, List.append_assoc, List.length_cons]
    rw [show i + 1 + ys.length = i + (ys.length + 1) by omega]
theorem posT_length : ∀ t : T, (posT t).length = cT t
  | .node k n s xs => by
    have h : ∀ x ∈ xs, (posT x).length = cT x := fun x _ => posT_length x
    rw [posT_node, cT_node, List.length_cons]
    have : ∀ (ys : List T) (i : Nat), (∀ y ∈ ys, (posT y).length = cT y) → (posS i ys).length = cS ys := by
      intro ys
      induction ys with
      | nil => intro i _; rw [posS_nil]; rfl
      | cons y ys ih =>
        intro i hy
        rw [posS_cons, List.length_append, List.length_map, hy y (by simp), ih (i + 1) (fun z hz => hy z (by simp [hz]))]
        simp [cS]
    rw [this xs 0 h]; omega

/-- Every one of them is a position. -/
theorem posT_sub : ∀ (t : T), ∀ p ∈ posT t, ∃ x, subT p t = some x
  | .node k n s xs => by
    have h : ∀ x ∈ xs, ∀ p ∈ posT x, ∃ y, subT p x = some y := fun x _ => posT_sub x
    intro p hp
    rw [posT_node, List.mem_cons] at hp
    rcases hp with rfl | hp
    · exact ⟨_, rfl⟩
    · have key : ∀ (ys : List T) (i : Nat), (∀ y ∈ ys, ∀ p ∈ posT y, ∃ z, subT p y = some z) → ∀ p ∈ posS i ys, ∃ j q y, p = ((i + j : Nat) : Int) :: q ∧ ys[j]? = some y ∧ ∃ z, subT q y = some z := by
        intro ys
        induction ys with
        | nil => intro i _ p hp; rw [posS_nil] at hp; cases hp
        | cons y ys ih =>
          intro i hy p hp
          rw [posS_cons, List.mem_append, List.mem_map] at hp
          rcases hp with ⟨q, hq, rfl⟩ | hp
          · exact ⟨0, q, y, rfl, rfl, hy y (by simp) q hq⟩
          · obtain ⟨j, q, z, rfl, hj, hz⟩ := ih (i + 1) (fun z hz => hy z (by simp [hz])) p hp
            exact ⟨j + 1, q, z, by rw [show i + 1 + j = i + (j + 1) by omega], by simpa using hj, hz⟩
      obtain ⟨j, q, y, rfl, hj, z, hz⟩ := key xs 0 h p hp
      refine ⟨z, ?_⟩
      rw [subT_cons]
      have : argT (.node k n s xs) ((0 + j : Nat) : Int) = some y := by
        unfold argT
        rw [if_pos (by omega), Int.toNat_natCast, Nat.zero_add]
        exact hj
      rw [this]; exact hz
end Go.Proofs.Ytidbokheeieifaa
