/-
  What a call owns stays owned while other memory is made or written: small facts on worlds. No walk.
  Terms as trees; a term that lies in memory; how much it holds. No walk.
  The rows of a term that are a call's own and lie apart: what keeps them. No walk.
  What the walks over structs of terms share: a new block, a result in a cell. No walk.
  What the walks over terms share: a struct in a block, an argument's cells, an answer that leaves what was there. No walk.
  The cursor over the bytes of a draw: what its functions hand back lies within bounds, and they write nothing but the cursor.
  A new cursor; a choice out of a list of strings or of numbers; a drawn integer.
  A choice out of a list of numbers; a draw of one in so many.
  The draws of terms: spec.l3Var, l3Word, l3App, l3One, l3Pair.
-/
import Derived.Test.YtidbokheeieifaaGreatDoorRows
import Derived.WalkKit
import Derived.WalkSpells
import Derived.BigQuiet
import Derived.Deep.QuietTactic
import Derived.Lib.Hide
import Derived.WalkLawsBesides
namespace Go.Proofs.YtidbokheeieifaaGreatDoor
open Go.RowKit

theorem Below.toGrown {w w' : World} (h : Below w.heap.size w w') (row : Option Nat) : w.grownBy w' row := ⟨h.os, h.tape, h.output, h.size, fun k hk _ => h.block k hk⟩
theorem grown_trans {a b c : World} {row : Option Nat} (h : a.grownBy b row) (k : b.grownBy c row) : a.grownBy c row :=
  ⟨k.os.trans h.os, k.tape.trans h.tape, k.output.trans h.output, Nat.le_trans h.size k.size, fun i hi hr => (k.block i (Nat.lt_of_lt_of_le hi h.size) hr).trans (h.block i hi hr)⟩
theorem grown_refl (a : World) (row : Option Nat) : a.grownBy a row := ⟨rfl, rfl, rfl, Nat.le_refl _, fun _ _ _ => rfl⟩

def TrueEnd (w : World) (e : Ending) (w' : World) : Prop := e = .returned (.bool true) ∧ Below w.heap.size w w'

theorem keep_own {w w' : World} {B n size : Nat} {e : TypeId} {v : Value} {xs : List Value} (h : w.ownsRow B e size v n xs) (hb : Below w.heap.size w w') : w'.ownsRow B e size v n xs :=
  h.kept (Below.toGrown hb none) (by rcases h.2 with ⟨rfl, _⟩ | ⟨g, cap, cur, rfl, _⟩ <;> simp [Value.ownBlock])
theorem keep_other {w w' : World} {A B n m size : Nat} {e f : TypeId} {v u : Value} {xs ys : List Value} (h : w.ownsRow A e size v n xs) (hA : ∀ k, v.ownBlock = some k → k < B) (hu : w.ownsRow B f size u m ys) (hg : w.grownBy w' u.ownBlock) : w'.ownsRow A e size v n xs :=
  h.kept hg (by
    cases hv : v.ownBlock with
    | none => exact Or.inl rfl
    | some k =>
      refine Or.inr fun e2 => ?_
      have h1 := hA k hv
      have h2 := (hu.lt k e2.symm).1
      omega)
theorem keep_above {w w' : World} {A n size : Nat} {e : TypeId} {v u : Value} {xs : List Value} (h : w.ownsRow A e size v n xs) (hA : ∀ k, u.ownBlock = some k → k < A) (hg : w.grownBy w' u.ownBlock) : w'.ownsRow A e size v n xs :=
  h.kept hg (by
    cases hv : v.ownBlock with
    | none => exact Or.inl rfl
    | some k =>
      refine Or.inr fun e2 => ?_
      have h1 := hA k e2.symm
      have h2 := (h.lt k hv).1
      omega)

theorem own_low {w : World} {B B' n size : Nat} {e : TypeId} {v : Value} {xs : List Value} (h : w.ownsRow B e size v n xs) (hb : B' ≤ B) : w.ownsRow B' e size v n xs := by
  refine ⟨h.1, ?_⟩
  rcases h.2 with hn | ⟨g, cap, cur, hv, hg, rest⟩
  · exact Or.inl hn
  · exact Or.inr ⟨g, cap, cur, hv, Nat.le_trans hb hg, rest⟩
theorem set_grown (w : World) (B j : Nat) (v : Value) : w.grownBy (w.setCell ⟨B, j, none⟩ v) (some B) :=
  ⟨rfl, rfl, rfl, by simp [World.setCell], fun k _ hk => Below.heap_setCell _ _ _ _ (fun e => hk (by rw [e]))⟩
theorem below_q (w : World) (q : Nat) : Below w.heap.size w (w.drewN q) := ⟨rfl, rfl, rfl, Nat.le_refl _, fun _ _ => rfl⟩

end Go.Proofs.YtidbokheeieifaaGreatDoor
namespace Go.Proofs.YtidbokheeieifaaGreatDoor
open Go.RowKit

/-- A term: its kind, its number, its name, its arguments. -/
inductive T where
  | node (k n : Int) (s : ByteArray) (xs : List T) : T

/-- The value of a struct of a term. -/
abbrev tv (k n : Int) (s : ByteArray) (u : Value) : Value := .agg #[.int .i64 k, .int .i64 n, .string s, u]

/-- The slice value u holds the terms ts, of a depth of at most h, in blocks from lo on. -/
def ArgsAt (w : World) (lo : Nat) : Nat → Value → List T → Prop
  | 0, u, ts => ts = [] ∧ ∃ a cap, u = .slice a 0 cap
  | h + 1, u, ts => ∃ a cap, u = .slice a ts.length cap ∧ ts.length ≤ maxLen ∧ (ts = [] ∨ ∃ b o, a = some ⟨b, o, none⟩ ∧ lo ≤ b ∧ ∀ i k n s xs, ts[i]? = some (T.node k n s xs) → s.size ≤ maxLen ∧ ∃ u', w.cell? ⟨b, o + i * 4, none⟩ = some (.int .i64 k) ∧
      w.cell? ⟨b, o + i * 4 + 1, none⟩ = some (.int .i64 n) ∧ w.cell? ⟨b, o + i * 4 + 2, none⟩ = some (.string s) ∧ w.cell? ⟨b, o + i * 4 + 3, none⟩ = some u' ∧ ArgsAt w lo h u' xs)

/-- The value v is the term t, of a depth of at most h below it. -/
def TermAt (w : World) (lo h : Nat) (v : Value) (t : T) : Prop := ∃ k n s u xs, v = tv k n s u ∧ t = .node k n s xs ∧ s.size ≤ maxLen ∧ ArgsAt w lo h u xs

/-- What the cells of a row of terms hold. -/
def RowAt (w : World) (lo h b o : Nat) (ts : List T) : Prop :=
  ∀ i k n s xs, ts[i]? = some (T.node k n s xs) → s.size ≤ maxLen ∧ ∃ u', w.cell? ⟨b, o + i * 4, none⟩ = some (.int .i64 k) ∧
    w.cell? ⟨b, o + i * 4 + 1, none⟩ = some (.int .i64 n) ∧ w.cell? ⟨b, o + i * 4 + 2, none⟩ = some (.string s) ∧ w.cell? ⟨b, o + i * 4 + 3, none⟩ = some u' ∧ ArgsAt w lo h u' xs

theorem TermAt.form {w : World} {lo h : Nat} {v : Value} {t : T} (ht : TermAt w lo h v t) : ∃ k n s u, v = tv k n s u := by
  obtain ⟨k, n, s, u, _, e, _⟩ := ht
  exact ⟨k, n, s, u, e⟩

theorem ArgsAt.nil (w : World) (lo h : Nat) (a : Option Addr) (cap : Nat) : ArgsAt w lo h (.slice a 0 cap) [] := by
  cases h with
  | zero => exact ⟨rfl, a, cap, rfl⟩
  | succ h => exact ⟨a, cap, rfl, Nat.zero_le _, Or.inl rfl⟩

theorem ArgsAt.keep {w w' : World} {lo : Nat} (hk : ∀ (ad : Addr) v, lo ≤ ad.block → w.cell? ad = some v → w'.cell? ad = some v) : ∀ {h : Nat} {u : Value} {ts : List T}, ArgsAt w lo h u ts → ArgsAt w' lo h u ts
  | 0, _, _, k => k
  | h + 1, _, _, ⟨a, cap, e, hl, hc⟩ => by
    refine ⟨a, cap, e, hl, ?_⟩
    rcases hc with hc | ⟨b, o, rfl, hlo, hc⟩
    · exact Or.inl hc
    · refine Or.inr ⟨b, o, rfl, hlo, fun i k n s xs hi => ?_⟩
      obtain ⟨hs, u', c0, c1, c2, c3, hr⟩ := hc i k n s xs hi
      exact ⟨hs, u', hk _ _ hlo c0, hk _ _ hlo c1, hk _ _ hlo c2, hk _ _ hlo c3, hr.keep hk⟩
theorem ArgsAt.below {w w' : World} {lo h : Nat} {u : Value} {ts : List T} (k : ArgsAt w lo h u ts) (hb : Below w.heap.size w w') : ArgsAt w' lo h u ts :=
  k.keep fun ad v _ hv => by rw [hb.cell (World.block_lt_of_cell? w _ hv)]; exact hv
theorem ArgsAt.grown {w w' : World} {lo h : Nat} {u : Value} {ts : List T} {row : Option Nat} (k : ArgsAt w lo h u ts) (hg : w.grownBy w' row) (hr : ∀ j, row = some j → j < lo) : ArgsAt w' lo h u ts :=
  k.keep fun ad v hlo hv => hg.cell hv (fun e => by have := hr ad.block e.symm; omega)
theorem ArgsAt.low {w : World} {lo lo' : Nat} (hlo : lo' ≤ lo) : ∀ {h : Nat} {u : Value} {ts : List T}, ArgsAt w lo h u ts → ArgsAt w lo' h u ts
  | 0, _, _, k => k
  | h + 1, _, _, ⟨a, cap, e, hl, hc⟩ => by
    refine ⟨a, cap, e, hl, ?_⟩
    rcases hc with hc | ⟨b, o, rfl, hb, hc⟩
    · exact Or.inl hc
    · refine Or.inr ⟨b, o, rfl, Nat.le_trans hlo hb, fun i k n s xs hi => ?_⟩
      obtain ⟨hs, u', c0, c1, c2, c3, hr⟩ := hc i k n s xs hi
      exact ⟨hs, u', c0, c1, c2, c3, hr.low hlo⟩
theorem TermAt.below {w w' : World} {lo h : Nat} {v : Value} {t : T} (ht : TermAt w lo h v t) (hb : Below w.heap.size w w') : TermAt w' lo h v t := by
  obtain ⟨k, n, s, u, xs, e1, e2, hs, ha⟩ := ht
  exact ⟨k, n, s, u, xs, e1, e2, hs, ha.below hb⟩
theorem TermAt.low {w : World} {lo lo' h : Nat} {v : Value} {t : T} (ht : TermAt w lo h v t) (hlo : lo' ≤ lo) : TermAt w lo' h v t := by
  obtain ⟨k, n, s, u, xs, e1, e2, hs, ha⟩ := ht
  exact ⟨k, n, s, u, xs, e1, e2, hs, ha.low hlo⟩
theorem ArgsAt.more {w : World} {lo : Nat} : ∀ {h : Nat} {u : Value} {ts : List T}, ArgsAt w lo h u ts → ArgsAt w lo (h + 1) u ts
  | 0, _, _, ⟨e, a, cap, e2⟩ => by subst e; exact ⟨a, cap, e2, Nat.zero_le _, Or.inl rfl⟩
  | h + 1, _, _, ⟨a, cap, e, hl, hc⟩ => by
    refine ⟨a, cap, e, hl, ?_⟩
    rcases hc with hc | ⟨b, o, rfl, hb, hc⟩
    · exact Or.inl hc
    · refine Or.inr ⟨b, o, rfl, hb, fun i k n s xs hi => ?_⟩
      obtain ⟨hs, u', c0, c1, c2, c3, hr⟩ := hc i k n s xs hi
      exact ⟨hs, u', c0, c1, c2, c3, hr.more⟩
theorem ArgsAt.le {w : World} {lo h h' : Nat} {u : Value} {ts : List T} (k : ArgsAt w lo h u ts) (hle : h ≤ h') : ArgsAt w lo h' u ts := by
  induction hle with
  | refl => exact k
  | step _ ih => exact ih.more
/-- What a loop over the arguments sees: empty, or a row. -/
theorem ArgsAt.cases {w : World} {lo h : Nat} {u : Value} {ts : List T} (k : ArgsAt w lo h u ts) :
    (ts = [] ∧ ∃ a cap, u = .slice a 0 cap) ∨ ∃ h' b o cap, h = h' + 1 ∧ u = .slice (some ⟨b, o, none⟩) ts.length cap ∧ ts.length ≤ maxLen ∧ lo ≤ b ∧ RowAt w lo h' b o ts := by
  cases h with
  | zero => exact Or.inl k
  | succ h =>
    obtain ⟨a, cap, e, hl, hc⟩ := k
    rcases hc with rfl | ⟨b, o, rfl, hb, hc⟩
    · exact Or.inl ⟨rfl, a, cap, e⟩
    · exact Or.inr ⟨h, b, o, cap, rfl, e, hl, hb, hc⟩

theorem ArgsAt.slice {w : World} {lo h : Nat} {u : Value} {ts : List T} (k : ArgsAt w lo h u ts) : ∃ a cap, u = .slice a ts.length cap := by
  cases h with
  | zero => obtain ⟨rfl, a, cap, rfl⟩ := k; exact ⟨a, cap, rfl⟩
  | succ h => obtain ⟨a, cap, e, _⟩ := k; exact ⟨a, cap, e⟩

theorem TermAt.shape {w : World} {lo h : Nat} {v : Value} {t : T} (ht : TermAt w lo h v t) : ∃ k n s a m cap, v = tv k n s (.slice a m cap) := by
  obtain ⟨k, n, s, u, xs, e, _, _, ha⟩ := ht
  obtain ⟨a, cap, rfl⟩ := ha.slice
  exact ⟨k, n, s, a, _, cap, e⟩

/-! ### how much a term holds -/
/-- The bytes of the names and the arguments below a term. -/
def wT : T → Nat
  | .node _ _ s xs => s.size + (xs.length + (xs.map wT).sum)
def wS (xs : List T) : Nat := (xs.map wT).sum
/-- How many terms there are in a term. -/
def cT : T → Nat
  | .node _ _ _ xs => 1 + (xs.map cT).sum
def cS (xs : List T) : Nat := (xs.map cT).sum
/-- How deep a term is. -/
def dT : T → Nat
  | .node _ _ _ xs => (xs.map dT).foldl max 0 + 1
def dS (xs : List T) : Nat := (xs.map dT).foldl max 0
theorem foldl_max (l : List Nat) (a b : Nat) (h : ∀ x ∈ l, x ≤ b) (ha : a ≤ b) : l.foldl max a ≤ b := by
  induction l generalizing a with
  | nil => exact ha
  | cons x l ih => exact ih (max a x) (fun y hy => h y (by simp [hy])) (by have := h x (by simp); omega)
theorem wS_snoc (l : List T) (t : T) : wS (l ++ [t]) = wS l + wT t := by simp [wS]
theorem cS_snoc (l : List T) (t : T) : cS (l ++ [t]) = cS l + cT t := by simp [cS]
theorem wT_node (k n : Int) (s : ByteArray) (xs : List T) : wT (.node k n s xs) = s.size + (xs.length + wS xs) := by rw [wT]; rfl
theorem cT_node (k n : Int) (s : ByteArray) (xs : List T) : cT (.node k n s xs) = 1 + cS xs := by rw [cT]; rfl
theorem cS_of (xs : List T) (h : ∀ x ∈ xs, cT x ≤ 1 + wT x) : cS xs ≤ xs.length + wS xs := by
  induction xs with
  | nil => simp [cS]
  | cons x r ih =>
    have h1 := h x (by simp)
    have h2 := ih (fun y hy => h y (by simp [hy]))
    simp only [cS, wS, List.map_cons, List.sum_cons, List.length_cons] at *
    omega
theorem cT_le : ∀ t : T, cT t ≤ 1 + wT t
  | .node k n s xs => by
    have h := cS_of xs (fun x _ => cT_le x)
    rw [cT_node, wT_node]
    omega
theorem cT_mem (xs : List T) : ∀ x ∈ xs, cT x ≤ cS xs := by
  induction xs with
  | nil => simp
  | cons y r ih =>
    intro x hx
    simp only [cS, List.map_cons, List.sum_cons]
    rcases List.mem_cons.1 hx with rfl | hx
    · omega
    · have := ih x hx; simp only [cS] at this; omega
theorem dT_le : ∀ t : T, dT t ≤ cT t
  | .node k n s xs => by
    have h : ∀ x ∈ xs, dT x ≤ cT x := fun x _ => dT_le x
    rw [dT, cT_node]
    have := foldl_max (xs.map dT) 0 (cS xs) (fun y hy => by
      obtain ⟨x, hx, rfl⟩ := List.mem_map.1 hy
      exact Nat.le_trans (h x hx) (cT_mem xs x hx)) (Nat.zero_le _)
    omega
theorem cS_le (xs : List T) : cS xs ≤ xs.length + wS xs := cS_of xs (fun x _ => cT_le x)
theorem tk {α : Type} (l : List α) (k : Nat) (x : α) (h : l[k]? = some x) : l.take (k + 1) = l.take k ++ [x] := by
  rw [List.take_add_one, h]; rfl
theorem wS_take (ts : List T) (k : Nat) : wS (ts.take k) ≤ wS ts := by
  have h : wS ts = wS (ts.take k) + wS (ts.drop k) := by
    unfold wS
    rw [← List.sum_append, ← List.map_append, List.take_append_drop]
  omega
theorem wT_at (ts : List T) (k : Nat) (t : T) (h : ts[k]? = some t) : wS (ts.take k) + wT t ≤ wS ts := by
  have h1 := wS_take ts (k + 1)
  rw [tk ts k t h, wS_snoc] at h1
  exact h1
end Go.Proofs.YtidbokheeieifaaGreatDoor
namespace Go.Proofs.YtidbokheeieifaaGreatDoor
open Go.RowKit

/-- The slice value u holds as many terms as ts; its rows, and those below, are owned, lie in blocks from lo to hi, and lie apart. -/
def OwnA (w : World) : Nat → Nat → Nat → Value → List T → Prop
  | 0, _, _, u, ts => ts = [] ∧ ∃ a cap, u = .slice a 0 cap
  | h + 1, lo, hi, u, ts => ∃ a cap, u = .slice a ts.length cap ∧ (ts = [] ∨ ∃ (g : Nat) (xs : List Value) (U : Nat → Value) (L R : Nat → Nat), a = some ⟨g, 0, none⟩ ∧ lo ≤ g ∧ g < hi ∧ w.ownsRow g 26 4 u ts.length xs ∧
      (∀ i k n s txs, ts[i]? = some (T.node k n s txs) → xs[i * 4 + 3]? = some (U i) ∧ lo ≤ L i ∧ R i ≤ hi ∧ (g < L i ∨ R i ≤ g) ∧ OwnA w h (L i) (R i) (U i) txs) ∧
      (∀ i j, i < j → j < ts.length → R i ≤ L j ∨ R j ≤ L i))

/-- Only blocks from lo to hi have turned, and new ones are there. -/
def Out (lo hi : Nat) (w w' : World) : Prop :=
  w'.os = w.os ∧ w'.tape = w.tape ∧ w'.output = w.output ∧ w.heap.size ≤ w'.heap.size ∧ ∀ b, b < w.heap.size → (b < lo ∨ hi ≤ b) → w'.heap[b]? = w.heap[b]?
theorem Out.refl (lo hi : Nat) (w : World) : Out lo hi w w := ⟨rfl, rfl, rfl, Nat.le_refl _, fun _ _ _ => rfl⟩
theorem Out.trans {lo hi : Nat} {a b c : World} (h : Out lo hi a b) (k : Out lo hi b c) : Out lo hi a c :=
  ⟨k.1.trans h.1, k.2.1.trans h.2.1, k.2.2.1.trans h.2.2.1, Nat.le_trans h.2.2.2.1 k.2.2.2.1, fun i hi ho => (k.2.2.2.2 i (Nat.lt_of_lt_of_le hi h.2.2.2.1) ho).trans (h.2.2.2.2 i hi ho)⟩
theorem Out.of_below {lo hi : Nat} {w w' : World} (h : Below w.heap.size w w') : Out lo hi w w' := ⟨h.os, h.tape, h.output, h.size, fun b hb _ => h.block b hb⟩
theorem Out.set {lo hi : Nat} (w : World) (g j : Nat) (v : Value) (h1 : lo ≤ g) (h2 : g < hi) : Out lo hi w (w.setCell ⟨g, j, none⟩ v) := by
  have h := set_grown w g j v
  exact ⟨h.os, h.tape, h.output, h.size, fun b hb ho => h.block b hb (fun e => by cases e; omega)⟩
theorem Out.wide {lo hi lo' hi' : Nat} {w w' : World} (h : Out lo hi w w') (h1 : lo' ≤ lo) (h2 : hi ≤ hi') : Out lo' hi' w w' :=
  ⟨h.1, h.2.1, h.2.2.1, h.2.2.2.1, fun b hb ho => h.2.2.2.2 b hb (by omega)⟩

theorem row_keep {w w' : World} {B g n cap size : Nat} {e : TypeId} {xs : List Value} (h : w.ownsRow B e size (.slice (some ⟨g, 0, none⟩) n cap) n xs) (hk : w'.heap[g]? = w.heap[g]?) : w'.ownsRow B e size (.slice (some ⟨g, 0, none⟩) n cap) n xs := by
  refine ⟨h.1, ?_⟩
  rcases h.2 with ⟨e1, _⟩ | ⟨g', cap', cur, e1, hb, hg, rest⟩
  · simp at e1
  · simp only [Value.slice.injEq, Option.some.injEq, Addr.mk.injEq] at e1
    obtain ⟨⟨rfl, _⟩, _, rfl⟩ := e1
    exact Or.inr ⟨g, cap, cur, rfl, hb, by rw [hk]; exact hg, rest⟩

theorem OwnA.keep {w w' : World} : ∀ {h lo hi : Nat} {u : Value} {ts : List T}, (∀ b, lo ≤ b → b < hi → w'.heap[b]? = w.heap[b]?) → OwnA w h lo hi u ts → OwnA w' h lo hi u ts
  | 0, _, _, _, _, _, k => k
  | h + 1, lo, hi, u, ts, hk, ⟨a, cap, e, hc⟩ => by
    refine ⟨a, cap, e, ?_⟩
    rcases hc with hc | ⟨g, xs, U, L, R, rfl, h1, h2, ho, hx, hd⟩
    · exact Or.inl hc
    · subst e
      refine Or.inr ⟨g, xs, U, L, R, rfl, h1, h2, row_keep ho (hk g h1 h2), fun i k n s txs hi => ?_, hd⟩
      obtain ⟨x3, l1, l2, l3, hr⟩ := hx i k n s txs hi
      exact ⟨x3, l1, l2, l3, hr.keep (fun b b1 b2 => hk b (by omega) (by omega))⟩
theorem OwnA.wide {w : World} : ∀ {h lo hi lo' hi' : Nat} {u : Value} {ts : List T}, lo' ≤ lo → hi ≤ hi' → OwnA w h lo hi u ts → OwnA w h lo' hi' u ts
  | 0, _, _, _, _, _, _, _, _, k => k
  | h + 1, lo, hi, lo', hi', u, ts, w1, w2, ⟨a, cap, e, hc⟩ => by
    refine ⟨a, cap, e, ?_⟩
    rcases hc with hc | ⟨g, xs, U, L, R, ea, h1, h2, ho, hx, hd⟩
    · exact Or.inl hc
    · refine Or.inr ⟨g, xs, U, L, R, ea, by omega, by omega, ho, fun i k n s txs hi => ?_, hd⟩
      obtain ⟨x3, l1, l2, l3, hr⟩ := hx i k n s txs hi
      exact ⟨x3, by omega, by omega, l3, hr⟩
theorem OwnA.slice {w : World} {h lo hi : Nat} {u : Value} {ts : List T} (k : OwnA w h lo hi u ts) : ∃ a cap, u = .slice a ts.length cap := by
  cases h with
  | zero => obtain ⟨rfl, a, cap, rfl⟩ := k; exact ⟨a, cap, rfl⟩
  | succ h => obtain ⟨a, cap, e, _⟩ := k; exact ⟨a, cap, e⟩
theorem OwnA.nil (w : World) (h lo hi : Nat) (a : Option Addr) (cap : Nat) : OwnA w h lo hi (.slice a 0 cap) [] := by
  cases h with
  | zero => exact ⟨rfl, a, cap, rfl⟩
  | succ h => exact ⟨a, cap, rfl, Or.inl rfl⟩
theorem OwnA.off {w : World} {h lo hi : Nat} {u : Value} {ts : List T} (k : OwnA w h lo hi u ts) {g : Nat} (hg : g < lo ∨ hi ≤ g) (j : Nat) (v : Value) : OwnA (w.setCell ⟨g, j, none⟩ v) h lo hi u ts :=
  k.keep fun b b1 b2 => Below.heap_setCell _ _ _ _ (fun e => by simp at e; omega)
end Go.Proofs.YtidbokheeieifaaGreatDoor
namespace Go.Proofs.YtidbokheeieifaaGreatDoor
open Go.RowKit

theorem infoTerm : (Tryz.prog.info? 26).map (fun i => (i.zero, i.size, i.bytes)) = some (some (.agg #[.int .i64 0, .int .i64 0, .string ByteArray.empty, .slice none 0 0]), 4, 56) := by kernel_rfl

theorem heap_new (w : World) (o : Obj) {n : Nat} (h : n = w.heap.size) : (w.alloc o).heap[n]? = some o := by
  subst h
  show (w.heap.push o)[w.heap.size]? = _
  simp
theorem heap_mid (w : World) (o p : Obj) {n : Nat} (h : n = w.heap.size) : ((w.alloc o).alloc p).heap[n]? = some o := by
  rw [Below.heap_alloc _ _ _ (by simp; omega)]
  exact heap_new w o h

theorem results_cell {fn : Func} {a : Tmp} {t : TypeId} {tmps : Array Value} {ad : Addr} (h : fn.results = #[.cell a t]) (ha : tmps.getD a undef = .pointer (some ad)) (P : Program) (w : World) :
    (results fn tmps).run P w = (loadVar t ad).run P w := by
  have h2 : tmps[a]?.getD undef = .pointer (some ad) := by rw [← ha]; simp
  simp [results, h, h2, asAddr]

theorem bel_drew {wr w1 : World} (hb : Below wr.drew.heap.size wr.drew w1) : Below wr.heap.size wr w1 := ((Below.refl _ _).drew).trans hb
end Go.Proofs.YtidbokheeieifaaGreatDoor
namespace Go.Proofs.YtidbokheeieifaaGreatDoor
open Go.RowKit

/-- A struct in a block of its own. -/
abbrev boxed (w : World) (k n : Int) (s : ByteArray) (u : Value) : World := w.alloc (.cells #[.int .i64 k, .int .i64 n, .string s, u] 26)
theorem boxed_below (w : World) (k n : Int) (s : ByteArray) (u : Value) : Below w.heap.size w (boxed w k n s u) := (Below.refl _ _).alloc (Nat.le_refl _) _
theorem boxed_cells {w wr : World} {k n : Int} {s : ByteArray} {u : Value} (hb : Below (boxed w k n s u).heap.size (boxed w k n s u) wr) :
    wr.cell? ⟨w.heap.size, 0, none⟩ = some (.int .i64 k) ∧ wr.cell? ⟨w.heap.size, 1, none⟩ = some (.int .i64 n) ∧ wr.cell? ⟨w.heap.size, 2, none⟩ = some (.string s) ∧ wr.cell? ⟨w.heap.size, 3, none⟩ = some u := by
  have hlt : w.heap.size < (boxed w k n s u).heap.size := by simp
  have c : ∀ j v, #[Value.int .i64 k, .int .i64 n, .string s, u][j]? = some v → wr.cell? ⟨w.heap.size, j, none⟩ = some v := by
    intro j v hv
    rw [hb.cell (by exact hlt), World.cell?_alloc_mark w _ 26 (0, 0) j]
    exact hv
  exact ⟨c 0 _ rfl, c 1 _ rfl, c 2 _ rfl, c 3 _ rfl⟩

/-- What a round over the arguments sees. -/
theorem ArgsAt.at {w : World} {lo h : Nat} {a : Option Addr} {m cap : Nat} {ts : List T} {i : Nat} {t : T} (ha : ArgsAt w lo h (.slice a m cap) ts) (ht : ts[i]? = some t) :
    ∃ h' b o k n s xs u', h = h' + 1 ∧ a = some ⟨b, o, none⟩ ∧ t = .node k n s xs ∧ s.size ≤ maxLen ∧ w.cell? ⟨b, o + i * 4, none⟩ = some (.int .i64 k) ∧ w.cell? ⟨b, o + i * 4 + 1, none⟩ = some (.int .i64 n) ∧
      w.cell? ⟨b, o + i * 4 + 2, none⟩ = some (.string s) ∧ w.cell? ⟨b, o + i * 4 + 3, none⟩ = some u' ∧ ArgsAt w lo h' u' xs := by
  rcases ha.cases with ⟨rfl, _⟩ | ⟨h', b, o, cap', e, e2, _, _, hc⟩
  · simp at ht
  · obtain ⟨k, n, s, xs⟩ := t
    obtain ⟨hs, u', c0, c1, c2, c3, hr⟩ := hc i k n s xs ht
    simp only [Value.slice.injEq] at e2
    exact ⟨h', b, o, k, n, s, xs, u', e, e2.1, rfl, hs, c0, c1, c2, c3, hr⟩

theorem cell_on {w w' : World} (hb : Below w.heap.size w w') {ad : Addr} {v : Value} (hv : w.cell? ad = some v) : w'.cell? ad = some v := by
  rw [hb.cell (World.block_lt_of_cell? w _ hv)]; exact hv

/-- A call that hands back a number and leaves what was there. -/
def NumB (x : Int) (w : World) (e : Ending) (w' : World) : Prop := e = .returned (.int .i64 x) ∧ Below w.heap.size w w'

theorem by_height {X : Nat → Prop} (step : ∀ h, (∀ h', h = h' + 1 → X h') → X h) (h : Nat) : X h := by
  induction h with
  | zero => exact step 0 (fun h' e => by omega)
  | succ h ih => exact step (h + 1) (fun h' e => by cases e; exact ih)

theorem cS_take (ts : List T) (k : Nat) : cS (ts.take k) ≤ cS ts := by
  have h : cS ts = cS (ts.take k) + cS (ts.drop k) := by
    unfold cS
    rw [← List.sum_append, ← List.map_append, List.take_append_drop]
  omega

theorem dS_snoc (l : List T) (t : T) : dS (l ++ [t]) = max (dS l) (dT t) := by simp [dS, List.foldl_append]
theorem dT_node (k n : Int) (s : ByteArray) (xs : List T) : dT (.node k n s xs) = dS xs + 1 := by rw [dT]; rfl
end Go.Proofs.YtidbokheeieifaaGreatDoor
namespace Go.Proofs.YtidbokheeieifaaGreatDoor
open Go.RowKit

theorem ofInt64_nat (m : Nat) (h : m < 18446744073709551616) : (BitVec.ofInt 64 (m : Int)).toNat = m := by
  rw [BitVec.ofInt_natCast, BitVec.toNat_ofNat]; exact Nat.mod_eq_of_lt h
theorem and_small (a : Int) (m : Nat) (hm : m < 4611686018427387904) : 0 ≤ bits .and .i64 a (m : Int) ∧ bits .and .i64 a (m : Int) ≤ m := by
  have e : bits .and .i64 a (m : Int) = IntKind.i64.wrap ((BitVec.ofInt 64 a &&& BitVec.ofInt 64 (m : Int)).toNat : Int) := rfl
  have hle : (BitVec.ofInt 64 a &&& BitVec.ofInt 64 (m : Int)).toNat ≤ m := by
    rw [BitVec.toNat_and, ofInt64_nat m (by omega)]; exact Nat.and_le_right
  rw [e, IntWalk.i64_in _ (by omega)]
  omega

theorem and_255 (a : Int) : 0 ≤ bits .and .i64 a 255 ∧ bits .and .i64 a 255 ≤ 255 := by simpa using and_small a 255 (by decide)

/-- The bytes of a draw: the slice value cv of len bytes, all of whose cells hold bytes, below block B. -/
def CodeAt (w : World) (B : Nat) (cv : Value) (len : Nat) : Prop :=
  len ≤ 1048576 ∧ ∃ a cap, cv = .slice a len cap ∧ (len = 0 ∨ ∃ b o, a = some ⟨b, o, none⟩ ∧ b < B ∧ ∀ j, j < len → ∃ z : Int, 0 ≤ z ∧ z ≤ 255 ∧ w.cell? ⟨b, o + j, none⟩ = some (.int .u8 z))
/-- The cursor in block B over these bytes. -/
def CurAt (w : World) (B : Nat) (cv : Value) (len : Nat) : Prop :=
  ∃ (i : Nat) (h : Int), i ≤ len ∧ w.heap[B]? = some (.cells #[cv, .int .i64 i, .int .i64 h] 65 (0, 0))

theorem CodeAt.grown {w w' : World} {B : Nat} {cv : Value} {len : Nat} (h : CodeAt w B cv len) (hB : B < w.heap.size) (hg : w.grownBy w' (some B)) : CodeAt w' B cv len := by
  obtain ⟨h1, a, cap, rfl, h2⟩ := h
  refine ⟨h1, a, cap, rfl, ?_⟩
  rcases h2 with h2 | ⟨b, o, rfl, hb, hc⟩
  · exact Or.inl h2
  · refine Or.inr ⟨b, o, rfl, hb, fun j hj => ?_⟩
    obtain ⟨z, z0, z1, hz⟩ := hc j hj
    exact ⟨z, z0, z1, hg.cell hz (by simp; have := hB; omega)⟩

/-- What a draw of a number hands back. -/
def NumEnd (lo hi : Int) (B : Nat) (cv : Value) (len : Nat) (w : World) (e : Ending) (w' : World) : Prop :=
  ∃ x : Int, e = .returned (.int .i64 x) ∧ lo ≤ x ∧ x ≤ hi ∧ CurAt w' B cv len ∧ w.grownBy w' (some B)

theorem grown_set (w : World) (B j : Nat) (v : Value) : w.grownBy (w.setCell ⟨B, j, none⟩ v) (some B) :=
  ⟨rfl, rfl, rfl, by simp [World.setCell], fun k _ hk => Below.heap_setCell _ _ _ _ (fun e => hk (by rw [e]))⟩

theorem grown_drewN {w w' : World} {row : Option Nat} (h : w.grownBy w' row) (q : Nat) : w.grownBy (w'.drewN q) row := ⟨h.os, h.tape, h.output, h.size, h.block⟩
theorem fin_one {w : World} {B len : Nat} {cv : Value} {i : Nat} {h v x : Int} (hi : i ≤ len) (hB : w.heap[B]? = some (.cells #[cv, .int .i64 i, .int .i64 h] 65 (0, 0))) (hx : 0 ≤ x ∧ x ≤ 255) (q r : Nat) :
    NumEnd 0 255 B cv len w (.returned (.int .i64 x)) (((w.setCell ⟨B, 2, none⟩ (.int .i64 v)).drewN q).drewN r) :=
  ⟨x, rfl, hx.1, hx.2, ⟨i, v, hi, heap_setCell_same w B 2 _ _ (.int .i64 v) hB⟩, grown_drewN (grown_drewN (grown_set w B 2 _) q) r⟩
theorem fin_two {w : World} {B len : Nat} {cv : Value} {i : Nat} {h v x : Int} (hi : i < len) (hB : w.heap[B]? = some (.cells #[cv, .int .i64 i, .int .i64 h] 65 (0, 0))) (hx : 0 ≤ x ∧ x ≤ 255) (q : Nat) :
    NumEnd 0 255 B cv len w (.returned (.int .i64 x)) (((w.setCell ⟨B, 2, none⟩ (.int .i64 v)).setCell ⟨B, 1, none⟩ (.int .i64 ((i : Int) + 1))).drewN q) := by
  have h1 := heap_setCell_same w B 2 _ _ (.int .i64 v) hB
  exact ⟨x, rfl, hx.1, hx.2, ⟨i + 1, v, hi, heap_setCell_same (w.setCell ⟨B, 2, none⟩ (.int .i64 v)) B 1 _ _ (.int .i64 ((i : Int) + 1)) h1⟩, grown_drewN (grown_trans (grown_set w B 2 _) (grown_set _ B 1 _)) q⟩

set_option maxRecDepth 100000 in
set_option maxHeartbeats 800000 in
theorem byte_any (B : Nat) (cv : Value) (len : Nat) (w : World) (hcode : CodeAt w B cv len) (hcur : CurAt w B cv len) :
    Calls Tryz.prog 62 #[.pointer (some ⟨B, 0, none⟩)] w (NumEnd 0 255 B cv len w) := by
  obtain ⟨i, h, hi, hB⟩ := hcur
  obtain ⟨hlen, a, cap, rfl, hc⟩ := hcode
  have c0 : w.cell? ⟨B, 0, none⟩ = some (.slice a len cap) := by rw [cell_of_row w B 0 _ _ _ hB]; rfl
  have c1 : w.cell? ⟨B, 1, none⟩ = some (.int .i64 i) := by rw [cell_of_row w B 1 _ _ _ hB]; rfl
  have c2 : w.cell? ⟨B, 2, none⟩ = some (.int .i64 h) := by rw [cell_of_row w B 2 _ _ _ hB]; rfl
  have f1 : w.frozen? ⟨B, 1, none⟩ = false := frozen_of_row w B 1 _ _ hB
  have f2 : w.frozen? ⟨B, 2, none⟩ = false := frozen_of_row w B 2 _ _ hB
  have HB := Lib.hid hB; clear hB
  by_cases hlt : i < len
  · have hd : decide ((i : Int) < (len : Int)) = true := by simp; omega
    rcases hc with h0 | ⟨b, o, rfl, hb, hc⟩
    · omega
    · obtain ⟨z, z0, z1, hz⟩ := hc i hlt
      clear hc
      have hne : b ≠ B := by omega
      clear hb
      go_enter Tryz.func62, Tryz.ntmps62
      go_wp2
      go_quiet (fail)
      go_wp2
      go_quiet (fail)
      go_wp2
      go_quiet (fail)
      go_wp2
      go_ret
      exact fin_two hlt HB.out (and_255 _) _
  · have hd : decide ((i : Int) < (len : Int)) = false := by simp; omega
    clear hc
    go_enter Tryz.func62, Tryz.ntmps62
    go_wp2
    go_quiet (fail)
    go_wp2
    go_quiet (fail)
    go_wp2
    go_ret
    exact fin_one hi HB.out (and_255 _) _ _

/-- What a draw leaves: the cursor over the same bytes, the bytes as they were. -/
theorem CurAt.lt {w : World} {B : Nat} {cv : Value} {len : Nat} (h : CurAt w B cv len) : B < w.heap.size := by
  obtain ⟨i, h, _, hB⟩ := h
  exact (Array.getElem?_eq_some_iff.1 hB).1

theorem mod_in (x : Int) {n : Nat} (h : 1 ≤ n) : 0 ≤ x % (n : Int) ∧ x % (n : Int) ≤ (n : Int) - 1 := by
  have h1 := Int.emod_nonneg x (show (n : Int) ≠ 0 by omega)
  have h2 := Int.emod_lt_of_pos x (show (0 : Int) < (n : Int) by omega)
  omega

set_option maxRecDepth 100000 in
set_option maxHeartbeats 800000 in
theorem below_any (B : Nat) (cv : Value) (len n : Nat) (w : World) (hn1 : 1 ≤ n) (hn2 : n ≤ 1000000) (hcode : CodeAt w B cv len) (hcur : CurAt w B cv len) :
    Calls Tryz.prog 39 #[.pointer (some ⟨B, 0, none⟩), .int .i64 n] w (NumEnd 0 ((n : Int) - 1) B cv len w) := by
  have HC := Lib.hid hcode; clear hcode
  have HU := Lib.hid hcur; clear hcur
  by_cases hs : n ≤ 256
  · go_enter Tryz.func39, Tryz.ntmps39
    go_wp2_with fail
    refine (byte_any B cv len _ HC.out HU.out).mono ?_
    rintro e w1 ⟨x, rfl, x0, x1, hu1, hg1⟩
    have HU1 := Lib.hid hu1; clear hu1
    have HG1 := Lib.hid hg1; clear hg1
    go_wp2
    go_ret
    exact ⟨x % (n : Int), rfl, (mod_in x hn1).1, (mod_in x hn1).2, HU1.out, HG1.out⟩
  · go_enter Tryz.func39, Tryz.ntmps39
    go_wp2_with fail
    refine (byte_any B cv len _ HC.out HU.out).mono ?_
    rintro e w1 ⟨x, rfl, x0, x1, hu1, hg1⟩
    have HU1 := Lib.hid hu1; clear hu1
    have HG1 := Lib.hid hg1; clear hg1
    go_wp2_with fail
    refine (byte_any B cv len _ (HC.out.grown HU.out.lt HG1.out) HU1.out).mono ?_
    rintro e w2 ⟨y, rfl, y0, y1, hu2, hg2⟩
    have HU2 := Lib.hid hu2; clear hu2
    have HG2 := Lib.hid (grown_trans HG1.out hg2); clear hg2
    go_wp2_with fail
    refine (byte_any B cv len _ (HC.out.grown HU.out.lt HG2.out) HU2.out).mono ?_
    rintro e w3 ⟨z, rfl, z0, z1, hu3, hg3⟩
    have HU3 := Lib.hid hu3; clear hu3
    have HG3 := Lib.hid (grown_trans HG2.out hg3); clear hg3
    go_wp2_with fail
    refine (byte_any B cv len _ (HC.out.grown HU.out.lt HG3.out) HU3.out).mono ?_
    rintro e w4 ⟨v, rfl, v0, v1, hu4, hg4⟩
    have HU4 := Lib.hid hu4; clear hu4
    have HG4 := Lib.hid (grown_trans HG3.out hg4); clear hg4
    go_wp2
    go_ret
    exact ⟨(x * 16777216 + y * 65536 + z * 256 + v) % (n : Int), rfl, (mod_in _ hn1).1, (mod_in _ hn1).2, HU4.out, HG4.out⟩
end Go.Proofs.YtidbokheeieifaaGreatDoor
namespace Go.Proofs.YtidbokheeieifaaGreatDoor
open Go.RowKit

def NewEnd (cv : Value) (len : Nat) (w : World) (e : Ending) (w' : World) : Prop :=
  e = .returned (.pointer (some ⟨w.heap.size, 0, none⟩)) ∧ CurAt w' w.heap.size cv len ∧ Below w.heap.size w w' ∧ w.heap.size < w'.heap.size

theorem and_30 (a : Int) : 0 ≤ bits .and .i64 a 1073741823 ∧ bits .and .i64 a 1073741823 ≤ 1073741823 := by simpa using and_small a 1073741823 (by decide)

theorem newEnd_of {w : World} {cv : Value} {len : Nat} (x : Int) : NewEnd cv len w (.returned (.pointer (some ⟨w.heap.size, 0, none⟩))) (w.alloc (.cells #[cv, .int .i64 0, .int .i64 x] 65)) := by
  refine ⟨rfl, ⟨0, x, Nat.zero_le _, ?_⟩, (Below.refl _ _).alloc (Nat.le_refl _) _, by simp⟩
  show (w.heap.push _)[w.heap.size]? = _
  simp

set_option maxRecDepth 100000 in
set_option maxHeartbeats 800000 in
theorem new_any (cv : Value) (len : Nat) (w : World) (hcode : CodeAt w w.heap.size cv len) :
    Calls Tryz.prog 20 #[cv] w (NewEnd cv len w) := by
  obtain ⟨hlen, a, cap, rfl, hc⟩ := hcode
  have HC := Lib.hid hc; clear hc
  go_enter Tryz.func20, Tryz.ntmps20
  go_wp2
  go_loop [3, 4] (fun q i => ∃ (k : Nat) (x : Int), k ≤ len ∧ i = .int .i64 k ∧ q = .int .i64 x ∧ 0 ≤ x ∧ x ≤ 1073741823) (fun _ i => len - (intOf i).toNat)
  case atStart => exact ⟨0, 26583 + len, Nat.zero_le _, rfl, rfl, by omega, by omega⟩
  case round =>
    obtain ⟨k, x, hk, rfl, rfl, hx0, hx1⟩ := hrel
    by_cases hgo : k < len ∧ k < 4000
    · obtain ⟨hlt, hlt2⟩ := hgo
      rcases HC.out with h0 | ⟨b, o, rfl, hb, hc⟩
      · omega
      · obtain ⟨z, z0, z1, hz⟩ := hc k hlt
        clear hc hb
        have hm := and_30 (x * 131 + z + 7)
        obtain ⟨hm0, hm1⟩ := hm
        go_wp2
        go_round
        case rel => exact ⟨k + 1, bits .and .i64 (x * 131 + z + 7) 1073741823, by omega, by go_num, rfl, hm0, hm1⟩
        case measure => simp [intOf]; omega
    · by_cases hlt : k < len
      · have hlt2 : ¬ k < 4000 := by omega
        clear hgo
        go_wp2
        go_ret
        exact newEnd_of _
      · clear hgo
        go_wp2
        go_ret
        exact newEnd_of _

def PickEnd (vs : List Value) (B : Nat) (cv : Value) (len : Nat) (w : World) (e : Ending) (w' : World) : Prop :=
  ∃ v, v ∈ vs ∧ e = .returned v ∧ CurAt w' B cv len ∧ w.grownBy w' (some B)

set_option maxRecDepth 100000 in
set_option maxHeartbeats 800000 in
theorem pick_any (B b cap : Nat) (cv : Value) (len : Nat) (ps : List ByteArray) (w : World) (h1 : 1 ≤ ps.length) (h2 : ps.length ≤ 1000) (hb : b ≠ B)
    (hc : ∀ i p, ps[i]? = some p → w.cell? ⟨b, i, none⟩ = some (.string p)) (hcode : CodeAt w B cv len) (hcur : CurAt w B cv len) :
    Calls Tryz.prog 50 #[.pointer (some ⟨B, 0, none⟩), .slice (some ⟨b, 0, none⟩) ps.length cap] w (PickEnd (ps.map Value.string) B cv len w) := by
  have HP := Lib.hid hc; clear hc
  have HC := Lib.hid hcode; clear hcode
  have HU := Lib.hid hcur; clear hcur
  go_enter Tryz.func50, Tryz.ntmps50
  go_wp2_with fail
  refine (below_any B cv len ps.length _ h1 (by omega) HC.out HU.out).mono ?_
  rintro e w1 ⟨x, rfl, x0, x1, hu1, hg1⟩
  obtain ⟨k, rfl⟩ : ∃ k : Nat, x = (k : Int) := ⟨x.toNat, by omega⟩
  have hk : k < ps.length := by omega
  obtain ⟨p, hp⟩ : ∃ p, ps[k]? = some p := ⟨_, List.getElem?_eq_getElem hk⟩
  have hcell : w1.cell? ⟨b, k, none⟩ = some (.string p) := hg1.cell (HP.out k p hp) (by simpa using hb)
  have HM := Lib.hid (List.mem_map_of_mem (f := Value.string) (List.mem_of_getElem? hp)); clear hp
  have HU1 := Lib.hid hu1; clear hu1
  have HG1 := Lib.hid hg1; clear hg1
  go_wp2
  go_ret
  exact ⟨_, HM.out, rfl, HU1.out, HG1.out⟩

theorem new_ints (w : World) (zs : List Int) (t : TypeId) : ∀ i z, zs[i]? = some z → (w.alloc (.cells (zs.map (Value.int .i64)).toArray t)).cell? ⟨w.heap.size, i, none⟩ = some (.int .i64 z) := fun i z h => by
  rw [World.cell?_alloc_mark w (zs.map (Value.int .i64)).toArray t (0, 0) i]
  simp [h]
theorem new_strs (w : World) (ps : List ByteArray) (t : TypeId) : ∀ i p, ps[i]? = some p → (w.alloc (.cells (ps.map Value.string).toArray t)).cell? ⟨w.heap.size, i, none⟩ = some (.string p) := fun i p h => by
  rw [World.cell?_alloc_mark w (ps.map Value.string).toArray t (0, 0) i]
  simp [h]
theorem CurAt.alloc {w : World} {B : Nat} {cv : Value} {len : Nat} (h : CurAt w B cv len) (o : Obj) : CurAt (w.alloc o) B cv len := by
  have hl := h.lt
  obtain ⟨i, x, hi, hB⟩ := h
  exact ⟨i, x, hi, by rw [Below.heap_alloc _ _ _ hl]; exact hB⟩
theorem CodeAt.alloc {w : World} {B : Nat} {cv : Value} {len : Nat} (h : CodeAt w B cv len) (hB : B < w.heap.size) (o : Obj) : CodeAt (w.alloc o) B cv len :=
  h.grown hB (World.grownBy_alloc w o (some B))

/-- A slice of bytes that came in serves in every later world. -/
theorem CodeAt.below {w w' : World} {cv : Value} {len : Nat} (h : CodeAt w w.heap.size cv len) (hb : Below w.heap.size w w') : CodeAt w' w'.heap.size cv len := by
  obtain ⟨h1, a, cap, rfl, h2⟩ := h
  refine ⟨h1, a, cap, rfl, ?_⟩
  rcases h2 with h2 | ⟨b, o, rfl, hlt, hc⟩
  · exact Or.inl h2
  · refine Or.inr ⟨b, o, rfl, Nat.lt_of_lt_of_le hlt hb.size, fun j hj => ?_⟩
    obtain ⟨z, z0, z1, hz⟩ := hc j hj
    exact ⟨z, z0, z1, by rw [hb.cell (by exact hlt)]; exact hz⟩
theorem CodeAt.at_new {w w' : World} {cv : Value} {len : Nat} (h : CodeAt w w.heap.size cv len) (hb : Below w.heap.size w w') : CodeAt w' w.heap.size cv len := by
  obtain ⟨h1, a, cap, rfl, h2⟩ := h
  refine ⟨h1, a, cap, rfl, ?_⟩
  rcases h2 with h2 | ⟨b, o, rfl, hlt, hc⟩
  · exact Or.inl h2
  · refine Or.inr ⟨b, o, rfl, hlt, fun j hj => ?_⟩
    obtain ⟨z, z0, z1, hz⟩ := hc j hj
    exact ⟨z, z0, z1, by rw [hb.cell (by exact hlt)]; exact hz⟩
theorem below_own {w w1 w2 : World} (hb : Below w.heap.size w w1) (hg : w1.grownBy w2 (some w.heap.size)) : Below w.heap.size w w2 :=
  hb.grown hg hb.size (fun k hk => by cases hk; exact Nat.le_refl _)
end Go.Proofs.YtidbokheeieifaaGreatDoor
namespace Go.Proofs.YtidbokheeieifaaGreatDoor
open Go.RowKit

set_option maxRecDepth 100000 in
set_option maxHeartbeats 800000 in
theorem pickInt_any (B b cap : Nat) (cv : Value) (len : Nat) (zs : List Int) (w : World) (h1 : 1 ≤ zs.length) (h2 : zs.length ≤ 1000) (hb : b ≠ B)
    (hc : ∀ i z, zs[i]? = some z → w.cell? ⟨b, i, none⟩ = some (.int .i64 z)) (hcode : CodeAt w B cv len) (hcur : CurAt w B cv len) :
    Calls Tryz.prog 63 #[.pointer (some ⟨B, 0, none⟩), .slice (some ⟨b, 0, none⟩) zs.length cap] w (PickEnd (zs.map (Value.int .i64)) B cv len w) := by
  have HP := Lib.hid hc; clear hc
  have HC := Lib.hid hcode; clear hcode
  have HU := Lib.hid hcur; clear hcur
  go_enter Tryz.func63, Tryz.ntmps63
  go_wp2_with fail
  refine (below_any B cv len zs.length _ h1 (by omega) HC.out HU.out).mono ?_
  rintro e w1 ⟨x, rfl, x0, x1, hu1, hg1⟩
  obtain ⟨k, rfl⟩ : ∃ k : Nat, x = (k : Int) := ⟨x.toNat, by omega⟩
  have hk : k < zs.length := by omega
  obtain ⟨z, hp⟩ : ∃ z, zs[k]? = some z := ⟨_, List.getElem?_eq_getElem hk⟩
  have hcell : w1.cell? ⟨b, k, none⟩ = some (.int .i64 z) := hg1.cell (HP.out k z hp) (by simpa using hb)
  have HM := Lib.hid (List.mem_map_of_mem (f := Value.int .i64) (List.mem_of_getElem? hp)); clear hp
  have HU1 := Lib.hid hu1; clear hu1
  have HG1 := Lib.hid hg1; clear hg1
  go_wp2
  go_ret
  exact ⟨_, HM.out, rfl, HU1.out, HG1.out⟩

def OnceEnd (B : Nat) (cv : Value) (len : Nat) (w : World) (e : Ending) (w' : World) : Prop :=
  ∃ q : Bool, e = .returned (.bool q) ∧ CurAt w' B cv len ∧ w.grownBy w' (some B)

set_option maxRecDepth 100000 in
set_option maxHeartbeats 400000 in
theorem once_any (B : Nat) (cv : Value) (len n : Nat) (w : World) (hn1 : 1 ≤ n) (hn2 : n ≤ 1000000) (hcode : CodeAt w B cv len) (hcur : CurAt w B cv len) :
    Calls Tryz.prog 51 #[.pointer (some ⟨B, 0, none⟩), .int .i64 n] w (OnceEnd B cv len w) := by
  have HC := Lib.hid hcode; clear hcode
  have HU := Lib.hid hcur; clear hcur
  go_enter Tryz.func51, Tryz.ntmps51
  go_wp2_with fail
  refine (below_any B cv len n _ hn1 hn2 HC.out HU.out).mono ?_
  rintro e w1 ⟨x, rfl, x0, x1, hu1, hg1⟩
  have HU1 := Lib.hid hu1; clear hu1
  have HG1 := Lib.hid hg1; clear hg1
  go_wp2
  go_ret
  exact ⟨_, rfl, HU1.out, HG1.out⟩
end Go.Proofs.YtidbokheeieifaaGreatDoor
namespace Go.Proofs.YtidbokheeieifaaGreatDoor
open Go.RowKit

/-- A call that makes new blocks alone and hands back this value. -/
def GivesV (v : Value) (w : World) (e : Ending) (w' : World) : Prop := e = .returned v ∧ Below w.heap.size w w'

set_option maxRecDepth 100000 in
set_option maxHeartbeats 400000 in
theorem l3Var_any (s : ByteArray) (w : World) : Calls Tryz.prog 83 #[.string s] w (GivesV (tv 1 0 s (.slice none 0 0)) w) := by
  go_enter Tryz.func83, Tryz.ntmps83
  go_wp2
  have hc := boxed_cells (Below.refl (boxed w 1 0 s (.slice none 0 0)).heap.size (boxed w 1 0 s (.slice none 0 0)))
  obtain ⟨c0, c1, c2, c3⟩ := hc
  refine bodyPost_ret (v := tv 1 0 s (.slice none 0 0)) ?hr rfl ?_
  case hr =>
    rw [results_cell (a := 2) (t := 26) (ad := ⟨w.heap.size, 0, none⟩) rfl rfl]
    go_simp
  exact ⟨rfl, ((Below.refl _ _).alloc (Nat.le_refl _) _)⟩
set_option maxRecDepth 100000 in
set_option maxHeartbeats 400000 in
theorem l3Word_any (n : Int) (w : World) : Calls Tryz.prog 64 #[.int .i64 n] w (GivesV (tv 3 n ByteArray.empty (.slice none 0 0)) w) := by
  go_enter Tryz.func64, Tryz.ntmps64
  go_wp2
  have hc := boxed_cells (Below.refl (boxed w 3 n ByteArray.empty (.slice none 0 0)).heap.size (boxed w 3 n ByteArray.empty (.slice none 0 0)))
  obtain ⟨c0, c1, c2, c3⟩ := hc
  refine bodyPost_ret (v := tv 3 n ByteArray.empty (.slice none 0 0)) ?hr rfl ?_
  case hr =>
    rw [results_cell (a := 2) (t := 26) (ad := ⟨w.heap.size, 0, none⟩) rfl rfl]
    go_simp
    rfl
  exact ⟨rfl, ((Below.refl _ _).alloc (Nat.le_refl _) _)⟩
set_option maxRecDepth 100000 in
set_option maxHeartbeats 400000 in
theorem l3App_any (s : ByteArray) (a : Option Addr) (n cap : Nat) (w : World) : Calls Tryz.prog 85 #[.string s, .slice a n cap] w (GivesV (tv 2 0 s (.slice a n cap)) w) := by
  go_enter Tryz.func85, Tryz.ntmps85
  go_wp2
  have hc := boxed_cells (Below.refl (boxed w 2 0 s (.slice a n cap)).heap.size (boxed w 2 0 s (.slice a n cap)))
  obtain ⟨c0, c1, c2, c3⟩ := hc
  refine bodyPost_ret (v := tv 2 0 s (.slice a n cap)) ?hr rfl ?_
  case hr =>
    rw [results_cell (a := 4) (t := 26) (ad := ⟨w.heap.size, 0, none⟩) rfl rfl]
    go_simp
  exact ⟨rfl, ((Below.refl _ _).alloc (Nat.le_refl _) _)⟩

/-- What a call hands back that makes a term over a new row. -/
def RowMade (s : ByteArray) (m : Nat) (cs : Array Value) (w : World) (e : Ending) (w' : World) : Prop :=
  ∃ g, e = .returned (tv 2 0 s (.slice (some ⟨g, 0, none⟩) m m)) ∧ w.heap.size ≤ g ∧ w'.heap[g]? = some (.cells cs 26 (0, 0)) ∧ Below w.heap.size w w'

set_option maxRecDepth 100000 in
set_option maxHeartbeats 400000 in
theorem l3One_any (s : ByteArray) (k n : Int) (s' : ByteArray) (u : Value) (w : World) : Calls Tryz.prog 65 #[.string s, tv k n s' u] w (RowMade s 1 #[.int .i64 k, .int .i64 n, .string s', u] w) := by
  go_enter Tryz.func65, Tryz.ntmps65
  go_wp2_with fail
  obtain ⟨W, hW⟩ : ∃ W, W = (((w.alloc (.cells #[.int .i64 k, .int .i64 n, .string s', u] 26)).alloc (.cells #[.int .i64 0, .int .i64 0, .string ⟨#[]⟩, .slice none 0 0] 26)).alloc (.cells #[.int .i64 k, .int .i64 n, .string s', u] 26)) := ⟨_, rfl⟩
  have hWs : W.heap.size = w.heap.size + 1 + 1 + 1 := by rw [hW]; simp
  have r1 : W.heap[w.heap.size + 1]? = some (.cells #[.int .i64 0, .int .i64 0, .string ⟨#[]⟩, .slice none 0 0] 26 (0, 0)) := by rw [hW]; exact heap_mid _ _ _ (by simp)
  have r2 : W.heap[w.heap.size + 1 + 1]? = some (.cells #[.int .i64 k, .int .i64 n, .string s', u] 26 (0, 0)) := by rw [hW]; exact heap_new _ _ (by simp)
  have hbW : Below w.heap.size w W := by rw [hW]; exact ((((Below.refl _ _).alloc (by simp <;> omega) _).alloc (by simp <;> omega) _).alloc (by simp <;> omega) _)
  have HBW := Lib.hid hbW; clear hbW
  rw [← hW]
  clear hW
  refine (l3App_any s _ _ _ _).mono ?_
  rintro e w1 ⟨rfl, hb1⟩
  have q1 := hb1.block (w.heap.size + 1) (by omega)
  have q2 := hb1.block (w.heap.size + 1 + 1) (by omega)
  rw [r1] at q1
  rw [r2] at q2
  clear r1 r2
  have a0 := cell_of_row w1 (w.heap.size + 1) 0 _ _ _ q1
  have a1 := cell_of_row w1 (w.heap.size + 1) 1 _ _ _ q1
  have a2 := cell_of_row w1 (w.heap.size + 1) 2 _ _ _ q1
  have a3 := cell_of_row w1 (w.heap.size + 1) 3 _ _ _ q1
  have f0 := frozen_of_row w1 (w.heap.size + 1) 0 _ _ q1
  have f1 := frozen_of_row w1 (w.heap.size + 1) 1 _ _ q1
  have f2 := frozen_of_row w1 (w.heap.size + 1) 2 _ _ q1
  have f3 := frozen_of_row w1 (w.heap.size + 1) 3 _ _ q1
  simp at a0 a1 a2 a3
  clear q1
  have HB1 := Lib.hid (HBW.out.trans (hb1.mono HBW.out.size)); clear hb1
  have HR := Lib.hid q2; clear q2
  go_wp2
  (try simp only [Exit.inBlock, Exit.then])
  refine bodyPost_ret (v := tv 2 0 s (.slice (some ⟨w.heap.size + 1 + 1, 0, none⟩) 1 1)) ?hr rfl ?_
  case hr =>
    rw [results_cell (a := 4) (t := 26) (ad := ⟨w.heap.size + 1, 0, none⟩) rfl rfl]
    go_simp
  refine ⟨w.heap.size + 1 + 1, rfl, by omega, ?_, (((HB1.out.setCell (by simp <;> omega) _).setCell (by simp <;> omega) _).setCell (by simp <;> omega) _).setCell (by simp <;> omega) _⟩
  rw [Below.heap_setCell _ _ _ _ (by simp <;> omega), Below.heap_setCell _ _ _ _ (by simp <;> omega), Below.heap_setCell _ _ _ _ (by simp <;> omega), Below.heap_setCell _ _ _ _ (by simp <;> omega)]
  exact HR.out
set_option maxRecDepth 100000 in
set_option maxHeartbeats 400000 in
theorem l3Pair_any (s : ByteArray) (k n : Int) (s' : ByteArray) (u : Value) (k2 n2 : Int) (s2 : ByteArray) (u2 : Value) (w : World) : Calls Tryz.prog 84 #[.string s, tv k n s' u, tv k2 n2 s2 u2] w (RowMade s 2 #[.int .i64 k, .int .i64 n, .string s', u, .int .i64 k2, .int .i64 n2, .string s2, u2] w) := by
  go_enter Tryz.func84, Tryz.ntmps84
  go_wp2_with fail
  obtain ⟨W, hW⟩ : ∃ W, W = ((((w.alloc (.cells #[.int .i64 k, .int .i64 n, .string s', u] 26)).alloc (.cells #[.int .i64 k2, .int .i64 n2, .string s2, u2] 26)).alloc (.cells #[.int .i64 0, .int .i64 0, .string ⟨#[]⟩, .slice none 0 0] 26)).alloc (.cells #[.int .i64 k, .int .i64 n, .string s', u, .int .i64 k2, .int .i64 n2, .string s2, u2] 26)) := ⟨_, rfl⟩
  have hWs : W.heap.size = w.heap.size + 1 + 1 + 1 + 1 := by rw [hW]; simp
  have r1 : W.heap[w.heap.size + 1 + 1]? = some (.cells #[.int .i64 0, .int .i64 0, .string ⟨#[]⟩, .slice none 0 0] 26 (0, 0)) := by rw [hW]; exact heap_mid _ _ _ (by simp)
  have r2 : W.heap[w.heap.size + 1 + 1 + 1]? = some (.cells #[.int .i64 k, .int .i64 n, .string s', u, .int .i64 k2, .int .i64 n2, .string s2, u2] 26 (0, 0)) := by rw [hW]; exact heap_new _ _ (by simp)
  have hbW : Below w.heap.size w W := by rw [hW]; exact (((((Below.refl _ _).alloc (by simp <;> omega) _).alloc (by simp <;> omega) _).alloc (by simp <;> omega) _).alloc (by simp <;> omega) _)
  have HBW := Lib.hid hbW; clear hbW
  rw [← hW]
  clear hW
  refine (l3App_any s _ _ _ _).mono ?_
  rintro e w1 ⟨rfl, hb1⟩
  have q1 := hb1.block (w.heap.size + 1 + 1) (by omega)
  have q2 := hb1.block (w.heap.size + 1 + 1 + 1) (by omega)
  rw [r1] at q1
  rw [r2] at q2
  clear r1 r2
  have a0 := cell_of_row w1 (w.heap.size + 1 + 1) 0 _ _ _ q1
  have a1 := cell_of_row w1 (w.heap.size + 1 + 1) 1 _ _ _ q1
  have a2 := cell_of_row w1 (w.heap.size + 1 + 1) 2 _ _ _ q1
  have a3 := cell_of_row w1 (w.heap.size + 1 + 1) 3 _ _ _ q1
  have f0 := frozen_of_row w1 (w.heap.size + 1 + 1) 0 _ _ q1
  have f1 := frozen_of_row w1 (w.heap.size + 1 + 1) 1 _ _ q1
  have f2 := frozen_of_row w1 (w.heap.size + 1 + 1) 2 _ _ q1
  have f3 := frozen_of_row w1 (w.heap.size + 1 + 1) 3 _ _ q1
  simp at a0 a1 a2 a3
  clear q1
  have HB1 := Lib.hid (HBW.out.trans (hb1.mono HBW.out.size)); clear hb1
  have HR := Lib.hid q2; clear q2
  go_wp2
  (try simp only [Exit.inBlock, Exit.then])
  refine bodyPost_ret (v := tv 2 0 s (.slice (some ⟨w.heap.size + 1 + 1 + 1, 0, none⟩) 2 2)) ?hr rfl ?_
  case hr =>
    rw [results_cell (a := 6) (t := 26) (ad := ⟨w.heap.size + 1 + 1, 0, none⟩) rfl rfl]
    go_simp
  refine ⟨w.heap.size + 1 + 1 + 1, rfl, by omega, ?_, (((HB1.out.setCell (by simp <;> omega) _).setCell (by simp <;> omega) _).setCell (by simp <;> omega) _).setCell (by simp <;> omega) _⟩
  rw [Below.heap_setCell _ _ _ _ (by simp <;> omega), Below.heap_setCell _ _ _ _ (by simp <;> omega), Below.heap_setCell _ _ _ _ (by simp <;> omega), Below.heap_setCell _ _ _ _ (by simp <;> omega)]
  exact HR.out
end Go.Proofs.YtidbokheeieifaaGreatDoor
