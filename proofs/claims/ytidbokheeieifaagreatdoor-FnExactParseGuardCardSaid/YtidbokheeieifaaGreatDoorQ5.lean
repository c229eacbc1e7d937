/-
  What a call owns stays owned while other memory is made or written: small facts on worlds. No walk.
  Terms as trees; a term that lies in memory; how much it holds. No walk.
  What the walks over terms share: a struct in a block, an argument's cells, an answer that leaves what was there. No walk.
  spec.DepthOfTerm returns how deep a term is.
  impl.IsName, impl.IsVarName and their models spec.IsName, spec.IsVarName tell the strings of 1 to 8 bytes that begin with a letter of their kind and go on in lower-case letters and digits; the laws on them answer true at every string.
  spec.IsValidTerm tells the terms of at most 60 nodes, at most 16 deep, whose every node has one of the three forms.
  Plain facts on the sizes of lists of strings and of what is joined out of them. No program.
  The representation of a term, as bytes; how long it is. No walk.
  Plain facts on decimal numerals: digits of a positive number, the numeral of an integer. No program.
  Small facts on one byte as a string and on strings put together. No walk.
-/
import Derived.Test.YtidbokheeieifaaGreatDoorRows
import Derived.WalkKit
import Derived.WalkSpells
import Derived.BigQuiet
import Derived.Deep.QuietTactic
import Derived.Lib.Hide
import Derived.WalkLawsBesides
import Derived.Lib.Join
import Derived.Lib.ItoaLen
import Derived.Lib.ItoaMem
import Derived.Lib.ItoaNum
import Derived.Laws.IdiomStrings
namespace Go.Proofs.YtidbokheeieifaaGreatDoor
open Go.RowKit

theorem Below.toGrown {w w' : World} (h : Below w.heap.size w w') (row : Option Nat) : w.grownBy w' row := ⟨h.os, h.tape, h.output, h.size, fun k hk _ => h.block k hk⟩
theorem grown_trans {a b c : World} {row : Option Nat} (h : a.grownBy b row) (k : b.grownBy c row) : a.grownBy c row :=
  ⟨k.os.trans h.os, k.tape.trans h.tape, k.output.trans h.output, Nat.le_trans h.size k.size, fun i hi hr => (k.block i (Nat.lt_of_lt_of_le hi h.size) hr).trans (h.block i hi hr)⟩
theorem grown_refl (a : World) (row : Option Nat) : a.grownBy a row := ⟨rfl, rfl, rfl, Nat.le_refl _, fun _ _ _ => rfl⟩

def TrueEnd (w : World) (e : Ending) (w' : World) : Prop := e = .returned (.bool true) ∧ Below w.heap.size w w'

theorem keep_own {w w' : World} {B n size : Nat} {e : TypeId} {v : Value} {xs : List Value} (h : w.ownsRow B e size v n xs) (hb : Below w.heap.size w w') : w'.ownsRow B e size v n xs :=
  h.kept (Below.toGrown hb none) (by rcases h.2 with ⟨rfl, _⟩ | ⟨g, cap, cur, rfl, _⟩ <;> simp [Value.ownBlock])
theorem keep_other {w w' : World} {A B n m size : Nat} {e f : TypeId} {v u : Value} {xs ys : List Value} (h : w.ownsRow A e size v n xs) (hA : ∀ k, v.ownBlock = some k → k < B) (hu : w.ownsRow B f size u m ys) (hg : w.grownBy w' u.ownBlock) : w'.ownsRow A e size v n xs :=
  h.kept hg (by
    cases hv : v.ownBlock with
    | none => exact Or.inl rfl
    | some k =>
      refine Or.inr fun e2 => ?_
      have h1 := hA k hv
      have h2 := (hu.lt k e2.symm).1
      omega)
theorem keep_above {w w' : World} {A n size : Nat} {e : TypeId} {v u : Value} {xs : List Value} (h : w.ownsRow A e size v n xs) (hA : ∀ k, u.ownBlock = some k → k < A) (hg : w.grownBy w' u.ownBlock) : w'.ownsRow A e size v n xs :=
  h.kept hg (by
    cases hv : v.ownBlock with
    | none => exact Or.inl rfl
    | some k =>
      refine Or.inr fun e2 => ?_
      have h1 := hA k e2.symm
      have h2 := (h.lt k hv).1
      omega)

theorem own_low {w : World} {B B' n size : Nat} {e : TypeId} {v : Value} {xs : List Value} (h : w.ownsRow B e size v n xs) (hb : B' ≤ B) : w.ownsRow B' e size v n xs := by
  refine ⟨h.1, ?_⟩
  rcases h.2 with hn | ⟨g, cap, cur, hv, hg, rest⟩
  · exact Or.inl hn
  · exact Or.inr ⟨g, cap, cur, hv, Nat.le_trans hb hg, rest⟩
theorem set_grown (w : World) (B j : Nat) (v : Value) : w.grownBy (w.setCell ⟨B, j, none⟩ v) (some B) :=
  ⟨rfl, rfl, rfl, by simp [World.setCell], fun k _ hk => Below.heap_setCell _ _ _ _ (fun e => hk (by rw [e]))⟩
theorem below_q (w : World) (q : Nat) : Below w.heap.size w (w.drewN q) := ⟨rfl, rfl, rfl, Nat.le_refl _, fun _ _ => rfl⟩

end Go.Proofs.YtidbokheeieifaaGreatDoor
namespace Go.Proofs.YtidbokheeieifaaGreatDoor
open Go.RowKit

/-- A term: its kind, its number, its name, its arguments. -/
inductive T where
  | node (k n : Int) (s : ByteArray) (xs : List T) : T

/-- The value of a struct of a term. -/
abbrev tv (k n : Int) (s : ByteArray) (u : Value) : Value := .agg #[.int .i64 k, .int .i64 n, .string s, u]

/-- The slice value u holds the terms ts, of a depth of at most h, in blocks from lo on. -/
def ArgsAt (w : World) (lo : Nat) : Nat → Value → List T → Prop
  | 0, u, ts => ts = [] ∧ ∃ a cap, u = .slice a 0 cap
  | h + 1, u, ts => ∃ a cap, u = .slice a ts.length cap ∧ ts.length ≤ maxLen ∧ (ts = [] ∨ ∃ b o, a = some ⟨b, o, none⟩ ∧ lo ≤ b ∧ ∀ i k n s xs, ts[i]? = some (T.node k n s xs) → s.size ≤ maxLen ∧ ∃ u', w.cell? ⟨b, o + i * 4, none⟩ = some (.int .i64 k) ∧
      w.cell? ⟨b, o + i * 4 + 1, none⟩ = some (.int .i64 n) ∧ w.cell? ⟨b, o + i * 4 + 2, none⟩ = some (.string s) ∧ w.cell? ⟨b, o + i * 4 + 3, none⟩ = some u' ∧ ArgsAt w lo h u' xs)

/-- The value v is the term t, of a depth of at most h below it. -/
def TermAt (w : World) (lo h : Nat) (v : Value) (t : T) : Prop := ∃ k n s u xs, v = tv k n s u ∧ t = .node k n s xs ∧ s.size ≤ maxLen ∧ ArgsAt w lo h u xs

/-- What the cells of a row of terms hold. -/
def RowAt (w : World) (lo h b o : Nat) (ts : List T) : Prop :=
  ∀ i k n s xs, ts[i]? = some (T.node k n s xs) → s.size ≤ maxLen ∧ ∃ u', w.cell? ⟨b, o + i * 4, none⟩ = some (.int .i64 k) ∧
    w.cell? ⟨b, o + i * 4 + 1, none⟩ = some (.int .i64 n) ∧ w.cell? ⟨b, o + i * 4 + 2, none⟩ = some (.string s) ∧ w.cell? ⟨b, o + i * 4 + 3, none⟩ = some u' ∧ ArgsAt w lo h u' xs

theorem TermAt.form {w : World} {lo h : Nat} {v : Value} {t : T} (ht : TermAt w lo h v t) : ∃ k n s u, v = tv k n s u := by
  obtain ⟨k, n, s, u, _, e, _⟩ := ht
  exact ⟨k, n, s, u, e⟩

theorem ArgsAt.nil (w : World) (lo h : Nat) (a : Option Addr) (cap : Nat) : ArgsAt w lo h (.slice a 0 cap) [] := by
  cases h with
  | zero => exact ⟨rfl, a, cap, rfl⟩
  | succ h => exact ⟨a, cap, rfl, Nat.zero_le _, Or.inl rfl⟩

theorem ArgsAt.keep {w w' : World} {lo : Nat} (hk : ∀ (ad : Addr) v, lo ≤ ad.block → w.cell? ad = some v → w'.cell? ad = some v) : ∀ {h : Nat} {u : Value} {ts : List T}, ArgsAt w lo h u ts → ArgsAt w' lo h u ts
  | 0, _, _, k => k
  | h + 1, _, _, ⟨a, cap, e, hl, hc⟩ => by
    refine ⟨a, cap, e, hl, ?_⟩
    rcases hc with hc | ⟨b, o, rfl, hlo, hc⟩
    · exact Or.inl hc
    · refine Or.inr ⟨b, o, rfl, hlo, fun i k n s xs hi => ?_⟩
      obtain ⟨hs, u', c0, c1, c2, c3, hr⟩ := hc i k n s xs hi
      exact ⟨hs, u', hk _ _ hlo c0, hk _ _ hlo c1, hk _ _ hlo c2, hk _ _ hlo c3, hr.keep hk⟩
theorem ArgsAt.below {w w' : World} {lo h : Nat} {u : Value} {ts : List T} (k : ArgsAt w lo h u ts) (hb : Below w.heap.size w w') : ArgsAt w' lo h u ts :=
  k.keep fun ad v _ hv => by rw [hb.cell (World.block_lt_of_cell? w _ hv)]; exact hv
theorem ArgsAt.grown {w w' : World} {lo h : Nat} {u : Value} {ts : List T} {row : Option Nat} (k : ArgsAt w lo h u ts) (hg : w.grownBy w' row) (hr : ∀ j, row = some j → j < lo) : ArgsAt w' lo h u ts :=
  k.keep fun ad v hlo hv => hg.cell hv (fun e => by have := hr ad.block e.symm; omega)
theorem ArgsAt.low {w : World} {lo lo' : Nat} (hlo : lo' ≤ lo) : ∀ {h : Nat} {u : Value} {ts : List T}, ArgsAt w lo h u ts → ArgsAt w lo' h u ts
  | 0, _, _, k => k
  | h + 1, _, _, ⟨a, cap, e, hl, hc⟩ => by
    refine ⟨a, cap, e, hl, ?_⟩
    rcases hc with hc | ⟨b, o, rfl, hb, hc⟩
    · exact Or.inl hc
    · refine Or.inr ⟨b, o, rfl, Nat.le_trans hlo hb, fun i k n s xs hi => ?_⟩
      obtain ⟨hs, u', c0, c1, c2, c3, hr⟩ := hc i k n s xs hi
      exact ⟨hs, u', c0, c1, c2, c3, hr.low hlo⟩
theorem TermAt.below {w w' : World} {lo h : Nat} {v : Value} {t : T} (ht : TermAt w lo h v t) (hb : Below w.heap.size w w') : TermAt w' lo h v t := by
  obtain ⟨k, n, s, u, xs, e1, e2, hs, ha⟩ := ht
  exact ⟨k, n, s, u, xs, e1, e2, hs, ha.below hb⟩
theorem TermAt.low {w : World} {lo lo' h : Nat} {v : Value} {t : T} (ht : TermAt w lo h v t) (hlo : lo' ≤ lo) : TermAt w lo' h v t := by
  obtain ⟨k, n, s, u, xs, e1, e2, hs, ha⟩ := ht
  exact ⟨k, n, s, u, xs, e1, e2, hs, ha.low hlo⟩
theorem ArgsAt.more {w : World} {lo : Nat} : ∀ {h : Nat} {u : Value} {ts : List T}, ArgsAt w lo h u ts → ArgsAt w lo (h + 1) u ts
  | 0, _, _, ⟨e, a, cap, e2⟩ => by subst e; exact ⟨a, cap, e2, Nat.zero_le _, Or.inl rfl⟩
  | h + 1, _, _, ⟨a, cap, e, hl, hc⟩ => by
    refine ⟨a, cap, e, hl, ?_⟩
    rcases hc with hc | ⟨b, o, rfl, hb, hc⟩
    · exact Or.inl hc
    · refine Or.inr ⟨b, o, rfl, hb, fun i k n s xs hi => ?_⟩
      obtain ⟨hs, u', c0, c1, c2, c3, hr⟩ := hc i k n s xs hi
      exact ⟨hs, u', c0, c1, c2, c3, hr.more⟩
theorem ArgsAt.le {w : World} {lo h h' : Nat} {u : Value} {ts : List T} (k : ArgsAt w lo h u ts) (hle : h ≤ h') : ArgsAt w lo h' u ts := by
  induction hle with
  | refl => exact k
  | step _ ih => exact ih.more
/-- What a loop over the arguments sees: empty, or a row. -/
theorem ArgsAt.cases {w : World} {lo h : Nat} {u : Value} {ts : List T} (k : ArgsAt w lo h u ts) :
    (ts = [] ∧ ∃ a cap, u = .slice a 0 cap) ∨ ∃ h' b o cap, h = h' + 1 ∧ u = .slice (some ⟨b, o, none⟩) ts.length cap ∧ ts.length ≤ maxLen ∧ lo ≤ b ∧ RowAt w lo h' b o ts := by
  cases h with
  | zero => exact Or.inl k
  | succ h =>
    obtain ⟨a, cap, e, hl, hc⟩ := k
    rcases hc with rfl | ⟨b, o, rfl, hb, hc⟩
    · exact Or.inl ⟨rfl, a, cap, e⟩
    · exact Or.inr ⟨h, b, o, cap, rfl, e, hl, hb, hc⟩

theorem ArgsAt.slice {w : World} {lo h : Nat} {u : Value} {ts : List T} (k : ArgsAt w lo h u ts) : ∃ a cap, u = .slice a ts.length cap := by
  cases h with
  | zero => obtain ⟨rfl, a, cap, rfl⟩ := k; exact ⟨a, cap, rfl⟩
  | succ h => obtain ⟨a, cap, e, _⟩ := k; exact ⟨a, cap, e⟩

theorem TermAt.shape {w : World} {lo h : Nat} {v : Value} {t : T} (ht : TermAt w lo h v t) : ∃ k n s a m cap, v = tv k n s (.slice a m cap) := by
  obtain ⟨k, n, s, u, xs, e, _, _, ha⟩ := ht
  obtain ⟨a, cap, rfl⟩ := ha.slice
  exact ⟨k, n, s, a, _, cap, e⟩

/-! ### how much a term holds -/
/-- The bytes of the names and the arguments below a term. -/
def wT : T → Nat
  | .node _ _ s xs => s.size + (xs.length + (xs.map wT).sum)
def wS (xs : List T) : Nat := (xs.map wT).sum
/-- How many terms there are in a term. -/
def cT : T → Nat
  | .node _ _ _ xs => 1 + (xs.map cT).sum
def cS (xs : List T) : Nat := (xs.map cT).sum
/-- How deep a term is. -/
def dT : T → Nat
  | .node _ _ _ xs => (xs.map dT).foldl max 0 + 1
def dS (xs : List T) : Nat := (xs.map dT).foldl max 0
theorem foldl_max (l : List Nat) (a b : Nat) (h : ∀ x ∈ l, x ≤ b) (ha : a ≤ b) : l.foldl max a ≤ b := by
  induction l generalizing a with
  | nil => exact ha
  | cons x l ih => exact ih (max a x) (fun y hy => h y (by simp [hy])) (by have := h x (by simp); omega)
theorem wS_snoc (l : List T) (t : T) : wS (l ++ [t]) = wS l + wT t := by simp [wS]
theorem cS_snoc (l : List T) (t : T) : cS (l ++ [t]) = cS l + cT t := by simp [cS]
theorem wT_node (k n : Int) (s : ByteArray) (xs : List T) : wT (.node k n s xs) = s.size + (xs.length + wS xs) := by rw [wT]; rfl
theorem cT_node (k n : Int) (s : ByteArray) (xs : List T) : cT (.node k n s xs) = 1 + cS xs := by rw [cT]; rfl
theorem cS_of (xs : List T) (h : ∀ x ∈ xs, cT x ≤ 1 + wT x) : cS xs ≤ xs.length + wS xs := by
  induction xs with
  | nil => simp [cS]
  | cons x r ih =>
    have h1 := h x (by simp)
    have h2 := ih (fun y hy => h y (by simp [hy]))
    simp only [cS, wS, List.map_cons, List.sum_cons, List.length_cons] at *
    omega
theorem cT_le : ∀ t : T, cT t ≤ 1 + wT t
  | .node k n s xs => by
    have h := cS_of xs (fun x _ => cT_le x)
    rw [cT_node, wT_node]
    omega
theorem cT_mem (xs : List T) : ∀ x ∈ xs, cT x ≤ cS xs := by
  induction xs with
  | nil => simp
  | cons y r ih =>
    intro x hx
    simp only [cS, List.map_cons, List.sum_cons]
    rcases List.mem_cons.1 hx with rfl | hx
    · omega
    · have := ih x hx; simp only [cS] at this; omega
theorem dT_le : ∀ t : T, dT t ≤ cT t
  | .node k n s xs => by
    have h : ∀ x ∈ xs, dT x ≤ cT x := fun x _ => dT_le x
    rw [dT, cT_node]
    have := foldl_max (xs.map dT) 0 (cS xs) (fun y hy => by
      obtain ⟨x, hx, rfl⟩ := List.mem_map.1 hy
      exact Nat.le_trans (h x hx) (cT_mem xs x hx)) (Nat.zero_le _)
    omega
theorem cS_le (xs : List T) : cS xs ≤ xs.length + wS xs := cS_of xs (fun x _ => cT_le x)
theorem tk {α : Type} (l : List α) (k : Nat) (x : α) (h : l[k]? = some x) : l.take (k + 1) = l.take k ++ [x] := by
  rw [List.take_add_one, h]; rfl
theorem wS_take (ts : List T) (k : Nat) : wS (ts.take k) ≤ wS ts := by
  have h : wS ts = wS (ts.take k) + wS (ts.drop k) := by
    unfold wS
    rw [← List.sum_append, ← List.map_append, List.take_append_drop]
  omega
theorem wT_at (ts : List T) (k : Nat) (t : T) (h : ts[k]? = some t) : wS (ts.take k) + wT t ≤ wS ts := by
  have h1 := wS_take ts (k + 1)
  rw [tk ts k t h, wS_snoc] at h1
  exact h1
end Go.Proofs.YtidbokheeieifaaGreatDoor
namespace Go.Proofs.YtidbokheeieifaaGreatDoor
open Go.RowKit

/-- A struct in a block of its own. -/
abbrev boxed (w : World) (k n : Int) (s : ByteArray) (u : Value) : World := w.alloc (.cells #[.int .i64 k, .int .i64 n, .string s, u] 26)
theorem boxed_below (w : World) (k n : Int) (s : ByteArray) (u : Value) : Below w.heap.size w (boxed w k n s u) := (Below.refl _ _).alloc (Nat.le_refl _) _
theorem boxed_cells {w wr : World} {k n : Int} {s : ByteArray} {u : Value} (hb : Below (boxed w k n s u).heap.size (boxed w k n s u) wr) :
    wr.cell? ⟨w.heap.size, 0, none⟩ = some (.int .i64 k) ∧ wr.cell? ⟨w.heap.size, 1, none⟩ = some (.int .i64 n) ∧ wr.cell? ⟨w.heap.size, 2, none⟩ = some (.string s) ∧ wr.cell? ⟨w.heap.size, 3, none⟩ = some u := by
  have hlt : w.heap.size < (boxed w k n s u).heap.size := by simp
  have c : ∀ j v, #[Value.int .i64 k, .int .i64 n, .string s, u][j]? = some v → wr.cell? ⟨w.heap.size, j, none⟩ = some v := by
    intro j v hv
    rw [hb.cell (by exact hlt), World.cell?_alloc_mark w _ 26 (0, 0) j]
    exact hv
  exact ⟨c 0 _ rfl, c 1 _ rfl, c 2 _ rfl, c 3 _ rfl⟩

/-- What a round over the arguments sees. -/
theorem ArgsAt.at {w : World} {lo h : Nat} {a : Option Addr} {m cap : Nat} {ts : List T} {i : Nat} {t : T} (ha : ArgsAt w lo h (.slice a m cap) ts) (ht : ts[i]? = some t) :
    ∃ h' b o k n s xs u', h = h' + 1 ∧ a = some ⟨b, o, none⟩ ∧ t = .node k n s xs ∧ s.size ≤ maxLen ∧ w.cell? ⟨b, o + i * 4, none⟩ = some (.int .i64 k) ∧ w.cell? ⟨b, o + i * 4 + 1, none⟩ = some (.int .i64 n) ∧
      w.cell? ⟨b, o + i * 4 + 2, none⟩ = some (.string s) ∧ w.cell? ⟨b, o + i * 4 + 3, none⟩ = some u' ∧ ArgsAt w lo h' u' xs := by
  rcases ha.cases with ⟨rfl, _⟩ | ⟨h', b, o, cap', e, e2, _, _, hc⟩
  · simp at ht
  · obtain ⟨k, n, s, xs⟩ := t
    obtain ⟨hs, u', c0, c1, c2, c3, hr⟩ := hc i k n s xs ht
    simp only [Value.slice.injEq] at e2
    exact ⟨h', b, o, k, n, s, xs, u', e, e2.1, rfl, hs, c0, c1, c2, c3, hr⟩

theorem cell_on {w w' : World} (hb : Below w.heap.size w w') {ad : Addr} {v : Value} (hv : w.cell? ad = some v) : w'.cell? ad = some v := by
  rw [hb.cell (World.block_lt_of_cell? w _ hv)]; exact hv

/-- A call that hands back a number and leaves what was there. -/
def NumB (x : Int) (w : World) (e : Ending) (w' : World) : Prop := e = .returned (.int .i64 x) ∧ Below w.heap.size w w'

theorem by_height {X : Nat → Prop} (step : ∀ h, (∀ h', h = h' + 1 → X h') → X h) (h : Nat) : X h := by
  induction h with
  | zero => exact step 0 (fun h' e => by omega)
  | succ h ih => exact step (h + 1) (fun h' e => by cases e; exact ih)

theorem cS_take (ts : List T) (k : Nat) : cS (ts.take k) ≤ cS ts := by
  have h : cS ts = cS (ts.take k) + cS (ts.drop k) := by
    unfold cS
    rw [← List.sum_append, ← List.map_append, List.take_append_drop]
  omega

theorem dS_snoc (l : List T) (t : T) : dS (l ++ [t]) = max (dS l) (dT t) := by simp [dS, List.foldl_append]
theorem dT_node (k n : Int) (s : ByteArray) (xs : List T) : dT (.node k n s xs) = dS xs + 1 := by rw [dT]; rfl
end Go.Proofs.YtidbokheeieifaaGreatDoor
namespace Go.Proofs.YtidbokheeieifaaGreatDoor
open Go.RowKit

theorem max_any (a b : Int) (w : World) : Calls Tryz.prog 103 #[.int .i64 a, .int .i64 b] w fun e w' => e = .returned (.int .i64 (max a b)) ∧ w' = w := by
  by_cases h : b < a
  · have hm : max a b = a := by omega
    rw [hm]
    go_enter Tryz.func103, Tryz.ntmps103
    go_wp2
    go_ret
    exact ⟨rfl, rfl⟩
  · have hm : max a b = b := by omega
    rw [hm]
    go_enter Tryz.func103, Tryz.ntmps103
    go_wp2
    go_ret
    exact ⟨rfl, rfl⟩

def DepthAt (lo h : Nat) : Prop := ∀ (v : Value) (t : T) (w : World), TermAt w lo h v t → wT t ≤ 1048576 →
  Calls Tryz.prog 78 #[v] w (NumB (dT t) w)

set_option maxRecDepth 100000 in
set_option maxHeartbeats 1600000 in
theorem sDepth_step (lo h : Nat) (IH : ∀ h', h = h' + 1 → DepthAt lo h') : DepthAt lo h := by
  intro v t w ht hw
  obtain ⟨kk, nn, s, u, xs, rfl, rfl, hs, ha⟩ := ht
  obtain ⟨a, cap, rfl⟩ := ha.slice
  have HA := Lib.hid (ha.below (boxed_below w kk nn s (.slice a xs.length cap))); clear ha
  have HW : Hid (xs.length + wS xs ≤ 1048576) := Lib.hid (by rw [wT_node] at hw; omega)
  have HDL : Hid (dT (.node kk nn s xs) ≤ 1048577) := Lib.hid (by have := dT_le (.node kk nn s xs); have := cT_le (.node kk nn s xs); omega)
  clear hw hs
  obtain ⟨m, hm⟩ : ∃ m, m = xs.length := ⟨_, rfl⟩
  have hml : m ≤ 1048576 := by have := HW.out; omega
  rw [← hm] at HA ⊢
  have HM := Lib.hid hm; clear hm
  have HIH := Lib.hid IH; clear IH
  have HB0 := Lib.hid (boxed_below w kk nn s (.slice a m cap))
  go_enter Tryz.func78, Tryz.ntmps78
  go_wp2
  go_loopw [3, 4] (fun c i wr => ∃ k : Nat, k ≤ m ∧ i = .int .i64 k ∧ c = .int .i64 (dS (xs.take k) : Nat) ∧ Hid (Below (boxed w kk nn s (.slice a m cap)).heap.size (boxed w kk nn s (.slice a m cap)) wr)) (fun _ i _ => m - (intOf i).toNat)
  case atStart => exact ⟨0, Nat.zero_le _, rfl, by simp [dS], Lib.hid (Below.refl _ _)⟩
  case round =>
    obtain ⟨k, hk, rfl, rfl, HB⟩ := hrel
    obtain ⟨_, _, _, cb⟩ := boxed_cells HB.out
    obtain ⟨c, hc⟩ : ∃ c : Nat, c = dS (xs.take k) := ⟨_, rfl⟩
    rw [← hc]
    have HCC := Lib.hid hc; clear hc
    by_cases hlt : k < m
    · obtain ⟨t, ht⟩ : ∃ t, xs[k]? = some t := ⟨_, List.getElem?_eq_getElem (by have := HM.out; omega)⟩
      obtain ⟨h', b, o, tk', tn, tsn, txs, u', e, rfl, rfl, hsz, c0, c1, c2, c3, har⟩ := HA.out.at ht
      have d0 := cell_on HB.out c0
      have d1 := cell_on HB.out c1
      have d2 := cell_on HB.out c2
      have d3 := cell_on HB.out c3
      clear c0 c1 c2 c3
      have hwt := wT_at xs k _ ht
      have HCALL := Lib.hid (HIH.out h' e _ _ wr ⟨tk', tn, tsn, u', txs, rfl, rfl, hsz, har.below HB.out⟩ (by have := HW.out; omega))
      have HCS : Hid (dS (xs.take (k + 1)) = max c (dT (.node tk' tn tsn txs))) := Lib.hid (by rw [tk xs k _ ht, dS_snoc, HCC.out])
      obtain ⟨ct, hcte⟩ : ∃ ct, ct = dT (.node tk' tn tsn txs) := ⟨_, rfl⟩
      rw [← hcte] at HCALL HCS
      clear hwt ht har hsz hcte e
      go_wp2_with fail
      refine HCALL.out.mono ?_
      rintro e w1 ⟨rfl, hb1⟩
      have HB2 := Lib.hid (HB.out.trans (hb1.mono HB.out.size)); clear hb1
      go_wp2_with fail
      refine (max_any _ _ _).mono ?_
      rintro e w2 ⟨rfl, rfl⟩
      have hmx : max (c : Int) (ct : Int) = ((max c ct : Nat) : Int) := by omega
      rw [hmx]
      clear hmx
      go_wp2
      go_roundw
      case rel => exact ⟨k + 1, by omega, by go_num, by rw [HCS.out], HB2⟩
      case measure => simp [intOf]; omega
    · have HD : Hid (c + 1 = dT (.node kk nn s xs)) := Lib.hid (by
        have hkn : k = xs.length := by have := HM.out; omega
        rw [HCC.out, hkn, List.take_length, dT_node])
      have hcl : c ≤ 1048576 := by have := HD.out; have := HDL.out; omega
      go_wp2
      go_ret
      exact ⟨by rw [← HD.out]; rfl, HB0.out.trans (HB.out.mono HB0.out.size)⟩

theorem sDepth_any (lo : Nat) (h : Nat) : DepthAt lo h := by_height (sDepth_step lo) h
end Go.Proofs.YtidbokheeieifaaGreatDoor
namespace Go.Proofs.YtidbokheeieifaaGreatDoor
open Go.RowKit

/-- A lower-case letter or a digit. -/
def Cont (b : Int) : Prop := (97 ≤ b ∧ b ≤ 122) ∨ (48 ≤ b ∧ b ≤ 57)
/-- The byte at place k. -/
def byteAt (s : ByteArray) (k : Nat) : Int := if h : k < s.size then (s[k].toNat : Int) else 0
theorem byteAt_lt (s : ByteArray) (k : Nat) (h : k < s.size) : byteAt s k = (s[k].toNat : Int) := by simp [byteAt, h]
/-- A name whose first byte lies from lo to hi. -/
def Nm (lo hi : Int) (s : ByteArray) : Prop := 1 ≤ s.size ∧ s.size ≤ 8 ∧ lo ≤ byteAt s 0 ∧ byteAt s 0 ≤ hi ∧ ∀ k, 1 ≤ k → k < s.size → Cont (byteAt s k)
/-- A call that answers whether X holds and changes nothing. -/
def Tells (X : Prop) (w : World) (e : Ending) (w' : World) : Prop := ∃ b, e = .returned (.bool b) ∧ (b = true ↔ X) ∧ w' = w

theorem nm_apart (s : ByteArray) (h : Nm 97 122 s) (k : Nm 65 90 s) : False := by
  have := h.2.2.1; have := k.2.2.2.1; omega

set_option maxRecDepth 100000 in
theorem iCont_any (b : Int) (w : World) (h0 : 0 ≤ b) (h1 : b ≤ 255) :
    Calls Tryz.prog 123 #[.int .u8 b] w (Tells (Cont b) w) := by
  by_cases a1 : 97 ≤ b
  · by_cases a2 : b ≤ 122
    · go_enter Tryz.func123, Tryz.ntmps123
      go_wp2
      go_ret
      exact ⟨true, rfl, by simp [Cont]; omega, rfl⟩
    · have a4 : 48 ≤ b := by omega
      have a5 : ¬ b ≤ 57 := by omega
      go_enter Tryz.func123, Tryz.ntmps123
      go_wp2
      go_ret
      exact ⟨false, rfl, by simp [Cont]; omega, rfl⟩
  · by_cases a4 : 48 ≤ b
    · by_cases a5 : b ≤ 57
      · go_enter Tryz.func123, Tryz.ntmps123
        go_wp2
        go_ret
        exact ⟨true, rfl, by simp [Cont]; omega, rfl⟩
      · go_enter Tryz.func123, Tryz.ntmps123
        go_wp2
        go_ret
        exact ⟨false, rfl, by simp [Cont]; omega, rfl⟩
    · go_enter Tryz.func123, Tryz.ntmps123
      go_wp2
      go_ret
      exact ⟨false, rfl, by simp [Cont]; omega, rfl⟩

set_option maxRecDepth 100000 in
theorem sLower_any (b : Int) (w : World) (h0 : 0 ≤ b) (h1 : b ≤ 255) :
    Calls Tryz.prog 118 #[.int .u8 b] w (Tells (97 ≤ b ∧ b ≤ 122) w) := by
  by_cases a1 : 97 ≤ b
  · by_cases a2 : b ≤ 122
    · go_enter Tryz.func118, Tryz.ntmps118
      go_wp2
      go_ret
      exact ⟨true, rfl, by simp; omega, rfl⟩
    · go_enter Tryz.func118, Tryz.ntmps118
      go_wp2
      go_ret
      exact ⟨false, rfl, by simp; omega, rfl⟩
  · go_enter Tryz.func118, Tryz.ntmps118
    go_wp2
    go_ret
    exact ⟨false, rfl, by simp; omega, rfl⟩

set_option maxRecDepth 100000 in
theorem sDigit_any (b : Int) (w : World) (h0 : 0 ≤ b) (h1 : b ≤ 255) :
    Calls Tryz.prog 75 #[.int .u8 b] w (Tells (48 ≤ b ∧ b ≤ 57) w) := by
  by_cases a1 : 48 ≤ b
  · by_cases a2 : b ≤ 57
    · go_enter Tryz.func75, Tryz.ntmps75
      go_wp2
      go_ret
      exact ⟨true, rfl, by simp; omega, rfl⟩
    · go_enter Tryz.func75, Tryz.ntmps75
      go_wp2
      go_ret
      exact ⟨false, rfl, by simp; omega, rfl⟩
  · go_enter Tryz.func75, Tryz.ntmps75
    go_wp2
    go_ret
    exact ⟨false, rfl, by simp; omega, rfl⟩

set_option maxRecDepth 100000 in
theorem sIn_any (n lo hi : Int) (w : World) :
    Calls Tryz.prog 45 #[.int .i64 n, .int .i64 lo, .int .i64 hi] w (Tells (lo ≤ n ∧ n ≤ hi) w) := by
  by_cases a1 : lo ≤ n
  · by_cases a2 : n ≤ hi
    · go_enter Tryz.func45, Tryz.ntmps45
      go_wp2
      go_ret
      exact ⟨true, rfl, by simp [a2]; omega, rfl⟩
    · go_enter Tryz.func45, Tryz.ntmps45
      go_wp2
      go_ret
      exact ⟨false, rfl, by simp; omega, rfl⟩
  · go_enter Tryz.func45, Tryz.ntmps45
    go_wp2
    go_ret
    exact ⟨false, rfl, by simp; omega, rfl⟩

/-- What comes behind the first byte. -/
def Rest (s : ByteArray) : Prop := (∀ k, 1 ≤ k → k < s.size → Cont (byteAt s k)) ∧ 1 ≤ s.size ∧ s.size ≤ 8

theorem byte_range (b : UInt8) : 0 ≤ (b.toNat : Int) ∧ (b.toNat : Int) ≤ 255 := by have := b.toNat_lt; omega

set_option maxRecDepth 100000 in
set_option maxHeartbeats 800000 in
theorem sRest_any (s : ByteArray) (w : World) (hs : s.size ≤ 9223372036854775807) :
    Calls Tryz.prog 102 #[.string s] w (Tells (Rest s) w) := by
  go_enter Tryz.func102, Tryz.ntmps102
  go_wp2
  go_loop [3] (fun i => ∃ k : Nat, 1 ≤ k ∧ k ≤ max 1 s.size ∧ i = .int .i64 k ∧ Hid (∀ j, 1 ≤ j → j < k → j < s.size → Cont (byteAt s j))) (fun i => s.size - (intOf i).toNat)
  case atStart => exact ⟨1, Nat.le_refl _, by omega, rfl, Lib.hid (fun j h1 h2 => by omega)⟩
  case round =>
    obtain ⟨k, hk1, hk, rfl, HC⟩ := hrel
    by_cases hlt : k < s.size
    · obtain ⟨hb0, hb1⟩ := byte_range s[k]
      have HB := Lib.hid (byteAt_lt s k hlt)
      go_wp2_with fail
      refine (sLower_any _ _ hb0 hb1).mono ?_
      rintro e w1 ⟨b1, rfl, hq1, rfl⟩
      have HQ1 := Lib.hid hq1; clear hq1
      cases b1 with
      | true =>
        go_wp2
        go_round
        case rel =>
          refine ⟨k + 1, by omega, by omega, by go_num, Lib.hid fun j h1 h2 h3 => ?_⟩
          by_cases hj : j < k
          · exact HC.out j h1 hj h3
          · obtain rfl : j = k := by omega
            rw [HB.out]
            exact Or.inl (HQ1.out.1 (by simp))
        case measure => simp [intOf]; omega
      | false =>
        go_wp2_with fail
        refine (sDigit_any _ _ hb0 hb1).mono ?_
        rintro e w1 ⟨b2, rfl, hq2, rfl⟩
        have HQ2 := Lib.hid hq2; clear hq2
        cases b2 with
        | true =>
          go_wp2
          go_round
          case rel =>
            refine ⟨k + 1, by omega, by omega, by go_num, Lib.hid fun j h1 h2 h3 => ?_⟩
            by_cases hj : j < k
            · exact HC.out j h1 hj h3
            · obtain rfl : j = k := by omega
              rw [HB.out]
              exact Or.inr (HQ2.out.1 (by simp))
          case measure => simp [intOf]; omega
        | false =>
          go_wp2
          go_ret
          refine ⟨false, rfl, ⟨fun h => by simp at h, fun h => ?_⟩, rfl⟩
          rcases h.1 k hk1 hlt with h2 | h2
          · rw [HB.out] at h2; exact HQ1.out.2 h2
          · rw [HB.out] at h2; exact HQ2.out.2 h2
    · go_wp2_with fail
      refine (sIn_any _ _ _ _).mono ?_
      rintro e w1 ⟨b1, rfl, hq1, rfl⟩
      have HQ1 := Lib.hid hq1; clear hq1
      go_wp2
      go_ret
      refine ⟨b1, rfl, ?_, rfl⟩
      rw [HQ1.out]
      constructor
      · rintro ⟨h1, h2⟩
        exact ⟨fun j a b => HC.out j a (by omega) b, by omega, by omega⟩
      · rintro ⟨_, h1, h2⟩
        exact ⟨by omega, by omega⟩

set_option maxRecDepth 100000 in
set_option maxHeartbeats 800000 in
theorem iFrom_any (s : ByteArray) (lo hi : Int) (w : World) (hs : s.size ≤ 9223372036854775807) :
    Calls Tryz.prog 110 #[.string s, .int .u8 lo, .int .u8 hi] w (Tells (Nm lo hi s) w) := by
  by_cases h0 : s.size = 0
  · have h0' : ((s.size : Int) == 0) = true := by rw [h0]; rfl
    go_enter Tryz.func110, Tryz.ntmps110
    go_wp2
    go_ret
    exact ⟨false, rfl, ⟨fun h => by simp at h, fun h => by have := h.1; omega⟩, rfl⟩
  · have h0' : ((s.size : Int) == 0) = false := by rw [beq_eq_false_iff_ne]; omega
    by_cases h8 : 8 < s.size
    · go_enter Tryz.func110, Tryz.ntmps110
      go_wp2
      go_ret
      exact ⟨false, rfl, ⟨fun h => by simp at h, fun h => by have := h.2.1; omega⟩, rfl⟩
    · have hp : 0 < s.size := by omega
      have H0 := Lib.hid (byteAt_lt s 0 hp)
      by_cases hl : (s[0].toNat : Int) < lo
      · go_enter Tryz.func110, Tryz.ntmps110
        go_wp2
        go_ret
        exact ⟨false, rfl, ⟨fun h => by simp at h, fun h => by have := h.2.2.1; have := H0.out; omega⟩, rfl⟩
      · by_cases hh : hi < (s[0].toNat : Int)
        · go_enter Tryz.func110, Tryz.ntmps110
          go_wp2
          go_ret
          exact ⟨false, rfl, ⟨fun h => by simp at h, fun h => by have := h.2.2.2.1; have := H0.out; omega⟩, rfl⟩
        · go_enter Tryz.func110, Tryz.ntmps110
          go_wp2
          go_loop [7] (fun i => ∃ k : Nat, 1 ≤ k ∧ k ≤ s.size ∧ i = .int .i64 k ∧ Hid (∀ j, 1 ≤ j → j < k → Cont (byteAt s j))) (fun i => s.size - (intOf i).toNat)
          case atStart => exact ⟨1, Nat.le_refl _, by omega, rfl, Lib.hid (fun j h1 h2 => by omega)⟩
          case round =>
            obtain ⟨k, hk1, hk, rfl, HC⟩ := hrel
            by_cases hlt : k < s.size
            · obtain ⟨hb0, hb1⟩ := byte_range s[k]
              have HB := Lib.hid (byteAt_lt s k hlt)
              go_wp2_with fail
              refine (iCont_any _ _ hb0 hb1).mono ?_
              rintro e w1 ⟨b1, rfl, hq1, rfl⟩
              have HQ1 := Lib.hid hq1; clear hq1
              cases b1 with
              | true =>
                go_wp2
                go_round
                case rel =>
                  refine ⟨k + 1, by omega, by omega, by go_num, Lib.hid fun j h1 h2 => ?_⟩
                  by_cases hj : j < k
                  · exact HC.out j h1 hj
                  · obtain rfl : j = k := by omega
                    rw [HB.out]
                    exact HQ1.out.1 (by simp)
                case measure => simp [intOf]; omega
              | false =>
                go_wp2
                go_ret
                refine ⟨false, rfl, ⟨fun h => by simp at h, fun h => ?_⟩, rfl⟩
                have h2 := h.2.2.2.2 k hk1 hlt
                rw [HB.out] at h2
                exact HQ1.out.2 h2
            · go_wp2
              go_ret
              refine ⟨true, rfl, ⟨fun _ => ?_, fun _ => rfl⟩, rfl⟩
              refine ⟨by omega, by omega, ?_, ?_, fun j a b => HC.out j a (by omega)⟩
              · rw [H0.out]; omega
              · rw [H0.out]; omega

set_option maxRecDepth 100000 in
theorem iName_any (s : ByteArray) (w : World) (hs : s.size ≤ 9223372036854775807) :
    Calls Tryz.prog 94 #[.string s] w (Tells (Nm 97 122 s) w) := by
  go_enter Tryz.func94, Tryz.ntmps94
  go_wp2_with fail
  refine (iFrom_any s _ _ _ hs).mono ?_
  rintro e w1 ⟨b1, rfl, hq1, rfl⟩
  have HQ1 := Lib.hid hq1; clear hq1
  go_wp2
  go_ret
  exact ⟨b1, rfl, HQ1.out, rfl⟩

theorem no_empty (s : ByteArray) (h : s.size = 0) : s = ⟨#[]⟩ := by
  obtain ⟨d⟩ := s
  have : d = #[] := Array.eq_empty_of_size_eq_zero h
  rw [this]
theorem some_byte (s : ByteArray) (h : s.size ≠ 0) : s.toList.isEmpty = false ∧ ¬ s.toList = [] := by
  have h2 : ¬ s.toList = [] := by
    rw [ByteArray.toList_eq]
    intro e
    have := congrArg List.length e
    simp at this
    exact h (by simpa using this)
  exact ⟨by simpa using h2, h2⟩

theorem nm_rest {lo hi : Int} {s : ByteArray} : Nm lo hi s ↔ (lo ≤ byteAt s 0 ∧ byteAt s 0 ≤ hi) ∧ Rest s := by
  constructor
  · rintro ⟨a, b, c, d, e⟩; exact ⟨⟨c, d⟩, e, a, b⟩
  · rintro ⟨⟨c, d⟩, e, a, b⟩; exact ⟨a, b, c, d, e⟩
theorem nm_no {lo hi : Int} {s : ByteArray} (h : s.size = 0) : ¬ Nm lo hi s := fun k => by have := k.1; omega

set_option maxRecDepth 100000 in
set_option maxHeartbeats 400000 in
theorem sName_any (s : ByteArray) (w : World) (hs : s.size ≤ 9223372036854775807) :
    Calls Tryz.prog 119 #[.string s] w (Tells (Nm 97 122 s) w) := by
  by_cases h0 : s.size = 0
  · have hn := Lib.hid (nm_no (lo := 97) (hi := 122) h0)
    obtain rfl := no_empty s h0
    go_enter Tryz.func119, Tryz.ntmps119
    go_wp2
    go_ret
    exact ⟨false, rfl, ⟨fun h => by simp at h, fun h => absurd h hn.out⟩, rfl⟩
  · obtain ⟨hb, hb'⟩ := some_byte s h0
    have hp : 0 < s.size := by omega
    have H0 := Lib.hid (byteAt_lt s 0 hp)
    obtain ⟨hb0, hb1⟩ := byte_range s[0]
    go_enter Tryz.func119, Tryz.ntmps119
    go_wp2_with fail
    refine (sLower_any _ _ hb0 hb1).mono ?_
    rintro e w1 ⟨b1, rfl, hq1, rfl⟩
    have HQ1 := Lib.hid hq1; clear hq1
    cases b1 with
    | true =>
      go_wp2_with fail
      refine (sRest_any s _ hs).mono ?_
      rintro e w1 ⟨b2, rfl, hq2, rfl⟩
      have HQ2 := Lib.hid hq2; clear hq2
      go_wp2
      go_ret
      refine ⟨b2, rfl, ?_, rfl⟩
      rw [HQ2.out, nm_rest, H0.out]
      exact ⟨fun h => ⟨HQ1.out.1 (by simp), h⟩, fun h => h.2⟩
    | false =>
      go_wp2
      go_ret
      refine ⟨false, rfl, ⟨fun h => by simp at h, fun h => ?_⟩, rfl⟩
      rw [nm_rest, H0.out] at h
      exact HQ1.out.2 h.1

set_option maxRecDepth 100000 in
set_option maxHeartbeats 400000 in
theorem sVar_any (s : ByteArray) (w : World) (hs : s.size ≤ 9223372036854775807) :
    Calls Tryz.prog 74 #[.string s] w (Tells (Nm 65 90 s) w) := by
  by_cases h0 : s.size = 0
  · have hn := Lib.hid (nm_no (lo := 65) (hi := 90) h0)
    obtain rfl := no_empty s h0
    go_enter Tryz.func74, Tryz.ntmps74
    go_wp2
    go_ret
    exact ⟨false, rfl, ⟨fun h => by simp at h, fun h => absurd h hn.out⟩, rfl⟩
  · obtain ⟨hb, hb'⟩ := some_byte s h0
    have hp : 0 < s.size := by omega
    have H0 := Lib.hid (byteAt_lt s 0 hp)
    by_cases a1 : 65 ≤ (s[0].toNat : Int)
    · by_cases a2 : (s[0].toNat : Int) ≤ 90
      · go_enter Tryz.func74, Tryz.ntmps74
        go_wp2_with fail
        refine (sRest_any s _ hs).mono ?_
        rintro e w1 ⟨b2, rfl, hq2, rfl⟩
        have HQ2 := Lib.hid hq2; clear hq2
        go_wp2
        go_ret
        refine ⟨b2, rfl, ?_, rfl⟩
        rw [HQ2.out, nm_rest, H0.out]
        exact ⟨fun h => ⟨⟨by omega, by omega⟩, h⟩, fun h => h.2⟩
      · go_enter Tryz.func74, Tryz.ntmps74
        go_wp2
        go_ret
        refine ⟨false, rfl, ⟨fun h => by simp at h, fun h => ?_⟩, rfl⟩
        rw [nm_rest, H0.out] at h
        omega
    · go_enter Tryz.func74, Tryz.ntmps74
      go_wp2
      go_ret
      refine ⟨false, rfl, ⟨fun h => by simp at h, fun h => ?_⟩, rfl⟩
      rw [nm_rest, H0.out] at h
      omega

theorem tells_same {X : Prop} {a b : Bool} (h : a = true ↔ X) (k : b = true ↔ X) : (a == b) = true ∧ (a != b) = false := by
  have : a = b := by cases a <;> cases b <;> simp_all
  subst this; simp
end Go.Proofs.YtidbokheeieifaaGreatDoor
namespace Go.Proofs.YtidbokheeieifaaGreatDoor
open Go.RowKit

/-- A call that answers whether X holds and leaves what was there. -/
def TellsT (X : Prop) (w : World) (e : Ending) (w' : World) : Prop := ∃ b, e = .returned (.bool b) ∧ (b = true ↔ X) ∧ Below w.heap.size w w'

/-- One node has one of the three forms. -/
def NodeOk (k n : Int) (s : ByteArray) (m : Nat) : Prop :=
  (k = 1 ∧ Nm 65 90 s ∧ n = 0 ∧ m = 0) ∨ (k = 2 ∧ Nm 97 122 s ∧ n = 0) ∨ (k = 3 ∧ s.size = 0 ∧ 0 ≤ n ∧ n ≤ 3 ∧ m = 0)

set_option maxRecDepth 100000 in
set_option maxHeartbeats 1600000 in
theorem sNode_any (k n : Int) (s : ByteArray) (a : Option Addr) (m cap : Nat) (w : World) (hs : s.size ≤ maxLen) :
    Calls Tryz.prog 104 #[tv k n s (.slice a m cap)] w (TellsT (NodeOk k n s m) w) := by
  have hs2 : s.size ≤ 9223372036854775807 := by unfold maxLen at hs; omega
  clear hs
  have HB0 := Lib.hid (boxed_below w k n s (.slice a m cap))
  by_cases h1 : k = 1
  · subst h1
    go_enter Tryz.func104, Tryz.ntmps104
    go_wp2_with fail
    refine (sVar_any s _ hs2).mono ?_
    rintro e w1 ⟨b1, rfl, hq, rfl⟩
    have HQ := Lib.hid hq; clear hq
    cases b1 with
    | false =>
      go_wp2
      go_ret
      refine ⟨false, rfl, ⟨fun h => by simp at h, fun h => ?_⟩, HB0.out⟩
      rcases h with ⟨_, h, _⟩ | ⟨h, _⟩ | ⟨h, _⟩
      · exact absurd h (fun q => by have := HQ.out.2 q; simp at this)
      · omega
      · omega
    | true =>
      by_cases hn : n = 0
      · subst hn
        by_cases hm : m = 0
        · subst hm
          go_wp2
          go_ret
          exact ⟨true, rfl, ⟨fun _ => Or.inl ⟨rfl, HQ.out.1 (by simp), rfl, rfl⟩, fun _ => rfl⟩, HB0.out⟩
        · have hm' : ((m : Int) == 0) = false := by rw [beq_eq_false_iff_ne]; omega
          go_wp2
          go_ret
          refine ⟨false, rfl, ⟨fun h => by simp at h, fun h => ?_⟩, HB0.out⟩
          rcases h with ⟨_, _, _, h⟩ | ⟨h, _⟩ | ⟨h, _⟩ <;> omega
      · have hn' : (n == 0) = false := by rw [beq_eq_false_iff_ne]; exact hn
        go_wp2
        go_ret
        refine ⟨false, rfl, ⟨fun h => by simp at h, fun h => ?_⟩, HB0.out⟩
        rcases h with ⟨_, _, h, _⟩ | ⟨h, _⟩ | ⟨h, _⟩ <;> omega
  · have h1' : (k == 1) = false := by rw [beq_eq_false_iff_ne]; exact h1
    by_cases h2 : k = 2
    · subst h2
      go_enter Tryz.func104, Tryz.ntmps104
      go_wp2_with fail
      refine (sName_any s _ hs2).mono ?_
      rintro e w1 ⟨b1, rfl, hq, rfl⟩
      have HQ := Lib.hid hq; clear hq
      cases b1 with
      | false =>
        go_wp2
        go_ret
        refine ⟨false, rfl, ⟨fun h => by simp at h, fun h => ?_⟩, HB0.out⟩
        rcases h with ⟨h, _⟩ | ⟨_, h, _⟩ | ⟨h, _⟩
        · omega
        · exact absurd h (fun q => by have := HQ.out.2 q; simp at this)
        · omega
      | true =>
        by_cases hn : n = 0
        · subst hn
          go_wp2
          go_ret
          exact ⟨true, rfl, ⟨fun _ => Or.inr (Or.inl ⟨rfl, HQ.out.1 (by simp), rfl⟩), fun _ => rfl⟩, HB0.out⟩
        · have hn' : (n == 0) = false := by rw [beq_eq_false_iff_ne]; exact hn
          go_wp2
          go_ret
          refine ⟨false, rfl, ⟨fun h => by simp at h, fun h => ?_⟩, HB0.out⟩
          rcases h with ⟨h, _⟩ | ⟨_, _, h⟩ | ⟨h, _⟩ <;> omega
    · have h2' : (k == 2) = false := by rw [beq_eq_false_iff_ne]; exact h2
      by_cases h3 : k = 3
      · subst h3
        by_cases h0 : s.size = 0
        · obtain rfl := no_empty s h0
          go_enter Tryz.func104, Tryz.ntmps104
          go_wp2_with fail
          refine (sIn_any _ _ _ _).mono ?_
          rintro e w1 ⟨b1, rfl, hq, rfl⟩
          have HQ := Lib.hid hq; clear hq
          cases b1 with
          | false =>
            go_wp2
            go_ret
            refine ⟨false, rfl, ⟨fun h => by simp at h, fun h => ?_⟩, HB0.out⟩
            rcases h with ⟨h, _⟩ | ⟨h, _⟩ | ⟨_, _, h4, h5, _⟩
            · omega
            · omega
            · have := HQ.out.2 ⟨h4, h5⟩; simp at this
          | true =>
            have HQ2 := HQ.out.1 (by simp)
            by_cases hm : m = 0
            · subst hm
              have HQ3 := Lib.hid HQ2; clear HQ2
              go_wp2
              go_ret
              exact ⟨true, rfl, ⟨fun _ => Or.inr (Or.inr ⟨rfl, rfl, HQ3.out.1, HQ3.out.2, rfl⟩), fun _ => rfl⟩, HB0.out⟩
            · have hm' : ((m : Int) == 0) = false := by rw [beq_eq_false_iff_ne]; omega
              clear HQ2
              go_wp2
              go_ret
              refine ⟨false, rfl, ⟨fun h => by simp at h, fun h => ?_⟩, HB0.out⟩
              rcases h with ⟨h, _⟩ | ⟨h, _⟩ | ⟨_, _, _, _, h⟩ <;> omega
        · obtain ⟨hb, hb'⟩ := some_byte s h0
          go_enter Tryz.func104, Tryz.ntmps104
          go_wp2
          go_ret
          refine ⟨false, rfl, ⟨fun h => by simp at h, fun h => ?_⟩, HB0.out⟩
          rcases h with ⟨h, _⟩ | ⟨h, _⟩ | ⟨_, h, _⟩ <;> omega
      · have h3' : (k == 3) = false := by rw [beq_eq_false_iff_ne]; exact h3
        go_enter Tryz.func104, Tryz.ntmps104
        go_wp2
        go_ret
        refine ⟨false, rfl, ⟨fun h => by simp at h, fun h => ?_⟩, HB0.out⟩
        rcases h with ⟨h, _⟩ | ⟨h, _⟩ | ⟨h, _⟩ <;> omega

/-! ### all nodes -/
/-- Every node of a term has one of the three forms. -/
def OkT : T → Prop
  | .node k n s xs => NodeOk k n s xs.length ∧ ∀ x ∈ xs, OkT x
theorem okT_node (k n : Int) (s : ByteArray) (xs : List T) : OkT (.node k n s xs) ↔ NodeOk k n s xs.length ∧ ∀ x ∈ xs, OkT x := by rw [OkT]

def AllAt (lo h : Nat) : Prop := ∀ (v : Value) (t : T) (w : World), TermAt w lo h v t → wT t ≤ 1048576 →
  Calls Tryz.prog 79 #[v] w (TellsT (OkT t) w)

set_option maxRecDepth 100000 in
set_option maxHeartbeats 1600000 in
theorem sAll_step (lo h : Nat) (IH : ∀ h', h = h' + 1 → AllAt lo h') : AllAt lo h := by
  intro v t w ht hw
  obtain ⟨kk, nn, s, u, xs, rfl, rfl, hs, ha⟩ := ht
  obtain ⟨a, cap, rfl⟩ := ha.slice
  have HA := Lib.hid (ha.below (boxed_below w kk nn s (.slice a xs.length cap))); clear ha
  have HW : Hid (xs.length + wS xs ≤ 1048576) := Lib.hid (by rw [wT_node] at hw; omega)
  have HSZ := Lib.hid hs
  have HOK := Lib.hid (okT_node kk nn s xs)
  clear hw hs
  have hnode : ∀ w', Calls Tryz.prog 104 #[tv kk nn s (.slice a xs.length cap)] w' (TellsT (NodeOk kk nn s xs.length) w') := fun w' => sNode_any kk nn s a xs.length cap w' HSZ.out
  have HND := Lib.hid hnode; clear hnode
  obtain ⟨m, hm⟩ : ∃ m, m = xs.length := ⟨_, rfl⟩
  have hml : m ≤ 1048576 := by have := HW.out; omega
  rw [← hm] at HA HND HOK ⊢
  have HM := Lib.hid hm; clear hm
  have HIH := Lib.hid IH; clear IH
  have HB0 := Lib.hid (boxed_below w kk nn s (.slice a m cap))
  go_enter Tryz.func79, Tryz.ntmps79
  go_wp2
  go_loopw [3] (fun i wr => ∃ k : Nat, k ≤ m ∧ i = .int .i64 k ∧ Hid (∀ j x, j < k → xs[j]? = some x → OkT x) ∧ Hid (Below (boxed w kk nn s (.slice a m cap)).heap.size (boxed w kk nn s (.slice a m cap)) wr)) (fun i _ => m - (intOf i).toNat)
  case atStart => exact ⟨0, Nat.zero_le _, rfl, Lib.hid (fun j x hj => by omega), Lib.hid (Below.refl _ _)⟩
  case round =>
    obtain ⟨k, hk, rfl, HF, HB⟩ := hrel
    obtain ⟨cb0, cb1, cb2, cb⟩ := boxed_cells HB.out
    by_cases hlt : k < m
    · obtain ⟨t, ht⟩ : ∃ t, xs[k]? = some t := ⟨_, List.getElem?_eq_getElem (by have := HM.out; omega)⟩
      obtain ⟨h', b, o, tk', tn, tsn, txs, u', e, rfl, rfl, hsz, c0, c1, c2, c3, har⟩ := HA.out.at ht
      have d0 := cell_on HB.out c0
      have d1 := cell_on HB.out c1
      have d2 := cell_on HB.out c2
      have d3 := cell_on HB.out c3
      clear c0 c1 c2 c3
      have hwt := wT_at xs k _ ht
      have HCALL := Lib.hid (HIH.out h' e _ _ wr ⟨tk', tn, tsn, u', txs, rfl, rfl, hsz, har.below HB.out⟩ (by have := HW.out; omega))
      have HT := Lib.hid ht
      clear hwt ht har hsz e
      go_wp2_with fail
      refine HCALL.out.mono ?_
      rintro e w1 ⟨b1, rfl, hq, hb1⟩
      have HB2 := Lib.hid (HB.out.trans (hb1.mono HB.out.size)); clear hb1
      have HQ := Lib.hid hq; clear hq
      cases b1 with
      | true =>
        go_wp2
        go_roundw
        case rel =>
          refine ⟨k + 1, by omega, by go_num, Lib.hid fun j x hj hx => ?_, HB2⟩
          by_cases hjk : j = k
          · subst hjk
            rw [HT.out] at hx; cases hx
            exact HQ.out.1 (by simp)
          · exact HF.out j x (by omega) hx
        case measure => simp [intOf]; omega
      | false =>
        go_wp2
        go_ret
        refine ⟨false, rfl, ⟨fun h => by simp at h, fun h => ?_⟩, HB0.out.trans (HB2.out.mono HB0.out.size)⟩
        have := HQ.out.2 ((HOK.out.1 h).2 _ (List.mem_of_getElem? HT.out))
        simp at this
    · have HD : Hid (∀ x ∈ xs, OkT x) := Lib.hid (fun x hx => by
        obtain ⟨j, hj⟩ := List.mem_iff_getElem?.1 hx
        exact HF.out j x (by have := (List.getElem?_eq_some_iff.1 hj).1; have := HM.out; omega) hj)
      go_wp2_with fail
      refine (HND.out wr).mono ?_
      rintro e w1 ⟨b1, rfl, hq, hb1⟩
      have HB2 := Lib.hid (HB.out.trans (hb1.mono HB.out.size)); clear hb1
      have HQ := Lib.hid hq; clear hq
      go_wp2
      go_ret
      refine ⟨b1, rfl, ?_, HB0.out.trans (HB2.out.mono HB0.out.size)⟩
      rw [HQ.out, HOK.out]
      exact ⟨fun h => ⟨h, HD.out⟩, fun h => h.1⟩

theorem sAll_any (lo : Nat) (h : Nat) : AllAt lo h := by_height (sAll_step lo) h

/-! ### no more than so many nodes -/
def LeftAt (lo h : Nat) : Prop := ∀ (v : Value) (t : T) (left : Nat) (w : World), TermAt w lo h v t → wT t ≤ 1048576 → left ≤ 60 →
  Calls Tryz.prog 77 #[v, .int .i64 left] w (NumB (max ((left : Int) - cT t) (-1)) w)

set_option maxRecDepth 100000 in
set_option maxHeartbeats 1600000 in
theorem sLeft_step (lo h : Nat) (IH : ∀ h', h = h' + 1 → LeftAt lo h') : LeftAt lo h := by
  intro v t left w ht hw hleft
  obtain ⟨kk, nn, s, u, xs, rfl, rfl, hs, ha⟩ := ht
  obtain ⟨a, cap, rfl⟩ := ha.slice
  have HA := Lib.hid (ha.below (boxed_below w kk nn s (.slice a xs.length cap))); clear ha
  have HW : Hid (xs.length + wS xs ≤ 1048576) := Lib.hid (by rw [wT_node] at hw; omega)
  have HCN := Lib.hid (cT_node kk nn s xs)
  clear hw hs
  obtain ⟨m, hm⟩ : ∃ m, m = xs.length := ⟨_, rfl⟩
  have hml : m ≤ 1048576 := by have := HW.out; omega
  rw [← hm] at HA ⊢
  have HM := Lib.hid hm; clear hm
  have HIH := Lib.hid IH; clear IH
  have HB0 := Lib.hid (boxed_below w kk nn s (.slice a m cap))
  go_enter Tryz.func77, Tryz.ntmps77
  go_wp2
  go_loopw [1, 5] (fun c i wr => ∃ (k : Nat) (x : Int), k ≤ m ∧ i = .int .i64 k ∧ c = .int .i64 x ∧ -1 ≤ x ∧ x ≤ 60 ∧ Hid (x = max ((left : Int) - 1 - cS (xs.take k)) (-1)) ∧ Hid (Below (boxed w kk nn s (.slice a m cap)).heap.size (boxed w kk nn s (.slice a m cap)) wr)) (fun _ i _ => m - (intOf i).toNat)
  case atStart => exact ⟨0, (left : Int) - 1, Nat.zero_le _, rfl, rfl, by omega, by omega, Lib.hid (by simp [cS]; omega), Lib.hid (Below.refl _ _)⟩
  case round =>
    obtain ⟨k, x, hk, rfl, rfl, hx0, hx1, HX, HB⟩ := hrel
    obtain ⟨_, _, _, cb⟩ := boxed_cells HB.out
    by_cases hlt : k < m
    · by_cases hneg : x < 0
      · have HD : Hid (x = max ((left : Int) - cT (.node kk nn s xs)) (-1)) := Lib.hid (by
          have h1 := HX.out
          have h2 := cS_take xs k
          rw [HCN.out]
          omega)
        go_wp2
        go_ret
        exact ⟨by rw [← HD.out]; rfl, HB0.out.trans (HB.out.mono HB0.out.size)⟩
      · have hpos : 0 ≤ x := by omega
        obtain ⟨t, ht⟩ : ∃ t, xs[k]? = some t := ⟨_, List.getElem?_eq_getElem (by have := HM.out; omega)⟩
        obtain ⟨h', b, o, tk', tn, tsn, txs, u', e, rfl, rfl, hsz, c0, c1, c2, c3, har⟩ := HA.out.at ht
        have d0 := cell_on HB.out c0
        have d1 := cell_on HB.out c1
        have d2 := cell_on HB.out c2
        have d3 := cell_on HB.out c3
        clear c0 c1 c2 c3
        have hwt := wT_at xs k _ ht
        have hcall := HIH.out h' e _ _ x.toNat wr ⟨tk', tn, tsn, u', txs, rfl, rfl, hsz, har.below HB.out⟩ (by have := HW.out; omega) (by omega)
        rw [show ((x.toNat : Nat) : Int) = x by omega] at hcall
        have HCALL := Lib.hid hcall
        obtain ⟨y, hy⟩ : ∃ y, y = max (x - (cT (.node tk' tn tsn txs) : Int)) (-1) := ⟨_, rfl⟩
        have HY : Hid (y = max ((left : Int) - 1 - cS (xs.take (k + 1))) (-1)) := Lib.hid (by
          have h1 := HX.out
          rw [tk xs k _ ht, cS_snoc]
          omega)
        have hy0 : -1 ≤ y ∧ y ≤ 60 := by omega
        obtain ⟨hy1, hy2⟩ := hy0
        rw [← hy] at HCALL
        clear hwt ht har hsz e hcall hy
        go_wp2_with fail
        refine HCALL.out.mono ?_
        rintro e w1 ⟨rfl, hb1⟩
        have HB2 := Lib.hid (HB.out.trans (hb1.mono HB.out.size)); clear hb1
        go_wp2
        go_roundw
        case rel => exact ⟨k + 1, y, by omega, by go_num, rfl, hy1, hy2, HY, HB2⟩
        case measure => simp [intOf]; omega
    · have HD : Hid (x = max ((left : Int) - cT (.node kk nn s xs)) (-1)) := Lib.hid (by
        have h1 := HX.out
        have hkn : k = xs.length := by have := HM.out; omega
        rw [hkn, List.take_length] at h1
        rw [HCN.out]
        omega)
      go_wp2
      go_ret
      exact ⟨by rw [← HD.out]; rfl, HB0.out.trans (HB.out.mono HB0.out.size)⟩

theorem sLeft_any (lo : Nat) (h : Nat) : LeftAt lo h := by_height (sLeft_step lo) h

/-- A valid term. -/
def ValidT (t : T) : Prop := cT t ≤ 60 ∧ dT t ≤ 16 ∧ OkT t

set_option maxRecDepth 100000 in
set_option maxHeartbeats 800000 in
theorem sValid_any (v : Value) (t : T) (lo h : Nat) (w : World) (ht : TermAt w lo h v t) (hw : wT t ≤ 1048576) :
    Calls Tryz.prog 47 #[v] w (TellsT (ValidT t) w) := by
  have HW := Lib.hid hw; clear hw
  have HT := Lib.hid ht
  obtain ⟨kk, nn, s, u, xs, rfl, et, hs, ha⟩ := ht
  clear et hs ha xs
  have HB0 := Lib.hid (boxed_below w kk nn s u)
  go_enter Tryz.func47, Tryz.ntmps47
  go_wp2_with fail
  refine (sLeft_any lo h _ t 60 _ (HT.out.below HB0.out) HW.out (by decide)).mono ?_
  rintro e w1 ⟨rfl, hb1⟩
  have hc1 := boxed_cells hb1
  obtain ⟨c0, c1, c2, c3⟩ := hc1
  have HB1 := Lib.hid (HB0.out.trans (hb1.mono HB0.out.size))
  have HT1 := Lib.hid ((HT.out.below HB0.out).below hb1)
  have HBX := Lib.hid hb1; clear hb1
  obtain ⟨y, hy⟩ : ∃ y, y = max (((60 : Nat) : Int) - cT t) (-1) := ⟨_, rfl⟩
  rw [← hy]
  have HY := Lib.hid hy; clear hy
  by_cases hy0 : 0 ≤ y
  · have HC : Hid (cT t ≤ 60) := Lib.hid (by have := HY.out; omega)
    have hdl := dT_le t
    have hdc : dT t ≤ 60 := by have := HC.out; omega
    clear hdl
    obtain ⟨d, hd⟩ : ∃ d, d = dT t := ⟨_, rfl⟩
    have HDD := Lib.hid hd
    go_wp2_with fail
    refine (sDepth_any lo h _ t _ HT1.out HW.out).mono ?_
    rintro e w2 ⟨rfl, hb2⟩
    have e0 := cell_on hb2 c0
    have e1 := cell_on hb2 c1
    have e2 := cell_on hb2 c2
    have e3 := cell_on hb2 c3
    have HB2 := Lib.hid (HB1.out.trans (hb2.mono HB1.out.size))
    have HT2 := Lib.hid (HT1.out.below hb2); clear hb2 c0 c1 c2 c3
    rw [← hd]
    rw [← hd] at hdc
    clear hd
    by_cases hd16 : d ≤ 16
    · go_wp2_with fail
      refine (sAll_any lo h _ t _ HT2.out HW.out).mono ?_
      rintro e w3 ⟨b3, rfl, hq, hb3⟩
      have HQ := Lib.hid hq; clear hq
      have HB3 := Lib.hid (HB2.out.trans (hb3.mono HB2.out.size)); clear hb3
      go_wp2
      go_ret
      refine ⟨b3, rfl, ?_, HB3.out⟩
      rw [HQ.out]
      exact ⟨fun h => ⟨HC.out, by rw [← HDD.out]; exact hd16, h⟩, fun h => h.2.2⟩
    · go_wp2
      go_ret
      refine ⟨false, rfl, ⟨fun h => by simp at h, fun h => ?_⟩, HB2.out⟩
      have := h.2.1
      rw [← HDD.out] at this
      omega
  · go_wp2
    go_ret
    refine ⟨false, rfl, ⟨fun h => by simp at h, fun h => ?_⟩, HB1.out⟩
    have := h.1
    have := HY.out
    omega
end Go.Proofs.YtidbokheeieifaaGreatDoor
namespace Go.Proofs.YtidbokheeieifaaGreatDoor
open Go

/-- The bytes of all strings together. -/
def total (ps : List ByteArray) : Nat := (ps.map (·.size)).sum
theorem total_snoc (ps : List ByteArray) (p : ByteArray) : total (ps ++ [p]) = total ps + p.size := by simp [total]
theorem take_next {α : Type} (l : List α) (k : Nat) (x : α) (h : l[k]? = some x) : l.take (k + 1) = l.take k ++ [x] := by
  rw [List.take_add_one, h]; rfl
theorem total_take_le (ps : List ByteArray) (k : Nat) : total (ps.take k) ≤ total ps := by
  have h : total ps = total (ps.take k) + total (ps.drop k) := by
    unfold total
    rw [← List.sum_append, ← List.map_append, List.take_append_drop]
  omega

theorem join_length (sep : List UInt8) (ps : List ByteArray) : (Lib.join (ps.map (·.data.toList)) sep).length ≤ total ps + ps.length * sep.length := by
  cases ps with
  | nil => simp [Lib.join_nil]
  | cons p r =>
    rw [List.map_cons, Lib.join_cons]
    have h : ∀ r : List ByteArray, (Lib.joinTail sep (r.map (·.data.toList))).length = total r + r.length * sep.length := by
      intro r
      induction r with
      | nil => simp [Lib.joinTail, total]
      | cons q r ih =>
        have e : Lib.joinTail sep ((q :: r).map (·.data.toList)) = sep ++ q.data.toList ++ Lib.joinTail sep (r.map (·.data.toList)) := by simp [Lib.joinTail]
        have e2 : total (q :: r) = q.size + total r := by simp [total]
        have e3 : q.data.toList.length = q.size := by simp
        rw [e, List.length_append, List.length_append, ih, e2, e3, List.length_cons, Nat.add_mul]
        omega
    have e2 : total (p :: r) = p.size + total r := by simp [total]
    have e3 : p.data.toList.length = p.size := by simp
    rw [List.length_append, h r, e2, e3, List.length_cons, Nat.add_mul]
    omega

end Go.Proofs.YtidbokheeieifaaGreatDoor
namespace Go.Proofs.YtidbokheeieifaaGreatDoor
open Go.RowKit

theorem join_snoc5 (sep : List UInt8) (l : List (List UInt8)) (x : List UInt8) (h : l ≠ []) : Lib.join (l ++ [x]) sep = Lib.join l sep ++ sep ++ x := by
  cases l with
  | nil => exact absurd rfl h
  | cons y r => rw [List.cons_append, Lib.join_cons, Lib.join_cons]; simp [Lib.joinTail]

/-- The representation of a term. -/
def textL : T → List UInt8
  | .node k n s xs => if k = 3 then Lib.itoa n else if xs.length = 0 then s.data.toList else s.data.toList ++ [40] ++ Lib.join (xs.map textL) [44, 32] ++ [41]
theorem textL_node (k n : Int) (s : ByteArray) (xs : List T) : textL (.node k n s xs) = if k = 3 then Lib.itoa n else if xs.length = 0 then s.data.toList else s.data.toList ++ [40] ++ Lib.join (xs.map textL) [44, 32] ++ [41] := by rw [textL]
/-- The same as a string. -/
def strT (t : T) : ByteArray := ⟨(textL t).toArray⟩
theorem strT_list (t : T) : (strT t).data.toList = textL t := by simp [strT]
theorem strT_size (t : T) : (strT t).size = (textL t).length := by simp [strT, ByteArray.size]
theorem map_strT (xs : List T) : (xs.map strT).map (·.data.toList) = xs.map textL := by
  rw [List.map_map]; exact List.map_congr_left fun t _ => strT_list t

theorem itoa_word {n : Int} (h0 : 0 ≤ n) (h1 : n ≤ 3) : Lib.itoa n = [UInt8.ofNat (48 + n.toNat)] := by
  obtain ⟨u, rfl⟩ : ∃ u : Nat, n = u := ⟨n.toNat, by omega⟩
  rw [Lib.itoa_nonneg, Lib.decDigits]
  have hu : u < 10 := by omega
  simp [hu]
theorem word_len {n : Int} (h0 : 0 ≤ n) (h1 : n ≤ 3) : (Lib.itoa n).length = 1 := by rw [itoa_word h0 h1]; rfl

theorem okT_kid {k n : Int} {s : ByteArray} {xs : List T} (h : OkT (.node k n s xs)) : NodeOk k n s xs.length ∧ ∀ x ∈ xs, OkT x := (okT_node k n s xs).1 h

theorem total_strT (xs : List T) (h : ∀ x ∈ xs, (textL x).length + 2 ≤ 12 * cT x) : total (xs.map strT) + 2 * xs.length ≤ 12 * cS xs := by
  induction xs with
  | nil => simp [total, cS]
  | cons x r ih =>
    have h1 := h x (by simp)
    have h2 := ih (fun y hy => h y (by simp [hy]))
    have h3 := strT_size x
    simp only [total, cS, List.map_cons, List.sum_cons, List.length_cons] at *
    omega
theorem textL_le : ∀ t : T, OkT t → (textL t).length + 2 ≤ 12 * cT t
  | .node k n s xs, hok => by
    obtain ⟨hn, hx⟩ := okT_kid hok
    have ih : ∀ x ∈ xs, (textL x).length + 2 ≤ 12 * cT x := fun x hm => textL_le x (hx x hm)
    have ht := total_strT xs ih
    have hj := join_length [44, 32] (xs.map strT)
    rw [map_strT] at hj
    rw [textL_node, cT_node]
    have hs : s.data.toList.length = s.size := by simp
    split
    · rename_i h3
      rcases hn with ⟨h, _⟩ | ⟨h, _⟩ | ⟨_, _, h0, h1, _⟩
      · omega
      · omega
      · have := word_len h0 h1; omega
    · have h8 : s.size ≤ 8 := by
        rcases hn with ⟨_, h, _⟩ | ⟨_, h, _⟩ | ⟨h, _⟩
        · exact h.2.1
        · exact h.2.1
        · omega
      split
      · omega
      · simp only [List.length_append, List.length_cons, List.length_nil, List.length_map] at *
        omega
end Go.Proofs.YtidbokheeieifaaGreatDoor
namespace Go.Proofs.YtidbokheeieifaaGreatDoor
open Go

/-- The digits of u, none for 0. -/
def decPos (u : Nat) : List UInt8 :=
  if _h : u = 0 then [] else decPos (u / 10) ++ [UInt8.ofNat (48 + u % 10)]
termination_by u
decreasing_by omega

theorem decPos_zero : decPos 0 = [] := by rw [decPos, dif_pos rfl]
theorem decPos_pos {u : Nat} (h : u ≠ 0) : decPos u = decPos (u / 10) ++ [UInt8.ofNat (48 + u % 10)] := by
  rw [decPos, dif_neg h]
theorem decPos_eq (u : Nat) (h : u ≠ 0) : decPos u = Lib.decDigits u := by
  induction u using Nat.strongRecOn with
  | _ u ih =>
    rw [decPos_pos h]
    by_cases hs : u < 10
    · rw [Lib.decDigits_one hs, show u / 10 = 0 by omega, decPos_zero, show u % 10 = u by omega]; rfl
    · rw [Lib.decDigits, dif_neg hs, ih (u / 10) (by omega) (by omega)]

/-- One round: the last digit of the rest goes ahead of what has been written. -/
theorem decPos_step {u : Nat} (h : u ≠ 0) (out : List UInt8) : decPos (u / 10) ++ (UInt8.ofNat (48 + u % 10) :: out) = decPos u ++ out := by
  rw [decPos_pos h, List.append_assoc]; rfl

theorem decPos_length_le (u : Nat) (h : u < 10 ^ 20) : (decPos u).length ≤ 20 := by
  by_cases h0 : u = 0
  · rw [h0, decPos_zero]; simp
  · rw [decPos_eq u h0, Lib.decDigits_length]
    have h1 := Lib.nDigits_pos u
    rcases Nat.lt_or_ge 20 (Lib.nDigits u) with hlt | hge
    · exfalso
      obtain ⟨k, hk⟩ : ∃ k, Lib.nDigits u = k + 1 := ⟨Lib.nDigits u - 1, by omega⟩
      have hle : ∀ (k u : Nat), Lib.nDigits u = k + 1 → 1 ≤ k → 10 ^ k ≤ u := by
        intro k
        induction k with
        | zero => intro u _ h; omega
        | succ k ih =>
          intro u hu _
          have hb : ¬ u < 10 := by
            intro hlt; rw [Lib.nDigits_small hlt] at hu; omega
          rw [Lib.nDigits_big hb] at hu
          by_cases hk0 : k = 0
          · subst hk0; omega
          · have := ih (u / 10) (by omega) (by omega)
            rw [Nat.pow_succ]; omega
      have h2 := hle k u hk (by omega)
      have h3 : 10 ^ 20 ≤ 10 ^ k := Nat.pow_le_pow_right (by omega) (by omega)
      omega
    · omega

theorem itoa_pos {n : Int} (h : 0 < n) : Lib.itoa n = decPos n.toNat := by
  unfold Lib.itoa; rw [if_neg (by omega), decPos_eq _ (by omega)]
theorem itoa_neg' {n : Int} (h : n < 0) : Lib.itoa n = 45 :: decPos n.natAbs := by
  unfold Lib.itoa; rw [if_pos h, decPos_eq _ (by omega)]
theorem itoa_zero : Lib.itoa 0 = [48] := by
  unfold Lib.itoa; rw [if_neg (by omega)]; exact Lib.decDigits_one (by decide)
end Go.Proofs.YtidbokheeieifaaGreatDoor
namespace Go.Proofs.YtidbokheeieifaaGreatDoor
open Go.RowKit

theorem ret_str {a b : List UInt8} (h : a = b) : Ending.returned (.string ⟨a.toArray⟩) = .returned (.string ⟨b.toArray⟩) := by rw [h]

/-- 'string([]byte{c})'. -/
theorem conv_one (W : World) (k : Nat) (c : Int) (hk : k < 256) (hc : c = (k : Int)) :
    (convert 22 9 (.slice (some ⟨W.heap.size, 0, none⟩) 1 1)).run Tryz.prog (W.alloc (.cells #[.int .u8 c] 5)) = .ok (.string ⟨#[UInt8.ofNat k]⟩) (W.alloc (.cells #[.int .u8 c] 5)) := by
  have h := run_convert_bytes_back (P := Tryz.prog) (W.alloc (.cells #[.int .u8 c] 5)) 22 9 5 ⟨W.heap.size, 0, none⟩ 1 [UInt8.ofNat k] Tryz.underlying22 Tryz.underlying5 Tryz.underlying9 (fun j hj => by
    have hj0 : j = 0 := by simpa using hj
    subst hj0
    have := World.cell?_alloc_mark W #[.int .u8 c] 5 (0, 0) 0
    show (W.alloc (.cells #[.int .u8 c] 5)).cell? ⟨W.heap.size, 0, none⟩ = _
    rw [this, hc]
    simp
    omega)
  exact h

theorem cons_str (x : UInt8) (out : List UInt8) : (⟨#[x]⟩ : ByteArray) ++ ⟨out.toArray⟩ = ⟨(x :: out).toArray⟩ := by
  apply ByteArray.ext
  simp [ByteArray.data_append]
theorem digit_val (k : Nat) : (48 : UInt8) + UInt8.ofNat k = UInt8.ofNat (48 + k) := by
  rw [UInt8.ofNat_add]; rfl
end Go.Proofs.YtidbokheeieifaaGreatDoor
