/-
  What a call owns stays owned while other memory is made or written: small facts on worlds. No walk.
  Terms as trees; a term that lies in memory; how much it holds. No walk.
  The rows of a term that are a call's own and lie apart: what keeps them. No walk.
-/
import Derived.Test.YtcmhiindjponcaaDoorRows
import Derived.WalkKit
import Derived.WalkSpells
import Derived.BigQuiet
import Derived.Deep.QuietTactic
import Derived.Lib.Hide
namespace Go.Proofs.YtcmhiindjponcaaDoor
open Go.RowKit

theorem Below.toGrown {w w' : World} (h : Below w.heap.size w w') (row : Option Nat) : w.grownBy w' row := ⟨h.os, h.tape, h.output, h.size, fun k hk _ => h.block k hk⟩
theorem grown_trans {a b c : World} {row : Option Nat} (h : a.grownBy b row) (k : b.grownBy c row) : a.grownBy c row :=
  ⟨k.os.trans h.os, k.tape.trans h.tape, k.output.trans h.output, Nat.le_trans h.size k.size, fun i hi hr => (k.block i (Nat.lt_of_lt_of_le hi h.size) hr).trans (h.block i hi hr)⟩
theorem grown_refl (a : World) (row : Option Nat) : a.grownBy a row := ⟨rfl, rfl, rfl, Nat.le_refl _, fun _ _ _ => rfl⟩

def TrueEnd (w : World) (e : Ending) (w' : World) : Prop := e = .returned (.bool true) ∧ Below w.heap.size w w'

theorem keep_own {w w' : World} {B n size : Nat} {e : TypeId} {v : Value} {xs : List Value} (h : w.ownsRow B e size v n xs) (hb : Below w.heap.size w w') : w'.ownsRow B e size v n xs :=
  h.kept (Below.toGrown hb none) (by rcases h.2 with ⟨rfl, _⟩ | ⟨g, cap, cur, rfl, _⟩ <;> simp [Value.ownBlock])
theorem keep_other {w w' : World} {A B n m size : Nat} {e f : TypeId} {v u : Value} {xs ys : List Value} (h : w.ownsRow A e size v n xs) (hA : ∀ k, v.ownBlock = some k → k < B) (hu : w.ownsRow B f size u m ys) (hg : w.grownBy w' u.ownBlock) : w'.ownsRow A e size v n xs :=
  h.kept hg (by
    cases hv : v.ownBlock with
    | none => exact Or.inl rfl
    | some k =>
      refine Or.inr fun e2 => ?_
      have h1 := hA k hv
      have h2 := (hu.lt k e2.symm).1
      omega)
theorem keep_above {w w' : World} {A n size : Nat} {e : TypeId} {v u : Value} {xs : List Value} (h : w.ownsRow A e size v n xs) (hA : ∀ k, u.ownBlock = some k → k < A) (hg : w.grownBy w' u.ownBlock) : w'.ownsRow A e size v n xs :=
  h.kept hg (by
    cases hv : v.ownBlock with
    | none => exact Or.inl rfl
    | some k =>
      refine Or.inr fun e2 => ?_
      have h1 := hA k e2.symm
      have h2 := (h.lt k hv).1
      omega)

theorem own_low {w : World} {B B' n size : Nat} {e : TypeId} {v : Value} {xs : List Value} (h : w.ownsRow B e size v n xs) (hb : B' ≤ B) : w.ownsRow B' e size v n xs := by
  refine ⟨h.1, ?_⟩
  rcases h.2 with hn | ⟨g, cap, cur, hv, hg, rest⟩
  · exact Or.inl hn
  · exact Or.inr ⟨g, cap, cur, hv, Nat.le_trans hb hg, rest⟩
theorem set_grown (w : World) (B j : Nat) (v : Value) : w.grownBy (w.setCell ⟨B, j, none⟩ v) (some B) :=
  ⟨rfl, rfl, rfl, by simp [World.setCell], fun k _ hk => Below.heap_setCell _ _ _ _ (fun e => hk (by rw [e]))⟩
theorem below_q (w : World) (q : Nat) : Below w.heap.size w (w.drewN q) := ⟨rfl, rfl, rfl, Nat.le_refl _, fun _ _ => rfl⟩

end Go.Proofs.YtcmhiindjponcaaDoor
namespace Go.Proofs.YtcmhiindjponcaaDoor
open Go.RowKit

/-- A term: its kind, its number, its name, its arguments. -/
inductive T where
  | node (k n : Int) (s : ByteArray) (xs : List T) : T

/-- The value of a struct of a term. -/
abbrev tv (k n : Int) (s : ByteArray) (u : Value) : Value := .agg #[.int .i64 k, .int .i64 n, .string s, u]

/-- The slice value u holds the terms ts, of a depth of at most h, in blocks from lo on. -/
def ArgsAt (w : World) (lo : Nat) : Nat → Value → List T → Prop
  | 0, u, ts => ts = [] ∧ ∃ a cap, u = .slice a 0 cap
  | h + 1, u, ts => ∃ a cap, u = .slice a ts.length cap ∧ ts.length ≤ maxLen ∧ (ts = [] ∨ ∃ b o, a = some ⟨b, o, none⟩ ∧ lo ≤ b ∧ ∀ i k n s xs, ts[i]? = some (T.node k n s xs) → s.size ≤ maxLen ∧ ∃ u', w.cell? ⟨b, o + i * 4, none⟩ = some (.int .i64 k) ∧
      w.cell? ⟨b, o + i * 4 + 1, none⟩ = some (.int .i64 n) ∧ w.cell? ⟨b, o + i * 4 + 2, none⟩ = some (.string s) ∧ w.cell? ⟨b, o + i * 4 + 3, none⟩ = some u' ∧ ArgsAt w lo h u' xs)

/-- The value v is the term t, of a depth of at most h below it. -/
def TermAt (w : World) (lo h : Nat) (v : Value) (t : T) : Prop := ∃ k n s u xs, v = tv k n s u ∧ t = .node k n s xs ∧ s.size ≤ maxLen ∧ ArgsAt w lo h u xs

/-- What the cells of a row of terms hold. -/
def RowAt (w : World) (lo h b o : Nat) (ts : List T) : Prop :=
  ∀ i k n s xs, ts[i]? = some (T.node k n s xs) → s.size ≤ maxLen ∧ ∃ u', w.cell? ⟨b, o + i * 4, none⟩ = some (.int .i64 k) ∧
    w.cell? ⟨b, o + i * 4 + 1, none⟩ = some (.int .i64 n) ∧ w.cell? ⟨b, o + i * 4 + 2, none⟩ = some (.string s) ∧ w.cell? ⟨b, o + i * 4 + 3, none⟩ = some u' ∧ ArgsAt w lo h u' xs

theorem TermAt.form {w : World} {lo h : Nat} {v : Value} {t : T} (ht : TermAt w lo h v t) : ∃ k n s u, v = tv k n s u := by
  obtain ⟨k, n, s, u, _, e, _⟩ := ht
  exact ⟨k, n, s, u, e⟩

theorem ArgsAt.nil (w : World) (lo h : Nat) (a : Option Addr) (cap : Nat) : ArgsAt w lo h (.slice a 0 cap) [] := by
  cases h with
  | zero => exact ⟨rfl, a, cap, rfl⟩
  | succ h => exact ⟨a, cap, rfl, Nat.zero_le _, Or.inl rfl⟩

theorem ArgsAt.keep {w w' : World} {lo : Nat} (hk : ∀ (ad : Addr) v, lo ≤ ad.block → w.cell? ad = some v → w'.cell? ad = some v) : ∀ {h : Nat} {u : Value} {ts : List T}, ArgsAt w lo h u ts → ArgsAt w' lo h u ts
  | 0, _, _, k => k
  | h + 1, _, _, ⟨a, cap, e, hl, hc⟩ => by
    refine ⟨a, cap, e, hl, ?_⟩
    rcases hc with hc | ⟨b, o, rfl, hlo, hc⟩
    · exact Or.inl hc
    · refine Or.inr ⟨b, o, rfl, hlo, fun i k n s xs hi => ?_⟩
      obtain ⟨hs, u', c0, c1, c2, c3, hr⟩ := hc i k n s xs hi
      exact ⟨hs, u', hk _ _ hlo c0, hk _ _ hlo c1, hk _ _ hlo c2, hk _ _ hlo c3, hr.keep hk⟩
theorem ArgsAt.below {w w' : World} {lo h : Nat} {u : Value} {ts : List T} (k : ArgsAt w lo h u ts) (hb : Below w.heap.size w w') : ArgsAt w' lo h u ts :=
  k.keep fun ad v _ hv => by rw [hb.cell (World.block_lt_of_cell? w _ hv)]; exact hv
theorem ArgsAt.grown {w w' : World} {lo h : Nat} {u : Value} {ts : List T} {row : Option Nat} (k : ArgsAt w lo h u ts) (hg : w.grownBy w' row) (hr : ∀ j, row = some j → j < lo) : ArgsAt w' lo h u ts :=
  k.keep fun ad v hlo hv => hg.cell hv (fun e => by have := hr ad.block e.symm; omega)
theorem ArgsAt.low {w : World} {lo lo' : Nat} (hlo : lo' ≤ lo) : ∀ {h : Nat} {u : Value} {ts : List T}, ArgsAt w lo h u ts → ArgsAt w lo' h u ts
  | 0, _, _, k => k
  | h + 1, _, _, ⟨a, cap, e, hl, hc⟩ => by
    refine ⟨a, cap, e, hl, ?_⟩
    rcases hc with hc | ⟨b, o, rfl, hb, hc⟩
    · exact Or.inl hc
    · refine Or.inr ⟨b, o, rfl, Nat.le_trans hlo hb, fun i k n s xs hi => ?_⟩
      obtain ⟨hs, u', c0, c1, c2, c3, hr⟩ := hc i k n s xs hi
      exact ⟨hs, u', c0, c1, c2, c3, hr.low hlo⟩
theorem TermAt.below {w w' : World} {lo h : Nat} {v : Value} {t : T} (ht : TermAt w lo h v t) (hb : Below w.heap.size w w') : TermAt w' lo h v t := by
  obtain ⟨k, n, s, u, xs, e1, e2, hs, ha⟩ := ht
  exact ⟨k, n, s, u, xs, e1, e2, hs, ha.below hb⟩
theorem TermAt.low {w : World} {lo lo' h : Nat} {v : Value} {t : T} (ht : TermAt w lo h v t) (hlo : lo' ≤ lo) : TermAt w lo' h v t := by
  obtain ⟨k, n, s, u, xs, e1, e2, hs, ha⟩ := ht
  exact ⟨k, n, s, u, xs, e1, e2, hs, ha.low hlo⟩
theorem ArgsAt.more {w : World} {lo : Nat} : ∀ {h : Nat} {u : Value} {ts : List T}, ArgsAt w lo h u ts → ArgsAt w lo (h + 1) u ts
  | 0, _, _, ⟨e, a, cap, e2⟩ => by subst e; exact ⟨a, cap, e2, Nat.zero_le _, Or.inl rfl⟩
  | h + 1, _, _, ⟨a, cap, e, hl, hc⟩ => by
    refine ⟨a, cap, e, hl, ?_⟩
    rcases hc with hc | ⟨b, o, rfl, hb, hc⟩
    · exact Or.inl hc
    · refine Or.inr ⟨b, o, rfl, hb, fun i k n s xs hi => ?_⟩
      obtain ⟨hs, u', c0, c1, c2, c3, hr⟩ := hc i k n s xs hi
      exact ⟨hs, u', c0, c1, c2, c3, hr.more⟩
theorem ArgsAt.le {w : World} {lo h h' : Nat} {u : Value} {ts : List T} (k : ArgsAt w lo h u ts) (hle : h ≤ h') : ArgsAt w lo h' u ts := by
  induction hle with
  | refl => exact k
  | step _ ih => exact ih.more
/-- What a loop over the arguments sees: empty, or a row. -/
theorem ArgsAt.cases {w : World} {lo h : Nat} {u : Value} {ts : List T} (k : ArgsAt w lo h u ts) :
    (ts = [] ∧ ∃ a cap, u = .slice a 0 cap) ∨ ∃ h' b o cap, h = h' + 1 ∧ u = .slice (some ⟨b, o, none⟩) ts.length cap ∧ ts.length ≤ maxLen ∧ lo ≤ b ∧ RowAt w lo h' b o ts := by
  cases h with
  | zero => exact Or.inl k
  | succ h =>
    obtain ⟨a, cap, e, hl, hc⟩ := k
    rcases hc with rfl | ⟨b, o, rfl, hb, hc⟩
    · exact Or.inl ⟨rfl, a, cap, e⟩
    · exact Or.inr ⟨h, b, o, cap, rfl, e, hl, hb, hc⟩

theorem ArgsAt.slice {w : World} {lo h : Nat} {u : Value} {ts : List T} (k : ArgsAt w lo h u ts) : ∃ a cap, u = .slice a ts.length cap := by
  cases h with
  | zero => obtain ⟨rfl, a, cap, rfl⟩ := k; exact ⟨a, cap, rfl⟩
  | succ h => obtain ⟨a, cap, e, _⟩ := k; exact ⟨a, cap, e⟩

theorem TermAt.shape {w : World} {lo h : Nat} {v : Value} {t : T} (ht : TermAt w lo h v t) : ∃ k n s a m cap, v = tv k n s (.slice a m cap) := by
  obtain ⟨k, n, s, u, xs, e, _, _, ha⟩ := ht
  obtain ⟨a, cap, rfl⟩ := ha.slice
  exact ⟨k, n, s, a, _, cap, e⟩

/-! ### how much a term holds -/
/-- The bytes of the names and the arguments below a term. -/
def wT : T → Nat
  | .node _ _ s xs => s.size + (xs.length + (xs.map wT).sum)
def wS (xs : List T) : Nat := (xs.map wT).sum
/-- How many terms there are in a term. -/
def cT : T → Nat
  | .node _ _ _ xs => 1 + (xs.map cT).sum
def cS (xs : List T) : Nat := (xs.map cT).sum
/-- How deep a term is. -/
def dT : T → Nat
  | .node _ _ _ xs => (xs.map dT).foldl max 0 + 1
def dS (xs : List T) : Nat := (xs.map dT).foldl max 0
theorem foldl_max (l : List Nat) (a b : Nat) (h : ∀ x ∈ l, x ≤ b) (ha : a ≤ b) : l.foldl max a ≤ b := by
  induction l generalizing a with
  | nil => exact ha
  | cons x l ih => exact ih (max a x) (fun y hy => h y (by simp [hy])) (by have := h x (by simp); omega)
theorem wS_snoc (l : List T) (t : T) : wS (l ++ [t]) = wS l + wT t := by simp [wS]
theorem cS_snoc (l : List T) (t : T) : cS (l ++ [t]) = cS l + cT t := by simp [cS]
theorem wT_node (k n : Int) (s : ByteArray) (xs : List T) : wT (.node k n s xs) = s.size + (xs.length + wS xs) := by rw [wT]; rfl
theorem cT_node (k n : Int) (s : ByteArray) (xs : List T) : cT (.node k n s xs) = 1 + cS xs := by rw [cT]; rfl
theorem cS_of (xs : List T) (h : ∀ x ∈ xs, cT x ≤ 1 + wT x) : cS xs ≤ xs.length + wS xs := by
  induction xs with
  | nil => simp [cS]
  | cons x r ih =>
    have h1 := h x (by simp)
    have h2 := ih (fun y hy => h y (by simp [hy]))
    simp only [cS, wS, List.map_cons, List.sum_cons, List.length_cons] at *
    omega
theorem cT_le : ∀ t : T, cT t ≤ 1 + wT t
  | .node k n s xs => by
    have h := cS_of xs (fun x _ => cT_le x)
    rw [cT_node, wT_node]
    omega
theorem cT_mem (xs : List T) : ∀ x ∈ xs, cT x ≤ cS xs := by
  induction xs with
  | nil => simp
  | cons y r ih =>
    intro x hx
    simp only [cS, List.map_cons, List.sum_cons]
    rcases List.mem_cons.1 hx with rfl | hx
    · omega
    · have := ih x hx; simp only [cS] at this; omega
theorem dT_le : ∀ t : T, dT t ≤ cT t
  | .node k n s xs => by
    have h : ∀ x ∈ xs, dT x ≤ cT x := fun x _ => dT_le x
    rw [dT, cT_node]
    have := foldl_max (xs.map dT) 0 (cS xs) (fun y hy => by
      obtain ⟨x, hx, rfl⟩ := List.mem_map.1 hy
      exact Nat.le_trans (h x hx) (cT_mem xs x hx)) (Nat.zero_le _)
    omega
theorem cS_le (xs : List T) : cS xs ≤ xs.length + wS xs := cS_of xs (fun x _ => cT_le x)
theorem tk {α : Type} (l : List α) (k : Nat) (x : α) (h : l[k]? = some x) : l.take (k + 1) = l.take k ++ [x] := by
  rw [List.take_add_one, h]; rfl
theorem wS_take (ts : List T) (k : Nat) : wS (ts.take k) ≤ wS ts := by
  have h : wS ts = wS (ts.take k) + wS (ts.drop k) := by
    unfold wS
    rw [← List.sum_append, ← List.map_append, List.take_append_drop]
  omega
theorem wT_at (ts : List T) (k : Nat) (t : T) (h : ts[k]? = some t) : wS (ts.take k) + wT t ≤ wS ts := by
  have h1 := wS_take ts (k + 1)
  rw [tk ts k t h, wS_snoc] at h1
  exact h1
end Go.Proofs.YtcmhiindjponcaaDoor
namespace Go.Proofs.YtcmhiindjponcaaDoor
open Go.RowKit

/-- The slice value u holds as many terms as ts; its rows, and those below, are owned, lie in blocks from lo to hi, and lie apart. -/
def OwnA (w : World) : Nat → Nat → Nat → Value → List T → Prop
  | 0, _, _, u, ts => ts = [] ∧ ∃ a cap, u = .slice a 0 cap
  | h + 1, lo, hi, u, ts => ∃ a cap, u = .slice a ts.length cap ∧ (ts = [] ∨ ∃ (g : Nat) (xs : List Value) (U : Nat → Value) (L R : Nat → Nat), a = some ⟨g, 0, none⟩ ∧ lo ≤ g ∧ g < hi ∧ w.ownsRow g 26 4 u ts.length xs ∧
      (∀ i k n s txs, ts[i]? = some (T.node k n s txs) → xs[i * 4 + 3]? = some (U i) ∧ lo ≤ L i ∧ R i ≤ hi ∧ (g < L i ∨ R i ≤ g) ∧ OwnA w h (L i) (R i) (U i) txs) ∧
      (∀ i j, i < j → j < ts.length → R i ≤ L j ∨ R j ≤ L i))

/-- Only blocks from lo to hi have turned, and new ones are there. -/
def Out (lo hi : Nat) (w w' : World) : Prop :=
  w'.os = w.os ∧ w'.tape = w.tape ∧ w'.output = w.output ∧ w.heap.size ≤ w'.heap.size ∧ ∀ b, b < w.heap.size → (b < lo ∨ hi ≤ b) → w'.heap[b]? = w.heap[b]?
theorem Out.refl (lo hi : Nat) (w : World) : Out lo hi w w := ⟨rfl, rfl, rfl, Nat.le_refl _, fun _ _ _ => rfl⟩
theorem Out.trans {lo hi : Nat} {a b c : World} (h : Out lo hi a b) (k : Out lo hi b c) : Out lo hi a c :=
  ⟨k.1.trans h.1, k.2.1.trans h.2.1, k.2.2.1.trans h.2.2.1, Nat.le_trans h.2.2.2.1 k.2.2.2.1, fun i hi ho => (k.2.2.2.2 i (Nat.lt_of_lt_of_le hi h.2.2.2.1) ho).trans (h.2.2.2.2 i hi ho)⟩
theorem Out.of_below {lo hi : Nat} {w w' : World} (h : Below w.heap.size w w') : Out lo hi w w' := ⟨h.os, h.tape, h.output, h.size, fun b hb _ => h.block b hb⟩
theorem Out.set {lo hi : Nat} (w : World) (g j : Nat) (v : Value) (h1 : lo ≤ g) (h2 : g < hi) : Out lo hi w (w.setCell ⟨g, j, none⟩ v) := by
  have h := set_grown w g j v
  exact ⟨h.os, h.tape, h.output, h.size, fun b hb ho => h.block b hb (fun e => by cases e; omega)⟩
theorem Out.wide {lo hi lo' hi' : Nat} {w w' : World} (h : Out lo hi w w') (h1 : lo' ≤ lo) (h2 : hi ≤ hi') : Out lo' hi' w w' :=
  ⟨h.1, h.2.1, h.2.2.1, h.2.2.2.1, fun b hb ho => h.2.2.2.2 b hb (by omega)⟩

theorem row_keep {w w' : World} {B g n cap size : Nat} {e : TypeId} {xs : List Value} (h : w.ownsRow B e size (.slice (some ⟨g, 0, none⟩) n cap) n xs) (hk : w'.heap[g]? = w.heap[g]?) : w'.ownsRow B e size (.slice (some ⟨g, 0, none⟩) n cap) n xs := by
  refine ⟨h.1, ?_⟩
  rcases h.2 with ⟨e1, _⟩ | ⟨g', cap', cur, e1, hb, hg, rest⟩
  · simp at e1
  · simp only [Value.slice.injEq, Option.some.injEq, Addr.mk.injEq] at e1
    obtain ⟨⟨rfl, _⟩, _, rfl⟩ := e1
    exact Or.inr ⟨g, cap, cur, rfl, hb, by rw [hk]; exact hg, rest⟩

theorem OwnA.keep {w w' : World} : ∀ {h lo hi : Nat} {u : Value} {ts : List T}, (∀ b, lo ≤ b → b < hi → w'.heap[b]? = w.heap[b]?) → OwnA w h lo hi u ts → OwnA w' h lo hi u ts
  | 0, _, _, _, _, _, k => k
  | h + 1, lo, hi, u, ts, hk, ⟨a, cap, e, hc⟩ => by
    refine ⟨a, cap, e, ?_⟩
    rcases hc with hc | ⟨g, xs, U, L, R, rfl, h1, h2, ho, hx, hd⟩
    · exact Or.inl hc
    · subst e
      refine Or.inr ⟨g, xs, U, L, R, rfl, h1, h2, row_keep ho (hk g h1 h2), fun i k n s txs hi => ?_, hd⟩
      obtain ⟨x3, l1, l2, l3, hr⟩ := hx i k n s txs hi
      exact ⟨x3, l1, l2, l3, hr.keep (fun b b1 b2 => hk b (by omega) (by omega))⟩
theorem OwnA.wide {w : World} : ∀ {h lo hi lo' hi' : Nat} {u : Value} {ts : List T}, lo' ≤ lo → hi ≤ hi' → OwnA w h lo hi u ts → OwnA w h lo' hi' u ts
  | 0, _, _, _, _, _, _, _, _, k => k
  | h + 1, lo, hi, lo', hi', u, ts, w1, w2, ⟨a, cap, e, hc⟩ => by
    refine ⟨a, cap, e, ?_⟩
    rcases hc with hc | ⟨g, xs, U, L, R, ea, h1, h2, ho, hx, hd⟩
    · exact Or.inl hc
    · refine Or.inr ⟨g, xs, U, L, R, ea, by omega, by omega, ho, fun i k n s txs hi => ?_, hd⟩
      obtain ⟨x3, l1, l2, l3, hr⟩ := hx i k n s txs hi
      exact ⟨x3, by omega, by omega, l3, hr⟩
theorem OwnA.slice {w : World} {h lo hi : Nat} {u : Value} {ts : List T} (k : OwnA w h lo hi u ts) : ∃ a cap, u = .slice a ts.length cap := by
  cases h with
  | zero => obtain ⟨rfl, a, cap, rfl⟩ := k; exact ⟨a, cap, rfl⟩
  | succ h => obtain ⟨a, cap, e, _⟩ := k; exact ⟨a, cap, e⟩
theorem OwnA.nil (w : World) (h lo hi : Nat) (a : Option Addr) (cap : Nat) : OwnA w h lo hi (.slice a 0 cap) [] := by
  cases h with
  | zero => exact ⟨rfl, a, cap, rfl⟩
  | succ h => exact ⟨a, cap, rfl, Or.inl rfl⟩
theorem OwnA.off {w : World} {h lo hi : Nat} {u : Value} {ts : List T} (k : OwnA w h lo hi u ts) {g : Nat} (hg : g < lo ∨ hi ≤ g) (j : Nat) (v : Value) : OwnA (w.setCell ⟨g, j, none⟩ v) h lo hi u ts :=
  k.keep fun b b1 b2 => Below.heap_setCell _ _ _ _ (fun e => by simp at e; omega)
end Go.Proofs.YtcmhiindjponcaaDoor
