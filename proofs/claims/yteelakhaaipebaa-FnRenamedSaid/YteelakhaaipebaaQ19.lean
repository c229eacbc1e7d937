/-
  A list of Binds in the making: each Bind's rows lie behind those of the ones before. No walk.
-/
import Derived.Test.YteelakhaaipebaaQ18
import Derived.Test.YteelakhaaipebaaQ7
namespace Go.Proofs.Yteelakhaaipebaa
open Go.RowKit

/-- The arguments xs in blocks from l to r; if own, their rows are a call's own. -/
def KArgs (own : Bool) (H l r : Nat) (u : Value) (xs : List T) (w : World) : Prop := ArgsAt w l H u xs ∧ (own = true → OwnA w H l r u xs)
theorem kargs_own {w : World} {H H1 l : Nat} {u : Value} {xs : List T} (ho : OwnR (fun _ => True) w H l w.heap.size u xs) (hH : H ≤ H1) : Kept l w.heap.size (KArgs true H1 l w.heap.size u xs) w :=
  ⟨Nat.le_refl _, fun _ hs => ⟨((ho.le hH).args (Nat.le_refl _)).same hs, fun _ => (ho.le hH).own.same hs⟩⟩
theorem kargs_read {w : World} {H H1 l : Nat} {u : Value} {xs : List T} (ha : ArgsAt w l H u xs) (hH : H ≤ H1) : Kept l w.heap.size (KArgs false H1 l w.heap.size u xs) w :=
  ⟨Nat.le_refl _, fun _ hs => ⟨(ha.le hH).same hs, fun e => by cases e⟩⟩

/-- The slice v holds the Binds bs; its row lies in blocks from lo on. -/
def GrowB (own : Bool) (H lo : Nat) (v : Value) (bs : List (ByteArray × T)) (w : World) : Prop :=
  ∃ (vs : List Value) (U : Nat → Value) (L R : Nat → Nat), w.ownsRow lo 86 5 v bs.length vs ∧
    (∀ i p k n s xs, bs[i]? = some (p, T.node k n s xs) → (p.size ≤ maxLen ∧ s.size ≤ maxLen) ∧ vs[i * 5]? = some (.string p) ∧ vs[i * 5 + 1]? = some (.int .i64 k) ∧ vs[i * 5 + 2]? = some (.int .i64 n) ∧ vs[i * 5 + 3]? = some (.string s) ∧ vs[i * 5 + 4]? = some (U i) ∧
      (lo ≤ L i ∧ L i ≤ R i) ∧ (∀ g, v.ownBlock = some g → g < L i ∨ R i ≤ g) ∧ Kept (L i) (R i) (KArgs own H (L i) (R i) (U i) xs) w) ∧
    (∀ i j, i < j → j < bs.length → R i ≤ L j)
theorem GrowB.nil (own : Bool) (H lo : Nat) (w : World) : GrowB own H lo (.slice none 0 0) [] w := ⟨[], fun _ => undef, fun _ => 0, fun _ => 0, World.ownsRow_nil _ _ _ _, fun i _ _ _ _ _ hi => by simp at hi, fun i j _ h => by simp at h⟩
theorem GrowB.lit (own : Bool) (H lo : Nat) (w : World) (h : lo ≤ w.heap.size) : GrowB own H lo (.slice (some ⟨w.heap.size, 0, none⟩) 0 0) [] (w.alloc (.cells #[] 86)) :=
  ⟨[], fun _ => undef, fun _ => 0, fun _ => 0, World.ownsRow_lit (base := lo) (size := 5) (e := 86) w #[] 0 h (by decide) rfl, fun i _ _ _ _ _ hi => by simp at hi, fun i j _ h => by simp at h⟩
theorem GrowB.below {own : Bool} {H lo : Nat} {v : Value} {bs : List (ByteArray × T)} {w w' : World} (g : GrowB own H lo v bs w) (hb : Below w.heap.size w w') : GrowB own H lo v bs w' := by
  obtain ⟨vs, U, L, R, ho, hx, hd⟩ := g
  refine ⟨vs, U, L, R, keep_own ho hb, fun i p k n s xs hi => ?_, hd⟩
  obtain ⟨h1, x0, x1, x2, x3, x4, h2, h3, hk⟩ := hx i p k n s xs hi
  exact ⟨h1, x0, x1, x2, x3, x4, h2, h3, hk.below hb⟩
theorem GrowB.slice {own : Bool} {H lo : Nat} {v : Value} {bs : List (ByteArray × T)} {w : World} (g : GrowB own H lo v bs w) : ∃ a c, v = .slice a bs.length c := by
  obtain ⟨vs, _, _, _, ho, _⟩ := g
  exact own_formK ho
/-- One Bind more. -/
theorem GrowB.snoc {own : Bool} {H lo m uc : Nat} {ua : Option Addr} {bs : List (ByteArray × T)} {wr w1 w3 : World} {p : ByteArray} {k n : Int} {s : ByteArray} {u : Value} {xs : List T} {g3 c3 : Nat} {ys : List Value}
    (g : GrowB own H lo (.slice ua m uc) bs wr) (hm : m = bs.length) (hlo : lo ≤ wr.heap.size) (hb : Below wr.heap.size wr w1) (hp : p.size ≤ maxLen) (hs : s.size ≤ maxLen) (hk : Kept wr.heap.size w1.heap.size (KArgs own H wr.heap.size w1.heap.size u xs) w1)
    (hys : ∀ zs, wr.ownsRow lo 86 5 (.slice ua m uc) m zs → zs = ys)
    (ho3 : w3.ownsRow lo 86 5 (.slice (some ⟨g3, 0, none⟩) (m + 1) c3) (m + 1) (ys ++ [.string p, .int .i64 k, .int .i64 n, .string s, u]))
    (hg3 : (w1.alloc (.cells #[.string p, .int .i64 k, .int .i64 n, .string s, u] 86)).grownBy w3 (Value.slice ua m uc).ownBlock) (ha3 : (Value.slice ua m uc).ownBlock = some g3 ∨ g3 = (w1.alloc (.cells #[.string p, .int .i64 k, .int .i64 n, .string s, u] 86)).heap.size) :
    GrowB own H lo (.slice (some ⟨g3, 0, none⟩) (m + 1) c3) (bs ++ [(p, .node k n s xs)]) w3 := by
  obtain ⟨vs, U, L, R, ho, hx, hd⟩ := g
  rw [← hm] at ho
  obtain rfl := hys vs ho
  have hvl : vs.length = m * 5 := ho.1
  have hvb := ho.lt
  have hz := hb.size
  have hza : (w1.alloc (.cells #[.string p, .int .i64 k, .int .i64 n, .string s, u] 86)).heap.size = w1.heap.size + 1 := by simp
  have hgz := hg3.size
  rw [hza] at hgz ha3
  have hal : Below w1.heap.size w1 (w1.alloc (.cells #[.string p, .int .i64 k, .int .i64 n, .string s, u] 86)) := (Below.refl _ _).alloc (Nat.le_refl _) _
  have hgb : ∀ q, (Value.slice (some ⟨g3, 0, none⟩) (m + 1) c3).ownBlock = some q → q = g3 := fun q e => by simpa [Value.ownBlock] using e.symm
  refine ⟨_, fun i => if i = m then u else U i, fun i => if i = m then wr.heap.size else L i, fun i => if i = m then w1.heap.size else R i, by rw [List.length_append, List.length_singleton, ← hm]; exact ho3, fun i p' k' n' s' xs' hi => ?_, fun i j h1 h2 => ?_⟩
  · rcases Nat.lt_trichotomy i m with hlt | hlt | hlt
    · rw [List.getElem?_append_left (by omega)] at hi
      obtain ⟨h1, x0, x1, x2, x3, x4, h2, h3, hkk⟩ := hx i p' k' n' s' xs' hi
      have e : i ≠ m := by omega
      simp only [if_neg e]
      have hRl := hkk.1
      refine ⟨h1, ?_, ?_, ?_, ?_, ?_, h2, fun q hq => ?_, ((hkk.below hb).below hal).grown hg3 (fun q hq => ?_)⟩
      · rw [List.getElem?_append_left (by omega)]; exact x0
      · rw [List.getElem?_append_left (by omega)]; exact x1
      · rw [List.getElem?_append_left (by omega)]; exact x2
      · rw [List.getElem?_append_left (by omega)]; exact x3
      · rw [List.getElem?_append_left (by omega)]; exact x4
      · obtain rfl := hgb q hq
        rcases ha3 with h | h
        · exact h3 q h
        · exact Or.inr (by omega)
      · have := h3 q hq; omega
    · subst hlt
      rw [hm] at hi
      simp only [List.getElem?_concat_length, Option.some.injEq, Prod.mk.injEq, T.node.injEq] at hi
      obtain ⟨rfl, rfl, rfl, rfl, rfl⟩ := hi
      simp only [if_true]
      refine ⟨⟨hp, hs⟩, ?_, ?_, ?_, ?_, ?_, ⟨hlo, hz⟩, fun q hq => ?_, (hk.below hal).grown hg3 (fun q hq => ?_)⟩
      · rw [List.getElem?_append_right (by omega), hvl, Nat.sub_self]; rfl
      · rw [List.getElem?_append_right (by omega), hvl, show i * 5 + 1 - i * 5 = 1 by omega]; rfl
      · rw [List.getElem?_append_right (by omega), hvl, show i * 5 + 2 - i * 5 = 2 by omega]; rfl
      · rw [List.getElem?_append_right (by omega), hvl, show i * 5 + 3 - i * 5 = 3 by omega]; rfl
      · rw [List.getElem?_append_right (by omega), hvl, show i * 5 + 4 - i * 5 = 4 by omega]; rfl
      · obtain rfl := hgb q hq
        rcases ha3 with h | h
        · exact Or.inl (hvb q h).2
        · exact Or.inr (by omega)
      · exact Or.inl (hvb q hq).2
    · rw [List.getElem?_eq_none (by simp; omega)] at hi; cases hi
  · rw [List.length_append, List.length_singleton, ← hm] at h2
    have e : i ≠ m := by omega
    simp only [if_neg e]
    by_cases e2 : j = m
    · simp only [if_pos e2]
      obtain ⟨⟨p1, t1⟩, ht⟩ : ∃ t, bs[i]? = some t := ⟨_, List.getElem?_eq_getElem (by omega)⟩
      obtain ⟨k1, n1, s1, x1⟩ := t1
      obtain ⟨_, _, _, _, _, _, _, _, hkk⟩ := hx i p1 k1 n1 s1 x1 ht
      exact hkk.1
    · simp only [if_neg e2]; exact hd i j h1 (by omega)
theorem own_unique {w : World} {B n size : Nat} {e : TypeId} {v : Value} {xs ys : List Value} (h : w.ownsRow B e size v n xs) (k : w.ownsRow B e size v n ys) : xs = ys := by
  have h1 := h.1
  have k1 := k.1
  rcases h.2 with ⟨rfl, h0⟩ | ⟨g, cap, cur, rfl, _, hc, _, _, _, ht⟩
  · subst h0
    rw [Nat.zero_mul] at h1 k1
    rw [List.eq_nil_of_length_eq_zero h1, List.eq_nil_of_length_eq_zero k1]
  · rcases k.2 with ⟨e2, _⟩ | ⟨g', cap', cur', e2, _, hc', _, _, _, ht'⟩
    · cases e2
    · cases e2
      rw [hc] at hc'
      cases hc'
      rw [← ht, ← ht']
/-- What the next append is worth. -/
theorem GrowB.next {own : Bool} {H lo m uc : Nat} {ua : Option Addr} {bs : List (ByteArray × T)} {wr w1 : World} (g : GrowB own H lo (.slice ua m uc) bs wr) (hm : m = bs.length) (hlo : lo ≤ wr.heap.size) (hb : Below wr.heap.size wr w1) :
    ∃ ys, w1.ownsRow lo 86 5 (.slice ua m uc) m ys ∧ ∀ (p : ByteArray) (k n : Int) (s : ByteArray) (u : Value) (xs : List T), p.size ≤ maxLen → s.size ≤ maxLen → Kept wr.heap.size w1.heap.size (KArgs own H wr.heap.size w1.heap.size u xs) w1 → ∀ g3 c3 w3,
      w3.ownsRow lo 86 5 (.slice (some ⟨g3, 0, none⟩) (m + 1) c3) (m + 1) (ys ++ [.string p, .int .i64 k, .int .i64 n, .string s, u]) → (w1.alloc (.cells #[.string p, .int .i64 k, .int .i64 n, .string s, u] 86)).grownBy w3 (Value.slice ua m uc).ownBlock →
      ((Value.slice ua m uc).ownBlock = some g3 ∨ g3 = (w1.alloc (.cells #[.string p, .int .i64 k, .int .i64 n, .string s, u] 86)).heap.size) → GrowB own H lo (.slice (some ⟨g3, 0, none⟩) (m + 1) c3) (bs ++ [(p, .node k n s xs)]) w3 ∧ Below lo wr w3 := by
  have g0 := g
  obtain ⟨vs, _, _, _, ho, _⟩ := g
  rw [← hm] at ho
  refine ⟨vs, keep_own ho hb, fun p k n s u xs hp hs hk g3 c3 w3 ho3 hg3 ha3 => ⟨g0.snoc hm hlo hb hp hs hk (fun zs hz => own_unique hz ho) ho3 hg3 ha3, ?_⟩⟩
  have hz := hb.size
  exact ((hb.mono hlo).alloc (by omega) _).grown hg3 (by simp; omega) (fun j hj => (ho.lt j hj).1)
/-- What the list reads as. -/
theorem GrowB.at {own : Bool} {H lo : Nat} {v : Value} {bs : List (ByteArray × T)} {w : World} (g : GrowB own H lo v bs w) (hl : bs.length ≤ maxLen) : BsAt w lo H v bs := by
  obtain ⟨vs, U, L, R, ho, hx, _⟩ := g
  rcases ho.2 with ⟨rfl, h0⟩ | ⟨q, cap, cur, rfl, hq, _⟩
  · have : bs = [] := List.eq_nil_of_length_eq_zero h0
    subst this
    exact ⟨none, 0, rfl, Nat.zero_le _, Or.inl rfl⟩
  · refine ⟨_, cap, rfl, hl, Or.inr ⟨q, 0, rfl, hq, fun i p k n s xs hi => ?_⟩⟩
    have hil := (List.getElem?_eq_some_iff.1 hi).1
    have hvl := ho.1
    obtain ⟨⟨h1, h1'⟩, x0, x1, x2, x3, x4, h2, _, hkk⟩ := hx i p k n s xs hi
    refine ⟨h1, h1', U i, ?_, ?_, ?_, ?_, ?_, hkk.now.1.low h2.1⟩
    · rw [Nat.zero_add, ho.cellAt (i * 5) (by omega), x0]
    · rw [Nat.zero_add, ho.cellAt (i * 5 + 1) (by omega), x1]
    · rw [Nat.zero_add, ho.cellAt (i * 5 + 2) (by omega), x2]
    · rw [Nat.zero_add, ho.cellAt (i * 5 + 3) (by omega), x3]
    · rw [Nat.zero_add, ho.cellAt (i * 5 + 4) (by omega), x4]
theorem GrowB.obj {H lo : Nat} {v : Value} {bs : List (ByteArray × T)} {w : World} (g : GrowB true H lo v bs w) (hl : bs.length ≤ maxLen) : BsObj lo w.heap.size H v bs w := by
  refine ⟨g.at hl, ?_⟩
  obtain ⟨vs, U, L, R, ho, hx, hd⟩ := g
  rcases ho.2 with ⟨rfl, h0⟩ | ⟨q, cap, cur, rfl, hq, hrest⟩
  · have : bs = [] := List.eq_nil_of_length_eq_zero h0
    subst this
    exact ⟨none, 0, rfl, Or.inl rfl⟩
  · have hlt := ho.lt q rfl
    refine ⟨_, cap, rfl, Or.inr ⟨q, vs, U, L, R, rfl, hq, hlt.2, ⟨ho.1, Or.inr ⟨q, cap, cur, rfl, Nat.le_refl _, hrest⟩⟩, fun i p k n s xs hi => ?_, fun i j h1 h2 => Or.inl (hd i j h1 h2)⟩⟩
    obtain ⟨_, _, _, _, _, x4, h2, h3, hkk⟩ := hx i p k n s xs hi
    exact ⟨x4, h2.1, hkk.1, h3 q rfl, hkk.now.2 rfl⟩
end Go.Proofs.Yteelakhaaipebaa
