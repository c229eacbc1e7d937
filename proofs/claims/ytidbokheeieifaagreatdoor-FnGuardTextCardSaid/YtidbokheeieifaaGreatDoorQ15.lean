/-
  Lists of Binds: what they hold, whose they are. No walk.
  laws.toBind and laws.toBindS copy a list of Binds into memory of the call's own.
  A list of Binds in the making: each Bind's rows lie behind those of the ones before. No walk.
  The first Bind of a name; spec.l7At and spec.FindBind.
  impl.copyTerm: the term in memory of the call's own, all rows below it owned and apart: the walk.
  Strings as lists of bytes: when two are equal. No program.
-/
import Derived.Test.YtidbokheeieifaaGreatDoorQ12
import Derived.Test.YtidbokheeieifaaGreatDoorQ10
import Derived.Test.YtidbokheeieifaaGreatDoorQ11
import Derived.WalkKit
namespace Go.Proofs.YtidbokheeieifaaGreatDoor
open Go.RowKit

/-- The slice value u holds the Binds bs, the rows below of a depth of at most h, in blocks from lo on. -/
def BsAt (w : World) (lo h : Nat) (u : Value) (bs : List (ByteArray × T)) : Prop :=
  ∃ a cap, u = .slice a bs.length cap ∧ bs.length ≤ maxLen ∧ (bs = [] ∨ ∃ b o, a = some ⟨b, o, none⟩ ∧ lo ≤ b ∧ ∀ i p k n s xs, bs[i]? = some (p, T.node k n s xs) → p.size ≤ maxLen ∧ s.size ≤ maxLen ∧ ∃ u', w.cell? ⟨b, o + i * 5, none⟩ = some (.string p) ∧
    w.cell? ⟨b, o + i * 5 + 1, none⟩ = some (.int .i64 k) ∧ w.cell? ⟨b, o + i * 5 + 2, none⟩ = some (.int .i64 n) ∧ w.cell? ⟨b, o + i * 5 + 3, none⟩ = some (.string s) ∧ w.cell? ⟨b, o + i * 5 + 4, none⟩ = some u' ∧ ArgsAt w lo h u' xs)
theorem BsAt.slice {w : World} {lo h : Nat} {u : Value} {bs : List (ByteArray × T)} (k : BsAt w lo h u bs) : ∃ a cap, u = .slice a bs.length cap := by
  obtain ⟨a, cap, e, _⟩ := k; exact ⟨a, cap, e⟩
theorem BsAt.len {w : World} {lo h : Nat} {u : Value} {bs : List (ByteArray × T)} (k : BsAt w lo h u bs) : bs.length ≤ maxLen := by
  obtain ⟨_, _, _, hl, _⟩ := k; exact hl
theorem BsAt.keep {w w' : World} {lo h : Nat} {u : Value} {bs : List (ByteArray × T)} (hk : ∀ (ad : Addr) v, lo ≤ ad.block → w.cell? ad = some v → w'.cell? ad = some v) (k : BsAt w lo h u bs) : BsAt w' lo h u bs := by
  obtain ⟨a, cap, e, hl, hc⟩ := k
  refine ⟨a, cap, e, hl, ?_⟩
  rcases hc with hc | ⟨b, o, ea, hb, hc⟩
  · exact Or.inl hc
  · refine Or.inr ⟨b, o, ea, hb, fun i p k n s xs hi => ?_⟩
    obtain ⟨hp, hs, u', c0, c1, c2, c3, c4, hr⟩ := hc i p k n s xs hi
    exact ⟨hp, hs, u', hk _ _ hb c0, hk _ _ hb c1, hk _ _ hb c2, hk _ _ hb c3, hk _ _ hb c4, hr.keep hk⟩
theorem BsAt.below {w w' : World} {lo h : Nat} {u : Value} {bs : List (ByteArray × T)} (k : BsAt w lo h u bs) (hb : Below w.heap.size w w') : BsAt w' lo h u bs :=
  k.keep fun ad v _ hv => by rw [hb.cell (World.block_lt_of_cell? w _ hv)]; exact hv
theorem BsAt.same {w w' : World} {lo h : Nat} {u : Value} {bs : List (ByteArray × T)} (k : BsAt w lo h u bs) (hs : Same lo w.heap.size w w') : BsAt w' lo h u bs :=
  k.keep fun ad v hlo hv => by
    have hl := World.block_lt_of_cell? w _ hv
    unfold World.cell? at *
    rw [hs ad.block hlo hl]; exact hv
theorem BsAt.kept {w : World} {lo h : Nat} {u : Value} {bs : List (ByteArray × T)} (k : BsAt w lo h u bs) : Kept lo w.heap.size (fun w' => BsAt w' lo h u bs) w := ⟨Nat.le_refl _, fun _ hs => k.same hs⟩
theorem BsAt.le {w : World} {lo h h' : Nat} {u : Value} {bs : List (ByteArray × T)} (k : BsAt w lo h u bs) (hle : h ≤ h') : BsAt w lo h' u bs := by
  obtain ⟨a, cap, e, hl, hc⟩ := k
  refine ⟨a, cap, e, hl, ?_⟩
  rcases hc with hc | ⟨b, o, ea, hb, hc⟩
  · exact Or.inl hc
  · refine Or.inr ⟨b, o, ea, hb, fun i p k n s xs hi => ?_⟩
    obtain ⟨hp, hs, u', c0, c1, c2, c3, c4, hr⟩ := hc i p k n s xs hi
    exact ⟨hp, hs, u', c0, c1, c2, c3, c4, hr.le hle⟩
theorem BsAt.low {w : World} {lo lo' h : Nat} {u : Value} {bs : List (ByteArray × T)} (k : BsAt w lo h u bs) (hlo : lo' ≤ lo) : BsAt w lo' h u bs := by
  obtain ⟨a, cap, e, hl, hc⟩ := k
  refine ⟨a, cap, e, hl, ?_⟩
  rcases hc with hc | ⟨b, o, ea, hb, hc⟩
  · exact Or.inl hc
  · refine Or.inr ⟨b, o, ea, Nat.le_trans hlo hb, fun i p k n s xs hi => ?_⟩
    obtain ⟨hp, hs, u', c0, c1, c2, c3, c4, hr⟩ := hc i p k n s xs hi
    exact ⟨hp, hs, u', c0, c1, c2, c3, c4, hr.low hlo⟩
/-- What a loop over the Binds sees. -/
theorem BsAt.at {w : World} {lo h : Nat} {u : Value} {bs : List (ByteArray × T)} (q : BsAt w lo h u bs) {i : Nat} {x : ByteArray × T} (hx : bs[i]? = some x) :
    ∃ b o cap p k n s xs u', u = .slice (some ⟨b, o, none⟩) bs.length cap ∧ x = (p, T.node k n s xs) ∧ lo ≤ b ∧ p.size ≤ maxLen ∧ s.size ≤ maxLen ∧ w.cell? ⟨b, o + i * 5, none⟩ = some (.string p) ∧
    w.cell? ⟨b, o + i * 5 + 1, none⟩ = some (.int .i64 k) ∧ w.cell? ⟨b, o + i * 5 + 2, none⟩ = some (.int .i64 n) ∧ w.cell? ⟨b, o + i * 5 + 3, none⟩ = some (.string s) ∧ w.cell? ⟨b, o + i * 5 + 4, none⟩ = some u' ∧ ArgsAt w lo h u' xs := by
  obtain ⟨a, cap, rfl, hl, hc⟩ := q
  obtain ⟨p, k, n, s, xs⟩ := x
  rcases hc with rfl | ⟨b, o, rfl, hb, hc⟩
  · simp at hx
  · obtain ⟨hp, hs, u', c0, c1, c2, c3, c4, hr⟩ := hc i p k n s xs hx
    exact ⟨b, o, cap, p, k, n, s, xs, u', rfl, rfl, hb, hp, hs, c0, c1, c2, c3, c4, hr⟩

/-- The Binds' row and the rows below are owned, lie in blocks from lo to hi, and lie apart. -/
def OwnBs (w : World) (h lo hi : Nat) (u : Value) (bs : List (ByteArray × T)) : Prop :=
  ∃ a cap, u = .slice a bs.length cap ∧ (bs = [] ∨ ∃ (g : Nat) (xs : List Value) (U : Nat → Value) (L R : Nat → Nat), a = some ⟨g, 0, none⟩ ∧ lo ≤ g ∧ g < hi ∧ w.ownsRow g 78 5 u bs.length xs ∧
    (∀ i p k n s txs, bs[i]? = some (p, T.node k n s txs) → xs[i * 5 + 4]? = some (U i) ∧ lo ≤ L i ∧ R i ≤ hi ∧ (g < L i ∨ R i ≤ g) ∧ OwnA w h (L i) (R i) (U i) txs) ∧
    (∀ i j, i < j → j < bs.length → R i ≤ L j ∨ R j ≤ L i))
theorem OwnBs.same {w w' : World} {h lo hi : Nat} {u : Value} {bs : List (ByteArray × T)} (k : OwnBs w h lo hi u bs) (hs : Same lo hi w w') : OwnBs w' h lo hi u bs := by
  obtain ⟨a, cap, e, hc⟩ := k
  refine ⟨a, cap, e, ?_⟩
  rcases hc with hc | ⟨g, xs, U, L, R, rfl, h1, h2, ho, hx, hd⟩
  · exact Or.inl hc
  · subst e
    refine Or.inr ⟨g, xs, U, L, R, rfl, h1, h2, row_keep ho (hs g h1 h2), fun i p k n s txs hi => ?_, hd⟩
    obtain ⟨x3, l1, l2, l3, hr⟩ := hx i p k n s txs hi
    exact ⟨x3, l1, l2, l3, hr.keep fun b b1 b2 => hs b (by omega) (by omega)⟩
theorem OwnBs.wide {w : World} {h lo hi lo' hi' : Nat} {u : Value} {bs : List (ByteArray × T)} (k : OwnBs w h lo hi u bs) (h1 : lo' ≤ lo) (h2 : hi ≤ hi') : OwnBs w h lo' hi' u bs := by
  obtain ⟨a, cap, e, hc⟩ := k
  refine ⟨a, cap, e, ?_⟩
  rcases hc with hc | ⟨g, xs, U, L, R, ea, g1, g2, ho, hx, hd⟩
  · exact Or.inl hc
  · refine Or.inr ⟨g, xs, U, L, R, ea, by omega, by omega, ho, fun i p k n s txs hi => ?_, hd⟩
    obtain ⟨x3, l1, l2, l3, hr⟩ := hx i p k n s txs hi
    exact ⟨x3, by omega, by omega, l3, hr⟩
/-- A list of Binds, its row and those below, in blocks from lo to hi. -/
def BsObj (lo hi h : Nat) (u : Value) (bs : List (ByteArray × T)) (w : World) : Prop := BsAt w lo h u bs ∧ OwnBs w h lo hi u bs
theorem BsObj.kept {lo h : Nat} {u : Value} {bs : List (ByteArray × T)} {w : World} (x : BsObj lo w.heap.size h u bs w) : Kept lo w.heap.size (BsObj lo w.heap.size h u bs) w :=
  ⟨Nat.le_refl _, fun _ hs => ⟨x.1.same hs, x.2.same hs⟩⟩

/-- How much the Binds hold. -/
def wBs (bs : List (ByteArray × T)) : Nat := bs.length + (bs.map fun x => x.1.size + wT x.2).sum
/-- How many marks they take. -/
def mBs (bs : List (ByteArray × T)) : Nat := (bs.map fun x => 1 + 3 * cT x.2).sum
theorem wBs_len (bs : List (ByteArray × T)) : bs.length ≤ wBs bs := Nat.le_add_right _ _
theorem mBs_le (bs : List (ByteArray × T)) : mBs bs ≤ 4 * wBs bs := by
  unfold mBs wBs
  induction bs with
  | nil => simp
  | cons x r ih =>
    have := cT_le x.2
    simp only [List.map_cons, List.sum_cons, List.length_cons] at *
    omega
theorem mBs_snoc (bs : List (ByteArray × T)) (x : ByteArray × T) : mBs (bs ++ [x]) = mBs bs + (1 + 3 * cT x.2) := by simp [mBs]
theorem wBs_snoc (bs : List (ByteArray × T)) (x : ByteArray × T) : wBs (bs ++ [x]) = wBs bs + (1 + x.1.size + wT x.2) := by simp [wBs]; omega
theorem mBs_take (bs : List (ByteArray × T)) (k : Nat) : mBs (bs.take k) ≤ mBs bs := by
  have h : mBs bs = mBs (bs.take k) + mBs (bs.drop k) := by
    unfold mBs
    rw [← List.sum_append, ← List.map_append, List.take_append_drop]
  omega
theorem wBs_take (bs : List (ByteArray × T)) (k : Nat) : wBs (bs.take k) ≤ wBs bs := by
  have h : wBs bs = wBs (bs.take k) + wBs (bs.drop k) := by
    have e := List.take_append_drop k bs
    conv => lhs; rw [← e]
    unfold wBs
    rw [List.map_append, List.sum_append, List.length_append]; omega
  omega
theorem wBs_mem {bs : List (ByteArray × T)} {k : Nat} {x : ByteArray × T} (h : bs[k]? = some x) : 1 + x.1.size + wT x.2 ≤ wBs bs := by
  have h1 := wBs_take bs (k + 1)
  rw [tk bs k x h, wBs_snoc] at h1
  omega
theorem len_mBs (bs : List (ByteArray × T)) : bs.length ≤ mBs bs := by
  unfold mBs
  induction bs with
  | nil => simp
  | cons x r ih => simp only [List.map_cons, List.sum_cons, List.length_cons] at *; omega
/-- The value of a Bind. -/
abbrev bv (p : ByteArray) (k n : Int) (s : ByteArray) (u : Value) : Value := .agg #[.string p, .int .i64 k, .int .i64 n, .string s, u]
end Go.Proofs.YtidbokheeieifaaGreatDoor
namespace Go.Proofs.YtidbokheeieifaaGreatDoor
open Go.RowKit

theorem infoBind : (Tryz.prog.info? 78).map (fun i => (i.zero, i.size, i.bytes)) = some (some (.agg #[.string ByteArray.empty, .int .i64 0, .int .i64 0, .string ByteArray.empty, .slice none 0 0]), 5, 72) := by kernel_rfl

/-- A copy of a Bind. -/
def CopyBd (h : Nat) (p : ByteArray) (t : T) (w : World) (e : Ending) (w' : World) : Prop :=
  ∃ k n s u xs, e = .returned (bv p k n s u) ∧ t = .node k n s xs ∧ (ArgsAt w' w.heap.size h u xs ∧ OwnA w' h w.heap.size w'.heap.size u xs) ∧ Below w.heap.size w w'

/-- How far the copy of a row has come; the rows below it lie in blocks up to B. -/
def CopyRelB (h g n k B : Nat) (bs : List (ByteArray × T)) (w : World) : Prop :=
  ∃ (xs : List Value) (U : Nat → Value) (L R : Nat → Nat), w.ownsRow g 78 5 (.slice (some ⟨g, 0, none⟩) n n) n xs ∧ (∀ i p kk nn s txs, i < k → bs[i]? = some (p, T.node kk nn s txs) →
    (p.size ≤ maxLen ∧ s.size ≤ maxLen) ∧ xs[i * 5]? = some (.string p) ∧ xs[i * 5 + 1]? = some (.int .i64 kk) ∧ xs[i * 5 + 2]? = some (.int .i64 nn) ∧ xs[i * 5 + 3]? = some (.string s) ∧ xs[i * 5 + 4]? = some (U i) ∧ ArgsAt w (g + 1) h (U i) txs ∧ OwnA w h (L i) (R i) (U i) txs) ∧
    (∀ i, i < k → g < L i ∧ L i ≤ R i ∧ R i ≤ B) ∧ (∀ i j, i < j → j < k → R i ≤ L j)
theorem CopyRelB.below {h g n k B : Nat} {bs : List (ByteArray × T)} {w w' : World} (c : CopyRelB h g n k B bs w) (hb : Below w.heap.size w w') (hB : B ≤ w.heap.size) : CopyRelB h g n k B bs w' := by
  obtain ⟨xs, U, L, R, ho, hx, hl, hd⟩ := c
  refine ⟨xs, U, L, R, keep_own ho hb, fun i p kk nn s txs hi ht => ?_, hl, hd⟩
  obtain ⟨hs, x0, x1, x2, x3, x4, ha, hoa⟩ := hx i p kk nn s txs hi ht
  exact ⟨hs, x0, x1, x2, x3, x4, ha.below hb, hoa.keep fun b b1 b2 => hb.block b (by have := hl i hi; omega)⟩
theorem CopyRelB.cells {h g n k B : Nat} {bs : List (ByteArray × T)} {w : World} (c : CopyRelB h g n k B bs w) (hk : k < n) (j : Nat) (hj : j < 5) :
    (∃ v, w.cell? ⟨g, k * 5 + j, none⟩ = some v) ∧ w.frozen? ⟨g, k * 5 + j, none⟩ = false := by
  obtain ⟨xs, U, L, R, ho, _⟩ := c
  have hl := ho.1
  refine ⟨?_, ho.frozenAt _⟩
  rw [ho.cellAt (k * 5 + j) (by omega)]
  exact ⟨_, List.getElem?_eq_getElem (by omega)⟩
theorem set5 {xs : List Value} {a q : Nat} {v0 v1 v2 v3 v4 : Value} (h0 : a ≠ q) (h1 : a + 1 ≠ q) (h2 : a + 2 ≠ q) (h3 : a + 3 ≠ q) (h4 : a + 4 ≠ q) :
    (((((xs.set a v0).set (a + 1) v1).set (a + 2) v2).set (a + 3) v3).set (a + 4) v4)[q]? = xs[q]? := by
  rw [List.getElem?_set_ne h4, List.getElem?_set_ne h3, List.getElem?_set_ne h2, List.getElem?_set_ne h1, List.getElem?_set_ne h0]
/-- A Bind's five cells. -/
abbrev cells5 (w : World) (g k : Nat) (p : ByteArray) (kk nn : Int) (s : ByteArray) (u : Value) : World :=
  ((((w.setCell ⟨g, k * 5, none⟩ (.string p)).setCell ⟨g, k * 5 + 1, none⟩ (.int .i64 kk)).setCell ⟨g, k * 5 + 2, none⟩ (.int .i64 nn)).setCell ⟨g, k * 5 + 3, none⟩ (.string s)).setCell ⟨g, k * 5 + 4, none⟩ u
theorem cells5_heap (w : World) (g k : Nat) (p : ByteArray) (kk nn : Int) (s : ByteArray) (u : Value) {b : Nat} (h : b ≠ g) : (cells5 w g k p kk nn s u).heap[b]? = w.heap[b]? := by
  unfold cells5
  rw [Below.heap_setCell _ _ _ _ (by exact h), Below.heap_setCell _ _ _ _ (by exact h), Below.heap_setCell _ _ _ _ (by exact h), Below.heap_setCell _ _ _ _ (by exact h), Below.heap_setCell _ _ _ _ (by exact h)]
theorem CopyRelB.step {h g n k B B' : Nat} {bs : List (ByteArray × T)} {w : World} (c : CopyRelB h g n k B bs w) (hk : k < n) {p : ByteArray} {kk nn : Int} {s : ByteArray} {txs : List T} {u : Value} (ht : bs[k]? = some (p, T.node kk nn s txs)) (hs : p.size ≤ maxLen ∧ s.size ≤ maxLen) (ha : ArgsAt w (g + 1) h u txs)
    (hoa : OwnA w h B B' u txs) (hgB : g < B) (hBB : B ≤ B') : CopyRelB h g n (k + 1) B' bs (cells5 w g k p kk nn s u) := by
  obtain ⟨xs, U, L, R, ho, hx, hlr, hd⟩ := c
  have hl : xs.length = n * 5 := ho.1
  have o1 := (ho.stored (k * 5) (.string p)).1
  have o2 := (o1.stored (k * 5 + 1) (.int .i64 kk)).1
  have o3 := (o2.stored (k * 5 + 2) (.int .i64 nn)).1
  have o4 := (o3.stored (k * 5 + 3) (.string s)).1
  have o5 := (o4.stored (k * 5 + 4) u).1
  have hoth : ∀ b, b ≠ g → (cells5 w g k p kk nn s u).heap[b]? = w.heap[b]? := fun b hb => cells5_heap _ _ _ _ _ _ _ _ hb
  have up : ∀ {u' : Value} {txs' : List T}, ArgsAt w (g + 1) h u' txs' → ArgsAt (cells5 w g k p kk nn s u) (g + 1) h u' txs' := fun q =>
    q.keep fun ad v hlo hv => by rw [cell_heap (hoth ad.block (by omega))]; exact hv
  have upo : ∀ {u' : Value} {txs' : List T} {l r : Nat}, g < l → OwnA w h l r u' txs' → OwnA (cells5 w g k p kk nn s u) h l r u' txs' :=
    fun hgl q => q.keep fun b b1 _ => hoth b (by omega)
  refine ⟨_, fun i => if i = k then u else U i, fun i => if i = k then B else L i, fun i => if i = k then B' else R i, o5, fun i p' kk' nn' s' txs' hi ht' => ?_, fun i hi => ?_, fun i j hij hj => ?_⟩
  · by_cases hik : i = k
    · subst hik
      rw [ht] at ht'
      cases ht'
      refine ⟨hs, ?_, ?_, ?_, ?_, ?_, by simpa using up ha, by simpa using upo hgB hoa⟩
      all_goals (simp [List.getElem?_set]; omega)
    · obtain ⟨hs', x0, x1, x2, x3, x4, ha', hoa'⟩ := hx i p' kk' nn' s' txs' (by omega) ht'
      refine ⟨hs', ?_, ?_, ?_, ?_, ?_, by simpa [hik] using up ha', by simpa [hik] using upo (hlr i (by omega)).1 hoa'⟩
      · rw [set5 (by omega) (by omega) (by omega) (by omega) (by omega)]; exact x0
      · rw [set5 (by omega) (by omega) (by omega) (by omega) (by omega)]; exact x1
      · rw [set5 (by omega) (by omega) (by omega) (by omega) (by omega)]; exact x2
      · rw [set5 (by omega) (by omega) (by omega) (by omega) (by omega)]; exact x3
      · rw [set5 (by omega) (by omega) (by omega) (by omega) (by omega)]; simpa [hik] using x4
  · by_cases hik : i = k
    · simp [hik]; omega
    · have := hlr i (by omega)
      simp [hik]; omega
  · have hik : i ≠ k := by omega
    by_cases hjk : j = k
    · have := hlr i (by omega)
      simp [hik, hjk]; omega
    · simpa [hik, hjk] using hd i j hij (by omega)
theorem CopyRelB.done {h g n B : Nat} {bs : List (ByteArray × T)} {w : World} (c : CopyRelB h g n n B bs w) (hn : n = bs.length) (hl : n ≤ maxLen) (hB : g < B) : BsObj g B h (.slice (some ⟨g, 0, none⟩) n n) bs w := by
  obtain ⟨xs, U, L, R, ho, hx, hlr, hd⟩ := c
  have hii : ∀ {i : Nat} {x : ByteArray × T}, bs[i]? = some x → i < n := fun {i} {t} ht => by have := (List.getElem?_eq_some_iff.1 ht).1; omega
  constructor
  · refine ⟨_, n, by rw [hn], by omega, Or.inr ⟨g, 0, rfl, Nat.le_refl _, fun i p kk nn s txs ht => ?_⟩⟩
    have hi := hii ht
    obtain ⟨hs, x0, x1, x2, x3, x4, ha, _⟩ := hx i p kk nn s txs hi ht
    refine ⟨hs.1, hs.2, U i, ?_, ?_, ?_, ?_, ?_, ha.low (by omega)⟩
    · rw [Nat.zero_add, ho.cellAt (i * 5) (by omega), x0]
    · rw [Nat.zero_add, ho.cellAt (i * 5 + 1) (by omega), x1]
    · rw [Nat.zero_add, ho.cellAt (i * 5 + 2) (by omega), x2]
    · rw [Nat.zero_add, ho.cellAt (i * 5 + 3) (by omega), x3]
    · rw [Nat.zero_add, ho.cellAt (i * 5 + 4) (by omega), x4]
  · subst hn
    refine ⟨_, _, rfl, Or.inr ⟨g, xs, U, L, R, rfl, Nat.le_refl _, hB, ho, fun i p kk nn s txs ht => ?_, fun i j hij hj => Or.inl (hd i j hij hj)⟩⟩
    obtain ⟨_, _, _, _, _, x4, _, hoa⟩ := hx i p kk nn s txs (hii ht) ht
    have := hlr i (hii ht)
    exact ⟨x4, by omega, by omega, by omega, hoa⟩

/-- A copy of a list of Binds. -/
def CopyBs (h : Nat) (bs : List (ByteArray × T)) (w : World) (e : Ending) (w' : World) : Prop := ∃ v, e = .returned v ∧ BsObj w.heap.size w'.heap.size h v bs w' ∧ Below w.heap.size w w'

/-- Copied, with what it reads as for two heights. -/
theorem BsAt.two {w : World} {lo lo' h h' : Nat} {u v : Value} {bs : List (ByteArray × T)} (a : BsAt w lo h u bs) (b : BsAt w lo' h' v bs) : BsAt w lo (max h h') u bs ∧ BsAt w lo' (max h h') v bs := ⟨a.le (Nat.le_max_left _ _), b.le (Nat.le_max_right _ _)⟩
end Go.Proofs.YtidbokheeieifaaGreatDoor
namespace Go.Proofs.YtidbokheeieifaaGreatDoor
open Go.RowKit

/-- The arguments xs in blocks from l to r; if own, their rows are a call's own. -/
def KArgs (own : Bool) (H l r : Nat) (u : Value) (xs : List T) (w : World) : Prop := ArgsAt w l H u xs ∧ (own = true → OwnA w H l r u xs)
theorem kargs_own {w : World} {H H1 l : Nat} {u : Value} {xs : List T} (ho : OwnR (fun _ => True) w H l w.heap.size u xs) (hH : H ≤ H1) : Kept l w.heap.size (KArgs true H1 l w.heap.size u xs) w :=
  ⟨Nat.le_refl _, fun _ hs => ⟨((ho.le hH).args (Nat.le_refl _)).same hs, fun _ => (ho.le hH).own.same hs⟩⟩
theorem kargs_read {w : World} {H H1 l : Nat} {u : Value} {xs : List T} (ha : ArgsAt w l H u xs) (hH : H ≤ H1) : Kept l w.heap.size (KArgs false H1 l w.heap.size u xs) w :=
  ⟨Nat.le_refl _, fun _ hs => ⟨(ha.le hH).same hs, fun e => by cases e⟩⟩

/-- The slice v holds the Binds bs; its row lies in blocks from lo on. -/
def GrowB (own : Bool) (H lo : Nat) (v : Value) (bs : List (ByteArray × T)) (w : World) : Prop :=
  ∃ (vs : List Value) (U : Nat → Value) (L R : Nat → Nat), w.ownsRow lo 78 5 v bs.length vs ∧
    (∀ i p k n s xs, bs[i]? = some (p, T.node k n s xs) → (p.size ≤ maxLen ∧ s.size ≤ maxLen) ∧ vs[i * 5]? = some (.string p) ∧ vs[i * 5 + 1]? = some (.int .i64 k) ∧ vs[i * 5 + 2]? = some (.int .i64 n) ∧ vs[i * 5 + 3]? = some (.string s) ∧ vs[i * 5 + 4]? = some (U i) ∧
      (lo ≤ L i ∧ L i ≤ R i) ∧ (∀ g, v.ownBlock = some g → g < L i ∨ R i ≤ g) ∧ Kept (L i) (R i) (KArgs own H (L i) (R i) (U i) xs) w) ∧
    (∀ i j, i < j → j < bs.length → R i ≤ L j)
theorem GrowB.nil (own : Bool) (H lo : Nat) (w : World) : GrowB own H lo (.slice none 0 0) [] w := ⟨[], fun _ => undef, fun _ => 0, fun _ => 0, World.ownsRow_nil _ _ _ _, fun i _ _ _ _ _ hi => by simp at hi, fun i j _ h => by simp at h⟩
theorem GrowB.lit (own : Bool) (H lo : Nat) (w : World) (h : lo ≤ w.heap.size) : GrowB own H lo (.slice (some ⟨w.heap.size, 0, none⟩) 0 0) [] (w.alloc (.cells #[] 78)) :=
  ⟨[], fun _ => undef, fun _ => 0, fun _ => 0, World.ownsRow_lit (base := lo) (size := 5) (e := 78) w #[] 0 h (by decide) rfl, fun i _ _ _ _ _ hi => by simp at hi, fun i j _ h => by simp at h⟩
theorem GrowB.below {own : Bool} {H lo : Nat} {v : Value} {bs : List (ByteArray × T)} {w w' : World} (g : GrowB own H lo v bs w) (hb : Below w.heap.size w w') : GrowB own H lo v bs w' := by
  obtain ⟨vs, U, L, R, ho, hx, hd⟩ := g
  refine ⟨vs, U, L, R, keep_own ho hb, fun i p k n s xs hi => ?_, hd⟩
  obtain ⟨h1, x0, x1, x2, x3, x4, h2, h3, hk⟩ := hx i p k n s xs hi
  exact ⟨h1, x0, x1, x2, x3, x4, h2, h3, hk.below hb⟩
theorem GrowB.slice {own : Bool} {H lo : Nat} {v : Value} {bs : List (ByteArray × T)} {w : World} (g : GrowB own H lo v bs w) : ∃ a c, v = .slice a bs.length c := by
  obtain ⟨vs, _, _, _, ho, _⟩ := g
  exact own_formK ho
/-- One Bind more. -/
theorem GrowB.snoc {own : Bool} {H lo m uc : Nat} {ua : Option Addr} {bs : List (ByteArray × T)} {wr w1 w3 : World} {p : ByteArray} {k n : Int} {s : ByteArray} {u : Value} {xs : List T} {g3 c3 : Nat} {ys : List Value}
    (g : GrowB own H lo (.slice ua m uc) bs wr) (hm : m = bs.length) (hlo : lo ≤ wr.heap.size) (hb : Below wr.heap.size wr w1) (hp : p.size ≤ maxLen) (hs : s.size ≤ maxLen) (hk : Kept wr.heap.size w1.heap.size (KArgs own H wr.heap.size w1.heap.size u xs) w1)
    (hys : ∀ zs, wr.ownsRow lo 78 5 (.slice ua m uc) m zs → zs = ys)
    (ho3 : w3.ownsRow lo 78 5 (.slice (some ⟨g3, 0, none⟩) (m + 1) c3) (m + 1) (ys ++ [.string p, .int .i64 k, .int .i64 n, .string s, u]))
    (hg3 : (w1.alloc (.cells #[.string p, .int .i64 k, .int .i64 n, .string s, u] 78)).grownBy w3 (Value.slice ua m uc).ownBlock) (ha3 : (Value.slice ua m uc).ownBlock = some g3 ∨ g3 = (w1.alloc (.cells #[.string p, .int .i64 k, .int .i64 n, .string s, u] 78)).heap.size) :
    GrowB own H lo (.slice (some ⟨g3, 0, none⟩) (m + 1) c3) (bs ++ [(p, .node k n s xs)]) w3 := by
  obtain ⟨vs, U, L, R, ho, hx, hd⟩ := g
  rw [← hm] at ho
  obtain rfl := hys vs ho
  have hvl : vs.length = m * 5 := ho.1
  have hvb := ho.lt
  have hz := hb.size
  have hza : (w1.alloc (.cells #[.string p, .int .i64 k, .int .i64 n, .string s, u] 78)).heap.size = w1.heap.size + 1 := by simp
  have hgz := hg3.size
  rw [hza] at hgz ha3
  have hal : Below w1.heap.size w1 (w1.alloc (.cells #[.string p, .int .i64 k, .int .i64 n, .string s, u] 78)) := (Below.refl _ _).alloc (Nat.le_refl _) _
  have hgb : ∀ q, (Value.slice (some ⟨g3, 0, none⟩) (m + 1) c3).ownBlock = some q → q = g3 := fun q e => by simpa [Value.ownBlock] using e.symm
  refine ⟨_, fun i => if i = m then u else U i, fun i => if i = m then wr.heap.size else L i, fun i => if i = m then w1.heap.size else R i, by rw [List.length_append, List.length_singleton, ← hm]; exact ho3, fun i p' k' n' s' xs' hi => ?_, fun i j h1 h2 => ?_⟩
  · rcases Nat.lt_trichotomy i m with hlt | hlt | hlt
    · rw [List.getElem?_append_left (by omega)] at hi
      obtain ⟨h1, x0, x1, x2, x3, x4, h2, h3, hkk⟩ := hx i p' k' n' s' xs' hi
      have e : i ≠ m := by omega
      simp only [if_neg e]
      have hRl := hkk.1
      refine ⟨h1, ?_, ?_, ?_, ?_, ?_, h2, fun q hq => ?_, ((hkk.below hb).below hal).grown hg3 (fun q hq => ?_)⟩
      · rw [List.getElem?_append_left (by omega)]; exact x0
      · rw [List.getElem?_append_left (by omega)]; exact x1
      · rw [List.getElem?_append_left (by omega)]; exact x2
      · rw [List.getElem?_append_left (by omega)]; exact x3
      · rw [List.getElem?_append_left (by omega)]; exact x4
      · obtain rfl := hgb q hq
        rcases ha3 with h | h
        · exact h3 q h
        · exact Or.inr (by omega)
      · have := h3 q hq; omega
    · subst hlt
      rw [hm] at hi
      simp only [List.getElem?_concat_length, Option.some.injEq, Prod.mk.injEq, T.node.injEq] at hi
      obtain ⟨rfl, rfl, rfl, rfl, rfl⟩ := hi
      simp only [if_true]
      refine ⟨⟨hp, hs⟩, ?_, ?_, ?_, ?_, ?_, ⟨hlo, hz⟩, fun q hq => ?_, (hk.below hal).grown hg3 (fun q hq => ?_)⟩
      · rw [List.getElem?_append_right (by omega), hvl, Nat.sub_self]; rfl
      · rw [List.getElem?_append_right (by omega), hvl, show i * 5 + 1 - i * 5 = 1 by omega]; rfl
      · rw [List.getElem?_append_right (by omega), hvl, show i * 5 + 2 - i * 5 = 2 by omega]; rfl
      · rw [List.getElem?_append_right (by omega), hvl, show i * 5 + 3 - i * 5 = 3 by omega]; rfl
      · rw [List.getElem?_append_right (by omega), hvl, show i * 5 + 4 - i * 5 = 4 by omega]; rfl
      · obtain rfl := hgb q hq
        rcases ha3 with h | h
        · exact Or.inl (hvb q h).2
        · exact Or.inr (by omega)
      · exact Or.inl (hvb q hq).2
    · rw [List.getElem?_eq_none (by simp; omega)] at hi; cases hi
  · rw [List.length_append, List.length_singleton, ← hm] at h2
    have e : i ≠ m := by omega
    simp only [if_neg e]
    by_cases e2 : j = m
    · simp only [if_pos e2]
      obtain ⟨⟨p1, t1⟩, ht⟩ : ∃ t, bs[i]? = some t := ⟨_, List.getElem?_eq_getElem (by omega)⟩
      obtain ⟨k1, n1, s1, x1⟩ := t1
      obtain ⟨_, _, _, _, _, _, _, _, hkk⟩ := hx i p1 k1 n1 s1 x1 ht
      exact hkk.1
    · simp only [if_neg e2]; exact hd i j h1 (by omega)
theorem own_unique {w : World} {B n size : Nat} {e : TypeId} {v : Value} {xs ys : List Value} (h : w.ownsRow B e size v n xs) (k : w.ownsRow B e size v n ys) : xs = ys := by
  have h1 := h.1
  have k1 := k.1
  rcases h.2 with ⟨rfl, h0⟩ | ⟨g, cap, cur, rfl, _, hc, _, _, _, ht⟩
  · subst h0
    rw [Nat.zero_mul] at h1 k1
    rw [List.eq_nil_of_length_eq_zero h1, List.eq_nil_of_length_eq_zero k1]
  · rcases k.2 with ⟨e2, _⟩ | ⟨g', cap', cur', e2, _, hc', _, _, _, ht'⟩
    · cases e2
    · cases e2
      rw [hc] at hc'
      cases hc'
      rw [← ht, ← ht']
/-- What the next append is worth. -/
theorem GrowB.next {own : Bool} {H lo m uc : Nat} {ua : Option Addr} {bs : List (ByteArray × T)} {wr w1 : World} (g : GrowB own H lo (.slice ua m uc) bs wr) (hm : m = bs.length) (hlo : lo ≤ wr.heap.size) (hb : Below wr.heap.size wr w1) :
    ∃ ys, w1.ownsRow lo 78 5 (.slice ua m uc) m ys ∧ ∀ (p : ByteArray) (k n : Int) (s : ByteArray) (u : Value) (xs : List T), p.size ≤ maxLen → s.size ≤ maxLen → Kept wr.heap.size w1.heap.size (KArgs own H wr.heap.size w1.heap.size u xs) w1 → ∀ g3 c3 w3,
      w3.ownsRow lo 78 5 (.slice (some ⟨g3, 0, none⟩) (m + 1) c3) (m + 1) (ys ++ [.string p, .int .i64 k, .int .i64 n, .string s, u]) → (w1.alloc (.cells #[.string p, .int .i64 k, .int .i64 n, .string s, u] 78)).grownBy w3 (Value.slice ua m uc).ownBlock →
      ((Value.slice ua m uc).ownBlock = some g3 ∨ g3 = (w1.alloc (.cells #[.string p, .int .i64 k, .int .i64 n, .string s, u] 78)).heap.size) → GrowB own H lo (.slice (some ⟨g3, 0, none⟩) (m + 1) c3) (bs ++ [(p, .node k n s xs)]) w3 ∧ Below lo wr w3 := by
  have g0 := g
  obtain ⟨vs, _, _, _, ho, _⟩ := g
  rw [← hm] at ho
  refine ⟨vs, keep_own ho hb, fun p k n s u xs hp hs hk g3 c3 w3 ho3 hg3 ha3 => ⟨g0.snoc hm hlo hb hp hs hk (fun zs hz => own_unique hz ho) ho3 hg3 ha3, ?_⟩⟩
  have hz := hb.size
  exact ((hb.mono hlo).alloc (by omega) _).grown hg3 (by simp; omega) (fun j hj => (ho.lt j hj).1)
/-- What the list reads as. -/
theorem GrowB.at {own : Bool} {H lo : Nat} {v : Value} {bs : List (ByteArray × T)} {w : World} (g : GrowB own H lo v bs w) (hl : bs.length ≤ maxLen) : BsAt w lo H v bs := by
  obtain ⟨vs, U, L, R, ho, hx, _⟩ := g
  rcases ho.2 with ⟨rfl, h0⟩ | ⟨q, cap, cur, rfl, hq, _⟩
  · have : bs = [] := List.eq_nil_of_length_eq_zero h0
    subst this
    exact ⟨none, 0, rfl, Nat.zero_le _, Or.inl rfl⟩
  · refine ⟨_, cap, rfl, hl, Or.inr ⟨q, 0, rfl, hq, fun i p k n s xs hi => ?_⟩⟩
    have hil := (List.getElem?_eq_some_iff.1 hi).1
    have hvl := ho.1
    obtain ⟨⟨h1, h1'⟩, x0, x1, x2, x3, x4, h2, _, hkk⟩ := hx i p k n s xs hi
    refine ⟨h1, h1', U i, ?_, ?_, ?_, ?_, ?_, hkk.now.1.low h2.1⟩
    · rw [Nat.zero_add, ho.cellAt (i * 5) (by omega), x0]
    · rw [Nat.zero_add, ho.cellAt (i * 5 + 1) (by omega), x1]
    · rw [Nat.zero_add, ho.cellAt (i * 5 + 2) (by omega), x2]
    · rw [Nat.zero_add, ho.cellAt (i * 5 + 3) (by omega), x3]
    · rw [Nat.zero_add, ho.cellAt (i * 5 + 4) (by omega), x4]
theorem GrowB.obj {H lo : Nat} {v : Value} {bs : List (ByteArray × T)} {w : World} (g : GrowB true H lo v bs w) (hl : bs.length ≤ maxLen) : BsObj lo w.heap.size H v bs w := by
  refine ⟨g.at hl, ?_⟩
  obtain ⟨vs, U, L, R, ho, hx, hd⟩ := g
  rcases ho.2 with ⟨rfl, h0⟩ | ⟨q, cap, cur, rfl, hq, hrest⟩
  · have : bs = [] := List.eq_nil_of_length_eq_zero h0
    subst this
    exact ⟨none, 0, rfl, Or.inl rfl⟩
  · have hlt := ho.lt q rfl
    refine ⟨_, cap, rfl, Or.inr ⟨q, vs, U, L, R, rfl, hq, hlt.2, ⟨ho.1, Or.inr ⟨q, cap, cur, rfl, Nat.le_refl _, hrest⟩⟩, fun i p k n s xs hi => ?_, fun i j h1 h2 => Or.inl (hd i j h1 h2)⟩⟩
    obtain ⟨_, _, _, _, _, x4, h2, h3, hkk⟩ := hx i p k n s xs hi
    exact ⟨x4, h2.1, hkk.1, h3 q rfl, hkk.now.2 rfl⟩
end Go.Proofs.YtidbokheeieifaaGreatDoor
namespace Go.Proofs.YtidbokheeieifaaGreatDoor
open Go.RowKit

/-- The term of the first Bind of a name. -/
def findB (bs : List (ByteArray × T)) (nm : ByteArray) : Option T := (bs.find? (fun x => x.1.toList == nm.toList)).map Prod.snd
theorem findB_at {bs : List (ByteArray × T)} {nm : ByteArray} {k : Nat} {x : ByteArray × T} (hn : ∀ y ∈ bs.take k, (y.1.toList == nm.toList) = false) (hk : bs[k]? = some x) (hp : (x.1.toList == nm.toList) = true) : findB bs nm = some x.2 := by
  have e : bs = bs.take k ++ x :: bs.drop (k + 1) := by
    obtain ⟨_, h⟩ := List.getElem?_eq_some_iff.1 hk
    rw [← h, List.getElem_cons_drop, List.take_append_drop]
  unfold findB
  rw [e, List.find?_append, List.find?_eq_none.2 (fun y hy => by simpa using hn y hy)]
  simp [hp]
theorem findB_none {bs : List (ByteArray × T)} {nm : ByteArray} (hn : ∀ y ∈ bs, (y.1.toList == nm.toList) = false) : findB bs nm = none := by
  unfold findB
  rw [List.find?_eq_none.2 (fun y hy => by simpa using hn y hy)]; rfl
theorem findB_w {bs : List (ByteArray × T)} {nm : ByteArray} {t : T} (h : findB bs nm = some t) : wT t ≤ wBs bs := by
  unfold findB at h
  obtain ⟨x, hx, rfl⟩ := Option.map_eq_some_iff.1 h
  obtain ⟨k, hk⟩ := List.mem_iff_getElem?.1 (List.mem_of_find?_eq_some hx)
  have := wBs_mem hk
  omega

theorem findB_w1 {bs : List (ByteArray × T)} {nm : ByteArray} {t : T} (h : findB bs nm = some t) : 1 + wT t ≤ wBs bs := by
  unfold findB at h
  obtain ⟨x, hx, rfl⟩ := Option.map_eq_some_iff.1 h
  obtain ⟨k, hk⟩ := List.mem_iff_getElem?.1 (List.mem_of_find?_eq_some hx)
  have := wBs_mem hk
  omega

/-- Where the first Bind of a name stands. -/
def AtE (bs : List (ByteArray × T)) (nm : ByteArray) (w : World) (e : Ending) (w' : World) : Prop :=
  w' = w ∧ ((findB bs nm = none ∧ e = .returned (.int .i64 (-1))) ∨ ∃ (k : Nat) (x : ByteArray × T), e = .returned (.int .i64 k) ∧ bs[k]? = some x ∧ findB bs nm = some x.2)

set_option maxRecDepth 100000 in
set_option maxHeartbeats 1600000 in
theorem sAt7_any (u : Value) (nm : ByteArray) (bs : List (ByteArray × T)) (lo h : Nat) (w : World) (hl : bs.length ≤ 4294967296) (hv : BsAt w lo h u bs) :
    Calls Tryz.prog 88 #[u, .string nm] w (AtE bs nm w) := by
  have HV := Lib.hid hv
  obtain ⟨a, cap, rfl⟩ := hv.slice
  clear hv
  obtain ⟨n, hn⟩ : ∃ n, n = bs.length := ⟨_, rfl⟩
  rw [← hn] at HV hl ⊢
  have HN := Lib.hid hn; clear hn
  go_enter Tryz.func88, Tryz.ntmps88
  go_wp2
  go_loop [5] (fun i => ∃ k : Nat, k ≤ n ∧ i = .int .i64 k ∧ Hid (∀ x ∈ bs.take k, (x.1.toList == nm.toList) = false)) (fun i => n - (intOf i).toNat)
  case atStart => exact ⟨0, Nat.zero_le _, rfl, Lib.hid (by simp)⟩
  case round =>
    obtain ⟨k, hk, rfl, HF⟩ := hrel
    by_cases hlt : k < n
    · obtain ⟨x, hx⟩ : ∃ x, bs[k]? = some x := ⟨_, List.getElem?_eq_getElem (by have := HN.out; omega)⟩
      obtain ⟨b, o, c', p, tk', tn, tsn, txs, u', e, rfl, _, _, _, c0, c1, c2, c3, c4, _⟩ := HV.out.at hx
      obtain ⟨rfl, -, rfl⟩ : a = some ⟨b, o, none⟩ ∧ n = bs.length ∧ cap = c' := by simpa using e
      have HX := Lib.hid hx; clear hx e
      by_cases hq : (p.toList == nm.toList) = true
      · have HE := Lib.hid (findB_at HF.out HX.out hq)
        go_wp2
        go_ret
        exact ⟨rfl, Or.inr ⟨k, _, rfl, HX.out, HE.out⟩⟩
      · have hq2 : (p.toList == nm.toList) = false := by simpa using hq
        clear hq
        have HF2 : Hid (∀ x ∈ bs.take (k + 1), (x.1.toList == nm.toList) = false) := Lib.hid (fun x hx => by
          rw [List.take_add_one, HX.out] at hx
          rcases List.mem_append.1 hx with h | h
          · exact HF.out x h
          · simp at h; subst h; exact hq2)
        go_wp2
        go_round
        case rel => exact ⟨k + 1, by omega, by go_num, HF2⟩
        case measure => simp [intOf]; omega
    · have HE : Hid (findB bs nm = none) := Lib.hid (findB_none (by
        have h := HF.out
        rw [List.take_of_length_le (by have := HN.out; omega)] at h
        exact h))
      go_wp2
      go_ret
      exact ⟨rfl, Or.inl ⟨HE.out, rfl⟩⟩

/-- An answer that is a term of a depth of at most h, and a word. -/
def ResTH (h : Nat) (ok : Bool) (r : T) (w : World) (e : Ending) (w' : World) : Prop :=
  ∃ k n s a m c, e = .returned (.tuple #[tv k n s (.slice a m c), .bool ok]) ∧ TermAt w' w.heap.size h (tv k n s (.slice a m c)) r ∧ Below w.heap.size w w'
theorem resT_fin {w wr : World} {b B : Nat} {ok : Bool} {k n : Int} {s : ByteArray} {a : Option Addr} {m c h : Nat} {r : T} (ht : TermAt wr B h (tv k n s (.slice a m c)) r) (hb : Below w.heap.size w wr) (h1 : w.heap.size ≤ b) (h2 : b < B) (v0 v1 v2 v3 : Value) :
    ResTH h ok r w (.returned (.tuple #[tv k n s (.slice a m c), .bool ok])) ((((wr.setCell ⟨b, 0, none⟩ v0).setCell ⟨b, 1, none⟩ v1).setCell ⟨b, 2, none⟩ v2).setCell ⟨b, 3, none⟩ v3) := by
  have st : ∀ (W : World) (j : Nat) (v : Value), TermAt W B h (tv k n s (.slice a m c)) r → TermAt (W.setCell ⟨b, j, none⟩ v) B h (tv k n s (.slice a m c)) r := fun W j v q => by
    obtain ⟨k, n, s, u, xs, e1, e2, hs, ha⟩ := q
    exact ⟨k, n, s, u, xs, e1, e2, hs, ha.grown (set_grown W b j v) (fun i e => by cases e; exact h2)⟩
  exact ⟨k, n, s, a, m, c, rfl, (st _ _ _ (st _ _ _ (st _ _ _ (st _ _ _ ht)))).low (by omega), (((hb.setCell h1 _).setCell h1 _).setCell h1 _).setCell h1 _⟩

/-- Few binds, and each term has few nodes, however long its names are. -/
def FewB (bs : List (ByteArray × T)) : Prop := bs.length ≤ 4294967296 ∧ ∀ x ∈ bs, cT x.2 ≤ 1048578
theorem few_of_w {bs : List (ByteArray × T)} (h : wBs bs ≤ 1048577) : FewB bs := ⟨by have := wBs_len bs; omega, fun x hx => by
  obtain ⟨i, hi⟩ := List.mem_iff_getElem?.1 hx
  have h1 := wBs_mem hi
  have h2 := cT_le x.2
  omega⟩

set_option maxRecDepth 100000 in
set_option maxHeartbeats 1600000 in
theorem sFindB_anyF (u : Value) (nm : ByteArray) (bs : List (ByteArray × T)) (lo h : Nat) (w : World) (hw : FewB bs) (hv : BsAt w lo h u bs) :
    Calls Tryz.prog 58 #[u, .string nm] w (ResTH h (findB bs nm).isSome ((findB bs nm).getD zT) w) := by
  obtain ⟨W0, hW0⟩ : ∃ W0, W0 = w.alloc (.cells #[.int .i64 0, .int .i64 0, .string ⟨#[]⟩, .slice none 0 0] 26) := ⟨_, rfl⟩
  have hB0 : Below w.heap.size w W0 := by rw [hW0]; exact (Below.refl _ _).alloc (Nat.le_refl _) _
  have hs0 : W0.heap.size = w.heap.size + 1 := by rw [hW0]; simp
  have r0 : W0.heap[w.heap.size]? = some (trow 0 0 ByteArray.empty (.slice none 0 0)) := by rw [hW0]; exact heap_new _ _ rfl
  have hl : bs.length ≤ 4294967296 := hw.1
  have HV := Lib.hid (hv.below hB0)
  have HC := Lib.hid (sAt7_any u nm bs lo h W0 hl (hv.below hB0))
  obtain ⟨a, cap, rfl⟩ := hv.slice
  clear hv
  obtain ⟨n, hn⟩ : ∃ n, n = bs.length := ⟨_, rfl⟩
  rw [← hn] at HV hl HC ⊢
  have HN := Lib.hid hn; clear hn
  have HB0 := Lib.hid hB0; have HS0 := Lib.hid hs0; have HR0 := Lib.hid r0; have HW := Lib.hid hw
  clear hB0 hs0 r0 hw
  go_enter Tryz.func58, Tryz.ntmps58
  go_wp2_with fail
  rw [← hW0]
  clear hW0
  refine HC.out.mono ?_
  rintro e w1 ⟨rfl, hat⟩
  obtain ⟨⟨y0, y1, y2, y3⟩, f0, f1, f2, f3⟩ := cells_of4 HR0.out
  rcases hat with ⟨hno, rfl⟩ | ⟨k, x, rfl, hx, hyes⟩
  · have HF : Hid (∀ v0 v1 v2 v3, ResTH h (findB bs nm).isSome ((findB bs nm).getD zT) w (.returned (.tuple #[tv 0 0 ByteArray.empty (.slice none 0 0), .bool false])) ((((w1.setCell ⟨w.heap.size, 0, none⟩ v0).setCell ⟨w.heap.size, 1, none⟩ v1).setCell ⟨w.heap.size, 2, none⟩ v2).setCell ⟨w.heap.size, 3, none⟩ v3)) := Lib.hid (fun v0 v1 v2 v3 => by
      rw [hno]
      exact resT_fin (B := w.heap.size + 1) (h := h) (ok := false) ⟨_, _, _, _, [], rfl, rfl, by simp [maxLen], ArgsAt.nil _ _ _ _ _⟩ HB0.out (Nat.le_refl _) (Nat.lt_succ_self _) _ _ _ _)
    clear hno HC
    go_wp2
    (try simp only [Exit.inBlock, Exit.then])
    refine bodyPost_ret (v := .tuple #[tv 0 0 ByteArray.empty (.slice none 0 0), .bool false]) ?_ rfl ?_
    · refine results_ct (a := 4) (b := 5) (t := 26) (ad := ⟨w.heap.size, 0, none⟩) rfl rfl _ _ ?_
      go_simp
      try rfl
    · exact HF.out _ _ _ _
  · obtain ⟨b, o, c', p, tk', tn, tsn, txs, u', e, rfl, _, hps, hsz, c0, c1, c2, c3, c4, har⟩ := HV.out.at hx
    obtain ⟨rfl, -, rfl⟩ : a = some ⟨b, o, none⟩ ∧ n = bs.length ∧ cap = c' := by simpa using e
    have hkl : k < n := by have := (List.getElem?_eq_some_iff.1 hx).1; have := HN.out; omega
    have hwx := HW.out.2 _ (List.mem_of_getElem? hx)
    have HCP := Lib.hid (lcopy_anyK h (tv tk' tn tsn u') (.node tk' tn tsn txs) lo w1 ⟨_, _, _, _, txs, rfl, rfl, hsz, har⟩ (by simp only at hwx; omega))
    have HY := Lib.hid hyes
    clear hyes hwx hx e har HC
    go_wp2_with fail
    refine HCP.out.mono ?_
    rintro e w5 ⟨k5, n5, s5, a5, m5, c5, rfl, ht5, hb5⟩
    have q1 : w5.heap[w.heap.size]? = some (trow 0 0 ByteArray.empty (.slice none 0 0)) := (hb5.block _ (by have := HS0.out; omega)).trans HR0.out
    clear y0 y1 y2 y3 f0 f1 f2 f3
    obtain ⟨⟨y0, y1, y2, y3⟩, f0, f1, f2, f3⟩ := cells_of4 q1
    have HF : Hid (∀ v0 v1 v2 v3, ResTH h (findB bs nm).isSome ((findB bs nm).getD zT) w (.returned (.tuple #[tv k5 n5 s5 (.slice a5 m5 c5), .bool true])) ((((w5.setCell ⟨w.heap.size, 0, none⟩ v0).setCell ⟨w.heap.size, 1, none⟩ v1).setCell ⟨w.heap.size, 2, none⟩ v2).setCell ⟨w.heap.size, 3, none⟩ v3)) := Lib.hid (fun v0 v1 v2 v3 => by
      rw [HY.out]
      exact resT_fin (B := w1.heap.size) (ok := true) ht5 (HB0.out.trans (hb5.mono HB0.out.size)) (Nat.le_refl _) (by have := HS0.out; omega) _ _ _ _)
    clear c0 c1 c2 c3 c4 hsz hps ht5 hb5 q1
    go_wp2
    (try simp only [Exit.inBlock, Exit.then])
    refine bodyPost_ret (v := .tuple #[tv k5 n5 s5 (.slice a5 m5 c5), .bool true]) ?_ rfl ?_
    · refine results_ct (a := 4) (b := 5) (t := 26) (ad := ⟨w.heap.size, 0, none⟩) rfl rfl _ _ ?_
      go_simp
    · exact HF.out _ _ _ _
theorem sFindB_anyK (u : Value) (nm : ByteArray) (bs : List (ByteArray × T)) (lo h : Nat) (w : World) (hw : wBs bs ≤ 1048577) (hv : BsAt w lo h u bs) :
    Calls Tryz.prog 58 #[u, .string nm] w (ResTH h (findB bs nm).isSome ((findB bs nm).getD zT) w) := sFindB_anyF u nm bs lo h w (few_of_w hw) hv
theorem sFindB_anyH (u : Value) (nm : ByteArray) (bs : List (ByteArray × T)) (lo h : Nat) (w : World) (hw : wBs bs ≤ 1048576) (hv : BsAt w lo h u bs) :
    Calls Tryz.prog 58 #[u, .string nm] w (ResTH h (findB bs nm).isSome ((findB bs nm).getD zT) w) := sFindB_anyK u nm bs lo h w (by omega) hv
theorem sFindB_any (u : Value) (nm : ByteArray) (bs : List (ByteArray × T)) (lo h : Nat) (w : World) (hw : wBs bs ≤ 1048576) (hv : BsAt w lo h u bs) :
    Calls Tryz.prog 58 #[u, .string nm] w (ResT (findB bs nm).isSome ((findB bs nm).getD zT) w) :=
  (sFindB_anyH u nm bs lo h w hw hv).mono fun _ _ ⟨k, n, s, a, m, c, q⟩ => ⟨k, n, s, a, m, c, h, q⟩
end Go.Proofs.YtidbokheeieifaaGreatDoor
namespace Go.Proofs.YtidbokheeieifaaGreatDoor
open Go.RowKit

theorem infoPtr : (Tryz.prog.info? 81).map (fun i => (i.zero, i.size, i.bytes)) = some (some (.pointer none), 1, 8) := by kernel_rfl

/-- The box of the term and that of the answer, and the first list of what is to do. -/
abbrev boxC (w : World) (k n : Int) (s : ByteArray) (u : Value) : World :=
  ((boxed w k n s u).alloc (.cells #[.int .i64 0, .int .i64 0, .string ⟨#[]⟩, .slice none 0 0] 26)).alloc (.cells #[.pointer (some ⟨w.heap.size, 0, none⟩)] 81)
/-- What the box of the term holds at the end. -/
def FinC (w : World) (k n : Int) (s : ByteArray) (h : Nat) (xs : List T) (w' : World) : Prop :=
  ∃ u', w'.heap[w.heap.size]? = some (trow k n s u') ∧ OwnR (fun _ => True) w' h (w.heap.size + 2) w'.heap.size u' xs
def PbC (w : World) (b : Nat) : Prop := b = w.heap.size ∨ w.heap.size + 2 ≤ b

/-- What the cells of a row of arguments hold. -/
theorem args_row {w : World} {h pc : Nat} {pa : Option Addr} {xs : List T} (ha : ArgsAt w 0 h (.slice pa xs.length pc) xs) : ∃ vs, RowV w (h - 1) xs vs ∧ (pa = none → xs.length = 0) ∧ (∀ ad, pa = some ad → ∀ j u, vs[j]? = some u → w.cell? (ad.add j) = some u) ∧ (h = 0 → xs = []) := by
  rcases ha.cases with ⟨rfl, _⟩ | ⟨h', b, o, cap, rfl, e, _, _, hr⟩
  · exact ⟨[], rfl, (fun _ => rfl), (fun ad _ j u hu => by simp at hu), (fun _ => rfl)⟩
  · cases e
    obtain ⟨vs, h1, h2⟩ := RowV.of_row hr
    exact ⟨vs, h1, (fun e => by cases e), (fun ad e j u hu => by cases e; exact h2 j u hu), (fun e => by omega)⟩
theorem kid_rev (g h : Nat) (U : Nat → Value) (X : Nat → List T) (q : Nat) (ps : List Pd) : ((kidL g h U X (q + 1) ++ ps).reverse.map pP) = ((kidL g h U X q ++ ps).reverse.map pP) ++ [.pointer (some ⟨g, q * 4, none⟩)] := by
  simp [kidL, kid]

theorem kid_len (g h : Nat) (U : Nat → Value) (X : Nat → List T) (q : Nat) : (kidL g h U X q).length = q := by
  induction q with
  | zero => rfl
  | succ q ih => rw [kidL, List.length_cons, ih]
theorem copy_fin {w wr : World} {k n : Int} {s : ByteArray} {u : Value} {h : Nat} {xs : List T} (hs : s.size ≤ maxLen) (ho : OwnR (fun _ => True) wr h (w.heap.size + 2) wr.heap.size u xs) (hb : Below w.heap.size w wr) (v0 v1 v2 v3 : Value) :
    CopyR h (.node k n s xs) w (.returned (tv k n s u)) ((((wr.setCell ⟨w.heap.size + 1, 0, none⟩ v0).setCell ⟨w.heap.size + 1, 1, none⟩ v1).setCell ⟨w.heap.size + 1, 2, none⟩ v2).setCell ⟨w.heap.size + 1, 3, none⟩ v3) := by
  have st : ∀ (W : World) (j : Nat) (v : Value), OwnR (fun _ => True) W h (w.heap.size + 2) wr.heap.size u xs → OwnR (fun _ => True) (W.setCell ⟨w.heap.size + 1, j, none⟩ v) h (w.heap.size + 2) wr.heap.size u xs := fun W j v o =>
    o.keep fun b _ h1 _ => ⟨Below.heap_setCell _ _ _ _ (fun e => by simp at e; omega), trivial⟩
  refine ⟨k, n, s, u, xs, rfl, rfl, hs, (st _ _ _ (st _ _ _ (st _ _ _ (st _ _ _ ho)))).wide (by omega) (by simp [World.setCell]), ?_⟩
  exact (((hb.setCell (Nat.le_succ _) _).setCell (Nat.le_succ _) _).setCell (Nat.le_succ _) _).setCell (Nat.le_succ _) _

theorem heap_set_at {w : World} {b : Nat} {cs : Array Value} {e : TypeId} (h : w.heap[b]? = some (.cells cs e (0, 0))) (j : Nat) (v : Value) : (w.setCell ⟨b, j, none⟩ v).heap[b]? = some (.cells (cs.setIfInBounds j v) e (0, 0)) := by
  unfold World.setCell
  simp [Array.getElem?_modify, h]

theorem start_good (w : World) (k n : Int) (s : ByteArray) (a : Option Addr) (cap h : Nat) (xs : List T) (ha : ArgsAt w 0 h (.slice a xs.length cap) xs) :
    GoodW w (PbC w) (FinC w k n s h xs) [⟨w.heap.size, 0, h, .slice a xs.length cap, xs⟩] (.slice (some ⟨w.heap.size + 2, 0, none⟩) 1 1) (boxC w k n s (.slice a xs.length cap)) := by
  have r0 : (boxC w k n s (.slice a xs.length cap)).heap[w.heap.size]? = some (trow k n s (.slice a xs.length cap)) := by
    rw [Below.heap_alloc _ _ _ (by simp; omega), Below.heap_alloc _ _ _ (by simp)]; exact heap_new w _ rfl
  refine ⟨⟨?_, frozen_of_row _ _ _ _ _ r0, Or.inl rfl, by simp; omega, fun e => ?_, ha⟩, fun v' w' u' d => ?_⟩
  · have := cell_of_row _ w.heap.size 3 _ _ _ r0
    simpa using this
  · simp [Value.ownBlock] at e
  · refine ⟨u', ?_, (d.own.wide (by simp) (Nat.le_refl _)).keep (fun b _ _ _ => ⟨rfl, trivial⟩)⟩
    have := d.cell
    rw [show (0 + 3) = 3 by rfl] at this
    rw [this, heap_set_at r0]
    rfl

set_option maxRecDepth 100000 in
set_option maxHeartbeats 3200000 in
theorem copyI_anyK (v : Value) (t : T) (lo h : Nat) (w : World) (ht : TermAt w lo h v t) (hw : cT t ≤ 4294967296) : Calls Tryz.prog 87 #[v] w (CopyR h t w) := by
  obtain ⟨k, n, s, u, xs, rfl, rfl, hs, ha⟩ := ht
  obtain ⟨a, cap, rfl⟩ := ha.slice
  obtain ⟨i0, hi, hz0, hz1, hz2⟩ := info_parts infoPtr
  have HI := Lib.hid hi; clear hi
  have HZ0 := Lib.hid hz0; clear hz0
  have HZ1 := Lib.hid hz1; clear hz1
  have HZ2 := Lib.hid hz2; clear hz2
  have HS := Lib.hid hs; clear hs
  have HG0 := Lib.hid (start_good w k n s a cap h xs (ha.low (Nat.zero_le _)))
  obtain ⟨m0, hm0⟩ : ∃ m, m = xs.length := ⟨_, rfl⟩
  rw [← hm0] at HG0 ⊢
  obtain ⟨W0, hW0⟩ : ∃ W0, W0 = boxC w k n s (.slice a m0 cap) := ⟨_, rfl⟩
  have hB0 : Below w.heap.size w W0 := by rw [hW0]; exact ((boxed_below w k n s _).alloc (by simp) _).alloc (by simp; omega) _
  have hs0 : W0.heap.size = w.heap.size + 3 := by rw [hW0]; simp
  have r1 : W0.heap[w.heap.size + 1]? = some (trow 0 0 ByteArray.empty (.slice none 0 0)) := by
    rw [hW0, Below.heap_alloc _ _ _ (by simp)]; exact heap_new _ _ (by simp)
  have ho0 : W0.ownsRow (w.heap.size + 2) 81 1 (.slice (some ⟨w.heap.size + 2, 0, none⟩) 1 1) 1 [.pointer (some ⟨w.heap.size, 0, none⟩)] := by
    rw [hW0]
    have e : ((boxed w k n s (.slice a m0 cap)).alloc (.cells #[.int .i64 0, .int .i64 0, .string ⟨#[]⟩, .slice none 0 0] 26)).heap.size = w.heap.size + 2 := by simp
    have := World.ownsRow_lit (base := w.heap.size + 2) (size := 1) (e := 81) ((boxed w k n s (.slice a m0 cap)).alloc (.cells #[.int .i64 0, .int .i64 0, .string ⟨#[]⟩, .slice none 0 0] 26)) #[.pointer (some ⟨w.heap.size, 0, none⟩)] 1 (by rw [e]; omega) (by decide) rfl
    rw [e] at this
    exact this
  have HB0 := Lib.hid hB0; clear hB0
  have HS0 := Lib.hid hs0; clear hs0
  have HR1 := Lib.hid r1; clear r1
  have HO0 := Lib.hid ho0; clear ho0
  have HT0 : Hid (1 + cS xs ≤ 4294967296 ∧ todo [⟨w.heap.size, 0, h, .slice a m0 cap, xs⟩] = 1 + cS xs) := Lib.hid ⟨by have h1 := hw; rw [cT_node] at h1; omega, by simp [todo]⟩
  have HM0 := Lib.hid hm0; clear hm0 ha hw
  rw [← hW0] at HG0
  unfold boxC boxed at hW0
  go_enter Tryz.func87, Tryz.ntmps87
  go_wp2
  rw [← hW0]
  clear hW0
  go_loopg [3] (1 + cS xs) (fun g v wr => ∃ ps : List Pd, g = todo ps ∧ Hid (todo ps ≤ 4294967296) ∧ Hid (wr.ownsRow (w.heap.size + 2) 81 1 v ps.length (ps.reverse.map pP)) ∧ Hid (GoodW w (PbC w) (FinC w k n s h xs) ps v wr) ∧
    Hid (wr.heap[w.heap.size + 1]? = some (trow 0 0 ByteArray.empty (.slice none 0 0)) ∧ w.heap.size + 3 ≤ wr.heap.size) ∧ Hid (Below w.heap.size w wr))
  case atStart => exact ⟨_, HT0.out.2.symm, Lib.hid (by rw [HT0.out.2]; exact HT0.out.1), HO0, HG0, Lib.hid ⟨HR1.out, by rw [HS0.out]; exact Nat.le_refl _⟩, HB0⟩
  case round =>
    clear HG0 HO0 HR1 HB0 HS0
    obtain ⟨ps, hg, HT, HO, HG, HR, HB⟩ := hrel
    have HGH := Lib.hid hg; clear hg
    cases ps with
    | nil =>
      obtain ⟨a1, c1, rfl⟩ := own_formK HO.out
      obtain ⟨u', q0, hown⟩ := HG.out
      have q1 := HR.out.1
      obtain ⟨ua, uc, rfl⟩ := hown.slice
      rw [← HM0.out] at q0 hown
      have e0 := cell_of_row wr w.heap.size 0 _ _ _ q0
      have e1 := cell_of_row wr w.heap.size 1 _ _ _ q0
      have e2 := cell_of_row wr w.heap.size 2 _ _ _ q0
      have e3 := cell_of_row wr w.heap.size 3 _ _ _ q0
      have z0 := cell_of_row wr (w.heap.size + 1) 0 _ _ _ q1
      have z1 := cell_of_row wr (w.heap.size + 1) 1 _ _ _ q1
      have z2 := cell_of_row wr (w.heap.size + 1) 2 _ _ _ q1
      have z3 := cell_of_row wr (w.heap.size + 1) 3 _ _ _ q1
      have y0 := frozen_of_row wr (w.heap.size + 1) 0 _ _ q1
      have y1 := frozen_of_row wr (w.heap.size + 1) 1 _ _ q1
      have y2 := frozen_of_row wr (w.heap.size + 1) 2 _ _ q1
      have y3 := frozen_of_row wr (w.heap.size + 1) 3 _ _ q1
      simp at e0 e1 e2 e3 z0 z1 z2 z3
      have HF := Lib.hid (fun v0 v1 v2 v3 => copy_fin (k := k) (n := n) (v0 := v0) (v1 := v1) (v2 := v2) (v3 := v3) HS.out hown HB.out)
      clear q0 q1 hown HG
      go_wp2
      (try simp only [Exit.inBlock, Exit.then])
      refine bodyPost_ret (v := tv k n s (.slice ua m0 uc)) ?hr rfl ?_
      case hr =>
        rw [results_cell (a := 2) (t := 26) (ad := ⟨w.heap.size + 1, 0, none⟩) rfl rfl]
        go_simp
      exact HF.out _ _ _ _
    | cons p ps =>
      obtain ⟨n0, hn0⟩ : ∃ n0, n0 = ps.length := ⟨_, rfl⟩
      have ho := HO.out; clear HO
      rw [List.length_cons, ← hn0, List.reverse_cons, List.map_append] at ho
      have hN : n0 + 1 ≤ 4294967296 := by have h1 := todo_len (p :: ps); have h2 := HT.out; rw [List.length_cons, ← hn0] at h1; omega
      have hrl : (ps.reverse.map pP).length = n0 := by simp [hn0]
      have HN0 := Lib.hid hn0; clear hn0
      have hvl := ho.lt
      obtain ⟨a0, c0, rfl⟩ := own_formK ho
      obtain ⟨g0, rfl, hc0⟩ : ∃ g0, a0 = some ⟨g0, 0, none⟩ ∧ n0 + 1 ≤ c0 := by
        rcases ho.2 with ⟨e1, h0⟩ | ⟨g, c, cur, e1, hb, hg, hc, _⟩
        · omega
        · cases e1; exact ⟨g, rfl, hc⟩
      have hcp : wr.cell? ⟨g0, n0, none⟩ = some (.pointer (some ⟨p.b, p.o, none⟩)) := by
        rw [ho.cellAt n0 (by omega), List.getElem?_append_right (by omega), hrl, Nat.sub_self]; rfl
      have HF := Lib.hid (own_front ho hrl (by simp)); clear ho hrl
      obtain ⟨⟨hpc, hpf, hpb, hpl, hpn, hpa⟩, hcont⟩ := HG.out
      obtain ⟨pa, pc, hpu⟩ := hpa.slice
      obtain ⟨m, hm⟩ : ∃ m, m = p.xs.length := ⟨_, rfl⟩
      rw [hpu, ← hm] at hpc
      rw [hpu] at hpa
      have hml : m ≤ 4294967296 := by have h1 := todo_cons p ps; have h2 := HT.out; have h3 := len_le_cS p.xs; omega
      have HM := Lib.hid hm; clear hm
      have hwr : w.heap.size + 3 ≤ wr.heap.size := HR.out.2
      have hpa2 : ArgsAt w 0 p.h (.slice pa p.xs.length pc) p.xs := hpa
      obtain ⟨vs, hrow, hnone, hcells, hh0⟩ := args_row hpa2
      have hvs := hrow.len
      have hone := hrow.one
      have HCALL := Lib.hid (ownArgs_anyK p.b p.o pa m pc vs wr (by rw [HM.out]; exact hvs) hml (by rw [HM.out]; exact hnone) (fun ad e j u hu => by
        have h1 := hcells ad e j u hu
        rw [HB.out.cell (World.block_lt_of_cell? w _ h1)]; exact h1) hone hpc hpf)
      have HHR := Lib.hid (And.intro hrow hh0)
      have HPL := Lib.hid (And.intro hpl hpn)
      have HPF := Lib.hid (And.intro hpf (And.intro hpb hpa))
      have HCONT := Lib.hid hcont
      have HVL := Lib.hid (fun k hk => (hvl k hk).2)
      have HVL2 := Lib.hid (fun k hk => (hvl k hk).1)
      clear hrow hnone hcells hh0 hvs hone hpa2 hpa hcont hvl hpb hpn hpf HG
      go_wp2_with fail
      refine HCALL.out.mono ?_
      rintro e w2 ⟨rfl, u1, wc, rfl, how, hbw⟩
      obtain ⟨a1, c1, rfl⟩ := own_formK how
      have hwcz := hbw.size
      obtain ⟨w1, hw1⟩ : ∃ w1, w1 = wc.setCell ⟨p.b, p.o + 3, none⟩ (.slice a1 m c1) := ⟨_, rfl⟩
      rw [← hw1]
      have hz1 : w1.heap.size = wc.heap.size := by rw [hw1]; simp [World.setCell]
      have d3 : w1.cell? ⟨p.b, p.o + 3, none⟩ = some (.slice a1 m c1) := by
        rw [hw1]
        exact World.cell?_setCell_same' _ _ _ (by rw [hbw.cell HPL.out.1, hpc]; rfl)
      obtain ⟨g, hg⟩ : ∃ g, m = 0 ∨ a1 = some ⟨g, 0, none⟩ := by
        rcases how.2 with ⟨e1, h0⟩ | ⟨g, c, cur, e1, _⟩
        · exact ⟨0, Or.inl h0⟩
        · cases e1; exact ⟨g, Or.inr rfl⟩
      have HPUSH := Lib.hid (fun vi wi (hG : Grew (.slice (some ⟨g0, 0, none⟩) n0 c0) w1 vi wi) => good_push (w0 := w) (Pb := PbC w) (Fin := FinC w k n s h xs) (g := g) HCONT.out HPL.out.1 HPL.out.2 (by rw [← HM.out]; unfold maxLen; omega) HM.out (v1 := .slice (some ⟨g0, 0, none⟩) n0 c0) rfl HVL.out hbw how hg (fun b hb => Or.inr (by omega)) HHR.out.1 HHR.out.2 (by rw [← hw1]; exact hG))
      have HW1 : Hid (Below w.heap.size w w1) := Lib.hid (by
        rw [hw1]
        exact (HB.out.trans (hbw.mono HB.out.size)).setCell (by rcases HPF.out.2.1 with e | e <;> (show w.heap.size ≤ p.b; omega)) _)
      have HBX : Hid (w1.heap[w.heap.size + 1]? = some (trow 0 0 ByteArray.empty (.slice none 0 0))) := Lib.hid (by
        rw [hw1, Below.heap_setCell _ _ _ _ (fun e => by simp at e; rcases HPF.out.2.1 with h1 | h1 <;> omega), hbw.block _ (by omega)]
        exact HR.out.1)
      have hown1 : w1.ownsRow (w.heap.size + 2) 81 1 (.slice (some ⟨g0, 0, none⟩) n0 c0) n0 (ps.reverse.map pP) := by
        have hg0 := HVL.out g0 rfl
        exact row_keep (keep_own HF.out hbw) (by rw [hw1]; exact Below.heap_setCell _ _ _ _ (fun e => by simp at e; exact HPL.out.2 (by rw [← e]; rfl)))
      have HO1 := Lib.hid hown1
      have HD3 := Lib.hid d3
      have HG := Lib.hid hg
      have HZ1b := Lib.hid (And.intro hz1 hwcz)
      have HTD : Hid (todo (kidL g (p.h - 1) (fun i => (vs[i * 4 + 3]?).getD undef) (fun i => ((p.xs[i]?).map kT).getD []) m ++ ps) + 1 = todo (p :: ps)) := Lib.hid (by rw [todo_app, todo_kids _ _ _ _ _ (by rw [HM.out]; exact Nat.le_refl _), HM.out, List.take_length, todo_cons]; omega)
      have hpz : p.b < w1.heap.size := by omega
      have HPNV : Hid (NotOwn (.slice (some ⟨g0, 0, none⟩) n0 c0) p.b) := Lib.hid HPL.out.2
      clear hown1 hg hw1 how hbw HCALL hwcz hz1 hpc hcp hpu
      go_wp2
      go_loopw [3, 28] (fun vi i wi => ∃ q : Nat, q ≤ m ∧ i = .int .i64 q ∧ Hid (wi.ownsRow (w.heap.size + 2) 81 1 vi (n0 + q) ((kidL g (p.h - 1) (fun i => (vs[i * 4 + 3]?).getD undef) (fun i => ((p.xs[i]?).map kT).getD []) q ++ ps).reverse.map pP)) ∧
        Hid (Grew (.slice (some ⟨g0, 0, none⟩) n0 c0) w1 vi wi) ∧ Hid (Below w.heap.size w wi)) (fun _ i _ => m - (intOf i).toNat)
      case atStart => exact ⟨0, Nat.zero_le _, rfl, HO1, Lib.hid (Grew.refl _ _ _ rfl), HW1⟩
      case round =>
        obtain ⟨q, hq, rfl, HOI, HGI, HBI⟩ := hrel
        by_cases hlt : q < m
        · obtain rfl : a1 = some ⟨g, 0, none⟩ := HG.out.resolve_left (by omega)
          have hnm : n0 + m ≤ 8589934592 := by omega
          have e3 : wr.cell? ⟨p.b, p.o + 3, none⟩ = some (.slice (some ⟨g, 0, none⟩) m c1) := by
            rw [cell_heap (HGI.out.2.1 p.b hpz HPNV.out)]; exact HD3.out
          have hlo : w.heap.size + 2 ≤ wr.heap.size := by have := HGI.out.1; have := HZ1b.out; omega
          have HHI := Lib.hid hlt; have HNM := Lib.hid hnm; clear hnm
          go_wp2_with (first | (at_builtin; refine wpList_append_lies _ rfl (.tmp 31) (.tmp 38) 104 rfl (w.heap.size + 2) 81 i0 (.pointer none) 1 8 Tryz.underlying104 HI.out HZ0.out HZ1.out HZ2.out rfl (by decide) _ _ _ rfl (HOI.out.alloc _) ⟨wr.heap.size, 0, none⟩ 1 1 [.pointer (some ⟨g, q * 4, none⟩)] ?c0 rfl ?c1 ?c2 (by decide) ?c3 ?c4 ?c5 _ rfl ?_))
          case c2 => rfl
          case c3 => have := HNM.out; unfold maxLen; omega
          case c4 => have := HNM.out; omega
          case c5 => omega
          intro g3 cap3 w3 hown hgr hat hlt3
          have HG3 := Lib.hid (HGI.out.trans (grew_app (n := n0 + q + 1) (cap := cap3) (o := .cells #[.pointer (some ⟨g, q * 4, none⟩)] 81) hgr (by simpa using hat)))
          have HB3 : Hid (Below w.heap.size w w3) := Lib.hid ((HBI.out.alloc HBI.out.size (.cells #[.pointer (some ⟨g, q * 4, none⟩)] 81)).grown hgr (by simp; omega) (fun i hi => by have := (HOI.out.lt _ hi).1; omega))
          have HO3 : Hid (w3.ownsRow (w.heap.size + 2) 81 1 (.slice (some ⟨g3, 0, none⟩) (n0 + q + 1) cap3) (n0 + q + 1) ((kidL g (p.h - 1) (fun i => (vs[i * 4 + 3]?).getD undef) (fun i => ((p.xs[i]?).map kT).getD []) (q + 1) ++ ps).reverse.map pP)) := Lib.hid (by rw [kid_rev]; simpa using hown)
          clear hown hgr hat hlt3
          go_wp2
          go_roundw
          case rel => exact ⟨q + 1, by omega, by go_num, HO3, HG3, HB3⟩
          case measure => simp [intOf]; omega
        · have hqm : q = m := by omega
          subst hqm
          have HGD := Lib.hid (HPUSH.out _ _ HGI.out)
          have HLEN : Hid ((kidL g (p.h - 1) (fun i => (vs[i * 4 + 3]?).getD undef) (fun i => ((p.xs[i]?).map kT).getD []) q ++ ps).length = n0 + q) := Lib.hid (by rw [List.length_append, kid_len, HN0.out]; omega)
          have HBX2 : Hid (wr.heap[w.heap.size + 1]? = some (trow 0 0 ByteArray.empty (.slice none 0 0)) ∧ w.heap.size + 3 ≤ wr.heap.size) := Lib.hid (by
            have h1 := HZ1b.out
            have h2 := HGI.out.1
            refine ⟨(HGI.out.2.1 _ (by omega) (fun e => ?_)).trans HBX.out, by omega⟩
            have := HVL2.out g0 rfl
            simp [Value.ownBlock] at e; omega)
          clear hlt
          have hqq : ¬ q < q := by omega
          go_wp2
          go_roundg (todo (kidL g (p.h - 1) (fun i => (vs[i * 4 + 3]?).getD undef) (fun i => ((p.xs[i]?).map kT).getD []) q ++ ps))
          case measure => have := HTD.out; have := HGH.out; omega
          case rel => exact ⟨_, rfl, Lib.hid (by have := HTD.out; have := HT.out; omega), Lib.hid (by rw [HLEN.out]; exact HOI.out), HGD, HBX2, HBI⟩
theorem copyI_any (v : Value) (t : T) (lo h : Nat) (w : World) (ht : TermAt w lo h v t) (hw : wT t ≤ 4194303) : Calls Tryz.prog 87 #[v] w (CopyR h t w) := copyI_anyK v t lo h w ht (by have := cT_le t; omega)
end Go.Proofs.YtidbokheeieifaaGreatDoor
namespace Go.Proofs.YtidbokheeieifaaGreatDoor
open Go

/-- A string as the list of its bytes. -/
def key (s : ByteArray) : List UInt8 := s.data.toList
theorem key_inj {a b : ByteArray} (h : key a = key b) : a = b := by
  obtain ⟨⟨x⟩⟩ := a; obtain ⟨⟨y⟩⟩ := b
  unfold key at h
  simp at h
  rw [h]
theorem toList_key (a : ByteArray) : a.toList = key a := ByteArray.toList_eq a
theorem same_iff (a b : ByteArray) : (a.toList == b.toList) = true ↔ a = b := by
  rw [beq_iff_eq, toList_key, toList_key]
  exact ⟨key_inj, fun h => by rw [h]⟩
end Go.Proofs.YtidbokheeieifaaGreatDoor
