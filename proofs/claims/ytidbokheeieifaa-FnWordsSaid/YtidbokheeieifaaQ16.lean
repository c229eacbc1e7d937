/-
  Lists of Binds: what they hold, whose they are. No walk.
  The first Bind of a name; spec.l7At and spec.FindBind.
  Strings as lists of bytes: when two are equal. No program.
  impl.table: of several values that are added of one name, the first one counts; impl.substitutionOf, and the method find.
-/
import Derived.Test.YtidbokheeieifaaQ10
import Derived.Test.YtidbokheeieifaaQ11
import Derived.Test.YtidbokheeieifaaQ7
import Derived.Test.YtidbokheeieifaaQ8
import Derived.Test.YtidbokheeieifaaQ15
import Derived.WalkKit
import Derived.Maps.OwnSet
namespace Go.Proofs.Ytidbokheeieifaa
open Go.RowKit

/-- The slice value u holds the Binds bs, the rows below of a depth of at most h, in blocks from lo on. -/
def BsAt (w : World) (lo h : Nat) (u : Value) (bs : List (ByteArray × T)) : Prop :=
  ∃ a cap, u = .slice a bs.length cap ∧ bs.length ≤ maxLen ∧ (bs = [] ∨ ∃ b o, a = some ⟨b, o, none⟩ ∧ lo ≤ b ∧ ∀ i p k n s xs, bs[i]? = some (p, T.node k n s xs) → p.size ≤ maxLen ∧ s.size ≤ maxLen ∧ ∃ u', w.cell? ⟨b, o + i * 5, none⟩ = some (.string p) ∧
    w.cell? ⟨b, o + i * 5 + 1, none⟩ = some (.int .i64 k) ∧ w.cell? ⟨b, o + i * 5 + 2, none⟩ = some (.int .i64 n) ∧ w.cell? ⟨b, o + i * 5 + 3, none⟩ = some (.string s) ∧ w.cell? ⟨b, o + i * 5 + 4, none⟩ = some u' ∧ ArgsAt w lo h u' xs)
theorem BsAt.slice {w : World} {lo h : Nat} {u : Value} {bs : List (ByteArray × T)} (k : BsAt w lo h u bs) : ∃ a cap, u = .slice a bs.length cap := by
  obtain ⟨a, cap, e, _⟩ := k; exact ⟨a, cap, e⟩
theorem BsAt.len {w : World} {lo h : Nat} {u : Value} {bs : List (ByteArray × T)} (k : BsAt w lo h u bs) : bs.length ≤ maxLen := by
  obtain ⟨_, _, _, hl, _⟩ := k; exact hl
theorem BsAt.keep {w w' : World} {lo h : Nat} {u : Value} {bs : List (ByteArray × T)} (hk : ∀ (ad : Addr) v, lo ≤ ad.block → w.cell? ad = some v → w'.cell? ad = some v) (k : BsAt w lo h u bs) : BsAt w' lo h u bs := by
  obtain ⟨a, cap, e, hl, hc⟩ := k
  refine ⟨a, cap, e, hl, ?_⟩
  rcases hc with hc | ⟨b, o, ea, hb, hc⟩
  · exact Or.inl hc
  · refine Or.inr ⟨b, o, ea, hb, fun i p k n s xs hi => ?_⟩
    obtain ⟨hp, hs, u', c0, c1, c2, c3, c4, hr⟩ := hc i p k n s xs hi
    exact ⟨hp, hs, u', hk _ _ hb c0, hk _ _ hb c1, hk _ _ hb c2, hk _ _ hb c3, hk _ _ hb c4, hr.keep hk⟩
theorem BsAt.below {w w' : World} {lo h : Nat} {u : Value} {bs : List (ByteArray × T)} (k : BsAt w lo h u bs) (hb : Below w.heap.size w w') : BsAt w' lo h u bs :=
  k.keep fun ad v _ hv => by rw [hb.cell (World.block_lt_of_cell? w _ hv)]; exact hv
theorem BsAt.same {w w' : World} {lo h : Nat} {u : Value} {bs : List (ByteArray × T)} (k : BsAt w lo h u bs) (hs : Same lo w.heap.size w w') : BsAt w' lo h u bs :=
  k.keep fun ad v hlo hv => by
    have hl := World.block_lt_of_cell? w _ hv
    unfold World.cell? at *
    rw [hs ad.block hlo hl]; exact hv
theorem BsAt.kept {w : World} {lo h : Nat} {u : Value} {bs : List (ByteArray × T)} (k : BsAt w lo h u bs) : Kept lo w.heap.size (fun w' => BsAt w' lo h u bs) w := ⟨Nat.le_refl _, fun _ hs => k.same hs⟩
theorem BsAt.le {w : World} {lo h h' : Nat} {u : Value} {bs : List (ByteArray × T)} (k : BsAt w lo h u bs) (hle : h ≤ h') : BsAt w lo h' u bs := by
  obtain ⟨a, cap, e, hl, hc⟩ := k
  refine ⟨a, cap, e, hl, ?_⟩
  rcases hc with hc | ⟨b, o, ea, hb, hc⟩
  · exact Or.inl hc
  · refine Or.inr ⟨b, o, ea, hb, fun i p k n s xs hi => ?_⟩
    obtain ⟨hp, hs, u', c0, c1, c2, c3, c4, hr⟩ := hc i p k n s xs hi
    exact ⟨hp, hs, u', c0, c1, c2, c3, c4, hr.le hle⟩
theorem BsAt.low {w : World} {lo lo' h : Nat} {u : Value} {bs : List (ByteArray × T)} (k : BsAt w lo h u bs) (hlo : lo' ≤ lo) : BsAt w lo' h u bs := by
  obtain ⟨a, cap, e, hl, hc⟩ := k
  refine ⟨a, cap, e, hl, ?_⟩
  rcases hc with hc | ⟨b, o, ea, hb, hc⟩
  · exact Or.inl hc
  · refine Or.inr ⟨b, o, ea, Nat.le_trans hlo hb, fun i p k n s xs hi => ?_⟩
    obtain ⟨hp, hs, u', c0, c1, c2, c3, c4, hr⟩ := hc i p k n s xs hi
    exact ⟨hp, hs, u', c0, c1, c2, c3, c4, hr.low hlo⟩
/-- What a loop over the Binds sees. -/
theorem BsAt.at {w : World} {lo h : Nat} {u : Value} {bs : List (ByteArray × T)} (q : BsAt w lo h u bs) {i : Nat} {x : ByteArray × T} (hx : bs[i]? = some x) :
    ∃ b o cap p k n s xs u', u = .slice (some ⟨b, o, none⟩) bs.length cap ∧ x = (p, T.node k n s xs) ∧ lo ≤ b ∧ p.size ≤ maxLen ∧ s.size ≤ maxLen ∧ w.cell? ⟨b, o + i * 5, none⟩ = some (.string p) ∧
    w.cell? ⟨b, o + i * 5 + 1, none⟩ = some (.int .i64 k) ∧ w.cell? ⟨b, o + i * 5 + 2, none⟩ = some (.int .i64 n) ∧ w.cell? ⟨b, o + i * 5 + 3, none⟩ = some (.string s) ∧ w.cell? ⟨b, o + i * 5 + 4, none⟩ = some u' ∧ ArgsAt w lo h u' xs := by
  obtain ⟨a, cap, rfl, hl, hc⟩ := q
  obtain ⟨p, k, n, s, xs⟩ := x
  rcases hc with rfl | ⟨b, o, rfl, hb, hc⟩
  · simp at hx
  · obtain ⟨hp, hs, u', c0, c1, c2, c3, c4, hr⟩ := hc i p k n s xs hx
    exact ⟨b, o, cap, p, k, n, s, xs, u', rfl, rfl, hb, hp, hs, c0, c1, c2, c3, c4, hr⟩

/-- The Binds' row and the rows below are owned, lie in blocks from lo to hi, and lie apart. -/
def OwnBs (w : World) (h lo hi : Nat) (u : Value) (bs : List (ByteArray × T)) : Prop :=
  ∃ a cap, u = .slice a bs.length cap ∧ (bs = [] ∨ ∃ (g : Nat) (xs : List Value) (U : Nat → Value) (L R : Nat → Nat), a = some ⟨g, 0, none⟩ ∧ lo ≤ g ∧ g < hi ∧ w.ownsRow g 148 5 u bs.length xs ∧
    (∀ i p k n s txs, bs[i]? = some (p, T.node k n s txs) → xs[i * 5 + 4]? = some (U i) ∧ lo ≤ L i ∧ R i ≤ hi ∧ (g < L i ∨ R i ≤ g) ∧ OwnA w h (L i) (R i) (U i) txs) ∧
    (∀ i j, i < j → j < bs.length → R i ≤ L j ∨ R j ≤ L i))
theorem OwnBs.same {w w' : World} {h lo hi : Nat} {u : Value} {bs : List (ByteArray × T)} (k : OwnBs w h lo hi u bs) (hs : Same lo hi w w') : OwnBs w' h lo hi u bs := by
  obtain ⟨a, cap, e, hc⟩ := k
  refine ⟨a, cap, e, ?_⟩
  rcases hc with hc | ⟨g, xs, U, L, R, rfl, h1, h2, ho, hx, hd⟩
  · exact Or.inl hc
  · subst e
    refine Or.inr ⟨g, xs, U, L, R, rfl, h1, h2, row_keep ho (hs g h1 h2), fun i p k n s txs hi => ?_, hd⟩
    obtain ⟨x3, l1, l2, l3, hr⟩ := hx i p k n s txs hi
    exact ⟨x3, l1, l2, l3, hr.keep fun b b1 b2 => hs b (by omega) (by omega)⟩
theorem OwnBs.wide {w : World} {h lo hi lo' hi' : Nat} {u : Value} {bs : List (ByteArray × T)} (k : OwnBs w h lo hi u bs) (h1 : lo' ≤ lo) (h2 : hi ≤ hi') : OwnBs w h lo' hi' u bs := by
  obtain ⟨a, cap, e, hc⟩ := k
  refine ⟨a, cap, e, ?_⟩
  rcases hc with hc | ⟨g, xs, U, L, R, ea, g1, g2, ho, hx, hd⟩
  · exact Or.inl hc
  · refine Or.inr ⟨g, xs, U, L, R, ea, by omega, by omega, ho, fun i p k n s txs hi => ?_, hd⟩
    obtain ⟨x3, l1, l2, l3, hr⟩ := hx i p k n s txs hi
    exact ⟨x3, by omega, by omega, l3, hr⟩
/-- A list of Binds, its row and those below, in blocks from lo to hi. -/
def BsObj (lo hi h : Nat) (u : Value) (bs : List (ByteArray × T)) (w : World) : Prop := BsAt w lo h u bs ∧ OwnBs w h lo hi u bs
theorem BsObj.kept {lo h : Nat} {u : Value} {bs : List (ByteArray × T)} {w : World} (x : BsObj lo w.heap.size h u bs w) : Kept lo w.heap.size (BsObj lo w.heap.size h u bs) w :=
  ⟨Nat.le_refl _, fun _ hs => ⟨x.1.same hs, x.2.same hs⟩⟩

/-- How much the Binds hold. -/
def wBs (bs : List (ByteArray × T)) : Nat := bs.length + (bs.map fun x => x.1.size + wT x.2).sum
/-- How many marks they take. -/
def mBs (bs : List (ByteArray × T)) : Nat := (bs.map fun x => 1 + 3 * cT x.2).sum
theorem wBs_len (bs : List (ByteArray × T)) : bs.length ≤ wBs bs := Nat.le_add_right _ _
theorem mBs_le (bs : List (ByteArray × T)) : mBs bs ≤ 4 * wBs bs := by
  unfold mBs wBs
  induction bs with
  | nil => simp
  | cons x r ih =>
    have := cT_le x.2
    simp only [List.map_cons, List.sum_cons, List.length_cons] at *
    omega
theorem mBs_snoc (bs : List (ByteArray × T)) (x : ByteArray × T) : mBs (bs ++ [x]) = mBs bs + (1 + 3 * cT x.2) := by simp [mBs]
theorem wBs_snoc (bs : List (ByteArray × T)) (x : ByteArray × T) : wBs (bs ++ [x]) = wBs bs + (1 + x.1.size + wT x.2) := by simp [wBs]; omega
theorem mBs_take (bs : List (ByteArray × T)) (k : Nat) : mBs (bs.take k) ≤ mBs bs := by
  have h : mBs bs = mBs (bs.take k) + mBs (bs.drop k) := by
    unfold mBs
    rw [← List.sum_append, ← List.map_append, List.take_append_drop]
  omega
theorem wBs_take (bs : List (ByteArray × T)) (k : Nat) : wBs (bs.take k) ≤ wBs bs := by
  have h : wBs bs = wBs (bs.take k) + wBs (bs.drop k) := by
    have e := List.take_append_drop k bs
    conv => lhs; rw [← e]
    unfold wBs
    rw [List.map_append, List.sum_append, List.length_append]; omega
  omega
theorem wBs_mem {bs : List (ByteArray × T)} {k : Nat} {x : ByteArray × T} (h : bs[k]? = some x) : 1 + x.1.size + wT x.2 ≤ wBs bs := by
  have h1 := wBs_take bs (k + 1)
  rw [tk bs k x h, wBs_snoc] at h1
  omega
theorem len_mBs (bs : List (ByteArray × T)) : bs.length ≤ mBs bs := by
  unfold mBs
  induction bs with
  | nil => simp
  | cons x r ih => simp only [List.map_cons, List.sum_cons, List.length_cons] at *; omega
/-- The value of a Bind. -/
abbrev bv (p : ByteArray) (k n : Int) (s : ByteArray) (u : Value) : Value := .agg #[.string p, .int .i64 k, .int .i64 n, .string s, u]
end Go.Proofs.Ytidbokheeieifaa
namespace Go.Proofs.Ytidbokheeieifaa
open Go.RowKit

/-- The term of the first Bind of a name. -/
def findB (bs : List (ByteArray × T)) (nm : ByteArray) : Option T := (bs.find? (fun x => x.1.toList == nm.toList)).map Prod.snd
theorem findB_at {bs : List (ByteArray × T)} {nm : ByteArray} {k : Nat} {x : ByteArray × T} (hn : ∀ y ∈ bs.take k, (y.1.toList == nm.toList) = false) (hk : bs[k]? = some x) (hp : (x.1.toList == nm.toList) = true) : findB bs nm = some x.2 := by
  have e : bs = bs.take k ++ x :: bs.drop (k + 1) := by
    obtain ⟨_, h⟩ := List.getElem?_eq_some_iff.1 hk
    rw [← h, List.getElem_cons_drop, List.take_append_drop]
  unfold findB
  rw [e, List.find?_append, List.find?_eq_none.2 (fun y hy => by simpa using hn y hy)]
  simp [hp]
theorem findB_none {bs : List (ByteArray × T)} {nm : ByteArray} (hn : ∀ y ∈ bs, (y.1.toList == nm.toList) = false) : findB bs nm = none := by
  unfold findB
  rw [List.find?_eq_none.2 (fun y hy => by simpa using hn y hy)]; rfl
theorem findB_w {bs : List (ByteArray × T)} {nm : ByteArray} {t : T} (h : findB bs nm = some t) : wT t ≤ wBs bs := by
  unfold findB at h
  obtain ⟨x, hx, rfl⟩ := Option.map_eq_some_iff.1 h
  obtain ⟨k, hk⟩ := List.mem_iff_getElem?.1 (List.mem_of_find?_eq_some hx)
  have := wBs_mem hk
  omega

theorem findB_w1 {bs : List (ByteArray × T)} {nm : ByteArray} {t : T} (h : findB bs nm = some t) : 1 + wT t ≤ wBs bs := by
  unfold findB at h
  obtain ⟨x, hx, rfl⟩ := Option.map_eq_some_iff.1 h
  obtain ⟨k, hk⟩ := List.mem_iff_getElem?.1 (List.mem_of_find?_eq_some hx)
  have := wBs_mem hk
  omega

/-- Where the first Bind of a name stands. -/
def AtE (bs : List (ByteArray × T)) (nm : ByteArray) (w : World) (e : Ending) (w' : World) : Prop :=
  w' = w ∧ ((findB bs nm = none ∧ e = .returned (.int .i64 (-1))) ∨ ∃ (k : Nat) (x : ByteArray × T), e = .returned (.int .i64 k) ∧ bs[k]? = some x ∧ findB bs nm = some x.2)

set_option maxRecDepth 100000 in
set_option maxHeartbeats 1600000 in
theorem sAt7_any (u : Value) (nm : ByteArray) (bs : List (ByteArray × T)) (lo h : Nat) (w : World) (hl : bs.length ≤ 4294967296) (hv : BsAt w lo h u bs) :
    Calls Try.prog 149 #[u, .string nm] w (AtE bs nm w) := by
  have HV := Lib.hid hv
  obtain ⟨a, cap, rfl⟩ := hv.slice
  clear hv
  obtain ⟨n, hn⟩ : ∃ n, n = bs.length := ⟨_, rfl⟩
  rw [← hn] at HV hl ⊢
  have HN := Lib.hid hn; clear hn
  go_enter Try.func149, Try.ntmps149
  go_wp2
  go_loop [5] (fun i => ∃ k : Nat, k ≤ n ∧ i = .int .i64 k ∧ Hid (∀ x ∈ bs.take k, (x.1.toList == nm.toList) = false)) (fun i => n - (intOf i).toNat)
  case atStart => exact ⟨0, Nat.zero_le _, rfl, Lib.hid (by simp)⟩
  case round =>
    obtain ⟨k, hk, rfl, HF⟩ := hrel
    by_cases hlt : k < n
    · obtain ⟨x, hx⟩ : ∃ x, bs[k]? = some x := ⟨_, List.getElem?_eq_getElem (by have := HN.out; omega)⟩
      obtain ⟨b, o, c', p, tk', tn, tsn, txs, u', e, rfl, _, _, _, c0, c1, c2, c3, c4, _⟩ := HV.out.at hx
      obtain ⟨rfl, -, rfl⟩ : a = some ⟨b, o, none⟩ ∧ n = bs.length ∧ cap = c' := by simpa using e
      have HX := Lib.hid hx; clear hx e
      by_cases hq : (p.toList == nm.toList) = true
      · have HE := Lib.hid (findB_at HF.out HX.out hq)
        go_wp2
        go_ret
        exact ⟨rfl, Or.inr ⟨k, _, rfl, HX.out, HE.out⟩⟩
      · have hq2 : (p.toList == nm.toList) = false := by simpa using hq
        clear hq
        have HF2 : Hid (∀ x ∈ bs.take (k + 1), (x.1.toList == nm.toList) = false) := Lib.hid (fun x hx => by
          rw [List.take_add_one, HX.out] at hx
          rcases List.mem_append.1 hx with h | h
          · exact HF.out x h
          · simp at h; subst h; exact hq2)
        go_wp2
        go_round
        case rel => exact ⟨k + 1, by omega, by go_num, HF2⟩
        case measure => simp [intOf]; omega
    · have HE : Hid (findB bs nm = none) := Lib.hid (findB_none (by
        have h := HF.out
        rw [List.take_of_length_le (by have := HN.out; omega)] at h
        exact h))
      go_wp2
      go_ret
      exact ⟨rfl, Or.inl ⟨HE.out, rfl⟩⟩

/-- An answer that is a term of a depth of at most h, and a word. -/
def ResTH (h : Nat) (ok : Bool) (r : T) (w : World) (e : Ending) (w' : World) : Prop :=
  ∃ k n s a m c, e = .returned (.tuple #[tv k n s (.slice a m c), .bool ok]) ∧ TermAt w' w.heap.size h (tv k n s (.slice a m c)) r ∧ Below w.heap.size w w'
theorem resT_fin {w wr : World} {b B : Nat} {ok : Bool} {k n : Int} {s : ByteArray} {a : Option Addr} {m c h : Nat} {r : T} (ht : TermAt wr B h (tv k n s (.slice a m c)) r) (hb : Below w.heap.size w wr) (h1 : w.heap.size ≤ b) (h2 : b < B) (v0 v1 v2 v3 : Value) :
    ResTH h ok r w (.returned (.tuple #[tv k n s (.slice a m c), .bool ok])) ((((wr.setCell ⟨b, 0, none⟩ v0).setCell ⟨b, 1, none⟩ v1).setCell ⟨b, 2, none⟩ v2).setCell ⟨b, 3, none⟩ v3) := by
  have st : ∀ (W : World) (j : Nat) (v : Value), TermAt W B h (tv k n s (.slice a m c)) r → TermAt (W.setCell ⟨b, j, none⟩ v) B h (tv k n s (.slice a m c)) r := fun W j v q => by
    obtain ⟨k, n, s, u, xs, e1, e2, hs, ha⟩ := q
    exact ⟨k, n, s, u, xs, e1, e2, hs, ha.grown (set_grown W b j v) (fun i e => by cases e; exact h2)⟩
  exact ⟨k, n, s, a, m, c, rfl, (st _ _ _ (st _ _ _ (st _ _ _ (st _ _ _ ht)))).low (by omega), (((hb.setCell h1 _).setCell h1 _).setCell h1 _).setCell h1 _⟩

/-- Few binds, and each term has few nodes, however long its names are. -/
def FewB (bs : List (ByteArray × T)) : Prop := bs.length ≤ 4294967296 ∧ ∀ x ∈ bs, cT x.2 ≤ 1048578
theorem few_of_w {bs : List (ByteArray × T)} (h : wBs bs ≤ 1048577) : FewB bs := ⟨by have := wBs_len bs; omega, fun x hx => by
  obtain ⟨i, hi⟩ := List.mem_iff_getElem?.1 hx
  have h1 := wBs_mem hi
  have h2 := cT_le x.2
  omega⟩

set_option maxRecDepth 100000 in
set_option maxHeartbeats 1600000 in
theorem sFindB_anyF (u : Value) (nm : ByteArray) (bs : List (ByteArray × T)) (lo h : Nat) (w : World) (hw : FewB bs) (hv : BsAt w lo h u bs) :
    Calls Try.prog 126 #[u, .string nm] w (ResTH h (findB bs nm).isSome ((findB bs nm).getD zT) w) := by
  obtain ⟨W0, hW0⟩ : ∃ W0, W0 = w.alloc (.cells #[.int .i64 0, .int .i64 0, .string ⟨#[]⟩, .slice none 0 0] 26) := ⟨_, rfl⟩
  have hB0 : Below w.heap.size w W0 := by rw [hW0]; exact (Below.refl _ _).alloc (Nat.le_refl _) _
  have hs0 : W0.heap.size = w.heap.size + 1 := by rw [hW0]; simp
  have r0 : W0.heap[w.heap.size]? = some (trow 0 0 ByteArray.empty (.slice none 0 0)) := by rw [hW0]; exact heap_new _ _ rfl
  have hl : bs.length ≤ 4294967296 := hw.1
  have HV := Lib.hid (hv.below hB0)
  have HC := Lib.hid (sAt7_any u nm bs lo h W0 hl (hv.below hB0))
  obtain ⟨a, cap, rfl⟩ := hv.slice
  clear hv
  obtain ⟨n, hn⟩ : ∃ n, n = bs.length := ⟨_, rfl⟩
  rw [← hn] at HV hl HC ⊢
  have HN := Lib.hid hn; clear hn
  have HB0 := Lib.hid hB0; have HS0 := Lib.hid hs0; have HR0 := Lib.hid r0; have HW := Lib.hid hw
  clear hB0 hs0 r0 hw
  go_enter Try.func126, Try.ntmps126
  go_wp2_with fail
  rw [← hW0]
  clear hW0
  refine HC.out.mono ?_
  rintro e w1 ⟨rfl, hat⟩
  obtain ⟨⟨y0, y1, y2, y3⟩, f0, f1, f2, f3⟩ := cells_of4 HR0.out
  rcases hat with ⟨hno, rfl⟩ | ⟨k, x, rfl, hx, hyes⟩
  · have HF : Hid (∀ v0 v1 v2 v3, ResTH h (findB bs nm).isSome ((findB bs nm).getD zT) w (.returned (.tuple #[tv 0 0 ByteArray.empty (.slice none 0 0), .bool false])) ((((w1.setCell ⟨w.heap.size, 0, none⟩ v0).setCell ⟨w.heap.size, 1, none⟩ v1).setCell ⟨w.heap.size, 2, none⟩ v2).setCell ⟨w.heap.size, 3, none⟩ v3)) := Lib.hid (fun v0 v1 v2 v3 => by
      rw [hno]
      exact resT_fin (B := w.heap.size + 1) (h := h) (ok := false) ⟨_, _, _, _, [], rfl, rfl, by simp [maxLen], ArgsAt.nil _ _ _ _ _⟩ HB0.out (Nat.le_refl _) (Nat.lt_succ_self _) _ _ _ _)
    clear hno HC
    go_wp2
    (try simp only [Exit.inBlock, Exit.then])
    refine bodyPost_ret (v := .tuple #[tv 0 0 ByteArray.empty (.slice none 0 0), .bool false]) ?_ rfl ?_
    · refine results_ct (a := 4) (b := 5) (t := 26) (ad := ⟨w.heap.size, 0, none⟩) rfl rfl _ _ ?_
      go_simp
      try rfl
    · exact HF.out _ _ _ _
  · obtain ⟨b, o, c', p, tk', tn, tsn, txs, u', e, rfl, _, hps, hsz, c0, c1, c2, c3, c4, har⟩ := HV.out.at hx
    obtain ⟨rfl, -, rfl⟩ : a = some ⟨b, o, none⟩ ∧ n = bs.length ∧ cap = c' := by simpa using e
    have hkl : k < n := by have := (List.getElem?_eq_some_iff.1 hx).1; have := HN.out; omega
    have hwx := HW.out.2 _ (List.mem_of_getElem? hx)
    have HCP := Lib.hid (lcopy_anyK h (tv tk' tn tsn u') (.node tk' tn tsn txs) lo w1 ⟨_, _, _, _, txs, rfl, rfl, hsz, har⟩ (by simp only at hwx; omega))
    have HY := Lib.hid hyes
    clear hyes hwx hx e har HC
    go_wp2_with fail
    refine HCP.out.mono ?_
    rintro e w5 ⟨k5, n5, s5, a5, m5, c5, rfl, ht5, hb5⟩
    have q1 : w5.heap[w.heap.size]? = some (trow 0 0 ByteArray.empty (.slice none 0 0)) := (hb5.block _ (by have := HS0.out; omega)).trans HR0.out
    clear y0 y1 y2 y3 f0 f1 f2 f3
    obtain ⟨⟨y0, y1, y2, y3⟩, f0, f1, f2, f3⟩ := cells_of4 q1
    have HF : Hid (∀ v0 v1 v2 v3, ResTH h (findB bs nm).isSome ((findB bs nm).getD zT) w (.returned (.tuple #[tv k5 n5 s5 (.slice a5 m5 c5), .bool true])) ((((w5.setCell ⟨w.heap.size, 0, none⟩ v0).setCell ⟨w.heap.size, 1, none⟩ v1).setCell ⟨w.heap.size, 2, none⟩ v2).setCell ⟨w.heap.size, 3, none⟩ v3)) := Lib.hid (fun v0 v1 v2 v3 => by
      rw [HY.out]
      exact resT_fin (B := w1.heap.size) (ok := true) ht5 (HB0.out.trans (hb5.mono HB0.out.size)) (Nat.le_refl _) (by have := HS0.out; omega) _ _ _ _)
    clear c0 c1 c2 c3 c4 hsz hps ht5 hb5 q1
    go_wp2
    (try simp only [Exit.inBlock, Exit.then])
    refine bodyPost_ret (v := .tuple #[tv k5 n5 s5 (.slice a5 m5 c5), .bool true]) ?_ rfl ?_
    · refine results_ct (a := 4) (b := 5) (t := 26) (ad := ⟨w.heap.size, 0, none⟩) rfl rfl _ _ ?_
      go_simp
    · exact HF.out _ _ _ _
theorem sFindB_anyK (u : Value) (nm : ByteArray) (bs : List (ByteArray × T)) (lo h : Nat) (w : World) (hw : wBs bs ≤ 1048577) (hv : BsAt w lo h u bs) :
    Calls Try.prog 126 #[u, .string nm] w (ResTH h (findB bs nm).isSome ((findB bs nm).getD zT) w) := sFindB_anyF u nm bs lo h w (few_of_w hw) hv
theorem sFindB_anyH (u : Value) (nm : ByteArray) (bs : List (ByteArray × T)) (lo h : Nat) (w : World) (hw : wBs bs ≤ 1048576) (hv : BsAt w lo h u bs) :
    Calls Try.prog 126 #[u, .string nm] w (ResTH h (findB bs nm).isSome ((findB bs nm).getD zT) w) := sFindB_anyK u nm bs lo h w (by omega) hv
theorem sFindB_any (u : Value) (nm : ByteArray) (bs : List (ByteArray × T)) (lo h : Nat) (w : World) (hw : wBs bs ≤ 1048576) (hv : BsAt w lo h u bs) :
    Calls Try.prog 126 #[u, .string nm] w (ResT (findB bs nm).isSome ((findB bs nm).getD zT) w) :=
  (sFindB_anyH u nm bs lo h w hw hv).mono fun _ _ ⟨k, n, s, a, m, c, q⟩ => ⟨k, n, s, a, m, c, h, q⟩
end Go.Proofs.Ytidbokheeieifaa
namespace Go.Proofs.Ytidbokheeieifaa
open Go

/-- A string as the list of its bytes. -/
def key (s : ByteArray) : List UInt8 := s.data.toList
theorem key_inj {a b : ByteArray} (h : key a = key b) : a = b := by
  obtain ⟨⟨x⟩⟩ := a; obtain ⟨⟨y⟩⟩ := b
  unfold key at h
  simp at h
  rw [h]
theorem toList_key (a : ByteArray) : a.toList = key a := ByteArray.toList_eq a
theorem same_iff (a b : ByteArray) : (a.toList == b.toList) = true ↔ a = b := by
  rw [beq_iff_eq, toList_key, toList_key]
  exact ⟨key_inj, fun h => by rw [h]⟩
end Go.Proofs.Ytidbokheeieifaa
namespace Go.Proofs.Ytidbokheeieifaa
open Go.RowKit Go.Maps Go.WideMaps

theorem lawStrT : Keyed Try.prog 9 := string_keyed Try.underlying9
/-- How a value of the table reads: as itself. -/
def heldV (v : Value) : Option (DataW Value × List MemPlace) := some (.held v, [])
abbrev zTv : Value := tv 0 0 ByteArray.empty (.slice none 0 0)
theorem zeroTerm (W : World) : (zeroValue 26).run Try.prog W = .ok zTv W := by kernel_rfl

/-- The value of the first entry of a name. -/
def firstV (l : List (ByteArray × Value)) (nm : ByteArray) : Option Value := (l.find? (fun x => x.1.toList == nm.toList)).map Prod.snd
theorem firstV_snoc_some {l : List (ByteArray × Value)} {nm : ByteArray} {v : Value} (x : ByteArray × Value) (h : firstV l nm = some v) : firstV (l ++ [x]) nm = some v := by
  unfold firstV at *
  rw [List.find?_append]
  cases e : l.find? (fun x => x.1.toList == nm.toList) with
  | none => rw [e] at h; cases h
  | some y => rw [e] at h; simpa using h
theorem firstV_snoc_none {l : List (ByteArray × Value)} {nm : ByteArray} (x : ByteArray × Value) (h : firstV l nm = none) : firstV (l ++ [x]) nm = if x.1 = nm then some x.2 else none := by
  unfold firstV at *
  rw [List.find?_append]
  cases e : l.find? (fun x => x.1.toList == nm.toList) with
  | some y => rw [e] at h; cases h
  | none =>
    by_cases hx : x.1 = nm
    · have : (x.1.toList == nm.toList) = true := (same_iff _ _).2 hx
      simp [hx]
    · have : (x.1.toList == nm.toList) = false := by
        cases hb : (x.1.toList == nm.toList) with
        | false => rfl
        | true => exact absurd ((same_iff _ _).1 hb) hx
      simp [this, hx]

/-- The datum D says which value each name has. -/
def TabOk (l : List (ByteArray × Value)) (D : DataW Value) : Prop :=
  IsMap D ∧ ∀ nm, (firstV l nm = none → has D (.string (key nm)) = false) ∧ ∀ v, firstV l nm = some v → has D (.string (key nm)) = true ∧ ∀ z, D.atKey (.string (key nm)) z = .held v
theorem TabOk.nil : TabOk [] (.map []) := ⟨isMap_empty, fun nm => ⟨fun _ => rfl, fun v h => by cases h⟩⟩
theorem TabOk.known {l : List (ByteArray × Value)} {D : DataW Value} (h : TabOk l D) {nm : ByteArray} (v : Value) (hk : has D (.string (key nm)) = true) : TabOk (l ++ [(nm, v)]) D := by
  refine ⟨h.1, fun n => ?_⟩
  obtain ⟨h1, h2⟩ := h.2 n
  cases e : firstV l n with
  | some y =>
    rw [firstV_snoc_some _ e]
    exact ⟨(fun q => by cases q), fun v hv => by cases hv; exact h2 y e⟩
  | none =>
    rw [firstV_snoc_none _ e]
    by_cases hn : nm = n
    · subst hn
      rw [h1 e] at hk; cases hk
    · simp only [if_neg hn]
      exact ⟨fun _ => h1 e, fun v hv => by cases hv⟩
theorem TabOk.add {l : List (ByteArray × Value)} {D : DataW Value} (h : TabOk l D) {nm : ByteArray} (v : Value) (hk : has D (.string (key nm)) = false) : TabOk (l ++ [(nm, v)]) (D.put (.string (key nm)) (.held v)) := by
  refine ⟨h.1.put _ _, fun n => ?_⟩
  obtain ⟨h1, h2⟩ := h.2 n
  by_cases hn : nm = n
  · subst hn
    have e : firstV l nm = none := by
      cases e : firstV l nm with
      | none => rfl
      | some y => rw [(h2 y e).1] at hk; cases hk
    rw [firstV_snoc_none _ e]
    simp only [if_true]
    exact ⟨(fun q => by cases q), fun v' hv => by cases hv; exact ⟨has_put_same h.1 (show WideAt.IsKeyLit (.string (key nm)) from trivial) _, fun z => atKey_put_same h.1 (show WideAt.IsKeyLit (.string (key nm)) from trivial) _ z⟩⟩
  · have hne : Lit.string (key n) ≠ .string (key nm) := fun e => hn (key_inj (by injection e with e1; exact e1.symm))
    rw [has_put_other hne]
    have hat := fun z => atKey_put_other (D := D) (d := .held v) (z := z) hne
    cases e : firstV l n with
    | some y =>
      rw [firstV_snoc_some _ e]
      exact ⟨(fun q => by cases q), fun v' hv => by cases hv; exact ⟨(h2 y e).1, fun z => by rw [hat]; exact (h2 y e).2 z⟩⟩
    | none =>
      rw [firstV_snoc_none _ e]
      simp only [if_neg hn]
      exact ⟨fun _ => h1 e, fun v hv => by cases hv⟩

/-- Block b is a table of the entries l. -/
def TabAt (b : Nat) (l : List (ByteArray × Value)) (w : World) : Prop := ∃ D, w.ownsMap Try.prog 9 heldV b l.length D ∧ TabOk l D
theorem TabAt.kept {b : Nat} {l : List (ByteArray × Value)} {w w' : World} {row : Option Nat} (h : TabAt b l w) (hg : w.grownBy w' row) (hne : some b ≠ row) : TabAt b l w' := by
  obtain ⟨D, ho, hk⟩ := h
  exact ⟨D, ho.kept hg hne, hk⟩
theorem TabAt.below {b : Nat} {l : List (ByteArray × Value)} {w w' : World} (h : TabAt b l w) (hb : Below w.heap.size w w') : TabAt b l w' := h.kept (Below.toGrown hb none) (by simp)
theorem TabAt.lt {b : Nat} {l : List (ByteArray × Value)} {w : World} (h : TabAt b l w) : b < w.heap.size := by obtain ⟨D, ho, _⟩ := h; exact ho.lt
/-- A look-up. -/
theorem TabAt.look {b : Nat} {l : List (ByteArray × Value)} {w : World} (h : TabAt b l w) {nm : ByteArray} (hs : nm.size ≤ maxLen) :
    (Instr.lookup 134 (.map (some b)) (.string nm) true).run Try.prog w = .ok (.tuple #[(firstV l nm).getD zTv, .bool (firstV l nm).isSome]) w := by
  obtain ⟨D, ho, hk⟩ := h
  have hkey : keyOf Try.prog 9 (.string nm) = some (.string (key nm)) := WideMaps.keyOf_string_mk Try.underlying9 hs
  obtain ⟨v, ps, hrun, hv⟩ := ho.look_ok lawStrT Try.underlying134 (zeroTerm w) (zd := .held zTv) (zp := []) rfl hkey
  obtain ⟨h1, h2⟩ := hk.2 nm
  rw [hrun]
  cases e : firstV l nm with
  | none =>
    rw [atKey_of_not_has (h1 e)] at hv
    simp only [heldV, Option.some.injEq, Prod.mk.injEq, DataW.held.injEq] at hv
    rw [h1 e, hv.1]; rfl
  | some y =>
    rw [(h2 y e).2] at hv
    simp only [heldV, Option.some.injEq, Prod.mk.injEq, DataW.held.injEq] at hv
    rw [(h2 y e).1, hv.1]; rfl

def AddE (b : Nat) (l : List (ByteArray × Value)) (w : World) (e : Ending) (w' : World) : Prop := e = .returned (.tuple #[]) ∧ TabAt b l w' ∧ w.grownBy w' (some b)

set_option maxRecDepth 100000 in
set_option maxHeartbeats 1600000 in
theorem add_any (b : Nat) (l : List (ByteArray × Value)) (nm : ByteArray) (k n : Int) (s : ByteArray) (a : Option Addr) (m c : Nat) (w : World) (ht : TabAt b l w) (hs : nm.size ≤ maxLen) (hl : l.length ≤ 4194304) (hsh : ∀ v, firstV l nm = some v → ∃ k' n' s' a' m' c', v = tv k' n' s' (.slice a' m' c')) :
    Calls Try.prog 134 #[.map (some b), .string nm, tv k n s (.slice a m c)] w (AddE b (l ++ [(nm, tv k n s (.slice a m c))]) w) := by
  have hb1 : Below w.heap.size w (w.alloc (.cells #[.int .i64 k, .int .i64 n, .string s, .slice a m c] 26)) := (Below.refl _ _).alloc (Nat.le_refl _) _
  have hlook := (ht.below hb1).look hs
  cases hf : firstV l nm with
  | some v =>
    obtain ⟨k', n', s', a', m', c', rfl⟩ := hsh v hf
    rw [hf] at hlook
    simp only [Option.getD_some, Option.isSome_some] at hlook
    have HF : Hid (∀ w', Below w.heap.size w w' → AddE b (l ++ [(nm, tv k n s (.slice a m c))]) w (.returned (.tuple #[])) w') := Lib.hid (fun w' hb => by
      obtain ⟨D, ho, hk⟩ := ht.below hb
      refine ⟨rfl, ⟨D, ho.mono (by simp), hk.known _ ((hk.2 nm).2 _ hf).1⟩, Below.toGrown hb _⟩)
    clear ht hsh hb1
    go_enter Try.func134, Try.ntmps134
    go_wp2
    go_end0
    exact HF.out _ (((Below.refl _ _).alloc (Nat.le_refl _) _).alloc (by simp) _)
  | none =>
    rw [hf] at hlook
    simp only [Option.getD_none, Option.isSome_none] at hlook
    have hkey : keyOf Try.prog 9 (.string nm) = some (.string (key nm)) := WideMaps.keyOf_string_mk Try.underlying9 hs
    have HK := Lib.hid hkey; clear hkey
    have hb2 : Below w.heap.size w ((w.alloc (.cells #[.int .i64 k, .int .i64 n, .string s, .slice a m c] 26)).alloc (.cells #[.int .i64 0, .int .i64 0, .string ⟨#[]⟩, .slice none 0 0] 26)) := hb1.alloc (by simp) _
    obtain ⟨D, ho, hk⟩ := ht.below hb2
    have HO := Lib.hid ho
    have HT := Lib.hid (hk.add (tv k n s (.slice a m c)) ((hk.2 nm).1 hf))
    have HB2 := Lib.hid hb2
    have HL := Lib.hid hl
    clear ht hsh hb1 hb2 ho hk hl
    go_enter Try.func134, Try.ntmps134
    go_wp2_with (first
        | (at_mapUpdate; refine wpList_mapUpdate_own _ rfl _ _ _ 134 rfl 9 26 lawStrT Try.underlying134 heldV b l.length D rfl HO.out ?m1 _ _ _ rfl rfl HK.out _ [] rfl ?_))
    case m1 => have := HL.out; unfold maxLen; omega
    intro w1 hown1 hgrow1
    have HF : Hid (AddE b (l ++ [(nm, tv k n s (.slice a m c))]) w (.returned (.tuple #[])) w1) := Lib.hid ⟨rfl, ⟨_, by rw [List.length_append]; exact hown1, HT.out⟩, grown_trans (Below.toGrown HB2.out _) hgrow1⟩
    clear hown1 hgrow1
    go_wp2
    go_end0
    exact HF.out
end Go.Proofs.Ytidbokheeieifaa
