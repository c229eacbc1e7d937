/-
  laws.eqBind and laws.eqBindS: two readings of one list of Binds are equal.
  laws.markBindS writes numbered marks over a list of Binds that is a call's own, and nothing else turns.
-/
import Derived.Test.YtidbokheeieifaaQ24
import Derived.Test.YtidbokheeieifaaQ7
import Derived.Deep.RegionHeld3
namespace Go.Proofs.Ytidbokheeieifaa
open Go.RowKit

set_option maxRecDepth 100000 in
set_option maxHeartbeats 800000 in
theorem eqBind_any {lo lo' h : Nat} (p : ByteArray) (k n : Int) (s : ByteArray) (u u' : Value) (xs : List T) (w : World) (hs : s.size ≤ maxLen) (ha : ArgsAt w lo h u xs) (ha' : ArgsAt w lo' h u' xs) :
    Calls Try.prog 93 #[bv p k n s u, bv p k n s u'] w (TrueB w) := by
  have hb0 : Below w.heap.size w ((w.alloc (.cells #[.string p, .int .i64 k, .int .i64 n, .string s, u] 148)).alloc (.cells #[.string p, .int .i64 k, .int .i64 n, .string s, u'] 148)) := ((Below.refl _ _).alloc (Nat.le_refl _) _).alloc (by simp) _
  have hc := eqT_any (tv k n s u) (tv k n s u') (.node k n s xs) lo lo' h _ ⟨_, _, _, _, xs, rfl, rfl, hs, ha.below hb0⟩ ⟨_, _, _, _, xs, rfl, rfl, hs, ha'.below hb0⟩
  have HC := Lib.hid hc; clear hc ha ha'
  have HB0 := Lib.hid hb0; clear hb0
  have e3 : (p.toList == p.toList) = true := by simp
  go_enter Try.func93, Try.ntmps93
  go_wp2_with fail
  refine HC.out.mono ?_
  rintro e w1 ⟨rfl, hb1⟩
  have HB1 := Lib.hid (HB0.out.trans (hb1.mono HB0.out.size)); clear hb1
  go_wp2
  go_ret
  exact ⟨rfl, HB1.out⟩

set_option maxRecDepth 100000 in
set_option maxHeartbeats 1600000 in
theorem eqBs_any (u v : Value) (bs : List (ByteArray × T)) (lo lo' h : Nat) (w : World) (hl : bs.length ≤ 9223372036854775807) (hu : BsAt w lo h u bs) (hv : BsAt w lo' h v bs) :
    Calls Try.prog 32 #[u, v] w (TrueB w) := by
  have HC := Lib.hid hu
  have HC' := Lib.hid hv
  obtain ⟨a, cap, rfl⟩ := hu.slice
  obtain ⟨a', cap', rfl⟩ := hv.slice
  clear hu hv
  obtain ⟨n, hn⟩ : ∃ n, n = bs.length := ⟨_, rfl⟩
  rw [← hn] at hl HC HC' ⊢
  have HN := Lib.hid hn; clear hn
  go_enter Try.func32, Try.ntmps32
  go_wp2
  go_loopw [5] (fun i wr => ∃ k : Nat, k ≤ n ∧ i = .int .i64 k ∧ Hid (Below w.heap.size w wr)) (fun i _ => n - (intOf i).toNat)
  case atStart => exact ⟨0, Nat.zero_le _, rfl, Lib.hid (Below.refl _ _)⟩
  case round =>
    obtain ⟨k, hk, rfl, HB⟩ := hrel
    by_cases hlt : k < n
    · obtain ⟨y, ht⟩ : ∃ y, bs[k]? = some y := ⟨_, List.getElem?_eq_getElem (by have := HN.out; omega)⟩
      obtain ⟨b, o, c', p, tk', tn, tsn, txs, u1, e, rfl, _, _, hsz, c0, c1, c2, c3, c4, har⟩ := HC.out.at ht
      obtain ⟨b2, o2, c2', _, _, _, _, _, u2, e', e2, _, _, _, d0, d1, d2, d3, d4, har'⟩ := HC'.out.at ht
      cases e2
      obtain ⟨rfl, -, rfl⟩ : a = some ⟨b, o, none⟩ ∧ n = bs.length ∧ cap = c' := by simpa using e
      obtain ⟨rfl, -, rfl⟩ : a' = some ⟨b2, o2, none⟩ ∧ n = bs.length ∧ cap' = c2' := by simpa using e'
      have HK : Hid (∀ w', Below wr.heap.size wr w' → (w'.cell? ⟨b, o + k * 5, none⟩ = some (.string p) ∧ w'.cell? ⟨b, o + k * 5 + 1, none⟩ = some (.int .i64 tk') ∧ w'.cell? ⟨b, o + k * 5 + 2, none⟩ = some (.int .i64 tn) ∧ w'.cell? ⟨b, o + k * 5 + 3, none⟩ = some (.string tsn) ∧ w'.cell? ⟨b, o + k * 5 + 4, none⟩ = some u1 ∧
          w'.cell? ⟨b2, o2 + k * 5, none⟩ = some (.string p) ∧ w'.cell? ⟨b2, o2 + k * 5 + 1, none⟩ = some (.int .i64 tk') ∧ w'.cell? ⟨b2, o2 + k * 5 + 2, none⟩ = some (.int .i64 tn) ∧ w'.cell? ⟨b2, o2 + k * 5 + 3, none⟩ = some (.string tsn) ∧ w'.cell? ⟨b2, o2 + k * 5 + 4, none⟩ = some u2 ∧ Below wr.heap.size wr w')) := Lib.hid (fun w' hb => by
        have hq := HB.out.trans (hb.mono HB.out.size)
        exact ⟨cell_on hq c0, cell_on hq c1, cell_on hq c2, cell_on hq c3, cell_on hq c4, cell_on hq d0, cell_on hq d1, cell_on hq d2, cell_on hq d3, cell_on hq d4, hb⟩)
      have HCALL : Hid (∀ w', Below wr.heap.size wr w' → Calls Try.prog 93 #[bv p tk' tn tsn u1, bv p tk' tn tsn u2] w' (TrueB w')) := Lib.hid (fun w' hb => by
        have hq := HB.out.trans (hb.mono HB.out.size)
        exact eqBind_any p tk' tn tsn u1 u2 txs w' hsz (har.below hq) (har'.below hq))
      clear c0 c1 c2 c3 c4 d0 d1 d2 d3 d4 e e' ht har har' hsz
      obtain ⟨c0, c1, c2, c3, c4, d0, d1, d2, d3, d4, hb0⟩ := HK.out _ (Below.refl _ _)
      go_wp2
      go_region_held3 (fun w' => w'.cell? ⟨b, o + k * 5, none⟩ = some (.string p) ∧ w'.cell? ⟨b, o + k * 5 + 1, none⟩ = some (.int .i64 tk') ∧ w'.cell? ⟨b, o + k * 5 + 2, none⟩ = some (.int .i64 tn) ∧ w'.cell? ⟨b, o + k * 5 + 3, none⟩ = some (.string tsn) ∧ w'.cell? ⟨b, o + k * 5 + 4, none⟩ = some u1 ∧
          w'.cell? ⟨b2, o2 + k * 5, none⟩ = some (.string p) ∧ w'.cell? ⟨b2, o2 + k * 5 + 1, none⟩ = some (.int .i64 tk') ∧ w'.cell? ⟨b2, o2 + k * 5 + 2, none⟩ = some (.int .i64 tn) ∧ w'.cell? ⟨b2, o2 + k * 5 + 3, none⟩ = some (.string tsn) ∧ w'.cell? ⟨b2, o2 + k * 5 + 4, none⟩ = some u2 ∧ Below wr.heap.size wr w')
        (first | exact HK.out _ (by assumption) | exact HK.out _ (bel_drew (by assumption)) | exact HK.out _ (Below.drew (by assumption)) | exact HK.out _ (Below.trans (by assumption) (Below.mono (by assumption) (Below.size (by assumption)))) | go_keep)
        (first | (go_at_call 93; refine (HCALL.out _ (by first | assumption | exact Below.drew (by assumption))).mono ?_; rintro e w1 ⟨rfl, hb1⟩))
      have HB2 := Lib.hid (HB.out.trans ((bel_drew hb1).mono HB.out.size)); clear hb1
      go_wp2
      go_roundw
      case rel => exact ⟨k + 1, by omega, by go_num, HB2⟩
      case measure => simp [intOf]; omega
    · go_wp2
      go_ret
      exact ⟨rfl, HB.out⟩
theorem eqBs_two (u v : Value) (bs : List (ByteArray × T)) (lo lo' h h' : Nat) (w : World) (hl : bs.length ≤ 9223372036854775807) (hu : BsAt w lo h u bs) (hv : BsAt w lo' h' v bs) :
    Calls Try.prog 32 #[u, v] w (TrueB w) :=
  eqBs_any u v bs lo lo' (max h h') w hl (hu.two hv).1 (hu.two hv).2
end Go.Proofs.Ytidbokheeieifaa
namespace Go.Proofs.Ytidbokheeieifaa
open Go.RowKit

/-- A list of Binds over which the marks from k on were written. -/
def mkBs (k : Nat) : List (ByteArray × T) → List (ByteArray × T)
  | [] => []
  | x :: r => (mark k, mkT (k + 1) x.2) :: mkBs (k + (1 + 3 * cT x.2)) r
theorem mkBs_length (k : Nat) (bs : List (ByteArray × T)) : (mkBs k bs).length = bs.length := by
  induction bs generalizing k with
  | nil => rfl
  | cons x r ih => rw [mkBs, List.length_cons, List.length_cons, ih]
theorem mkBs_at (bs : List (ByteArray × T)) (k i : Nat) (x : ByteArray × T) (h : bs[i]? = some x) : (mkBs k bs)[i]? = some (mark (k + mBs (bs.take i)), mkT (k + mBs (bs.take i) + 1) x.2) := by
  induction bs generalizing k i with
  | nil => simp at h
  | cons y r ih =>
    rw [mkBs]
    cases i with
    | zero => simp at h; subst h; simp [mBs]
    | succ i =>
      simp at h
      rw [List.getElem?_cons_succ, ih _ i h, List.take_succ_cons]
      have : mBs (y :: r.take i) = (1 + 3 * cT y.2) + mBs (r.take i) := by simp [mBs]
      rw [this, Nat.add_assoc]

/-- The mark of cell q of a Bind. -/
def mvB (c : Nat) : Nat → Value
  | 0 => .string (mark c)
  | 1 => .int .i64 ((c : Int) + 1)
  | 2 => .int .i64 ((c : Int) + 1 + 1)
  | _ => .string (mark (c + 3))

/-- How far the marks of a row have come: all before element j, and q cells of it. -/
def MRowB (h g m cap k j q : Nat) (bs : List (ByteArray × T)) (U : Nat → Value) (L R : Nat → Nat) (w : World) : Prop :=
  ∃ xs, w.ownsRow g 148 5 (.slice (some ⟨g, 0, none⟩) m cap) m xs ∧ (∀ i p kk nn s txs, j ≤ i → bs[i]? = some (p, T.node kk nn s txs) → xs[i * 5 + 4]? = some (U i) ∧ OwnA w h (L i) (R i) (U i) txs) ∧
    (∀ i p kk nn s txs, i < j → bs[i]? = some (p, T.node kk nn s txs) → (∀ c, c < 4 → xs[i * 5 + c]? = some (mvB (k + mBs (bs.take i)) c)) ∧ xs[i * 5 + 4]? = some (U i) ∧ ArgsP (In (L i) (R i)) w h (U i) (mkS (k + mBs (bs.take i) + 4) txs)) ∧
    ∀ p, p < q → xs[j * 5 + p]? = some (mvB (k + mBs (bs.take j)) p)

theorem MRowB.cells {h g m cap k j p : Nat} {bs : List (ByteArray × T)} {U : Nat → Value} {L R : Nat → Nat} {w : World} (c : MRowB h g m cap k j p bs U L R w) {i : Nat} (hi : i < m) (q : Nat) (hq : q < 5) :
    (∃ v, w.cell? ⟨g, i * 5 + q, none⟩ = some v) ∧ w.frozen? ⟨g, i * 5 + q, none⟩ = false := by
  obtain ⟨xs, ho, _⟩ := c
  have hl := ho.1
  refine ⟨?_, ho.frozenAt _⟩
  rw [ho.cellAt (i * 5 + q) (by omega)]
  exact ⟨_, List.getElem?_eq_getElem (by omega)⟩
theorem MRowB.args {h g m cap k j p : Nat} {bs : List (ByteArray × T)} {U : Nat → Value} {L R : Nat → Nat} {w : World} (c : MRowB h g m cap k j p bs U L R w) {p : ByteArray} {kk nn : Int} {s : ByteArray} {txs : List T} (hj : j < m) (ht : bs[j]? = some (p, T.node kk nn s txs)) :
    w.cell? ⟨g, j * 5 + 4, none⟩ = some (U j) ∧ OwnA w h (L j) (R j) (U j) txs := by
  obtain ⟨xs, ho, hx, _⟩ := c
  obtain ⟨h1, h2⟩ := hx j p kk nn s txs (Nat.le_refl _) ht
  exact ⟨by rw [ho.cellAt (j * 5 + 4) (by omega)]; exact h1, h2⟩
/-- The next cell of element j. -/
theorem MRowB.store {h g m cap k j q : Nat} {bs : List (ByteArray × T)} {U : Nat → Value} {L R : Nat → Nat} {w : World} (c : MRowB h g m cap k j q bs U L R w) (hg : ∀ i, g < L i ∨ R i ≤ g) (hq : q < 4) (hj : j < m) {v : Value} (hv : v = mvB (k + mBs (bs.take j)) q) :
    MRowB h g m cap k j (q + 1) bs U L R (w.setCell ⟨g, j * 5 + q, none⟩ v) := by
  obtain ⟨xs, ho, hx, hd, hp⟩ := c
  have hl := ho.1
  have hs : ∀ b, b ≠ g → (w.setCell ⟨g, j * 5 + q, none⟩ v).heap[b]? = w.heap[b]? := fun b hb => Below.heap_setCell _ _ _ _ (fun e => hb (by simpa using e))
  refine ⟨_, (ho.stored (j * 5 + q) v).1, fun i pp kk nn s txs hi ht => ?_, fun i pp kk nn s txs hi ht => ?_, fun p hp' => ?_⟩
  · obtain ⟨h1, h2⟩ := hx i pp kk nn s txs hi ht
    refine ⟨by rw [List.getElem?_set_ne (by omega)]; exact h1, h2.keep fun b b1 b2 => hs b (by have := hg i; omega)⟩
  · obtain ⟨h0, h1, h2⟩ := hd i pp kk nn s txs hi ht
    refine ⟨fun p hp => by rw [List.getElem?_set_ne (by omega)]; exact h0 p hp, by rw [List.getElem?_set_ne (by omega)]; exact h1, h2.keepB fun b hb _ => hs b (by have := hg i; have := hb.1; have := hb.2; omega)⟩
  · by_cases hpq : p = q
    · subst hpq
      rw [List.getElem?_set_self (by omega), hv]
    · rw [List.getElem?_set_ne (by omega)]
      exact hp p (by omega)
theorem MRowB.below {h g m cap k j q : Nat} {bs : List (ByteArray × T)} {U : Nat → Value} {L R : Nat → Nat} {w w' : World} (c : MRowB h g m cap k j q bs U L R w) (hb : Below w.heap.size w w') (hR : ∀ i, R i ≤ w.heap.size) : MRowB h g m cap k j q bs U L R w' := by
  obtain ⟨xs, ho, hx, hd, hp⟩ := c
  refine ⟨xs, keep_own ho hb, fun i pp kk nn s txs hi ht => ?_, fun i pp kk nn s txs hi ht => ?_, hp⟩
  · obtain ⟨h1, h2⟩ := hx i pp kk nn s txs hi ht
    exact ⟨h1, h2.keep fun b b1 b2 => hb.block b (by have := hR i; omega)⟩
  · obtain ⟨h0, h1, h2⟩ := hd i pp kk nn s txs hi ht
    exact ⟨h0, h1, h2.keepB fun b _ hlt => hb.block b hlt⟩
/-- The child's marks. -/
theorem MRowB.child {h g m cap k j : Nat} {bs : List (ByteArray × T)} {U : Nat → Value} {L R : Nat → Nat} {w w' : World} (c : MRowB h g m cap k j 4 bs U L R w) (ho : Out (L j) (R j) w w') (hg : ∀ i, g < L i ∨ R i ≤ g) (hgs : g < w.heap.size) (hR : ∀ i, R i ≤ w.heap.size)
    (hd : ∀ i i', i < i' → i' < bs.length → R i ≤ L i' ∨ R i' ≤ L i) {p : ByteArray} {kk nn : Int} {s : ByteArray} {txs : List T} (ht : bs[j]? = some (p, T.node kk nn s txs)) (hm : ArgsP (In (L j) (R j)) w' h (U j) (mkS (k + mBs (bs.take j) + 4) txs)) :
    MRowB h g m cap k (j + 1) 0 bs U L R w' := by
  obtain ⟨xs, hr, hx, hdn, hp⟩ := c
  have hjl := (List.getElem?_eq_some_iff.1 ht).1
  refine ⟨xs, row_keep hr (ho.2.2.2.2 g hgs (by have := hg j; omega)), fun i pp' kk' nn' s' txs' hi ht' => ?_, fun i pp' kk' nn' s' txs' hi ht' => ?_, fun p hp => by omega⟩
  · obtain ⟨h1, h2⟩ := hx i pp' kk' nn' s' txs' (by omega) ht'
    refine ⟨h1, h2.keep fun b b1 b2 => ho.2.2.2.2 b (by have := hR i; omega) ?_⟩
    have := hd j i (by omega) (List.getElem?_eq_some_iff.1 ht').1
    omega
  · by_cases hij : i = j
    · subst hij
      rw [ht] at ht'
      cases ht'
      exact ⟨hp, (hx i p kk nn s txs (Nat.le_refl _) ht).1, hm⟩
    · obtain ⟨h0, h1, h2⟩ := hdn i pp' kk' nn' s' txs' (by omega) ht'
      refine ⟨h0, h1, h2.keepB fun b hb hlt => ho.2.2.2.2 b hlt ?_⟩
      have := hd i j (by omega) hjl
      have := hb.1; have := hb.2
      omega
theorem MRowB.done {h g m cap k : Nat} {bs : List (ByteArray × T)} {U : Nat → Value} {L R : Nat → Nat} {w : World} (c : MRowB h g m cap k m 0 bs U L R w) (hm : m = bs.length) (hl : m ≤ maxLen) (hk : k + mBs bs ≤ 2305843009213693952) :
    BsAt w 0 h (.slice (some ⟨g, 0, none⟩) m cap) (mkBs k bs) := by
  obtain ⟨xs, ho, _, hd, _⟩ := c
  refine ⟨_, cap, by rw [mkBs_length, hm], by rw [mkBs_length]; omega, Or.inr ⟨g, 0, rfl, Nat.zero_le _, fun i p a b s' txs' hi' => ?_⟩⟩
  have hil : i < bs.length := by have := (List.getElem?_eq_some_iff.1 hi').1; rwa [mkBs_length] at this
  obtain ⟨x, ht⟩ : ∃ x, bs[i]? = some x := ⟨_, List.getElem?_eq_getElem hil⟩
  obtain ⟨pp, kk, nn, s, txs⟩ := x
  rw [mkBs_at bs k i _ ht, mkT_node] at hi'
  simp only [Option.some.injEq, Prod.mk.injEq, T.node.injEq] at hi'
  obtain ⟨rfl, rfl, rfl, rfl, rfl⟩ := hi'
  obtain ⟨h0, h3, h4⟩ := hd i pp kk nn s txs (by omega) ht
  have hct := mBs_take bs (i + 1)
  rw [tk bs i _ ht, mBs_snoc] at hct
  refine ⟨mark_size _ (by omega), mark_size _ (by simp only [cT_node] at hct; omega), U i, ?_, ?_, ?_, ?_, ?_, h4.args (fun _ _ => Nat.zero_le _)⟩
  · rw [Nat.zero_add, ho.cellAt (i * 5) (by omega)]; exact h0 0 (by omega)
  · rw [Nat.zero_add, ho.cellAt (i * 5 + 1) (by omega), h0 1 (by omega)]; simp [mvB]
  · rw [Nat.zero_add, ho.cellAt (i * 5 + 2) (by omega), h0 2 (by omega)]; simp [mvB]
  · rw [Nat.zero_add, ho.cellAt (i * 5 + 3) (by omega), h0 3 (by omega)]; simp [mvB]
  · rw [Nat.zero_add, ho.cellAt (i * 5 + 4) (by omega)]; exact h3

def MarkBsE (lo hi k h : Nat) (u : Value) (bs : List (ByteArray × T)) (w : World) (e : Ending) (w' : World) : Prop := MarkOut lo hi (k + mBs bs) w e w' ∧ BsAt w' 0 h u (mkBs k bs)

set_option maxRecDepth 100000 in
set_option maxHeartbeats 400000 in
theorem markBs_empty (lo hi k h : Nat) (a : Option Addr) (cap : Nat) (w : World) :
    Calls Try.prog 34 #[.slice a 0 cap, .int .i64 k] w (MarkBsE lo hi k h (.slice a 0 cap) [] w) := by
  go_enter Try.func34, Try.ntmps34
  go_wp2
  refine wp_loop_rounds 1 ?_
  rw [rounds_succ]
  go_wp2
  go_ret
  exact ⟨⟨rfl, Out.refl _ _ _⟩, ⟨_, _, rfl, Nat.zero_le _, Or.inl rfl⟩⟩

set_option maxRecDepth 100000 in
set_option maxHeartbeats 1600000 in
theorem markBs_some {h : Nat} (g cap : Nat) (bs : List (ByteArray × T)) (U : Nat → Value) (L R : Nat → Nat) (lo hi k : Nat) (w : World) (hrel0 : MRowB h g bs.length cap k 0 0 bs U L R w) (h1 : lo ≤ g) (h2 : g < hi) (hhi : hi ≤ w.heap.size)
    (hg : ∀ i, g < L i ∨ R i ≤ g) (hL : ∀ i, lo ≤ L i) (hR : ∀ i, R i ≤ hi) (hd : ∀ i j, i < j → j < bs.length → R i ≤ L j ∨ R j ≤ L i) (hk : 1 ≤ k) (hkc : k + mBs bs ≤ 2305843009213693952) :
    Calls Try.prog 34 #[.slice (some ⟨g, 0, none⟩) bs.length cap, .int .i64 k] w (MarkBsE lo hi k h (.slice (some ⟨g, 0, none⟩) bs.length cap) bs w) := by
  have hl : bs.length ≤ 2305843009213693952 := by have := len_mBs bs; omega
  have HG := Lib.hid hg; clear hg
  have HL := Lib.hid hL; clear hL
  have HRR := Lib.hid hR; clear hR
  have HDD := Lib.hid hd; clear hd
  have HKC := Lib.hid hkc; clear hkc
  obtain ⟨m, hm⟩ : ∃ m, m = bs.length := ⟨_, rfl⟩
  rw [← hm] at hrel0 hl ⊢
  have HM := Lib.hid hm; clear hm
  have HR0 := Lib.hid hrel0; clear hrel0
  go_enter Try.func34, Try.ntmps34
  go_wp2
  go_loopw [1, 5] (fun q i wr => ∃ (j c : Nat), j ≤ m ∧ i = .int .i64 j ∧ q = .int .i64 c ∧ Hid (c = k + mBs (bs.take j)) ∧ Hid (MRowB h g m cap k j 0 bs U L R wr) ∧ Hid (Out lo hi w wr)) (fun _ i _ => m - (intOf i).toNat)
  case atStart => exact ⟨0, k, Nat.zero_le _, rfl, rfl, Lib.hid (by simp [mBs]), HR0, Lib.hid (Out.refl _ _ _)⟩
  case round =>
    obtain ⟨j, c, hj, rfl, rfl, HC, HR, HO⟩ := hrel
    have hcb : c ≤ 2305843009213693952 := by have := HC.out; have := mBs_take bs j; have := HKC.out; omega
    have hc1 : 1 ≤ c := by have := HC.out; omega
    by_cases hlt : j < m
    · obtain ⟨x, ht⟩ : ∃ x, bs[j]? = some x := ⟨_, List.getElem?_eq_getElem (by have := HM.out; omega)⟩
      obtain ⟨p1, tk1, tn1, ts1, txs⟩ := x
      have hct : mBs (bs.take (j + 1)) = mBs (bs.take j) + (1 + 3 * (1 + cS txs)) := by rw [tk bs j _ ht, mBs_snoc, cT_node]
      have hctl := mBs_take bs (j + 1)
      have HCT := Lib.hid hct
      have hcx : c + 4 + 3 * cS txs ≤ 2305843009213693952 := by have := HC.out; have := HKC.out; omega
      have htl2 : txs.length ≤ 2305843009213693952 := by have := len_cS txs; omega
      clear hct hctl
      have hgs : g < wr.heap.size := by have := HO.out.2.2.2.1; omega
      have hRs : Hid (∀ i, R i ≤ wr.heap.size) := Lib.hid (fun i => by have := HRR.out i; have := HO.out.2.2.2.1; omega)
      have HT := Lib.hid ht; clear ht
      go_wp2_with fail
      refine (markText_int _ c _ (by omega) (by omega) (by omega)).mono ?_
      rintro e w0 ⟨rfl, hb0⟩
      have HS0 := Lib.hid (HR.out.below hb0 (fun i => by have := hRs.out i; simpa using this))
      have hw0 : wr.heap.size ≤ w0.heap.size := by have := hb0.size; simpa [World.setCell] using this
      have HO0 := Lib.hid (HO.out.trans (Out.of_below hb0)); clear hb0
      obtain ⟨⟨o0, g0⟩, f0⟩ := HS0.out.cells hlt 0 (by omega)
      obtain ⟨⟨o1, g1⟩, f1⟩ := HS0.out.cells hlt 1 (by omega)
      obtain ⟨⟨o2, g2⟩, f2⟩ := HS0.out.cells hlt 2 (by omega)
      rw [Nat.add_zero] at g0 f0
      have s0 := HS0.out.store (q := 0) HG.out (by omega) hlt (v := .string (mark c)) (by rw [HC.out]; rfl)
      rw [Nat.add_zero] at s0
      have s1 := s0.store (q := 1) HG.out (by omega) hlt (v := .int .i64 ((c : Int) + 1)) (by rw [HC.out]; rfl)
      have s2 := s1.store (q := 2) HG.out (by omega) hlt (v := .int .i64 ((c : Int) + 1 + 1)) (by rw [HC.out]; rfl)
      have HS1 := Lib.hid s2; clear s0 s1 s2
      have HO1 := Lib.hid (HO0.out.trans ((Out.set (lo := lo) (hi := hi) w0 g (j * 5) (.string (mark c)) h1 h2).trans ((Out.set _ g (j * 5 + 1) (.int .i64 ((c : Int) + 1)) h1 h2).trans (Out.set _ g (j * 5 + 2) (.int .i64 ((c : Int) + 1 + 1)) h1 h2))))
      go_wp2_with fail
      refine (markText_int _ (c + 3) _ (by omega) (by omega) (by omega)).mono ?_
      rintro e w1 ⟨rfl, hb1⟩
      have HS2 := Lib.hid (HS1.out.below hb1 (fun i => by have := hRs.out i; simp [World.setCell]; omega))
      have hw1 : w0.heap.size ≤ w1.heap.size := by have := hb1.size; simpa [World.setCell] using this
      have HO2 := Lib.hid (HO1.out.trans (Out.of_below hb1)); clear hb1 g0 g1 g2 f0 f1 f2
      obtain ⟨⟨o3, g3⟩, f3⟩ := HS2.out.cells hlt 3 (by omega)
      have HS3 := Lib.hid (HS2.out.store (q := 3) HG.out (by omega) hlt (v := .string (mark (c + 3))) (by rw [HC.out]; rfl))
      have HO3 := Lib.hid (HO2.out.trans (Out.set (lo := lo) (hi := hi) w1 g (j * 5 + 3) (.string (mark (c + 3))) h1 h2))
      obtain ⟨ca, hoa⟩ := HS3.out.args hlt HT.out
      have hsz : w1.heap.size = (w1.setCell ⟨g, j * 5 + 3, none⟩ (.string (mark (c + 3)))).heap.size := by simp [World.setCell]
      have hcall := markP_any h (U j) txs (L j) (R j) (c + 4) _ hoa (by have := hRs.out j; omega) (by omega) (by omega)
      obtain ⟨ua, uc, hu⟩ := hoa.slice
      rw [hu] at ca hcall
      clear hoa
      have HUE := Lib.hid hu; clear hu
      have HCALL := Lib.hid hcall; clear hcall
      go_wp2_with fail
      have hcast : ((c : Int) + 1 + 1 + 1 + 1) = ((c + 4 : Nat) : Int) := by omega
      rw [hcast]
      refine HCALL.out.mono ?_
      rintro e w2 ⟨⟨rfl, ho2⟩, hp2⟩
      have HR4 := Lib.hid (HS3.out.child ho2 HG.out (by omega) (fun i => by have := hRs.out i; omega) HDD.out HT.out (by rw [HUE.out, ← HC.out]; exact hp2))
      have HO4 := Lib.hid (HO3.out.trans (ho2.wide (HL.out j) (HRR.out j))); clear ho2 hp2
      have HC4 : Hid (c + 4 + 3 * cS txs = k + mBs (bs.take (j + 1))) := Lib.hid (by have := HC.out; have := HCT.out; omega)
      go_wp2
      go_roundw
      case rel => exact ⟨j + 1, c + 4 + 3 * cS txs, by omega, by go_num, rfl, HC4, HR4, HO4⟩
      case measure => simp [intOf]; omega
    · have HD : Hid (c = k + mBs bs) := Lib.hid (by
        have hjm : j = bs.length := by have := HM.out; omega
        rw [HC.out, hjm, List.take_length])
      have hjm : j = m := by omega
      have HF := Lib.hid ((hjm ▸ HR.out).done HM.out (by unfold maxLen; omega) HKC.out)
      go_wp2
      go_ret
      exact ⟨⟨by rw [← HD.out]; rfl, HO.out⟩, HF.out⟩

theorem markBs_any (u : Value) (bs : List (ByteArray × T)) (h lo hi k : Nat) (w : World) (ho : OwnBs w h lo hi u bs) (hhi : hi ≤ w.heap.size) (hk : 1 ≤ k) (hkc : k + mBs bs ≤ 2305843009213693952) :
    Calls Try.prog 34 #[u, .int .i64 k] w (MarkBsE lo hi k h u bs w) := by
  obtain ⟨a, cap, rfl, hc⟩ := ho
  by_cases hn : bs = []
  · subst hn
    exact markBs_empty lo hi k h a cap w
  · obtain ⟨g, xs, U, L, R, rfl, h1, h2, ho, hx, hd⟩ := hc.resolve_left hn
    have hin : ∀ i, i < bs.length → lo ≤ L i ∧ R i ≤ hi ∧ (g < L i ∨ R i ≤ g) := fun i hi' => by
      obtain ⟨t, ht⟩ : ∃ t, bs[i]? = some t := ⟨_, List.getElem?_eq_getElem hi'⟩
      obtain ⟨p, kk, nn, s, txs⟩ := t
      obtain ⟨_, l1, l2, l3, _⟩ := hx i p kk nn s txs ht
      exact ⟨l1, l2, l3⟩
    refine markBs_some g cap bs U (fun i => if i < bs.length then L i else lo) (fun i => if i < bs.length then R i else lo) lo hi k w ⟨xs, ho, fun i p kk nn s txs _ ht => ?_, fun i _ _ _ _ _ hi' => by omega, fun p hp => by omega⟩ h1 h2 hhi ?_ ?_ ?_ ?_ hk hkc
    · have hi' := (List.getElem?_eq_some_iff.1 ht).1
      obtain ⟨x3, _, _, _, hr⟩ := hx i p kk nn s txs ht
      exact ⟨x3, by simpa [hi'] using hr⟩
    · intro i
      by_cases hi' : i < bs.length
      · simpa [hi'] using (hin i hi').2.2
      · simp [hi']; omega
    · intro i
      by_cases hi' : i < bs.length
      · simpa [hi'] using (hin i hi').1
      · simp [hi']
    · intro i
      by_cases hi' : i < bs.length
      · simpa [hi'] using (hin i hi').2.1
      · simp [hi']; omega
    · intro i j hij hj
      have hi' : i < bs.length := by omega
      simpa [hi', hj] using hd i j hij hj
end Go.Proofs.Ytidbokheeieifaa
