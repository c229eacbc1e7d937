/-
  laws.toOp, laws.toOpS and laws.toSignature copy a signature into memory of the call's own.
  Which operator a name finds. No walk.
  Strings as lists of bytes: when two are equal. No program.
  Plain facts on lists of strings: their keys in a set, the strictly ascending list of their elements, the insertion that builds it. No program.
  spec.IndexOf and impl.IndexOf return the index of the first element that is the string, or -1; the law on IndexOf answers true at every list and string.
  impl.knownNames makes a set of a list's strings.
-/
import Derived.Test.YtcmhiindjponcaaQ2
import Derived.Test.YtcmhiindjponcaaQ1
import Derived.OwnWalk
import Derived.Laws.AppendOwn
import Derived.Laws.AppendOwnNone
import Derived.WalkKit
import Derived.Sort.KeysCollected
import Derived.Maps.Views
import Derived.Lib.SlicesS
import Derived.Shelf.Slices.Turned
import Derived.Maps.OwnSet
namespace Go.Proofs.Ytcmhiindjponcaa
open Go.RowKit

theorem infoOp : (Try.prog.info? 47).map (fun i => (i.zero, i.size, i.bytes)) = some (some (.agg #[.string ByteArray.empty, .slice none 0 0, .string ByteArray.empty]), 3, 56) := by kernel_rfl

/-- The slice value u holds the operators ds; its row, and those of the operators' arguments, are owned, lie in blocks from lo to hi, and lie apart. -/
def OwnOps (w : World) (lo hi : Nat) (u : Value) (ds : List OpD) : Prop :=
  ∃ a cap, u = .slice a ds.length cap ∧ (ds = [] ∨ ∃ (g : Nat) (xs : List Value) (U : Nat → Value) (L : Nat → Nat), a = some ⟨g, 0, none⟩ ∧ lo ≤ g ∧ g < hi ∧ w.ownsRow g 47 3 u ds.length xs ∧
    (∀ i d, ds[i]? = some d → xs[i * 3]? = some (.string d.name) ∧ xs[i * 3 + 1]? = some (U i) ∧ xs[i * 3 + 2]? = some (.string d.res) ∧ w.ownsRow (L i) 9 1 (U i) d.args.length (d.args.map Value.string)) ∧
    (∀ i, i < ds.length → g < L i ∧ ∀ b, (U i).ownBlock = some b → b < hi) ∧ (∀ i j, i < j → j < ds.length → ∀ b, (U i).ownBlock = some b → b < L j))

theorem OwnOps.at {w : World} {lo hi : Nat} {u : Value} {ds : List OpD} (k : OwnOps w lo hi u ds) : OpsAt w u ds := by
  obtain ⟨a, cap, e, hc⟩ := k
  refine ⟨a, cap, e, ?_⟩
  rcases hc with hc | ⟨g, xs, U, L, rfl, _, _, ho, hx, _⟩
  · exact Or.inl hc
  · refine Or.inr ⟨g, 0, rfl, fun i d hd => ?_⟩
    obtain ⟨x0, x1, x2, hs⟩ := hx i d hd
    have hi : i < ds.length := (List.getElem?_eq_some_iff.1 hd).1
    subst e
    refine ⟨U i, ?_, ?_, ?_, StrsAt.of_owns hs⟩
    · rw [Nat.zero_add, ho.cellAt (i * 3) (by omega), x0]
    · rw [Nat.zero_add, ho.cellAt (i * 3 + 1) (by omega), x1]
    · rw [Nat.zero_add, ho.cellAt (i * 3 + 2) (by omega), x2]

theorem row_keep' {w w' : World} {B n size : Nat} {e : TypeId} {v : Value} {xs : List Value} (h : w.ownsRow B e size v n xs) (hk : ∀ g, v.ownBlock = some g → w'.heap[g]? = w.heap[g]?) : w'.ownsRow B e size v n xs := by
  refine ⟨h.1, ?_⟩
  rcases h.2 with hn | ⟨g, cap, cur, e1, hb, hg, rest⟩
  · exact Or.inl hn
  · subst e1
    exact Or.inr ⟨g, cap, cur, rfl, hb, by rw [hk g rfl]; exact hg, rest⟩

theorem OwnOps.keep {w w' : World} {lo hi : Nat} {u : Value} {ds : List OpD} (hk : ∀ b, lo ≤ b → b < hi → w'.heap[b]? = w.heap[b]?) (k : OwnOps w lo hi u ds) : OwnOps w' lo hi u ds := by
  obtain ⟨a, cap, e, hc⟩ := k
  refine ⟨a, cap, e, ?_⟩
  rcases hc with hc | ⟨g, xs, U, L, rfl, h1, h2, ho, hx, hl, hd⟩
  · exact Or.inl hc
  · subst e
    refine Or.inr ⟨g, xs, U, L, rfl, h1, h2, row_keep' ho (fun g' e => by cases e; exact hk g h1 h2), fun i d hi => ?_, hl, hd⟩
    obtain ⟨x0, x1, x2, hs⟩ := hx i d hi
    have hil : i < ds.length := (List.getElem?_eq_some_iff.1 hi).1
    refine ⟨x0, x1, x2, row_keep' hs (fun b e => hk b ?_ ((hl i hil).2 b e))⟩
    have := (hl i hil).1
    have := (hs.lt b e).1
    omega
theorem OwnOps.wide {w : World} {lo hi lo' hi' : Nat} {u : Value} {ds : List OpD} (h1 : lo' ≤ lo) (h2 : hi ≤ hi') (k : OwnOps w lo hi u ds) : OwnOps w lo' hi' u ds := by
  obtain ⟨a, cap, e, hc⟩ := k
  refine ⟨a, cap, e, ?_⟩
  rcases hc with hc | ⟨g, xs, U, L, ea, h3, h4, ho, hx, hl, hd⟩
  · exact Or.inl hc
  · exact Or.inr ⟨g, xs, U, L, ea, by omega, by omega, ho, hx, fun i hi => ⟨(hl i hi).1, fun b hb => by have := (hl i hi).2 b hb; omega⟩, hd⟩
theorem OwnOps.nil (w : World) (lo hi : Nat) (a : Option Addr) (cap : Nat) : OwnOps w lo hi (.slice a 0 cap) [] := ⟨a, cap, rfl, Or.inl rfl⟩
theorem OwnOps.below {w w' : World} {lo hi : Nat} {u : Value} {ds : List OpD} (k : OwnOps w lo hi u ds) (hb : Below w.heap.size w w') (hh : hi ≤ w.heap.size) : OwnOps w' lo hi u ds :=
  k.keep fun b _ h => hb.block b (by omega)

theorem row_off {w : World} {B n size : Nat} {e : TypeId} {v : Value} {xs : List Value} (h : w.ownsRow B e size v n xs) {g : Nat} (hg : g < B) {j : Nat} {u : Value} : (w.setCell ⟨g, j, none⟩ u).ownsRow B e size v n xs :=
  row_keep' h fun b hb => Below.heap_setCell _ _ _ _ (fun e => by have := (h.lt b hb).1; simp at e; omega)

/-- What a copy of an operator is. -/
def CopyOp (d : OpD) (w : World) (e : Ending) (w' : World) : Prop :=
  ∃ u, e = .returned (ov d.name u d.res) ∧ w'.ownsRow w.heap.size 9 1 u d.args.length (d.args.map Value.string) ∧ Below w.heap.size w w'

set_option maxRecDepth 100000 in
set_option maxHeartbeats 800000 in
theorem toOp_any (d : OpD) (u : Value) (w : World) (hd : d.args.length ≤ 1048576) (ha : StrsAt w u d.args) :
    Calls Try.prog 109 #[ov d.name u d.res] w (CopyOp d w) := by
  have HA := Lib.hid ha
  obtain ⟨nm, ps, rs⟩ := d
  obtain ⟨a0, c0, rfl⟩ := ha.slice
  clear ha
  go_enter Try.func109, Try.ntmps109
  go_wp2_with fail
  obtain ⟨W, hW⟩ : ∃ W, W = ((w.alloc (.cells #[.string nm, .slice a0 ps.length c0, .string rs] 157)).alloc (.cells #[.string ⟨#[]⟩, .slice none 0 0, .string ⟨#[]⟩] 47)).alloc (.cells #[.string nm, .slice none 0 0, .string ⟨#[]⟩] 47) := ⟨_, rfl⟩
  have hWs : W.heap.size = w.heap.size + 1 + 1 + 1 := by rw [hW]; simp
  have r1 : W.heap[w.heap.size + 1]? = some (.cells #[.string ⟨#[]⟩, .slice none 0 0, .string ⟨#[]⟩] 47 (0, 0)) := by rw [hW]; exact heap_mid _ _ _ (by simp)
  have r2 : W.heap[w.heap.size + 1 + 1]? = some (.cells #[.string nm, .slice none 0 0, .string ⟨#[]⟩] 47 (0, 0)) := by rw [hW]; exact heap_new _ _ (by simp)
  have r0 : W.heap[w.heap.size]? = some (.cells #[.string nm, .slice a0 ps.length c0, .string rs] 157 (0, 0)) := by
    rw [hW, Below.heap_alloc _ _ _ (by simp; omega)]; exact heap_mid _ _ _ rfl
  have hbW : Below w.heap.size w W := by rw [hW]; exact (((Below.refl _ _).alloc (Nat.le_refl _) _).alloc (by simp) _).alloc (by simp; omega) _
  have HBW := Lib.hid hbW; clear hbW
  rw [← hW]
  clear hW
  have HWS := Lib.hid hWs; clear hWs
  refine (copy_any _ ps W hd (HA.out.below HBW.out)).mono ?_
  rintro e w1 ⟨u1, rfl, ho1, hb1⟩
  obtain ⟨ua, uc, rfl⟩ := (StrsAt.of_owns ho1).slice
  have q0 := hb1.block (w.heap.size) (by have := HWS.out; omega)
  have q1 := hb1.block (w.heap.size + 1) (by have := HWS.out; omega)
  have q2 := hb1.block (w.heap.size + 1 + 1) (by have := HWS.out; omega)
  rw [r0] at q0
  rw [r1] at q1
  rw [r2] at q2
  clear r0 r1 r2
  have a2 := cell_of_row w1 (w.heap.size) 2 _ _ _ q0
  have b0 := cell_of_row w1 (w.heap.size + 1) 0 _ _ _ q1
  have b1 := cell_of_row w1 (w.heap.size + 1) 1 _ _ _ q1
  have b2 := cell_of_row w1 (w.heap.size + 1) 2 _ _ _ q1
  have f0 := frozen_of_row w1 (w.heap.size + 1) 0 _ _ q1
  have f1 := frozen_of_row w1 (w.heap.size + 1) 1 _ _ q1
  have f2 := frozen_of_row w1 (w.heap.size + 1) 2 _ _ q1
  have d0 := cell_of_row w1 (w.heap.size + 1 + 1) 0 _ _ _ q2
  have d1 := cell_of_row w1 (w.heap.size + 1 + 1) 1 _ _ _ q2
  have d2 := cell_of_row w1 (w.heap.size + 1 + 1) 2 _ _ _ q2
  have g1 := frozen_of_row w1 (w.heap.size + 1 + 1) 1 _ _ q2
  have g2 := frozen_of_row w1 (w.heap.size + 1 + 1) 2 _ _ q2
  simp at a2 b0 b1 b2 d0 d1 d2
  clear q0 q1 q2
  have HO1 := Lib.hid ho1; clear ho1
  have HB1 := Lib.hid hb1; clear hb1
  go_wp2
  (try simp only [Exit.inBlock, Exit.then])
  refine bodyPost_ret (v := ov nm (.slice ua ps.length uc) rs) ?hr rfl ?_
  case hr =>
    rw [results_cell (a := 2) (t := 47) (ad := ⟨w.heap.size + 1, 0, none⟩) rfl rfl]
    go_simp
  refine ⟨_, rfl, ?_, ?_⟩
  · have h4 := HWS.out
    exact own_low (row_off (row_off (row_off (row_off (row_off HO1.out (by omega)) (by omega)) (by omega)) (by omega)) (by omega)) (by omega)
  · have hb := HBW.out.trans (HB1.out.mono HBW.out.size)
    exact ((((hb.setCell (by simp; omega) _).setCell (by simp; omega) _).setCell (by simp) _).setCell (by simp) _).setCell (by simp) _

/-- How far the copy of a row has come; the rows below it lie in blocks up to B. -/
def OpsRel (g n k B : Nat) (ds : List OpD) (w : World) : Prop :=
  ∃ (xs : List Value) (U : Nat → Value) (L : Nat → Nat), w.ownsRow g 47 3 (.slice (some ⟨g, 0, none⟩) n n) n xs ∧
    (∀ i d, i < k → ds[i]? = some d → xs[i * 3]? = some (.string d.name) ∧ xs[i * 3 + 1]? = some (U i) ∧ xs[i * 3 + 2]? = some (.string d.res) ∧ w.ownsRow (L i) 9 1 (U i) d.args.length (d.args.map Value.string)) ∧
    (∀ i, i < k → g < L i ∧ ∀ b, (U i).ownBlock = some b → b < B) ∧ (∀ i j, i < j → j < k → ∀ b, (U i).ownBlock = some b → b < L j)

theorem OpsRel.below {g n k B : Nat} {ds : List OpD} {w w' : World} (c : OpsRel g n k B ds w) (hb : Below w.heap.size w w') : OpsRel g n k B ds w' := by
  obtain ⟨xs, U, L, ho, hx, hl, hd⟩ := c
  refine ⟨xs, U, L, keep_own ho hb, fun i d hi ht => ?_, hl, hd⟩
  obtain ⟨x0, x1, x2, hs⟩ := hx i d hi ht
  exact ⟨x0, x1, x2, keep_own hs hb⟩
theorem OpsRel.wide {g n k B B' : Nat} {ds : List OpD} {w : World} (c : OpsRel g n k B ds w) (hB : B ≤ B') : OpsRel g n k B' ds w := by
  obtain ⟨xs, U, L, ho, hx, hl, hd⟩ := c
  exact ⟨xs, U, L, ho, hx, fun i hi => ⟨(hl i hi).1, fun b hb => Nat.lt_of_lt_of_le ((hl i hi).2 b hb) hB⟩, hd⟩

theorem OpsRel.cells {g n k B : Nat} {ds : List OpD} {w : World} (c : OpsRel g n k B ds w) (hk : k < n) (j : Nat) (hj : j < 3) :
    (∃ v, w.cell? ⟨g, k * 3 + j, none⟩ = some v) ∧ w.frozen? ⟨g, k * 3 + j, none⟩ = false := by
  obtain ⟨xs, U, L, ho, _⟩ := c
  have hl := ho.1
  refine ⟨?_, ho.frozenAt _⟩
  rw [ho.cellAt (k * 3 + j) (by omega)]
  exact ⟨_, List.getElem?_eq_getElem (by omega)⟩

theorem set3 {xs : List Value} {a p : Nat} {v0 v1 v2 : Value} (h0 : a ≠ p) (h1 : a + 1 ≠ p) (h2 : a + 2 ≠ p) :
    (((xs.set a v0).set (a + 1) v1).set (a + 2) v2)[p]? = xs[p]? := by
  rw [List.getElem?_set_ne h2, List.getElem?_set_ne h1, List.getElem?_set_ne h0]

theorem OpsRel.step {g n k B B' : Nat} {ds : List OpD} {w : World} (c : OpsRel g n k B ds w) (hk : k < n) {d : OpD} {u : Value} (ht : ds[k]? = some d)
    (hoa : w.ownsRow B 9 1 u d.args.length (d.args.map Value.string)) (hgB : g < B) (hBB : B ≤ B') (hu : ∀ b, u.ownBlock = some b → b < B') :
    OpsRel g n (k + 1) B' ds (((w.setCell ⟨g, k * 3, none⟩ (.string d.name)).setCell ⟨g, k * 3 + 1, none⟩ u).setCell ⟨g, k * 3 + 2, none⟩ (.string d.res)) := by
  obtain ⟨xs, U, L, ho, hx, hlr, hd⟩ := c
  have hl : xs.length = n * 3 := ho.1
  have o1 := (ho.stored (k * 3) (.string d.name)).1
  have o2 := (o1.stored (k * 3 + 1) u).1
  have o3 := (o2.stored (k * 3 + 2) (.string d.res)).1
  have upo : ∀ {u' : Value} {ps : List ByteArray} {l : Nat}, g < l → w.ownsRow l 9 1 u' ps.length (ps.map Value.string) →
      (((w.setCell ⟨g, k * 3, none⟩ (.string d.name)).setCell ⟨g, k * 3 + 1, none⟩ u).setCell ⟨g, k * 3 + 2, none⟩ (.string d.res)).ownsRow l 9 1 u' ps.length (ps.map Value.string) :=
    fun hgl q => row_off (row_off (row_off q hgl) hgl) hgl
  refine ⟨_, fun i => if i = k then u else U i, fun i => if i = k then B else L i, o3, fun i d' hi ht' => ?_, fun i hi => ?_, fun i j hij hj => ?_⟩
  · by_cases hik : i = k
    · subst hik
      rw [ht] at ht'
      cases ht'
      refine ⟨?_, ?_, ?_, by simpa using upo hgB hoa⟩
      · simp [List.getElem?_set]; omega
      · simp [List.getElem?_set]; omega
      · simp [List.getElem?_set]; omega
    · obtain ⟨x0, x1, x2, hoa'⟩ := hx i d' (by omega) ht'
      refine ⟨?_, ?_, ?_, by simpa [hik] using upo (hlr i (by omega)).1 hoa'⟩
      · rw [set3 (by omega) (by omega) (by omega)]; exact x0
      · rw [set3 (by omega) (by omega) (by omega)]; simpa [hik] using x1
      · rw [set3 (by omega) (by omega) (by omega)]; exact x2
  · by_cases hik : i = k
    · simp only [hik, if_true]; exact ⟨hgB, hu⟩
    · have := hlr i (by omega)
      simp only [hik, if_false]
      exact ⟨this.1, fun b hb => by have := this.2 b hb; omega⟩
  · have hik : i ≠ k := by omega
    by_cases hjk : j = k
    · have := (hlr i (by omega)).2
      simp only [hik, hjk, if_false, if_true]; exact this
    · simp only [hik, hjk, if_false]; exact hd i j hij (by omega)

theorem OpsRel.done {g n B : Nat} {ds : List OpD} {w : World} (c : OpsRel g n n B ds w) (hn : n = ds.length) (hB : g < B) : OwnOps w g B (.slice (some ⟨g, 0, none⟩) n n) ds := by
  obtain ⟨xs, U, L, ho, hx, hlr, hd⟩ := c
  subst hn
  refine ⟨_, _, rfl, Or.inr ⟨g, xs, U, L, rfl, Nat.le_refl _, hB, ho, fun i d ht => hx i d (by have := (List.getElem?_eq_some_iff.1 ht).1; omega) ht, hlr, hd⟩⟩

/-- A copy of a row of operators. -/
def CopyOps (ds : List OpD) (w : World) (e : Ending) (w' : World) : Prop := ∃ u, e = .returned u ∧ OwnOps w' w.heap.size w'.heap.size u ds ∧ Below w.heap.size w w'

/-- What the operators hold together. -/
def wO (d : OpD) : Nat := d.name.size + (d.args.length + total d.args) + d.res.size
def wOs (ds : List OpD) : Nat := (ds.map wO).sum

set_option maxRecDepth 100000 in
set_option maxHeartbeats 1600000 in
theorem toOps_some (b o cap : Nat) (ds : List OpD) (w : World) (hn : ds.length ≤ 1048576) (ha : ∀ d ∈ ds, d.args.length ≤ 1048576)
    (hc : ∀ i d, ds[i]? = some d → ∃ u', w.cell? ⟨b, o + i * 3, none⟩ = some (.string d.name) ∧ w.cell? ⟨b, o + i * 3 + 1, none⟩ = some u' ∧ w.cell? ⟨b, o + i * 3 + 2, none⟩ = some (.string d.res) ∧ StrsAt w u' d.args) :
    Calls Try.prog 73 #[.slice (some ⟨b, o, none⟩) ds.length cap] w (CopyOps ds w) := by
  obtain ⟨i0, hi, hz0, hz1, hz2⟩ := info_parts infoOp
  have HI := Lib.hid hi; clear hi
  have HZ0 := Lib.hid hz0; clear hz0
  have HZ1 := Lib.hid hz1; clear hz1
  have HZ2 := Lib.hid hz2; clear hz2
  have HC := Lib.hid hc; clear hc
  have HAL := Lib.hid ha; clear ha
  obtain ⟨n, hnn⟩ : ∃ n, n = ds.length := ⟨_, rfl⟩
  have hl : n ≤ 1048576 := by omega
  clear hn
  rw [← hnn]
  have HN := Lib.hid hnn; clear hnn
  go_enter Try.func73, Try.ntmps73
  go_wp2_with (first | (at_make; refine wpList_make_full _ rfl (.tmp 6) (.tmp 6) 25 rfl w.heap.size 47 i0 (.agg #[.string ByteArray.empty, .slice none 0 0, .string ByteArray.empty]) 3 Try.underlying25 HI.out HZ0.out HZ1.out _ _ _ _ n rfl rfl rfl rfl ?m1 ?m2 ?m3 ?_))
  case m1 => rw [HZ2.out]; omega
  case m2 => unfold maxLen; omega
  case m3 => exact Nat.le_refl _
  intro w1 hown hgrow
  have hb : Below w.heap.size w w1 := (Below.refl _ _).grown hgrow (Nat.le_refl _) (fun k hk => by cases hk)
  have hrel0 : OpsRel w.heap.size n 0 w1.heap.size ds w1 := ⟨_, fun _ => undef, fun _ => 0, hown, fun i _ hi => by omega, fun i hi => by omega, fun i j hij hj => by omega⟩
  have HR0 := Lib.hid hrel0; clear hrel0 hown
  have hsz : w.heap.size < w1.heap.size := by
    obtain ⟨_, _, _, ho, _⟩ := HR0.out
    exact (ho.lt w.heap.size rfl).2
  have HB := Lib.hid hb; clear hb hgrow
  go_wp2
  go_loopw [4] (fun i wr => ∃ k : Nat, k ≤ n ∧ i = .int .i64 k ∧ Hid (OpsRel w.heap.size n k wr.heap.size ds wr) ∧ Hid (Below w.heap.size w wr) ∧ w.heap.size < wr.heap.size) (fun i _ => n - (intOf i).toNat)
  case atStart => exact ⟨0, Nat.zero_le _, rfl, HR0, HB, hsz⟩
  case round =>
    obtain ⟨k, hk, rfl, HR, HBR, hsr⟩ := hrel
    by_cases hlt : k < n
    · obtain ⟨d, ht⟩ : ∃ d, ds[k]? = some d := ⟨_, List.getElem?_eq_getElem (by have := HN.out; omega)⟩
      obtain ⟨u', c0, c1, c2, har⟩ := HC.out k _ ht
      have keep : ∀ {ad : Addr} {v : Value}, w.cell? ad = some v → wr.cell? ad = some v := fun {ad} {v} hv => by rw [HBR.out.cell (World.block_lt_of_cell? w _ hv)]; exact hv
      have d0 := keep c0
      have d1 := keep c1
      have d2 := keep c2
      clear c0 c1 c2 keep
      have HAR := Lib.hid (har.below HBR.out); clear har
      have HDL := Lib.hid (HAL.out d (List.mem_of_getElem? ht))
      have HTT := Lib.hid ht; clear ht
      go_wp2_with fail
      refine (toOp_any d u' _ HDL.out HAR.out).mono ?_
      rintro e w2 ⟨u2, rfl, ho2, hb2⟩
      have HR2 := Lib.hid ((HR.out.below hb2).wide (B' := wr.heap.size) (Nat.le_refl _))
      have HB2 := Lib.hid (HBR.out.trans (hb2.mono HBR.out.size))
      have hs2' := hb2.size
      obtain ⟨⟨o0, g0⟩, f0⟩ := HR2.out.cells hlt 0 (by omega)
      obtain ⟨⟨o1, g1⟩, f1⟩ := HR2.out.cells hlt 1 (by omega)
      obtain ⟨⟨o2, g2⟩, f2⟩ := HR2.out.cells hlt 2 (by omega)
      rw [Nat.add_zero] at g0 f0
      obtain ⟨ua, uc, rfl⟩ := (StrsAt.of_owns ho2).slice
      have HST := Lib.hid (HR2.out.step (B' := w2.heap.size) hlt HTT.out ho2 hsr hs2' (fun b hb => (ho2.lt b hb).2)); clear ho2 hb2
      go_wp2
      go_roundw
      case rel => exact ⟨k + 1, by omega, by go_num, Lib.hid (by simpa using HST.out), Lib.hid (((HB2.out.setCell (Nat.le_refl _) _).setCell (Nat.le_refl _) _).setCell (Nat.le_refl _) _), by simp; omega⟩
      case measure => simp [intOf]; omega
    · have hkn : k = n := by omega
      subst hkn
      have HD := Lib.hid (HR.out.done HN.out hsr)
      go_wp2
      go_ret
      exact ⟨_, rfl, HD.out, HBR.out⟩

set_option maxRecDepth 100000 in
set_option maxHeartbeats 400000 in
theorem toOps_empty (a : Option Addr) (cap : Nat) (w : World) :
    Calls Try.prog 73 #[.slice a 0 cap] w (CopyOps [] w) := by
  obtain ⟨i0, hi, hz0, hz1, hz2⟩ := info_parts infoOp
  have HI := Lib.hid hi; clear hi
  have HZ0 := Lib.hid hz0; clear hz0
  have HZ1 := Lib.hid hz1; clear hz1
  have HZ2 := Lib.hid hz2; clear hz2
  go_enter Try.func73, Try.ntmps73
  go_wp2_with (first | (at_make; refine wpList_make_full _ rfl (.tmp 6) (.tmp 6) 25 rfl w.heap.size 47 i0 (.agg #[.string ByteArray.empty, .slice none 0 0, .string ByteArray.empty]) 3 Try.underlying25 HI.out HZ0.out HZ1.out _ _ _ _ 0 rfl rfl rfl rfl ?m1 ?m2 ?m3 ?_))
  case m1 => simp
  case m2 => decide
  case m3 => exact Nat.le_refl _
  intro w1 hown hgrow
  have hb : Below w.heap.size w w1 := (Below.refl _ _).grown hgrow (Nat.le_refl _) (fun k hk => by cases hk)
  clear hown hgrow
  go_wp2
  refine wp_loop_rounds 1 ?_
  rw [rounds_succ]
  go_wp2
  go_ret
  exact ⟨_, rfl, OwnOps.nil _ _ _ _ _, hb⟩

theorem toOps_any (v : Value) (ds : List OpD) (w : World) (hn : ds.length ≤ 1048576) (ha : ∀ d ∈ ds, d.args.length ≤ 1048576) (hv : OpsAt w v ds) :
    Calls Try.prog 73 #[v] w (CopyOps ds w) := by
  obtain ⟨a, cap, rfl, hv⟩ := hv
  rcases hv with rfl | ⟨b, o, rfl, hv⟩
  · exact toOps_empty a cap w
  · exact toOps_some b o cap ds w hn ha hv

/-- A copy of a signature: the rows of the sorts, then those of the operators. -/
def CopySig (ps : List ByteArray) (ds : List OpD) (w : World) (e : Ending) (w' : World) : Prop :=
  ∃ u v m, e = .returned (sv u v) ∧ w'.ownsRow w.heap.size 9 1 u ps.length (ps.map Value.string) ∧ (∀ b, u.ownBlock = some b → b < m) ∧ w.heap.size ≤ m ∧ m ≤ w'.heap.size ∧ OwnOps w' m w'.heap.size v ds ∧ Below w.heap.size w w'

set_option maxRecDepth 100000 in
set_option maxHeartbeats 800000 in
theorem toSig_any (x : Value) (ps : List ByteArray) (ds : List OpD) (w : World) (hp : ps.length ≤ 1048576) (hn : ds.length ≤ 1048576) (ha : ∀ d ∈ ds, d.args.length ≤ 1048576) (hv : SigAt w x ps ds) :
    Calls Try.prog 29 #[x] w (CopySig ps ds w) := by
  obtain ⟨s, t, rfl, hs, ht⟩ := hv
  have HS := Lib.hid hs
  have HT := Lib.hid ht
  obtain ⟨sa, sc, rfl⟩ := hs.slice
  obtain ⟨ta, tc, rfl⟩ := ht.slice
  have HAL := Lib.hid ha
  clear hs ht ha
  go_enter Try.func29, Try.ntmps29
  go_wp2_with fail
  obtain ⟨W, hW⟩ : ∃ W, W = ((w.alloc (.cells #[.slice sa ps.length sc, .slice ta ds.length tc] 55)).alloc (.cells #[.slice none 0 0, .slice none 0 0] 27)).alloc (.cells #[.slice none 0 0, .slice none 0 0] 27) := ⟨_, rfl⟩
  have hWs : W.heap.size = w.heap.size + 1 + 1 + 1 := by rw [hW]; simp
  have r1 : W.heap[w.heap.size + 1]? = some (.cells #[.slice none 0 0, .slice none 0 0] 27 (0, 0)) := by rw [hW]; exact heap_mid _ _ _ (by simp)
  have r2 : W.heap[w.heap.size + 1 + 1]? = some (.cells #[.slice none 0 0, .slice none 0 0] 27 (0, 0)) := by rw [hW]; exact heap_new _ _ (by simp)
  have r0 : W.heap[w.heap.size]? = some (.cells #[.slice sa ps.length sc, .slice ta ds.length tc] 55 (0, 0)) := by
    rw [hW, Below.heap_alloc _ _ _ (by simp; omega)]; exact heap_mid _ _ _ rfl
  have hbW : Below w.heap.size w W := by rw [hW]; exact (((Below.refl _ _).alloc (Nat.le_refl _) _).alloc (by simp) _).alloc (by simp; omega) _
  have HBW := Lib.hid hbW; clear hbW
  rw [← hW]
  clear hW
  have HWS := Lib.hid hWs; clear hWs
  refine (copy_any _ ps W hp (HS.out.below HBW.out)).mono ?_
  rintro e w1 ⟨u1, rfl, ho1, hb1⟩
  obtain ⟨ua, uc, rfl⟩ := (StrsAt.of_owns ho1).slice
  have q0 := hb1.block (w.heap.size) (by have := HWS.out; omega)
  have q1 := hb1.block (w.heap.size + 1) (by have := HWS.out; omega)
  have q2 := hb1.block (w.heap.size + 1 + 1) (by have := HWS.out; omega)
  rw [r0] at q0
  rw [r1] at q1
  rw [r2] at q2
  clear r0 r1 r2
  have a1 := cell_of_row w1 (w.heap.size) 1 _ _ _ q0
  have d0 := cell_of_row w1 (w.heap.size + 1 + 1) 0 _ _ _ q2
  have g0 := frozen_of_row w1 (w.heap.size + 1 + 1) 0 _ _ q2
  simp at a1 d0
  have HO1 := Lib.hid ho1; clear ho1
  have HB1 := Lib.hid hb1; clear hb1
  have h4 := HWS.out
  have hs1 := HB1.out.size
  obtain ⟨W2, hW2⟩ : ∃ W2, W2 = w1.setCell ⟨w.heap.size + 1 + 1, 0, none⟩ (.slice ua ps.length uc) := ⟨_, rfl⟩
  have hbx : Below w.heap.size w W2 := by rw [hW2]; exact ((HBW.out.trans (HB1.out.mono HBW.out.size)).setCell (by simp; omega) _)
  have hsz2 : W2.heap.size = w1.heap.size := by rw [hW2]; simp [World.setCell]
  have p1 : W2.heap[w.heap.size + 1]? = some (.cells #[.slice none 0 0, .slice none 0 0] 27 (0, 0)) := by rw [hW2, Below.heap_setCell _ _ _ _ (by simp)]; exact q1
  have p2 : W2.heap[w.heap.size + 1 + 1]? = some (.cells #[.slice ua ps.length uc, .slice none 0 0] 27 (0, 0)) := by rw [hW2]; exact heap_setCell_same w1 _ 0 _ _ _ q2
  have ho2 : W2.ownsRow W.heap.size 9 1 (.slice ua ps.length uc) ps.length (ps.map Value.string) := by rw [hW2]; exact row_off HO1.out (by omega)
  have HBX := Lib.hid hbx; clear hbx
  have HO2 := Lib.hid ho2; clear ho2
  clear q0 q1 q2
  go_wp2_with fail
  rw [← hW2]
  clear hW2 a1 d0 g0
  refine (toOps_any _ ds W2 hn HAL.out (HT.out.below HBX.out)).mono ?_
  rintro e w2 ⟨u2, rfl, ho3, hb2⟩
  obtain ⟨va, vc, rfl⟩ := ho3.at.slice
  have z1 := hb2.block (w.heap.size + 1) (by omega)
  have z2 := hb2.block (w.heap.size + 1 + 1) (by omega)
  rw [p1] at z1
  rw [p2] at z2
  clear p1 p2
  have b0 := cell_of_row w2 (w.heap.size + 1) 0 _ _ _ z1
  have b1 := cell_of_row w2 (w.heap.size + 1) 1 _ _ _ z1
  have f0 := frozen_of_row w2 (w.heap.size + 1) 0 _ _ z1
  have f1 := frozen_of_row w2 (w.heap.size + 1) 1 _ _ z1
  have d0 := cell_of_row w2 (w.heap.size + 1 + 1) 0 _ _ _ z2
  have d1 := cell_of_row w2 (w.heap.size + 1 + 1) 1 _ _ _ z2
  have g1 := frozen_of_row w2 (w.heap.size + 1 + 1) 1 _ _ z2
  simp at b0 b1 d0 d1
  clear z1 z2
  have HO4 := Lib.hid (keep_own HO2.out hb2)
  have HO5 := Lib.hid ho3; clear ho3
  have HB5 := Lib.hid hb2; clear hb2
  have hsz5 := HB5.out.size
  go_wp2
  (try simp only [Exit.inBlock, Exit.then])
  refine bodyPost_ret (v := sv (.slice ua ps.length uc) (.slice va ds.length vc)) ?hr rfl ?_
  case hr =>
    rw [results_cell (a := 2) (t := 27) (ad := ⟨w.heap.size + 1, 0, none⟩) rfl rfl]
    go_simp
  refine ⟨_, _, W2.heap.size, rfl, ?_, fun b hb => ?_, by omega, by simp; omega, ?_, ?_⟩
  · exact own_low (row_off (row_off (row_off HO4.out (by omega)) (by omega)) (by omega)) (by omega)
  · exact (HO2.out.lt b hb).2
  · refine OwnOps.wide (lo := W2.heap.size) (hi := w2.heap.size) (Nat.le_refl _) (by simp) ?_
    refine OwnOps.keep (fun b h1 h2 => ?_) HO5.out
    rw [Below.heap_setCell _ _ _ _ (by simp; omega), Below.heap_setCell _ _ _ _ (by simp; omega), Below.heap_setCell _ _ _ _ (by simp; omega)]
  · have hb := HBX.out.trans (HB5.out.mono HBX.out.size)
    exact ((hb.setCell (by simp; omega) _).setCell (by simp) _).setCell (by simp) _

theorem CopySig.at {ps : List ByteArray} {ds : List OpD} {w : World} {e : Ending} {w' : World} (c : CopySig ps ds w e w') : ∃ u v, e = .returned (sv u v) ∧ SigAt w' (sv u v) ps ds ∧ Below w.heap.size w w' := by
  obtain ⟨u, v, m, rfl, h1, _, _, _, h2, hb⟩ := c
  exact ⟨u, v, rfl, ⟨u, v, rfl, StrsAt.of_owns h1, h2.at⟩, hb⟩
end Go.Proofs.Ytcmhiindjponcaa
namespace Go.Proofs.Ytcmhiindjponcaa
open Go.RowKit

/-- The operator that there is not. -/
def zOp : OpD := ⟨⟨#[]⟩, [], ⟨#[]⟩⟩
/-- The operator that the name finds: a built-in one, or the first of the list. -/
def findD (ds : List OpD) (s : ByteArray) : Option OpD := if builtinB s then some ⟨s, [kWord, kWord], kWord⟩ else ds.find? (fun d => d.name.toList == s.toList)
/-- What a call that looks for an operator answers: it, in memory of the call's own. -/
def FindE (o : Option OpD) (w : World) (e : Ending) (w' : World) : Prop :=
  ∃ u, e = .returned (.tuple #[ov (o.getD zOp).name u (o.getD zOp).res, .bool o.isSome]) ∧ w'.ownsRow w.heap.size 9 1 u (o.getD zOp).args.length ((o.getD zOp).args.map Value.string) ∧ Below w.heap.size w w'

theorem findD_built {ds : List OpD} {s : ByteArray} (h : builtinB s = true) : findD ds s = some ⟨s, [kWord, kWord], kWord⟩ := by unfold findD; rw [h]; rfl
theorem findD_at {ds : List OpD} {s : ByteArray} {k : Nat} {d : OpD} (h : builtinB s = false) (hn : ∀ x ∈ ds.take k, (x.name.toList == s.toList) = false) (hk : ds[k]? = some d) (hd : (d.name.toList == s.toList) = true) : findD ds s = some d := by
  unfold findD
  rw [h]
  have e : ds = ds.take k ++ d :: ds.drop (k + 1) := by
    have hl := (List.getElem?_eq_some_iff.1 hk)
    obtain ⟨hl, he⟩ := hl
    rw [← he, ← List.drop_eq_getElem_cons hl, List.take_append_drop]
  have h0 : (ds.take k).find? (fun d => d.name.toList == s.toList) = none := List.find?_eq_none.2 (fun x hx => by simpa using hn x hx)
  show ds.find? _ = some d
  rw [e, List.find?_append, h0, List.find?_cons, hd]
  rfl
theorem findD_none {ds : List OpD} {s : ByteArray} (h : builtinB s = false) (hn : ∀ x ∈ ds, (x.name.toList == s.toList) = false) : findD ds s = none := by
  unfold findD
  rw [h]
  exact List.find?_eq_none.2 (fun x hx => by simpa using hn x hx)

/-- A source of strings: nil, or cells from an address on. -/
theorem StrsAt.src {w : World} {a : Option Addr} {n c : Nat} {ps : List ByteArray} (h : StrsAt w (.slice a n c) ps) : n = ps.length ∧ ((a = none ∧ ps = []) ∨ ∃ ad, a = some ad ∧ ∀ j p, ps[j]? = some p → w.cell? (ad.add j) = some (.string p)) := by
  obtain ⟨a', c', e, h⟩ := h
  simp only [Value.slice.injEq] at e
  obtain ⟨rfl, rfl, rfl⟩ := e
  refine ⟨rfl, ?_⟩
  rcases h with rfl | ⟨b, o, rfl, h⟩
  · cases a with
    | none => exact Or.inl ⟨rfl, rfl⟩
    | some ad => exact Or.inr ⟨ad, rfl, fun j p hp => by simp at hp⟩
  · refine Or.inr ⟨_, rfl, fun j p hp => ?_⟩
    have e : (⟨b, o, none⟩ : Addr).add j = ⟨b, o + j, none⟩ := by
      unfold Addr.add
      split
      · rename_i h; subst h; rfl
      · rfl
    rw [e]; exact h j p hp

theorem results_op {fn : Func} {a b : Tmp} {t : TypeId} {tmps : Array Value} {ad : Addr} (h : fn.results = #[.cell a t, .tmp b]) (ha : tmps.getD a undef = .pointer (some ad)) (P : Program) (w : World) {x : Value}
    (hx : (loadVar t ad).run P w = .ok x w) : (results fn tmps).run P w = .ok (.tuple #[x, tmps.getD b undef]) w := by
  have h2 : tmps[a]?.getD undef = .pointer (some ad) := by rw [← ha]; simp
  simp [results, h, h2, asAddr, hx, Result.andThen]

theorem run_append_none_cap {P : Program} {w : World} (base : Nat) (t ty e : TypeId) (i : TypeInfo) (size : Nat) (ht : P.underlying t = some (.slice e)) (hi : P.info? e = some i)
    (v : Value) (n : Nat) (xs : List Value) (hown : w.ownsRow base e size v n xs) (c : Nat) :
    (Builtin.append_ #[t, t] ty #[v, .slice none 0 c]).run P w = .ok v w := by
  rcases hown.2 with ⟨rfl, rfl⟩ | ⟨g, cap, cur, rfl, _, _, hnc, _⟩
  · simp [Builtin.append_, run_underlying ht, sizeOf, typeInfo, hi, Builtin.lenOf, Builtin.firstCells]
  · simp [Builtin.append_, run_underlying ht, sizeOf, typeInfo, hi, Builtin.lenOf, Builtin.firstCells, hnc, storeCells]
theorem wpList_append_none_cap {P : Program} {w : World} {ops : Array Oper} {rest : List Oper} {o : Oper} {a : Act} {Q : Exit → Act → World → Prop} (hgd : o.guard = none) (s x : Operand) (t : TypeId)
    (ho : o.op = .call { callee := .builtin .append, args := #[s, x], argTypes := #[t, t] })
    (base : Nat) (e : TypeId) (i : TypeInfo) (size : Nat) (ht : P.underlying t = some (.slice e)) (hi : P.info? e = some i)
    (v : Value) (n : Nat) (xs : List Value) (hs : a.eval s = v) (hown : w.ownsRow base e size v n xs) (c : Nat) (hx : a.eval x = .slice none 0 c)
    (h : wpList P ops Q rest (a.put o.dst v) w) : wpList P ops Q (o :: rest) a w := by
  refine wpList_plain hgd fun K hK => ?_
  have hrun := run_append_none_cap (P := P) (w := w) base t o.type e i size ht hi v n xs hown c
  unfold Oper.wp
  simp [execOp, ho, resolve, invoke, builtin, hs, hx, hrun, Result.andThen]
  exact hK _ _ h

theorem own_formF {w : World} {B n size : Nat} {e : TypeId} {v : Value} {xs : List Value} (h : w.ownsRow B e size v n xs) : ∃ a c, v = .slice a n c := by
  rcases h.2 with ⟨rfl, h0⟩ | ⟨g, cap, cur, rfl, _⟩
  · exact ⟨none, 0, by rw [h0]⟩
  · exact ⟨_, _, rfl⟩

/-- The three cells of a struct of an operator. -/
theorem cells_of3 {Y : World} {b : Nat} {x0 x1 x2 : Value} {t : TypeId} (hb : Y.heap[b]? = some (.cells #[x0, x1, x2] t (0, 0))) : (Y.cell? ⟨b, 0, none⟩ = some x0 ∧ Y.cell? ⟨b, 1, none⟩ = some x1 ∧ Y.cell? ⟨b, 2, none⟩ = some x2) ∧
    (Y.frozen? ⟨b, 0, none⟩ = false ∧ Y.frozen? ⟨b, 1, none⟩ = false ∧ Y.frozen? ⟨b, 2, none⟩ = false) :=
  ⟨⟨by rw [cell_of_row Y b 0 _ _ _ hb]; rfl, by rw [cell_of_row Y b 1 _ _ _ hb]; rfl, by rw [cell_of_row Y b 2 _ _ _ hb]; rfl⟩, frozen_of_row Y b 0 _ _ hb, frozen_of_row Y b 1 _ _ hb, frozen_of_row Y b 2 _ _ hb⟩

/-- The answer stays through the stores into the result's box. -/
theorem FindE.fin {o : Option OpD} {w wr : World} {u : Value} {B : Nat} (hB : w.heap.size + 2 ≤ B) (ho : wr.ownsRow B 9 1 u (o.getD zOp).args.length ((o.getD zOp).args.map Value.string)) (hb : Below w.heap.size w wr) (v0 v1 v2 : Value) :
    FindE o w (.returned (.tuple #[ov (o.getD zOp).name u (o.getD zOp).res, .bool o.isSome])) (((wr.setCell ⟨w.heap.size + 1, 0, none⟩ v0).setCell ⟨w.heap.size + 1, 1, none⟩ v1).setCell ⟨w.heap.size + 1, 2, none⟩ v2) :=
  ⟨u, rfl, own_low (row_off (row_off (row_off ho (by omega)) (by omega)) (by omega)) (by omega), ((hb.setCell (Nat.le_succ _) _).setCell (Nat.le_succ _) _).setCell (Nat.le_succ _) _⟩
end Go.Proofs.Ytcmhiindjponcaa
namespace Go.Proofs.Ytcmhiindjponcaa
open Go

/-- A string as the list of its bytes. -/
def key (s : ByteArray) : List UInt8 := s.data.toList
theorem key_inj {a b : ByteArray} (h : key a = key b) : a = b := by
  obtain ⟨⟨x⟩⟩ := a; obtain ⟨⟨y⟩⟩ := b
  unfold key at h
  simp at h
  rw [h]
theorem toList_key (a : ByteArray) : a.toList = key a := ByteArray.toList_eq a
theorem same_iff (a b : ByteArray) : (a.toList == b.toList) = true ↔ a = b := by
  rw [beq_iff_eq, toList_key, toList_key]
  exact ⟨key_inj, fun h => by rw [h]⟩
end Go.Proofs.Ytcmhiindjponcaa
namespace Go.Proofs.Ytcmhiindjponcaa
open Go Go.Maps

theorem less_iff (a b : ByteArray) : Op.bytesLess a.toList b.toList = true ↔ key a < key b := by
  rw [toList_key, toList_key]
  have h : ∀ (x y : List UInt8), Op.bytesLess x y = decide (x < y) := by
    intro x
    induction x with
    | nil => intro y; cases y <;> simp [Op.bytesLess]
    | cons a x ih =>
      intro y
      cases y with
      | nil => simp [Op.bytesLess]
      | cons b y =>
        rw [Op.bytesLess, ih y]
        simp only [List.cons_lt_cons_iff]
        by_cases h1 : a < b <;> by_cases h2 : a = b <;> by_cases h3 : x < y <;> simp [h1, h2, h3]
  rw [h, decide_eq_true_iff]

/-! ### the ascending list -/
/-- rs are the elements of ps, each once, in strictly ascending order. -/
def SortedOf (ps rs : List ByteArray) : Prop := rs.Pairwise (fun a b => key a < key b) ∧ ∀ x, x ∈ rs ↔ x ∈ ps

theorem lt_irr (a : List UInt8) : ¬ a < a := List.lt_irrefl a
theorem lt_tr {a b c : List UInt8} (h : a < b) (k : b < c) : a < c := List.lt_trans h k
theorem lt_or {a b : List UInt8} (h : a ≠ b) : a < b ∨ b < a := by
  by_cases h1 : a < b
  · exact Or.inl h1
  · by_cases h2 : b < a
    · exact Or.inr h2
    · exact absurd (List.le_antisymm (List.not_lt.1 h2) (List.not_lt.1 h1)) h

theorem asc_unique : ∀ (a b : List ByteArray), a.Pairwise (fun x y => key x < key y) → b.Pairwise (fun x y => key x < key y) → (∀ x, x ∈ a ↔ x ∈ b) → a = b
  | [], [], _, _, _ => rfl
  | [], y :: b, _, _, h => absurd ((h y).2 (by simp)) (by simp)
  | x :: a, [], _, _, h => absurd ((h x).1 (by simp)) (by simp)
  | x :: a, y :: b, ha, hb, h => by
    obtain ⟨ha1, ha2⟩ := List.pairwise_cons.1 ha
    obtain ⟨hb1, hb2⟩ := List.pairwise_cons.1 hb
    have hxy : x = y := by
      rcases List.mem_cons.1 ((h x).1 (by simp)) with e | hx
      · exact e
      · rcases List.mem_cons.1 ((h y).2 (by simp)) with e | hy
        · exact e.symm
        · exact absurd (lt_tr (ha1 y hy) (hb1 x hx)) (lt_irr _)
    subst hxy
    congr 1
    refine asc_unique a b ha2 hb2 fun z => ?_
    have hz := h z
    rw [List.mem_cons, List.mem_cons] at hz
    constructor
    · intro k
      rcases hz.1 (Or.inr k) with e | e
      · subst e; exact absurd (ha1 z k) (lt_irr _)
      · exact e
    · intro k
      rcases hz.2 (Or.inr k) with e | e
      · subst e; exact absurd (hb1 z k) (lt_irr _)
      · exact e

theorem SortedOf.unique {ps a b : List ByteArray} (ha : SortedOf ps a) (hb : SortedOf ps b) : a = b :=
  asc_unique a b ha.1 hb.1 fun x => (ha.2 x).trans (hb.2 x).symm

theorem SortedOf.nil : SortedOf [] [] := ⟨List.Pairwise.nil, fun _ => Iff.rfl⟩

/-- An element that is there already. -/
theorem SortedOf.there {ps rs : List ByteArray} (h : SortedOf ps rs) (s : ByteArray) (hs : s ∈ rs) : SortedOf (ps ++ [s]) rs := by
  refine ⟨h.1, fun x => ?_⟩
  rw [List.mem_append, List.mem_singleton, h.2 x]
  constructor
  · exact Or.inl
  · rintro (k | rfl)
    · exact k
    · exact (h.2 x).1 hs

/-- A new element goes in behind the lesser ones. -/
theorem SortedOf.insert {ps rs : List ByteArray} (h : SortedOf ps rs) (s : ByteArray) (at' : Nat) (hat : at' ≤ rs.length) (hl : ∀ j r, j < at' → rs[j]? = some r → key r < key s)
    (hr : ∀ r, rs[at']? = some r → ¬ key r < key s ∧ r ≠ s) : SortedOf (ps ++ [s]) (rs.take at' ++ [s] ++ rs.drop at') := by
  have hp : (rs.take at' ++ rs.drop at').Pairwise (fun a b => key a < key b) := by rw [List.take_append_drop]; exact h.1
  obtain ⟨p1, p2, p3⟩ := List.pairwise_append.1 hp
  have hlow : ∀ a ∈ rs.take at', key a < key s := by
    intro a ha
    obtain ⟨j, hj⟩ := List.mem_iff_getElem?.1 ha
    have hj' : j < at' := by
      have := (List.getElem?_eq_some_iff.1 hj).1
      rw [List.length_take] at this; omega
    rw [List.getElem?_take, if_pos hj'] at hj
    exact hl j a hj' hj
  have hhigh : ∀ b ∈ rs.drop at', key s < key b := by
    intro b hb
    cases hd : rs.drop at' with
    | nil => rw [hd] at hb; cases hb
    | cons r t =>
      have h0 : rs[at']? = some r := by
        have e : (rs.drop at')[0]? = some r := by rw [hd]; rfl
        rw [List.getElem?_drop] at e; simpa using e
      obtain ⟨n1, n2⟩ := hr r h0
      have hsr : key s < key r := by
        rcases lt_or (a := key r) (b := key s) (fun e => n2 (key_inj e)) with k | k
        · exact absurd k n1
        · exact k
      rw [hd] at hb p2
      rcases List.mem_cons.1 hb with rfl | hb
      · exact hsr
      · exact lt_tr hsr ((List.pairwise_cons.1 p2).1 b hb)
  refine ⟨?_, fun x => ?_⟩
  · rw [List.append_assoc]
    refine List.pairwise_append.2 ⟨p1, ?_, ?_⟩
    · exact List.pairwise_cons.2 ⟨hhigh, p2⟩
    · intro a ha b hb
      rcases List.mem_cons.1 (by simpa using hb) with rfl | hb
      · exact hlow a ha
      · exact lt_tr (hlow a ha) (hhigh b hb)
  · have hx := h.2 x
    rw [← List.take_append_drop at' rs] at hx
    simp only [List.mem_append, List.mem_singleton] at hx ⊢
    rw [← hx]
    constructor
    · rintro ((a | a) | a)
      · exact Or.inl (Or.inl a)
      · exact Or.inr a
      · exact Or.inl (Or.inr a)
    · rintro ((a | a) | a)
      · exact Or.inl (Or.inl a)
      · exact Or.inr a
      · exact Or.inl (Or.inr a)

/-! ### the set of a list's strings -/
section
variable {H : Type}
def lits (ps : List ByteArray) : List Lit := ps.map fun s => .string (key s)
def Sset (ps : List ByteArray) : DataW H := setOf (.lit (.bool true)) (lits ps)
theorem lits_key (ps : List ByteArray) : ∀ x ∈ lits ps, WideAt.IsKeyLit x := by
  intro x hx
  obtain ⟨s, _, rfl⟩ := List.mem_map.1 hx
  trivial
theorem Sset_nil : Sset (H := H) [] = .map [] := rfl
theorem Sset_snoc (ps : List ByteArray) (s : ByteArray) : Sset (H := H) (ps ++ [s]) = (Sset ps).put (.string (key s)) (.lit (.bool true)) := by
  unfold Sset lits
  rw [List.map_append, List.map_cons, List.map_nil, setOf_snoc]
theorem any_same (ps : List ByteArray) (x : List UInt8) : (lits ps).any (fun y => y.sameKey (.string x)) = true ↔ ∃ s ∈ ps, key s = x := by
  rw [List.any_eq_true]
  constructor
  · rintro ⟨y, hy, hs⟩
    obtain ⟨s, hs', rfl⟩ := List.mem_map.1 hy
    exact ⟨s, hs', by simpa [Lit.sameKey] using hs⟩
  · rintro ⟨s, hs, rfl⟩
    exact ⟨_, List.mem_map.2 ⟨s, hs, rfl⟩, by simp [Lit.sameKey]⟩
theorem has_Sset (ps : List ByteArray) (s : ByteArray) : Maps.has (Sset (H := H) ps) (.string (key s)) = true ↔ s ∈ ps := by
  unfold Sset
  rw [has_setOf _ _ _ (lits_key ps), any_same]
  exact ⟨fun ⟨x, hx, e⟩ => key_inj e ▸ hx, fun h => ⟨s, h, rfl⟩⟩
theorem tidy_Sset (ps : List ByteArray) : Tidy (Sset (H := H) ps) := tidy_setOf _ _ (lits_key ps)

theorem snoc_ind {α : Type} {X : List α → Prop} (h0 : X []) (hs : ∀ l x, X l → X (l ++ [x])) (l : List α) : X l := by
  have h : ∀ l : List α, X l.reverse := by
    intro l
    induction l with
    | nil => exact h0
    | cons x l ih => rw [List.reverse_cons]; exact hs _ _ ih
  have := h l.reverse
  rwa [List.reverse_reverse] at this
theorem size_Sset_le (ps : List ByteArray) : Maps.size (Sset (H := H) ps) ≤ ps.length := by
  refine snoc_ind (X := fun ps => Maps.size (Sset (H := H) ps) ≤ ps.length) (by simp [Sset_nil, Maps.size]) (fun ps s ih => ?_) ps
  rw [Sset_snoc, size_put (tidy_Sset ps)]
  split <;> simp <;> omega
/-- A set filled from a list is as great as the list just where no element is there twice. -/
theorem size_Sset (ps : List ByteArray) : Maps.size (Sset (H := H) ps) = ps.length ↔ ps.Nodup := by
  refine snoc_ind (X := fun ps => Maps.size (Sset (H := H) ps) = ps.length ↔ ps.Nodup) (by simp [Sset_nil, Maps.size]) (fun ps s ih => ?_) ps
  · rw [Sset_snoc, size_put (tidy_Sset ps)]
    have hle := size_Sset_le (H := H) ps
    have hh := has_Sset (H := H) ps s
    rw [List.length_append, List.length_cons, List.length_nil]
    by_cases hs : s ∈ ps
    · rw [if_pos (hh.2 hs)]
      constructor
      · intro e; omega
      · intro nd
        exact absurd rfl ((List.nodup_append.1 nd).2.2 s hs s (by simp))
    · have hf : ¬ Maps.has (Sset (H := H) ps) (.string (key s)) = true := fun e => hs (hh.1 e)
      rw [if_neg hf]
      constructor
      · intro e
        refine List.nodup_append.2 ⟨ih.1 (by omega), by simp, fun a ha b hb e2 => ?_⟩
        simp at hb
        subst hb; subst e2
        exact hs ha
      · intro nd
        have := ih.2 (List.nodup_append.1 nd).1
        omega
end

/-- The sort's answer, as strings. -/
def strs (l : List (List UInt8)) : List ByteArray := l.map fun x => ⟨x.toArray⟩
theorem key_strs (x : List UInt8) : key ⟨x.toArray⟩ = x := by simp [key]
theorem strs_vals (l : List (List UInt8)) : (strs l).map Value.string = l.map encStr := by simp [strs, encStr]

theorem sorted_strs {H : Type} (ps : List ByteArray) (ks : List (List UInt8)) (hk : ∀ x ∈ strKeys (Sset (H := H) ps), ∃ s ∈ ps, key s = x) (h : ks.Perm (strKeys (Sset (H := H) ps))) (hnd : (strKeys (Sset (H := H) ps)).Nodup)
    (hall : ∀ s ∈ ps, key s ∈ strKeys (Sset (H := H) ps)) : SortedOf ps (strs (ks.mergeSort leB)) := by
  have tr : ∀ a b c : List UInt8, leB a b = true → leB b c = true → leB a c = true := fun a b c h1 h2 => by simp only [leB, decide_eq_true_eq] at *; exact List.le_trans h1 h2
  have to : ∀ a b : List UInt8, (leB a b || leB b a) = true := fun a b => by simp only [leB, Bool.or_eq_true, decide_eq_true_eq]; exact List.le_total a b
  have hp := List.pairwise_mergeSort tr to ks
  have hperm := List.mergeSort_perm ks leB
  have hnd2 : (ks.mergeSort leB).Nodup := (hperm.trans h).nodup_iff.2 hnd
  refine ⟨?_, fun x => ?_⟩
  · unfold strs
    rw [List.pairwise_map]
    have hq := hp.and hnd2
    refine hq.imp fun {a b} hab => ?_
    rw [key_strs, key_strs]
    obtain ⟨h1, h2⟩ := hab
    simp only [leB, decide_eq_true_eq] at h1
    rcases lt_or h2 with k | k
    · exact k
    · exact absurd k (List.not_lt.2 h1)
  · unfold strs
    rw [List.mem_map]
    constructor
    · rintro ⟨y, hy, rfl⟩
      obtain ⟨s, hs, e⟩ := hk y (h.subset (hperm.subset hy))
      have : (⟨y.toArray⟩ : ByteArray) = s := key_inj (by rw [key_strs, e])
      rw [this]; exact hs
    · intro hx
      refine ⟨key x, hperm.symm.subset (h.symm.subset (hall x hx)), key_inj (key_strs _)⟩

/-- The keys of the set that a walk holds. -/
theorem keys_Sset {H : Type} {P : Program} {k : TypeId} {R : Value → Option (DataW H × List MemPlace)} {w : World} {b n : Nat} (ps : List ByteArray) (hown : w.ownsMap P k R b n (Sset (H := H) ps)) (hk : P.underlying k = some .string) :
    (strKeys (Sset (H := H) ps)).Nodup ∧ (∀ x ∈ strKeys (Sset (H := H) ps), ∃ s ∈ ps, key s = x) ∧ ∀ s ∈ ps, key s ∈ strKeys (Sset (H := H) ps) := by
  obtain ⟨es, hD, hpw⟩ := tidy_Sset (H := H) ps
  obtain ⟨es', hD', hko⟩ := hown.keysOf
  obtain rfl : es = es' := by rw [hD] at hD'; simpa using hD'
  have hstr : ∀ p ∈ es, ∃ x, p.1 = .string x := fun p hp => by
    obtain ⟨v, hv⟩ := hko p hp
    obtain ⟨x, _, hx, _⟩ := Maps.keyOf_str hk hv
    exact ⟨x, hx⟩
  have hm : ∀ x, x ∈ strKeys (Sset (H := H) ps) ↔ ∃ s ∈ ps, key s = x := by
    intro x
    have h1 : x ∈ strKeys (Sset (H := H) ps) ↔ Maps.has (Sset (H := H) ps) (.string x) = true := by
      rw [hD, has_eq, List.any_eq_true]
      show x ∈ es.map (fun p => strOf p.1) ↔ _
      rw [List.mem_map]
      constructor
      · rintro ⟨p, hp, rfl⟩
        obtain ⟨a, ha⟩ := hstr p hp
        exact ⟨p, hp, by rw [ha]; simp [Lit.sameKey, strOf]⟩
      · rintro ⟨p, hp, hs⟩
        obtain ⟨a, ha⟩ := hstr p hp
        rw [ha] at hs
        exact ⟨p, hp, by rw [ha]; simpa [Lit.sameKey, strOf] using hs⟩
    rw [h1]
    unfold Sset
    rw [has_setOf _ _ _ (lits_key ps), any_same]
  refine ⟨?_, fun x hx => (hm x).1 hx, fun s hs => (hm _).2 ⟨s, hs, rfl⟩⟩
  rw [hD]
  show (es.map fun p => strOf p.1).Nodup
  refine List.pairwise_map.2 (hpw.imp_of_mem fun {p q} hp' hq' hne e => hne ?_)
  obtain ⟨a, ha⟩ := hstr p hp'
  obtain ⟨b, hb⟩ := hstr q hq'
  rw [ha, hb] at e ⊢
  exact congrArg _ e
theorem sorted_len {H : Type} (ps : List ByteArray) (ks : List (List UInt8)) (h : ks.Perm (strKeys (Sset (H := H) ps))) : (strs (ks.mergeSort leB)).length = ks.length ∧ ks.length ≤ ps.length := by
  have e1 : (strs (ks.mergeSort leB)).length = ks.length := by simp [strs]
  refine ⟨e1, ?_⟩
  rw [h.length_eq]
  obtain ⟨es, hD, _⟩ := tidy_Sset (H := H) ps
  have h2 := size_Sset_le (H := H) ps
  rw [hD] at h2 ⊢
  show (es.map fun p => strOf p.1).length ≤ _
  rw [List.length_map]
  exact h2
end Go.Proofs.Ytcmhiindjponcaa
namespace Go.Proofs.Ytcmhiindjponcaa
open Go.RowKit

/-- The first k elements differ from s. -/
def NotYet (ps : List ByteArray) (s : ByteArray) (k : Nat) : Prop := ∀ j p, j < k → ps[j]? = some p → p ≠ s
theorem notYet_next {ps : List ByteArray} {s : ByteArray} {k : Nat} (h : NotYet ps s k) (p : ByteArray) (hp : ps[k]? = some p) (hne : p ≠ s) : NotYet ps s (k + 1) := by
  intro j q hj hq
  by_cases e : j = k
  · subst e; rw [hp] at hq; cases hq; exact hne
  · exact h j q (by omega) hq
theorem getD_at (ps : List ByteArray) (j : Nat) (hj : j < ps.length) : ps[j]? = some (ps.getD j ByteArray.empty) := by simp [List.getD, hj]
theorem idx_hit {ps : List ByteArray} {s : ByteArray} {k : Nat} (h : NotYet ps s k) (hk : ps[k]? = some s) : Lib.idxOfS ps s = k := by
  have hl := (List.getElem?_eq_some_iff.1 hk).1
  have := Lib.idxOfS_hit ps ps.length k s hl (Nat.le_refl _) (by simp [List.getD, hk]) (fun j hj => h j _ hj (getD_at ps j (by omega)))
  rwa [List.take_length] at this
theorem idx_miss {ps : List ByteArray} {s : ByteArray} (h : NotYet ps s ps.length) : Lib.idxOfS ps s = -1 := by
  have := Lib.idxOfS_miss ps ps.length s (fun j hj => h j _ hj (getD_at ps j hj))
  rwa [List.take_length] at this
/-- How an index answers: -1, or a place in the list. -/
theorem idx_range (ps : List ByteArray) (s : ByteArray) : -1 ≤ Lib.idxOfS ps s ∧ Lib.idxOfS ps s < ps.length ∨ ps = [] ∧ Lib.idxOfS ps s = -1 := by
  by_cases h0 : ps = []
  · right; subst h0; exact ⟨rfl, rfl⟩
  · left
    have hl : 0 < ps.length := List.length_pos_iff.2 h0
    by_cases h : ∃ k, NotYet ps s k ∧ ps[k]? = some s
    · obtain ⟨k, h1, h2⟩ := h
      have := (List.getElem?_eq_some_iff.1 h2).1
      rw [idx_hit h1 h2]; omega
    · have hn : ∀ k, NotYet ps s k := by
        intro k
        induction k with
        | zero => intro j p hj; omega
        | succ k ih =>
          cases hk : ps[k]? with
          | none => intro j p hj hp; by_cases e : j = k
                    · subst e; rw [hk] at hp; cases hp
                    · exact ih j p (by omega) hp
          | some p =>
            refine notYet_next ih p hk fun e => h ⟨k, ih, ?_⟩
            rw [hk, e]
      rw [idx_miss (hn _)]; omega

def IdxEnd (ps : List ByteArray) (s : ByteArray) (w : World) (e : Ending) (w' : World) : Prop := e = .returned (.int .i64 (Lib.idxOfS ps s)) ∧ w' = w

set_option maxRecDepth 100000 in
set_option maxHeartbeats 400000 in
theorem sIndex_empty (a : Option Addr) (cap : Nat) (s : ByteArray) (w : World) :
    Calls Try.prog 104 #[.slice a 0 cap, .string s] w (IdxEnd [] s w) := by
  go_enter Try.func104, Try.ntmps104
  go_wp2
  refine wp_loop_rounds 1 ?_
  rw [rounds_succ]
  go_wp2
  go_ret
  exact ⟨rfl, rfl⟩

set_option maxRecDepth 100000 in
set_option maxHeartbeats 400000 in
theorem sIndex_some (b o cap : Nat) (ps : List ByteArray) (s : ByteArray) (w : World) (hl : ps.length ≤ 9223372036854775807)
    (hc : ∀ i p, ps[i]? = some p → w.cell? ⟨b, o + i, none⟩ = some (.string p)) :
    Calls Try.prog 104 #[.slice (some ⟨b, o, none⟩) ps.length cap, .string s] w (IdxEnd ps s w) := by
  have HC := Lib.hid hc; clear hc
  obtain ⟨n, hn⟩ : ∃ n, n = ps.length := ⟨_, rfl⟩
  rw [← hn] at hl ⊢
  have HN := Lib.hid hn; clear hn
  go_enter Try.func104, Try.ntmps104
  go_wp2
  go_loop [5] (fun i => ∃ k : Nat, k ≤ n ∧ i = .int .i64 k ∧ Hid (NotYet ps s k)) (fun i => n - (intOf i).toNat)
  case atStart => exact ⟨0, Nat.zero_le _, rfl, Lib.hid (fun j p hj => by omega)⟩
  case round =>
    obtain ⟨k, hk, rfl, HY⟩ := hrel
    by_cases hlt : k < n
    · obtain ⟨p, hp⟩ : ∃ p, ps[k]? = some p := ⟨_, List.getElem?_eq_getElem (by have := HN.out; omega)⟩
      have hcell := HC.out k p hp
      have HP := Lib.hid hp; clear hp
      by_cases hq : p = s
      · have hb : (p.toList == s.toList) = true := (same_iff p s).2 hq
        have HQ := Lib.hid hq; clear hq
        go_wp2
        go_ret
        refine ⟨?_, rfl⟩
        rw [idx_hit HY.out (by rw [HP.out, HQ.out])]; rfl
      · have hb : (p.toList == s.toList) = false := by
          cases h : (p.toList == s.toList) with
          | false => rfl
          | true => exact absurd ((same_iff p s).1 h) hq
        have HQ := Lib.hid hq; clear hq
        go_wp2
        go_round
        case rel => exact ⟨k + 1, by omega, by go_num, Lib.hid (notYet_next HY.out p HP.out HQ.out)⟩
        case measure => simp [intOf]; omega
    · have HD : Hid (NotYet ps s ps.length) := Lib.hid (by
        have hkn : k = ps.length := by have := HN.out; omega
        rw [← hkn]; exact HY.out)
      go_wp2
      go_ret
      refine ⟨?_, rfl⟩
      rw [idx_miss HD.out]; rfl

theorem sIndex_any (v : Value) (ps : List ByteArray) (s : ByteArray) (w : World) (hl : ps.length ≤ 9223372036854775807) (hv : StrsAt w v ps) :
    Calls Try.prog 104 #[v, .string s] w (IdxEnd ps s w) := by
  obtain ⟨a, cap, rfl, hv⟩ := hv
  rcases hv with rfl | ⟨b, o, rfl, hv⟩
  · exact sIndex_empty a cap s w
  · exact sIndex_some b o cap ps s w hl hv

theorem lIndex_any (v : Value) (ps : List ByteArray) (s : ByteArray) (w : World) (hl : ps.length ≤ 9223372036854775807) (hv : StrsAt w v ps) :
    Calls Try.prog 118 #[v, .string s] w (IdxEnd ps s w) := by
  obtain ⟨a, cap, rfl, hv⟩ := hv
  rcases hv with rfl | ⟨b, o, rfl, hv⟩
  · exact Any.slices_Index_string_empty Try.lays109 a cap s w
  · have h := Any.slices_Index_string Try.lays109 b o ps.length cap ps s w (Nat.le_refl _) hl (fun j hj => hv j _ (getD_at ps j hj))
    rw [List.take_length] at h
    exact h

set_option maxRecDepth 100000 in
theorem iIndex_any (v : Value) (ps : List ByteArray) (s : ByteArray) (w : World) (hl : ps.length ≤ 9223372036854775807) (hv : StrsAt w v ps) :
    Calls Try.prog 99 #[v, .string s] w (IdxEnd ps s w) := by
  have HV := Lib.hid hv; clear hv
  go_enter Try.func99, Try.ntmps99
  go_wp2_with fail
  refine (lIndex_any v ps s _ hl HV.out).mono ?_
  rintro e w1 ⟨rfl, rfl⟩
  go_wp2
  go_ret
  exact ⟨rfl, rfl⟩

end Go.Proofs.Ytcmhiindjponcaa
namespace Go.Proofs.Ytcmhiindjponcaa
open Go.RowKit Go.Maps Go.WideMaps

theorem lawStr : Keyed Try.prog 9 := string_keyed Try.underlying9

/-- A set of the call's own that holds the strings ps. -/
def HoldsSet (w : World) (b : Nat) (ps : List ByteArray) : Prop := w.ownsMap Try.prog 9 (plainElem (H := Unit) Try.prog 4) b ps.length (Sset (H := Unit) ps)
def KnownEnd (ps : List ByteArray) (w : World) (e : Ending) (w' : World) : Prop :=
  ∃ b, e = .returned (.map (some b)) ∧ HoldsSet w' b ps ∧ w.heap.size ≤ b ∧ Below w.heap.size w w'

set_option maxRecDepth 100000 in
set_option maxHeartbeats 400000 in
theorem known_empty (a : Option Addr) (cap : Nat) (w : World) :
    Calls Try.prog 100 #[.slice a 0 cap] w (KnownEnd [] w) := by
  have hmm := @run_makeMap Try.prog
  go_enter Try.func100, Try.ntmps100
  go_wp2
  refine wp_loop_rounds 1 ?_
  rw [rounds_succ]
  go_wp2
  go_ret
  exact ⟨_, rfl, World.ownsMap_made _ _ _ _, Nat.le_refl _, (Below.refl _ _).alloc (Nat.le_refl _) _⟩

set_option maxRecDepth 100000 in
set_option maxHeartbeats 800000 in
theorem known_some (b o cap : Nat) (ps : List ByteArray) (w : World) (hl : ps.length ≤ 4194304) (hs : ∀ p ∈ ps, p.size ≤ maxLen)
    (hc : ∀ i p, ps[i]? = some p → w.cell? ⟨b, o + i, none⟩ = some (.string p)) :
    Calls Try.prog 100 #[.slice (some ⟨b, o, none⟩) ps.length cap] w (KnownEnd ps w) := by
  have HC := Lib.hid hc; clear hc
  have HS := Lib.hid hs; clear hs
  obtain ⟨n, hn⟩ : ∃ n, n = ps.length := ⟨_, rfl⟩
  rw [← hn] at hl ⊢
  have HN := Lib.hid hn; clear hn
  have hmm := @run_makeMap Try.prog
  go_enter Try.func100, Try.ntmps100
  go_wp2
  go_loopw [9] (fun i wr => ∃ k : Nat, k ≤ n ∧ i = .int .i64 k ∧ HoldsSet wr w.heap.size (ps.take k) ∧ Below w.heap.size w wr) (fun i _ => n - (intOf i).toNat)
  case atStart => exact ⟨0, Nat.zero_le _, rfl, World.ownsMap_made _ _ _ _, (Below.refl _ _).alloc (Nat.le_refl _) _⟩
  case round =>
    obtain ⟨k, hk, rfl, hown, hb⟩ := hrel
    have HB := Lib.hid hb; clear hb
    have HO := Lib.hid hown; clear hown
    by_cases hlt : k < n
    · obtain ⟨p, hp⟩ : ∃ p, ps[k]? = some p := ⟨_, List.getElem?_eq_getElem (by have := HN.out; omega)⟩
      have hc0 := HC.out k p hp
      have hcell : wr.cell? ⟨b, o + k, none⟩ = some (.string p) := by rw [HB.out.cell (World.block_lt_of_cell? w _ hc0)]; exact hc0
      clear hc0
      have hkey : keyOf Try.prog 9 (.string p) = some (.string (key p)) := WideMaps.keyOf_string_mk Try.underlying9 (HS.out p (List.mem_of_getElem? hp))
      have HK := Lib.hid hkey; clear hkey
      have hkl : (ps.take k).length = k := by rw [List.length_take]; have := HN.out; omega
      have HKL := Lib.hid hkl; clear hkl
      have hst : Sset (H := Unit) (ps.take (k + 1)) = (Sset (ps.take k)).put (.string (key p)) (.lit (.bool true)) := by rw [take_next ps k p hp, Sset_snoc]
      have HST := Lib.hid hst; clear hst hp
      go_wp2_with (first
        | (at_mapUpdate; refine wpList_mapUpdate_own _ rfl _ _ _ 147 rfl 9 4 lawStr Try.underlying147 (plainElem (H := Unit) Try.prog 4) w.heap.size (ps.take k).length _ rfl HO.out ?m1 _ _ _ rfl rfl HK.out _ [] (plainElem_bool Try.underlying4 true) ?_))
      case m1 => rw [HKL.out]; unfold maxLen; omega
      intro w1 hown1 hgrow1
      have hown2 : HoldsSet w1 w.heap.size (ps.take (k + 1)) := by
        unfold HoldsSet
        rw [HST.out]
        exact hown1.mono (by simp only [List.length_take]; have := HN.out; omega)
      have hb2 := HB.out.grown hgrow1 HB.out.size (fun j hj => by cases hj; exact Nat.le_refl _)
      have HO2 := Lib.hid hown2; clear hown1 hown2
      have HB2 := Lib.hid hb2; clear hb2 hgrow1
      go_wp2
      go_roundw
      case rel => exact ⟨k + 1, by omega, by go_num, HO2.out, HB2.out⟩
      case measure => simp [intOf]; omega
    · have HD : Hid (ps.take k = ps) := Lib.hid (by
        have hkn : k = ps.length := by have := HN.out; omega
        rw [hkn, List.take_length])
      go_wp2
      go_ret
      refine ⟨_, rfl, ?_, Nat.le_refl _, HB.out⟩
      have h := HO.out
      rw [HD.out] at h
      exact h

theorem known_any (v : Value) (ps : List ByteArray) (w : World) (hl : ps.length ≤ 4194304) (hs : ∀ p ∈ ps, p.size ≤ maxLen) (hv : StrsAt w v ps) :
    Calls Try.prog 100 #[v] w (KnownEnd ps w) := by
  obtain ⟨a, cap, rfl, hv⟩ := hv
  rcases hv with rfl | ⟨b, o, rfl, hv⟩
  · exact known_empty a cap w
  · exact known_some b o cap ps w hl hs hv
end Go.Proofs.Ytcmhiindjponcaa
