/-
  laws.toOp, laws.toOpS and laws.toSignature copy a signature into memory of the call's own.
-/
import Derived.Test.YtidbokheeieifaaQ2
namespace Go.Proofs.Ytidbokheeieifaa
open Go.RowKit

theorem infoOp : (Try.prog.info? 109).map (fun i => (i.zero, i.size, i.bytes)) = some (some (.agg #[.string ByteArray.empty, .slice none 0 0, .string ByteArray.empty]), 3, 56) := by kernel_rfl

/-- The slice value u holds the operators ds; its row, and those of the operators' arguments, are owned, lie in blocks from lo to hi, and lie apart. -/
def OwnOps (w : World) (lo hi : Nat) (u : Value) (ds : List OpD) : Prop :=
  ∃ a cap, u = .slice a ds.length cap ∧ (ds = [] ∨ ∃ (g : Nat) (xs : List Value) (U : Nat → Value) (L : Nat → Nat), a = some ⟨g, 0, none⟩ ∧ lo ≤ g ∧ g < hi ∧ w.ownsRow g 109 3 u ds.length xs ∧
    (∀ i d, ds[i]? = some d → xs[i * 3]? = some (.string d.name) ∧ xs[i * 3 + 1]? = some (U i) ∧ xs[i * 3 + 2]? = some (.string d.res) ∧ w.ownsRow (L i) 9 1 (U i) d.args.length (d.args.map Value.string)) ∧
    (∀ i, i < ds.length → g < L i ∧ ∀ b, (U i).ownBlock = some b → b < hi) ∧ (∀ i j, i < j → j < ds.length → ∀ b, (U i).ownBlock = some b → b < L j))

theorem OwnOps.at {w : World} {lo hi : Nat} {u : Value} {ds : List OpD} (k : OwnOps w lo hi u ds) : OpsAt w u ds := by
  obtain ⟨a, cap, e, hc⟩ := k
  refine ⟨a, cap, e, ?_⟩
  rcases hc with hc | ⟨g, xs, U, L, rfl, _, _, ho, hx, _⟩
  · exact Or.inl hc
  · refine Or.inr ⟨g, 0, rfl, fun i d hd => ?_⟩
    obtain ⟨x0, x1, x2, hs⟩ := hx i d hd
    have hi : i < ds.length := (List.getElem?_eq_some_iff.1 hd).1
    subst e
    refine ⟨U i, ?_, ?_, ?_, StrsAt.of_owns hs⟩
    · rw [Nat.zero_add, ho.cellAt (i * 3) (by omega), x0]
    · rw [Nat.zero_add, ho.cellAt (i * 3 + 1) (by omega), x1]
    · rw [Nat.zero_add, ho.cellAt (i * 3 + 2) (by omega), x2]

theorem row_keep' {w w' : World} {B n size : Nat} {e : TypeId} {v : Value} {xs : List Value} (h : w.ownsRow B e size v n xs) (hk : ∀ g, v.ownBlock = some g → w'.heap[g]? = w.heap[g]?) : w'.ownsRow B e size v n xs := by
  refine ⟨h.1, ?_⟩
  rcases h.2 with hn | ⟨g, cap, cur, e1, hb, hg, rest⟩
  · exact Or.inl hn
  · subst e1
    exact Or.inr ⟨g, cap, cur, rfl, hb, by rw [hk g rfl]; exact hg, rest⟩

theorem OwnOps.keep {w w' : World} {lo hi : Nat} {u : Value} {ds : List OpD} (hk : ∀ b, lo ≤ b → b < hi → w'.heap[b]? = w.heap[b]?) (k : OwnOps w lo hi u ds) : OwnOps w' lo hi u ds := by
  obtain ⟨a, cap, e, hc⟩ := k
  refine ⟨a, cap, e, ?_⟩
  rcases hc with hc | ⟨g, xs, U, L, rfl, h1, h2, ho, hx, hl, hd⟩
  · exact Or.inl hc
  · subst e
    refine Or.inr ⟨g, xs, U, L, rfl, h1, h2, row_keep' ho (fun g' e => by cases e; exact hk g h1 h2), fun i d hi => ?_, hl, hd⟩
    obtain ⟨x0, x1, x2, hs⟩ := hx i d hi
    have hil : i < ds.length := (List.getElem?_eq_some_iff.1 hi).1
    refine ⟨x0, x1, x2, row_keep' hs (fun b e => hk b ?_ ((hl i hil).2 b e))⟩
    have := (hl i hil).1
    have := (hs.lt b e).1
    omega
theorem OwnOps.wide {w : World} {lo hi lo' hi' : Nat} {u : Value} {ds : List OpD} (h1 : lo' ≤ lo) (h2 : hi ≤ hi') (k : OwnOps w lo hi u ds) : OwnOps w lo' hi' u ds := by
  obtain ⟨a, cap, e, hc⟩ := k
  refine ⟨a, cap, e, ?_⟩
  rcases hc with hc | ⟨g, xs, U, L, ea, h3, h4, ho, hx, hl, hd⟩
  · exact Or.inl hc
  · exact Or.inr ⟨g, xs, U, L, ea, by omega, by omega, ho, hx, fun i hi => ⟨(hl i hi).1, fun b hb => by have := (hl i hi).2 b hb; omega⟩, hd⟩
theorem OwnOps.nil (w : World) (lo hi : Nat) (a : Option Addr) (cap : Nat) : OwnOps w lo hi (.slice a 0 cap) [] := ⟨a, cap, rfl, Or.inl rfl⟩
theorem OwnOps.below {w w' : World} {lo hi : Nat} {u : Value} {ds : List OpD} (k : OwnOps w lo hi u ds) (hb : Below w.heap.size w w') (hh : hi ≤ w.heap.size) : OwnOps w' lo hi u ds :=
  k.keep fun b _ h => hb.block b (by omega)

theorem row_off {w : World} {B n size : Nat} {e : TypeId} {v : Value} {xs : List Value} (h : w.ownsRow B e size v n xs) {g : Nat} (hg : g < B) {j : Nat} {u : Value} : (w.setCell ⟨g, j, none⟩ u).ownsRow B e size v n xs :=
  row_keep' h fun b hb => Below.heap_setCell _ _ _ _ (fun e => by have := (h.lt b hb).1; simp at e; omega)

/-- What a copy of an operator is. -/
def CopyOp (d : OpD) (w : World) (e : Ending) (w' : World) : Prop :=
  ∃ u, e = .returned (ov d.name u d.res) ∧ w'.ownsRow w.heap.size 9 1 u d.args.length (d.args.map Value.string) ∧ Below w.heap.size w w'

set_option maxRecDepth 100000 in
set_option maxHeartbeats 800000 in
theorem toOp_any (d : OpD) (u : Value) (w : World) (hd : d.args.length ≤ 1048576) (ha : StrsAt w u d.args) :
    Calls Try.prog 118 #[ov d.name u d.res] w (CopyOp d w) := by
  have HA := Lib.hid ha
  obtain ⟨nm, ps, rs⟩ := d
  obtain ⟨a0, c0, rfl⟩ := ha.slice
  clear ha
  go_enter Try.func118, Try.ntmps118
  go_wp2_with fail
  obtain ⟨W, hW⟩ : ∃ W, W = ((w.alloc (.cells #[.string nm, .slice a0 ps.length c0, .string rs] 172)).alloc (.cells #[.string ⟨#[]⟩, .slice none 0 0, .string ⟨#[]⟩] 109)).alloc (.cells #[.string nm, .slice none 0 0, .string ⟨#[]⟩] 109) := ⟨_, rfl⟩
  have hWs : W.heap.size = w.heap.size + 1 + 1 + 1 := by rw [hW]; simp
  have r1 : W.heap[w.heap.size + 1]? = some (.cells #[.string ⟨#[]⟩, .slice none 0 0, .string ⟨#[]⟩] 109 (0, 0)) := by rw [hW]; exact heap_mid _ _ _ (by simp)
  have r2 : W.heap[w.heap.size + 1 + 1]? = some (.cells #[.string nm, .slice none 0 0, .string ⟨#[]⟩] 109 (0, 0)) := by rw [hW]; exact heap_new _ _ (by simp)
  have r0 : W.heap[w.heap.size]? = some (.cells #[.string nm, .slice a0 ps.length c0, .string rs] 172 (0, 0)) := by
    rw [hW, Below.heap_alloc _ _ _ (by simp; omega)]; exact heap_mid _ _ _ rfl
  have hbW : Below w.heap.size w W := by rw [hW]; exact (((Below.refl _ _).alloc (Nat.le_refl _) _).alloc (by simp) _).alloc (by simp; omega) _
  have HBW := Lib.hid hbW; clear hbW
  rw [← hW]
  clear hW
  have HWS := Lib.hid hWs; clear hWs
  refine (copy_any _ ps W hd (HA.out.below HBW.out)).mono ?_
  rintro e w1 ⟨u1, rfl, ho1, hb1⟩
  obtain ⟨ua, uc, rfl⟩ := (StrsAt.of_owns ho1).slice
  have q0 := hb1.block (w.heap.size) (by have := HWS.out; omega)
  have q1 := hb1.block (w.heap.size + 1) (by have := HWS.out; omega)
  have q2 := hb1.block (w.heap.size + 1 + 1) (by have := HWS.out; omega)
  rw [r0] at q0
  rw [r1] at q1
  rw [r2] at q2
  clear r0 r1 r2
  have a2 := cell_of_row w1 (w.heap.size) 2 _ _ _ q0
  have b0 := cell_of_row w1 (w.heap.size + 1) 0 _ _ _ q1
  have b1 := cell_of_row w1 (w.heap.size + 1) 1 _ _ _ q1
  have b2 := cell_of_row w1 (w.heap.size + 1) 2 _ _ _ q1
  have f0 := frozen_of_row w1 (w.heap.size + 1) 0 _ _ q1
  have f1 := frozen_of_row w1 (w.heap.size + 1) 1 _ _ q1
  have f2 := frozen_of_row w1 (w.heap.size + 1) 2 _ _ q1
  have d0 := cell_of_row w1 (w.heap.size + 1 + 1) 0 _ _ _ q2
  have d1 := cell_of_row w1 (w.heap.size + 1 + 1) 1 _ _ _ q2
  have d2 := cell_of_row w1 (w.heap.size + 1 + 1) 2 _ _ _ q2
  have g1 := frozen_of_row w1 (w.heap.size + 1 + 1) 1 _ _ q2
  have g2 := frozen_of_row w1 (w.heap.size + 1 + 1) 2 _ _ q2
  simp at a2 b0 b1 b2 d0 d1 d2
  clear q0 q1 q2
  have HO1 := Lib.hid ho1; clear ho1
  have HB1 := Lib.hid hb1; clear hb1
  go_wp2
  (try simp only [Exit.inBlock, Exit.then])
  refine bodyPost_ret (v := ov nm (.slice ua ps.length uc) rs) ?hr rfl ?_
  case hr =>
    rw [results_cell (a := 2) (t := 109) (ad := ⟨w.heap.size + 1, 0, none⟩) rfl rfl]
    go_simp
  refine ⟨_, rfl, ?_, ?_⟩
  · have h4 := HWS.out
    exact own_low (row_off (row_off (row_off (row_off (row_off HO1.out (by omega)) (by omega)) (by omega)) (by omega)) (by omega)) (by omega)
  · have hb := HBW.out.trans (HB1.out.mono HBW.out.size)
    exact ((((hb.setCell (by simp; omega) _).setCell (by simp; omega) _).setCell (by simp) _).setCell (by simp) _).setCell (by simp) _

/-- How far the copy of a row has come; the rows below it lie in blocks up to B. -/
def OpsRel (g n k B : Nat) (ds : List OpD) (w : World) : Prop :=
  ∃ (xs : List Value) (U : Nat → Value) (L : Nat → Nat), w.ownsRow g 109 3 (.slice (some ⟨g, 0, none⟩) n n) n xs ∧
    (∀ i d, i < k → ds[i]? = some d → xs[i * 3]? = some (.string d.name) ∧ xs[i * 3 + 1]? = some (U i) ∧ xs[i * 3 + 2]? = some (.string d.res) ∧ w.ownsRow (L i) 9 1 (U i) d.args.length (d.args.map Value.string)) ∧
    (∀ i, i < k → g < L i ∧ ∀ b, (U i).ownBlock = some b → b < B) ∧ (∀ i j, i < j → j < k → ∀ b, (U i).ownBlock = some b → b < L j)

theorem OpsRel.below {g n k B : Nat} {ds : List OpD} {w w' : World} (c : OpsRel g n k B ds w) (hb : Below w.heap.size w w') : OpsRel g n k B ds w' := by
  obtain ⟨xs, U, L, ho, hx, hl, hd⟩ := c
  refine ⟨xs, U, L, keep_own ho hb, fun i d hi ht => ?_, hl, hd⟩
  obtain ⟨x0, x1, x2, hs⟩ := hx i d hi ht
  exact ⟨x0, x1, x2, keep_own hs hb⟩
theorem OpsRel.wide {g n k B B' : Nat} {ds : List OpD} {w : World} (c : OpsRel g n k B ds w) (hB : B ≤ B') : OpsRel g n k B' ds w := by
  obtain ⟨xs, U, L, ho, hx, hl, hd⟩ := c
  exact ⟨xs, U, L, ho, hx, fun i hi => ⟨(hl i hi).1, fun b hb => Nat.lt_of_lt_of_le ((hl i hi).2 b hb) hB⟩, hd⟩

theorem OpsRel.cells {g n k B : Nat} {ds : List OpD} {w : World} (c : OpsRel g n k B ds w) (hk : k < n) (j : Nat) (hj : j < 3) :
    (∃ v, w.cell? ⟨g, k * 3 + j, none⟩ = some v) ∧ w.frozen? ⟨g, k * 3 + j, none⟩ = false := by
  obtain ⟨xs, U, L, ho, _⟩ := c
  have hl := ho.1
  refine ⟨?_, ho.frozenAt _⟩
  rw [ho.cellAt (k * 3 + j) (by omega)]
  exact ⟨_, List.getElem?_eq_getElem (by omega)⟩

theorem set3 {xs : List Value} {a p : Nat} {v0 v1 v2 : Value} (h0 : a ≠ p) (h1 : a + 1 ≠ p) (h2 : a + 2 ≠ p) :
    (((xs.set a v0).set (a + 1) v1).set (a + 2) v2)[p]? = xs[p]? := by
  rw [List.getElem?_set_ne h2, List.getElem?_set_ne h1, List.getElem?_set_ne h0]

theorem OpsRel.step {g n k B B' : Nat} {ds : List OpD} {w : World} (c : OpsRel g n k B ds w) (hk : k < n) {d : OpD} {u : Value} (ht : ds[k]? = some d)
    (hoa : w.ownsRow B 9 1 u d.args.length (d.args.map Value.string)) (hgB : g < B) (hBB : B ≤ B') (hu : ∀ b, u.ownBlock = some b → b < B') :
    OpsRel g n (k + 1) B' ds (((w.setCell ⟨g, k * 3, none⟩ (.string d.name)).setCell ⟨g, k * 3 + 1, none⟩ u).setCell ⟨g, k * 3 + 2, none⟩ (.string d.res)) := by
  obtain ⟨xs, U, L, ho, hx, hlr, hd⟩ := c
  have hl : xs.length = n * 3 := ho.1
  have o1 := (ho.stored (k * 3) (.string d.name)).1
  have o2 := (o1.stored (k * 3 + 1) u).1
  have o3 := (o2.stored (k * 3 + 2) (.string d.res)).1
  have upo : ∀ {u' : Value} {ps : List ByteArray} {l : Nat}, g < l → w.ownsRow l 9 1 u' ps.length (ps.map Value.string) →
      (((w.setCell ⟨g, k * 3, none⟩ (.string d.name)).setCell ⟨g, k * 3 + 1, none⟩ u).setCell ⟨g, k * 3 + 2, none⟩ (.string d.res)).ownsRow l 9 1 u' ps.length (ps.map Value.string) :=
    fun hgl q => row_off (row_off (row_off q hgl) hgl) hgl
  refine ⟨_, fun i => if i = k then u else U i, fun i => if i = k then B else L i, o3, fun i d' hi ht' => ?_, fun i hi => ?_, fun i j hij hj => ?_⟩
  · by_cases hik : i = k
    · subst hik
      rw [ht] at ht'
      cases ht'
      refine ⟨?_, ?_, ?_, by simpa using upo hgB hoa⟩
      · simp [List.getElem?_set]; omega
      · simp [List.getElem?_set]; omega
      · simp [List.getElem?_set]; omega
    · obtain ⟨x0, x1, x2, hoa'⟩ := hx i d' (by omega) ht'
      refine ⟨?_, ?_, ?_, by simpa [hik] using upo (hlr i (by omega)).1 hoa'⟩
      · rw [set3 (by omega) (by omega) (by omega)]; exact x0
      · rw [set3 (by omega) (by omega) (by omega)]; simpa [hik] using x1
      · rw [set3 (by omega) (by omega) (by omega)]; exact x2
  · by_cases hik : i = k
    · simp only [hik, if_true]; exact ⟨hgB, hu⟩
    · have := hlr i (by omega)
      simp only [hik, if_false]
      exact ⟨this.1, fun b hb => by have := this.2 b hb; omega⟩
  · have hik : i ≠ k := by omega
    by_cases hjk : j = k
    · have := (hlr i (by omega)).2
      simp only [hik, hjk, if_false, if_true]; exact this
    · simp only [hik, hjk, if_false]; exact hd i j hij (by omega)

theorem OpsRel.done {g n B : Nat} {ds : List OpD} {w : World} (c : OpsRel g n n B ds w) (hn : n = ds.length) (hB : g < B) : OwnOps w g B (.slice (some ⟨g, 0, none⟩) n n) ds := by
  obtain ⟨xs, U, L, ho, hx, hlr, hd⟩ := c
  subst hn
  refine ⟨_, _, rfl, Or.inr ⟨g, xs, U, L, rfl, Nat.le_refl _, hB, ho, fun i d ht => hx i d (by have := (List.getElem?_eq_some_iff.1 ht).1; omega) ht, hlr, hd⟩⟩

/-- A copy of a row of operators. -/
def CopyOps (ds : List OpD) (w : World) (e : Ending) (w' : World) : Prop := ∃ u, e = .returned u ∧ OwnOps w' w.heap.size w'.heap.size u ds ∧ Below w.heap.size w w'

/-- What the operators hold together. -/
def wO (d : OpD) : Nat := d.name.size + (d.args.length + total d.args) + d.res.size
def wOs (ds : List OpD) : Nat := (ds.map wO).sum

set_option maxRecDepth 100000 in
set_option maxHeartbeats 1600000 in
theorem toOps_some (b o cap : Nat) (ds : List OpD) (w : World) (hn : ds.length ≤ 1048576) (ha : ∀ d ∈ ds, d.args.length ≤ 1048576)
    (hc : ∀ i d, ds[i]? = some d → ∃ u', w.cell? ⟨b, o + i * 3, none⟩ = some (.string d.name) ∧ w.cell? ⟨b, o + i * 3 + 1, none⟩ = some u' ∧ w.cell? ⟨b, o + i * 3 + 2, none⟩ = some (.string d.res) ∧ StrsAt w u' d.args) :
    Calls Try.prog 75 #[.slice (some ⟨b, o, none⟩) ds.length cap] w (CopyOps ds w) := by
  obtain ⟨i0, hi, hz0, hz1, hz2⟩ := info_parts infoOp
  have HI := Lib.hid hi; clear hi
  have HZ0 := Lib.hid hz0; clear hz0
  have HZ1 := Lib.hid hz1; clear hz1
  have HZ2 := Lib.hid hz2; clear hz2
  have HC := Lib.hid hc; clear hc
  have HAL := Lib.hid ha; clear ha
  obtain ⟨n, hnn⟩ : ∃ n, n = ds.length := ⟨_, rfl⟩
  have hl : n ≤ 1048576 := by omega
  clear hn
  rw [← hnn]
  have HN := Lib.hid hnn; clear hnn
  go_enter Try.func75, Try.ntmps75
  go_wp2_with (first | (at_make; refine wpList_make_full _ rfl (.tmp 6) (.tmp 6) 47 rfl w.heap.size 109 i0 (.agg #[.string ByteArray.empty, .slice none 0 0, .string ByteArray.empty]) 3 Try.underlying47 HI.out HZ0.out HZ1.out _ _ _ _ n rfl rfl rfl rfl ?m1 ?m2 ?m3 ?_))
  case m1 => rw [HZ2.out]; omega
  case m2 => unfold maxLen; omega
  case m3 => exact Nat.le_refl _
  intro w1 hown hgrow
  have hb : Below w.heap.size w w1 := (Below.refl _ _).grown hgrow (Nat.le_refl _) (fun k hk => by cases hk)
  have hrel0 : OpsRel w.heap.size n 0 w1.heap.size ds w1 := ⟨_, fun _ => undef, fun _ => 0, hown, fun i _ hi => by omega, fun i hi => by omega, fun i j hij hj => by omega⟩
  have HR0 := Lib.hid hrel0; clear hrel0 hown
  have hsz : w.heap.size < w1.heap.size := by
    obtain ⟨_, _, _, ho, _⟩ := HR0.out
    exact (ho.lt w.heap.size rfl).2
  have HB := Lib.hid hb; clear hb hgrow
  go_wp2
  go_loopw [4] (fun i wr => ∃ k : Nat, k ≤ n ∧ i = .int .i64 k ∧ Hid (OpsRel w.heap.size n k wr.heap.size ds wr) ∧ Hid (Below w.heap.size w wr) ∧ w.heap.size < wr.heap.size) (fun i _ => n - (intOf i).toNat)
  case atStart => exact ⟨0, Nat.zero_le _, rfl, HR0, HB, hsz⟩
  case round =>
    obtain ⟨k, hk, rfl, HR, HBR, hsr⟩ := hrel
    by_cases hlt : k < n
    · obtain ⟨d, ht⟩ : ∃ d, ds[k]? = some d := ⟨_, List.getElem?_eq_getElem (by have := HN.out; omega)⟩
      obtain ⟨u', c0, c1, c2, har⟩ := HC.out k _ ht
      have keep : ∀ {ad : Addr} {v : Value}, w.cell? ad = some v → wr.cell? ad = some v := fun {ad} {v} hv => by rw [HBR.out.cell (World.block_lt_of_cell? w _ hv)]; exact hv
      have d0 := keep c0
      have d1 := keep c1
      have d2 := keep c2
      clear c0 c1 c2 keep
      have HAR := Lib.hid (har.below HBR.out); clear har
      have HDL := Lib.hid (HAL.out d (List.mem_of_getElem? ht))
      have HTT := Lib.hid ht; clear ht
      go_wp2_with fail
      refine (toOp_any d u' _ HDL.out HAR.out).mono ?_
      rintro e w2 ⟨u2, rfl, ho2, hb2⟩
      have HR2 := Lib.hid ((HR.out.below hb2).wide (B' := wr.heap.size) (Nat.le_refl _))
      have HB2 := Lib.hid (HBR.out.trans (hb2.mono HBR.out.size))
      have hs2' := hb2.size
      obtain ⟨⟨o0, g0⟩, f0⟩ := HR2.out.cells hlt 0 (by omega)
      obtain ⟨⟨o1, g1⟩, f1⟩ := HR2.out.cells hlt 1 (by omega)
      obtain ⟨⟨o2, g2⟩, f2⟩ := HR2.out.cells hlt 2 (by omega)
      rw [Nat.add_zero] at g0 f0
      obtain ⟨ua, uc, rfl⟩ := (StrsAt.of_owns ho2).slice
      have HST := Lib.hid (HR2.out.step (B' := w2.heap.size) hlt HTT.out ho2 hsr hs2' (fun b hb => (ho2.lt b hb).2)); clear ho2 hb2
      go_wp2
      go_roundw
      case rel => exact ⟨k + 1, by omega, by go_num, Lib.hid (by simpa using HST.out), Lib.hid (((HB2.out.setCell (Nat.le_refl _) _).setCell (Nat.le_refl _) _).setCell (Nat.le_refl _) _), by simp; omega⟩
      case measure => simp [intOf]; omega
    · have hkn : k = n := by omega
      subst hkn
      have HD := Lib.hid (HR.out.done HN.out hsr)
      go_wp2
      go_ret
      exact ⟨_, rfl, HD.out, HBR.out⟩

set_option maxRecDepth 100000 in
set_option maxHeartbeats 400000 in
theorem toOps_empty (a : Option Addr) (cap : Nat) (w : World) :
    Calls Try.prog 75 #[.slice a 0 cap] w (CopyOps [] w) := by
  obtain ⟨i0, hi, hz0, hz1, hz2⟩ := info_parts infoOp
  have HI := Lib.hid hi; clear hi
  have HZ0 := Lib.hid hz0; clear hz0
  have HZ1 := Lib.hid hz1; clear hz1
  have HZ2 := Lib.hid hz2; clear hz2
  go_enter Try.func75, Try.ntmps75
  go_wp2_with (first | (at_make; refine wpList_make_full _ rfl (.tmp 6) (.tmp 6) 47 rfl w.heap.size 109 i0 (.agg #[.string ByteArray.empty, .slice none 0 0, .string ByteArray.empty]) 3 Try.underlying47 HI.out HZ0.out HZ1.out _ _ _ _ 0 rfl rfl rfl rfl ?m1 ?m2 ?m3 ?_))
  case m1 => simp
  case m2 => decide
  case m3 => exact Nat.le_refl _
  intro w1 hown hgrow
  have hb : Below w.heap.size w w1 := (Below.refl _ _).grown hgrow (Nat.le_refl _) (fun k hk => by cases hk)
  clear hown hgrow
  go_wp2
  refine wp_loop_rounds 1 ?_
  rw [rounds_succ]
  go_wp2
  go_ret
  exact ⟨_, rfl, OwnOps.nil _ _ _ _ _, hb⟩

theorem toOps_any (v : Value) (ds : List OpD) (w : World) (hn : ds.length ≤ 1048576) (ha : ∀ d ∈ ds, d.args.length ≤ 1048576) (hv : OpsAt w v ds) :
    Calls Try.prog 75 #[v] w (CopyOps ds w) := by
  obtain ⟨a, cap, rfl, hv⟩ := hv
  rcases hv with rfl | ⟨b, o, rfl, hv⟩
  · exact toOps_empty a cap w
  · exact toOps_some b o cap ds w hn ha hv

/-- A copy of a signature: the rows of the sorts, then those of the operators. -/
def CopySig (ps : List ByteArray) (ds : List OpD) (w : World) (e : Ending) (w' : World) : Prop :=
  ∃ u v m, e = .returned (sv u v) ∧ w'.ownsRow w.heap.size 9 1 u ps.length (ps.map Value.string) ∧ (∀ b, u.ownBlock = some b → b < m) ∧ w.heap.size ≤ m ∧ m ≤ w'.heap.size ∧ OwnOps w' m w'.heap.size v ds ∧ Below w.heap.size w w'

set_option maxRecDepth 100000 in
set_option maxHeartbeats 800000 in
theorem toSig_any (x : Value) (ps : List ByteArray) (ds : List OpD) (w : World) (hp : ps.length ≤ 1048576) (hn : ds.length ≤ 1048576) (ha : ∀ d ∈ ds, d.args.length ≤ 1048576) (hv : SigAt w x ps ds) :
    Calls Try.prog 23 #[x] w (CopySig ps ds w) := by
  obtain ⟨s, t, rfl, hs, ht⟩ := hv
  have HS := Lib.hid hs
  have HT := Lib.hid ht
  obtain ⟨sa, sc, rfl⟩ := hs.slice
  obtain ⟨ta, tc, rfl⟩ := ht.slice
  have HAL := Lib.hid ha
  clear hs ht ha
  go_enter Try.func23, Try.ntmps23
  go_wp2_with fail
  obtain ⟨W, hW⟩ : ∃ W, W = ((w.alloc (.cells #[.slice sa ps.length sc, .slice ta ds.length tc] 38)).alloc (.cells #[.slice none 0 0, .slice none 0 0] 49)).alloc (.cells #[.slice none 0 0, .slice none 0 0] 49) := ⟨_, rfl⟩
  have hWs : W.heap.size = w.heap.size + 1 + 1 + 1 := by rw [hW]; simp
  have r1 : W.heap[w.heap.size + 1]? = some (.cells #[.slice none 0 0, .slice none 0 0] 49 (0, 0)) := by rw [hW]; exact heap_mid _ _ _ (by simp)
  have r2 : W.heap[w.heap.size + 1 + 1]? = some (.cells #[.slice none 0 0, .slice none 0 0] 49 (0, 0)) := by rw [hW]; exact heap_new _ _ (by simp)
  have r0 : W.heap[w.heap.size]? = some (.cells #[.slice sa ps.length sc, .slice ta ds.length tc] 38 (0, 0)) := by
    rw [hW, Below.heap_alloc _ _ _ (by simp; omega)]; exact heap_mid _ _ _ rfl
  have hbW : Below w.heap.size w W := by rw [hW]; exact (((Below.refl _ _).alloc (Nat.le_refl _) _).alloc (by simp) _).alloc (by simp; omega) _
  have HBW := Lib.hid hbW; clear hbW
  rw [← hW]
  clear hW
  have HWS := Lib.hid hWs; clear hWs
  refine (copy_any _ ps W hp (HS.out.below HBW.out)).mono ?_
  rintro e w1 ⟨u1, rfl, ho1, hb1⟩
  obtain ⟨ua, uc, rfl⟩ := (StrsAt.of_owns ho1).slice
  have q0 := hb1.block (w.heap.size) (by have := HWS.out; omega)
  have q1 := hb1.block (w.heap.size + 1) (by have := HWS.out; omega)
  have q2 := hb1.block (w.heap.size + 1 + 1) (by have := HWS.out; omega)
  rw [r0] at q0
  rw [r1] at q1
  rw [r2] at q2
  clear r0 r1 r2
  have a1 := cell_of_row w1 (w.heap.size) 1 _ _ _ q0
  have d0 := cell_of_row w1 (w.heap.size + 1 + 1) 0 _ _ _ q2
  have g0 := frozen_of_row w1 (w.heap.size + 1 + 1) 0 _ _ q2
  simp at a1 d0
  have HO1 := Lib.hid ho1; clear ho1
  have HB1 := Lib.hid hb1; clear hb1
  have h4 := HWS.out
  have hs1 := HB1.out.size
  obtain ⟨W2, hW2⟩ : ∃ W2, W2 = w1.setCell ⟨w.heap.size + 1 + 1, 0, none⟩ (.slice ua ps.length uc) := ⟨_, rfl⟩
  have hbx : Below w.heap.size w W2 := by rw [hW2]; exact ((HBW.out.trans (HB1.out.mono HBW.out.size)).setCell (by simp; omega) _)
  have hsz2 : W2.heap.size = w1.heap.size := by rw [hW2]; simp [World.setCell]
  have p1 : W2.heap[w.heap.size + 1]? = some (.cells #[.slice none 0 0, .slice none 0 0] 49 (0, 0)) := by rw [hW2, Below.heap_setCell _ _ _ _ (by simp)]; exact q1
  have p2 : W2.heap[w.heap.size + 1 + 1]? = some (.cells #[.slice ua ps.length uc, .slice none 0 0] 49 (0, 0)) := by rw [hW2]; exact heap_setCell_same w1 _ 0 _ _ _ q2
  have ho2 : W2.ownsRow W.heap.size 9 1 (.slice ua ps.length uc) ps.length (ps.map Value.string) := by rw [hW2]; exact row_off HO1.out (by omega)
  have HBX := Lib.hid hbx; clear hbx
  have HO2 := Lib.hid ho2; clear ho2
  clear q0 q1 q2
  go_wp2_with fail
  rw [← hW2]
  clear hW2 a1 d0 g0
  refine (toOps_any _ ds W2 hn HAL.out (HT.out.below HBX.out)).mono ?_
  rintro e w2 ⟨u2, rfl, ho3, hb2⟩
  obtain ⟨va, vc, rfl⟩ := ho3.at.slice
  have z1 := hb2.block (w.heap.size + 1) (by omega)
  have z2 := hb2.block (w.heap.size + 1 + 1) (by omega)
  rw [p1] at z1
  rw [p2] at z2
  clear p1 p2
  have b0 := cell_of_row w2 (w.heap.size + 1) 0 _ _ _ z1
  have b1 := cell_of_row w2 (w.heap.size + 1) 1 _ _ _ z1
  have f0 := frozen_of_row w2 (w.heap.size + 1) 0 _ _ z1
  have f1 := frozen_of_row w2 (w.heap.size + 1) 1 _ _ z1
  have d0 := cell_of_row w2 (w.heap.size + 1 + 1) 0 _ _ _ z2
  have d1 := cell_of_row w2 (w.heap.size + 1 + 1) 1 _ _ _ z2
  have g1 := frozen_of_row w2 (w.heap.size + 1 + 1) 1 _ _ z2
  simp at b0 b1 d0 d1
  clear z1 z2
  have HO4 := Lib.hid (keep_own HO2.out hb2)
  have HO5 := Lib.hid ho3; clear ho3
  have HB5 := Lib.hid hb2; clear hb2
  have hsz5 := HB5.out.size
  go_wp2
  (try simp only [Exit.inBlock, Exit.then])
  refine bodyPost_ret (v := sv (.slice ua ps.length uc) (.slice va ds.length vc)) ?hr rfl ?_
  case hr =>
    rw [results_cell (a := 2) (t := 49) (ad := ⟨w.heap.size + 1, 0, none⟩) rfl rfl]
    go_simp
  refine ⟨_, _, W2.heap.size, rfl, ?_, fun b hb => ?_, by omega, by simp; omega, ?_, ?_⟩
  · exact own_low (row_off (row_off (row_off HO4.out (by omega)) (by omega)) (by omega)) (by omega)
  · exact (HO2.out.lt b hb).2
  · refine OwnOps.wide (lo := W2.heap.size) (hi := w2.heap.size) (Nat.le_refl _) (by simp) ?_
    refine OwnOps.keep (fun b h1 h2 => ?_) HO5.out
    rw [Below.heap_setCell _ _ _ _ (by simp; omega), Below.heap_setCell _ _ _ _ (by simp; omega), Below.heap_setCell _ _ _ _ (by simp; omega)]
  · have hb := HBX.out.trans (HB5.out.mono HBX.out.size)
    exact ((hb.setCell (by simp; omega) _).setCell (by simp) _).setCell (by simp) _

theorem CopySig.at {ps : List ByteArray} {ds : List OpD} {w : World} {e : Ending} {w' : World} (c : CopySig ps ds w e w') : ∃ u v, e = .returned (sv u v) ∧ SigAt w' (sv u v) ps ds ∧ Below w.heap.size w w' := by
  obtain ⟨u, v, m, rfl, h1, _, _, _, h2, hb⟩ := c
  exact ⟨u, v, rfl, ⟨u, v, rfl, StrsAt.of_owns h1, h2.at⟩, hb⟩
end Go.Proofs.Ytidbokheeieifaa
