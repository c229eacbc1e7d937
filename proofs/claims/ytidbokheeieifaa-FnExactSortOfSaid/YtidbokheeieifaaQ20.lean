/-
  impl.SortOf: the sort of a term, where variables have the sorts that a list tells.
-/
import Derived.Test.YtidbokheeieifaaQ15
import Derived.Test.YtidbokheeieifaaQ19
import Derived.RangeFuncWrites
namespace Go.Proofs.Ytidbokheeieifaa
open Go.RowKit Go.Shelf Go.Maps Go.WideMaps

attribute [local go_sem] Oper.semAt_some

/-- What holds between the rounds. -/
structure SoI (w : World) (ob mb n4 : Nat) (sg tm : Obj) (vs : List (ByteArray × ByteArray)) (pre : List (VsI vs)) (W : World) : Prop where
  tab : TabM mb ((pre.map fun x => x.1.2).reverse) W
  box : W.heap[ob]? = some (.cells #[.map (some mb)] 117 (0, 0))
  sgb : W.heap[w.heap.size]? = some sg
  tmb : W.heap[w.heap.size + 1]? = some tm
  bel : Below w.heap.size w W
  sz : n4 ≤ W.heap.size

theorem SoI.grown {w : World} {ob mb n4 : Nat} {sg tm : Obj} {vs : List (ByteArray × ByteArray)} {pre : List (VsI vs)} {X Y : World} {row : Option Nat} (x : SoI w ob mb n4 sg tm vs pre X) (hg : X.grownBy Y row) (ho : ob < n4) (hm : mb < n4) (hw : w.heap.size + 2 ≤ n4) (hr : ∀ r, row = some r → n4 ≤ r) : SoI w ob mb n4 sg tm vs pre Y := by
  have hz := x.sz
  have hk : ∀ b, b < n4 → Y.heap[b]? = X.heap[b]? := fun b hb => hg.block b (by omega) (fun e => by have := hr b e.symm; omega)
  exact ⟨x.tab.kept hg (fun e => by have := hr mb e.symm; omega), (hk _ ho).trans x.box, (hk _ (by omega)).trans x.sgb, (hk _ (by omega)).trans x.tmb, x.bel.grown hg (by omega) (fun k e => by have := hr k e; omega), Nat.le_trans hz hg.size⟩
theorem SoI.own {w : World} {ob mb n4 : Nat} {sg tm : Obj} {vs : List (ByteArray × ByteArray)} (ho : ob < n4) (hm : mb < n4) (hw : w.heap.size + 2 ≤ n4) : OwnFrom n4 (SoI w ob mb n4 sg tm vs) := fun _ _ _ _ hs hg hr => hs.grown hg ho hm hw fun r e => (hr r e).1

set_option maxRecDepth 100000 in
set_option maxHeartbeats 3200000 in
theorem sortOf_in (x v u : Value) (ps : List ByteArray) (ds : List OpD) (vs : List (ByteArray × ByteArray)) (t : T) (lo h : Nat) (w : World) (hn : ds.length ≤ 1048576) (ha : ∀ d ∈ ds, d.args.length ≤ 1048576)
    (hv : SigAt w x ps ds) (ht : TermAt w lo h v t) (hw : cT t ≤ 1048577) (hu : VsAt w u vs) (hvl : vs.length ≤ 1048576) (hvo : ∀ p ∈ vs, VarOk p) : CallsIn Fence.wide 3 Try.prog 26 #[x, v, u] w (TextB (sortT ds vs t) w) := by
  obtain ⟨k, n, s, tu, xs, rfl, rfl, hs, hag⟩ := ht
  obtain ⟨ua, uc, rfl⟩ := hag.slice
  have hnd := hu.inV (fun ad v hc => World.block_lt_of_cell? w ad hc)
  obtain ⟨va, vc, rfl⟩ := hu.slice
  have HV := Lib.hid hv
  obtain ⟨sa, sb, rfl, hsv, hov⟩ := hv
  obtain ⟨sa, sc, rfl⟩ := hsv.slice
  obtain ⟨oa, oc, rfl⟩ := hov.slice
  clear hsv hov
  obtain ⟨um, hum⟩ : ∃ m, m = xs.length := ⟨_, rfl⟩
  obtain ⟨pl, hpl⟩ : ∃ z, z = ps.length := ⟨_, rfl⟩
  obtain ⟨dl, hdl⟩ : ∃ z, z = ds.length := ⟨_, rfl⟩
  obtain ⟨vl, hvn⟩ : ∃ z, z = vs.length := ⟨_, rfl⟩
  rw [← hum] at hag ⊢
  rw [← hpl, ← hdl] at HV ⊢
  rw [← hvn] at hnd ⊢
  have HT := Lib.hid (And.intro hs (And.intro hag hw))
  have HUM := Lib.hid hum
  have HND := Lib.hid hnd
  have HVN := Lib.hid (And.intro hvn (And.intro hvl hvo))
  have HCAP := Lib.hid (And.intro hn ha)
  clear hum hpl hdl hvn hs hag hw hnd hvl hvo hn ha hu
  obtain ⟨W0, hW0⟩ : ∃ W0, W0 = (w.alloc (.cells #[.slice sa pl sc, .slice oa dl oc] 49)).alloc (.cells #[.int .i64 k, .int .i64 n, .string s, .slice ua um uc] 26) := ⟨_, rfl⟩
  have hb0 : Below w.heap.size w W0 := by rw [hW0]; exact ((Below.refl _ _).alloc (Nat.le_refl _) _).alloc (by simp) _
  have hz0 : W0.heap.size = w.heap.size + 2 := by rw [hW0]; simp
  have r0 : W0.heap[w.heap.size]? = some (.cells #[.slice sa pl sc, .slice oa dl oc] 49 (0, 0)) := by rw [hW0, Below.heap_alloc _ _ _ (by simp)]; exact heap_new w _ rfl
  have r1 : W0.heap[w.heap.size + 1]? = some (.cells #[.int .i64 k, .int .i64 n, .string s, .slice ua um uc] 26 (0, 0)) := by rw [hW0]; exact heap_new _ _ (by simp)
  have H0 := Lib.hid (And.intro hb0 (And.intro hz0 (And.intro r0 r1)))
  clear hb0 hz0 r0 r1
  have hmm := @run_makeMap Try.prog
  refine callsIn_of_wp_marks Try.func26 rfl trivial ?_ rfl
  simp only [Try.ntmps26, List.size_toArray, List.length_cons, List.length_nil, Nat.reduceAdd, Nat.reduceSub, Array.replicate_succ, Array.replicate_zero, List.push_toArray, List.append_toArray, List.nil_append, List.cons_append]
  gi_wp2_with fail
  rw [← hW0]
  clear hW0
  obtain ⟨W1, hW1⟩ : ∃ W1, W1 = (W0.alloc (.map #[] 0)).alloc (.cells #[.map (some (w.heap.size + 1 + 1))] 117) := ⟨_, rfl⟩
  have hb1 : Below w.heap.size w W1 := by rw [hW1]; exact (H0.out.1.alloc (by have := H0.out.2.1; omega) _).alloc (by have := H0.out.2.1; simp; omega) _
  have hz1 : W1.heap.size = w.heap.size + 4 := by rw [hW1]; have := H0.out.2.1; simp; omega
  have m1 : TabM (w.heap.size + 2) [] W1 := by
    have h1 := World.ownsMap_made (H := Value) W0 Try.prog 9 heldM
    rw [H0.out.2.1] at h1
    rw [hW1]
    exact ⟨_, h1.alloc _, TabOkM.nil⟩
  have o1 : W1.heap[w.heap.size + 3]? = some (.cells #[.map (some (w.heap.size + 2))] 117 (0, 0)) := by rw [hW1]; exact heap_new _ _ (by have := H0.out.2.1; simp; omega)
  have s1 : W1.heap[w.heap.size]? = some (.cells #[.slice sa pl sc, .slice oa dl oc] 49 (0, 0)) := by
    rw [hW1, Below.heap_alloc _ _ _ (by have := H0.out.2.1; simp; omega), Below.heap_alloc _ _ _ (by have := H0.out.2.1; omega)]; exact H0.out.2.2.1
  have t1 : W1.heap[w.heap.size + 1]? = some (.cells #[.int .i64 k, .int .i64 n, .string s, .slice ua um uc] 26 (0, 0)) := by
    rw [hW1, Below.heap_alloc _ _ _ (by have := H0.out.2.1; simp; omega), Below.heap_alloc _ _ _ (by have := H0.out.2.1; omega)]; exact H0.out.2.2.2
  have H1 := Lib.hid (And.intro hb1 (And.intro hz1 (And.intro m1 (And.intro o1 (And.intro s1 t1)))))
  clear hb1 hz1 m1 o1 s1 t1
  rw [← hW1]
  clear hW1
  refine ⟨trivial, (backward_inV Fence.wide 2 trivial rfl va vl vc W1).mono ?_⟩
  rintro e w' ⟨rfl, rfl⟩
  gi_wp2_with fail
  have bS := Boxed.new W1 52 (.slice va vl vc)
  obtain ⟨W4, hW4⟩ : ∃ W4, W4 = W1.alloc (.cells #[.slice va vl vc] 52) := ⟨_, rfl⟩
  rw [← hW4] at bS ⊢
  have hz4 : W4.heap.size = w.heap.size + 5 := by rw [hW4]; have := H1.out.2.1; simp; omega
  have hb4 : Below W1.heap.size W1 W4 := by rw [hW4]; exact (Below.refl _ _).alloc (Nat.le_refl _) _
  clear hW4
  have hz1 := H1.out.2.1
  have hI0 : SoI w (w.heap.size + 3) (w.heap.size + 2) W4.heap.size (.cells #[.slice sa pl sc, .slice oa dl oc] 49 (0, 0)) (.cells #[.int .i64 k, .int .i64 n, .string s, .slice ua um uc] 26 (0, 0)) vs [] W4 :=
    ⟨H1.out.2.2.1.below hb4, (hb4.block _ (by omega)).trans H1.out.2.2.2.1, (hb4.block _ (by omega)).trans H1.out.2.2.2.2.1, (hb4.block _ (by omega)).trans H1.out.2.2.2.2.2, H1.out.1.trans (hb4.mono (by omega)), Nat.le_refl _⟩
  have HI0 := Lib.hid hI0; clear hI0
  have HNW : Hid (NdsInV w.heap.size W4 (.slice va vl vc) vs) := Lib.hid (HND.out.below (HI0.out.bel))
  have HZ := Lib.hid (And.intro hz1 hz4)
  refine wpIn_rangeFunc_ownH rfl (by omega) (gf := 119) (lb := #[.pointer (some ⟨W1.heap.size, 0, none⟩)]) rfl trivial (enters_of Try.func119 (by kernel_rfl) rfl)
    (back_stopsV Fence.wide 2 trivial rfl (by omega) W1.heap.size w.heap.size (.slice va vl vc) vs (by have := HVN.out.2.1; omega) W4 (by omega) bS HNW.out) (fun h k => h.trans k) (kpB_bV (by omega) (by omega)) (Below.refl _ _) (fun _ => rfl)
    (SoI w (w.heap.size + 3) (w.heap.size + 2) W4.heap.size (.cells #[.slice sa pl sc, .slice oa dl oc] 49 (0, 0)) (.cells #[.int .i64 k, .int .i64 n, .string s, .slice ua um uc] 26 (0, 0)) vs)
    (fun _ _ _ => False)
    (SoI.own (by omega) (by omega) (by omega))
    (fun _ _ _ _ _ hs _ _ => hs)
    HI0.out
    (fun x a' W => ∃ (Bx : Nat) (y5 y8 y15 y16 y17 y18 y19 y20 y21 y22 y23 : Value), W4.heap.size ≤ Bx ∧ W.heap[Bx]? = some (.cells #[.string x.1.2.1, .string x.1.2.2] 115 (0, 0)) ∧ a' = { tmps := #[sv (.slice sa pl sc) (.slice oa dl oc), tv k n s (.slice ua um uc), .slice va vl vc, .pointer (some ⟨w.heap.size, 0, none⟩), .pointer (some ⟨w.heap.size + 1, 0, none⟩), y5, .string ⟨#[]⟩, .pointer (some ⟨w.heap.size + 1 + 1 + 1, 0, none⟩), y8, .pointer (some ⟨Bx, 0, none⟩), .map (some (w.heap.size + 1 + 1)), .slice va vl vc, .func (.func 119) #[] #[.pointer (some ⟨W1.heap.size, 0, none⟩)], .int .i64 (x.1.1 : Int), .agg #[.string x.1.2.1, .string x.1.2.2], y15, y16, y17, y18, y19, y20, y21, y22, y23], defers := [] })
    (fun x a' _ X Y row hs hg hr => by
      obtain ⟨Bx, y5, y8, y15, y16, y17, y18, y19, y20, y21, y22, y23, h1, h2, h3⟩ := hs
      refine ⟨Bx, y5, y8, y15, y16, y17, y18, y19, y20, y21, y22, y23, h1, (hg.block Bx (Array.getElem?_eq_some_iff.1 h2).1 (fun e => ?_)).trans h2, h3⟩
      obtain ⟨_, o, ho, hc⟩ := hr Bx e.symm
      rw [h2] at ho; cases ho; cases hc)
    ?assign ?body ?done ?stop
  case assign =>
    rintro l pre x W K hI hK
    have HI2 := Lib.hid hI; clear hI hz1 hz4
    gi_wp2
    have hz1 := HZ.out.1
    have hz4 := HZ.out.2
    have hbz := HI2.out.bel.size
    have hz := HI2.out.sz
    exact hK _ _ ((KeepsOthers.alloc _ _).from _) ⟨(Below.refl _ W).alloc hbz _, fun v hv => hv.alloc _⟩ (HI2.out.grown (World.grownBy_alloc W _ none) (by omega) (by omega) (by omega) (fun r e => by cases e))
      ⟨W.heap.size, _, _, _, _, _, _, _, _, _, _, _, hz, World.alloc_heap_new W _, rfl⟩
  case body =>
    rintro l pre ⟨⟨p, pn, pv⟩, hx⟩ a' W hl ⟨r, hr⟩ hI ⟨Bx, y5, y8, y15, y16, y17, y18, y19, y20, y21, y22, y23, hBx, bX, rfl⟩ hlt
    dsimp only at hx bX ⊢
    have hpo := HVN.out.2.2 _ (List.mem_of_getElem? hx)
    have hkey : keyOf Try.prog 9 (.string pn) = some (.string (key pn)) := WideMaps.keyOf_string_mk Try.underlying9 hpo.1
    have HK := Lib.hid hkey; clear hkey
    obtain ⟨D, hown, hok⟩ := hI.tab
    have HO := Lib.hid hown
    have HOK := Lib.hid hok
    have x0 := cell_of_row W Bx 0 _ _ _ bX
    have x1 := cell_of_row W Bx 1 _ _ _ bX
    have x2 := cell_of_row W (w.heap.size + 3) 0 _ _ _ hI.box
    simp at x0 x1 x2
    have HI2 := Lib.hid hI
    have hpl : (pre.map fun x => x.1.2).reverse.length = pre.length := by simp
    have HPL := Lib.hid hpl
    have HLT := Lib.hid hlt
    clear hI hown hok bX hpo hr hpl hlt hz1 hz4
    gi_wp2_with (first
      | (refine wpListIn_mapUpdate_own _ rfl _ _ _ 117 rfl 9 9 lawStrM Try.underlying117 heldM (w.heap.size + 2) _ D rfl HO.out ?m1 (.string pn) (.string pv) _ rfl rfl HK.out _ [] rfl ?_))
    case m1 =>
      have h1 := HLT.out
      have h2 := HVN.out.2.1
      have h3 := HPL.out
      unfold maxLen
      omega
    intro W' hown hgw
    have HGW := Lib.hid hgw
    have HOW := Lib.hid hown
    clear hown hgw x0 x1 x2
    gi_wp2_with fail
    have hz1 := HZ.out.1
    have hz4 := HZ.out.2
    have hzW := HI2.out.sz
    have hbz := HI2.out.bel.size
    have hk : ∀ b, b < W4.heap.size → b ≠ w.heap.size + 2 → W'.heap[b]? = W.heap[b]? := fun b h1 h2 => HGW.out.block b (by omega) (fun e => by cases e; omega)
    have hbel : Below w.heap.size W W' := ((Below.refl _ W).mono hbz).grown HGW.out hbz (fun j e => by cases e; omega)
    refine ⟨KeepsFrom.of_grownBy HGW.out (fun j e => by cases e; omega), ⟨hbel, fun v hv => hv.kept HGW.out (fun e => by have := Option.some.inj e; omega)⟩, ⟨?_, (hk _ (by omega) (by omega)).trans HI2.out.box, (hk _ (by omega) (by omega)).trans HI2.out.sgb, (hk _ (by omega) (by omega)).trans HI2.out.tmb, HI2.out.bel.trans hbel, Nat.le_trans hzW HGW.out.size⟩⟩
    refine ⟨D.put (.string (key pn)) (.held (.string pv)), ?_, ?_⟩
    rotate_left
    · rw [List.map_append, List.map_singleton, List.reverse_append, List.reverse_singleton, List.singleton_append]
      exact HOK.out.front pn pv
    · rw [List.map_append, List.map_singleton, List.reverse_append, List.reverse_singleton, List.singleton_append, List.length_cons]
      have h1 := HOW.out
      rw [← HPL.out] at h1
      exact h1
  case done =>
    rintro D ys W hD hys hI hK
    have hrev : (ys.map fun x => x.1.2).reverse = vs := by
      have h1 : (ys.map fun x => x.1.2) = (ys.map Subtype.val).map Prod.snd := by rw [List.map_map]; rfl
      rw [h1, hys, back_allV, List.reverse_reverse]
    have htab : TabM (w.heap.size + 2) vs W := by have := hI.tab; rwa [hrev] at this
    have hbz := hI.bel.size
    have hzW := hI.sz
    have hDz : D < W.heap.size := (Array.getElem?_eq_some_iff.1 hK).1
    have HSW := Lib.hid (sortWith_any (sv (.slice sa pl sc) (.slice oa dl oc)) ps ds vs (tv k n s (.slice ua um uc)) (.map (some (w.heap.size + 2))) (.node k n s xs) lo h W HCAP.out.1 HCAP.out.2 (by
      obtain ⟨a', b', e, h1, h2⟩ := HV.out
      exact ⟨a', b', e, h1.below hI.bel, h2.below hI.bel⟩) htab.is (TermAt.below ⟨k, n, s, _, xs, rfl, rfl, HT.out.1, HT.out.2.1⟩ hI.bel) HT.out.2.2)
    have x0 := cell_of_row W w.heap.size 0 _ _ _ hI.sgb
    have x1 := cell_of_row W w.heap.size 1 _ _ _ hI.sgb
    have y0 := cell_of_row W (w.heap.size + 1) 0 _ _ _ hI.tmb
    have y1 := cell_of_row W (w.heap.size + 1) 1 _ _ _ hI.tmb
    have y2 := cell_of_row W (w.heap.size + 1) 2 _ _ _ hI.tmb
    have y3 := cell_of_row W (w.heap.size + 1) 3 _ _ _ hI.tmb
    have z0 := cell_of_row W (w.heap.size + 3) 0 _ _ _ hI.box
    simp at x0 x1 y0 y1 y2 y3 z0
    have HIB := Lib.hid hI.bel
    have HDZ := Lib.hid (And.intro hDz (And.intro hbz (And.intro hzW hD)))
    have HKD := Lib.hid hK
    clear hI htab hrev hbz hzW hDz hz1 hz4 hys hK hD
    gi_wp2_with fail
    refine ⟨trivial, (callsIn_wide.2 HSW.out).mono ?_⟩
    rintro e w9 ⟨rfl, hb9⟩
    have HB9 := Lib.hid hb9
    clear hb9 x0 x1 y0 y1 y2 y3 z0
    gi_wp2
    have hK9 : w9.heap[D]? = some (.deferred (some [])) := (HB9.out.block _ HDZ.out.1).trans HKD.out
    refine ⟨by simp, .inl ⟨_, _, rfl, run_takeDeferred hK9, ?_⟩⟩
    have hbw := HIB.out.trans (HB9.out.mono HIB.out.size)
    have hz1 := HZ.out.1
    have hz4 := HZ.out.2
    have hD := HDZ.out.2.2.2
    exact ⟨_, results_tmp rfl _ _ _, rfl, hbw.trans (belowK_b (w := w) (Nat.le_refl _) w9 D _ _ (by omega) hK9 rfl rfl)⟩
  case stop =>
    rintro D c pre W _ _ h _
    exact h.elim

/-- The same, unfenced. -/
theorem sortOf_any (x v u : Value) (ps : List ByteArray) (ds : List OpD) (vs : List (ByteArray × ByteArray)) (t : T) (lo h : Nat) (w : World) (hn : ds.length ≤ 1048576) (ha : ∀ d ∈ ds, d.args.length ≤ 1048576)
    (hv : SigAt w x ps ds) (ht : TermAt w lo h v t) (hw : cT t ≤ 1048577) (hu : VsAt w u vs) (hvl : vs.length ≤ 1048576) (hvo : ∀ p ∈ vs, VarOk p) : Calls Try.prog 26 #[x, v, u] w (TextB (sortT ds vs t) w) :=
  (callsIn_wide (n := 3)).1 (sortOf_in x v u ps ds vs t lo h w hn ha hv ht hw hu hvl hvo)
end Go.Proofs.Ytidbokheeieifaa
