/-
  spec.SortOf tells the sort of a term.
-/
import Derived.Test.YtidbokheeieifaaQ4
import Derived.Test.YtidbokheeieifaaQ21
import Derived.Test.YtidbokheeieifaaQ7
import Derived.Deep.RegionHeld3
import Derived.Deep.DeepCutAuto
namespace Go.Proofs.Ytidbokheeieifaa
open Go.RowKit

/-- What holds of the other arguments. -/
def SgAt (ps : List ByteArray) (ds : List OpD) (vs : List (ByteArray × ByteArray)) (x u : Value) (w : World) : Prop := SigAt w x ps ds ∧ VsAt w u vs
theorem SgAt.below {ps : List ByteArray} {ds : List OpD} {vs : List (ByteArray × ByteArray)} {x u : Value} {w w' : World} (h : SgAt ps ds vs x u w) (hb : Below w.heap.size w w') : SgAt ps ds vs x u w' := by
  obtain ⟨⟨a, b, e, h1, h2⟩, h3⟩ := h
  exact ⟨⟨a, b, e, h1.below hb, h2.below hb⟩, h3.below hb⟩

def SortAt (ps : List ByteArray) (ds : List OpD) (vs : List (ByteArray × ByteArray)) (x u : Value) (lo h : Nat) : Prop := ∀ (v : Value) (t : T) (w : World), SgAt ps ds vs x u w → TermAt w lo h v t → wT t ≤ 1048576 →
  Calls Try.prog 22 #[x, v, u] w (TextB (sortT ds vs t) w)

set_option maxRecDepth 100000 in
set_option maxHeartbeats 3200000 in
theorem sSortT_step (ps : List ByteArray) (ds : List OpD) (vs : List (ByteArray × ByteArray)) (x u : Value) (lo h : Nat) (hn : ds.length ≤ 1048576) (ha : ∀ d ∈ ds, d.args.length ≤ 1048576) (hvl : vs.length ≤ 1048576) (IH : ∀ h', h = h' + 1 → SortAt ps ds vs x u lo h') : SortAt ps ds vs x u lo h := by
  intro v t w hsg ht hw
  obtain ⟨kk, nn, s, uu, xs, rfl, rfl, hs, hag⟩ := ht
  obtain ⟨a, cap, rfl⟩ := hag.slice
  have HSZ : Hid (s.size ≤ 9223372036854775807) := Lib.hid (by simpa [maxLen] using hs)
  have HSG := Lib.hid hsg
  obtain ⟨⟨xa, xb, rfl, hxs, hxo⟩, huv⟩ := hsg
  obtain ⟨sa, sc, rfl⟩ := hxs.slice
  obtain ⟨oa, oc, rfl⟩ := hxo.slice
  obtain ⟨va, vc, rfl⟩ := huv.slice
  clear hxs hxo huv hs
  have HW : Hid (s.size + (xs.length + wS xs) ≤ 1048576) := Lib.hid (by rw [wT_node] at hw; exact hw)
  have HND := Lib.hid (sortT_node ds vs kk nn s xs)
  have HAG := Lib.hid hag
  clear hw hag
  obtain ⟨pl, hpl⟩ : ∃ z, z = ps.length := ⟨_, rfl⟩
  obtain ⟨dl, hdl⟩ : ∃ z, z = ds.length := ⟨_, rfl⟩
  obtain ⟨vl, hvl2⟩ : ∃ z, z = vs.length := ⟨_, rfl⟩
  obtain ⟨m, hm⟩ : ∃ z, z = xs.length := ⟨_, rfl⟩
  have hml : m ≤ 1048576 := by have := HW.out; omega
  have hvl3 : vs.length ≤ 1048576 := hvl
  rw [← hpl, ← hdl, ← hvl2] at HSG IH ⊢
  rw [← hm] at HAG ⊢
  have HM := Lib.hid hm; clear hm hpl hdl hvl2
  have HIH := Lib.hid IH; clear IH
  have HHN := Lib.hid (And.intro hn (And.intro ha hvl3)); clear hn ha hvl hvl3
  obtain ⟨w1, hw1⟩ : ∃ z, z = w.alloc (.cells #[.slice sa pl sc, .slice oa dl oc] 49) := ⟨_, rfl⟩
  have hb1 : Below w.heap.size w w1 := by rw [hw1]; exact (Below.refl _ _).alloc (Nat.le_refl _) _
  have h11 : w1.heap[w.heap.size]? = some (.cells #[.slice sa pl sc, .slice oa dl oc] 49 (0, 0)) := by rw [hw1]; exact heap_new w _ rfl
  have hz1 : w1.heap.size = w.heap.size + 1 := by rw [hw1]; simp
  obtain ⟨Y, hY⟩ : ∃ z, z = boxed w1 kk nn s (.slice a m cap) := ⟨_, rfl⟩
  have hbY : Below w1.heap.size w1 Y := by rw [hY]; exact boxed_below _ _ _ _ _
  have HBX : Hid (∀ w', Below Y.heap.size Y w' → w'.cell? ⟨w.heap.size + 1, 0, none⟩ = some (.int .i64 kk) ∧ w'.cell? ⟨w.heap.size + 1, 2, none⟩ = some (.string s) ∧ w'.cell? ⟨w.heap.size + 1, 3, none⟩ = some (.slice a m cap) ∧ (w'.cell? ⟨w.heap.size, 0, none⟩ = some (.slice sa pl sc) ∧ w'.cell? ⟨w.heap.size, 1, none⟩ = some (.slice oa dl oc)) ∧ Below w.heap.size w w') := Lib.hid (fun w' hb => by
    rw [hY] at hb
    obtain ⟨c0, c1, c2, c3⟩ := boxed_cells hb
    rw [hz1] at c0 c1 c2 c3
    rw [← hY] at hb
    obtain ⟨⟨d0, d1⟩, _⟩ := cells_of2 (((hb.block _ (by have := hbY.size; omega)).trans (hbY.block _ (by omega))).trans h11)
    exact ⟨c0, c2, c3, ⟨d0, d1⟩, hb1.trans ((hbY.trans (hb.mono hbY.size)).mono hb1.size)⟩)
  have hYw : Y = ((w.alloc (.cells #[.slice sa pl sc, .slice oa dl oc] 49)).alloc (.cells #[.int .i64 kk, .int .i64 nn, .string s, .slice a m cap] 26)) := by rw [hY, hw1]
  obtain ⟨e0, e2, e3, ⟨f0, f1⟩, HB0⟩ := HBX.out Y (Below.refl _ _)
  have HBY := Lib.hid HB0; clear HB0 hY hb1 h11 hz1 hbY hw1
  have HSW : Hid (∀ w', Below w.heap.size w w' → SgAt ps ds vs (sv (.slice sa pl sc) (.slice oa dl oc)) (.slice va vl vc) w') := Lib.hid (fun w' hb => HSG.out.below hb)
  clear HSG
  go_enter Try.func22, Try.ntmps22
  by_cases h3 : kk = 3
  · subst h3
    have HE : Hid (sortT ds vs (.node 3 nn s xs) = kWord) := Lib.hid (by rw [HND.out]; exact head_word _ _ _ _)
    rw [hYw] at e0
    go_wp2
    rw [← hYw]
    go_ret
    exact ⟨by rw [HE.out]; rfl, HBY.out⟩
  by_cases h1 : kk = 1
  · subst h1
    have HE : Hid (sortT ds vs (.node 1 nn s xs) = envOf vs s) := Lib.hid (by rw [HND.out]; exact head_var _ _ _ _)
    rw [hYw] at e0 e2
    go_wp2_with fail
    rw [← hYw]
    clear hYw
    refine (sEnv_any _ s vs Y HHN.out.2.2 (HSW.out Y HBY.out).2).mono ?_
    rintro e w2 ⟨rfl, rfl⟩
    go_wp2
    go_ret
    exact ⟨by rw [HE.out]; rfl, HBY.out⟩
  have b3 : (kk == 3) = false := by simpa using h3
  have b1 : (kk == 1) = false := by simpa using h1
  by_cases h2 : ¬ kk = 2
  · have HE : Hid (sortT ds vs (.node kk nn s xs) = zE) := Lib.hid (by rw [HND.out]; exact head_other _ _ _ _ h1 h2 h3)
    have b2 : (kk == 2) = false := by simpa using h2
    clear h1 h2 h3
    rw [hYw] at e0
    go_wp2
    rw [← hYw]
    go_ret
    exact ⟨by rw [HE.out]; rfl, HBY.out⟩
  have h2 : kk = 2 := by omega
  subst h2
  clear h1 h3
  rw [hYw] at e0 e2 f0 f1
  go_wp2_with fail
  rw [← hYw]
  clear hYw e0 e2 e3 f0 f1
  refine (sFind_any _ s ps ds Y HSZ.out HHN.out.1 HHN.out.2.1 (HSW.out Y HBY.out).1).mono ?_
  rintro e w2 ⟨u2, rfl, ho2, hb2⟩
  cases hf : findD ds s with
  | none =>
    rw [hf] at ho2
    have HE : Hid (sortT ds vs (.node 2 nn s xs) = zE) := Lib.hid (by rw [HND.out]; exact head_none _ _ hf)
    obtain ⟨a2, c2, rfl⟩ := own_formF ho2
    have HB2 := Lib.hid (HBY.out.trans (hb2.mono HBY.out.size))
    clear ho2 hb2 hf HND
    have HAL : Hid (∀ o, Below w.heap.size w (w2.alloc o)) := Lib.hid (fun o => HB2.out.trans (((Below.refl _ _).alloc (Nat.le_refl _) _).mono HB2.out.size))
    go_wp2
    go_ret
    exact ⟨by rw [HE.out]; rfl, HAL.out _⟩
  | some d =>
    obtain ⟨dn, das, dr⟩ := d
    rw [hf] at ho2
    have ho2' : w2.ownsRow Y.heap.size 9 1 u2 das.length (das.map Value.string) := ho2
    have hsx : StrsAt w2 u2 das := StrsAt.of_owns ho2'
    obtain ⟨a2, c2, rfl⟩ := own_formF ho2'
    have hdas : das.length ≤ 1048576 := by
      unfold findD at hf
      split at hf
      · injection hf with e; injection e with e1 e2 e3; rw [← e2]; decide
      · exact HHN.out.2.1 _ (List.mem_of_find?_eq_some hf)
    clear ho2 ho2'
    obtain ⟨q, hq⟩ : ∃ z, z = das.length := ⟨_, rfl⟩
    have HQ := Lib.hid hq
    have hsx2 : Hid (StrsAt w2 (.slice a2 q c2) das) := Lib.hid (by rw [hq]; exact hsx)
    have hql : q ≤ 1048576 := by omega
    have HFD := Lib.hid hf; clear hf hsx
    rw [← hq] at ⊢
    clear hq hdas
    obtain ⟨W3, hW3⟩ : ∃ W3, W3 = w2.alloc (.cells #[.string dn, .slice a2 q c2, .string dr] 109) := ⟨_, rfl⟩
    have hb3 : Below w2.heap.size w2 W3 := by rw [hW3]; exact (Below.refl _ _).alloc (Nat.le_refl _) _
    have h33 : W3.heap[w2.heap.size]? = some (.cells #[.string dn, .slice a2 q c2, .string dr] 109 (0, 0)) := by rw [hW3]; exact heap_new w2 _ rfl
    have hz3 : W3.heap.size = w2.heap.size + 1 := by rw [hW3]; simp
    have HCE : Hid (∀ w', Below W3.heap.size W3 w' → ((w'.cell? ⟨w2.heap.size, 1, none⟩ = some (.slice a2 q c2) ∧ w'.cell? ⟨w2.heap.size, 2, none⟩ = some (.string dr)) ∧ w'.cell? ⟨w.heap.size + 1, 3, none⟩ = some (.slice a m cap) ∧ w'.cell? ⟨w.heap.size, 0, none⟩ = some (.slice sa pl sc) ∧ w'.cell? ⟨w.heap.size, 1, none⟩ = some (.slice oa dl oc)) ∧ StrsAt w' (.slice a2 q c2) das ∧ Below w.heap.size w w') := Lib.hid (fun w' hb => by
      have hb2w : Below w2.heap.size w2 w' := hb3.trans (hb.mono hb3.size)
      obtain ⟨_, _, g3, ⟨g0, g1⟩, hbw⟩ := HBX.out w' (hb2.trans (hb2w.mono hb2.size))
      obtain ⟨⟨_, k1, k2⟩, _⟩ := cells_of3 ((hb.block _ (by omega)).trans h33)
      exact ⟨⟨⟨k1, k2⟩, g3, g0, g1⟩, hsx2.out.below hb2w, hbw⟩)
    obtain ⟨⟨⟨k1, k2⟩, e3, f0, f1⟩, _, HB3⟩ := HCE.out W3 (Below.refl _ _)
    have HBE := Lib.hid HB3
    clear HB3 h33 hb3 hz3 hb2 hsx2
    rw [hW3] at k1 e3
    by_cases hqm : ¬ q = m
    · have HE : Hid (sortT ds vs (.node 2 nn s xs) = zE) := Lib.hid (by
        rw [HND.out]
        exact head_len _ _ HFD.out (by rw [List.length_map]; show das.length ≠ _; rw [← HQ.out, ← HM.out]; exact hqm))
      have bq : ((q : Int) != (m : Int)) = true := by simp; omega
      clear hqm f0 f1 k2
      go_wp2
      rw [← hW3]
      go_ret
      exact ⟨by rw [HE.out]; rfl, HBE.out⟩
    have hqm' : q = m := by omega
    subst hqm'
    clear hqm
    have bq : ((q : Int) != (q : Int)) = false := by simp
    clear f0 f1 k2
    go_wp2_with fail
    rw [← hW3]
    clear hW3
    go_loopw [9] (fun i wr => ∃ k : Nat, k ≤ q ∧ i = .int .i64 k ∧ Hid (∀ (j : Nat) (t : T) (a' : ByteArray), j < k → xs[j]? = some t → das[j]? = some a' → (sortT ds vs t).toList = a'.toList ∧ ¬ a'.toList = []) ∧ Hid (Below W3.heap.size W3 wr)) (fun i _ => q - (intOf i).toNat)
    case atStart => exact ⟨0, Nat.zero_le _, rfl, Lib.hid (fun j _ _ hj => by omega), Lib.hid (Below.refl _ _)⟩
    case round =>
      obtain ⟨k, hk, rfl, HG, HB⟩ := hrel
      obtain ⟨⟨⟨k1, k2⟩, e3, f0, f1⟩, hst, hbw⟩ := HCE.out wr HB.out
      have HBW := Lib.hid hbw; clear hbw
      by_cases hlt : k < q
      · obtain ⟨t, ht⟩ : ∃ t, xs[k]? = some t := ⟨_, List.getElem?_eq_getElem (by have := HM.out; omega)⟩
        obtain ⟨g, hg⟩ : ∃ g, das[k]? = some g := ⟨_, List.getElem?_eq_getElem (by have := HQ.out; omega)⟩
        obtain ⟨h', bt, ot, tk', tn, tsn, txs, u', eh, rfl, rfl, hsz, t0, t1, t2, t3, har⟩ := HAG.out.at ht
        obtain ⟨ba, oa2, ca, eA, hgA⟩ := hst.at hg
        obtain ⟨rfl, -, rfl⟩ : a2 = some ⟨ba, oa2, none⟩ ∧ q = das.length ∧ c2 = ca := by simpa using eA
        have hwt := wT_at xs k _ ht
        have HIC : Hid (∀ w', Below W3.heap.size W3 w' → Calls Try.prog 22 #[sv (.slice sa pl sc) (.slice oa dl oc), tv tk' tn tsn u', .slice va vl vc] w' (TextB (sortT ds vs (.node tk' tn tsn txs)) w')) := Lib.hid (fun w' hb => by
          have hbw := (HCE.out w' hb).2.2
          exact HIH.out h' eh _ _ w' (HSW.out w' hbw) ⟨tk', tn, tsn, u', txs, rfl, rfl, hsz, har.below hbw⟩ (by have := HW.out; omega))
        have HS : Hid (∀ w', Below W3.heap.size W3 w' → (w'.cell? ⟨w2.heap.size, 1, none⟩ = some (.slice (some ⟨ba, oa2, none⟩) q c2) ∧ w'.cell? ⟨w.heap.size + 1, 3, none⟩ = some (.slice (some ⟨bt, ot, none⟩) q cap) ∧ (w'.cell? ⟨w.heap.size, 0, none⟩ = some (.slice sa pl sc) ∧ w'.cell? ⟨w.heap.size, 1, none⟩ = some (.slice oa dl oc)) ∧ w'.cell? ⟨ba, oa2 + k, none⟩ = some (.string g) ∧ (w'.cell? ⟨bt, ot + k * 4, none⟩ = some (.int .i64 tk') ∧ w'.cell? ⟨bt, ot + k * 4 + 1, none⟩ = some (.int .i64 tn) ∧ w'.cell? ⟨bt, ot + k * 4 + 2, none⟩ = some (.string tsn) ∧ w'.cell? ⟨bt, ot + k * 4 + 3, none⟩ = some u')) ∧ Below W3.heap.size W3 w') := Lib.hid (fun w' hb => by
          obtain ⟨⟨⟨x1, _⟩, x3, y0, y1⟩, hst', hbw'⟩ := HCE.out w' hb
          obtain ⟨ba', oa2', ca', eA', hgA'⟩ := hst'.at hg
          obtain ⟨⟨rfl, rfl⟩, -, rfl⟩ : (ba = ba' ∧ oa2 = oa2') ∧ q = das.length ∧ c2 = ca' := by simpa using eA'
          exact ⟨⟨x1, x3, ⟨y0, y1⟩, hgA', cell_on hbw' t0, cell_on hbw' t1, cell_on hbw' t2, cell_on hbw' t3⟩, hb⟩)
        obtain ⟨z, hz⟩ : ∃ z, z = sortT ds vs (.node tk' tn tsn txs) := ⟨_, rfl⟩
        rw [← hz] at HIC
        have HZ := Lib.hid hz
        have HTG := Lib.hid (And.intro ht hg)
        clear eA hst hwt hsz har eh hz ht hg t0 t1 t2 t3 hgA
        obtain ⟨⟨x1, x3, ⟨y0, y1⟩, g0, z0, z1, z2, z3⟩, _⟩ := HS.out wr HB.out
        go_upto_region 13 with fail
        by_cases hzg : ¬ z.toList = g.toList
        · have hne : (z.toList != g.toList) = true := by simpa using hzg
          have hne2 : (z.toList == g.toList) = false := by simpa using hzg
          go_cut [68] (fun v wd => v = .bool true ∧ Hid (Below W3.heap.size W3 wd))
          case first =>
            have hSD := HS.out wr.drew (HB.out.drew)
            refine wp_region_held_drew (S := fun w' => (w'.cell? ⟨w2.heap.size, 1, none⟩ = some (.slice (some ⟨ba, oa2, none⟩) q c2) ∧ w'.cell? ⟨w.heap.size + 1, 3, none⟩ = some (.slice (some ⟨bt, ot, none⟩) q cap) ∧ (w'.cell? ⟨w.heap.size, 0, none⟩ = some (.slice sa pl sc) ∧ w'.cell? ⟨w.heap.size, 1, none⟩ = some (.slice oa dl oc)) ∧ w'.cell? ⟨ba, oa2 + k, none⟩ = some (.string g) ∧ (w'.cell? ⟨bt, ot + k * 4, none⟩ = some (.int .i64 tk') ∧ w'.cell? ⟨bt, ot + k * 4 + 1, none⟩ = some (.int .i64 tn) ∧ w'.cell? ⟨bt, ot + k * 4 + 2, none⟩ = some (.string tsn) ∧ w'.cell? ⟨bt, ot + k * 4 + 3, none⟩ = some u')) ∧ Below W3.heap.size W3 w') (by kernel_rfl) hSD (fun hHeld => ?_)
            refine wpAnyH_take (i := 0) (oi := { dst := some 47, op := Op.load 49 (Operand.tmp 3), type := 49, pos := "l06_signature.go:69", after := #[], guard := none }) (v := ?va0) rfl (by kernel_rfl) (by kernel_rfl) (by kernel_rfl) (fun _ _ _ h => h) (Or.inl ⟨by rfl, ?ya0⟩) hHeld ?ra0
            case ya0 => (intro w hSw; (try dsimp only at hSw); go_simp; try with_reducible rfl)
            (try simp only [Act.put, List.setIfInBounds_toArray, List.set_cons_zero, List.set_cons_succ])
            refine wpAnyH_take (i := 1) (oi := { dst := some 48, op := Op.fieldAddr 26 (Operand.tmp 4) 3, type := 0, pos := "l06_signature.go:69", after := #[], guard := none }) (v := ?va1) rfl (by kernel_rfl) (by kernel_rfl) (by kernel_rfl) (fun _ _ _ h => h) (Or.inl ⟨by rfl, ?ya1⟩) hHeld ?ra1
            case ya1 => (intro w hSw; (try dsimp only at hSw); go_simp; try with_reducible rfl)
            (try simp only [Act.put, List.setIfInBounds_toArray, List.set_cons_zero, List.set_cons_succ])
            refine wpAnyH_take (i := 2) (oi := { dst := some 49, op := Op.load 24 (Operand.tmp 48), type := 24, pos := "l06_signature.go:69", after := #[{ on := 1, ground := Ground.data }], guard := none }) (v := ?va2) rfl (by kernel_rfl) (by kernel_rfl) (by kernel_rfl) (fun _ _ _ h => h) (Or.inl ⟨by rfl, ?ya2⟩) hHeld ?ra2
            case ya2 => (intro w hSw; (try dsimp only at hSw); go_simp; try with_reducible rfl)
            (try simp only [Act.put, List.setIfInBounds_toArray, List.set_cons_zero, List.set_cons_succ])
            refine wpAnyH_take (i := 3) (oi := { dst := some 50, op := Op.move (Operand.tmp 9), type := 3, pos := "l06_signature.go:69", after := #[], guard := none }) (v := ?va3) rfl (by kernel_rfl) (by kernel_rfl) (by kernel_rfl) (fun _ _ _ h => h) (Or.inl ⟨by rfl, ?ya3⟩) hHeld ?ra3
            case ya3 => (intro w hSw; (try dsimp only at hSw); go_simp; try with_reducible rfl)
            (try simp only [Act.put, List.setIfInBounds_toArray, List.set_cons_zero, List.set_cons_succ])
            refine wpAnyH_take (i := 4) (oi := { dst := some 51, op := Op.indexAddr 24 (Operand.tmp 49) (Operand.tmp 50), type := 0, pos := "l06_signature.go:69", after := #[{ on := 2, ground := Ground.data }, { on := 3, ground := Ground.data }], guard := none }) (v := ?va4) rfl (by kernel_rfl) (by kernel_rfl) (by kernel_rfl) (fun _ _ _ h => h) (Or.inl ⟨by rfl, ?ya4⟩) hHeld ?ra4
            case ya4 => (intro w hSw; (try dsimp only at hSw); go_simp; try with_reducible rfl)
            (try simp only [Act.put, List.setIfInBounds_toArray, List.set_cons_zero, List.set_cons_succ])
            refine wpAnyH_take (i := 5) (oi := { dst := some 52, op := Op.load 26 (Operand.tmp 51), type := 26, pos := "l06_signature.go:69", after := #[{ on := 4, ground := Ground.data }], guard := none }) (v := ?va5) rfl (by kernel_rfl) (by kernel_rfl) (by kernel_rfl) (fun _ _ _ h => h) (Or.inl ⟨by rfl, ?ya5⟩) hHeld ?ra5
            case ya5 => (intro w hSw; (try dsimp only at hSw); go_simp; try with_reducible rfl)
            (try simp only [Act.put, List.setIfInBounds_toArray, List.set_cons_zero, List.set_cons_succ])
            refine wpAnyH_take (i := 6) (oi := { dst := some 53, op := Op.move (Operand.tmp 2), type := 52, pos := "l06_signature.go:69", after := #[], guard := none }) (v := ?va6) rfl (by kernel_rfl) (by kernel_rfl) (by kernel_rfl) (fun _ _ _ h => h) (Or.inl ⟨by rfl, ?ya6⟩) hHeld ?ra6
            case ya6 => (intro w hSw; (try dsimp only at hSw); go_simp; try with_reducible rfl)
            (try simp only [Act.put, List.setIfInBounds_toArray, List.set_cons_zero, List.set_cons_succ])
            refine wpAnyH_take (i := 8) (oi := { dst := some 55, op := Op.fieldAddr 109 (Operand.tmp 7) 1, type := 0, pos := "l06_signature.go:69", after := #[], guard := none }) (v := ?va8) rfl (by kernel_rfl) (by kernel_rfl) (by kernel_rfl) (fun _ _ _ h => h) (Or.inl ⟨by rfl, ?ya8⟩) hHeld ?ra8
            case ya8 => (intro w hSw; (try dsimp only at hSw); go_simp; try with_reducible rfl)
            (try simp only [Act.put, List.setIfInBounds_toArray, List.set_cons_zero, List.set_cons_succ])
            refine wpAnyH_take (i := 9) (oi := { dst := some 56, op := Op.load 35 (Operand.tmp 55), type := 35, pos := "l06_signature.go:69", after := #[{ on := 8, ground := Ground.data }], guard := none }) (v := ?va9) rfl (by kernel_rfl) (by kernel_rfl) (by kernel_rfl) (fun _ _ _ h => h) (Or.inl ⟨by rfl, ?ya9⟩) hHeld ?ra9
            case ya9 => (intro w hSw; (try dsimp only at hSw); go_simp; try with_reducible rfl)
            (try simp only [Act.put, List.setIfInBounds_toArray, List.set_cons_zero, List.set_cons_succ])
            refine wpAnyH_take (i := 10) (oi := { dst := some 57, op := Op.move (Operand.tmp 9), type := 3, pos := "l06_signature.go:69", after := #[], guard := none }) (v := ?va10) rfl (by kernel_rfl) (by kernel_rfl) (by kernel_rfl) (fun _ _ _ h => h) (Or.inl ⟨by rfl, ?ya10⟩) hHeld ?ra10
            case ya10 => (intro w hSw; (try dsimp only at hSw); go_simp; try with_reducible rfl)
            (try simp only [Act.put, List.setIfInBounds_toArray, List.set_cons_zero, List.set_cons_succ])
            refine wpAnyH_take (i := 11) (oi := { dst := some 58, op := Op.indexAddr 35 (Operand.tmp 56) (Operand.tmp 57), type := 0, pos := "l06_signature.go:69", after := #[{ on := 9, ground := Ground.data }, { on := 10, ground := Ground.data }], guard := none }) (v := ?va11) rfl (by kernel_rfl) (by kernel_rfl) (by kernel_rfl) (fun _ _ _ h => h) (Or.inl ⟨by rfl, ?ya11⟩) hHeld ?ra11
            case ya11 => (intro w hSw; (try dsimp only at hSw); go_simp; try with_reducible rfl)
            (try simp only [Act.put, List.setIfInBounds_toArray, List.set_cons_zero, List.set_cons_succ])
            refine wpAnyH_take (i := 12) (oi := { dst := some 59, op := Op.load 9 (Operand.tmp 58), type := 9, pos := "l06_signature.go:69", after := #[{ on := 11, ground := Ground.data }], guard := none }) (v := ?va12) rfl (by kernel_rfl) (by kernel_rfl) (by kernel_rfl) (fun _ _ _ h => h) (Or.inl ⟨by rfl, ?ya12⟩) hHeld ?ra12
            case ya12 => (intro w hSw; (try dsimp only at hSw); go_simp; try with_reducible rfl)
            (try simp only [Act.put, List.setIfInBounds_toArray, List.set_cons_zero, List.set_cons_succ])
            refine wpAnyH_ready (rs := [7]) (by kernel_rfl) (by simp) ?_
            refine AllReadyH.cons (o := { dst := some 54, op := Op.call { callee := Callee.value (Operand.func 22), args := #[Operand.tmp 47, Operand.tmp 52, Operand.tmp 53], argTypes := #[49, 26, 52] }, type := 9, pos := "l06_signature.go:69", after := #[{ on := 0, ground := Ground.data }, { on := 5, ground := Ground.data }, { on := 6, ground := Ground.data }], guard := none }) rfl (fun K hK => ?_) AllReadyH.nil
            (go_simp; refine (HIC.out _ (by (repeat' (first | assumption | exact Below.refl _ _ | refine Below.drew ?_ | refine bel_two ?_ (by assumption))))).mono ?_; rintro e w7 ⟨rfl, hb7⟩; go_wp2_with fail; refine hK.out _ _ (HS.out w7 (by (repeat' (first | assumption | exact Below.refl _ _ | refine Below.drew ?_ | refine bel_two ?_ (by assumption))))) (fun hHeld => ?_))
            clear hK K
            (try simp only [Act.put, List.setIfInBounds_toArray, List.set_cons_zero, List.set_cons_succ])
            refine wpAnyH_take (i := 13) (oi := { dst := some 60, op := Op.binOp BinOp.neq 9 (Operand.tmp 54) (Operand.tmp 59) 9, type := 4, pos := "l06_signature.go:69", after := #[{ on := 7, ground := Ground.data }, { on := 12, ground := Ground.data }], guard := none }) (v := .bool true) rfl (by kernel_rfl) (by kernel_rfl) (by kernel_rfl) (fun _ _ _ h => h) (Or.inl ⟨by rfl, ?ya13⟩) hHeld ?ra13
            case ya13 => (intro w hSw; (try dsimp only at hSw); go_simp; try with_reducible rfl)
            (try simp only [Act.put, List.setIfInBounds_toArray, List.set_cons_zero, List.set_cons_succ])
            refine wpAnyH_take (i := 14) (oi := { dst := some 61, op := Op.move (Operand.tmp 60), type := 4, pos := "l06_signature.go:69", after := #[{ on := 13, ground := Ground.data }, { on := 7, ground := Ground.chain }], guard := none }) (v := .bool true) rfl (by kernel_rfl) (by kernel_rfl) (by kernel_rfl) (fun _ _ _ h => h) (Or.inl ⟨by rfl, ?ya14⟩) hHeld ?ra14
            case ya14 => (intro w hSw; (try dsimp only at hSw); go_simp; try with_reducible rfl)
            (try simp only [Act.put, List.setIfInBounds_toArray, List.set_cons_zero, List.set_cons_succ])
            refine wpAnyH_take (i := 15) (oi := { dst := some 62, op := Op.fieldAddr 109 (Operand.tmp 7) 1, type := 0, pos := "l06_signature.go:69", after := #[{ on := 14, ground := Ground.guard }], guard := some (14, false) }) (v := undef) rfl (by kernel_rfl) (by kernel_rfl) (by kernel_rfl) (fun _ _ _ h => h) (Or.inr ⟨by rfl, rfl⟩) hHeld ?_
            (try simp only [Act.put, List.setIfInBounds_toArray, List.set_cons_zero, List.set_cons_succ])
            refine wpAnyH_take (i := 16) (oi := { dst := some 63, op := Op.load 35 (Operand.tmp 62), type := 35, pos := "l06_signature.go:69", after := #[{ on := 15, ground := Ground.data }, { on := 14, ground := Ground.guard }], guard := some (14, false) }) (v := undef) rfl (by kernel_rfl) (by kernel_rfl) (by kernel_rfl) (fun _ _ _ h => h) (Or.inr ⟨by rfl, rfl⟩) hHeld ?_
            (try simp only [Act.put, List.setIfInBounds_toArray, List.set_cons_zero, List.set_cons_succ])
            refine wpAnyH_take (i := 17) (oi := { dst := some 64, op := Op.move (Operand.tmp 9), type := 3, pos := "l06_signature.go:69", after := #[{ on := 14, ground := Ground.guard }], guard := some (14, false) }) (v := undef) rfl (by kernel_rfl) (by kernel_rfl) (by kernel_rfl) (fun _ _ _ h => h) (Or.inr ⟨by rfl, rfl⟩) hHeld ?_
            (try simp only [Act.put, List.setIfInBounds_toArray, List.set_cons_zero, List.set_cons_succ])
            refine wpAnyH_take (i := 18) (oi := { dst := some 65, op := Op.indexAddr 35 (Operand.tmp 63) (Operand.tmp 64), type := 0, pos := "l06_signature.go:69", after := #[{ on := 16, ground := Ground.data }, { on := 17, ground := Ground.data }, { on := 14, ground := Ground.guard }], guard := some (14, false) }) (v := undef) rfl (by kernel_rfl) (by kernel_rfl) (by kernel_rfl) (fun _ _ _ h => h) (Or.inr ⟨by rfl, rfl⟩) hHeld ?_
            (try simp only [Act.put, List.setIfInBounds_toArray, List.set_cons_zero, List.set_cons_succ])
            refine wpAnyH_take (i := 19) (oi := { dst := some 66, op := Op.load 9 (Operand.tmp 65), type := 9, pos := "l06_signature.go:69", after := #[{ on := 18, ground := Ground.data }, { on := 14, ground := Ground.guard }], guard := some (14, false) }) (v := undef) rfl (by kernel_rfl) (by kernel_rfl) (by kernel_rfl) (fun _ _ _ h => h) (Or.inr ⟨by rfl, rfl⟩) hHeld ?_
            (try simp only [Act.put, List.setIfInBounds_toArray, List.set_cons_zero, List.set_cons_succ])
            refine wpAnyH_take (i := 20) (oi := { dst := some 67, op := Op.binOp BinOp.eql 9 (Operand.tmp 66) (Operand.const (Value.string ⟨#[]⟩)) 9, type := 4, pos := "l06_signature.go:69", after := #[{ on := 19, ground := Ground.data }, { on := 14, ground := Ground.guard }], guard := some (14, false) }) (v := undef) rfl (by kernel_rfl) (by kernel_rfl) (by kernel_rfl) (fun _ _ _ h => h) (Or.inr ⟨by rfl, rfl⟩) hHeld ?_
            (try simp only [Act.put, List.setIfInBounds_toArray, List.set_cons_zero, List.set_cons_succ])
            refine wpAnyH_take (i := 21) (oi := { dst := some 68, op := Op.pick (Operand.tmp 61) (Operand.const (Value.bool true)) (Operand.tmp 67), type := 4, pos := "l06_signature.go:69", after := #[{ on := 14, ground := Ground.data }, { on := 20, ground := Ground.data }], guard := none }) (v := ?va21) rfl (by kernel_rfl) (by kernel_rfl) (by kernel_rfl) (fun _ _ _ h => h) (Or.inl ⟨by rfl, ?ya21⟩) hHeld ?ra21
            case ya21 => (intro w hSw; (try dsimp only at hSw); go_simp; try with_reducible rfl)
            (try simp only [Act.put, List.setIfInBounds_toArray, List.set_cons_zero, List.set_cons_succ])
            refine wpAnyH_done (by kernel_rfl) ?_ _
            go_wp2_with fail
            go_meet
            exact ⟨rfl, Lib.hid (by (repeat' (first | assumption | exact Below.refl _ _ | refine Below.drew ?_ | refine bel_two ?_ (by assumption))))⟩
          obtain ⟨rfl, HBD⟩ := hcut
          have HE : Hid (sortT ds vs (.node 2 nn s xs) = zE) := Lib.hid (by
            rw [HND.out]
            refine head_bad (k := k) (z := z) (a := g) _ _ HFD.out (by rw [List.getElem?_map, HTG.out.1, HZ.out]; rfl) HTG.out.2 (Or.inl hzg))
          have HBF := Lib.hid ((HCE.out _ HBD.out).2.2)
          clear x1 x3 y0 y1 g0 z0 z1 z2 z3
          go_wp2
          go_ret
          exact ⟨by rw [HE.out]; rfl, HBF.out⟩
        have hzg2 : z.toList = g.toList := Classical.not_not.1 hzg
        have hne : (z.toList != g.toList) = false := by simp [hzg2]
        by_cases hge : g.toList = []
        · have hem : (g.toList == []) = true := by simp [hge]
          have HZG := Lib.hid hge
          clear hge
          go_cut [68] (fun v wd => v = .bool true ∧ Hid (Below W3.heap.size W3 wd))
          case first =>
            have hSD := HS.out wr.drew (HB.out.drew)
            refine wp_region_held_drew (S := fun w' => (w'.cell? ⟨w2.heap.size, 1, none⟩ = some (.slice (some ⟨ba, oa2, none⟩) q c2) ∧ w'.cell? ⟨w.heap.size + 1, 3, none⟩ = some (.slice (some ⟨bt, ot, none⟩) q cap) ∧ (w'.cell? ⟨w.heap.size, 0, none⟩ = some (.slice sa pl sc) ∧ w'.cell? ⟨w.heap.size, 1, none⟩ = some (.slice oa dl oc)) ∧ w'.cell? ⟨ba, oa2 + k, none⟩ = some (.string g) ∧ (w'.cell? ⟨bt, ot + k * 4, none⟩ = some (.int .i64 tk') ∧ w'.cell? ⟨bt, ot + k * 4 + 1, none⟩ = some (.int .i64 tn) ∧ w'.cell? ⟨bt, ot + k * 4 + 2, none⟩ = some (.string tsn) ∧ w'.cell? ⟨bt, ot + k * 4 + 3, none⟩ = some u')) ∧ Below W3.heap.size W3 w') (by kernel_rfl) hSD (fun hHeld => ?_)
            refine wpAnyH_take (i := 0) (oi := { dst := some 47, op := Op.load 49 (Operand.tmp 3), type := 49, pos := "l06_signature.go:69", after := #[], guard := none }) (v := ?vb0) rfl (by kernel_rfl) (by kernel_rfl) (by kernel_rfl) (fun _ _ _ h => h) (Or.inl ⟨by rfl, ?yb0⟩) hHeld ?rb0
            case yb0 => (intro w hSw; (try dsimp only at hSw); go_simp; try with_reducible rfl)
            (try simp only [Act.put, List.setIfInBounds_toArray, List.set_cons_zero, List.set_cons_succ])
            refine wpAnyH_take (i := 1) (oi := { dst := some 48, op := Op.fieldAddr 26 (Operand.tmp 4) 3, type := 0, pos := "l06_signature.go:69", after := #[], guard := none }) (v := ?vb1) rfl (by kernel_rfl) (by kernel_rfl) (by kernel_rfl) (fun _ _ _ h => h) (Or.inl ⟨by rfl, ?yb1⟩) hHeld ?rb1
            case yb1 => (intro w hSw; (try dsimp only at hSw); go_simp; try with_reducible rfl)
            (try simp only [Act.put, List.setIfInBounds_toArray, List.set_cons_zero, List.set_cons_succ])
            refine wpAnyH_take (i := 2) (oi := { dst := some 49, op := Op.load 24 (Operand.tmp 48), type := 24, pos := "l06_signature.go:69", after := #[{ on := 1, ground := Ground.data }], guard := none }) (v := ?vb2) rfl (by kernel_rfl) (by kernel_rfl) (by kernel_rfl) (fun _ _ _ h => h) (Or.inl ⟨by rfl, ?yb2⟩) hHeld ?rb2
            case yb2 => (intro w hSw; (try dsimp only at hSw); go_simp; try with_reducible rfl)
            (try simp only [Act.put, List.setIfInBounds_toArray, List.set_cons_zero, List.set_cons_succ])
            refine wpAnyH_take (i := 3) (oi := { dst := some 50, op := Op.move (Operand.tmp 9), type := 3, pos := "l06_signature.go:69", after := #[], guard := none }) (v := ?vb3) rfl (by kernel_rfl) (by kernel_rfl) (by kernel_rfl) (fun _ _ _ h => h) (Or.inl ⟨by rfl, ?yb3⟩) hHeld ?rb3
            case yb3 => (intro w hSw; (try dsimp only at hSw); go_simp; try with_reducible rfl)
            (try simp only [Act.put, List.setIfInBounds_toArray, List.set_cons_zero, List.set_cons_succ])
            refine wpAnyH_take (i := 4) (oi := { dst := some 51, op := Op.indexAddr 24 (Operand.tmp 49) (Operand.tmp 50), type := 0, pos := "l06_signature.go:69", after := #[{ on := 2, ground := Ground.data }, { on := 3, ground := Ground.data }], guard := none }) (v := ?vb4) rfl (by kernel_rfl) (by kernel_rfl) (by kernel_rfl) (fun _ _ _ h => h) (Or.inl ⟨by rfl, ?yb4⟩) hHeld ?rb4
            case yb4 => (intro w hSw; (try dsimp only at hSw); go_simp; try with_reducible rfl)
            (try simp only [Act.put, List.setIfInBounds_toArray, List.set_cons_zero, List.set_cons_succ])
            refine wpAnyH_take (i := 5) (oi := { dst := some 52, op := Op.load 26 (Operand.tmp 51), type := 26, pos := "l06_signature.go:69", after := #[{ on := 4, ground := Ground.data }], guard := none }) (v := ?vb5) rfl (by kernel_rfl) (by kernel_rfl) (by kernel_rfl) (fun _ _ _ h => h) (Or.inl ⟨by rfl, ?yb5⟩) hHeld ?rb5
            case yb5 => (intro w hSw; (try dsimp only at hSw); go_simp; try with_reducible rfl)
            (try simp only [Act.put, List.setIfInBounds_toArray, List.set_cons_zero, List.set_cons_succ])
            refine wpAnyH_take (i := 6) (oi := { dst := some 53, op := Op.move (Operand.tmp 2), type := 52, pos := "l06_signature.go:69", after := #[], guard := none }) (v := ?vb6) rfl (by kernel_rfl) (by kernel_rfl) (by kernel_rfl) (fun _ _ _ h => h) (Or.inl ⟨by rfl, ?yb6⟩) hHeld ?rb6
            case yb6 => (intro w hSw; (try dsimp only at hSw); go_simp; try with_reducible rfl)
            (try simp only [Act.put, List.setIfInBounds_toArray, List.set_cons_zero, List.set_cons_succ])
            refine wpAnyH_take (i := 8) (oi := { dst := some 55, op := Op.fieldAddr 109 (Operand.tmp 7) 1, type := 0, pos := "l06_signature.go:69", after := #[], guard := none }) (v := ?vb8) rfl (by kernel_rfl) (by kernel_rfl) (by kernel_rfl) (fun _ _ _ h => h) (Or.inl ⟨by rfl, ?yb8⟩) hHeld ?rb8
            case yb8 => (intro w hSw; (try dsimp only at hSw); go_simp; try with_reducible rfl)
            (try simp only [Act.put, List.setIfInBounds_toArray, List.set_cons_zero, List.set_cons_succ])
            refine wpAnyH_take (i := 9) (oi := { dst := some 56, op := Op.load 35 (Operand.tmp 55), type := 35, pos := "l06_signature.go:69", after := #[{ on := 8, ground := Ground.data }], guard := none }) (v := ?vb9) rfl (by kernel_rfl) (by kernel_rfl) (by kernel_rfl) (fun _ _ _ h => h) (Or.inl ⟨by rfl, ?yb9⟩) hHeld ?rb9
            case yb9 => (intro w hSw; (try dsimp only at hSw); go_simp; try with_reducible rfl)
            (try simp only [Act.put, List.setIfInBounds_toArray, List.set_cons_zero, List.set_cons_succ])
            refine wpAnyH_take (i := 10) (oi := { dst := some 57, op := Op.move (Operand.tmp 9), type := 3, pos := "l06_signature.go:69", after := #[], guard := none }) (v := ?vb10) rfl (by kernel_rfl) (by kernel_rfl) (by kernel_rfl) (fun _ _ _ h => h) (Or.inl ⟨by rfl, ?yb10⟩) hHeld ?rb10
            case yb10 => (intro w hSw; (try dsimp only at hSw); go_simp; try with_reducible rfl)
            (try simp only [Act.put, List.setIfInBounds_toArray, List.set_cons_zero, List.set_cons_succ])
            refine wpAnyH_take (i := 11) (oi := { dst := some 58, op := Op.indexAddr 35 (Operand.tmp 56) (Operand.tmp 57), type := 0, pos := "l06_signature.go:69", after := #[{ on := 9, ground := Ground.data }, { on := 10, ground := Ground.data }], guard := none }) (v := ?vb11) rfl (by kernel_rfl) (by kernel_rfl) (by kernel_rfl) (fun _ _ _ h => h) (Or.inl ⟨by rfl, ?yb11⟩) hHeld ?rb11
            case yb11 => (intro w hSw; (try dsimp only at hSw); go_simp; try with_reducible rfl)
            (try simp only [Act.put, List.setIfInBounds_toArray, List.set_cons_zero, List.set_cons_succ])
            refine wpAnyH_take (i := 12) (oi := { dst := some 59, op := Op.load 9 (Operand.tmp 58), type := 9, pos := "l06_signature.go:69", after := #[{ on := 11, ground := Ground.data }], guard := none }) (v := ?vb12) rfl (by kernel_rfl) (by kernel_rfl) (by kernel_rfl) (fun _ _ _ h => h) (Or.inl ⟨by rfl, ?yb12⟩) hHeld ?rb12
            case yb12 => (intro w hSw; (try dsimp only at hSw); go_simp; try with_reducible rfl)
            (try simp only [Act.put, List.setIfInBounds_toArray, List.set_cons_zero, List.set_cons_succ])
            refine wpAnyH_ready (rs := [7]) (by kernel_rfl) (by simp) ?_
            refine AllReadyH.cons (o := { dst := some 54, op := Op.call { callee := Callee.value (Operand.func 22), args := #[Operand.tmp 47, Operand.tmp 52, Operand.tmp 53], argTypes := #[49, 26, 52] }, type := 9, pos := "l06_signature.go:69", after := #[{ on := 0, ground := Ground.data }, { on := 5, ground := Ground.data }, { on := 6, ground := Ground.data }], guard := none }) rfl (fun K hK => ?_) AllReadyH.nil
            (go_simp; refine (HIC.out _ (by (repeat' (first | assumption | exact Below.refl _ _ | refine Below.drew ?_ | refine bel_two ?_ (by assumption))))).mono ?_; rintro e w7 ⟨rfl, hb7⟩; go_wp2_with fail; refine hK.out _ _ (HS.out w7 (by (repeat' (first | assumption | exact Below.refl _ _ | refine Below.drew ?_ | refine bel_two ?_ (by assumption))))) (fun hHeld => ?_))
            clear hK K
            (try simp only [Act.put, List.setIfInBounds_toArray, List.set_cons_zero, List.set_cons_succ])
            refine wpAnyH_take (i := 13) (oi := { dst := some 60, op := Op.binOp BinOp.neq 9 (Operand.tmp 54) (Operand.tmp 59) 9, type := 4, pos := "l06_signature.go:69", after := #[{ on := 7, ground := Ground.data }, { on := 12, ground := Ground.data }], guard := none }) (v := .bool false) rfl (by kernel_rfl) (by kernel_rfl) (by kernel_rfl) (fun _ _ _ h => h) (Or.inl ⟨by rfl, ?yb13⟩) hHeld ?rb13
            case yb13 => (intro w hSw; (try dsimp only at hSw); go_simp; try with_reducible rfl)
            (try simp only [Act.put, List.setIfInBounds_toArray, List.set_cons_zero, List.set_cons_succ])
            refine wpAnyH_take (i := 14) (oi := { dst := some 61, op := Op.move (Operand.tmp 60), type := 4, pos := "l06_signature.go:69", after := #[{ on := 13, ground := Ground.data }, { on := 7, ground := Ground.chain }], guard := none }) (v := .bool false) rfl (by kernel_rfl) (by kernel_rfl) (by kernel_rfl) (fun _ _ _ h => h) (Or.inl ⟨by rfl, ?yb14⟩) hHeld ?rb14
            case yb14 => (intro w hSw; (try dsimp only at hSw); go_simp; try with_reducible rfl)
            (try simp only [Act.put, List.setIfInBounds_toArray, List.set_cons_zero, List.set_cons_succ])
            refine wpAnyH_take (i := 15) (oi := { dst := some 62, op := Op.fieldAddr 109 (Operand.tmp 7) 1, type := 0, pos := "l06_signature.go:69", after := #[{ on := 14, ground := Ground.guard }], guard := some (14, false) }) (v := ?vb15) rfl (by kernel_rfl) (by kernel_rfl) (by kernel_rfl) (fun _ _ _ h => h) (Or.inl ⟨by rfl, ?yb15⟩) hHeld ?rb15
            case yb15 => (intro w hSw; (try dsimp only at hSw); go_simp; try with_reducible rfl)
            (try simp only [Act.put, List.setIfInBounds_toArray, List.set_cons_zero, List.set_cons_succ])
            refine wpAnyH_take (i := 16) (oi := { dst := some 63, op := Op.load 35 (Operand.tmp 62), type := 35, pos := "l06_signature.go:69", after := #[{ on := 15, ground := Ground.data }, { on := 14, ground := Ground.guard }], guard := some (14, false) }) (v := ?vb16) rfl (by kernel_rfl) (by kernel_rfl) (by kernel_rfl) (fun _ _ _ h => h) (Or.inl ⟨by rfl, ?yb16⟩) hHeld ?rb16
            case yb16 => (intro w hSw; (try dsimp only at hSw); go_simp; try with_reducible rfl)
            (try simp only [Act.put, List.setIfInBounds_toArray, List.set_cons_zero, List.set_cons_succ])
            refine wpAnyH_take (i := 17) (oi := { dst := some 64, op := Op.move (Operand.tmp 9), type := 3, pos := "l06_signature.go:69", after := #[{ on := 14, ground := Ground.guard }], guard := some (14, false) }) (v := ?vb17) rfl (by kernel_rfl) (by kernel_rfl) (by kernel_rfl) (fun _ _ _ h => h) (Or.inl ⟨by rfl, ?yb17⟩) hHeld ?rb17
            case yb17 => (intro w hSw; (try dsimp only at hSw); go_simp; try with_reducible rfl)
            (try simp only [Act.put, List.setIfInBounds_toArray, List.set_cons_zero, List.set_cons_succ])
            refine wpAnyH_take (i := 18) (oi := { dst := some 65, op := Op.indexAddr 35 (Operand.tmp 63) (Operand.tmp 64), type := 0, pos := "l06_signature.go:69", after := #[{ on := 16, ground := Ground.data }, { on := 17, ground := Ground.data }, { on := 14, ground := Ground.guard }], guard := some (14, false) }) (v := ?vb18) rfl (by kernel_rfl) (by kernel_rfl) (by kernel_rfl) (fun _ _ _ h => h) (Or.inl ⟨by rfl, ?yb18⟩) hHeld ?rb18
            case yb18 => (intro w hSw; (try dsimp only at hSw); go_simp; try with_reducible rfl)
            (try simp only [Act.put, List.setIfInBounds_toArray, List.set_cons_zero, List.set_cons_succ])
            refine wpAnyH_take (i := 19) (oi := { dst := some 66, op := Op.load 9 (Operand.tmp 65), type := 9, pos := "l06_signature.go:69", after := #[{ on := 18, ground := Ground.data }, { on := 14, ground := Ground.guard }], guard := some (14, false) }) (v := ?vb19) rfl (by kernel_rfl) (by kernel_rfl) (by kernel_rfl) (fun _ _ _ h => h) (Or.inl ⟨by rfl, ?yb19⟩) hHeld ?rb19
            case yb19 => (intro w hSw; (try dsimp only at hSw); go_simp; try with_reducible rfl)
            (try simp only [Act.put, List.setIfInBounds_toArray, List.set_cons_zero, List.set_cons_succ])
            refine wpAnyH_take (i := 20) (oi := { dst := some 67, op := Op.binOp BinOp.eql 9 (Operand.tmp 66) (Operand.const (Value.string ⟨#[]⟩)) 9, type := 4, pos := "l06_signature.go:69", after := #[{ on := 19, ground := Ground.data }, { on := 14, ground := Ground.guard }], guard := some (14, false) }) (v := ?vb20) rfl (by kernel_rfl) (by kernel_rfl) (by kernel_rfl) (fun _ _ _ h => h) (Or.inl ⟨by rfl, ?yb20⟩) hHeld ?rb20
            case yb20 => (intro w hSw; (try dsimp only at hSw); go_simp; try with_reducible rfl)
            (try simp only [Act.put, List.setIfInBounds_toArray, List.set_cons_zero, List.set_cons_succ])
            refine wpAnyH_take (i := 21) (oi := { dst := some 68, op := Op.pick (Operand.tmp 61) (Operand.const (Value.bool true)) (Operand.tmp 67), type := 4, pos := "l06_signature.go:69", after := #[{ on := 14, ground := Ground.data }, { on := 20, ground := Ground.data }], guard := none }) (v := ?vb21) rfl (by kernel_rfl) (by kernel_rfl) (by kernel_rfl) (fun _ _ _ h => h) (Or.inl ⟨by rfl, ?yb21⟩) hHeld ?rb21
            case yb21 => (intro w hSw; (try dsimp only at hSw); go_simp; try with_reducible rfl)
            (try simp only [Act.put, List.setIfInBounds_toArray, List.set_cons_zero, List.set_cons_succ])
            refine wpAnyH_done (by kernel_rfl) ?_ _
            go_wp2_with fail
            go_meet
            exact ⟨rfl, Lib.hid (by (repeat' (first | assumption | exact Below.refl _ _ | refine Below.drew ?_ | refine bel_two ?_ (by assumption))))⟩
          obtain ⟨rfl, HBD⟩ := hcut
          have HE : Hid (sortT ds vs (.node 2 nn s xs) = zE) := Lib.hid (by
            rw [HND.out]
            refine head_bad (k := k) (z := z) (a := g) _ _ HFD.out (by rw [List.getElem?_map, HTG.out.1, HZ.out]; rfl) HTG.out.2 (Or.inr HZG.out))
          have HBF := Lib.hid ((HCE.out _ HBD.out).2.2)
          clear x1 x3 y0 y1 g0 z0 z1 z2 z3
          go_wp2
          go_ret
          exact ⟨by rw [HE.out]; rfl, HBF.out⟩
        have hem : (g.toList == []) = false := by simpa using hge
        have HNX : Hid (∀ (j : Nat) (t : T) (a' : ByteArray), j < k + 1 → xs[j]? = some t → das[j]? = some a' → (sortT ds vs t).toList = a'.toList ∧ ¬ a'.toList = []) := Lib.hid (fun j t a' hj hx ha' => by
          by_cases e : j = k
          · subst e
            rw [HTG.out.1] at hx; rw [HTG.out.2] at ha'
            injection hx with hx; injection ha' with ha'; subst hx ha'
            rw [← HZ.out]
            exact ⟨hzg2, hge⟩
          · exact HG.out j t a' (by omega) hx ha')
        go_cut [68] (fun v wd => v = .bool false ∧ Hid (Below W3.heap.size W3 wd))
        case first =>
          have hSD := HS.out wr.drew (HB.out.drew)
          refine wp_region_held_drew (S := fun w' => (w'.cell? ⟨w2.heap.size, 1, none⟩ = some (.slice (some ⟨ba, oa2, none⟩) q c2) ∧ w'.cell? ⟨w.heap.size + 1, 3, none⟩ = some (.slice (some ⟨bt, ot, none⟩) q cap) ∧ (w'.cell? ⟨w.heap.size, 0, none⟩ = some (.slice sa pl sc) ∧ w'.cell? ⟨w.heap.size, 1, none⟩ = some (.slice oa dl oc)) ∧ w'.cell? ⟨ba, oa2 + k, none⟩ = some (.string g) ∧ (w'.cell? ⟨bt, ot + k * 4, none⟩ = some (.int .i64 tk') ∧ w'.cell? ⟨bt, ot + k * 4 + 1, none⟩ = some (.int .i64 tn) ∧ w'.cell? ⟨bt, ot + k * 4 + 2, none⟩ = some (.string tsn) ∧ w'.cell? ⟨bt, ot + k * 4 + 3, none⟩ = some u')) ∧ Below W3.heap.size W3 w') (by kernel_rfl) hSD (fun hHeld => ?_)
          refine wpAnyH_take (i := 0) (oi := { dst := some 47, op := Op.load 49 (Operand.tmp 3), type := 49, pos := "l06_signature.go:69", after := #[], guard := none }) (v := ?vc0) rfl (by kernel_rfl) (by kernel_rfl) (by kernel_rfl) (fun _ _ _ h => h) (Or.inl ⟨by rfl, ?yc0⟩) hHeld ?rc0
          case yc0 => (intro w hSw; (try dsimp only at hSw); go_simp; try with_reducible rfl)
          (try simp only [Act.put, List.setIfInBounds_toArray, List.set_cons_zero, List.set_cons_succ])
          refine wpAnyH_take (i := 1) (oi := { dst := some 48, op := Op.fieldAddr 26 (Operand.tmp 4) 3, type := 0, pos := "l06_signature.go:69", after := #[], guard := none }) (v := ?vc1) rfl (by kernel_rfl) (by kernel_rfl) (by kernel_rfl) (fun _ _ _ h => h) (Or.inl ⟨by rfl, ?yc1⟩) hHeld ?rc1
          case yc1 => (intro w hSw; (try dsimp only at hSw); go_simp; try with_reducible rfl)
          (try simp only [Act.put, List.setIfInBounds_toArray, List.set_cons_zero, List.set_cons_succ])
          refine wpAnyH_take (i := 2) (oi := { dst := some 49, op := Op.load 24 (Operand.tmp 48), type := 24, pos := "l06_signature.go:69", after := #[{ on := 1, ground := Ground.data }], guard := none }) (v := ?vc2) rfl (by kernel_rfl) (by kernel_rfl) (by kernel_rfl) (fun _ _ _ h => h) (Or.inl ⟨by rfl, ?yc2⟩) hHeld ?rc2
          case yc2 => (intro w hSw; (try dsimp only at hSw); go_simp; try with_reducible rfl)
          (try simp only [Act.put, List.setIfInBounds_toArray, List.set_cons_zero, List.set_cons_succ])
          refine wpAnyH_take (i := 3) (oi := { dst := some 50, op := Op.move (Operand.tmp 9), type := 3, pos := "l06_signature.go:69", after := #[], guard := none }) (v := ?vc3) rfl (by kernel_rfl) (by kernel_rfl) (by kernel_rfl) (fun _ _ _ h => h) (Or.inl ⟨by rfl, ?yc3⟩) hHeld ?rc3
          case yc3 => (intro w hSw; (try dsimp only at hSw); go_simp; try with_reducible rfl)
          (try simp only [Act.put, List.setIfInBounds_toArray, List.set_cons_zero, List.set_cons_succ])
          refine wpAnyH_take (i := 4) (oi := { dst := some 51, op := Op.indexAddr 24 (Operand.tmp 49) (Operand.tmp 50), type := 0, pos := "l06_signature.go:69", after := #[{ on := 2, ground := Ground.data }, { on := 3, ground := Ground.data }], guard := none }) (v := ?vc4) rfl (by kernel_rfl) (by kernel_rfl) (by kernel_rfl) (fun _ _ _ h => h) (Or.inl ⟨by rfl, ?yc4⟩) hHeld ?rc4
          case yc4 => (intro w hSw; (try dsimp only at hSw); go_simp; try with_reducible rfl)
          (try simp only [Act.put, List.setIfInBounds_toArray, List.set_cons_zero, List.set_cons_succ])
          refine wpAnyH_take (i := 5) (oi := { dst := some 52, op := Op.load 26 (Operand.tmp 51), type := 26, pos := "l06_signature.go:69", after := #[{ on := 4, ground := Ground.data }], guard := none }) (v := ?vc5) rfl (by kernel_rfl) (by kernel_rfl) (by kernel_rfl) (fun _ _ _ h => h) (Or.inl ⟨by rfl, ?yc5⟩) hHeld ?rc5
          case yc5 => (intro w hSw; (try dsimp only at hSw); go_simp; try with_reducible rfl)
          (try simp only [Act.put, List.setIfInBounds_toArray, List.set_cons_zero, List.set_cons_succ])
          refine wpAnyH_take (i := 6) (oi := { dst := some 53, op := Op.move (Operand.tmp 2), type := 52, pos := "l06_signature.go:69", after := #[], guard := none }) (v := ?vc6) rfl (by kernel_rfl) (by kernel_rfl) (by kernel_rfl) (fun _ _ _ h => h) (Or.inl ⟨by rfl, ?yc6⟩) hHeld ?rc6
          case yc6 => (intro w hSw; (try dsimp only at hSw); go_simp; try with_reducible rfl)
          (try simp only [Act.put, List.setIfInBounds_toArray, List.set_cons_zero, List.set_cons_succ])
          refine wpAnyH_take (i := 8) (oi := { dst := some 55, op := Op.fieldAddr 109 (Operand.tmp 7) 1, type := 0, pos := "l06_signature.go:69", after := #[], guard := none }) (v := ?vc8) rfl (by kernel_rfl) (by kernel_rfl) (by kernel_rfl) (fun _ _ _ h => h) (Or.inl ⟨by rfl, ?yc8⟩) hHeld ?rc8
          case yc8 => (intro w hSw; (try dsimp only at hSw); go_simp; try with_reducible rfl)
          (try simp only [Act.put, List.setIfInBounds_toArray, List.set_cons_zero, List.set_cons_succ])
          refine wpAnyH_take (i := 9) (oi := { dst := some 56, op := Op.load 35 (Operand.tmp 55), type := 35, pos := "l06_signature.go:69", after := #[{ on := 8, ground := Ground.data }], guard := none }) (v := ?vc9) rfl (by kernel_rfl) (by kernel_rfl) (by kernel_rfl) (fun _ _ _ h => h) (Or.inl ⟨by rfl, ?yc9⟩) hHeld ?rc9
          case yc9 => (intro w hSw; (try dsimp only at hSw); go_simp; try with_reducible rfl)
          (try simp only [Act.put, List.setIfInBounds_toArray, List.set_cons_zero, List.set_cons_succ])
          refine wpAnyH_take (i := 10) (oi := { dst := some 57, op := Op.move (Operand.tmp 9), type := 3, pos := "l06_signature.go:69", after := #[], guard := none }) (v := ?vc10) rfl (by kernel_rfl) (by kernel_rfl) (by kernel_rfl) (fun _ _ _ h => h) (Or.inl ⟨by rfl, ?yc10⟩) hHeld ?rc10
          case yc10 => (intro w hSw; (try dsimp only at hSw); go_simp; try with_reducible rfl)
          (try simp only [Act.put, List.setIfInBounds_toArray, List.set_cons_zero, List.set_cons_succ])
          refine wpAnyH_take (i := 11) (oi := { dst := some 58, op := Op.indexAddr 35 (Operand.tmp 56) (Operand.tmp 57), type := 0, pos := "l06_signature.go:69", after := #[{ on := 9, ground := Ground.data }, { on := 10, ground := Ground.data }], guard := none }) (v := ?vc11) rfl (by kernel_rfl) (by kernel_rfl) (by kernel_rfl) (fun _ _ _ h => h) (Or.inl ⟨by rfl, ?yc11⟩) hHeld ?rc11
          case yc11 => (intro w hSw; (try dsimp only at hSw); go_simp; try with_reducible rfl)
          (try simp only [Act.put, List.setIfInBounds_toArray, List.set_cons_zero, List.set_cons_succ])
          refine wpAnyH_take (i := 12) (oi := { dst := some 59, op := Op.load 9 (Operand.tmp 58), type := 9, pos := "l06_signature.go:69", after := #[{ on := 11, ground := Ground.data }], guard := none }) (v := ?vc12) rfl (by kernel_rfl) (by kernel_rfl) (by kernel_rfl) (fun _ _ _ h => h) (Or.inl ⟨by rfl, ?yc12⟩) hHeld ?rc12
          case yc12 => (intro w hSw; (try dsimp only at hSw); go_simp; try with_reducible rfl)
          (try simp only [Act.put, List.setIfInBounds_toArray, List.set_cons_zero, List.set_cons_succ])
          refine wpAnyH_ready (rs := [7]) (by kernel_rfl) (by simp) ?_
          refine AllReadyH.cons (o := { dst := some 54, op := Op.call { callee := Callee.value (Operand.func 22), args := #[Operand.tmp 47, Operand.tmp 52, Operand.tmp 53], argTypes := #[49, 26, 52] }, type := 9, pos := "l06_signature.go:69", after := #[{ on := 0, ground := Ground.data }, { on := 5, ground := Ground.data }, { on := 6, ground := Ground.data }], guard := none }) rfl (fun K hK => ?_) AllReadyH.nil
          (go_simp; refine (HIC.out _ (by (repeat' (first | assumption | exact Below.refl _ _ | refine Below.drew ?_ | refine bel_two ?_ (by assumption))))).mono ?_; rintro e w7 ⟨rfl, hb7⟩; go_wp2_with fail; refine hK.out _ _ (HS.out w7 (by (repeat' (first | assumption | exact Below.refl _ _ | refine Below.drew ?_ | refine bel_two ?_ (by assumption))))) (fun hHeld => ?_))
          clear hK K
          (try simp only [Act.put, List.setIfInBounds_toArray, List.set_cons_zero, List.set_cons_succ])
          refine wpAnyH_take (i := 13) (oi := { dst := some 60, op := Op.binOp BinOp.neq 9 (Operand.tmp 54) (Operand.tmp 59) 9, type := 4, pos := "l06_signature.go:69", after := #[{ on := 7, ground := Ground.data }, { on := 12, ground := Ground.data }], guard := none }) (v := .bool false) rfl (by kernel_rfl) (by kernel_rfl) (by kernel_rfl) (fun _ _ _ h => h) (Or.inl ⟨by rfl, ?yc13⟩) hHeld ?rc13
          case yc13 => (intro w hSw; (try dsimp only at hSw); go_simp; try with_reducible rfl)
          (try simp only [Act.put, List.setIfInBounds_toArray, List.set_cons_zero, List.set_cons_succ])
          refine wpAnyH_take (i := 14) (oi := { dst := some 61, op := Op.move (Operand.tmp 60), type := 4, pos := "l06_signature.go:69", after := #[{ on := 13, ground := Ground.data }, { on := 7, ground := Ground.chain }], guard := none }) (v := .bool false) rfl (by kernel_rfl) (by kernel_rfl) (by kernel_rfl) (fun _ _ _ h => h) (Or.inl ⟨by rfl, ?yc14⟩) hHeld ?rc14
          case yc14 => (intro w hSw; (try dsimp only at hSw); go_simp; try with_reducible rfl)
          (try simp only [Act.put, List.setIfInBounds_toArray, List.set_cons_zero, List.set_cons_succ])
          refine wpAnyH_take (i := 15) (oi := { dst := some 62, op := Op.fieldAddr 109 (Operand.tmp 7) 1, type := 0, pos := "l06_signature.go:69", after := #[{ on := 14, ground := Ground.guard }], guard := some (14, false) }) (v := ?vc15) rfl (by kernel_rfl) (by kernel_rfl) (by kernel_rfl) (fun _ _ _ h => h) (Or.inl ⟨by rfl, ?yc15⟩) hHeld ?rc15
          case yc15 => (intro w hSw; (try dsimp only at hSw); go_simp; try with_reducible rfl)
          (try simp only [Act.put, List.setIfInBounds_toArray, List.set_cons_zero, List.set_cons_succ])
          refine wpAnyH_take (i := 16) (oi := { dst := some 63, op := Op.load 35 (Operand.tmp 62), type := 35, pos := "l06_signature.go:69", after := #[{ on := 15, ground := Ground.data }, { on := 14, ground := Ground.guard }], guard := some (14, false) }) (v := ?vc16) rfl (by kernel_rfl) (by kernel_rfl) (by kernel_rfl) (fun _ _ _ h => h) (Or.inl ⟨by rfl, ?yc16⟩) hHeld ?rc16
          case yc16 => (intro w hSw; (try dsimp only at hSw); go_simp; try with_reducible rfl)
          (try simp only [Act.put, List.setIfInBounds_toArray, List.set_cons_zero, List.set_cons_succ])
          refine wpAnyH_take (i := 17) (oi := { dst := some 64, op := Op.move (Operand.tmp 9), type := 3, pos := "l06_signature.go:69", after := #[{ on := 14, ground := Ground.guard }], guard := some (14, false) }) (v := ?vc17) rfl (by kernel_rfl) (by kernel_rfl) (by kernel_rfl) (fun _ _ _ h => h) (Or.inl ⟨by rfl, ?yc17⟩) hHeld ?rc17
          case yc17 => (intro w hSw; (try dsimp only at hSw); go_simp; try with_reducible rfl)
          (try simp only [Act.put, List.setIfInBounds_toArray, List.set_cons_zero, List.set_cons_succ])
          refine wpAnyH_take (i := 18) (oi := { dst := some 65, op := Op.indexAddr 35 (Operand.tmp 63) (Operand.tmp 64), type := 0, pos := "l06_signature.go:69", after := #[{ on := 16, ground := Ground.data }, { on := 17, ground := Ground.data }, { on := 14, ground := Ground.guard }], guard := some (14, false) }) (v := ?vc18) rfl (by kernel_rfl) (by kernel_rfl) (by kernel_rfl) (fun _ _ _ h => h) (Or.inl ⟨by rfl, ?yc18⟩) hHeld ?rc18
          case yc18 => (intro w hSw; (try dsimp only at hSw); go_simp; try with_reducible rfl)
          (try simp only [Act.put, List.setIfInBounds_toArray, List.set_cons_zero, List.set_cons_succ])
          refine wpAnyH_take (i := 19) (oi := { dst := some 66, op := Op.load 9 (Operand.tmp 65), type := 9, pos := "l06_signature.go:69", after := #[{ on := 18, ground := Ground.data }, { on := 14, ground := Ground.guard }], guard := some (14, false) }) (v := ?vc19) rfl (by kernel_rfl) (by kernel_rfl) (by kernel_rfl) (fun _ _ _ h => h) (Or.inl ⟨by rfl, ?yc19⟩) hHeld ?rc19
          case yc19 => (intro w hSw; (try dsimp only at hSw); go_simp; try with_reducible rfl)
          (try simp only [Act.put, List.setIfInBounds_toArray, List.set_cons_zero, List.set_cons_succ])
          refine wpAnyH_take (i := 20) (oi := { dst := some 67, op := Op.binOp BinOp.eql 9 (Operand.tmp 66) (Operand.const (Value.string ⟨#[]⟩)) 9, type := 4, pos := "l06_signature.go:69", after := #[{ on := 19, ground := Ground.data }, { on := 14, ground := Ground.guard }], guard := some (14, false) }) (v := ?vc20) rfl (by kernel_rfl) (by kernel_rfl) (by kernel_rfl) (fun _ _ _ h => h) (Or.inl ⟨by rfl, ?yc20⟩) hHeld ?rc20
          case yc20 => (intro w hSw; (try dsimp only at hSw); go_simp; try with_reducible rfl)
          (try simp only [Act.put, List.setIfInBounds_toArray, List.set_cons_zero, List.set_cons_succ])
          refine wpAnyH_take (i := 21) (oi := { dst := some 68, op := Op.pick (Operand.tmp 61) (Operand.const (Value.bool true)) (Operand.tmp 67), type := 4, pos := "l06_signature.go:69", after := #[{ on := 14, ground := Ground.data }, { on := 20, ground := Ground.data }], guard := none }) (v := ?vc21) rfl (by kernel_rfl) (by kernel_rfl) (by kernel_rfl) (fun _ _ _ h => h) (Or.inl ⟨by rfl, ?yc21⟩) hHeld ?rc21
          case yc21 => (intro w hSw; (try dsimp only at hSw); go_simp; try with_reducible rfl)
          (try simp only [Act.put, List.setIfInBounds_toArray, List.set_cons_zero, List.set_cons_succ])
          refine wpAnyH_done (by kernel_rfl) ?_ _
          go_wp2_with fail
          go_meet
          exact ⟨rfl, Lib.hid (by (repeat' (first | assumption | exact Below.refl _ _ | refine Below.drew ?_ | refine bel_two ?_ (by assumption))))⟩
        obtain ⟨rfl, HBD⟩ := hcut
        clear x1 x3 y0 y1 g0 z0 z1 z2 z3
        go_wp2
        go_roundw
        case rel => exact ⟨k + 1, by omega, by go_num, HNX, HBD⟩
        case measure => simp [intOf]; omega
      · have HE : Hid (sortT ds vs (.node 2 nn s xs) = dr) := Lib.hid (by
          rw [HND.out]
          refine head_good _ _ HFD.out (by rw [List.length_map]; show das.length = _; rw [← HQ.out, ← HM.out]) (fun j z a' hz ha' => ?_)
          rw [List.getElem?_map] at hz
          cases hx : xs[j]? with
          | none => rw [hx] at hz; simp at hz
          | some t =>
            rw [hx] at hz
            simp at hz
            subst hz
            have hj := (List.getElem?_eq_some_iff.1 hx).1
            exact HG.out j t a' (by have := HM.out; omega) hx ha')
        clear k1 f0 f1 hst
        go_wp2
        go_ret
        exact ⟨by rw [HE.out]; rfl, HBW.out⟩

theorem sSortT_any (ps : List ByteArray) (ds : List OpD) (vs : List (ByteArray × ByteArray)) (x u : Value) (lo h : Nat) (hn : ds.length ≤ 1048576) (ha : ∀ d ∈ ds, d.args.length ≤ 1048576) (hvl : vs.length ≤ 1048576) : SortAt ps ds vs x u lo h :=
  by_height (fun h => sSortT_step ps ds vs x u lo h hn ha hvl) h
end Go.Proofs.Ytidbokheeieifaa
