/-
  spec.l4Walk and spec.PositionsOf: all positions of a term, in order.
-/
import Derived.Test.YtcmhiindjponcaaDoorQ6
import Derived.Test.YtcmhiindjponcaaDoorQ4
import Derived.Deep.RegionHeld3
import Derived.Deep.DeepCutAuto
import Derived.Deep.AppendLies
namespace Go.Proofs.YtcmhiindjponcaaDoor
open Go.RowKit

theorem infoRow : (Tryd.prog.info? 33).map (fun i => (i.zero, i.size, i.bytes)) = some (some (.slice none 0 0), 1, 24) := by kernel_rfl
theorem heap_fresh (w : World) (o : Obj) : (w.alloc o).heap[w.heap.size]? = some o := by
  show (w.heap.push o)[w.heap.size]? = _
  simp
theorem posS_len (ys : List T) : (posS 0 ys).length = cS ys := by
  have h := posT_length (.node 0 0 ByteArray.empty ys)
  rw [posT_node, cT_node, List.length_cons] at h
  omega
theorem heap_freshE (w : World) (o : Obj) {n : Nat} (h : n = w.heap.size) : (w.alloc o).heap[n]? = some o := by subst h; exact heap_fresh w o
theorem heap_freshD (w : World) (o : Obj) {n : Nat} (h : n = w.heap.size) : (w.alloc o).drew.heap[n]? = some o := heap_freshE w o h
theorem heap_oldD (w : World) (o o2 : Obj) {n : Nat} (h : n = w.heap.size) : ((w.alloc o).alloc o2).drew.heap[n]? = some o := (Below.heap_alloc _ _ _ (by rw [h]; simp)).trans (heap_freshE w o h)
theorem lit_own {X : World} {B N : Nat} (hX : X.heap[N]? = some (.cells #[] 3 (0, 0))) (hB : B ≤ N) : X.ownsRow B 3 1 (.slice (some ⟨N, 0, none⟩) 0 0) 0 [] :=
  ⟨rfl, Or.inr ⟨N, 0, #[], rfl, hB, hX, Nat.le_refl _, Nat.zero_le _, rfl, rfl⟩⟩
theorem bel_al1 (w : World) (o : Obj) : Below w.heap.size w (w.alloc o).drew := ((Below.refl _ _).alloc (Nat.le_refl _) o).drew
theorem bel_al2 (w : World) (o o2 : Obj) : Below w.heap.size w ((w.alloc o).alloc o2).drew := (((Below.refl _ _).alloc (Nat.le_refl _) o).alloc (by simp) o2).drew
theorem lit_cell {X : World} {L : Nat} {x : Value} {t : TypeId} (hX : X.heap[L]? = some (.cells #[x] t (0, 0))) : ∀ (j : Nat) (u : Value), [x][j]? = some u → X.cell? ((⟨L, 0, none⟩ : Addr).add j) = some u := by
  intro j u hj
  cases j with
  | zero => simp at hj; subst hj; rw [Addr.add_lit, cell_of_row X L 0 _ _ _ hX]; rfl
  | succ j => simp at hj
theorem lit_news {X w28 : World} {L N : Nat} {x : Value} {t : TypeId} (hX : X.heap[L]? = some (.cells #[x] t (0, 0))) (hg : X.grownBy w28 (Value.slice (some ⟨N, 0, none⟩) 0 0).ownBlock) (hne : L ≠ N) : ∀ (j : Nat) (u : Value), [x][j]? = some u → w28.cell? ((⟨L, 0, none⟩ : Addr).add j) = some u := by
  intro j u hj
  have h2 : w28.heap[L]? = some (.cells #[x] t (0, 0)) := (hg.block L (Array.getElem?_eq_some_iff.1 hX).1 (fun e => by simp [Value.ownBlock] at e; exact hne e)).trans hX
  cases j with
  | zero => simp at hj; subst hj; rw [Addr.add_lit, cell_of_row w28 L 0 _ _ _ h2]; rfl
  | succ j => simp at hj
theorem al_belw (w : World) (o : Obj) : Below w.heap.size w (w.alloc o) := (Below.refl _ _).alloc (Nat.le_refl _) o
theorem cell_one_newW (w : World) (x : Value) (t : TypeId) : ∀ j u, [x][j]? = some u → (w.alloc (.cells #[x] t)).cell? ((⟨w.heap.size, 0, none⟩ : Addr).add j) = some u := by
  intro j u hj
  cases j with
  | zero => simp at hj; subst hj; rw [Addr.add_lit, World.cell?_alloc_mark w _ t (0, 0) _]; rfl
  | succ j => simp at hj
theorem dT_at (xs : List T) (i : Nat) (x : T) (h : xs[i]? = some x) (k n : Int) (s : ByteArray) : dT x + 1 ≤ dT (.node k n s xs) := by
  rw [dT_kT (T.node k n s xs)]
  have : x ∈ xs := List.mem_of_getElem? h
  have hd : dT x ≤ dS xs := by
    clear h
    induction xs with
    | nil => cases this
    | cons y ys ih =>
      rw [dS_cons]
      rcases List.mem_cons.1 this with rfl | h
      · omega
      · have := ih h; omega
  exact Nat.succ_le_succ hd
theorem posS_take (xs : List T) (k : Nat) (x : T) (ps : List Int) (h : xs[k]? = some x) : (posS 0 (xs.take (k + 1))).map (ps ++ ·) = (posS 0 (xs.take k)).map (ps ++ ·) ++ (posT x).map ((ps ++ [(k : Int)]) ++ ·) := by
  have hk := (List.getElem?_eq_some_iff.1 h).1
  rw [tk xs k x h, posS_snoc, List.map_append, List.map_map]
  congr 2
  funext q
  simp [List.length_take, Nat.min_eq_left (Nat.le_of_lt hk)]

set_option maxRecDepth 100000 in
set_option maxHeartbeats 1000000 in
theorem walk_step (h : Nat) (IH : ∀ h', h = h' + 1 → WalkAt h') : WalkAt h := by
  intro w0 v t av lv g c ps pss w ht h0w hav hng hlist hw hd hcc
  obtain ⟨k, n, s, u, xs, rfl, rfl, hs, ha⟩ := ht
  obtain ⟨a, cap, rfl⟩ := ha.slice
  obtain ⟨i0, hi, hz0, hz1, hz2⟩ := info_parts infoInt
  have HI := Lib.hid hi; clear hi
  have HZ0 := Lib.hid hz0; clear hz0
  have HZ1 := Lib.hid hz1; clear hz1
  have HZ2 := Lib.hid hz2; clear hz2
  obtain ⟨j0, hi, hz0, hz1, hz2⟩ := info_parts infoRow
  have KI := Lib.hid hi; clear hi
  have KZ0 := Lib.hid hz0; clear hz0
  have KZ1 := Lib.hid hz1; clear hz1
  have KZ2 := Lib.hid hz2; clear hz2
  obtain ⟨eav, hgl, hrow⟩ := hav
  subst eav
  obtain ⟨m, hm⟩ : ∃ m, m = xs.length := ⟨_, rfl⟩
  rw [← hm] at ha ⊢
  obtain ⟨W1, hW1⟩ : ∃ W1, W1 = boxed w k n s (.slice a m cap) := ⟨_, rfl⟩
  have hb1 : Below w.heap.size w W1 := by rw [hW1]; exact boxed_below _ _ _ _ _
  have hz1 : W1.heap.size = w.heap.size + 1 := by rw [hW1]; simp
  have hr0 : W1.heap[w.heap.size]? = some (.cells #[.int .i64 k, .int .i64 n, .string s, .slice a m cap] 26 (0, 0)) := by rw [hW1]; exact heap_fresh w _
  obtain ⟨la, lc, rfl⟩ : ∃ a c, lv = .slice a pss.length c := by
    obtain ⟨vs, ho, _⟩ := hlist
    rcases ho.2 with ⟨rfl, h0⟩ | ⟨g, cap, cur, rfl, _⟩
    · exact ⟨none, 0, by rw [h0]⟩
    · exact ⟨_, _, rfl⟩
  have h01 : Below w0.heap.size w0 W1 := h0w.trans (hb1.mono h0w.size)
  have hrow1 : ∀ (j : Nat) (u : Value), (ps.map iv)[j]? = some u → W1.cell? ⟨g, j, none⟩ = some u := fun j u hu => cell_on hb1 (hrow j u hu)
  obtain ⟨q0, hq0⟩ : ∃ q, q = ps.length := ⟨_, rfl⟩
  obtain ⟨m0, hm0⟩ : ∃ m, m = pss.length := ⟨_, rfl⟩
  have hql : q0 ≤ 4194304 := by omega
  have hml : m0 ≤ 4194304 := by omega
  have hxl : m ≤ 1048576 := by rw [wT_node] at hw; omega
  rw [← hq0, ← hm0]
  rw [← hm0] at hlist hng
  have HM := Lib.hid hm; clear hm
  have HQ0 := Lib.hid hq0; clear hq0
  have HM0 := Lib.hid hm0; clear hm0
  have HR1 := Lib.hid hrow1
  have HLI := Lib.hid hlist
  have HNG := Lib.hid hng
  have HA := Lib.hid ha
  have HWC := Lib.hid (And.intro hw (And.intro hd hcc))
  have H01 := Lib.hid h01
  have HB1 := Lib.hid hb1
  have HR0 := Lib.hid hr0
  have HLB : Hid (∀ kk, (Value.slice la m0 lc).ownBlock = some kk → kk < w.heap.size) := Lib.hid (by
    obtain ⟨vs', ho', _⟩ := hlist
    exact fun kk hk => (ho'.lt kk hk).2)
  have HZ1w := Lib.hid hz1
  have HGL := Lib.hid hgl
  have HIH := Lib.hid IH
  clear hlist hng ha hw hd hcc h01 hr0 IH hrow hrow1 h0w
  have how0 : (W1.alloc (.cells #[] 3)).ownsRow (w.heap.size + 1) 3 1 (.slice (some ⟨w.heap.size + 1, 0, none⟩) 0 0) 0 [] := by
    have := World.ownsRow_lit (base := w.heap.size + 1) (size := 1) (e := 3) W1 #[] 0 (by omega) (by decide) rfl
    rw [hz1] at this
    exact this
  unfold boxed at hW1
  rw [hW1] at how0
  go_enter Tryd.func46, Tryd.ntmps46
  go_wp2_with (first | (at_builtin; refine wpList_append_own _ rfl (.tmp 9) (.tmp 10) 33 rfl (w.heap.size + 1) 3 i0 (iv 0) 1 8 Tryd.underlying33 HI.out HZ0.out HZ1.out HZ2.out rfl (by decide) _ _ _ rfl how0 ⟨g, 0, none⟩ q0 c (ps.map iv) rfl ?b1 ?b2 ?b3 ?b4 ?b5 ?b6 ?_))
  case b1 => simp [HQ0.out]
  case b2 => intro j u hj; rw [Addr.add_lit, Nat.zero_add, ← hW1]; exact cell_on ((Below.refl _ _).alloc (Nat.le_refl _) _) (HR1.out j u hj)
  case b3 => intro u hu; simp at hu; obtain ⟨z, _, rfl⟩ := hu; rfl
  case b4 => unfold maxLen; omega
  case b5 => omega
  case b6 => simp
  rw [← hW1]
  intro v2 w2 hown2 hgr2 hnil2
  have hW12 : Below W1.heap.size W1 w2 := (al_belw W1 _).grown hgr2 (by simp) (fun kk hk => by simp [Value.ownBlock] at hk; omega)
  have hw2 : Below w.heap.size w w2 := HB1.out.trans (hW12.mono HB1.out.size)
  have hlist2 := HLI.out
  rw [HM0.out] at hlist2
  obtain ⟨vs, ho, hri⟩ := hlist2.grew hw2
  have hlb : ∀ kk, (Value.slice la pss.length lc).ownBlock = some kk → kk < w.heap.size := by
    obtain ⟨vs', ho', _⟩ := hlist2
    exact fun kk hk => (ho'.lt kk hk).2
  obtain ⟨va, vc, rfl⟩ : ∃ a c, v2 = .slice a q0 c := by
    rcases hown2.2 with ⟨rfl, h0⟩ | ⟨g, cap, cur, rfl, _⟩
    · exact ⟨none, 0, by rw [h0]⟩
    · exact ⟨_, _, rfl⟩
  have hi2 : w2.ownsRow w0.heap.size 3 1 (.slice va q0 vc) ps.length (ps.map iv) := own_low (by rw [← HQ0.out]; simpa using hown2) (by have := H01.out.size; omega)
  have hb2 : ∀ kk, (Value.slice va q0 vc).ownBlock = some kk → kk < w2.heap.size ∧ NotOwn (.slice la pss.length lc) kk := fun kk hk => by
    have h1 := hown2.lt kk hk
    refine ⟨h1.2, fun e => ?_⟩
    have := hlb kk e.symm
    omega
  have HPU : Hid (∀ (w3 : World) (o : Obj) (g3 cap3 : Nat), w3.ownsRow w0.heap.size 33 1 (.slice (some ⟨g3, 0, none⟩) (pss.length + 1) cap3) (pss.length + 1) (vs ++ [.slice va q0 vc]) → (w2.alloc o).grownBy w3 (Value.slice la pss.length lc).ownBlock → ((Value.slice la pss.length lc).ownBlock = some g3 ∨ g3 = (w2.alloc o).heap.size) →
      ListI w3 w0.heap.size (.slice (some ⟨g3, 0, none⟩) (pss.length + 1) cap3) (pss ++ [ps]) ∧ Grew (.slice la pss.length lc) W1 (.slice (some ⟨g3, 0, none⟩) (pss.length + 1) cap3) w3) := Lib.hid (fun w3 o g3 cap3 h1 h2 h3 => by
    obtain ⟨q1, q2⟩ := ListI.push hri hi2 hb2 h1 h2 h3
    exact ⟨q1, ((Grew.refl _ _ _ rfl).below hW12).trans q2⟩)
  rw [← HM0.out] at ho HPU
  have HO2 := Lib.hid ho
  have HW2 : Hid (Below w0.heap.size w0 w2) := Lib.hid (H01.out.trans (hW12.mono H01.out.size))
  clear ho hri hi2 hb2 hlist2 hown2 hgr2 hnil2 hW12 hw2 hlb
  go_wp2_with (first | (at_builtin; refine wpList_append_lies _ rfl (.tmp 8) (.tmp 12) 28 rfl w0.heap.size 33 j0 (.slice none 0 0) 1 24 Tryd.underlying28 KI.out KZ0.out KZ1.out KZ2.out rfl (by decide) _ _ _ rfl (HO2.out.alloc _) ⟨w2.heap.size, 0, none⟩ 1 1 [.slice va q0 vc] ?c0 rfl ?c1 ?c2 (by decide) ?c3 ?c4 ?c5 _ rfl ?_))
  case c0 => rfl
  case c1 => exact cell_one_newW _ _ _
  case c2 => intro u hu; simp at hu; subst hu; rfl
  case c3 => unfold maxLen; omega
  case c4 => omega
  case c5 => have := HW2.out.size; simp; omega
  intro g3 cap3 w3 hown3 hgr3 hat3 hlt3
  have hW3 : Below w0.heap.size w0 w3 := (HW2.out.alloc HW2.out.size _).grown hgr3 (by have := HW2.out.size; simp; omega) (fun kk hk => (HO2.out.lt kk hk).1)
  obtain ⟨hl3, hg3⟩ := HPU.out w3 _ g3 cap3 hown3 hgr3 (by simpa using hat3)
  have HL3 := Lib.hid hl3
  have HG3 := Lib.hid hg3
  have HW3 := Lib.hid hW3
  clear hown3 hgr3 hat3 hlt3 hl3 hg3 hW3
  go_wp2
  go_loopw [2, 7] (fun v' i wr => ∃ j : Nat, j ≤ m ∧ i = .int .i64 j ∧ Hid (ListI wr w0.heap.size v' (pss ++ [ps] ++ (posS 0 (xs.take j)).map (ps ++ ·))) ∧ Hid (Grew (.slice la m0 lc) W1 v' wr) ∧ Hid (Below w0.heap.size w0 wr)) (fun _ i _ => m - (intOf i).toNat)
  case atStart => exact ⟨0, Nat.zero_le _, rfl, Lib.hid (by simpa [posS_nil] using HL3.out), HG3, HW3⟩
  case round =>
    obtain ⟨j, hj, rfl, HL, HG, HB⟩ := hrel
    by_cases hlt : j < m
    · obtain ⟨x, hx⟩ : ∃ x, xs[j]? = some x := ⟨_, List.getElem?_eq_getElem (by have := HM.out; omega)⟩
      have hA := HA.out
      rw [HM.out] at hA
      obtain ⟨h', b, o, k2, n2, s2, xs2, u2, e, rfl, rfl, hs2, d0, d1, d2, d3, har⟩ := hA.at hx
      obtain ⟨a2, cap2, rfl⟩ := har.slice
      have hwx := wT_at xs j _ hx
      have hcx := cS_take xs (j + 1)
      rw [tk xs j _ hx, cS_snoc] at hcx
      have hdx := dT_at xs j _ hx k n s
      have hps := posS_take xs j _ ps hx
      obtain ⟨pl, hpl⟩ : ∃ pl, pl = pss ++ [ps] ++ (posS 0 (xs.take j)).map (ps ++ ·) := ⟨_, rfl⟩
      have hlw := HWC.out
      have hpl2 : pl.length + cT (.node k2 n2 s2 xs2) ≤ 4194304 := by
        have h1 := posS_len (xs.take j)
        have h2 := hlw.2.2
        rw [cT_node] at h2
        rw [hpl, List.length_append, List.length_append, List.length_map, h1, List.length_singleton]
        omega
      rw [← hpl] at HL
      have hpl0 : pl.length ≠ 0 := by rw [hpl]; simp
      have HX0 := HL.out
      obtain ⟨vsl, hol, hril⟩ := HX0
      have hltv := hol.lt
      rcases hol.2 with ⟨_, h0⟩ | ⟨gl, cl, cur, e1, _⟩
      · exact absurd h0 hpl0
      subst e1
      have hglw := hltv gl rfl
      clear hol hril hltv
      have HPE := Lib.hid hpl
      have HPL := Lib.hid (And.intro hpl2 hps)
      have HE := Lib.hid e
      have HAR := Lib.hid (And.intro hs2 har)
      have HWX : Hid (wT (.node k2 n2 s2 xs2) ≤ 1048576 ∧ q0 + 1 + dT (.node k2 n2 s2 xs2) ≤ 4194304) := Lib.hid (by
        obtain ⟨h1, h2, _⟩ := hlw
        rw [wT_node] at h1
        have := HQ0.out
        omega)
      have hngl : NotOwn (.slice (some ⟨gl, 0, none⟩) pl.length cl) g := notOwn_old HG.out.2.2 (by have := HZ1w.out; have := HGL.out; omega) HNG.out
      have hbox : wr.heap[w.heap.size]? = some (.cells #[.int .i64 k, .int .i64 n, .string s, .slice (some ⟨b, o, none⟩) m cap] 26 (0, 0)) :=
        (HG.out.2.1 _ (by have := HZ1w.out; omega) (fun e => by have := HLB.out _ e.symm; omega)).trans HR0.out
      have hatg : wr.heap[g]? = W1.heap[g]? := HG.out.2.1 g (by have := HZ1w.out; have := HGL.out; omega) HNG.out
      have HAT : Hid (∀ Y, Below wr.heap.size wr Y → ∀ (j' : Nat) (u' : Value), (ps.map iv)[j']? = some u' → Y.cell? ⟨g, j', none⟩ = some u') := Lib.hid (fun Y hY j' u' hu => by
        have h1 := HR1.out j' u' hu
        have h2 : wr.cell? ⟨g, j', none⟩ = some u' := by rw [World.cell?_of_block hatg]; exact h1
        exact cell_on hY h2)
      have HDD := Lib.hid (And.intro d0 (And.intro d1 (And.intro d2 d3)))
      have HKC : Hid (∀ (v'' : Value) (Y : World), Grew (.slice la m0 lc) W1 v'' Y → Below w0.heap.size w0 Y → (Y.cell? ⟨w.heap.size, 3, none⟩ = some (.slice (some ⟨b, o, none⟩) m cap) ∧ Y.cell? ⟨b, o + j * 4, none⟩ = some (.int .i64 k2) ∧ Y.cell? ⟨b, o + j * 4 + 1, none⟩ = some (.int .i64 n2) ∧
          Y.cell? ⟨b, o + j * 4 + 2, none⟩ = some (.string s2) ∧ Y.cell? ⟨b, o + j * 4 + 3, none⟩ = some (.slice a2 xs2.length cap2))) := Lib.hid (fun v'' Y hG hB => by
        obtain ⟨d0, d1, d2, d3⟩ := HDD.out
        have h1 : Y.heap[w.heap.size]? = _ := (hG.2.1 _ (by have := HZ1w.out; omega) (fun e => by have := HLB.out _ e.symm; omega)).trans HR0.out
        have h2 := cell_of_row Y w.heap.size 3 _ _ _ h1
        exact ⟨by simpa using h2, cell_on hB d0, cell_on hB d1, cell_on hB d2, cell_on hB d3⟩)
      have HKW : Hid (∀ Y, Below wr.heap.size wr Y → (Y.cell? ⟨w.heap.size, 3, none⟩ = some (.slice (some ⟨b, o, none⟩) m cap) ∧ Y.cell? ⟨b, o + j * 4, none⟩ = some (.int .i64 k2) ∧ Y.cell? ⟨b, o + j * 4 + 1, none⟩ = some (.int .i64 n2) ∧
          Y.cell? ⟨b, o + j * 4 + 2, none⟩ = some (.string s2) ∧ Y.cell? ⟨b, o + j * 4 + 3, none⟩ = some (.slice a2 xs2.length cap2))) := Lib.hid (fun Y hY => HKC.out _ Y (HG.out.below hY) (HB.out.trans (hY.mono HB.out.size)))
      have HCALL : Hid (∀ (Y : World) (g31 c31 : Nat), Below wr.heap.size wr Y → Y.ownsRow wr.heap.size 3 1 (.slice (some ⟨g31, 0, none⟩) (q0 + 1) c31) (q0 + 1) (ps.map iv ++ [iv j]) →
          Calls Tryd.prog 46 #[tv k2 n2 s2 (.slice a2 xs2.length cap2), .slice (some ⟨g31, 0, none⟩) (q0 + 1) c31, .slice (some ⟨gl, 0, none⟩) pl.length cl] Y (fun e w' => ∃ v'', e = .returned v'' ∧
            (ListI w' w0.heap.size v'' (pss ++ [ps] ++ (posS 0 (xs.take (j + 1))).map (ps ++ ·)) ∧ Grew (.slice la m0 lc) W1 v'' w' ∧ Below w0.heap.size w0 w'))) := Lib.hid (fun Y g31 c31 hY hown => by
        have hge := hown.lt g31 rfl
        have hown' : Y.ownsRow wr.heap.size 3 1 (.slice (some ⟨g31, 0, none⟩) (q0 + 1) c31) (q0 + 1) ((ps ++ [(j : Int)]).map iv) := by simpa using hown
        refine (HIH.out h' HE.out w0 _ (.node k2 n2 s2 xs2) _ _ g31 c31 (ps ++ [(j : Int)]) pl Y ⟨k2, n2, s2, _, xs2, rfl, rfl, HAR.out.1, HAR.out.2⟩ (HB.out.trans (hY.mono HB.out.size)) (RowAtI.of_owns hown' (by rw [HQ0.out]; simp)) (fun e => ?_) (HL.out.grew hY) HWX.out.1 (by rw [List.length_append, List.length_singleton, ← HQ0.out]; exact HWX.out.2) HPL.out.1).mono ?_
        · simp [Value.ownBlock] at e; omega
        · rintro e w' ⟨v'', rfl, hl, hg, hb⟩
          refine ⟨v'', rfl, ?_, (HG.out.below hY).trans hg, hb⟩
          have h1 := HPL.out.2
          rw [h1, ← List.append_assoc, ← HPE.out]
          exact hl)
      obtain ⟨c3, e0, e1, e2, e3⟩ := HKW.out _ (Below.refl _ _)
      clear d0 d1 d2 d3 hA har hs2 hwx hcx hdx hps hpl2 hpl0 hlw hbox hatg e hpl
      have hql1 : q0 + 1 ≤ 4194305 := by omega
      go_wp2
      by_cases hq : q0 = 0
      · subst hq
        have hps0 : ps = [] := List.eq_nil_of_length_eq_zero HQ0.out.symm
        go_region_held3 (fun w' => w'.cell? ⟨w.heap.size, 3, none⟩ = some (.slice (some ⟨b, o, none⟩) m cap) ∧ w'.cell? ⟨b, o + j * 4, none⟩ = some (.int .i64 k2) ∧ w'.cell? ⟨b, o + j * 4 + 1, none⟩ = some (.int .i64 n2) ∧
            w'.cell? ⟨b, o + j * 4 + 2, none⟩ = some (.string s2) ∧ w'.cell? ⟨b, o + j * 4 + 3, none⟩ = some (.slice a2 xs2.length cap2))
          (first | exact HKW.out _ (Below.drew (Below.refl _ _)) | exact HKW.out _ (bel_al1 _ _) | exact HKW.out _ (bel_al2 _ _ _) | exact HKC.out _ _ hres.2.1 hres.2.2 | exact HKW.out _ hB31)
          (first
            | (refine step_append_lies _ rfl (.tmp 28) (.tmp 30) 33 rfl wr.heap.size 3 i0 (iv 0) 1 8 Tryd.underlying33 HI.out HZ0.out HZ1.out HZ2.out rfl (by decide) (.slice (some ⟨wr.heap.size, 0, none⟩) 0 0) 0 [] rfl (lit_own (by first | exact heap_freshD _ _ (by first | rfl | simp) | exact heap_oldD _ _ _ (by first | rfl | simp)) (by first | exact Nat.le_refl _ | omega)) ⟨wr.heap.size + 1, 0, none⟩ 1 1 [iv j] rfl rfl (lit_cell (t := 3) (by first | exact heap_freshD _ _ (by first | rfl | simp) | exact heap_oldD _ _ _ (by first | rfl | simp))) (by intro u hu; simp at hu; subst hu; rfl) (by decide) (by decide) (by decide) (bel_al2 wr _ _).size _ rfl ?_; intro g31 c31 w31 ho31 hg31 ha31 hl31; have hB31 : Below wr.heap.size wr w31 := (bel_al2 wr _ _).grown hg31 (bel_al2 wr _ _).size (fun kk e => by simp [Value.ownBlock] at e; omega))
            | (refine step_append_lies _ rfl (.tmp 28) (.tmp 30) 33 rfl wr.heap.size 3 i0 (iv 0) 1 8 Tryd.underlying33 HI.out HZ0.out HZ1.out HZ2.out rfl (by decide) (.slice (some ⟨wr.heap.size + 1, 0, none⟩) 0 0) 0 [] rfl (lit_own (by first | exact heap_freshD _ _ (by first | rfl | simp) | exact heap_oldD _ _ _ (by first | rfl | simp)) (by first | exact Nat.le_refl _ | omega)) ⟨wr.heap.size, 0, none⟩ 1 1 [iv j] rfl rfl (lit_cell (t := 3) (by first | exact heap_freshD _ _ (by first | rfl | simp) | exact heap_oldD _ _ _ (by first | rfl | simp))) (by intro u hu; simp at hu; subst hu; rfl) (by decide) (by decide) (by decide) (bel_al2 wr _ _).size _ rfl ?_; intro g31 c31 w31 ho31 hg31 ha31 hl31; have hB31 : Below wr.heap.size wr w31 := (bel_al2 wr _ _).grown hg31 (bel_al2 wr _ _).size (fun kk e => by simp [Value.ownBlock] at e; omega))
            | (go_at_call 46; refine (HCALL.out _ _ _ hB31 (by simpa [hps0] using ho31)).mono ?_; rintro e w5 ⟨v5, rfl, hres⟩))
        all_goals (
          have HRS := Lib.hid hres
          clear hres c3 e0 e1 e2 e3
          go_wp2
          go_roundw
          case rel => exact ⟨j + 1, by omega, by go_num, Lib.hid HRS.out.1, Lib.hid HRS.out.2.1, Lib.hid HRS.out.2.2⟩
          case measure => simp [intOf]; omega)
      · have hq1 : 0 < q0 := by omega
        go_region_held3 (fun w' => w'.cell? ⟨w.heap.size, 3, none⟩ = some (.slice (some ⟨b, o, none⟩) m cap) ∧ w'.cell? ⟨b, o + j * 4, none⟩ = some (.int .i64 k2) ∧ w'.cell? ⟨b, o + j * 4 + 1, none⟩ = some (.int .i64 n2) ∧
            w'.cell? ⟨b, o + j * 4 + 2, none⟩ = some (.string s2) ∧ w'.cell? ⟨b, o + j * 4 + 3, none⟩ = some (.slice a2 xs2.length cap2))
          (first | exact HKW.out _ (Below.drew (Below.refl _ _)) | exact HKW.out _ (bel_al1 _ _) | exact HKW.out _ (bel_al2 _ _ _) | exact HKC.out _ _ hres.2.1 hres.2.2 | exact HKW.out _ hB31 | exact HKW.out _ hB28 | exact HKW.out _ (hB28.alloc hB28.size _))
          (first
            | (refine step_append_lies _ rfl (.tmp 26) (.tmp 27) 33 rfl wr.heap.size 3 i0 (iv 0) 1 8 Tryd.underlying33 HI.out HZ0.out HZ1.out HZ2.out rfl (by decide) (.slice (some ⟨_, 0, none⟩) 0 0) 0 [] rfl (lit_own (by first | exact heap_freshD _ _ (by first | rfl | simp) | exact heap_oldD _ _ _ (by first | rfl | simp) | exact heap_freshE _ _ (by first | rfl | simp) | exact (Below.heap_alloc _ _ _ (by simp)).trans (heap_freshE _ _ (by first | rfl | simp))) (by first | exact Nat.le_refl _ | omega | (simp; done) | (simp; omega))) ⟨g, 0, none⟩ q0 c (ps.map iv) rfl (by simp [HQ0.out]) (fun j' u' hu => by rw [Addr.add_lit, Nat.zero_add]; exact HAT.out _ (by first | exact bel_al1 _ _ | exact bel_al2 _ _ _) j' u' hu) (by intro u hu; simp at hu; obtain ⟨z, _, rfl⟩ := hu; rfl) hq1 (by unfold maxLen; omega) (by omega) (by first | exact Nat.le_refl _ | omega | (simp; done) | (simp; omega)) _ rfl ?_; intro g28 c28 w28 ho28x hg28 ha28 hl28; have ho28 : w28.ownsRow wr.heap.size 3 1 (.slice (some ⟨g28, 0, none⟩) q0 c28) q0 (ps.map iv) := (by simpa using ho28x); have hB28 : Below wr.heap.size wr w28 := (by first | exact (bel_al1 wr _).grown hg28 (bel_al1 wr _).size (fun kk e => by simp [Value.ownBlock] at e; omega) | exact (bel_al2 wr _ _).grown hg28 (bel_al2 wr _ _).size (fun kk e => by simp [Value.ownBlock] at e; omega)))
            | (refine step_append_lies _ rfl (.tmp 28) (.tmp 30) 33 rfl wr.heap.size 3 i0 (iv 0) 1 8 Tryd.underlying33 HI.out HZ0.out HZ1.out HZ2.out rfl (by decide) (.slice (some ⟨g28, 0, none⟩) q0 c28) q0 (ps.map iv) (by first | rfl | (show Value.slice (some ⟨g28, 0, none⟩) (0 + q0) c28 = _; rw [Nat.zero_add])) (by first | exact ho28 | exact ho28.alloc _) ⟨w28.heap.size, 0, none⟩ 1 1 [iv j] rfl rfl (cell_one_newW _ _ _) (by intro u hu; simp at hu; subst hu; rfl) (by decide) (by unfold maxLen; omega) (by omega) (by first | exact hB28.size | exact (hB28.alloc hB28.size _).size) _ rfl ?_; intro g31 c31 w31 ho31 hg31 ha31 hl31; have hB31 : Below wr.heap.size wr w31 := (by first | exact hB28.grown hg31 hB28.size (fun kk e => (ho28.lt kk e).1) | exact (hB28.alloc hB28.size _).grown hg31 (hB28.alloc hB28.size _).size (fun kk e => (ho28.lt kk e).1)))
            | (refine step_append_lies _ rfl (.tmp 28) (.tmp 30) 33 rfl wr.heap.size 3 i0 (iv 0) 1 8 Tryd.underlying33 HI.out HZ0.out HZ1.out HZ2.out rfl (by decide) (.slice (some ⟨g28, 0, none⟩) q0 c28) q0 (ps.map iv) (by first | rfl | (show Value.slice (some ⟨g28, 0, none⟩) (0 + q0) c28 = _; rw [Nat.zero_add])) (by first | exact ho28 | exact ho28.alloc _) ⟨wr.heap.size + 1, 0, none⟩ 1 1 [iv j] rfl rfl (lit_news (t := 3) (by first | exact heap_freshD _ _ (by first | rfl | simp) | exact heap_oldD _ _ _ (by first | rfl | simp)) hg28 (by first | omega | simp)) (by intro u hu; simp at hu; subst hu; rfl) (by decide) (by unfold maxLen; omega) (by omega) (by first | exact hB28.size | exact (hB28.alloc hB28.size _).size) _ rfl ?_; intro g31 c31 w31 ho31 hg31 ha31 hl31; have hB31 : Below wr.heap.size wr w31 := (by first | exact hB28.grown hg31 hB28.size (fun kk e => (ho28.lt kk e).1) | exact (hB28.alloc hB28.size _).grown hg31 (hB28.alloc hB28.size _).size (fun kk e => (ho28.lt kk e).1)))
            | (refine step_append_lies _ rfl (.tmp 28) (.tmp 30) 33 rfl wr.heap.size 3 i0 (iv 0) 1 8 Tryd.underlying33 HI.out HZ0.out HZ1.out HZ2.out rfl (by decide) (.slice (some ⟨g28, 0, none⟩) q0 c28) q0 (ps.map iv) (by first | rfl | (show Value.slice (some ⟨g28, 0, none⟩) (0 + q0) c28 = _; rw [Nat.zero_add])) (by first | exact ho28 | exact ho28.alloc _) ⟨wr.heap.size, 0, none⟩ 1 1 [iv j] rfl rfl (lit_news (t := 3) (by first | exact heap_freshD _ _ (by first | rfl | simp) | exact heap_oldD _ _ _ (by first | rfl | simp)) hg28 (by first | omega | simp)) (by intro u hu; simp at hu; subst hu; rfl) (by decide) (by unfold maxLen; omega) (by omega) (by first | exact hB28.size | exact (hB28.alloc hB28.size _).size) _ rfl ?_; intro g31 c31 w31 ho31 hg31 ha31 hl31; have hB31 : Below wr.heap.size wr w31 := (by first | exact hB28.grown hg31 hB28.size (fun kk e => (ho28.lt kk e).1) | exact (hB28.alloc hB28.size _).grown hg31 (hB28.alloc hB28.size _).size (fun kk e => (ho28.lt kk e).1)))
            | (go_at_call 46; refine (HCALL.out _ _ _ hB31 (by simpa using ho31)).mono ?_; rintro e w5 ⟨v5, rfl, hres⟩))
        all_goals (
          have HRS := Lib.hid hres
          clear hres c3 e0 e1 e2 e3
          go_wp2
          go_roundw
          case rel => exact ⟨j + 1, by omega, by go_num, Lib.hid HRS.out.1, Lib.hid HRS.out.2.1, Lib.hid HRS.out.2.2⟩
          case measure => simp [intOf]; omega)
    · have hjm : j = m := by omega
      have HPT : Hid ((posT (T.node k n s xs)).map (ps ++ ·) = ps :: (posS 0 xs).map (ps ++ ·)) := Lib.hid (by rw [posT_node]; simp)
      have HLE := HL.out
      rw [hjm, HM.out, List.take_length] at HLE
      have HF := Lib.hid HLE
      have HGW := Lib.hid (((Grew.refl (Value.slice la m0 lc) (Value.slice la m0 lc) w rfl).below HB1.out).trans HG.out)
      have hbox : wr.heap[w.heap.size]? = some (.cells #[.int .i64 k, .int .i64 n, .string s, .slice a m cap] 26 (0, 0)) :=
        (HG.out.2.1 _ (by have := HZ1w.out; omega) (fun e => by have := HLB.out _ e.symm; omega)).trans HR0.out
      have c3 := cell_of_row wr w.heap.size 3 _ _ _ hbox
      simp at c3
      clear hjm HLE hbox
      go_wp2
      go_ret
      exact ⟨_, rfl, by rw [HPT.out]; simpa using HF.out, HGW.out, HB.out⟩

theorem walk_any (h : Nat) : WalkAt h := by_height walk_step h
end Go.Proofs.YtcmhiindjponcaaDoor
