/-
  impl.argDemands: the places of the arguments of an application, with the sorts that are demanded there.
-/
import Derived.Test.YtidbokheeieifaaQ9
import Derived.Deep.AppendLies
namespace Go.Proofs.Ytidbokheeieifaa
open Go.RowKit

/-- The cells of a row of places, told by the world w0 in which the terms lie. -/
def DemCells (w0 : World) : List (T × ByteArray) → List Value → Prop
  | [], vs => vs = []
  | (.node k n s xs, d) :: r, vs => ∃ u rest h, vs = .int .i64 k :: .int .i64 n :: .string s :: u :: .string d :: rest ∧ s.size ≤ maxLen ∧ ArgsAt w0 0 h u xs ∧ DemCells w0 r rest
theorem DemCells.snoc {w0 : World} {k n : Int} {s d : ByteArray} {xs : List T} {u : Value} {h : Nat} (hs : s.size ≤ maxLen) (ha : ArgsAt w0 0 h u xs) : ∀ {l : List (T × ByteArray)} {vs : List Value}, DemCells w0 l vs →
    DemCells w0 (l ++ [(.node k n s xs, d)]) (vs ++ [.int .i64 k, .int .i64 n, .string s, u, .string d])
  | [], _, e => by cases e; exact ⟨u, [], h, rfl, hs, ha, rfl⟩
  | (.node _ _ _ _, _) :: _, _, ⟨u', rest, h', e, hs', ha', hr⟩ => ⟨u', _, h', by rw [e]; rfl, hs', ha', hr.snoc hs ha⟩
theorem infoDem : (Try.prog.info? 176).map (fun i => (i.zero, i.size, i.bytes)) = some (some (.agg #[.int .i64 0, .int .i64 0, .string ByteArray.empty, .slice none 0 0, .string ByteArray.empty]), 5, 72) := by kernel_rfl

/-- The places of the arguments xs of an application of the operator o. -/
def places (o : Option OpD) (xs : List T) : List (T × ByteArray) := xs.zipIdx.map (fun p => (p.1, demT o p.2))
theorem places_snoc (o : Option OpD) (xs : List T) (t : T) : places o (xs ++ [t]) = places o xs ++ [(t, demT o xs.length)] := by
  simp [places, List.zipIdx_append]

set_option maxRecDepth 100000 in
set_option maxHeartbeats 3200000 in
theorem argDem_any (x : Value) (ps : List ByteArray) (ds : List OpD) (n : Int) (s : ByteArray) (a : Option Addr) (m cap : Nat) (xs : List T) (h : Nat) (w0 w : World) (hn : ds.length ≤ 1048576) (ha : ∀ d ∈ ds, d.args.length ≤ 1048576)
    (hv : SigAt w x ps ds) (hag : ArgsAt w0 0 h (.slice a m cap) xs) (hb0 : Below w0.heap.size w0 w) (hml : m ≤ 1048576) (hmx : m = xs.length) :
    Calls Try.prog 121 #[x, tv 2 n s (.slice a m cap)] w (fun e w' => ∃ v vs, e = .returned v ∧ w'.ownsRow w.heap.size 176 5 v m vs ∧ DemCells w0 (places (findD ds s) xs) vs ∧ Below w.heap.size w w') := by
  obtain ⟨i0, hi, hz0, hz1, hz2⟩ := info_parts infoDem
  have HI := Lib.hid hi; clear hi
  have HZ0 := Lib.hid hz0; clear hz0
  have HZ1 := Lib.hid hz1; clear hz1
  have HZ2 := Lib.hid hz2; clear hz2
  have HV := Lib.hid hv
  obtain ⟨sa, sb, rfl, hs, ht⟩ := hv
  obtain ⟨sa, sc, rfl⟩ := hs.slice
  obtain ⟨ta, tc, rfl⟩ := ht.slice
  clear hs ht
  have HA := Lib.hid (And.intro hn ha); clear hn ha
  have HAG := Lib.hid hag; clear hag
  have HB0 := Lib.hid hb0; clear hb0
  have HM := Lib.hid hmx; clear hmx
  have hq := asOO
  obtain ⟨pl, hpl⟩ : ∃ z, z = ps.length := ⟨_, rfl⟩
  obtain ⟨dl, hdl⟩ : ∃ z, z = ds.length := ⟨_, rfl⟩
  rw [← hpl, ← hdl] at HV ⊢
  clear hpl hdl
  obtain ⟨F, hF⟩ : ∃ F, F = (boxed ((w.alloc (.cells #[.slice sa pl sc, .slice ta dl tc] 49)).alloc (.cells #[.int .i64 2, .int .i64 n, .string s, .slice a m cap] 26)) 2 n s (.slice a m cap)).alloc (.cells #[.string s] 204) := ⟨_, rfl⟩
  have hbF : Below w.heap.size w F := by rw [hF]; exact ((((Below.refl _ _).alloc (Nat.le_refl _) _).alloc (by simp) _).alloc (by simp; omega) _).alloc (by simp; omega) _
  go_enter Try.func121, Try.ntmps121
  go_wp2_with (first | (go_at_call 140; refine (form2_any _ _ _ _).mono ?_; rintro e w1 ⟨rfl, rfl⟩) | fail)
  have HX : Hid (∀ w', Below F.heap.size F w' → w'.cell? ⟨w.heap.size + 1, 3, none⟩ = some (.slice a m cap)) := Lib.hid (fun w' hb => by
    have z : F.heap.size = w.heap.size + 1 + 1 + 1 + 1 := by rw [hF]; simp
    have r1 : F.heap[w.heap.size + 1]? = some (.cells #[.int .i64 2, .int .i64 n, .string s, .slice a m cap] 26 (0, 0)) := by
      rw [hF, Below.heap_alloc _ _ _ (by simp), Below.heap_alloc _ _ _ (by simp)]; exact heap_new _ _ (by simp)
    have q1 := (hb.block _ (by omega)).trans r1
    rw [cell_of_row _ _ 3 _ _ _ q1]; rfl)
  have HOP : Hid (Calls Try.prog 146 #[sv (.slice sa pl sc) (.slice ta dl tc), .string s] F (OperE (findD ds s) s F)) := Lib.hid (by
    obtain ⟨a', b', e, h1, h2⟩ := HV.out
    exact oper_any _ s ps ds F HA.out.1 HA.out.2 ⟨a', b', e, h1.below hbF, h2.below hbF⟩)
  have HBF := Lib.hid hbF; clear hbF
  rw [← hF]
  clear hF
  refine HOP.out.mono ?_
  rintro e w2 ⟨v5, rfl, hop, hb2⟩
  have c3 := HX.out w2 hb2
  have HBW := Lib.hid (bel_two HBF.out hb2)
  have HX2 : Hid (∀ w', Below w2.heap.size w2 w' → w'.cell? ⟨w.heap.size + 1, 3, none⟩ = some (.slice a m cap)) := Lib.hid (fun w' hb => HX.out w' (bel_two hb2 hb))
  clear hb2 HX HOP
  rcases hop with ⟨hbn, ho, rfl⟩ | ⟨d, da, dn, dc, ho, hdn, hdl, rfl, hst⟩ | ⟨ho, rfl⟩
  -- the three kinds
  · have HOQ := Lib.hid ho; clear ho hbn
    go_wp2_with fail
    go_loopw [27, 8] (fun i v wr => ∃ (k : Nat) (vs : List Value) (vA : Option Addr) (vC : Nat), k ≤ m ∧ i = .int .i64 k ∧ v = .slice vA k vC ∧ Hid (wr.ownsRow w2.heap.size 176 5 (.slice vA k vC) k vs) ∧ Hid (DemCells w0 (places (findD ds s) (xs.take k)) vs) ∧ Hid (Below w2.heap.size w2 wr)) (fun i _ _ => m - (intOf i).toNat)
    case atStart => exact ⟨0, [], none, 0, Nat.zero_le _, rfl, rfl, Lib.hid (World.ownsRow_nil _ _ _ _), Lib.hid rfl, Lib.hid (Below.refl _ _)⟩
    case round =>
      obtain ⟨k, vs, vA, vC, hk, rfl, rfl, HO, HD, HB⟩ := hrel
      have hbw := bel_two HBW.out HB.out
      by_cases hlt : k < m
      · obtain ⟨t, hxt⟩ : ∃ t, xs[k]? = some t := ⟨_, List.getElem?_eq_getElem (by have := HM.out; omega)⟩
        obtain ⟨h', bt, ot, tk, tn, tsn, txs, u', eh, rfl, rfl, hsz, t0, t1, t2, t3, har⟩ := HAG.out.at hxt
        obtain ⟨ua, uc, rfl⟩ := har.slice
        obtain ⟨ul, hul⟩ : ∃ z, z = txs.length := ⟨_, rfl⟩
        rw [← hul] at t3 har
        have HUL := Lib.hid hul; clear hul
        have har2 := Lib.hid har; clear har
        have HXT := Lib.hid hxt; clear hxt
        have hd1 := dBu
        have hd2 := dDe
        have hd3 := dMi
        have hb0w : Below w0.heap.size w0 wr := HB0.out.trans (hbw.mono HB0.out.size)
        have y0 := cell_on hb0w t0
        have y1 := cell_on hb0w t1
        have y2 := cell_on hb0w t2
        have y3 : wr.cell? ⟨bt, ot + k * 4 + 3, none⟩ = some (.slice ua ul uc) := cell_on hb0w t3
        obtain ⟨R, hR⟩ : ∃ R, R = wr.alloc (.cells #[.int .i64 tk, .int .i64 tn, .string tsn, .slice ua ul uc] 26) := ⟨_, rfl⟩
        have hbR : Below wr.heap.size wr R := by rw [hR]; exact (Below.refl _ _).alloc (Nat.le_refl _) _
        have hzR : R.heap.size = wr.heap.size + 1 := by rw [hR]; simp
        have rR : R.heap[wr.heap.size]? = some (.cells #[.int .i64 tk, .int .i64 tn, .string tsn, .slice ua ul uc] 26 (0, 0)) := by rw [hR]; exact heap_new wr _ rfl
        clear hb0w
        go_upto_region 9 with fail
        rw [← hR]
        clear hR y0 y1 y2 y3
        have HBR := Lib.hid hbR; clear hbR
        have hOl := HO.out.lt
        have HK : Hid (∀ w', Below R.heap.size R w' → w'.heap[wr.heap.size]? = some (.cells #[.int .i64 tk, .int .i64 tn, .string tsn, .slice ua ul uc] 26 (0, 0))) := Lib.hid (fun w' hb => (hb.block _ (by omega)).trans rR)
        have HG : Hid (∀ (w' w'' : World), w'.heap[wr.heap.size]? = some (.cells #[.int .i64 tk, .int .i64 tn, .string tsn, .slice ua ul uc] 26 (0, 0)) → w'.grownBy w'' (Value.slice vA k vC).ownBlock → w''.heap[wr.heap.size]? = some (.cells #[.int .i64 tk, .int .i64 tn, .string tsn, .slice ua ul uc] 26 (0, 0))) := Lib.hid (fun w' w'' h1 h2 => (h2.block _ (Array.getElem?_eq_some_iff.1 h1).1 (fun e => by have := hOl _ e.symm; omega)).trans h1)
        clear rR hOl
        have HS : Hid (∀ w' : World, w'.heap[wr.heap.size]? = some (.cells #[.int .i64 tk, .int .i64 tn, .string tsn, .slice ua ul uc] 26 (0, 0)) → (w'.cell? ⟨wr.heap.size, 0, none⟩ = some (.int .i64 tk) ∧ w'.cell? ⟨wr.heap.size, 1, none⟩ = some (.int .i64 tn) ∧ w'.cell? ⟨wr.heap.size, 2, none⟩ = some (.string tsn) ∧ w'.cell? ⟨wr.heap.size, 3, none⟩ = some (.slice ua ul uc))) := Lib.hid (fun w' h => ⟨by rw [cell_of_row _ _ 0 _ _ _ h]; rfl, by rw [cell_of_row _ _ 1 _ _ _ h]; rfl, by rw [cell_of_row _ _ 2 _ _ _ h]; rfl, by rw [cell_of_row _ _ 3 _ _ _ h]; rfl⟩)
        have hRd : Below R.heap.size R R.drew := (Below.refl _ R).drew
        refine wp_region_held_drew (S := fun w' => w'.cell? ⟨wr.heap.size, 0, none⟩ = some (.int .i64 tk) ∧ w'.cell? ⟨wr.heap.size, 1, none⟩ = some (.int .i64 tn) ∧ w'.cell? ⟨wr.heap.size, 2, none⟩ = some (.string tsn) ∧ w'.cell? ⟨wr.heap.size, 3, none⟩ = some (.slice ua ul uc)) (by kernel_rfl) (HS.out _ (HK.out _ hRd)) (fun hHeld => ?_)
        refine wpAnyH_take (i := 0) (oi := { dst := some 32, op := Op.move (Operand.tmp 8), type := 177, pos := "l06_signature.go:146", after := #[], guard := none }) (v := ?vb0) rfl (by kernel_rfl) (by kernel_rfl) (by kernel_rfl) (fun _ _ _ h => h) (Or.inl ⟨by rfl, ?yb0⟩) hHeld ?rb0
        case yb0 => (intro w hSw; (try dsimp only at hSw); go_simp; try with_reducible rfl)
        (try simp only [Act.put, List.setIfInBounds_toArray, List.set_cons_zero, List.set_cons_succ])
        refine wpAnyH_take (i := 1) (oi := { dst := some 33, op := Op.load 26 (Operand.tmp 10), type := 26, pos := "l06_signature.go:146", after := #[], guard := none }) (v := ?vb1) rfl (by kernel_rfl) (by kernel_rfl) (by kernel_rfl) (fun _ _ _ h => h) (Or.inl ⟨by rfl, ?yb1⟩) hHeld ?rb1
        case yb1 => (intro w hSw; (try dsimp only at hSw); go_simp; try with_reducible rfl)
        (try simp only [Act.put, List.setIfInBounds_toArray, List.set_cons_zero, List.set_cons_succ])
        refine wpAnyH_take (i := 2) (oi := { dst := some 34, op := Op.move (Operand.tmp 5), type := 208, pos := "l06_signature.go:146", after := #[], guard := none }) (v := ?vb2) rfl (by kernel_rfl) (by kernel_rfl) (by kernel_rfl) (fun _ _ _ h => h) (Or.inl ⟨by rfl, ?yb2⟩) hHeld ?rb2
        case yb2 => (intro w hSw; (try dsimp only at hSw); go_simp; try with_reducible rfl)
        (try simp only [Act.put, List.setIfInBounds_toArray, List.set_cons_zero, List.set_cons_succ])
        refine wpAnyH_take (i := 3) (oi := { dst := some 35, op := Op.move (Operand.tmp 9), type := 3, pos := "l06_signature.go:146", after := #[], guard := none }) (v := ?vb3) rfl (by kernel_rfl) (by kernel_rfl) (by kernel_rfl) (fun _ _ _ h => h) (Or.inl ⟨by rfl, ?yb3⟩) hHeld ?rb3
        case yb3 => (intro w hSw; (try dsimp only at hSw); go_simp; try with_reducible rfl)
        (try simp only [Act.put, List.setIfInBounds_toArray, List.set_cons_zero, List.set_cons_succ])
        refine wpAnyH_ready (rs := [4]) (by kernel_rfl) (by simp) ?_
        refine AllReadyH.cons (o := { dst := some 36, op := Op.call { callee := Callee.invoke (Operand.tmp 34) "loop.example/g00517/impl.demanded", args := #[Operand.tmp 35], argTypes := #[3] }, type := 9, pos := "l06_signature.go:146", after := #[{ on := 2, ground := Ground.data }, { on := 3, ground := Ground.data }], guard := none }) rfl (fun K hK => ?_) AllReadyH.nil
        go_simp
        refine (demBu_any s k _).mono ?_
        rintro e w8 ⟨rfl, hb8⟩
        have hb8' := bel_two hRd hb8
        have HB8 := Lib.hid hb8'
        clear hb8 hb8' hRd
        obtain ⟨dd, hdd⟩ : ∃ z, z = demT (some ⟨s, [kWord, kWord], kWord⟩) k := ⟨_, rfl⟩
        rw [← hdd]
        have HDD := Lib.hid hdd; clear hdd
        go_wp2_with fail
        refine hK.out _ _ (HS.out _ (HK.out _ HB8.out)) (fun hHeld => ?_)
        clear hK K
        (try simp only [Act.put, List.setIfInBounds_toArray, List.set_cons_zero, List.set_cons_succ])
        refine wpAnyH_take (i := 5) (oi := { dst := some 37, op := Op.build 176 #[(0, Operand.tmp 33), (1, Operand.tmp 36)], type := 176, pos := "l06_signature.go:146", after := #[{ on := 1, ground := Ground.data }, { on := 4, ground := Ground.data }], guard := none }) (v := ?vb5) rfl (by kernel_rfl) (by kernel_rfl) (by kernel_rfl) (fun _ _ _ h => h) (Or.inl ⟨by rfl, ?yb5⟩) hHeld ?rb5
        case yb5 => (intro w hSw; (try dsimp only at hSw); go_simp; try with_reducible rfl)
        (try simp only [Act.put, List.setIfInBounds_toArray, List.set_cons_zero, List.set_cons_succ])
        refine wpAnyH_ready (rs := [6]) (by kernel_rfl) (by simp) ?_
        refine AllReadyH.cons (o := { dst := some 38, op := Op.buildSlice 177 1 #[(0, Operand.tmp 37)], type := 177, pos := "l06_signature.go:146", after := #[{ on := 5, ground := Ground.data }], guard := none }) rfl (fun K hK => ?_) AllReadyH.nil
        go_simp
        obtain ⟨W9, hW9⟩ : ∃ z, z = w8.alloc (.cells #[.int .i64 tk, .int .i64 tn, .string tsn, .slice ua ul uc, .string dd] 176) := ⟨_, rfl⟩
        have hb9 : Below w8.heap.size w8 W9 := by rw [hW9]; exact (Below.refl _ _).alloc (Nat.le_refl _) _
        have r9 : W9.heap[w8.heap.size]? = some (.cells #[.int .i64 tk, .int .i64 tn, .string tsn, .slice ua ul uc, .string dd] 176 (0, 0)) := by rw [hW9]; exact heap_new w8 _ rfl
        have HB9 : Hid (Below R.heap.size R W9) := Lib.hid (bel_two HB8.out hb9)
        rw [← hW9]
        clear hW9 hb9
        refine hK.out _ _ (HS.out _ (HK.out _ HB9.out)) (fun hHeld => ?_)
        clear hK K
        (try simp only [Act.put, List.setIfInBounds_toArray, List.set_cons_zero, List.set_cons_succ])
        have hwR : Below wr.heap.size wr W9 := HBR.out.trans (HB9.out.mono HBR.out.size)
        have HO9 := Lib.hid (keep_own HO.out hwR)
        have hcE : ∀ (j : Nat) (z : Value), ([.int .i64 tk, .int .i64 tn, .string tsn, .slice ua ul uc, .string dd] : List Value)[j]? = some z → W9.cell? ((⟨w8.heap.size, 0, none⟩ : Addr).add j) = some z := fun j z hj => by
          rw [show (⟨w8.heap.size, 0, none⟩ : Addr).add j = ⟨w8.heap.size, j, none⟩ from (by simp [Addr.add]; try omega), cell_of_row W9 w8.heap.size j _ _ _ r9]
          simpa using hj
        have hsw : w2.heap.size ≤ W9.heap.size := Nat.le_trans HB.out.size hwR.size
        have HWR := Lib.hid hwR; clear hwR
        refine wpAnyH_ready (rs := [7]) (by kernel_rfl) (by simp) ?_
        refine AllReadyH.cons (o := { dst := some 39, op := Op.call { callee := Callee.builtin Builtin.append, args := #[Operand.tmp 32, Operand.tmp 38], argTypes := #[177, 177] }, type := 177, pos := "l06_signature.go:146", after := #[{ on := 0, ground := Ground.data }, { on := 6, ground := Ground.data }, { on := 4, ground := Ground.chain }], guard := none }) rfl (fun K hK => ?_) AllReadyH.nil
        refine step_append_lies _ rfl (.tmp 32) (.tmp 38) 177 rfl w2.heap.size 176 i0 (.agg #[.int .i64 0, .int .i64 0, .string ByteArray.empty, .slice none 0 0, .string ByteArray.empty]) 5 72 Try.underlying177 HI.out HZ0.out HZ1.out HZ2.out rfl (by decide) (.slice vA k vC) k vs rfl HO9.out ⟨w8.heap.size, 0, none⟩ 1 1 [.int .i64 tk, .int .i64 tn, .string tsn, .slice ua ul uc, .string dd] rfl rfl hcE (by simp [Value.oneCell']) (by decide) (by unfold maxLen; omega) (by omega) hsw W9.heap.size rfl (fun g cap' w' ho hg hgg hgl => hK.out _ _ (HS.out _ (HG.out _ _ (HK.out _ HB9.out) hg)) (fun hHeld => ?_))
        clear hK K
        (try simp only [Act.put, List.setIfInBounds_toArray, List.set_cons_zero, List.set_cons_succ])
        refine wpAnyH_take (i := 8) (oi := { dst := some 8, op := Op.assign (Operand.tmp 39), type := 177, pos := "l06_signature.go:146", after := #[{ on := 7, ground := Ground.data }, { on := 7, ground := Ground.chain }, { on := 0, ground := Ground.phase }, { on := 1, ground := Ground.phase }, { on := 2, ground := Ground.phase }, { on := 3, ground := Ground.phase }, { on := 4, ground := Ground.phase }, { on := 5, ground := Ground.phase }, { on := 6, ground := Ground.phase }, { on := 7, ground := Ground.phase }], guard := none }) (v := ?vb8) rfl (by kernel_rfl) (by kernel_rfl) (by kernel_rfl) (fun _ _ _ h => h) (Or.inl ⟨by rfl, ?yb8⟩) hHeld ?rb8
        case yb8 => (intro w hSw; (try dsimp only at hSw); go_simp; try with_reducible rfl)
        (try simp only [Act.put, List.setIfInBounds_toArray, List.set_cons_zero, List.set_cons_succ])
        have HBN : Hid (Below w2.heap.size w2 w') := Lib.hid ((HB.out.trans (HWR.out.mono HB.out.size)).grown hg hsw (fun j e => (HO9.out.lt j e).1))
        have HON := Lib.hid ho
        clear ho hg hgg hgl hcE r9 hsw
        refine wpAnyH_done (by kernel_rfl) ?_ _
        go_wp2
        go_roundw
        case rel =>
          refine ⟨k + 1, vs ++ [.int .i64 tk, .int .i64 tn, .string tsn, .slice ua ul uc, .string dd], _, _, by omega, by go_num, rfl, HON, Lib.hid ?_, HBN⟩
          have hkl : (xs.take k).length = k := by rw [List.length_take]; have := HM.out; omega
          rw [List.take_add_one, HXT.out, Option.toList_some, places_snoc, hkl, HOQ.out]
          rw [HOQ.out] at HD
          rw [show demT _ k = dd from HDD.out.symm]
          exact HD.out.snoc hsz har2.out
        case measure => simp [intOf]; omega
      · have HT : Hid (xs.take k = xs) := Lib.hid (List.take_of_length_le (by have := HM.out; omega))
        have hkm : k = m := by omega
        subst hkm
        go_wp2
        go_ret
        exact ⟨_, vs, rfl, own_low HO.out HBW.out.size, by rw [← HT.out]; exact HD.out, bel_two HBW.out HB.out⟩
  · have hdl2 : d.args.length ≤ 1048576 := by
      have hf := ho
      unfold findD at hf
      split at hf
      · injection hf with e; rw [← e]; show 2 ≤ 1048576; decide
      · exact HA.out.2 _ (List.mem_of_find?_eq_some hf)
    have HDE : Hid (∀ (i : Nat) (w' : World), Below w2.heap.size w2 w' → Calls Try.prog 213 #[.agg #[.string s, .int .i64 dn, .string d.res, .slice da dn dc], .int .i64 i] w' (TextB (demT (some d) i) w')) := Lib.hid (fun i w' hb => by
      have h1 := demDe_any d (.slice da dn dc) i w' hdl2 (hst.below hb)
      rw [hdn, ← hdl] at h1
      exact h1)
    have HOQ := Lib.hid ho
    clear ho hdl2 hst hdn hdl
    go_wp2_with fail
    go_loopw [27, 8] (fun i v wr => ∃ (k : Nat) (vs : List Value) (vA : Option Addr) (vC : Nat), k ≤ m ∧ i = .int .i64 k ∧ v = .slice vA k vC ∧ Hid (wr.ownsRow w2.heap.size 176 5 (.slice vA k vC) k vs) ∧ Hid (DemCells w0 (places (findD ds s) (xs.take k)) vs) ∧ Hid (Below w2.heap.size w2 wr)) (fun i _ _ => m - (intOf i).toNat)
    case atStart => exact ⟨0, [], none, 0, Nat.zero_le _, rfl, rfl, Lib.hid (World.ownsRow_nil _ _ _ _), Lib.hid rfl, Lib.hid (Below.refl _ _)⟩
    case round =>
      obtain ⟨k, vs, vA, vC, hk, rfl, rfl, HO, HD, HB⟩ := hrel
      have hbw := bel_two HBW.out HB.out
      by_cases hlt : k < m
      · obtain ⟨t, hxt⟩ : ∃ t, xs[k]? = some t := ⟨_, List.getElem?_eq_getElem (by have := HM.out; omega)⟩
        obtain ⟨h', bt, ot, tk, tn, tsn, txs, u', eh, rfl, rfl, hsz, t0, t1, t2, t3, har⟩ := HAG.out.at hxt
        obtain ⟨ua, uc, rfl⟩ := har.slice
        obtain ⟨ul, hul⟩ : ∃ z, z = txs.length := ⟨_, rfl⟩
        rw [← hul] at t3 har
        have HUL := Lib.hid hul; clear hul
        have har2 := Lib.hid har; clear har
        have HXT := Lib.hid hxt; clear hxt
        have hd1 := dBu
        have hd2 := dDe
        have hd3 := dMi
        have hb0w : Below w0.heap.size w0 wr := HB0.out.trans (hbw.mono HB0.out.size)
        have y0 := cell_on hb0w t0
        have y1 := cell_on hb0w t1
        have y2 := cell_on hb0w t2
        have y3 : wr.cell? ⟨bt, ot + k * 4 + 3, none⟩ = some (.slice ua ul uc) := cell_on hb0w t3
        obtain ⟨R, hR⟩ : ∃ R, R = wr.alloc (.cells #[.int .i64 tk, .int .i64 tn, .string tsn, .slice ua ul uc] 26) := ⟨_, rfl⟩
        have hbR : Below wr.heap.size wr R := by rw [hR]; exact (Below.refl _ _).alloc (Nat.le_refl _) _
        have hzR : R.heap.size = wr.heap.size + 1 := by rw [hR]; simp
        have rR : R.heap[wr.heap.size]? = some (.cells #[.int .i64 tk, .int .i64 tn, .string tsn, .slice ua ul uc] 26 (0, 0)) := by rw [hR]; exact heap_new wr _ rfl
        clear hb0w
        go_upto_region 9 with fail
        rw [← hR]
        clear hR y0 y1 y2 y3
        have HBR := Lib.hid hbR; clear hbR
        have hOl := HO.out.lt
        have HK : Hid (∀ w', Below R.heap.size R w' → w'.heap[wr.heap.size]? = some (.cells #[.int .i64 tk, .int .i64 tn, .string tsn, .slice ua ul uc] 26 (0, 0))) := Lib.hid (fun w' hb => (hb.block _ (by omega)).trans rR)
        have HG : Hid (∀ (w' w'' : World), w'.heap[wr.heap.size]? = some (.cells #[.int .i64 tk, .int .i64 tn, .string tsn, .slice ua ul uc] 26 (0, 0)) → w'.grownBy w'' (Value.slice vA k vC).ownBlock → w''.heap[wr.heap.size]? = some (.cells #[.int .i64 tk, .int .i64 tn, .string tsn, .slice ua ul uc] 26 (0, 0))) := Lib.hid (fun w' w'' h1 h2 => (h2.block _ (Array.getElem?_eq_some_iff.1 h1).1 (fun e => by have := hOl _ e.symm; omega)).trans h1)
        clear rR hOl
        have HS : Hid (∀ w' : World, w'.heap[wr.heap.size]? = some (.cells #[.int .i64 tk, .int .i64 tn, .string tsn, .slice ua ul uc] 26 (0, 0)) → (w'.cell? ⟨wr.heap.size, 0, none⟩ = some (.int .i64 tk) ∧ w'.cell? ⟨wr.heap.size, 1, none⟩ = some (.int .i64 tn) ∧ w'.cell? ⟨wr.heap.size, 2, none⟩ = some (.string tsn) ∧ w'.cell? ⟨wr.heap.size, 3, none⟩ = some (.slice ua ul uc))) := Lib.hid (fun w' h => ⟨by rw [cell_of_row _ _ 0 _ _ _ h]; rfl, by rw [cell_of_row _ _ 1 _ _ _ h]; rfl, by rw [cell_of_row _ _ 2 _ _ _ h]; rfl, by rw [cell_of_row _ _ 3 _ _ _ h]; rfl⟩)
        have hRd : Below R.heap.size R R.drew := (Below.refl _ R).drew
        refine wp_region_held_drew (S := fun w' => w'.cell? ⟨wr.heap.size, 0, none⟩ = some (.int .i64 tk) ∧ w'.cell? ⟨wr.heap.size, 1, none⟩ = some (.int .i64 tn) ∧ w'.cell? ⟨wr.heap.size, 2, none⟩ = some (.string tsn) ∧ w'.cell? ⟨wr.heap.size, 3, none⟩ = some (.slice ua ul uc)) (by kernel_rfl) (HS.out _ (HK.out _ hRd)) (fun hHeld => ?_)
        refine wpAnyH_take (i := 0) (oi := { dst := some 32, op := Op.move (Operand.tmp 8), type := 177, pos := "l06_signature.go:146", after := #[], guard := none }) (v := ?vc0) rfl (by kernel_rfl) (by kernel_rfl) (by kernel_rfl) (fun _ _ _ h => h) (Or.inl ⟨by rfl, ?yc0⟩) hHeld ?rc0
        case yc0 => (intro w hSw; (try dsimp only at hSw); go_simp; try with_reducible rfl)
        (try simp only [Act.put, List.setIfInBounds_toArray, List.set_cons_zero, List.set_cons_succ])
        refine wpAnyH_take (i := 1) (oi := { dst := some 33, op := Op.load 26 (Operand.tmp 10), type := 26, pos := "l06_signature.go:146", after := #[], guard := none }) (v := ?vc1) rfl (by kernel_rfl) (by kernel_rfl) (by kernel_rfl) (fun _ _ _ h => h) (Or.inl ⟨by rfl, ?yc1⟩) hHeld ?rc1
        case yc1 => (intro w hSw; (try dsimp only at hSw); go_simp; try with_reducible rfl)
        (try simp only [Act.put, List.setIfInBounds_toArray, List.set_cons_zero, List.set_cons_succ])
        refine wpAnyH_take (i := 2) (oi := { dst := some 34, op := Op.move (Operand.tmp 5), type := 208, pos := "l06_signature.go:146", after := #[], guard := none }) (v := ?vc2) rfl (by kernel_rfl) (by kernel_rfl) (by kernel_rfl) (fun _ _ _ h => h) (Or.inl ⟨by rfl, ?yc2⟩) hHeld ?rc2
        case yc2 => (intro w hSw; (try dsimp only at hSw); go_simp; try with_reducible rfl)
        (try simp only [Act.put, List.setIfInBounds_toArray, List.set_cons_zero, List.set_cons_succ])
        refine wpAnyH_take (i := 3) (oi := { dst := some 35, op := Op.move (Operand.tmp 9), type := 3, pos := "l06_signature.go:146", after := #[], guard := none }) (v := ?vc3) rfl (by kernel_rfl) (by kernel_rfl) (by kernel_rfl) (fun _ _ _ h => h) (Or.inl ⟨by rfl, ?yc3⟩) hHeld ?rc3
        case yc3 => (intro w hSw; (try dsimp only at hSw); go_simp; try with_reducible rfl)
        (try simp only [Act.put, List.setIfInBounds_toArray, List.set_cons_zero, List.set_cons_succ])
        refine wpAnyH_ready (rs := [4]) (by kernel_rfl) (by simp) ?_
        refine AllReadyH.cons (o := { dst := some 36, op := Op.call { callee := Callee.invoke (Operand.tmp 34) "loop.example/g00517/impl.demanded", args := #[Operand.tmp 35], argTypes := #[3] }, type := 9, pos := "l06_signature.go:146", after := #[{ on := 2, ground := Ground.data }, { on := 3, ground := Ground.data }], guard := none }) rfl (fun K hK => ?_) AllReadyH.nil
        go_simp
        refine (HDE.out k _ (bel_two HB.out (bel_two HBR.out hRd))).mono ?_
        rintro e w8 ⟨rfl, hb8⟩
        have hb8' := bel_two hRd hb8
        have HB8 := Lib.hid hb8'
        clear hb8 hb8' hRd
        obtain ⟨dd, hdd⟩ : ∃ z, z = demT (some d) k := ⟨_, rfl⟩
        rw [← hdd]
        have HDD := Lib.hid hdd; clear hdd
        go_wp2_with fail
        refine hK.out _ _ (HS.out _ (HK.out _ HB8.out)) (fun hHeld => ?_)
        clear hK K
        (try simp only [Act.put, List.setIfInBounds_toArray, List.set_cons_zero, List.set_cons_succ])
        refine wpAnyH_take (i := 5) (oi := { dst := some 37, op := Op.build 176 #[(0, Operand.tmp 33), (1, Operand.tmp 36)], type := 176, pos := "l06_signature.go:146", after := #[{ on := 1, ground := Ground.data }, { on := 4, ground := Ground.data }], guard := none }) (v := ?vc5) rfl (by kernel_rfl) (by kernel_rfl) (by kernel_rfl) (fun _ _ _ h => h) (Or.inl ⟨by rfl, ?yc5⟩) hHeld ?rc5
        case yc5 => (intro w hSw; (try dsimp only at hSw); go_simp; try with_reducible rfl)
        (try simp only [Act.put, List.setIfInBounds_toArray, List.set_cons_zero, List.set_cons_succ])
        refine wpAnyH_ready (rs := [6]) (by kernel_rfl) (by simp) ?_
        refine AllReadyH.cons (o := { dst := some 38, op := Op.buildSlice 177 1 #[(0, Operand.tmp 37)], type := 177, pos := "l06_signature.go:146", after := #[{ on := 5, ground := Ground.data }], guard := none }) rfl (fun K hK => ?_) AllReadyH.nil
        go_simp
        obtain ⟨W9, hW9⟩ : ∃ z, z = w8.alloc (.cells #[.int .i64 tk, .int .i64 tn, .string tsn, .slice ua ul uc, .string dd] 176) := ⟨_, rfl⟩
        have hb9 : Below w8.heap.size w8 W9 := by rw [hW9]; exact (Below.refl _ _).alloc (Nat.le_refl _) _
        have r9 : W9.heap[w8.heap.size]? = some (.cells #[.int .i64 tk, .int .i64 tn, .string tsn, .slice ua ul uc, .string dd] 176 (0, 0)) := by rw [hW9]; exact heap_new w8 _ rfl
        have HB9 : Hid (Below R.heap.size R W9) := Lib.hid (bel_two HB8.out hb9)
        rw [← hW9]
        clear hW9 hb9
        refine hK.out _ _ (HS.out _ (HK.out _ HB9.out)) (fun hHeld => ?_)
        clear hK K
        (try simp only [Act.put, List.setIfInBounds_toArray, List.set_cons_zero, List.set_cons_succ])
        have hwR : Below wr.heap.size wr W9 := HBR.out.trans (HB9.out.mono HBR.out.size)
        have HO9 := Lib.hid (keep_own HO.out hwR)
        have hcE : ∀ (j : Nat) (z : Value), ([.int .i64 tk, .int .i64 tn, .string tsn, .slice ua ul uc, .string dd] : List Value)[j]? = some z → W9.cell? ((⟨w8.heap.size, 0, none⟩ : Addr).add j) = some z := fun j z hj => by
          rw [show (⟨w8.heap.size, 0, none⟩ : Addr).add j = ⟨w8.heap.size, j, none⟩ from (by simp [Addr.add]; try omega), cell_of_row W9 w8.heap.size j _ _ _ r9]
          simpa using hj
        have hsw : w2.heap.size ≤ W9.heap.size := Nat.le_trans HB.out.size hwR.size
        have HWR := Lib.hid hwR; clear hwR
        refine wpAnyH_ready (rs := [7]) (by kernel_rfl) (by simp) ?_
        refine AllReadyH.cons (o := { dst := some 39, op := Op.call { callee := Callee.builtin Builtin.append, args := #[Operand.tmp 32, Operand.tmp 38], argTypes := #[177, 177] }, type := 177, pos := "l06_signature.go:146", after := #[{ on := 0, ground := Ground.data }, { on := 6, ground := Ground.data }, { on := 4, ground := Ground.chain }], guard := none }) rfl (fun K hK => ?_) AllReadyH.nil
        refine step_append_lies _ rfl (.tmp 32) (.tmp 38) 177 rfl w2.heap.size 176 i0 (.agg #[.int .i64 0, .int .i64 0, .string ByteArray.empty, .slice none 0 0, .string ByteArray.empty]) 5 72 Try.underlying177 HI.out HZ0.out HZ1.out HZ2.out rfl (by decide) (.slice vA k vC) k vs rfl HO9.out ⟨w8.heap.size, 0, none⟩ 1 1 [.int .i64 tk, .int .i64 tn, .string tsn, .slice ua ul uc, .string dd] rfl rfl hcE (by simp [Value.oneCell']) (by decide) (by unfold maxLen; omega) (by omega) hsw W9.heap.size rfl (fun g cap' w' ho hg hgg hgl => hK.out _ _ (HS.out _ (HG.out _ _ (HK.out _ HB9.out) hg)) (fun hHeld => ?_))
        clear hK K
        (try simp only [Act.put, List.setIfInBounds_toArray, List.set_cons_zero, List.set_cons_succ])
        refine wpAnyH_take (i := 8) (oi := { dst := some 8, op := Op.assign (Operand.tmp 39), type := 177, pos := "l06_signature.go:146", after := #[{ on := 7, ground := Ground.data }, { on := 7, ground := Ground.chain }, { on := 0, ground := Ground.phase }, { on := 1, ground := Ground.phase }, { on := 2, ground := Ground.phase }, { on := 3, ground := Ground.phase }, { on := 4, ground := Ground.phase }, { on := 5, ground := Ground.phase }, { on := 6, ground := Ground.phase }, { on := 7, ground := Ground.phase }], guard := none }) (v := ?vc8) rfl (by kernel_rfl) (by kernel_rfl) (by kernel_rfl) (fun _ _ _ h => h) (Or.inl ⟨by rfl, ?yc8⟩) hHeld ?rc8
        case yc8 => (intro w hSw; (try dsimp only at hSw); go_simp; try with_reducible rfl)
        (try simp only [Act.put, List.setIfInBounds_toArray, List.set_cons_zero, List.set_cons_succ])
        have HBN : Hid (Below w2.heap.size w2 w') := Lib.hid ((HB.out.trans (HWR.out.mono HB.out.size)).grown hg hsw (fun j e => (HO9.out.lt j e).1))
        have HON := Lib.hid ho
        clear ho hg hgg hgl hcE r9 hsw
        refine wpAnyH_done (by kernel_rfl) ?_ _
        go_wp2
        go_roundw
        case rel =>
          refine ⟨k + 1, vs ++ [.int .i64 tk, .int .i64 tn, .string tsn, .slice ua ul uc, .string dd], _, _, by omega, by go_num, rfl, HON, Lib.hid ?_, HBN⟩
          have hkl : (xs.take k).length = k := by rw [List.length_take]; have := HM.out; omega
          rw [List.take_add_one, HXT.out, Option.toList_some, places_snoc, hkl, HOQ.out]
          rw [HOQ.out] at HD
          rw [show demT _ k = dd from HDD.out.symm]
          exact HD.out.snoc hsz har2.out
        case measure => simp [intOf]; omega
      · have HT : Hid (xs.take k = xs) := Lib.hid (List.take_of_length_le (by have := HM.out; omega))
        have hkm : k = m := by omega
        subst hkm
        go_wp2
        go_ret
        exact ⟨_, vs, rfl, own_low HO.out HBW.out.size, by rw [← HT.out]; exact HD.out, bel_two HBW.out HB.out⟩
  · have HOQ := Lib.hid ho; clear ho
    go_wp2_with fail
    go_loopw [27, 8] (fun i v wr => ∃ (k : Nat) (vs : List Value) (vA : Option Addr) (vC : Nat), k ≤ m ∧ i = .int .i64 k ∧ v = .slice vA k vC ∧ Hid (wr.ownsRow w2.heap.size 176 5 (.slice vA k vC) k vs) ∧ Hid (DemCells w0 (places (findD ds s) (xs.take k)) vs) ∧ Hid (Below w2.heap.size w2 wr)) (fun i _ _ => m - (intOf i).toNat)
    case atStart => exact ⟨0, [], none, 0, Nat.zero_le _, rfl, rfl, Lib.hid (World.ownsRow_nil _ _ _ _), Lib.hid rfl, Lib.hid (Below.refl _ _)⟩
    case round =>
      obtain ⟨k, vs, vA, vC, hk, rfl, rfl, HO, HD, HB⟩ := hrel
      have hbw := bel_two HBW.out HB.out
      by_cases hlt : k < m
      · obtain ⟨t, hxt⟩ : ∃ t, xs[k]? = some t := ⟨_, List.getElem?_eq_getElem (by have := HM.out; omega)⟩
        obtain ⟨h', bt, ot, tk, tn, tsn, txs, u', eh, rfl, rfl, hsz, t0, t1, t2, t3, har⟩ := HAG.out.at hxt
        obtain ⟨ua, uc, rfl⟩ := har.slice
        obtain ⟨ul, hul⟩ : ∃ z, z = txs.length := ⟨_, rfl⟩
        rw [← hul] at t3 har
        have HUL := Lib.hid hul; clear hul
        have har2 := Lib.hid har; clear har
        have HXT := Lib.hid hxt; clear hxt
        have hd1 := dBu
        have hd2 := dDe
        have hd3 := dMi
        have hb0w : Below w0.heap.size w0 wr := HB0.out.trans (hbw.mono HB0.out.size)
        have y0 := cell_on hb0w t0
        have y1 := cell_on hb0w t1
        have y2 := cell_on hb0w t2
        have y3 : wr.cell? ⟨bt, ot + k * 4 + 3, none⟩ = some (.slice ua ul uc) := cell_on hb0w t3
        obtain ⟨R, hR⟩ : ∃ R, R = wr.alloc (.cells #[.int .i64 tk, .int .i64 tn, .string tsn, .slice ua ul uc] 26) := ⟨_, rfl⟩
        have hbR : Below wr.heap.size wr R := by rw [hR]; exact (Below.refl _ _).alloc (Nat.le_refl _) _
        have hzR : R.heap.size = wr.heap.size + 1 := by rw [hR]; simp
        have rR : R.heap[wr.heap.size]? = some (.cells #[.int .i64 tk, .int .i64 tn, .string tsn, .slice ua ul uc] 26 (0, 0)) := by rw [hR]; exact heap_new wr _ rfl
        clear hb0w
        go_upto_region 9 with fail
        rw [← hR]
        clear hR y0 y1 y2 y3
        have HBR := Lib.hid hbR; clear hbR
        have hOl := HO.out.lt
        have HK : Hid (∀ w', Below R.heap.size R w' → w'.heap[wr.heap.size]? = some (.cells #[.int .i64 tk, .int .i64 tn, .string tsn, .slice ua ul uc] 26 (0, 0))) := Lib.hid (fun w' hb => (hb.block _ (by omega)).trans rR)
        have HG : Hid (∀ (w' w'' : World), w'.heap[wr.heap.size]? = some (.cells #[.int .i64 tk, .int .i64 tn, .string tsn, .slice ua ul uc] 26 (0, 0)) → w'.grownBy w'' (Value.slice vA k vC).ownBlock → w''.heap[wr.heap.size]? = some (.cells #[.int .i64 tk, .int .i64 tn, .string tsn, .slice ua ul uc] 26 (0, 0))) := Lib.hid (fun w' w'' h1 h2 => (h2.block _ (Array.getElem?_eq_some_iff.1 h1).1 (fun e => by have := hOl _ e.symm; omega)).trans h1)
        clear rR hOl
        have HS : Hid (∀ w' : World, w'.heap[wr.heap.size]? = some (.cells #[.int .i64 tk, .int .i64 tn, .string tsn, .slice ua ul uc] 26 (0, 0)) → (w'.cell? ⟨wr.heap.size, 0, none⟩ = some (.int .i64 tk) ∧ w'.cell? ⟨wr.heap.size, 1, none⟩ = some (.int .i64 tn) ∧ w'.cell? ⟨wr.heap.size, 2, none⟩ = some (.string tsn) ∧ w'.cell? ⟨wr.heap.size, 3, none⟩ = some (.slice ua ul uc))) := Lib.hid (fun w' h => ⟨by rw [cell_of_row _ _ 0 _ _ _ h]; rfl, by rw [cell_of_row _ _ 1 _ _ _ h]; rfl, by rw [cell_of_row _ _ 2 _ _ _ h]; rfl, by rw [cell_of_row _ _ 3 _ _ _ h]; rfl⟩)
        have hRd : Below R.heap.size R R.drew := (Below.refl _ R).drew
        refine wp_region_held_drew (S := fun w' => w'.cell? ⟨wr.heap.size, 0, none⟩ = some (.int .i64 tk) ∧ w'.cell? ⟨wr.heap.size, 1, none⟩ = some (.int .i64 tn) ∧ w'.cell? ⟨wr.heap.size, 2, none⟩ = some (.string tsn) ∧ w'.cell? ⟨wr.heap.size, 3, none⟩ = some (.slice ua ul uc)) (by kernel_rfl) (HS.out _ (HK.out _ hRd)) (fun hHeld => ?_)
        refine wpAnyH_take (i := 0) (oi := { dst := some 32, op := Op.move (Operand.tmp 8), type := 177, pos := "l06_signature.go:146", after := #[], guard := none }) (v := ?vd0) rfl (by kernel_rfl) (by kernel_rfl) (by kernel_rfl) (fun _ _ _ h => h) (Or.inl ⟨by rfl, ?yd0⟩) hHeld ?rd0
        case yd0 => (intro w hSw; (try dsimp only at hSw); go_simp; try with_reducible rfl)
        (try simp only [Act.put, List.setIfInBounds_toArray, List.set_cons_zero, List.set_cons_succ])
        refine wpAnyH_take (i := 1) (oi := { dst := some 33, op := Op.load 26 (Operand.tmp 10), type := 26, pos := "l06_signature.go:146", after := #[], guard := none }) (v := ?vd1) rfl (by kernel_rfl) (by kernel_rfl) (by kernel_rfl) (fun _ _ _ h => h) (Or.inl ⟨by rfl, ?yd1⟩) hHeld ?rd1
        case yd1 => (intro w hSw; (try dsimp only at hSw); go_simp; try with_reducible rfl)
        (try simp only [Act.put, List.setIfInBounds_toArray, List.set_cons_zero, List.set_cons_succ])
        refine wpAnyH_take (i := 2) (oi := { dst := some 34, op := Op.move (Operand.tmp 5), type := 208, pos := "l06_signature.go:146", after := #[], guard := none }) (v := ?vd2) rfl (by kernel_rfl) (by kernel_rfl) (by kernel_rfl) (fun _ _ _ h => h) (Or.inl ⟨by rfl, ?yd2⟩) hHeld ?rd2
        case yd2 => (intro w hSw; (try dsimp only at hSw); go_simp; try with_reducible rfl)
        (try simp only [Act.put, List.setIfInBounds_toArray, List.set_cons_zero, List.set_cons_succ])
        refine wpAnyH_take (i := 3) (oi := { dst := some 35, op := Op.move (Operand.tmp 9), type := 3, pos := "l06_signature.go:146", after := #[], guard := none }) (v := ?vd3) rfl (by kernel_rfl) (by kernel_rfl) (by kernel_rfl) (fun _ _ _ h => h) (Or.inl ⟨by rfl, ?yd3⟩) hHeld ?rd3
        case yd3 => (intro w hSw; (try dsimp only at hSw); go_simp; try with_reducible rfl)
        (try simp only [Act.put, List.setIfInBounds_toArray, List.set_cons_zero, List.set_cons_succ])
        refine wpAnyH_ready (rs := [4]) (by kernel_rfl) (by simp) ?_
        refine AllReadyH.cons (o := { dst := some 36, op := Op.call { callee := Callee.invoke (Operand.tmp 34) "loop.example/g00517/impl.demanded", args := #[Operand.tmp 35], argTypes := #[3] }, type := 9, pos := "l06_signature.go:146", after := #[{ on := 2, ground := Ground.data }, { on := 3, ground := Ground.data }], guard := none }) rfl (fun K hK => ?_) AllReadyH.nil
        go_simp
        refine (demMi_any _ _ _ k _).mono ?_
        rintro e w8 ⟨rfl, hb8⟩
        have hb8' := bel_two hRd hb8
        have HB8 := Lib.hid hb8'
        clear hb8 hb8' hRd
        obtain ⟨dd, hdd⟩ : ∃ z, z = demT none k := ⟨_, rfl⟩
        rw [← hdd]
        have HDD := Lib.hid hdd; clear hdd
        go_wp2_with fail
        refine hK.out _ _ (HS.out _ (HK.out _ HB8.out)) (fun hHeld => ?_)
        clear hK K
        (try simp only [Act.put, List.setIfInBounds_toArray, List.set_cons_zero, List.set_cons_succ])
        refine wpAnyH_take (i := 5) (oi := { dst := some 37, op := Op.build 176 #[(0, Operand.tmp 33), (1, Operand.tmp 36)], type := 176, pos := "l06_signature.go:146", after := #[{ on := 1, ground := Ground.data }, { on := 4, ground := Ground.data }], guard := none }) (v := ?vd5) rfl (by kernel_rfl) (by kernel_rfl) (by kernel_rfl) (fun _ _ _ h => h) (Or.inl ⟨by rfl, ?yd5⟩) hHeld ?rd5
        case yd5 => (intro w hSw; (try dsimp only at hSw); go_simp; try with_reducible rfl)
        (try simp only [Act.put, List.setIfInBounds_toArray, List.set_cons_zero, List.set_cons_succ])
        refine wpAnyH_ready (rs := [6]) (by kernel_rfl) (by simp) ?_
        refine AllReadyH.cons (o := { dst := some 38, op := Op.buildSlice 177 1 #[(0, Operand.tmp 37)], type := 177, pos := "l06_signature.go:146", after := #[{ on := 5, ground := Ground.data }], guard := none }) rfl (fun K hK => ?_) AllReadyH.nil
        go_simp
        obtain ⟨W9, hW9⟩ : ∃ z, z = w8.alloc (.cells #[.int .i64 tk, .int .i64 tn, .string tsn, .slice ua ul uc, .string dd] 176) := ⟨_, rfl⟩
        have hb9 : Below w8.heap.size w8 W9 := by rw [hW9]; exact (Below.refl _ _).alloc (Nat.le_refl _) _
        have r9 : W9.heap[w8.heap.size]? = some (.cells #[.int .i64 tk, .int .i64 tn, .string tsn, .slice ua ul uc, .string dd] 176 (0, 0)) := by rw [hW9]; exact heap_new w8 _ rfl
        have HB9 : Hid (Below R.heap.size R W9) := Lib.hid (bel_two HB8.out hb9)
        rw [← hW9]
        clear hW9 hb9
        refine hK.out _ _ (HS.out _ (HK.out _ HB9.out)) (fun hHeld => ?_)
        clear hK K
        (try simp only [Act.put, List.setIfInBounds_toArray, List.set_cons_zero, List.set_cons_succ])
        have hwR : Below wr.heap.size wr W9 := HBR.out.trans (HB9.out.mono HBR.out.size)
        have HO9 := Lib.hid (keep_own HO.out hwR)
        have hcE : ∀ (j : Nat) (z : Value), ([.int .i64 tk, .int .i64 tn, .string tsn, .slice ua ul uc, .string dd] : List Value)[j]? = some z → W9.cell? ((⟨w8.heap.size, 0, none⟩ : Addr).add j) = some z := fun j z hj => by
          rw [show (⟨w8.heap.size, 0, none⟩ : Addr).add j = ⟨w8.heap.size, j, none⟩ from (by simp [Addr.add]; try omega), cell_of_row W9 w8.heap.size j _ _ _ r9]
          simpa using hj
        have hsw : w2.heap.size ≤ W9.heap.size := Nat.le_trans HB.out.size hwR.size
        have HWR := Lib.hid hwR; clear hwR
        refine wpAnyH_ready (rs := [7]) (by kernel_rfl) (by simp) ?_
        refine AllReadyH.cons (o := { dst := some 39, op := Op.call { callee := Callee.builtin Builtin.append, args := #[Operand.tmp 32, Operand.tmp 38], argTypes := #[177, 177] }, type := 177, pos := "l06_signature.go:146", after := #[{ on := 0, ground := Ground.data }, { on := 6, ground := Ground.data }, { on := 4, ground := Ground.chain }], guard := none }) rfl (fun K hK => ?_) AllReadyH.nil
        refine step_append_lies _ rfl (.tmp 32) (.tmp 38) 177 rfl w2.heap.size 176 i0 (.agg #[.int .i64 0, .int .i64 0, .string ByteArray.empty, .slice none 0 0, .string ByteArray.empty]) 5 72 Try.underlying177 HI.out HZ0.out HZ1.out HZ2.out rfl (by decide) (.slice vA k vC) k vs rfl HO9.out ⟨w8.heap.size, 0, none⟩ 1 1 [.int .i64 tk, .int .i64 tn, .string tsn, .slice ua ul uc, .string dd] rfl rfl hcE (by simp [Value.oneCell']) (by decide) (by unfold maxLen; omega) (by omega) hsw W9.heap.size rfl (fun g cap' w' ho hg hgg hgl => hK.out _ _ (HS.out _ (HG.out _ _ (HK.out _ HB9.out) hg)) (fun hHeld => ?_))
        clear hK K
        (try simp only [Act.put, List.setIfInBounds_toArray, List.set_cons_zero, List.set_cons_succ])
        refine wpAnyH_take (i := 8) (oi := { dst := some 8, op := Op.assign (Operand.tmp 39), type := 177, pos := "l06_signature.go:146", after := #[{ on := 7, ground := Ground.data }, { on := 7, ground := Ground.chain }, { on := 0, ground := Ground.phase }, { on := 1, ground := Ground.phase }, { on := 2, ground := Ground.phase }, { on := 3, ground := Ground.phase }, { on := 4, ground := Ground.phase }, { on := 5, ground := Ground.phase }, { on := 6, ground := Ground.phase }, { on := 7, ground := Ground.phase }], guard := none }) (v := ?vd8) rfl (by kernel_rfl) (by kernel_rfl) (by kernel_rfl) (fun _ _ _ h => h) (Or.inl ⟨by rfl, ?yd8⟩) hHeld ?rd8
        case yd8 => (intro w hSw; (try dsimp only at hSw); go_simp; try with_reducible rfl)
        (try simp only [Act.put, List.setIfInBounds_toArray, List.set_cons_zero, List.set_cons_succ])
        have HBN : Hid (Below w2.heap.size w2 w') := Lib.hid ((HB.out.trans (HWR.out.mono HB.out.size)).grown hg hsw (fun j e => (HO9.out.lt j e).1))
        have HON := Lib.hid ho
        clear ho hg hgg hgl hcE r9 hsw
        refine wpAnyH_done (by kernel_rfl) ?_ _
        go_wp2
        go_roundw
        case rel =>
          refine ⟨k + 1, vs ++ [.int .i64 tk, .int .i64 tn, .string tsn, .slice ua ul uc, .string dd], _, _, by omega, by go_num, rfl, HON, Lib.hid ?_, HBN⟩
          have hkl : (xs.take k).length = k := by rw [List.length_take]; have := HM.out; omega
          rw [List.take_add_one, HXT.out, Option.toList_some, places_snoc, hkl, HOQ.out]
          rw [HOQ.out] at HD
          rw [show demT _ k = dd from HDD.out.symm]
          exact HD.out.snoc hsz har2.out
        case measure => simp [intOf]; omega
      · have HT : Hid (xs.take k = xs) := Lib.hid (List.take_of_length_le (by have := HM.out; omega))
        have hkm : k = m := by omega
        subst hkm
        go_wp2
        go_ret
        exact ⟨_, vs, rfl, own_low HO.out HBW.out.size, by rw [← HT.out]; exact HD.out, bel_two HBW.out HB.out⟩
end Go.Proofs.Ytidbokheeieifaa
