/-
  spec.FindOp finds the operator.
-/
import Derived.Test.YtidbokheeieifaaQ4
import Derived.Test.YtidbokheeieifaaQ6
namespace Go.Proofs.Ytidbokheeieifaa
open Go.RowKit

/-- The argument's box and the result's. -/
def FBoxes (w : World) (a b : Value) (wr : World) : Prop :=
  wr.heap[w.heap.size]? = some (.cells #[a, b] 49 (0, 0)) ∧ wr.heap[w.heap.size + 1]? = some (.cells #[.string ⟨#[]⟩, .slice none 0 0, .string ⟨#[]⟩] 109 (0, 0)) ∧ Below w.heap.size w wr
theorem FBoxes.below {w wr w' : World} {a b : Value} (h : FBoxes w a b wr) (hb : Below wr.heap.size wr w') : FBoxes w a b w' := by
  have h1 : w.heap.size + 1 < wr.heap.size := (Array.getElem?_eq_some_iff.1 h.2.1).1
  exact ⟨(hb.block _ (by omega)).trans h.1, (hb.block _ (by omega)).trans h.2.1, h.2.2.trans (hb.mono h.2.2.size)⟩
theorem fboxes_new (w : World) (a b : Value) : FBoxes w a b ((w.alloc (.cells #[a, b] 49)).alloc (.cells #[.string ⟨#[]⟩, .slice none 0 0, .string ⟨#[]⟩] 109)) :=
  ⟨heap_mid _ _ _ rfl, heap_new _ _ (by simp), ((Below.refl _ _).alloc (Nat.le_refl _) _).alloc (by simp) _⟩

set_option maxRecDepth 100000 in
set_option maxHeartbeats 3200000 in
theorem sFind_any (x : Value) (nm : ByteArray) (ps : List ByteArray) (ds : List OpD) (w : World) (_hnm : nm.size ≤ 9223372036854775807) (hn : ds.length ≤ 1048576) (ha : ∀ d ∈ ds, d.args.length ≤ 1048576) (hv : SigAt w x ps ds) :
    Calls Try.prog 73 #[x, .string nm] w (FindE (findD ds nm) w) := by
  obtain ⟨i0, hi, hz0, hz1, hz2⟩ := info_parts infoStr'
  have HI := Lib.hid hi; clear hi
  have HZ0 := Lib.hid hz0; clear hz0
  have HZ1 := Lib.hid hz1; clear hz1
  have HZ2 := Lib.hid hz2; clear hz2
  obtain ⟨s, t, rfl, hs, ht⟩ := hv
  obtain ⟨sa, sc, rfl⟩ := hs.slice
  obtain ⟨ta, tc, rfl⟩ := ht.slice
  clear hs
  have HAL := Lib.hid ha; clear ha
  obtain ⟨W, hW⟩ : ∃ W, W = (w.alloc (.cells #[.slice sa ps.length sc, .slice ta ds.length tc] 49)).alloc (.cells #[.string ⟨#[]⟩, .slice none 0 0, .string ⟨#[]⟩] 109) := ⟨_, rfl⟩
  have HF : Hid (FBoxes w (.slice sa ps.length sc) (.slice ta ds.length tc) W) := Lib.hid (by rw [hW]; exact fboxes_new _ _ _)
  have HT : Hid (∀ w', Below W.heap.size W w' → OpsAt w' (.slice ta ds.length tc) ds) := Lib.hid (fun w' hb => (ht.below HF.out.2.2).below hb)
  clear ht
  obtain ⟨m, hm⟩ : ∃ m, m = ps.length := ⟨_, rfl⟩
  obtain ⟨n, hnn⟩ : ∃ n, n = ds.length := ⟨_, rfl⟩
  rw [← hm, ← hnn] at HF hW ⊢
  rw [← hnn] at HT hn
  have HN := Lib.hid hnn
  clear hm hnn
  obtain ⟨c0, c1⟩ := (show W.cell? ⟨w.heap.size, 0, none⟩ = some (.slice sa m sc) ∧ W.cell? ⟨w.heap.size, 1, none⟩ = some (.slice ta n tc) from ⟨by rw [cell_of_row W _ 0 _ _ _ HF.out.1]; rfl, by rw [cell_of_row W _ 1 _ _ _ HF.out.1]; rfl⟩)
  obtain ⟨bq, hbq⟩ : ∃ b, b = builtinB nm := ⟨_, rfl⟩
  have HS := Lib.hid (sBuiltin_any nm W)
  unfold BuiltEnd at HS
  rw [← hbq] at HS
  have HBQ := Lib.hid hbq; clear hbq
  go_enter Try.func73, Try.ntmps73
  go_wp2_with fail
  rw [← hW]
  clear hW
  refine HS.out.mono ?_
  rintro e w1 ⟨rfl, hw1⟩
  obtain ⟨W, hWW⟩ : ∃ W, W = w1 := ⟨_, rfl⟩
  subst hw1
  subst hWW
  obtain ⟨⟨y0, y1, y2⟩, g0, g1, g2⟩ := cells_of3 HF.out.2.1
  cases bq with
  | true =>
    have HFD := Lib.hid (findD_built (ds := ds) HBQ.out.symm)
    have hW1 : w.heap.size + 2 ≤ W.heap.size := (Array.getElem?_eq_some_iff.1 HF.out.2.1).1
    have hfx := HF.out.below ((Below.refl W.heap.size W).alloc (Nat.le_refl _) (.cells #[.string ⟨#[119, 111, 114, 100]⟩, .string ⟨#[119, 111, 114, 100]⟩] 9))
    obtain ⟨⟨z0, z1, z2⟩, f0, f1, f2⟩ := cells_of3 hfx.2.1
    have HFX := Lib.hid hfx; clear hfx
    go_wp2
    (try simp only [Exit.inBlock, Exit.then])
    refine bodyPost_ret (v := .tuple #[ov nm (.slice (some ⟨W.heap.size, 0, none⟩) 2 2) kWord, .bool true]) ?_ rfl ?_
    · refine results_op (a := 4) (b := 5) (t := 109) (ad := ⟨w.heap.size + 1, 0, none⟩) rfl rfl _ _ ?_
      go_simp
      try rfl
    · rw [HFD.out]
      exact FindE.fin (o := some ⟨nm, [kWord, kWord], kWord⟩) (B := W.heap.size) hW1 (World.ownsRow_lit (base := W.heap.size) (size := 1) (e := 9) W _ 2 (Nat.le_refl _) (by decide) rfl) HFX.out.2.2 _ _ _
  | false =>
    go_wp2_with fail
    go_loopw [6] (fun i wr => ∃ k : Nat, k ≤ n ∧ i = .int .i64 k ∧ Hid (∀ d ∈ ds.take k, (d.name.toList == nm.toList) = false) ∧ wr = W) (fun i _ => n - (intOf i).toNat)
    case atStart => exact ⟨0, Nat.zero_le _, rfl, Lib.hid (fun s hs => by simp at hs), rfl⟩
    case round =>
      obtain ⟨k, hk, rfl, HO, rfl⟩ := hrel
      by_cases hlt : k < n
      · obtain ⟨d, hd⟩ : ∃ d, ds[k]? = some d := ⟨_, List.getElem?_eq_getElem (by have := HN.out; omega)⟩
        obtain ⟨g, o, cc, a', n', c', ee, e0, e1, e2, hst⟩ := (HT.out _ (Below.refl _ _)).at hd
        have HD := Lib.hid hd; clear hd
        simp only [Value.slice.injEq] at ee
        obtain ⟨rfl, -, rfl⟩ := ee
        by_cases hq : d.name.toList = nm.toList
        · have hq1 : (d.name.toList == nm.toList) = true := by simpa using hq
          have HFD := Lib.hid (findD_at HBQ.out.symm HO.out HD.out hq1)
          have HST := Lib.hid hst; clear hst
          have hW1 : w.heap.size + 2 ≤ wr.heap.size := (Array.getElem?_eq_some_iff.1 HF.out.2.1).1
          obtain ⟨X1, hX1⟩ : ∃ X1, X1 = wr.alloc (.cells #[.string d.name, .slice a' n' c', .string d.res] 109) := ⟨_, rfl⟩
          obtain ⟨X2, hX2⟩ : ∃ X2, X2 = X1.alloc (.cells #[] 9) := ⟨_, rfl⟩
          have hz1 : X1.heap.size = wr.heap.size + 1 := by rw [hX1]; simp
          have hb1 : Below wr.heap.size wr X1 := by rw [hX1]; exact (Below.refl _ _).alloc (Nat.le_refl _) _
          have hb2 : Below wr.heap.size wr X2 := by rw [hX2]; exact hb1.alloc (by omega) _
          have r2 : X2.heap[wr.heap.size]? = some (.cells #[.string d.name, .slice a' n' c', .string d.res] 109 (0, 0)) := by rw [hX2, hX1]; exact heap_mid _ _ _ rfl
          have hlit := World.ownsRow_lit (base := wr.heap.size + 1) (size := 1) (e := 9) X1 #[] 0 (by omega) (by decide) rfl
          rw [← hX2, hz1] at hlit
          have HLIT := Lib.hid hlit; clear hlit
          have HSX := Lib.hid (HST.out.below hb2)
          have HFX := Lib.hid (HF.out.below hb2)
          have HDL := Lib.hid (HAL.out d (List.mem_of_getElem? HD.out))
          obtain ⟨hn', hsrc⟩ := HSX.out.src
          have HN' := Lib.hid hn'; clear hn'
          rcases hsrc with ⟨rfl, hargs⟩ | ⟨ad, rfl, hcells⟩
          · have h0 : n' = 0 := by rw [HN'.out, hargs]; rfl
            subst h0
            obtain ⟨Y, hY⟩ : ∃ Y, Y = (wr.alloc (.cells #[.string d.name, .slice (some ⟨wr.heap.size + 1, 0, none⟩) 0 0, .string d.res] 109)).alloc (.cells #[] 9) := ⟨_, rfl⟩
            have hbY : Below wr.heap.size wr Y := by rw [hY]; exact ((Below.refl _ _).alloc (Nat.le_refl _) _).alloc (by simp) _
            have rY : Y.heap[wr.heap.size]? = some (.cells #[.string d.name, .slice (some ⟨wr.heap.size + 1, 0, none⟩) 0 0, .string d.res] 109 (0, 0)) := by rw [hY]; exact heap_mid _ _ _ rfl
            have HFY := Lib.hid (HF.out.below hbY)
            have hlY := World.ownsRow_lit (base := wr.heap.size) (size := 1) (e := 9) (wr.alloc (.cells #[.string d.name, .slice (some ⟨wr.heap.size + 1, 0, none⟩) 0 0, .string d.res] 109)) #[] 0 (by simp) (by decide) rfl
            rw [← hY] at hlY
            have HLY := Lib.hid hlY; clear hlY
            obtain ⟨⟨z0, z1, z2⟩, f0, f1, f2⟩ := cells_of3 r2
            obtain ⟨⟨x0, x1, x2⟩, _⟩ := cells_of3 rY
            obtain ⟨⟨t0, t1, t2⟩, h0, h1, h2⟩ := cells_of3 HFY.out.2.1
            rw [hX2, hX1] at z0 z1 z2 f0 f1 f2
            rw [hY] at x0 x1 x2 t0 t1 t2 h0 h1 h2
            rw [hX2, hX1] at HLIT
            go_wp2_with (first | (at_builtin; refine wpList_append_none_cap _ rfl (.tmp 33) (.tmp 35) 35 rfl (wr.heap.size + 1) 9 i0 1 Try.underlying35 HI.out _ 0 [] rfl HLIT.out c' rfl ?_))
            (try simp only [Exit.inBlock, Exit.then])
            refine bodyPost_ret (v := .tuple #[ov d.name (.slice (some ⟨wr.heap.size + 1, 0, none⟩) 0 0) d.res, .bool true]) ?_ rfl ?_
            · refine results_op (a := 4) (b := 5) (t := 109) (ad := ⟨w.heap.size + 1, 0, none⟩) rfl rfl _ _ ?_
              go_simp
              try rfl
            · rw [HFD.out, ← hY]
              refine FindE.fin (o := some d) (B := wr.heap.size) hW1 ?_ HFY.out.2.2 _ _ _
              show Y.ownsRow wr.heap.size 9 1 _ d.args.length (d.args.map Value.string)
              rw [hargs]
              simpa using HLY.out
          · have HCE := Lib.hid hcells; clear hcells
            have HXB := Lib.hid (And.intro r2 HFX.out)
            have hsx2 : X2.heap.size = wr.heap.size + 2 := by rw [hX2]; simp [hz1]
            have HHB2 := Lib.hid hb2
            have hnb : n' ≤ 1048576 := by rw [HN'.out]; exact HDL.out
            have hnl : (d.args.map Value.string).length = n' * 1 := by rw [List.length_map, HN'.out]; omega
            obtain ⟨⟨z0, z1, z2⟩, f0, f1, f2⟩ := cells_of3 r2
            rw [hX2, hX1] at z0 z1 z2 f0 f1 f2
            have HLX : Hid ((((wr.alloc (.cells #[.string d.name, .slice (some ad) n' c', .string d.res] 109)).alloc (.cells #[] 9))).ownsRow (wr.heap.size + 1) 9 1 (.slice (some ⟨wr.heap.size + 1, 0, none⟩) 0 0) 0 []) := Lib.hid (by rw [← hX1, ← hX2]; exact HLIT.out)
            have HNL := Lib.hid hnl; clear hnl
            have HEQ : Hid ((wr.alloc (.cells #[.string d.name, .slice (some ad) n' c', .string d.res] 109)).alloc (.cells #[] 9) = X2) := Lib.hid (by rw [← hX1, ← hX2])
            clear hX1 hX2 hb1 hb2 r2 hz1
            go_wp2_with (first | (at_builtin; refine wpList_append_own _ rfl (.tmp 33) (.tmp 35) 35 rfl (wr.heap.size + 1) 9 i0 (.string ByteArray.empty) 1 16 Try.underlying35 HI.out HZ0.out HZ1.out HZ2.out rfl (by decide) _ _ _ rfl HLX.out ad n' c' (d.args.map Value.string) rfl HNL.out ?c1 ?c2 ?c3 ?c4 ?c5 ?_))
            case c1 => intro j a hj; rw [HEQ.out]; exact HCE.out j a hj
            case c2 => intro a _; rfl
            case c3 => unfold maxLen; omega
            case c4 => omega
            intro v' w1 hown hgrow _
            rw [HEQ.out] at hgrow
            obtain ⟨va, vc, rfl⟩ := own_formF hown
            have q1 : w1.heap[wr.heap.size]? = _ := (hgrow.block wr.heap.size (by omega) (by simp [Value.ownBlock])).trans HXB.out.1
            have q2 : w1.heap[w.heap.size + 1]? = _ := (hgrow.block (w.heap.size + 1) (by omega) (by simp [Value.ownBlock]; omega)).trans HXB.out.2.2.1
            have hbw : Below wr.heap.size wr w1 := HHB2.out.grown hgrow HHB2.out.size (fun j hj => by simp [Value.ownBlock] at hj; omega)
            have HBF := Lib.hid (HF.out.2.2.trans (hbw.mono HF.out.2.2.size))
            have hs1 := hbw.size
            obtain ⟨⟨x0, x1, x2⟩, p0, p1, p2⟩ := cells_of3 q1
            obtain ⟨⟨t0, t1, t2⟩, h0, h1, h2⟩ := cells_of3 q2
            have HOW := Lib.hid hown; clear hown hgrow hbw q1 q2 z0 z1 z2 f0 f1 f2
            go_wp2
            (try simp only [Exit.inBlock, Exit.then])
            refine bodyPost_ret (v := .tuple #[ov d.name (.slice va n' vc) d.res, .bool true]) ?_ rfl ?_
            · refine results_op (a := 4) (b := 5) (t := 109) (ad := ⟨w.heap.size + 1, 0, none⟩) rfl rfl _ _ ?_
              go_simp
              try rfl
            · rw [HFD.out]
              have hnn : n' = d.args.length := HN'.out
              refine FindE.fin (o := some d) (B := wr.heap.size + 1) (by omega) ?_ (HBF.out.setCell (by show w.heap.size ≤ wr.heap.size; omega) _) _ _ _
              show World.ownsRow _ (wr.heap.size + 1) 9 1 _ d.args.length (d.args.map Value.string)
              rw [← hnn]
              exact row_off HOW.out (by omega)
        · have hq1 : (d.name.toList == nm.toList) = false := by simpa using hq
          have HNX : Hid (∀ d ∈ ds.take (k + 1), (d.name.toList == nm.toList) = false) := Lib.hid (fun x hx => by
            rw [take_next ds k d HD.out] at hx
            rcases List.mem_append.1 hx with h | h
            · exact HO.out x h
            · simp at h; subst h; exact hq1)
          clear hq
          go_wp2
          go_roundw
          case rel => exact ⟨k + 1, by omega, by go_num, HNX, by first | rfl | trivial⟩
          case measure => simp [intOf]; omega
      · have HFD := Lib.hid (findD_none (ds := ds) HBQ.out.symm (fun x hx => HO.out x (by rw [show k = ds.length by have := HN.out; omega, List.take_length]; exact hx)))
        go_wp2
        (try simp only [Exit.inBlock, Exit.then])
        refine bodyPost_ret (v := .tuple #[ov ⟨#[]⟩ (.slice none 0 0) ⟨#[]⟩, .bool false]) ?_ rfl ?_
        · refine results_op (a := 4) (b := 5) (t := 109) (ad := ⟨w.heap.size + 1, 0, none⟩) rfl rfl _ _ ?_
          go_simp
          try rfl
        · rw [HFD.out]
          exact FindE.fin (o := none) (B := w.heap.size + 2) (Nat.le_refl _) ⟨rfl, Or.inl ⟨rfl, rfl⟩⟩ HF.out.2.2 _ _ _
end Go.Proofs.Ytidbokheeieifaa
