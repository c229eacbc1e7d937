/-
  The law on FindOp answers true at every signature and name.
-/
import Derived.Test.YtcmhiindjponcaaQ13
import Derived.Test.YtcmhiindjponcaaQ15
import Derived.Test.YtcmhiindjponcaaQ16
import Derived.Test.YtcmhiindjponcaaQ17
namespace Go.Proofs.Ytcmhiindjponcaa
open Go.RowKit

/-- The two cells of a signature's box. -/
def BoxS2 (w : World) (b : Nat) (x y : Value) (t : TypeId) : Prop := w.heap[b]? = some (.cells #[x, y] t (0, 0))
theorem BoxS2.cells {w : World} {b : Nat} {x y : Value} {t : TypeId} (h : BoxS2 w b x y t) : w.cell? ⟨b, 0, none⟩ = some x ∧ w.cell? ⟨b, 1, none⟩ = some y :=
  ⟨by rw [cell_of_row _ _ 0 _ _ _ h]; rfl, by rw [cell_of_row _ _ 1 _ _ _ h]; rfl⟩

/-- Only blocks from lo to hi, and one more, have turned, and new ones are there. -/
def OutG (lo hi : Nat) (r : Option Nat) (w w' : World) : Prop :=
  w'.os = w.os ∧ w'.tape = w.tape ∧ w'.output = w.output ∧ w.heap.size ≤ w'.heap.size ∧ ∀ b, b < w.heap.size → (b < lo ∨ hi ≤ b) → some b ≠ r → w'.heap[b]? = w.heap[b]?
theorem OutG.of_out {lo hi : Nat} {r : Option Nat} {w w' : World} (h : Out lo hi w w') : OutG lo hi r w w' := ⟨h.1, h.2.1, h.2.2.1, h.2.2.2.1, fun b hb ho _ => h.2.2.2.2 b hb ho⟩
theorem OutG.grown {lo hi : Nat} {r : Option Nat} {a b c : World} (h : OutG lo hi r a b) (k : b.grownBy c r) : OutG lo hi r a c :=
  ⟨k.os.trans h.1, k.tape.trans h.2.1, k.output.trans h.2.2.1, Nat.le_trans h.2.2.2.1 k.size, fun i hi ho hr => (k.block i (Nat.lt_of_lt_of_le hi h.2.2.2.1) hr).trans (h.2.2.2.2 i hi ho hr)⟩
theorem OutG.below {lo hi : Nat} {r : Option Nat} {a b c : World} (h : OutG lo hi r a b) (k : Below b.heap.size b c) : OutG lo hi r a c := h.grown (Below.toGrown k r)

set_option maxRecDepth 100000 in
set_option maxHeartbeats 6400000 in
theorem exFind_any (x : Value) (nm : ByteArray) (ps : List ByteArray) (ds : List OpD) (w : World) (hp : StrsOk ps) (hd : OpsOk ds) (hv : SigAt w x ps ds) :
    Calls Try.prog 7 #[x, .string nm] w (TrueEnd w) := by
  have HV := Lib.hid hv
  obtain ⟨s, t, rfl, hs, ht⟩ := hv
  obtain ⟨sa, sc, rfl⟩ := hs.slice
  obtain ⟨ta, tc, rfl⟩ := ht.slice
  clear hs ht
  have HP := Lib.hid hp
  have HD := Lib.hid hd
  clear hp hd
  obtain ⟨m, hm⟩ : ∃ m, m = ps.length := ⟨_, rfl⟩
  obtain ⟨n, hn⟩ : ∃ n, n = ds.length := ⟨_, rfl⟩
  rw [← hm, ← hn] at HV ⊢
  clear hm hn
  obtain ⟨W, hW⟩ : ∃ W, W = w.alloc (.cells #[.slice sa m sc, .slice ta n tc] 55) := ⟨_, rfl⟩
  have hbW : Below w.heap.size w W := by rw [hW]; exact (Below.refl _ _).alloc (Nat.le_refl _) _
  have HBA : Hid (BoxS2 W w.heap.size (.slice sa m sc) (.slice ta n tc) 55) := Lib.hid (by rw [hW]; exact heap_new w _ rfl)
  have hWs : W.heap.size = w.heap.size + 1 := by rw [hW]; simp
  obtain ⟨c0, c1⟩ := HBA.out.cells
  have HBW := Lib.hid hbW; clear hbW
  have HVW : Hid (∀ w', Below w.heap.size w w' → SigAt w' (sv (.slice sa m sc) (.slice ta n tc)) ps ds) := Lib.hid (fun w' hb => by
    obtain ⟨a, b, e, h1, h2⟩ := HV.out
    exact ⟨a, b, e, h1.below hb, h2.below hb⟩)
  clear HV
  by_cases hnm : 1048576 < nm.size
  · go_enter Try.func7, Try.ntmps7
    go_wp2_with fail
    rw [← hW]
    clear hW
    go_wp2
    go_ret
    exact ⟨rfl, HBW.out⟩
  have hnm2 : nm.size ≤ 1048576 := by omega
  go_enter Try.func7, Try.ntmps7
  go_wp2_with fail
  rw [← hW]
  clear hW
  refine (szSig_any 1048576 _ ps ds W (by omega) (by omega) HP.out HD.out (HVW.out _ HBW.out)).mono ?_
  rintro e w1 ⟨r, rfl, hb1, hr1, hr2, hr3⟩
  have HB1 := Lib.hid (HBW.out.trans (hb1.mono HBW.out.size))
  have HBA1 : Hid (BoxS2 w1 w.heap.size (.slice sa m sc) (.slice ta n tc) 55) := Lib.hid ((hb1.block _ (by omega)).trans HBA.out)
  have HR := Lib.hid hr3; clear hr3 hb1 c0 c1 HBA hWs
  by_cases hr : r < 0
  · go_wp2
    go_ret
    exact ⟨rfl, HB1.out⟩
  have hsm := HR.out (by omega)
  have HSM := Lib.hid hsm; clear hsm HR
  have HTS : Hid (∀ w', Below w.heap.size w w' → Calls Try.prog 29 #[sv (.slice sa m sc) (.slice ta n tc)] w' (CopySig ps ds w')) := Lib.hid (fun w' hb => toSig_any _ ps ds w' (by have := HSM.out.1; omega) HSM.out.2.1 (fun d hd => by have := (HSM.out.2.2 d hd).2.1; omega) (HVW.out w' hb))
  have HSF : Hid (∀ w' x, SigAt w' x ps ds → Calls Try.prog 23 #[x, .string nm] w' (FindE (findD ds nm) w')) := Lib.hid (fun w' x h => sFind_any x nm ps ds w' (by omega) HSM.out.2.1 (fun d hd => by have := (HSM.out.2.2 d hd).2.1; omega) h)
  have HIF : Hid (∀ w' x, SigAt w' x ps ds → Calls Try.prog 22 #[x, .string nm] w' (FindE (findD ds nm) w')) := Lib.hid (fun w' x h => iFind_any x nm ps ds w' HSM.out.2.1 (fun d hd => by have := (HSM.out.2.2 d hd).2.1; omega) h)
  have HDL : Hid (((findD ds nm).getD zOp).args.length ≤ 1048576) := Lib.hid (by
    unfold findD
    split
    · simp
    · cases hf : ds.find? (fun d => d.name.toList == nm.toList) with
      | none => simp [zOp]
      | some d => have := (HSM.out.2.2 d (List.mem_of_find?_eq_some hf)).2.1; simp; omega)
  unfold FindE at HSF HIF
  obtain ⟨D, hD⟩ : ∃ D, D = (findD ds nm).getD zOp := ⟨_, rfl⟩
  obtain ⟨bs, hbs⟩ : ∃ b, b = (findD ds nm).isSome := ⟨_, rfl⟩
  rw [← hD, ← hbs] at HSF HIF
  rw [← hD] at HDL
  clear hD hbs
  obtain ⟨dn, das, dr⟩ := D
  have HDL2 : Hid (das.length ≤ 1048576) := Lib.hid HDL.out
  clear HDL
  have hqb : das.length ≤ 1048576 := HDL2.out
  have hbb : (bs != bs) = false := by simp
  -- the model
  obtain ⟨c0, c1⟩ := HBA1.out.cells
  go_wp2_with fail
  refine (HTS.out w1 HB1.out).mono ?_
  intro e w2 hc
  obtain ⟨u2, v2, rfl, hs2, hb2⟩ := hc.at
  have HS2 := Lib.hid hs2
  have HB2 := Lib.hid (HB1.out.trans (hb2.mono HB1.out.size))
  have hlt1 : w.heap.size < w1.heap.size := (Array.getElem?_eq_some_iff.1 HBA1.out).1
  have HBA2 : Hid (BoxS2 w2 w.heap.size (.slice sa m sc) (.slice ta n tc) 55) := Lib.hid ((hb2.block _ hlt1).trans HBA1.out)
  clear hc hs2 hb2 c0 c1
  go_wp2_with fail
  refine (HSF.out w2 _ HS2.out).mono ?_
  rintro e w3 ⟨u3, rfl, ho3, hb3⟩
  obtain ⟨a3, c3, rfl⟩ := own_formF ho3
  have H3 := Lib.hid ho3
  have HL3 : Hid (∀ b, (Value.slice a3 das.length c3).ownBlock = some b → w2.heap.size ≤ b ∧ b < w3.heap.size) := Lib.hid (fun b h => ho3.lt b h)
  have HB3 := Lib.hid (HB2.out.trans (hb3.mono HB2.out.size))
  have hlt2 : w.heap.size < w2.heap.size := (Array.getElem?_eq_some_iff.1 HBA2.out).1
  have HBA3 : Hid (BoxS2 w3 w.heap.size (.slice sa m sc) (.slice ta n tc) 55) := Lib.hid ((hb3.block _ hlt2).trans HBA2.out)
  have hz3 := hb3.size
  clear ho3 hb3
  obtain ⟨W4, hW4⟩ : ∃ W4, W4 = w3.alloc (.cells #[.string dn, .slice a3 das.length c3, .string dr] 47) := ⟨_, rfl⟩
  have hb4 : Below w3.heap.size w3 W4 := by rw [hW4]; exact (Below.refl _ _).alloc (Nat.le_refl _) _
  have h46 : W4.heap[w3.heap.size]? = some (.cells #[.string dn, .slice a3 das.length c3, .string dr] 47 (0, 0)) := by rw [hW4]; exact heap_new w3 _ rfl
  have hz4 : W4.heap.size = w3.heap.size + 1 := by rw [hW4]; simp
  have HB4 := Lib.hid (HB3.out.trans (hb4.mono HB3.out.size))
  have HBA4 : Hid (BoxS2 W4 w.heap.size (.slice sa m sc) (.slice ta n tc) 55) := Lib.hid ((hb4.block _ (by omega)).trans HBA3.out)
  have H4 := Lib.hid (keep_own H3.out hb4)
  have H46 := Lib.hid h46
  have HS3 := Lib.hid (And.intro hlt2 (And.intro hz3 hz4))
  obtain ⟨c0, c1⟩ := HBA4.out.cells
  rw [hW4] at c0 c1
  clear h46 hlt1 hlt2 hz3 hz4 hb4
  -- the argument
  go_wp2_with fail
  rw [← hW4]
  clear hW4 c0 c1
  refine (HTS.out W4 HB4.out).mono ?_
  rintro e w5 ⟨u5, v5, m5, rfl, x1, x2, x3, x4, x5, hb5⟩
  obtain ⟨ua, uc, rfl⟩ := own_formF x1
  obtain ⟨va, vc, rfl⟩ := x5.at.slice
  have HB5 := Lib.hid (HB4.out.trans (hb5.mono HB4.out.size))
  have HBA5 : Hid (BoxS2 w5 w.heap.size (.slice sa m sc) (.slice ta n tc) 55) := Lib.hid ((hb5.block _ (by have := HS3.out; omega)).trans HBA4.out)
  have H5 := Lib.hid (keep_own H4.out hb5)
  have H56 := Lib.hid ((hb5.block _ (by have := HS3.out; omega)).trans H46.out)
  have HZ5 := Lib.hid hb5.size
  obtain ⟨W6, hW6⟩ : ∃ W6, W6 = w5.alloc (.cells #[.slice ua ps.length uc, .slice va ds.length vc] 27) := ⟨_, rfl⟩
  have hb6 : Below w5.heap.size w5 W6 := by rw [hW6]; exact (Below.refl _ _).alloc (Nat.le_refl _) _
  have h68 : BoxS2 W6 w5.heap.size (.slice ua ps.length uc) (.slice va ds.length vc) 27 := by rw [hW6]; exact heap_new w5 _ rfl
  have hz6 : W6.heap.size = w5.heap.size + 1 := by rw [hW6]; simp
  have HZ6 := Lib.hid hz6
  have HB6 := Lib.hid (HB5.out.trans (hb6.mono HB5.out.size))
  have HBA6 : Hid (BoxS2 W6 w.heap.size (.slice sa m sc) (.slice ta n tc) 55) := Lib.hid ((hb6.block _ (by have := HS3.out; have := HZ5.out; omega)).trans HBA5.out)
  have H6 := Lib.hid (keep_own H5.out hb6)
  have H66 := Lib.hid ((hb6.block _ (by have := HS3.out; have := HZ5.out; omega)).trans H56.out)
  have H68 := Lib.hid h68
  have HX1 := Lib.hid (keep_own x1 hb6)
  have HX2 := Lib.hid (And.intro x2 (And.intro x3 x4))
  have HX5 := Lib.hid (x5.below hb6 (Nat.le_refl _))
  have HS6 : Hid (SigAt W6 (sv (.slice ua ps.length uc) (.slice va ds.length vc)) ps ds) := Lib.hid ⟨_, _, rfl, StrsAt.of_owns HX1.out, HX5.out.at⟩
  clear h68 x1 x2 x3 x4 x5 hz6 hb5 hb6
  go_wp2_with fail
  rw [← hW6]
  clear hW6
  refine (HIF.out W6 _ HS6.out).mono ?_
  rintro e w7 ⟨u7, rfl, ho7, hb7⟩
  obtain ⟨a7, c7, rfl⟩ := own_formF ho7
  have HZ7 := Lib.hid hb7.size
  obtain ⟨Wg, hWg⟩ : ∃ Wg, Wg = w7.alloc (.cells #[.string dn, .slice a7 das.length c7, .string dr] 47) := ⟨_, rfl⟩
  have hb8 : Below w7.heap.size w7 Wg := by rw [hWg]; exact (Below.refl _ _).alloc (Nat.le_refl _) _
  have hbg : Below W6.heap.size W6 Wg := hb7.trans (hb8.mono hb7.size)
  have hz8 : Wg.heap.size = w7.heap.size + 1 := by rw [hWg]; simp
  have HZ8 := Lib.hid hz8
  have H89 : Hid (Wg.heap[w7.heap.size]? = some (.cells #[.string dn, .slice a7 das.length c7, .string dr] 47 (0, 0))) := Lib.hid (by rw [hWg]; exact heap_new w7 _ rfl)
  have HL7 : Hid (∀ b, (Value.slice a7 das.length c7).ownBlock = some b → W6.heap.size ≤ b ∧ b < w7.heap.size) := Lib.hid (fun b h => ho7.lt b h)
  have H87 := Lib.hid (keep_own ho7 hb8)
  have HBG := Lib.hid (HB6.out.trans (hbg.mono HB6.out.size))
  have HBAG : Hid (BoxS2 Wg w.heap.size (.slice sa m sc) (.slice ta n tc) 55) := Lib.hid ((hbg.block _ (by have := HS3.out; have := HZ5.out; have := HZ6.out; omega)).trans HBA6.out)
  have HG3 := Lib.hid (keep_own H6.out hbg)
  have HG6 := Lib.hid ((hbg.block _ (by have := HS3.out; have := HZ5.out; have := HZ6.out; omega)).trans H66.out)
  have HG8 : Hid (BoxS2 Wg w5.heap.size (.slice ua ps.length uc) (.slice va ds.length vc) 27) := Lib.hid ((hbg.block _ (by have := HZ6.out; omega)).trans H68.out)
  have HGX1 := Lib.hid (keep_own HX1.out hbg)
  have HGX5 := Lib.hid (HX5.out.below hbg (by have := HZ6.out; omega))
  clear ho7 hb7 hb8 hbg hz8 HBA4 HBA3 HBA2 HBA1 HBA5 HBA6 H3 H4 H5 H6 H46 H56 H66 H68 HX1 HX5 HS6 HB1 HB2 HB3 HB4 HB5 HB6 HS2
  -- what stays while only the argument's rows and the answer's row turn
  have HK : Hid (∀ wr, OutG W4.heap.size w5.heap.size (Value.slice a7 das.length c7).ownBlock Wg wr → Below w.heap.size w wr ∧ BoxS2 wr w.heap.size (.slice sa m sc) (.slice ta n tc) 55 ∧ wr.ownsRow w2.heap.size 9 1 (.slice a3 das.length c3) das.length (das.map Value.string) ∧
      wr.heap[w3.heap.size]? = some (.cells #[.string dn, .slice a3 das.length c3, .string dr] 47 (0, 0)) ∧ BoxS2 wr w5.heap.size (.slice ua ps.length uc) (.slice va ds.length vc) 27 ∧ wr.heap[w7.heap.size]? = some (.cells #[.string dn, .slice a7 das.length c7, .string dr] 47 (0, 0))) := Lib.hid (fun wr ho => by
    have z3 := HS3.out
    have z5 := HZ5.out
    have z6 := HZ6.out
    have z7 := HZ7.out
    have z8 := HZ8.out
    have blk : ∀ b, b < Wg.heap.size → (b < W4.heap.size ∨ w5.heap.size ≤ b) → (b < W6.heap.size ∨ w7.heap.size ≤ b) → wr.heap[b]? = Wg.heap[b]? := fun b h1 h2 h3 => ho.2.2.2.2 b h1 h2 (fun e => by have := HL7.out b e.symm; omega)
    refine ⟨⟨ho.1.trans HBG.out.os, ho.2.1.trans HBG.out.tape, ho.2.2.1.trans HBG.out.output, Nat.le_trans HBG.out.size ho.2.2.2.1, fun b hb => (blk b (by omega) (by omega) (by omega)).trans (HBG.out.block b hb)⟩, ?_, ?_, ?_, ?_, ?_⟩
    · exact (blk _ (by omega) (by omega) (by omega)).trans HBAG.out
    · exact row_keep' HG3.out (fun b hb => by have := HL3.out b hb; exact blk b (by omega) (by omega) (by omega))
    · exact (blk _ (by omega) (by omega) (by omega)).trans HG6.out
    · exact (blk _ (by omega) (by omega) (by omega)).trans HG8.out
    · exact (blk _ (by omega) (by omega) (by omega)).trans H89.out)
  have HKG : Hid (∀ wr, Out W4.heap.size w5.heap.size Wg wr → wr.ownsRow W6.heap.size 9 1 (.slice a7 das.length c7) das.length (das.map Value.string)) := Lib.hid (fun wr ho => row_keep' H87.out (fun b hb => ho.2.2.2.2 b (by have := HL7.out b hb; have := HZ8.out; omega) (Or.inr (by have := HL7.out b hb; have := HZ6.out; omega))))
  obtain ⟨_, _, _, k6, _, k9⟩ := HK.out Wg (OutG.of_out (Out.refl _ _ _))
  obtain ⟨⟨y0, y1, y2⟩, _⟩ := cells_of3 k6
  obtain ⟨⟨z0, z1, z2⟩, _⟩ := cells_of3 k9
  rw [hWg] at y0 y1 y2 z0 z1 z2
  clear k6 k9
  go_wp2_with fail
  rw [← hWg]
  clear hWg y0 y1 y2 z0 z1 z2
  refine (eqOp_any ⟨dn, das, dr⟩ _ _ Wg (by show das.length ≤ _; omega) (StrsAt.of_owns H87.out) (StrsAt.of_owns HG3.out)).mono ?_
  rintro e w9 ⟨rfl, hb9⟩
  have HG9 := Lib.hid hb9; clear hb9
  have HKB : Hid (∀ w', Below w9.heap.size w9 w' → w'.cell? ⟨w5.heap.size, 0, none⟩ = some (.slice ua ps.length uc) ∧ w'.cell? ⟨w5.heap.size, 1, none⟩ = some (.slice va ds.length vc) ∧ w'.cell? ⟨w.heap.size, 0, none⟩ = some (.slice sa m sc) ∧ w'.cell? ⟨w.heap.size, 1, none⟩ = some (.slice ta n tc) ∧ Below w9.heap.size w9 w') := Lib.hid (fun w' hb => by
    obtain ⟨_, kA, _, _, k8, _⟩ := HK.out w' (OutG.of_out (Out.of_below (HG9.out.trans (hb.mono HG9.out.size))))
    exact ⟨k8.cells.1, k8.cells.2, kA.cells.1, kA.cells.2, hb⟩)
  have HS9 : Hid (∀ w', Below w9.heap.size w9 w' → SigAt w' (sv (.slice ua ps.length uc) (.slice va ds.length vc)) ps ds) := Lib.hid (fun w' hb => by
    have hbb := HG9.out.trans (hb.mono HG9.out.size)
    exact ⟨_, _, rfl, StrsAt.of_owns (keep_own HGX1.out hbb), HGX5.out.at.below hbb⟩)
  have HT9 : Hid (∀ w', Below w9.heap.size w9 w' → Calls Try.prog 29 #[sv (.slice sa m sc) (.slice ta n tc)] w' (CopySig ps ds w')) := Lib.hid (fun w' hb => HTS.out w' (HBG.out.trans ((HG9.out.trans (hb.mono HG9.out.size)).mono HBG.out.size)))
  obtain ⟨c0, c1, c2, c3', hb0⟩ := HKB.out _ (Below.refl _ _)
  go_wp2_with fail
  go_region_held3 (fun w' => w'.cell? ⟨w5.heap.size, 0, none⟩ = some (.slice ua ps.length uc) ∧ w'.cell? ⟨w5.heap.size, 1, none⟩ = some (.slice va ds.length vc) ∧ w'.cell? ⟨w.heap.size, 0, none⟩ = some (.slice sa m sc) ∧ w'.cell? ⟨w.heap.size, 1, none⟩ = some (.slice ta n tc) ∧ Below w9.heap.size w9 w')
    (first | exact HKB.out _ (by (repeat' (first | assumption | exact Below.refl _ _ | refine Below.drew ?_ | refine bel_alF ?_ _ | refine bel_twF ?_ (by assumption)))) | go_keep)
    (first
      | (go_at_call 29; refine (HT9.out _ (by (repeat' (first | assumption | exact Below.refl _ _ | refine Below.drew ?_ | refine bel_alF ?_ _ | refine bel_twF ?_ (by assumption))))).mono ?_; intro e w10 hc; obtain ⟨u10, v10, rfl, hs10, hb10⟩ := hc.at)
      | (go_at_call 30; refine (eqSig_any _ _ ps ds _ (by have := HSM.out.1; omega) HSM.out.2.1 (fun d hd => by have := (HSM.out.2.2 d hd).2.1; omega) (HS9.out _ (by (repeat' (first | assumption | exact Below.refl _ _ | refine Below.drew ?_ | refine bel_alF ?_ _ | refine bel_twF ?_ (by assumption))))) hs10).mono ?_; rintro e w11 ⟨rfl, hb11⟩))
  have HB11 : Hid (Below w9.heap.size w9 w11) := Lib.hid (by (repeat' (first | assumption | exact Below.refl _ _ | refine Below.drew ?_ | refine bel_alF ?_ _ | refine bel_twF ?_ (by assumption))))
  have HG11 := Lib.hid (HG9.out.trans (HB11.out.mono HG9.out.size))
  clear c0 c1 c2 c3' hb0 hs10 hb10 hb11 HS9 HT9 HKB
  -- the argument is written over
  obtain ⟨_, _, _, _, k8, _⟩ := HK.out w11 (OutG.of_out (Out.of_below HG11.out))
  obtain ⟨c0, c1⟩ := k8.cells
  clear k8
  go_wp2_with fail
  refine (markSig_any W4.heap.size m5 w5.heap.size _ _ ps ds w11 (by have := HSM.out.1; omega) HSM.out.2.1 (fun d hd => by have := (HSM.out.2.2 d hd).2.1; omega) (keep_own HGX1.out HG11.out) HX2.out.1 HX2.out.2.1 HX2.out.2.2 (HGX5.out.below HG11.out (by have := HZ6.out; have := HZ7.out; have := HZ8.out; omega)) (by have := HZ6.out; have := HZ7.out; have := HZ8.out; have := HG11.out.size; omega)).mono ?_
  rintro e w12 ⟨k12, rfl, hk1, hk2, ho12⟩
  have HO12 := Lib.hid ((Out.of_below HG11.out).trans ho12)
  clear c0 c1 ho12
  have hkneg : ¬ k12 < 0 := by omega
  obtain ⟨_, _, k3, k6, _, k9⟩ := HK.out w12 (OutG.of_out HO12.out)
  obtain ⟨⟨y0, y1, y2⟩, _⟩ := cells_of3 k6
  obtain ⟨⟨z0, z1, z2⟩, _⟩ := cells_of3 k9
  have H37 := Lib.hid k3
  clear k6 k9 k3
  go_wp2_with fail
  refine (eqOp_any ⟨dn, das, dr⟩ _ _ w12 (by show das.length ≤ _; omega) (StrsAt.of_owns (HKG.out _ HO12.out)) (StrsAt.of_owns H37.out)).mono ?_
  rintro e w13 ⟨rfl, hb13⟩
  have HO13 := Lib.hid (HO12.out.trans (Out.of_below hb13))
  clear y0 y1 y2 z0 z1 z2 hb13 H37
  obtain ⟨_, _, _, _, _, k9⟩ := HK.out w13 (OutG.of_out HO13.out)
  obtain ⟨⟨z0, z1, z2⟩, _⟩ := cells_of3 k9
  clear k9
  -- the answer is written over
  go_wp2_with fail
  refine (markOp_any W6.heap.size dn dr _ das.length (das.map Value.string) w13 (by omega) (HKG.out _ HO13.out)).mono ?_
  rintro e w14 ⟨rfl, ho14, hg14⟩
  have HM14 := Lib.hid ho14
  have HO14 := Lib.hid ((OutG.of_out HO13.out).grown hg14)
  clear z0 z1 z2 ho14 hg14
  obtain ⟨_, _, _, _, _, k9⟩ := HK.out w14 HO14.out
  obtain ⟨⟨z0, z1, z2⟩, _⟩ := cells_of3 k9
  clear k9
  go_wp2_with fail
  refine (heldOp_any W6.heap.size dn dr _ das.length w14 (by omega) HM14.out).mono ?_
  rintro e w15 ⟨rfl, hb15⟩
  have HM15 := Lib.hid (keep_own HM14.out hb15)
  have HO15 := Lib.hid (HO14.out.below hb15)
  clear z0 z1 z2 hb15
  have hpos : ¬ ((1 : Nat) : Int) + (das.length : Int) < 0 := by omega
  have hpos1 : ¬ (1 : Int) + (das.length : Int) < 0 := by omega
  have heq2 : ((1 : Int) + (das.length : Int) != 1 + (das.length : Int)) = false := by simp
  obtain ⟨k1, kA, _, _, _, _⟩ := HK.out w15 HO15.out
  obtain ⟨c0, c1⟩ := kA.cells
  have HW15 := Lib.hid k1
  clear kA k1
  -- once more
  go_wp2_with fail
  refine (HTS.out w15 HW15.out).mono ?_
  intro e w16 hc
  obtain ⟨u16, v16, rfl, hs16, hb16⟩ := hc.at
  have HS16 := Lib.hid hs16
  have HM16 := Lib.hid (keep_own HM15.out hb16)
  have HO16 := Lib.hid (HO15.out.below hb16)
  clear hc hs16 hb16 c0 c1
  go_wp2_with fail
  refine (HIF.out w16 _ HS16.out).mono ?_
  rintro e w17 ⟨u17, rfl, ho17, hb17⟩
  obtain ⟨a17, c17, rfl⟩ := own_formF ho17
  obtain ⟨W18, hW18⟩ : ∃ W18, W18 = w17.alloc (.cells #[.string dn, .slice a17 das.length c17, .string dr] 47) := ⟨_, rfl⟩
  have hb18 : Below w17.heap.size w17 W18 := by rw [hW18]; exact (Below.refl _ _).alloc (Nat.le_refl _) _
  have HM18 := Lib.hid (keep_own (keep_own HM16.out hb17) hb18)
  have HO18 := Lib.hid ((HO16.out.below hb17).below hb18)
  have H18 := Lib.hid (keep_own ho17 hb18)
  obtain ⟨_, _, k3, k6, _, _⟩ := HK.out W18 HO18.out
  have H38 := Lib.hid k3
  obtain ⟨⟨y0, y1, y2⟩, _⟩ := cells_of3 k6
  rw [hW18] at y0 y1 y2
  clear k3 k6 ho17 hb17 hb18
  go_wp2_with fail
  rw [← hW18]
  clear hW18 y0 y1 y2
  refine (eqOp_any ⟨dn, das, dr⟩ _ _ W18 (by show das.length ≤ _; omega) (StrsAt.of_owns H18.out) (StrsAt.of_owns H38.out)).mono ?_
  rintro e w19 ⟨rfl, hb19⟩
  have HM19 := Lib.hid (keep_own HM18.out hb19)
  have HO19 := Lib.hid (HO18.out.below hb19)
  clear hb19
  obtain ⟨_, _, _, _, _, k9⟩ := HK.out w19 HO19.out
  obtain ⟨⟨z0, z1, z2⟩, _⟩ := cells_of3 k9
  clear k9
  go_wp2_with fail
  refine (heldOp_any W6.heap.size dn dr _ das.length w19 (by omega) HM19.out).mono ?_
  rintro e w20 ⟨rfl, hb20⟩
  have HO20 := Lib.hid (HO19.out.below hb20)
  clear z0 z1 z2 hb20
  have HF := Lib.hid (HK.out w20 HO20.out).1
  go_wp2
  go_ret
  exact ⟨rfl, HF.out⟩
end Go.Proofs.Ytcmhiindjponcaa
