/-
  spec.l6Sort, spec.l6Op and spec.IsValidSignature tell the signatures that are valid.
  impl.operatorNamed hands back the operator that a name finds, as one of three kinds.
-/
import Derived.Test.YtcmhiindjponcaaQ3
import Derived.Test.YtcmhiindjponcaaQ8
import Derived.Test.YtcmhiindjponcaaQ9
import Derived.Test.YtcmhiindjponcaaQ4
import Derived.Test.YtcmhiindjponcaaQ5
import Derived.Test.YtcmhiindjponcaaQ7
import Derived.Deep.RegionHeld3
namespace Go.Proofs.Ytcmhiindjponcaa
open Go.RowKit

/-- The name of the sort of the words. -/
abbrev wordL : List UInt8 := [119, 111, 114, 100]
theorem word_ways (s : ByteArray) : (s.toList = [119, 111, 114, 100] ∧ (s.toList == [119, 111, 114, 100]) = true) ∨ (¬ s.toList = [119, 111, 114, 100] ∧ (s.toList == [119, 111, 114, 100]) = false) := by
  by_cases h : s.toList = [119, 111, 114, 100]
  · left; simp [h]
  · right; simp [h]
/-- A sort of a signature. -/
def SortOk (ps : List ByteArray) (s : ByteArray) : Prop := s.toList = [119, 111, 114, 100] ∨ s ∈ ps
/-- An operator of a signature. -/
def ValidOp (ps : List ByteArray) (d : OpD) : Prop := Nm 97 122 d.name ∧ builtinB d.name = false ∧ d.args.length ≤ 3 ∧ (∀ s ∈ d.args, SortOk ps s) ∧ SortOk ps d.res
def SortName (p : ByteArray) : Prop := Nm 97 122 p ∧ ¬ p.toList = [119, 111, 114, 100]
def ValidSig (ps : List ByteArray) (ds : List OpD) : Prop := ps.length ≤ 4 ∧ ps.Nodup ∧ ds.length ≤ 16 ∧ (ds.map OpD.name).Nodup ∧ (∀ p ∈ ps, SortName p) ∧ ∀ d ∈ ds, ValidOp ps d

theorem idx_ways (ps : List ByteArray) (s : ByteArray) : (Lib.idxOfS ps s = -1 ∧ s ∉ ps) ∨ (∃ k : Nat, Lib.idxOfS ps s = (k : Int) ∧ k < ps.length ∧ s ∈ ps) := by
  by_cases h : ∃ k, NotYet ps s k ∧ ps[k]? = some s
  · obtain ⟨k, h1, h2⟩ := h
    exact Or.inr ⟨k, idx_hit h1 h2, (List.getElem?_eq_some_iff.1 h2).1, List.mem_of_getElem? h2⟩
  · have hn : ∀ k, NotYet ps s k := by
      intro k
      induction k with
      | zero => intro j p hj; omega
      | succ k ih =>
        intro j p hj hp
        by_cases e : j = k
        · subst e
          intro e2
          exact h ⟨j, ih, by rw [hp, e2]⟩
        · exact ih j p (by omega) hp
    refine Or.inl ⟨idx_miss (hn _), fun hm => ?_⟩
    obtain ⟨j, hj⟩ := List.mem_iff_getElem?.1 hm
    exact hn (j + 1) j s (by omega) hj rfl

set_option maxRecDepth 100000 in
set_option maxHeartbeats 800000 in
theorem sSort_any (ua : Value) (bb : Option Addr) (bn bc : Nat) (ps : List ByteArray) (s : ByteArray) (w : World) (hl : ps.length ≤ 1048576) (ha : StrsAt w ua ps) :
    Calls Try.prog 103 #[sv ua (.slice bb bn bc), .string s] w (TellsB (SortOk ps s) w) := by
  have HA := Lib.hid ha
  obtain ⟨a0, c0, rfl⟩ := ha.slice
  clear ha
  have HBA : Hid (∀ o, Below w.heap.size w (w.alloc o)) := Lib.hid (fun o => (Below.refl _ _).alloc (Nat.le_refl _) _)
  rcases word_ways s with ⟨h1, h2⟩ | ⟨h1, h2⟩
  · have H1 := Lib.hid h1; clear h1
    go_enter Try.func103, Try.ntmps103
    go_wp2
    go_ret
    exact ⟨true, rfl, ⟨fun _ => Or.inl H1.out, fun _ => rfl⟩, HBA.out _⟩
  · have H1 := Lib.hid h1; clear h1
    go_enter Try.func103, Try.ntmps103
    go_wp2_with fail
    refine (sIndex_any _ ps s _ (by omega) (HA.out.below (HBA.out _))).mono ?_
    rintro e w1 ⟨rfl, rfl⟩
    rcases idx_ways ps s with ⟨hi, hm⟩ | ⟨k, hi, hk, hm⟩
    · rw [hi]
      have HM := Lib.hid hm; clear hm hi
      go_wp2
      go_ret
      exact ⟨false, rfl, ⟨fun h => by simp at h, fun h => by rcases h with h | h; exact absurd h H1.out; exact absurd h HM.out⟩, HBA.out _⟩
    · rw [hi]
      have HM := Lib.hid hm; clear hm hi
      go_wp2
      go_ret
      exact ⟨true, rfl, ⟨fun _ => Or.inr HM.out, fun _ => rfl⟩, HBA.out _⟩
theorem StrsAt.at {w : World} {u : Value} {ps : List ByteArray} (h : StrsAt w u ps) {k : Nat} {p : ByteArray} (hp : ps[k]? = some p) : ∃ b o cap, u = .slice (some ⟨b, o, none⟩) ps.length cap ∧ w.cell? ⟨b, o + k, none⟩ = some (.string p) := by
  obtain ⟨a, cap, rfl, h⟩ := h
  rcases h with rfl | ⟨b, o, rfl, h⟩
  · simp at hp
  · exact ⟨b, o, cap, rfl, h k p hp⟩
theorem OpsAt.at {w : World} {u : Value} {ds : List OpD} (h : OpsAt w u ds) {k : Nat} {d : OpD} (hp : ds[k]? = some d) : ∃ b o cap a' n' c', u = .slice (some ⟨b, o, none⟩) ds.length cap ∧ w.cell? ⟨b, o + k * 3, none⟩ = some (.string d.name) ∧
    w.cell? ⟨b, o + k * 3 + 1, none⟩ = some (.slice a' n' c') ∧ w.cell? ⟨b, o + k * 3 + 2, none⟩ = some (.string d.res) ∧ StrsAt w (.slice a' n' c') d.args := by
  obtain ⟨a, cap, rfl, h⟩ := h
  rcases h with rfl | ⟨b, o, rfl, h⟩
  · simp at hp
  · obtain ⟨u', c0, c1, c2, hs⟩ := h k d hp
    obtain ⟨a', c', rfl⟩ := hs.slice
    exact ⟨b, o, cap, a', _, c', rfl, c0, c1, c2, hs⟩

set_option maxRecDepth 100000 in
set_option maxHeartbeats 1600000 in
theorem sOp_any (ua u : Value) (bb : Option Addr) (bn bc : Nat) (ps : List ByteArray) (d : OpD) (w : World) (hl : ps.length ≤ 1048576) (hal : d.args.length ≤ 1048576) (hnm : d.name.size ≤ 1048576) (ha : StrsAt w ua ps) (hu : StrsAt w u d.args) :
    Calls Try.prog 60 #[sv ua (.slice bb bn bc), ov d.name u d.res] w (TellsB (ValidOp ps d) w) := by
  have HA := Lib.hid ha
  have HU := Lib.hid hu
  obtain ⟨a0, c0, rfl⟩ := ha.slice
  obtain ⟨a1, c1, rfl⟩ := hu.slice
  clear ha hu
  have HV : Hid (ValidOp ps d ↔ (Nm 97 122 d.name ∧ builtinB d.name = false ∧ d.args.length ≤ 3 ∧ (∀ s ∈ d.args, SortOk ps s) ∧ SortOk ps d.res)) := Lib.hid Iff.rfl
  obtain ⟨nm, xs, rs⟩ := d
  obtain ⟨X, hX⟩ : ∃ X, X = ValidOp ps ⟨nm, xs, rs⟩ := ⟨_, rfl⟩
  rw [← hX] at HV ⊢
  clear hX
  obtain ⟨W, hW⟩ : ∃ W, W = (w.alloc (.cells #[.slice a0 ps.length c0, .slice bb bn bc] 27)).alloc (.cells #[.string nm, .slice a1 xs.length c1, .string rs] 47) := ⟨_, rfl⟩
  have hbW : Below w.heap.size w W := by rw [hW]; exact ((Below.refl _ _).alloc (Nat.le_refl _) _).alloc (by simp) _
  have hWs : W.heap.size = w.heap.size + 1 + 1 := by rw [hW]; simp
  have r0 : W.heap[w.heap.size]? = some (.cells #[.slice a0 ps.length c0, .slice bb bn bc] 27 (0, 0)) := by rw [hW]; exact heap_mid _ _ _ rfl
  have r1 : W.heap[w.heap.size + 1]? = some (.cells #[.string nm, .slice a1 xs.length c1, .string rs] 47 (0, 0)) := by rw [hW]; exact heap_new _ _ (by simp)
  have HCS : Hid (∀ w', Below W.heap.size W w' → w'.cell? ⟨w.heap.size, 0, none⟩ = some (.slice a0 ps.length c0) ∧ w'.cell? ⟨w.heap.size, 1, none⟩ = some (.slice bb bn bc) ∧ w'.cell? ⟨w.heap.size + 1, 0, none⟩ = some (.string nm) ∧ w'.cell? ⟨w.heap.size + 1, 1, none⟩ = some (.slice a1 xs.length c1) ∧ w'.cell? ⟨w.heap.size + 1, 2, none⟩ = some (.string rs) ∧ Below W.heap.size W w') := Lib.hid (fun w' hb => by
    have q0 := (hb.block w.heap.size (by omega)).trans r0
    have q1 := (hb.block (w.heap.size + 1) (by omega)).trans r1
    refine ⟨?_, ?_, ?_, ?_, ?_, hb⟩
    · rw [cell_of_row w' _ 0 _ _ _ q0]; rfl
    · rw [cell_of_row w' _ 1 _ _ _ q0]; rfl
    · rw [cell_of_row w' _ 0 _ _ _ q1]; rfl
    · rw [cell_of_row w' _ 1 _ _ _ q1]; rfl
    · rw [cell_of_row w' _ 2 _ _ _ q1]; rfl)
  have HBW := Lib.hid hbW; clear hbW r0 r1 hWs
  have HAW : Hid (∀ w', Below W.heap.size W w' → StrsAt w' (.slice a0 ps.length c0) ps) := Lib.hid (fun w' hb => (HA.out.below HBW.out).below hb)
  have HUW : Hid (∀ w', Below W.heap.size W w' → StrsAt w' (.slice a1 xs.length c1) xs) := Lib.hid (fun w' hb => (HU.out.below HBW.out).below hb)
  have HSO : Hid (∀ w' s, Below W.heap.size W w' → Calls Try.prog 103 #[sv (.slice a0 ps.length c0) (.slice bb bn bc), .string s] w' (TellsB (SortOk ps s) w')) := Lib.hid (fun w' s hb => sSort_any _ bb bn bc ps s w' hl (HAW.out w' hb))
  obtain ⟨n, hn⟩ : ∃ n, n = xs.length := ⟨_, rfl⟩
  have hn' : xs.length = n := hn.symm
  have hal2 : n ≤ 1048576 := by rw [hn]; exact hal
  clear hal
  have hnm2 : nm.size ≤ 1048576 := hnm
  clear hnm
  rw [hn'] at HU hW HCS HUW
  rw [hn']
  have HN := Lib.hid hn; clear hn hn'
  obtain ⟨c0', c1', c2', c3', c4', _⟩ := HCS.out W (Below.refl _ _)
  go_enter Try.func60, Try.ntmps60
  go_wp2_with fail
  rw [← hW]
  clear hW c0' c1' c2' c3' c4'
  go_loopw [5] (fun i wr => ∃ k : Nat, k ≤ n ∧ i = .int .i64 k ∧ Hid (∀ s ∈ xs.take k, SortOk ps s) ∧ Hid (Below W.heap.size W wr)) (fun i _ => n - (intOf i).toNat)
  case atStart => exact ⟨0, Nat.zero_le _, rfl, Lib.hid (fun s hs => by simp at hs), Lib.hid (Below.refl _ _)⟩
  case round =>
    obtain ⟨k, hk, rfl, HO, HB⟩ := hrel
    obtain ⟨c0', c1', c2', c3', c4', _⟩ := HCS.out wr HB.out
    by_cases hlt : k < n
    · obtain ⟨p, hp⟩ : ∃ p, xs[k]? = some p := ⟨_, List.getElem?_eq_getElem (by have := HN.out; omega)⟩
      have HT := Lib.hid (take_next xs k p hp)
      have HPM := Lib.hid (List.mem_of_getElem? hp)
      obtain ⟨g, o, cc, ee, hc⟩ := (HUW.out wr HB.out).at hp
      clear hp
      simp only [Value.slice.injEq] at ee
      obtain ⟨rfl, _, rfl⟩ := ee
      have hblt : g < wr.heap.size := World.block_lt_of_cell? wr _ hc
      have HK : Hid (∀ w', Below wr.heap.size wr w' → w'.cell? ⟨w.heap.size, 0, none⟩ = some (.slice a0 ps.length c0) ∧ w'.cell? ⟨w.heap.size, 1, none⟩ = some (.slice bb bn bc) ∧ w'.cell? ⟨w.heap.size + 1, 1, none⟩ = some (.slice (some ⟨g, o, none⟩) n c1) ∧ w'.cell? ⟨g, o + k, none⟩ = some (.string p) ∧ Below wr.heap.size wr w') := Lib.hid (fun w' hb => by
        obtain ⟨q0, q1, _, q3, _, _⟩ := HCS.out w' (HB.out.trans (hb.mono HB.out.size))
        exact ⟨q0, q1, q3, by rw [hb.cell hblt]; exact hc, hb⟩)
      have HCALL : Hid (∀ w', Below wr.heap.size wr w' → Calls Try.prog 103 #[sv (.slice a0 ps.length c0) (.slice bb bn bc), .string p] w' (TellsB (SortOk ps p) w')) := Lib.hid (fun w' hb => HSO.out w' p (HB.out.trans (hb.mono HB.out.size)))
      clear c2' c4' hblt
      have hb0 : Below wr.heap.size wr wr := Below.refl _ _
      go_wp2
      go_region_held3 (fun w' => w'.cell? ⟨w.heap.size, 0, none⟩ = some (.slice a0 ps.length c0) ∧ w'.cell? ⟨w.heap.size, 1, none⟩ = some (.slice bb bn bc) ∧ w'.cell? ⟨w.heap.size + 1, 1, none⟩ = some (.slice (some ⟨g, o, none⟩) n c1) ∧ w'.cell? ⟨g, o + k, none⟩ = some (.string p) ∧ Below wr.heap.size wr w')
        (first | exact HK.out _ (by assumption) | exact HK.out _ (bel_drew (by assumption)) | exact HK.out _ (Below.drew (by assumption)) | exact HK.out _ (Below.trans (by assumption) (Below.mono (by assumption) (Below.size (by assumption)))) | go_keep)
        (first | (go_at_call 103; refine (HCALL.out _ (by first | assumption | exact Below.drew (by assumption))).mono ?_; rintro e w1 ⟨bq, rfl, hbq, hb1⟩))
      have HQ := Lib.hid hbq; clear hbq
      have HB2 := Lib.hid (HB.out.trans ((bel_drew hb1).mono HB.out.size)); clear hb1
      clear c0' c1' c3' hc
      cases bq with
      | false =>
        go_wp2
        go_ret
        exact ⟨false, rfl, ⟨fun h => by simp at h, fun hx => by have := HQ.out.2 ((HV.out.1 hx).2.2.2.1 p HPM.out); simp at this⟩, HBW.out.trans (HB2.out.mono HBW.out.size)⟩
      | true =>
        have HNX : Hid (∀ s ∈ xs.take (k + 1), SortOk ps s) := Lib.hid (fun s hs => by
          rw [HT.out] at hs
          rcases List.mem_append.1 hs with h | h
          · exact HO.out s h
          · simp at h; subst h; exact HQ.out.1 rfl)
        go_wp2
        go_roundw
        case rel => first | exact ⟨k + 1, by omega, by go_num, HNX, HB2⟩ | exact ⟨k + 1, by have := HN.out; omega, by omega, HNX⟩
        case measure => simp [intOf]; omega
    · have hkn : k = n := by omega
      have HF : Hid (∀ s ∈ xs, SortOk ps s) := Lib.hid (fun s hs => HO.out s (by rw [hkn, HN.out, List.take_length]; exact hs))
      have HNL : Hid (xs.length ≤ 3 ↔ n ≤ 3) := Lib.hid (by have := HN.out; omega)
      have HBF := Lib.hid (HBW.out.trans (HB.out.mono HBW.out.size))
      clear hkn
      go_wp2_with fail
      refine (sName_any nm _ (by omega)).mono ?_
      rintro e w1 ⟨b1, rfl, hq1, rfl⟩
      have HQ1 := Lib.hid hq1; clear hq1
      cases b1 with
      | false =>
        go_wp2
        go_ret
        exact ⟨false, rfl, ⟨fun h => by simp at h, fun hx => by have := HQ1.out.2 (HV.out.1 hx).1; simp at this⟩, HBF.out⟩
      | true =>
        go_wp2_with fail
        refine (sBuiltin_any nm _).mono ?_
        rintro e w1 ⟨rfl, rfl⟩
        obtain ⟨bb2, hbb2⟩ : ∃ b, b = builtinB nm := ⟨_, rfl⟩
        rw [← hbb2]
        have HB2 := Lib.hid hbb2; clear hbb2
        cases bb2 with
        | true =>
          go_wp2
          go_ret
          exact ⟨false, rfl, ⟨fun h => by simp at h, fun hx => by have := (HV.out.1 hx).2.1; rw [← HB2.out] at this; simp at this⟩, HBF.out⟩
        | false =>
          by_cases h3 : n ≤ 3
          · go_wp2_with fail
            refine (HSO.out _ rs HB.out).mono ?_
            rintro e w2 ⟨b4, rfl, hq4, hb4⟩
            have HQ4 := Lib.hid hq4; clear hq4
            have HBF2 := Lib.hid (HBF.out.trans (hb4.mono HBF.out.size)); clear hb4
            go_wp2
            go_ret
            refine ⟨b4, rfl, ⟨fun h => HV.out.2 ⟨HQ1.out.1 (by simp), HB2.out.symm, HNL.out.2 h3, HF.out, HQ4.out.1 h⟩, fun hx => HQ4.out.2 (HV.out.1 hx).2.2.2.2⟩, HBF2.out⟩
          · go_wp2
            go_ret
            exact ⟨false, rfl, ⟨fun h => by simp at h, fun hx => absurd (HNL.out.1 (HV.out.1 hx).2.2.1) h3⟩, HBF.out⟩
end Go.Proofs.Ytcmhiindjponcaa
namespace Go.Proofs.Ytcmhiindjponcaa
open Go.RowKit

/-- The three kinds' values. -/
abbrev vBuilt (nm : ByteArray) : Value := .iface 108 (.agg #[.string nm, .int .i64 2, .string kWord])
abbrev vDecl (nm : ByteArray) (n : Nat) (res : ByteArray) (u : Value) : Value := .iface 111 (.agg #[.string nm, .int .i64 n, .string res, u])
abbrev vMiss : Value := .iface 152 (.agg #[.string ⟨#[]⟩, .int .i64 0, .string ⟨#[]⟩])

/-- Which kind an operator is of. -/
def OperIs (o : Option OpD) (nm : ByteArray) (w : World) (v : Value) : Prop :=
  (builtinB nm = true ∧ o = some ⟨nm, [kWord, kWord], kWord⟩ ∧ v = vBuilt nm) ∨
  (∃ d a n c, o = some d ∧ d.name = nm ∧ n = d.args.length ∧ v = vDecl nm n d.res (.slice a n c) ∧ StrsAt w (.slice a n c) d.args) ∨
  (o = none ∧ v = vMiss)
def OperE (o : Option OpD) (nm : ByteArray) (w : World) (e : Ending) (w' : World) : Prop := ∃ v, e = .returned v ∧ OperIs o nm w' v ∧ Below w.heap.size w w'
theorem OperIs.below {o : Option OpD} {nm : ByteArray} {w w' : World} {v : Value} (h : OperIs o nm w v) (hb : Below w.heap.size w w') : OperIs o nm w' v := by
  rcases h with h | ⟨d, a, n, c, h1, h2, h3, h4, h5⟩ | h
  · exact Or.inl h
  · exact Or.inr (Or.inl ⟨d, a, n, c, h1, h2, h3, h4, h5.below hb⟩)
  · exact Or.inr (Or.inr h)

theorem asBB (v : Value) (W : World) : (Instr.typeAssert (.iface 108 v) 103 108 true).run Try.prog W = .ok (.tuple #[v, .bool true]) W := by kernel_rfl
theorem asDB (v : Value) (W : World) : (Instr.typeAssert (.iface 111 v) 103 108 true).run Try.prog W = .ok (.tuple #[.agg #[.string ByteArray.empty, .int .i64 0, .string ByteArray.empty], .bool false]) W := by kernel_rfl
theorem asDD (v : Value) (W : World) : (Instr.typeAssert (.iface 111 v) 103 111 true).run Try.prog W = .ok (.tuple #[v, .bool true]) W := by kernel_rfl
theorem asMB (v : Value) (W : World) : (Instr.typeAssert (.iface 152 v) 103 108 true).run Try.prog W = .ok (.tuple #[.agg #[.string ByteArray.empty, .int .i64 0, .string ByteArray.empty], .bool false]) W := by kernel_rfl
theorem asMD (v : Value) (W : World) : (Instr.typeAssert (.iface 152 v) 103 111 true).run Try.prog W = .ok (.tuple #[.agg #[.string ByteArray.empty, .int .i64 0, .string ByteArray.empty, .slice none 0 0], .bool false]) W := by kernel_rfl

set_option maxRecDepth 100000 in
set_option maxHeartbeats 3200000 in
theorem oper_any (x : Value) (nm : ByteArray) (ps : List ByteArray) (ds : List OpD) (w : World) (hn : ds.length ≤ 1048576) (ha : ∀ d ∈ ds, d.args.length ≤ 1048576) (hv : SigAt w x ps ds) :
    Calls Try.prog 67 #[x, .string nm] w (OperE (findD ds nm) nm w) := by
  obtain ⟨s, t, rfl, hs, ht⟩ := hv
  obtain ⟨sa, sc, rfl⟩ := hs.slice
  obtain ⟨ta, tc, rfl⟩ := ht.slice
  clear hs
  have HAL := Lib.hid ha; clear ha
  obtain ⟨m, hm⟩ : ∃ m, m = ps.length := ⟨_, rfl⟩
  obtain ⟨n, hnn⟩ : ∃ n, n = ds.length := ⟨_, rfl⟩
  rw [← hm, ← hnn]
  rw [← hnn] at ht hn
  have HN := Lib.hid hnn
  clear hm hnn
  obtain ⟨W, hW⟩ : ∃ W, W = w.alloc (.cells #[.slice sa m sc, .slice ta n tc] 27) := ⟨_, rfl⟩
  have hbW : Below w.heap.size w W := by rw [hW]; exact (Below.refl _ _).alloc (Nat.le_refl _) _
  have r0 : W.heap[w.heap.size]? = some (.cells #[.slice sa m sc, .slice ta n tc] 27 (0, 0)) := by rw [hW]; exact heap_new _ _ rfl
  have HT : Hid (∀ w', Below W.heap.size W w' → OpsAt w' (.slice ta n tc) ds) := Lib.hid (fun w' hb => (ht.below hbW).below hb)
  have HBW := Lib.hid hbW; clear hbW ht
  obtain ⟨c0, c1⟩ := (show W.cell? ⟨w.heap.size, 0, none⟩ = some (.slice sa m sc) ∧ W.cell? ⟨w.heap.size, 1, none⟩ = some (.slice ta n tc) from ⟨by rw [cell_of_row W _ 0 _ _ _ r0]; rfl, by rw [cell_of_row W _ 1 _ _ _ r0]; rfl⟩)
  obtain ⟨bq, hbq⟩ : ∃ b, b = builtinB nm := ⟨_, rfl⟩
  have HS := Lib.hid (iBuiltin_any nm W)
  unfold BuiltEnd at HS
  rw [← hbq] at HS
  have HBQ := Lib.hid hbq; clear hbq r0
  go_enter Try.func67, Try.ntmps67
  go_wp2_with fail
  rw [← hW]
  clear hW
  refine HS.out.mono ?_
  rintro e w1 ⟨rfl, hw1⟩
  obtain ⟨W, hWW⟩ : ∃ W, W = w1 := ⟨_, rfl⟩
  subst hw1
  subst hWW
  cases bq with
  | true =>
    have HFD := Lib.hid (findD_built (ds := ds) HBQ.out.symm)
    go_wp2
    go_ret
    exact ⟨_, rfl, Or.inl ⟨HBQ.out.symm, HFD.out, rfl⟩, HBW.out⟩
  | false =>
    go_wp2_with fail
    go_loopw [16] (fun i wr => ∃ k : Nat, k ≤ n ∧ i = .int .i64 k ∧ Hid (∀ d ∈ ds.take k, (d.name.toList == nm.toList) = false) ∧ Hid (Below W.heap.size W wr)) (fun i _ => n - (intOf i).toNat)
    case atStart => exact ⟨0, Nat.zero_le _, rfl, Lib.hid (fun s hs => by simp at hs), Lib.hid (Below.refl _ _)⟩
    case round =>
      obtain ⟨k, hk, rfl, HO, HB⟩ := hrel
      clear c0 c1
      by_cases hlt : k < n
      · obtain ⟨d, hd⟩ : ∃ d, ds[k]? = some d := ⟨_, List.getElem?_eq_getElem (by have := HN.out; omega)⟩
        obtain ⟨g, o, cc, a', n', c', ee, e0, e1, e2, hst⟩ := (HT.out _ HB.out).at hd
        have HD := Lib.hid hd; clear hd
        simp only [Value.slice.injEq] at ee
        obtain ⟨rfl, -, rfl⟩ := ee
        have hb1 : Below wr.heap.size wr (wr.alloc (.cells #[.string d.name, .slice a' n' c', .string d.res] 47)) := (Below.refl _ _).alloc (Nat.le_refl _) _
        have HSX := Lib.hid (hst.below hb1)
        have HBX := Lib.hid (HB.out.trans (hb1.mono HB.out.size))
        have HNL : Hid (n' = d.args.length) := Lib.hid hst.src.1
        clear hst hb1
        by_cases hq : d.name.toList = nm.toList
        · have hq1 : (d.name.toList == nm.toList) = true := by simpa using hq
          have HFD := Lib.hid (findD_at HBQ.out.symm HO.out HD.out hq1)
          have HNM : Hid (d.name = nm) := Lib.hid ((same_iff _ _).1 hq1)
          clear hq
          go_wp2
          go_ret
          exact ⟨_, rfl, Or.inr (Or.inl ⟨d, a', n', c', HFD.out, HNM.out, HNL.out, rfl, HSX.out⟩), HBW.out.trans (HBX.out.mono HBW.out.size)⟩
        · have hq1 : (d.name.toList == nm.toList) = false := by simpa using hq
          have HNX : Hid (∀ d ∈ ds.take (k + 1), (d.name.toList == nm.toList) = false) := Lib.hid (fun x hx => by
            rw [take_next ds k d HD.out] at hx
            rcases List.mem_append.1 hx with h | h
            · exact HO.out x h
            · simp at h; subst h; exact hq1)
          clear hq
          go_wp2
          go_roundw
          case rel => exact ⟨k + 1, by omega, by go_num, HNX, HBX⟩
          case measure => simp [intOf]; omega
      · have HFD := Lib.hid (findD_none (ds := ds) HBQ.out.symm (fun x hx => HO.out x (by rw [show k = ds.length by have := HN.out; omega, List.take_length]; exact hx)))
        go_wp2
        go_ret
        exact ⟨_, rfl, Or.inr (Or.inr ⟨HFD.out, rfl⟩), HBW.out.trans (HB.out.mono HBW.out.size)⟩
end Go.Proofs.Ytcmhiindjponcaa
