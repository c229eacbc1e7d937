/-
  impl.knownNames makes a set of a list's strings.
  What a sort of names hands back. No walk.
  impl.SortNames returns the strings of its list in strictly ascending order, each once, in a slice of its own.
  impl.RestrictSubst: the Binds of the names of a list, in the names' order.
-/
import Derived.Test.YtkgpkphacjjlgaaQ23
import Derived.Test.YtkgpkphacjjlgaaQ24
import Derived.Test.YtkgpkphacjjlgaaQ1
import Derived.Test.YtkgpkphacjjlgaaQ22
import Derived.Maps.OwnSet
namespace Go.Proofs.Ytkgpkphacjjlgaa
open Go.RowKit Go.Maps Go.WideMaps

theorem lawStr : Keyed Try.prog 9 := string_keyed Try.underlying9

/-- A set of the call's own that holds the strings ps. -/
def HoldsSet (w : World) (b : Nat) (ps : List ByteArray) : Prop := w.ownsMap Try.prog 9 (plainElem (H := Unit) Try.prog 4) b ps.length (Sset (H := Unit) ps)
def KnownEnd (ps : List ByteArray) (w : World) (e : Ending) (w' : World) : Prop :=
  ∃ b, e = .returned (.map (some b)) ∧ HoldsSet w' b ps ∧ w.heap.size ≤ b ∧ Below w.heap.size w w'

set_option maxRecDepth 100000 in
set_option maxHeartbeats 400000 in
theorem known_empty (a : Option Addr) (cap : Nat) (w : World) :
    Calls Try.prog 102 #[.slice a 0 cap] w (KnownEnd [] w) := by
  have hmm := @run_makeMap Try.prog
  go_enter Try.func102, Try.ntmps102
  go_wp2
  refine wp_loop_rounds 1 ?_
  rw [rounds_succ]
  go_wp2
  go_ret
  exact ⟨_, rfl, World.ownsMap_made _ _ _ _, Nat.le_refl _, (Below.refl _ _).alloc (Nat.le_refl _) _⟩

set_option maxRecDepth 100000 in
set_option maxHeartbeats 800000 in
theorem known_some (b o cap : Nat) (ps : List ByteArray) (w : World) (hl : ps.length ≤ 4194304) (hs : ∀ p ∈ ps, p.size ≤ maxLen)
    (hc : ∀ i p, ps[i]? = some p → w.cell? ⟨b, o + i, none⟩ = some (.string p)) :
    Calls Try.prog 102 #[.slice (some ⟨b, o, none⟩) ps.length cap] w (KnownEnd ps w) := by
  have HC := Lib.hid hc; clear hc
  have HS := Lib.hid hs; clear hs
  obtain ⟨n, hn⟩ : ∃ n, n = ps.length := ⟨_, rfl⟩
  rw [← hn] at hl ⊢
  have HN := Lib.hid hn; clear hn
  have hmm := @run_makeMap Try.prog
  go_enter Try.func102, Try.ntmps102
  go_wp2
  go_loopw [9] (fun i wr => ∃ k : Nat, k ≤ n ∧ i = .int .i64 k ∧ HoldsSet wr w.heap.size (ps.take k) ∧ Below w.heap.size w wr) (fun i _ => n - (intOf i).toNat)
  case atStart => exact ⟨0, Nat.zero_le _, rfl, World.ownsMap_made _ _ _ _, (Below.refl _ _).alloc (Nat.le_refl _) _⟩
  case round =>
    obtain ⟨k, hk, rfl, hown, hb⟩ := hrel
    have HB := Lib.hid hb; clear hb
    have HO := Lib.hid hown; clear hown
    by_cases hlt : k < n
    · obtain ⟨p, hp⟩ : ∃ p, ps[k]? = some p := ⟨_, List.getElem?_eq_getElem (by have := HN.out; omega)⟩
      have hc0 := HC.out k p hp
      have hcell : wr.cell? ⟨b, o + k, none⟩ = some (.string p) := by rw [HB.out.cell (World.block_lt_of_cell? w _ hc0)]; exact hc0
      clear hc0
      have hkey : keyOf Try.prog 9 (.string p) = some (.string (key p)) := WideMaps.keyOf_string_mk Try.underlying9 (HS.out p (List.mem_of_getElem? hp))
      have HK := Lib.hid hkey; clear hkey
      have hkl : (ps.take k).length = k := by rw [List.length_take]; have := HN.out; omega
      have HKL := Lib.hid hkl; clear hkl
      have hst : Sset (H := Unit) (ps.take (k + 1)) = (Sset (ps.take k)).put (.string (key p)) (.lit (.bool true)) := by rw [take_next ps k p hp, Sset_snoc]
      have HST := Lib.hid hst; clear hst hp
      go_wp2_with (first
        | (at_mapUpdate; refine wpList_mapUpdate_own _ rfl _ _ _ 150 rfl 9 4 lawStr Try.underlying150 (plainElem (H := Unit) Try.prog 4) w.heap.size (ps.take k).length _ rfl HO.out ?m1 _ _ _ rfl rfl HK.out _ [] (plainElem_bool Try.underlying4 true) ?_))
      case m1 => rw [HKL.out]; unfold maxLen; omega
      intro w1 hown1 hgrow1
      have hown2 : HoldsSet w1 w.heap.size (ps.take (k + 1)) := by
        unfold HoldsSet
        rw [HST.out]
        exact hown1.mono (by simp only [List.length_take]; have := HN.out; omega)
      have hb2 := HB.out.grown hgrow1 HB.out.size (fun j hj => by cases hj; exact Nat.le_refl _)
      have HO2 := Lib.hid hown2; clear hown1 hown2
      have HB2 := Lib.hid hb2; clear hb2 hgrow1
      go_wp2
      go_roundw
      case rel => exact ⟨k + 1, by omega, by go_num, HO2.out, HB2.out⟩
      case measure => simp [intOf]; omega
    · have HD : Hid (ps.take k = ps) := Lib.hid (by
        have hkn : k = ps.length := by have := HN.out; omega
        rw [hkn, List.take_length])
      go_wp2
      go_ret
      refine ⟨_, rfl, ?_, Nat.le_refl _, HB.out⟩
      have h := HO.out
      rw [HD.out] at h
      exact h

theorem known_any (v : Value) (ps : List ByteArray) (w : World) (hl : ps.length ≤ 4194304) (hs : ∀ p ∈ ps, p.size ≤ maxLen) (hv : StrsAt w v ps) :
    Calls Try.prog 102 #[v] w (KnownEnd ps w) := by
  obtain ⟨a, cap, rfl, hv⟩ := hv
  rcases hv with rfl | ⟨b, o, rfl, hv⟩
  · exact known_empty a cap w
  · exact known_some b o cap ps w hl hs hv
end Go.Proofs.Ytkgpkphacjjlgaa
namespace Go.Proofs.Ytkgpkphacjjlgaa
open Go.RowKit

/-- What a sort of names hands back. -/
def SortEnd (ps : List ByteArray) (w : World) (e : Ending) (w' : World) : Prop :=
  ∃ (v : Value) (rs : List ByteArray), e = .returned v ∧ SortedOf ps rs ∧ rs.length ≤ ps.length ∧ w'.ownsRow w.heap.size 9 1 v rs.length (rs.map Value.string) ∧ Below w.heap.size w w'
end Go.Proofs.Ytkgpkphacjjlgaa
namespace Go.Proofs.Ytkgpkphacjjlgaa
open Go.RowKit Go.Maps Go.Sort Go.Shelf

theorem sortsK (m : Nat) : AnyZ.SortsIn Try.prog Try.sortedK_ren Fence.wide m :=
  ⟨fun blk off cap ss W hH hblk hsz => callsIn_wide.2 (AnyM.slices_Sort_string Try.sortK blk off cap ss W hH hblk hsz),
   fun p cap W => callsIn_wide.2 (AnyM.slices_Sort_string_none Try.sortK p cap W)⟩

theorem mapKeys_any (mb : Option Nat) (W : World) : Calls Try.prog 101 #[.map mb] W fun e w' =>
    e = .returned (.func (.func 116) #[] #[.pointer (some ⟨W.heap.size, 0, none⟩)]) ∧ w' = W.alloc (.cells #[.map mb] 150) :=
  (callsIn_wide (n := 5)).1 (AnyZ.keys_in Try.keysK Fence.wide 5 trivial rfl mb W)

def SortedEnd (ks : List (List UInt8)) (w : World) (e : Ending) (w' : World) : Prop :=
  ∃ (v : Value) (ss : List (List UInt8)), e = .returned v ∧ ss.Perm ks ∧ w'.ownsRow w.heap.size 9 1 v ss.length ((ss.mergeSort leB).map encStr) ∧ Below w.heap.size w w'

set_option maxHeartbeats 1000000 in
/-- The sorted keys of a map, from the world ahead of the call that made the iterator. -/
theorem sortedKeys_any {H : Type} (b nn : Nat) (D0 : DataW H) (R : Value → Option (DataW H × List MemPlace)) (w : World) (hown : w.ownsMap Try.prog 9 R b nn D0) (hmax : Maps.size D0 ≤ 4194304) :
    Calls Try.prog 100 #[.func (.func 116) #[] #[.pointer (some ⟨w.heap.size, 0, none⟩)]] (w.alloc (.cells #[.map (some b)] 150)) (SortedEnd (strKeys D0) (w.alloc (.cells #[.map (some b)] 150))) := by
  have hbl := hown.lt
  have hseq : SeqGives Fence.wide 2 Try.prog 116 #[.pointer (some ⟨w.heap.size, 0, none⟩)] encStr (fun ss => ss.Perm (strKeys D0)) (Maps.size D0) (w.alloc (.cells #[.map (some b)] 150)) :=
    AnyZ.keys_gives (ρ := Try.keysK_ren) { Try.keysK with } Fence.wide _ trivial rfl (by omega) w.heap.size b nn D0 _ (by simp) (by simp) (by
      obtain ⟨es, clock, hb, Ft, hs, hD⟩ := hown
      exact ⟨es, clock, (Below.heap_alloc _ _ b hbl).trans hb, Ft, hs, hD⟩)
  have h := AnyZ.sorted_in Try.sortedK Fence.wide 5 trivial trivial trivial trivial rfl (by omega) (sortsK _) (enters_of Try.func115 (by kernel_rfl) rfl) 116 #[.pointer (some ⟨w.heap.size, 0, none⟩)] trivial (enters_of Try.func116 (by kernel_rfl) rfl) _ _ (by unfold maxLen; omega) (by omega) _ hseq
  exact ((callsIn_wide (n := 5)).1 h).mono fun e w' ⟨v, ss, he, hp, hrow, _, hb⟩ => ⟨v, ss, he, hp, hrow, hb⟩

theorem sort_of_keys {ps : List ByteArray} {w w1 : World} {b : Nat} (hset : HoldsSet w1 b ps) (hb : Below w.heap.size w w1) (e : Ending) (w' : World)
    (h : SortedEnd (strKeys (Sset (H := Unit) ps)) (w1.alloc (.cells #[.map (some b)] 150)) e w') : SortEnd ps w e w' := by
  obtain ⟨v, ss, he, hperm, hrow, hb2⟩ := h
  obtain ⟨k1, k2, k3⟩ := keys_Sset ps hset Try.underlying9
  obtain ⟨l1, l2⟩ := sorted_len ps ss hperm
  refine ⟨v, strs (ss.mergeSort leB), he, sorted_strs ps ss k2 hperm k1 k3, by omega, ?_, ?_⟩
  · rw [l1, strs_vals]
    exact own_low hrow (by have := hb.size; simp; omega)
  · exact (hb.alloc hb.size _).trans (hb2.mono (by have := hb.size; simp; omega))

set_option maxRecDepth 100000 in
set_option maxHeartbeats 400000 in
theorem iSort_any (v : Value) (ps : List ByteArray) (w : World) (hl : ps.length ≤ 4194304) (hs : ∀ p ∈ ps, p.size ≤ maxLen) (hv : StrsAt w v ps) :
    Calls Try.prog 62 #[v] w (SortEnd ps w) := by
  have hk := known_any v ps w hl hs hv
  have HK := Lib.hid hk; clear hk
  clear hv
  go_enter Try.func62, Try.ntmps62
  go_wp2_with fail
  refine HK.out.mono ?_
  rintro e w1 ⟨m, rfl, hown, _, hb⟩
  have HB := Lib.hid hb; clear hb
  have HO := Lib.hid hown; clear hown
  go_wp2_with fail
  refine (mapKeys_any (some m) _).mono ?_
  rintro e w2 ⟨rfl, rfl⟩
  go_wp2_with fail
  refine (sortedKeys_any m ps.length (Sset (H := Unit) ps) _ w1 HO.out (by have := size_Sset_le (H := Unit) ps; omega)).mono ?_
  rintro e w3 he
  obtain ⟨u, rs, rfl, h1, h2, h3, h4⟩ := sort_of_keys HO.out HB.out e w3 he
  have H1 := Lib.hid h1; clear h1
  have H3 := Lib.hid h3; clear h3
  have H4 := Lib.hid h4; clear h4 he
  go_wp2
  go_ret
  exact ⟨_, rs, rfl, H1.out, h2, H3.out, H4.out⟩
end Go.Proofs.Ytkgpkphacjjlgaa
namespace Go.Proofs.Ytkgpkphacjjlgaa
open Go.RowKit Go.Maps Go.WideMaps

/-- The Binds of the names rs, in that order. -/
def restB (a : List (ByteArray × T)) (rs : List ByteArray) : List (ByteArray × T) := rs.filterMap (fun nm => (findB a nm).map (fun t => (nm, t)))
theorem restB_app (a : List (ByteArray × T)) (r s : List ByteArray) : restB a (r ++ s) = restB a r ++ restB a s := by simp [restB]
theorem restB_len (a : List (ByteArray × T)) (rs : List ByteArray) : (restB a rs).length ≤ rs.length := by unfold restB; exact List.length_filterMap_le _ _
theorem restB_m (a : List (ByteArray × T)) (rs : List ByteArray) (hw : wBs a ≤ 1048576) : mBs (restB a rs) ≤ rs.length * 12582916 := by
  induction rs with
  | nil => simp [restB, mBs]
  | cons x r ih =>
    have h1 : restB a (x :: r) = restB a [x] ++ restB a r := restB_app a [x] r
    rw [h1, mBs_app, List.length_cons, Nat.add_mul]
    have h2 : mBs (restB a [x]) ≤ 12582916 := by
      unfold restB
      cases e : findB a x with
      | none => simp [e, mBs]
      | some t => have h4 := findB_w e; have h5 := cT_le t; simp [e, mBs]; omega
    omega
theorem own_formR {w : World} {B n size : Nat} {e : TypeId} {v : Value} {xs : List Value} (h : w.ownsRow B e size v n xs) : ∃ a c, v = .slice a n c := by
  rcases h.2 with ⟨rfl, h0⟩ | ⟨g, cap, cur, rfl, _⟩
  · exact ⟨none, 0, by rw [h0]⟩
  · exact ⟨_, _, rfl⟩
theorem tk1 {rs : List ByteArray} {k : Nat} {x : ByteArray} (h : rs[k]? = some x) : rs.take (k + 1) = rs.take k ++ [x] := by rw [List.take_add_one, h]; rfl
theorem row_at {w : World} {B n : Nat} {v : Value} {rs : List ByteArray} (ho : w.ownsRow B 9 1 v n (rs.map Value.string)) (hn : n = rs.length) {k : Nat} {x : ByteArray} (hx : rs[k]? = some x) : ∃ g c, v = .slice (some ⟨g, 0, none⟩) n c ∧ w.cell? ⟨g, k, none⟩ = some (.string x) := by
  rcases ho.2 with ⟨_, h0⟩ | ⟨g, cap, cur, e, _⟩
  · have := (List.getElem?_eq_some_iff.1 hx).1; omega
  · refine ⟨g, cap, e, ?_⟩
    have h := ho.cells (g := g) (by rw [e]; rfl) k (.string x) (by simp [hx])
    have e2 : (⟨g, 0, none⟩ : Addr).add k = ⟨g, k, none⟩ := by
      unfold Addr.add
      split
      · rename_i h0; rw [h0]
      · simp
    rw [e2] at h; exact h

set_option maxRecDepth 100000 in
set_option maxHeartbeats 3200000 in
theorem restI_any (u v : Value) (a : List (ByteArray × T)) (ps rs : List ByteArray) (lo ha : Nat) (w : World) (hwa : wBs a ≤ 1048576) (hu : BsAt w lo ha u a) (hl : ps.length ≤ 1048576) (hs : ∀ p ∈ ps, p.size ≤ maxLen) (hv : StrsAt w v ps) (hrs : SortedOf ps rs) :
    Calls Try.prog 20 #[u, v] w (CopyBE (restB a rs) w) := by
  obtain ⟨i0, hi, hz0, hz1, hz2⟩ := info_parts infoBind
  have HI := Lib.hid hi; clear hi
  have HZ0 := Lib.hid hz0; clear hz0
  have HZ1 := Lib.hid hz1; clear hz1
  have HZ2 := Lib.hid hz2; clear hz2
  have hla := wBs_len a
  obtain ⟨la, hba, hc1⟩ := subOf_any u a lo ha w (by omega) hu
  have HC1 := Lib.hid hc1
  have HBA := Lib.hid hba
  have HWA := Lib.hid hwa
  have HV := Lib.hid hv
  have HL := Lib.hid (And.intro hl hs)
  have HRS := Lib.hid hrs
  clear hc1 hba hwa hv hl hs hrs hu hla
  go_enter Try.func20, Try.ntmps20
  go_wp2_with fail
  refine HC1.out.mono ?_
  rintro e w1 ⟨ba, rfl, hbal, hta, hb1⟩
  obtain ⟨W0, hW0⟩ : ∃ W0, W0 = w1.alloc (.cells #[.map (some ba)] 84) := ⟨_, rfl⟩
  have h10 : Below w1.heap.size w1 W0 := by rw [hW0]; exact (Below.refl _ _).alloc (Nat.le_refl _) _
  have HB0 := Lib.hid (bel_two hb1 h10)
  have r0 : W0.heap[w1.heap.size]? = some (.cells #[.map (some ba)] 84 (0, 0)) := by rw [hW0]; exact heap_new _ _ rfl
  have hs0 : W0.heap.size = w1.heap.size + 1 := by rw [hW0]; simp
  have HTA0 := Lib.hid (hta.below h10)
  have HR0 := Lib.hid (And.intro r0 hs0)
  clear r0 hs0 hta hb1 h10 hbal HC1
  go_upto_region 2 with fail
  rw [← hW0]
  clear hW0
  go_wp2_with fail
  refine (iSort_any v ps W0 (by have := HL.out.1; omega) HL.out.2 (HV.out.below HB0.out)).mono ?_
  rintro e w2 ⟨uv, rs', rfl, hso, hrl, hro, hb2⟩
  obtain rfl : rs = rs' := HRS.out.unique hso
  obtain ⟨n, hn⟩ : ∃ n, n = rs.length := ⟨_, rfl⟩
  rw [← hn] at hro hrl
  have hnl : n ≤ 1048576 := by have := HL.out.1; omega
  have HN : Hid (n = rs.length ∧ ∀ x ∈ rs, x.size ≤ maxLen) := Lib.hid ⟨hn, fun x hx => HL.out.2 x ((HRS.out.2 x).1 hx)⟩
  have HRO := Lib.hid hro
  obtain ⟨ra, rc, rfl⟩ := own_formR hro
  have HB2 := Lib.hid (bel_two HB0.out hb2)
  have HTA2 := Lib.hid (HTA0.out.below hb2)
  have HBA2 := Lib.hid (HBA.out.below HB2.out)
  have r2 : w2.heap[w1.heap.size]? = some (.cells #[.map (some ba)] 84 (0, 0)) := (hb2.block _ (by have := HR0.out.2; omega)).trans HR0.out.1
  have c2 := cell_of_row w2 w1.heap.size 0 _ _ _ r2
  simp at c2
  have HC2 := Lib.hid c2
  have hg0 : GrowB true (ha + 1) w2.heap.size (.slice none 0 0) [] w2 := GrowB.nil _ _ _ _
  have HG0 := Lib.hid hg0
  clear hso hrl hro hn hb2 r2 c2 hg0 HV HBA HTA0 HR0
  go_wp2
  go_loopw [16, 6] (fun i v wr => ∃ (j q : Nat) (ua : Option Addr) (uc : Nat), j ≤ n ∧ i = .int .i64 j ∧ v = .slice ua q uc ∧ q ≤ j ∧ Hid (q = (restB a (rs.take j)).length) ∧ Hid (GrowB true (ha + 1) w2.heap.size (.slice ua q uc) (restB a (rs.take j)) wr) ∧ Hid (Below w2.heap.size w2 wr)) (fun i _ _ => n - (intOf i).toNat)
  case atStart => exact ⟨0, 0, none, 0, Nat.zero_le _, rfl, rfl, Nat.le_refl _, Lib.hid rfl, HG0, Lib.hid (Below.refl _ _)⟩
  case round =>
    clear HG0
    obtain ⟨j, q, ua, uc, hj, rfl, rfl, hq, HQ, HG, HB⟩ := hrel
    by_cases hlt : j < n
    · obtain ⟨x, hx⟩ : ∃ x, rs[j]? = some x := ⟨_, List.getElem?_eq_getElem (by have := HN.out.1; omega)⟩
      obtain ⟨g, c', e, cx0⟩ := row_at HRO.out HN.out.1 hx
      obtain ⟨rfl, rfl⟩ : ra = some ⟨g, 0, none⟩ ∧ rc = c' := by simpa using e
      have cx := cell_on HB.out cx0
      have cs := cell_on HB.out HC2.out
      have hxs : x.size ≤ maxLen := HN.out.2 x (List.mem_iff_getElem?.2 ⟨j, hx⟩)
      have HFC := Lib.hid (find_anyH ba x a la lo ha wr (HTA2.out.below HB.out) (HBA2.out.below HB.out) hxs HWA.out)
      have HX := Lib.hid (And.intro hx hxs)
      clear cx0 e hx hxs
      go_wp2_with fail
      refine HFC.out.mono ?_
      rintro e w3 ⟨k9, n9, s9, a9, m9, c9, xs9, rfl, hr9, hs9, ho9, hb3⟩
      obtain ⟨W4, hW4⟩ : ∃ W4, W4 = w3.alloc (.cells #[.int .i64 k9, .int .i64 n9, .string s9, .slice a9 m9 c9] 29) := ⟨_, rfl⟩
      have hb34 : Below w3.heap.size w3 W4 := by rw [hW4]; exact (Below.refl _ _).alloc (Nat.le_refl _) _
      have hz4 : W4.heap.size = w3.heap.size + 1 := by rw [hW4]; simp
      have r4 : W4.heap[w3.heap.size]? = some (trow k9 n9 s9 (.slice a9 m9 c9)) := by rw [hW4]; exact heap_new _ _ rfl
      have hb4 : Below wr.heap.size wr W4 := bel_two hb3 hb34
      have HB4 := Lib.hid (HB.out.trans (hb4.mono HB.out.size))
      cases hfx : findB a x with
      | none =>
        simp only [Option.isSome_none]
        have HTS : Hid (restB a (rs.take (j + 1)) = restB a (rs.take j)) := Lib.hid (by rw [tk1 HX.out.1, restB_app]; simp [restB, hfx])
        have HG4 := Lib.hid (HG.out.below hb4)
        clear hr9 hs9 ho9 hb3 hb34 hz4 r4 hb4 hfx HFC cs cx
        go_upto_region 7 with fail
        rw [← hW4]
        clear hW4
        go_wp2
        go_roundw
        case rel => exact ⟨j + 1, q, ua, uc, by omega, by go_num, rfl, by omega, by rw [HTS.out]; exact HQ, by rw [HTS.out]; exact HG4, HB4⟩
        case measure => simp [intOf]; omega
      | some t =>
        rw [hfx] at hr9
        simp only [Option.getD_some] at hr9
        simp only [Option.isSome_some]
        have HTS : Hid (restB a (rs.take (j + 1)) = restB a (rs.take j) ++ [(x, t)]) := Lib.hid (by rw [tk1 HX.out.1, restB_app]; simp [restB, hfx])
        have hkt : Kept wr.heap.size W4.heap.size (KArgs true (ha + 1) wr.heap.size W4.heap.size (.slice a9 m9 c9) xs9) W4 := kargs_own ((ho9.keep (fun b _ h1 h2 => ⟨hb34.block b h2, trivial⟩)).wide (Nat.le_refl _) hb34.size) (Nat.le_succ _)
        obtain ⟨ys, hys, hnx⟩ := HG.out.next HQ.out HB.out.size hb4
        have HYS := Lib.hid (hys.alloc (.cells #[.string x, .int .i64 k9, .int .i64 n9, .string s9, .slice a9 m9 c9] 87))
        have HNX := Lib.hid (hnx x k9 n9 s9 _ xs9 HX.out.2 hs9 hkt)
        have HHR := Lib.hid hr9
        have HLO : Hid (w2.heap.size ≤ (W4.alloc (.cells #[.string x, .int .i64 k9, .int .i64 n9, .string s9, .slice a9 m9 c9] 87)).heap.size) := Lib.hid (by have := HB4.out.size; simp; omega)
        have HNEW := Lib.hid (news5 W4 (.string x) (.int .i64 k9) (.int .i64 n9) (.string s9) (.slice a9 m9 c9) 87 rfl)
        have HBR := Lib.hid HB.out
        obtain ⟨⟨y0, y1, y2, y3⟩, _⟩ := cells_of4 r4
        clear hr9 hs9 ho9 hb3 hb34 hz4 r4 hfx HFC cs cx hkt hys hnx
        go_upto_region 7 with fail
        rw [← hW4]
        clear hW4
        go_wp2_with (first | (at_builtin; refine wpList_append_lies _ rfl (.tmp 27) (.tmp 31) 24 rfl (w2.heap.size) 87 i0 (.agg #[.string ByteArray.empty, .int .i64 0, .int .i64 0, .string ByteArray.empty, .slice none 0 0]) 5 72 Try.underlying24 HI.out HZ0.out HZ1.out HZ2.out rfl (by decide) (.slice ua q uc) q ys rfl HYS.out ⟨W4.heap.size, 0, none⟩ 1 1 [.string x, .int .i64 k9, .int .i64 n9, .string s9, .slice a9 m9 c9] rfl rfl HNEW.out (by intro u hu; simp at hu; rcases hu with rfl | rfl | rfl | rfl | rfl <;> rfl) (by decide) (by unfold maxLen; omega) (by omega) HLO.out _ rfl ?_; intro g3 c3' w5 ho3 hg3 ha3 hl3; have HGOT3 := Lib.hid (HNX.out g3 c3' w5 ho3 hg3 ha3); clear ho3 hg3 ha3 hl3))
        go_roundw
        case rel => exact ⟨j + 1, q + 1, _, _, by omega, by go_num, rfl, by omega, by rw [HTS.out, List.length_append]; exact Lib.hid (by have := HQ.out; simp; omega), by rw [HTS.out, HHR.out]; exact Lib.hid HGOT3.out.1, Lib.hid (HB.out.trans (HGOT3.out.2.mono (Nat.le_refl _)))⟩
        case measure => simp [intOf]; omega
    · have hjn : j = n := by omega
      subst hjn
      have HT : Hid (rs.take j = rs) := Lib.hid (List.take_of_length_le (by have := HN.out.1; omega))
      rw [HT.out] at HG HQ
      have HRET : Hid (CopyBE (restB a rs) w (.returned (.slice ua q uc)) wr) := Lib.hid (by
        have hob := HG.out.obj (by have := HQ.out; unfold maxLen; omega)
        exact ⟨_, ha + 1, rfl, ⟨hob.1.low HB2.out.size, hob.2.wide HB2.out.size (Nat.le_refl _)⟩, bel_two HB2.out HB.out⟩)
      go_wp2
      go_ret
      exact HRET.out
end Go.Proofs.Ytkgpkphacjjlgaa
