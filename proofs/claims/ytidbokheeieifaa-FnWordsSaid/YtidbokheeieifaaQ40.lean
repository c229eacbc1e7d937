/-
  spec.SortNames returns the strings of its list in strictly ascending order, each once, in a slice of its own.
-/
import Derived.Test.YtidbokheeieifaaQ39
namespace Go.Proofs.Ytidbokheeieifaa
open Go.RowKit

theorem strs_one (l : List ByteArray) : ∀ u ∈ l.map Value.string, u.oneCell' = true := by
  intro u hu
  obtain ⟨s, _, rfl⟩ := List.mem_map.1 hu
  rfl
theorem own_len {w : World} {B n m size : Nat} {e : TypeId} {v : Value} {xs ys : List Value} (h : w.ownsRow B e size v n xs) (hn : n = m) (hx : xs = ys) : w.ownsRow B e size v m ys := by
  subst hn; subst hx; exact h
/-- The cells of a part of a row, from place k on. -/
theorem src_at {w : World} {B g n c : Nat} {rs : List ByteArray} (h : w.ownsRow B 9 1 (.slice (some ⟨g, 0, none⟩) n c) n (rs.map Value.string)) (k m : Nat) (hk : k + m ≤ rs.length) :
    ∀ j u, (((rs.drop k).take m).map Value.string)[j]? = some u → w.cell? ⟨g, k + j, none⟩ = some u := by
  intro j u hu
  have hn : rs.length = n := by have := h.1; simpa using this
  have hj : j < m := by
    have := (List.getElem?_eq_some_iff.1 hu).1
    rw [List.length_map, List.length_take] at this
    omega
  rw [h.cellAt (k + j) (by omega)]
  rw [List.getElem?_map, List.getElem?_take, if_pos hj, List.getElem?_drop] at hu
  rw [List.getElem?_map]
  exact hu
theorem add_at (g k j : Nat) : (⟨g, k, none⟩ : Addr).add j = ⟨g, k + j, none⟩ := by
  unfold Addr.add
  split
  · rename_i h; subst h; rfl
  · rfl
theorem src_drop {w : World} {B g n c : Nat} {rs : List ByteArray} (h : w.ownsRow B 9 1 (.slice (some ⟨g, 0, none⟩) n c) n (rs.map Value.string)) (k : Nat) (hk : k ≤ rs.length) :
    ∀ j u, ((rs.drop k).map Value.string)[j]? = some u → w.cell? ⟨g, k + j, none⟩ = some u := by
  have h1 := src_at h k (rs.length - k) (by omega)
  rw [List.take_of_length_le (by simp)] at h1
  exact h1
theorem less_false {a b : ByteArray} (h : Op.bytesLess a.toList b.toList = false) : ¬ key a < key b := fun k => by rw [(less_iff a b).2 k] at h; cases h

set_option maxRecDepth 100000 in
set_option maxHeartbeats 400000 in
theorem sSort_empty (a : Option Addr) (cap : Nat) (w : World) :
    Calls Try.prog 125 #[.slice a 0 cap] w (SortEnd [] w) := by
  have hown := World.ownsRow_lit (base := w.heap.size) (size := 1) (e := 9) w #[] 0 (Nat.le_refl _) (by decide) rfl
  have HO := Lib.hid hown; clear hown
  go_enter Try.func125, Try.ntmps125
  go_wp2
  refine wp_loop_rounds 1 ?_
  rw [rounds_succ]
  go_wp2
  go_ret
  exact ⟨_, [], rfl, SortedOf.nil, Nat.le_refl _, HO.out, (Below.refl _ _).alloc (Nat.le_refl _) _⟩

set_option maxRecDepth 100000 in
set_option maxHeartbeats 4000000 in
theorem sSort_some (b o cap : Nat) (ps : List ByteArray) (w : World) (hl : ps.length ≤ 4294967296)
    (hc : ∀ i p, ps[i]? = some p → w.cell? ⟨b, o + i, none⟩ = some (.string p)) :
    Calls Try.prog 125 #[.slice (some ⟨b, o, none⟩) ps.length cap] w (SortEnd ps w) := by
  obtain ⟨i0, hi, hz0, hz1, hz2⟩ := info_parts infoStr'
  have HI := Lib.hid hi; clear hi
  have HZ0 := Lib.hid hz0; clear hz0
  have HZ1 := Lib.hid hz1; clear hz1
  have HZ2 := Lib.hid hz2; clear hz2
  have HC := Lib.hid hc; clear hc
  obtain ⟨m, hm⟩ : ∃ m, m = ps.length := ⟨_, rfl⟩
  rw [← hm] at hl ⊢
  have HM := Lib.hid hm; clear hm
  have hown0 := World.ownsRow_lit (base := w.heap.size) (size := 1) (e := 9) w #[] 0 (Nat.le_refl _) (by decide) rfl
  have HOW := Lib.hid hown0; clear hown0
  go_enter Try.func125, Try.ntmps125
  go_wp2
  go_loopw [3, 4] (fun v i wr => ∃ (k : Nat) (rs : List ByteArray), k ≤ m ∧ i = .int .i64 k ∧ rs.length ≤ k ∧ v ≠ .slice none 0 0 ∧ Hid (SortedOf (ps.take k) rs) ∧ wr.ownsRow w.heap.size 9 1 v rs.length (rs.map Value.string) ∧ Below w.heap.size w wr) (fun _ i _ => m - (intOf i).toNat)
  case atStart => exact ⟨0, [], Nat.zero_le _, rfl, Nat.le_refl _, by simp, Lib.hid SortedOf.nil, HOW.out, (Below.refl _ _).alloc (Nat.le_refl _) _⟩
  case round =>
    obtain ⟨k, rs, hk, rfl, hrk, hnn, HS, hown, hb⟩ := hrel
    have HB := Lib.hid hb; clear hb
    obtain ⟨wo, rfl⟩ : ∃ wo : World, wo = wr := ⟨_, rfl⟩
    rcases hown.2 with ⟨rfl, _⟩ | ⟨g, c, cur, rfl, hbg, _, hnc, _, _, _⟩
    · exact absurd rfl hnn
    clear hnn
    have HO := Lib.hid hown; clear hown
    obtain ⟨n, hn⟩ : ∃ n, n = rs.length := ⟨_, rfl⟩
    rw [← hn] at hrk hnc HO ⊢
    have HN := Lib.hid hn; clear hn
    by_cases hlt : k < m
    · obtain ⟨p, hp⟩ : ∃ p, ps[k]? = some p := ⟨_, List.getElem?_eq_getElem (by have := HM.out; omega)⟩
      have hc0 := HC.out k p hp
      have hcell : wo.cell? ⟨b, o + k, none⟩ = some (.string p) := by rw [HB.out.cell (World.block_lt_of_cell? w _ hc0)]; exact hc0
      clear hc0
      have HCW := Lib.hid hcell
      have HT := Lib.hid (take_next ps k p hp); clear hp
      go_wp2
      go_loopw [5] (fun i wr => ∃ a q : Nat, a ≤ n ∧ i = .int .i64 a ∧ wr = wo.drewN q ∧ Hid (∀ j r, j < a → rs[j]? = some r → key r < key p)) (fun i _ => n - (intOf i).toNat)
      case atStart => exact ⟨0, 0, Nat.zero_le _, rfl, rfl, Lib.hid (fun j r hj => by omega)⟩
      case round =>
        obtain ⟨a, q, ha, rfl, rfl, HL⟩ := hrel
        by_cases hla : a < n
        · obtain ⟨r, hr⟩ : ∃ r, rs[a]? = some r := ⟨_, List.getElem?_eq_getElem (by have := HN.out; omega)⟩
          have hcg : wo.cell? ⟨g, a, none⟩ = some (.string r) := by rw [HO.out.cellAt a (by omega)]; simp [hr]
          have HRR := Lib.hid hr; clear hr
          cases hle : Op.bytesLess r.toList p.toList with
          | true =>
            have HLE := Lib.hid ((less_iff r p).1 hle)
            go_wp2
            go_quiet (fail)
            go_wp2
            go_roundw
            case rel =>
              refine ⟨a + 1, _, by omega, by go_num, rfl, Lib.hid fun j x hj hx => ?_⟩
              by_cases hja : j < a
              · exact HL.out j x hja hx
              · obtain rfl : j = a := by omega
                rw [HRR.out] at hx; cases hx
                exact HLE.out
            case measure => simp [intOf]; omega
          | false =>
            have HLE := Lib.hid (less_false hle)
            by_cases heq : r = p
            · have hbe : (r.toList == p.toList) = true := (same_iff r p).2 heq
              have HE := Lib.hid heq; clear heq
              go_wp2
              go_quiet (fail)
              go_wp2
              go_quiet (fail)
              go_wp2
              go_roundw
              case rel =>
                refine ⟨k + 1, rs, by omega, by go_num, by have := HN.out; omega, by simp, Lib.hid ?_, ?_, ?_⟩
                · rw [HT.out]; exact HS.out.there p (by rw [← HE.out]; exact List.mem_of_getElem? HRR.out)
                · rw [← HN.out]; exact keep_own HO.out ⟨rfl, rfl, rfl, Nat.le_refl _, fun _ _ => rfl⟩
                · exact HB.out.trans ⟨rfl, rfl, rfl, Nat.le_refl _, fun _ _ => rfl⟩
              case measure => simp [intOf]; omega
            · have hbe : (r.toList == p.toList) = false := by
                cases h : (r.toList == p.toList) with
                | false => rfl
                | true => exact absurd ((same_iff r p).1 h) heq
              have HINS : Hid (SortedOf (ps.take k ++ [p]) (rs.take a ++ [p] ++ rs.drop a)) := Lib.hid (HS.out.insert p a (by have := HN.out; omega) HL.out (fun x hx => by
                rw [HRR.out] at hx; cases hx; exact ⟨HLE.out, heq⟩))
              have HE := Lib.hid heq; clear heq
              go_wp2
              go_quiet (fail)
              revert nq; intro q1
              go_wp2
              go_quiet (fail)
              revert nq; intro q2
              have hwb : Below wo.heap.size wo (((wo.drewN q).drewN q1).drewN q2) := ⟨rfl, rfl, rfl, Nat.le_refl _, fun _ _ => rfl⟩
              generalize hW : (((wo.drewN q).drewN q1).drewN q2) = ww at hwb ⊢
              clear hW
              have HO2w := Lib.hid (keep_own HO.out hwb)
              have HBw := Lib.hid (HB.out.trans (hwb.mono HB.out.size))
              have hcellw : ww.cell? ⟨b, o + k, none⟩ = some (.string p) := by rw [hwb.cell (World.block_lt_of_cell? wo _ HCW.out)]; exact HCW.out
              have HCX := Lib.hid hcellw; clear hcellw hcell hwb
              have hlow : w.heap.size ≤ ww.heap.size := HBw.out.size
              have hb0 : Below ww.heap.size ww (ww.alloc (.cells #[] 9)) := (Below.refl _ _).alloc (Nat.le_refl _) _
              have HB0 := Lib.hid hb0; clear hb0
              have HR : Hid (∀ w1 : World, Below ww.heap.size ww w1 → w1.ownsRow w.heap.size 9 1 (.slice (some ⟨g, 0, none⟩) n c) n (rs.map Value.string)) := Lib.hid (fun w1 h => keep_own HO2w.out h)
              have ho0 := World.ownsRow_lit (base := ww.heap.size) (size := 1) (e := 9) ww #[] 0 (Nat.le_refl _) (by decide) rfl
              have HO0 := Lib.hid ho0; clear ho0
              go_wp2_with (first | (at_builtin; refine wpList_append_own _ rfl (.tmp 46) (.tmp 49) 35 rfl ww.heap.size 9 i0 (.string ByteArray.empty) 1 16 Try.underlying35 HI.out HZ0.out HZ1.out HZ2.out rfl (by decide) _ _ _ rfl HO0.out ⟨g, 0, none⟩ a c ((rs.take a).map Value.string) rfl ?a0 ?a1 ?a2 (by unfold maxLen; omega) (by omega) ?a5 ?_))
              case a0 => have := HN.out; first | omega | (simp; omega)
              case a1 => intro j u hu; have h := src_at (HR.out _ HB0.out) 0 a (by have := HN.out; omega) j u (by simpa using hu); simpa using h
              case a2 => have h := strs_one (rs.take a); simpa using h
              intro v1 w1 hown1 hgrow1 hnil1
              have hb1 : Below ww.heap.size ww w1 := HB0.out.grown hgrow1 (by simp) (fun j hj => by have := (HO0.out.lt j hj).1; exact this)
              have HB1 := Lib.hid hb1; clear hb1 hgrow1
              have hown1' : w1.ownsRow ww.heap.size 9 1 v1 a ((rs.take a).map Value.string) := by simpa using hown1
              have hnn1 : v1 ≠ .slice none 0 0 := hnil1
              have HO1 := Lib.hid hown1'; clear hown1 hown1' hnil1
              have hcell1 : w1.cell? ⟨b, o + k, none⟩ = some (.string p) := by rw [HB1.out.cell (World.block_lt_of_cell? ww _ HCX.out)]; exact HCX.out
              go_wp2_with (first | (at_builtin; refine wpList_append_own _ rfl (.tmp 51) (.tmp 56) 35 rfl ww.heap.size 9 i0 (.string ByteArray.empty) 1 16 Try.underlying35 HI.out HZ0.out HZ1.out HZ2.out rfl (by decide) _ _ _ rfl (HO1.out.alloc _) ⟨w1.heap.size, 0, none⟩ 1 1 [.string p] rfl rfl ?b1 ?b2 (by unfold maxLen; omega) (by omega) ?b5 ?_))
              case b1 => exact cell_one_new _ _ _
              case b2 => intro u hu; simp at hu; subst hu; rfl
              case b5 => have := HB1.out.size; simp; omega
              intro v2 w2 hown2 hgrow2 hnil2
              have hb2 : Below ww.heap.size ww w2 := (HB1.out.alloc HB1.out.size _).grown hgrow2 (by have := HB1.out.size; simp; omega) (fun j hj => (HO1.out.lt j hj).1)
              have HB2 := Lib.hid hb2; clear hb2 hgrow2
              have hown2' : w2.ownsRow ww.heap.size 9 1 v2 (a + 1) ((rs.take a ++ [p]).map Value.string) := by simpa using hown2
              have hnn2 : v2 ≠ .slice none 0 0 := hnil2
              have HO2 := Lib.hid hown2'; clear hown2 hown2' hnil2 hnn1
              have hca : ¬ c = a := by omega
              go_wp2_with (first | (at_builtin; refine wpList_append_own _ rfl (.tmp 58) (.tmp 61) 35 rfl ww.heap.size 9 i0 (.string ByteArray.empty) 1 16 Try.underlying35 HI.out HZ0.out HZ1.out HZ2.out rfl (by decide) _ _ _ rfl HO2.out ⟨g, a, none⟩ (n - a) (c - a) ((rs.drop a).map Value.string) ?e9 ?e0 ?e1 ?e2 (by unfold maxLen; omega) (by omega) ?e5 ?_))
              case e9 => rfl
              case e0 => have := HN.out; simp; omega
              case e1 => intro j u hu; have h := src_drop (HR.out _ HB2.out) a (by have := HN.out; omega) j u (by simpa using hu); simpa [add_at] using h
              case e2 => have h := strs_one (rs.drop a); simpa using h
              case e5 => exact HB2.out.size
              intro v3 w3 hown3 hgrow3 hnil3
              have hb3 : Below ww.heap.size ww w3 := HB2.out.grown hgrow3 HB2.out.size (fun j hj => (HO2.out.lt j hj).1)
              have HB3 := Lib.hid (HBw.out.trans (hb3.mono hlow)); clear hb3 hgrow3
              have hown3' : w3.ownsRow w.heap.size 9 1 v3 (rs.take a ++ [p] ++ rs.drop a).length ((rs.take a ++ [p] ++ rs.drop a).map Value.string) := own_len (own_low hown3 hlow) (by simp; have := HN.out; omega) (by simp)
              have hnn3 : v3 ≠ .slice none 0 0 := fun e => hnn2 (by first | exact absurd e hnil3 | exact (hnil3.1 e).1 | exact (hnil3 e).1)
              have HO3 := Lib.hid hown3'; clear hown3 hown3' hnil3 hnn2
              go_wp2
              go_roundw
              case rel => exact ⟨k + 1, rs.take a ++ [p] ++ rs.drop a, by omega, by go_num, by simp; have := HN.out; omega, hnn3, Lib.hid (by rw [HT.out]; exact HINS.out), HO3.out, HB3.out⟩
              case measure => simp [intOf]; omega
        · have HINS : Hid (SortedOf (ps.take k ++ [p]) (rs.take a ++ [p] ++ rs.drop a)) := Lib.hid (HS.out.insert p a (by have := HN.out; omega) HL.out (fun x hx => by
            have := (List.getElem?_eq_some_iff.1 hx).1
            have := HN.out; omega))
          have hae : a = n := by omega
          subst hae
          rcases Nat.eq_or_lt_of_le hnc with hca | hca
          · subst hca
            go_wp2
            go_quiet (fail)
            revert nq; intro q1
            go_wp2
            go_quiet (fail)
            revert nq; intro q2
            have hwb : Below wo.heap.size wo (((wo.drewN q).drewN q1).drewN q2) := ⟨rfl, rfl, rfl, Nat.le_refl _, fun _ _ => rfl⟩
            generalize hW : (((wo.drewN q).drewN q1).drewN q2) = ww at hwb ⊢
            clear hW
            have HO2w := Lib.hid (keep_own HO.out hwb)
            have HBw := Lib.hid (HB.out.trans (hwb.mono HB.out.size))
            have hcellw : ww.cell? ⟨b, o + k, none⟩ = some (.string p) := by rw [hwb.cell (World.block_lt_of_cell? wo _ HCW.out)]; exact HCW.out
            have HCX := Lib.hid hcellw; clear hcellw hcell hwb
            have hlow : w.heap.size ≤ ww.heap.size := HBw.out.size
            have hb0 : Below ww.heap.size ww (ww.alloc (.cells #[] 9)) := (Below.refl _ _).alloc (Nat.le_refl _) _
            have HB0 := Lib.hid hb0; clear hb0
            have HR : Hid (∀ w1 : World, Below ww.heap.size ww w1 → w1.ownsRow w.heap.size 9 1 (.slice (some ⟨g, 0, none⟩) a a) a (rs.map Value.string)) := Lib.hid (fun w1 h => keep_own HO2w.out h)
            have ho0 := World.ownsRow_lit (base := ww.heap.size) (size := 1) (e := 9) ww #[] 0 (Nat.le_refl _) (by decide) rfl
            have HO0 := Lib.hid ho0; clear ho0
            go_wp2_with (first | (at_builtin; refine wpList_append_own _ rfl (.tmp 46) (.tmp 49) 35 rfl ww.heap.size 9 i0 (.string ByteArray.empty) 1 16 Try.underlying35 HI.out HZ0.out HZ1.out HZ2.out rfl (by decide) _ _ _ rfl HO0.out ⟨g, 0, none⟩ a a ((rs.take a).map Value.string) rfl ?fa0 ?fa1 ?fa2 (by unfold maxLen; omega) (by omega) ?fa5 ?_))
            case fa0 => have := HN.out; first | omega | (simp; omega)
            case fa1 => intro j u hu; have h := src_at (HR.out _ HB0.out) 0 a (by have := HN.out; omega) j u (by simpa using hu); simpa using h
            case fa2 => have h := strs_one (rs.take a); simpa using h
            intro v1 w1 hown1 hgrow1 hnil1
            have hb1 : Below ww.heap.size ww w1 := HB0.out.grown hgrow1 (by simp) (fun j hj => by have := (HO0.out.lt j hj).1; exact this)
            have HB1 := Lib.hid hb1; clear hb1 hgrow1
            have hown1' : w1.ownsRow ww.heap.size 9 1 v1 a ((rs.take a).map Value.string) := by simpa using hown1
            have hnn1 : v1 ≠ .slice none 0 0 := hnil1
            have HO1 := Lib.hid hown1'; clear hown1 hown1' hnil1
            have hcell1 : w1.cell? ⟨b, o + k, none⟩ = some (.string p) := by rw [HB1.out.cell (World.block_lt_of_cell? ww _ HCX.out)]; exact HCX.out
            go_wp2_with (first | (at_builtin; refine wpList_append_own _ rfl (.tmp 51) (.tmp 56) 35 rfl ww.heap.size 9 i0 (.string ByteArray.empty) 1 16 Try.underlying35 HI.out HZ0.out HZ1.out HZ2.out rfl (by decide) _ _ _ rfl (HO1.out.alloc _) ⟨w1.heap.size, 0, none⟩ 1 1 [.string p] rfl rfl ?fb1 ?fb2 (by unfold maxLen; omega) (by omega) ?fb5 ?_))
            case fb1 => exact cell_one_new _ _ _
            case fb2 => intro u hu; simp at hu; subst hu; rfl
            case fb5 => have := HB1.out.size; simp; omega
            intro v2 w2 hown2 hgrow2 hnil2
            have hb2 : Below ww.heap.size ww w2 := (HB1.out.alloc HB1.out.size _).grown hgrow2 (by have := HB1.out.size; simp; omega) (fun j hj => (HO1.out.lt j hj).1)
            have HB2 := Lib.hid hb2; clear hb2 hgrow2
            have hown2' : w2.ownsRow ww.heap.size 9 1 v2 (a + 1) ((rs.take a ++ [p]).map Value.string) := by simpa using hown2
            have hnn2 : v2 ≠ .slice none 0 0 := hnil2
            have HO2 := Lib.hid hown2'; clear hown2 hown2' hnil2 hnn1
            go_wp2_with (first | (at_builtin; refine wpList_append_own _ rfl (.tmp 58) (.tmp 61) 35 rfl ww.heap.size 9 i0 (.string ByteArray.empty) 1 16 Try.underlying35 HI.out HZ0.out HZ1.out HZ2.out rfl (by decide) _ _ _ rfl HO2.out ⟨g, 0, none⟩ 0 0 ((rs.drop a).map Value.string) ?fe9 ?fe0 ?fe1 ?fe2 (by unfold maxLen; omega) (by omega) ?fe5 ?_))
            case fe9 => rfl
            case fe0 => have := HN.out; simp; omega
            case fe1 => intro j u hu; have h := (List.getElem?_eq_some_iff.1 hu).1; simp at h; have := HN.out; omega
            case fe2 => have h := strs_one (rs.drop a); simpa using h
            case fe5 => exact HB2.out.size
            intro v3 w3 hown3 hgrow3 hnil3
            have hb3 : Below ww.heap.size ww w3 := HB2.out.grown hgrow3 HB2.out.size (fun j hj => (HO2.out.lt j hj).1)
            have HB3 := Lib.hid (HBw.out.trans (hb3.mono hlow)); clear hb3 hgrow3
            have hown3' : w3.ownsRow w.heap.size 9 1 v3 (rs.take a ++ [p] ++ rs.drop a).length ((rs.take a ++ [p] ++ rs.drop a).map Value.string) := own_len (own_low hown3 hlow) (by simp; have := HN.out; omega) (by simp)
            have hnn3 : v3 ≠ .slice none 0 0 := fun e => hnn2 (by first | exact absurd e hnil3 | exact (hnil3.1 e).1 | exact (hnil3 e).1)
            have HO3 := Lib.hid hown3'; clear hown3 hown3' hnil3 hnn2
            go_wp2
            go_roundw
            case rel => exact ⟨k + 1, rs.take a ++ [p] ++ rs.drop a, by omega, by go_num, by simp; have := HN.out; omega, hnn3, Lib.hid (by rw [HT.out]; exact HINS.out), HO3.out, HB3.out⟩
            case measure => simp [intOf]; omega
          · have hca' : ¬ c = a := by omega
            go_wp2
            go_quiet (fail)
            revert nq; intro q1
            go_wp2
            go_quiet (fail)
            revert nq; intro q2
            have hwb : Below wo.heap.size wo (((wo.drewN q).drewN q1).drewN q2) := ⟨rfl, rfl, rfl, Nat.le_refl _, fun _ _ => rfl⟩
            generalize hW : (((wo.drewN q).drewN q1).drewN q2) = ww at hwb ⊢
            clear hW
            have HO2w := Lib.hid (keep_own HO.out hwb)
            have HBw := Lib.hid (HB.out.trans (hwb.mono HB.out.size))
            have hcellw : ww.cell? ⟨b, o + k, none⟩ = some (.string p) := by rw [hwb.cell (World.block_lt_of_cell? wo _ HCW.out)]; exact HCW.out
            have HCX := Lib.hid hcellw; clear hcellw hcell hwb
            have hlow : w.heap.size ≤ ww.heap.size := HBw.out.size
            have hb0 : Below ww.heap.size ww (ww.alloc (.cells #[] 9)) := (Below.refl _ _).alloc (Nat.le_refl _) _
            have HB0 := Lib.hid hb0; clear hb0
            have HR : Hid (∀ w1 : World, Below ww.heap.size ww w1 → w1.ownsRow w.heap.size 9 1 (.slice (some ⟨g, 0, none⟩) a c) a (rs.map Value.string)) := Lib.hid (fun w1 h => keep_own HO2w.out h)
            have ho0 := World.ownsRow_lit (base := ww.heap.size) (size := 1) (e := 9) ww #[] 0 (Nat.le_refl _) (by decide) rfl
            have HO0 := Lib.hid ho0; clear ho0
            go_wp2_with (first | (at_builtin; refine wpList_append_own _ rfl (.tmp 46) (.tmp 49) 35 rfl ww.heap.size 9 i0 (.string ByteArray.empty) 1 16 Try.underlying35 HI.out HZ0.out HZ1.out HZ2.out rfl (by decide) _ _ _ rfl HO0.out ⟨g, 0, none⟩ a c ((rs.take a).map Value.string) rfl ?ga0 ?ga1 ?ga2 (by unfold maxLen; omega) (by omega) ?ga5 ?_))
            case ga0 => have := HN.out; first | omega | (simp; omega)
            case ga1 => intro j u hu; have h := src_at (HR.out _ HB0.out) 0 a (by have := HN.out; omega) j u (by simpa using hu); simpa using h
            case ga2 => have h := strs_one (rs.take a); simpa using h
            intro v1 w1 hown1 hgrow1 hnil1
            have hb1 : Below ww.heap.size ww w1 := HB0.out.grown hgrow1 (by simp) (fun j hj => by have := (HO0.out.lt j hj).1; exact this)
            have HB1 := Lib.hid hb1; clear hb1 hgrow1
            have hown1' : w1.ownsRow ww.heap.size 9 1 v1 a ((rs.take a).map Value.string) := by simpa using hown1
            have hnn1 : v1 ≠ .slice none 0 0 := hnil1
            have HO1 := Lib.hid hown1'; clear hown1 hown1' hnil1
            have hcell1 : w1.cell? ⟨b, o + k, none⟩ = some (.string p) := by rw [HB1.out.cell (World.block_lt_of_cell? ww _ HCX.out)]; exact HCX.out
            go_wp2_with (first | (at_builtin; refine wpList_append_own _ rfl (.tmp 51) (.tmp 56) 35 rfl ww.heap.size 9 i0 (.string ByteArray.empty) 1 16 Try.underlying35 HI.out HZ0.out HZ1.out HZ2.out rfl (by decide) _ _ _ rfl (HO1.out.alloc _) ⟨w1.heap.size, 0, none⟩ 1 1 [.string p] rfl rfl ?gb1 ?gb2 (by unfold maxLen; omega) (by omega) ?gb5 ?_))
            case gb1 => exact cell_one_new _ _ _
            case gb2 => intro u hu; simp at hu; subst hu; rfl
            case gb5 => have := HB1.out.size; simp; omega
            intro v2 w2 hown2 hgrow2 hnil2
            have hb2 : Below ww.heap.size ww w2 := (HB1.out.alloc HB1.out.size _).grown hgrow2 (by have := HB1.out.size; simp; omega) (fun j hj => (HO1.out.lt j hj).1)
            have HB2 := Lib.hid hb2; clear hb2 hgrow2
            have hown2' : w2.ownsRow ww.heap.size 9 1 v2 (a + 1) ((rs.take a ++ [p]).map Value.string) := by simpa using hown2
            have hnn2 : v2 ≠ .slice none 0 0 := hnil2
            have HO2 := Lib.hid hown2'; clear hown2 hown2' hnil2 hnn1
            go_wp2_with (first | (at_builtin; refine wpList_append_own _ rfl (.tmp 58) (.tmp 61) 35 rfl ww.heap.size 9 i0 (.string ByteArray.empty) 1 16 Try.underlying35 HI.out HZ0.out HZ1.out HZ2.out rfl (by decide) _ _ _ rfl HO2.out ⟨g, a, none⟩ 0 (c - a) ((rs.drop a).map Value.string) ?ge9 ?ge0 ?ge1 ?ge2 (by unfold maxLen; omega) (by omega) ?ge5 ?_))
            case ge9 => rfl
            case ge0 => have := HN.out; simp; omega
            case ge1 => intro j u hu; have h := (List.getElem?_eq_some_iff.1 hu).1; simp at h; have := HN.out; omega
            case ge2 => have h := strs_one (rs.drop a); simpa using h
            case ge5 => exact HB2.out.size
            intro v3 w3 hown3 hgrow3 hnil3
            have hb3 : Below ww.heap.size ww w3 := HB2.out.grown hgrow3 HB2.out.size (fun j hj => (HO2.out.lt j hj).1)
            have HB3 := Lib.hid (HBw.out.trans (hb3.mono hlow)); clear hb3 hgrow3
            have hown3' : w3.ownsRow w.heap.size 9 1 v3 (rs.take a ++ [p] ++ rs.drop a).length ((rs.take a ++ [p] ++ rs.drop a).map Value.string) := own_len (own_low hown3 hlow) (by simp; have := HN.out; omega) (by simp)
            have hnn3 : v3 ≠ .slice none 0 0 := fun e => hnn2 (by first | exact absurd e hnil3 | exact (hnil3.1 e).1 | exact (hnil3 e).1)
            have HO3 := Lib.hid hown3'; clear hown3 hown3' hnil3 hnn2
            go_wp2
            go_roundw
            case rel => exact ⟨k + 1, rs.take a ++ [p] ++ rs.drop a, by omega, by go_num, by simp; have := HN.out; omega, hnn3, Lib.hid (by rw [HT.out]; exact HINS.out), HO3.out, HB3.out⟩
            case measure => simp [intOf]; omega
    · have HD : Hid (ps.take k = ps) := Lib.hid (by
        have hkn : k = ps.length := by have := HM.out; omega
        rw [hkn, List.take_length])
      go_wp2
      go_ret
      refine ⟨_, rs, rfl, ?_, by rw [← HN.out, ← HM.out]; omega, by rw [← HN.out]; exact HO.out, HB.out⟩
      have h := HS.out
      rw [HD.out] at h
      exact h

theorem sSort_any (v : Value) (ps : List ByteArray) (w : World) (hl : ps.length ≤ 4294967296) (hv : StrsAt w v ps) :
    Calls Try.prog 125 #[v] w (SortEnd ps w) := by
  obtain ⟨a, cap, rfl, hv⟩ := hv
  rcases hv with rfl | ⟨b, o, rfl, hv⟩
  · exact sSort_empty a cap w
  · exact sSort_some b o cap ps w hl hv
end Go.Proofs.Ytidbokheeieifaa
