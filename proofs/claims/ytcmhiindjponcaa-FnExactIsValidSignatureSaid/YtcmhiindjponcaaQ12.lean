/-
  impl.isNoSortName, slices.IndexFunc and slices.ContainsFunc over strings, impl.isValidOp and impl.IsValidSignature tell the signatures that are valid.
-/
import Derived.Test.YtcmhiindjponcaaQ11
import Derived.Deep.AppendLies
import Derived.Deep.DeepCutAuto
namespace Go.Proofs.Ytcmhiindjponcaa
open Go.RowKit

set_option maxRecDepth 100000 in
set_option maxHeartbeats 800000 in
theorem noSort_any (s : ByteArray) (w : World) (hs : s.size ≤ 1048576) : Calls Try.prog 56 #[.string s] w (Tells (¬ SortName s) w) := by
  go_enter Try.func56, Try.ntmps56
  go_wp2_with fail
  refine (iName_any s _ (by omega)).mono ?_
  rintro e w1 ⟨b1, rfl, hq1, rfl⟩
  have HQ1 := Lib.hid hq1; clear hq1
  cases b1 with
  | false =>
    go_wp2
    go_ret
    exact ⟨true, rfl, ⟨fun _ h => by have := HQ1.out.2 h.1; simp at this, fun _ => rfl⟩, rfl⟩
  | true =>
    rcases word_ways s with ⟨h1, h2⟩ | ⟨h1, h2⟩
    · have H1 := Lib.hid h1; clear h1
      go_wp2
      go_ret
      exact ⟨true, rfl, ⟨fun _ h => h.2 H1.out, fun _ => rfl⟩, rfl⟩
    · have H1 := Lib.hid h1; clear h1
      go_wp2
      go_ret
      exact ⟨false, rfl, ⟨fun h => by simp at h, fun h => absurd ⟨HQ1.out.1 (by simp), H1.out⟩ h⟩, rfl⟩

/-- The index of a bad name, or a number below 0. -/
def IdxB (ps : List ByteArray) (w : World) (e : Ending) (w' : World) : Prop := ∃ r : Int, e = .returned (.int .i64 r) ∧ (0 ≤ r ↔ ∃ p ∈ ps, ¬ SortName p) ∧ w' = w

set_option maxRecDepth 100000 in
set_option maxHeartbeats 1600000 in
theorem idxS_any (v : Value) (ps : List ByteArray) (w : World) (hl : ps.length ≤ 1048576) (hs : ∀ p ∈ ps, p.size ≤ 1048576) (hv : StrsAt w v ps) :
    Calls Try.prog 97 #[v, .func (.func 56) #[] #[]] w (IdxB ps w) := by
  have HV := Lib.hid hv
  obtain ⟨a, cap, rfl⟩ := hv.slice
  clear hv
  have HS := Lib.hid hs; clear hs
  obtain ⟨m, hm⟩ : ∃ m, m = ps.length := ⟨_, rfl⟩
  rw [← hm] at HV hl ⊢
  have HM := Lib.hid hm; clear hm
  go_enter Try.func97, Try.ntmps97
  go_wp2
  go_loopw [5, 8] (fun _ i wr => ∃ k : Nat, k ≤ m ∧ i = .int .i64 k ∧ Hid (∀ p ∈ ps.take k, SortName p) ∧ wr = w) (fun _ i _ => m - (intOf i).toNat)
  case atStart => exact ⟨0, Nat.zero_le _, rfl, Lib.hid (fun p hp => by simp at hp), rfl⟩
  case round =>
    obtain ⟨k, hk, rfl, HO, rfl⟩ := hrel
    by_cases hlt : k < m
    · obtain ⟨p, hp⟩ : ∃ p, ps[k]? = some p := ⟨_, List.getElem?_eq_getElem (by have := HM.out; omega)⟩
      have HT1 := Lib.hid (take_next ps k p hp)
      have HPM := Lib.hid (List.mem_of_getElem? hp)
      obtain ⟨g, o, cc, ee, hc⟩ := HV.out.at hp
      clear hp
      simp only [Value.slice.injEq] at ee
      obtain ⟨rfl, -, rfl⟩ := ee
      go_wp2_with fail
      refine (noSort_any p _ (HS.out p HPM.out)).mono ?_
      rintro e w1 ⟨q, rfl, hq, rfl⟩
      have HQ := Lib.hid hq; clear hq
      cases q with
      | true =>
        go_wp2
        go_ret
        exact ⟨k, rfl, ⟨fun _ => ⟨p, HPM.out, HQ.out.1 (by simp)⟩, fun _ => by omega⟩, rfl⟩
      | false =>
        have HNX : Hid (∀ p ∈ ps.take (k + 1), SortName p) := Lib.hid (fun s hs => by
          rw [HT1.out] at hs
          rcases List.mem_append.1 hs with h | h
          · exact HO.out s h
          · simp at h; subst h; exact Classical.byContradiction fun hno => by have := HQ.out.2 hno; simp at this)
        go_wp2
        go_roundw
        case rel => exact ⟨k + 1, by omega, by go_num, HNX, by first | rfl | trivial⟩
        case measure => simp [intOf]; omega
    · have HF : Hid (∀ p ∈ ps, SortName p) := Lib.hid (fun p hp => HO.out p (by rw [show k = ps.length by have := HM.out; omega, List.take_length]; exact hp))
      go_wp2
      go_ret
      exact ⟨-1, rfl, ⟨fun h => by omega, fun ⟨p, hm, hno⟩ => absurd (HF.out p hm) hno⟩, rfl⟩

set_option maxRecDepth 100000 in
set_option maxHeartbeats 800000 in
theorem contS_any (v : Value) (ps : List ByteArray) (w : World) (hl : ps.length ≤ 1048576) (hs : ∀ p ∈ ps, p.size ≤ 1048576) (hv : StrsAt w v ps) :
    Calls Try.prog 55 #[v, .func (.func 56) #[] #[]] w (Tells (∃ p ∈ ps, ¬ SortName p) w) := by
  have HC := Lib.hid (idxS_any v ps w hl hs hv)
  obtain ⟨a, cap, rfl⟩ := hv.slice
  clear hv hs
  go_enter Try.func55, Try.ntmps55
  go_wp2_with (go_at_call 97; refine HC.out.mono ?_; rintro e w1 ⟨r, rfl, hr, rfl⟩; have HR := Lib.hid hr; clear hr)
  go_ret
  exact ⟨_, rfl, by simpa using HR.out, rfl⟩
theorem bel_alo {w a : World} (h : Below w.heap.size w a) (o : Obj) : Below w.heap.size w (a.alloc o) := h.alloc h.size o
theorem bel_tw {w a b : World} (h : Below w.heap.size w a) (k : Below a.heap.size a b) : Below w.heap.size w b := h.trans (k.mono h.size)
theorem hfD (w : World) (o : Obj) : (w.alloc o).drew.heap[w.heap.size]? = some o := heap_new w o rfl

set_option maxRecDepth 100000 in
set_option maxHeartbeats 3200000 in
theorem iOp_any (us u : Value) (ps : List ByteArray) (d : OpD) (w : World) (hl : ps.length ≤ 1048576) (hal : d.args.length ≤ 1048576) (hnm : d.name.size ≤ 1048576) (ha : StrsAt w us ps) (hu : StrsAt w u d.args) :
    Calls Try.prog 57 #[ov d.name u d.res, us] w (TellsB (ValidOp ps d) w) := by
  obtain ⟨i0, hi, hz0, hz1, hz2⟩ := info_parts infoStr'
  have HI := Lib.hid hi; clear hi
  have HZ0 := Lib.hid hz0; clear hz0
  have HZ1 := Lib.hid hz1; clear hz1
  have HZ2 := Lib.hid hz2; clear hz2
  have HA := Lib.hid ha
  have HU := Lib.hid hu
  obtain ⟨a0, c0, rfl⟩ := ha.slice
  obtain ⟨a1, c1, rfl⟩ := hu.slice
  clear ha hu
  have HV : Hid (ValidOp ps d ↔ (Nm 97 122 d.name ∧ builtinB d.name = false ∧ d.args.length ≤ 3 ∧ (∀ s ∈ d.args, SortOk ps s) ∧ SortOk ps d.res)) := Lib.hid Iff.rfl
  obtain ⟨nm, xs, rs⟩ := d
  obtain ⟨X, hX⟩ : ∃ X, X = ValidOp ps ⟨nm, xs, rs⟩ := ⟨_, rfl⟩
  rw [← hX] at HV ⊢
  clear hX
  obtain ⟨n, hn⟩ : ∃ n, n = xs.length := ⟨_, rfl⟩
  have hn' : xs.length = n := hn.symm
  have hal2 : n ≤ 1048576 := by rw [hn]; exact hal
  clear hal
  have hnm2 : nm.size ≤ 1048576 := hnm
  clear hnm
  rw [hn'] at HU
  rw [hn']
  have HN := Lib.hid hn
  obtain ⟨W, hW⟩ : ∃ W, W = w.alloc (.cells #[.string nm, .slice a1 n c1, .string rs] 47) := ⟨_, rfl⟩
  have hbW : Below w.heap.size w W := by rw [hW]; exact (Below.refl _ _).alloc (Nat.le_refl _) _
  have hWs : w.heap.size < W.heap.size := by rw [hW]; simp
  have r1 : W.heap[w.heap.size]? = some (.cells #[.string nm, .slice a1 n c1, .string rs] 47 (0, 0)) := by rw [hW]; exact heap_new _ _ rfl
  have HCS : Hid (∀ w', Below W.heap.size W w' → w'.cell? ⟨w.heap.size, 0, none⟩ = some (.string nm) ∧ w'.cell? ⟨w.heap.size, 1, none⟩ = some (.slice a1 n c1) ∧ w'.cell? ⟨w.heap.size, 2, none⟩ = some (.string rs) ∧ Below W.heap.size W w') := Lib.hid (fun w' hb => by
    have q1 := (hb.block w.heap.size hWs).trans r1
    refine ⟨?_, ?_, ?_, hb⟩
    · rw [cell_of_row w' _ 0 _ _ _ q1]; rfl
    · rw [cell_of_row w' _ 1 _ _ _ q1]; rfl
    · rw [cell_of_row w' _ 2 _ _ _ q1]; rfl)
  have HBW := Lib.hid hbW; clear hbW r1
  have HSX := Lib.hid (HA.out.below HBW.out)
  have HCL : Hid (∀ w', Below W.heap.size W w' → Calls Try.prog 69 #[.slice a1 n c1] w' (CopyEnd xs w')) := Lib.hid (fun w' hb => cloneS_any _ xs w' (by rw [← hn]; exact hal2) ((HU.out.below HBW.out).below hb))
  have HIX : Hid (∀ w' s, Below W.heap.size W w' → Calls Try.prog 99 #[.slice a0 ps.length c0, .string s] w' (IdxEnd ps s w')) := Lib.hid (fun w' s hb => iIndex_any _ ps s w' (by omega) (HSX.out.below hb))
  have HNL : Hid (xs.length ≤ 3 ↔ n ≤ 3) := Lib.hid (by omega)
  clear hn hn'
  obtain ⟨d0, d1, d2, hbb⟩ := HCS.out W (Below.refl _ _)
  go_enter Try.func57, Try.ntmps57
  go_wp2_with fail
  rw [← hW]
  clear hW
  refine (iName_any nm _ (by omega)).mono ?_
  rintro e w1 ⟨b1, rfl, hq1, rfl⟩
  have HQ1 := Lib.hid hq1; clear hq1
  cases b1 with
  | false =>
    go_wp2
    go_ret
    exact ⟨false, rfl, ⟨fun h => by simp at h, fun hx => by have := HQ1.out.2 (HV.out.1 hx).1; simp at this⟩, HBW.out⟩
  | true =>
    go_wp2_with fail
    refine (iBuiltin_any nm _).mono ?_
    rintro e w1 ⟨rfl, rfl⟩
    obtain ⟨bb2, hbb2⟩ : ∃ b, b = builtinB nm := ⟨_, rfl⟩
    rw [← hbb2]
    have HB2 := Lib.hid hbb2; clear hbb2
    cases bb2 with
    | true =>
      go_wp2
      go_ret
      exact ⟨false, rfl, ⟨fun h => by simp at h, fun hx => by have := (HV.out.1 hx).2.1; rw [← HB2.out] at this; simp at this⟩, HBW.out⟩
    | false =>
      obtain ⟨W, hWW⟩ : ∃ W, W = w1 := ⟨_, rfl⟩
      subst hWW
      by_cases h3 : n ≤ 3
      · go_upto_region 3 with fail
        go_cut [28, 29, 30] (fun v l i wc => ∃ g cap, v = .slice (some ⟨g, 0, none⟩) (xs.length + 1) cap ∧ l = .int .i64 ((xs.length : Int) + 1) ∧ i = .int .i64 0 ∧ Hid (wc.ownsRow W.heap.size 9 1 (.slice (some ⟨g, 0, none⟩) (xs.length + 1) cap) (xs.length + 1) ((xs ++ [rs]).map Value.string)) ∧ Hid (Below W.heap.size W wc))
        case first =>
          have hxl : xs.length ≤ 1048576 := by have := HN.out; omega
          go_region_held3 (fun w' => w'.cell? ⟨w.heap.size, 1, none⟩ = some (.slice a1 n c1) ∧ w'.cell? ⟨w.heap.size, 2, none⟩ = some (.string rs) ∧ Below W.heap.size W w')
            (first | exact (HCS.out _ (by (repeat' (first | assumption | exact Below.refl _ _ | refine Below.drew ?_ | refine bel_alo ?_ _ | refine bel_tw ?_ (by assumption))))).2 | go_keep)
            (first
              | (go_at_call 69; refine (HCL.out _ (by (repeat' (first | assumption | exact Below.refl _ _ | refine Below.drew ?_ | refine bel_alo ?_ _ | refine bel_tw ?_ (by assumption))))).mono ?_; rintro e w1 ⟨u1, rfl, ho1, hb1⟩; obtain ⟨ua, uc, rfl⟩ := own_formK' ho1; have hB1 : Below W.heap.size W w1 := (by (repeat' (first | assumption | exact Below.refl _ _ | refine Below.drew ?_ | refine bel_alo ?_ _ | refine bel_tw ?_ (by assumption)))))
              | (refine step_append_lies _ rfl (.tmp 24) (.tmp 27) 24 rfl W.heap.size 9 i0 (.string ByteArray.empty) 1 16 Try.underlying24 HI.out HZ0.out HZ1.out HZ2.out rfl (by decide) (.slice ua xs.length uc) xs.length (xs.map Value.string) rfl ((own_low ho1 (by first | exact Nat.le_refl _ | (simp; done) | (simp; omega))).alloc _) ⟨w1.heap.size, 0, none⟩ 1 1 [.string rs] rfl rfl (cell_one_new _ _ _) (by intro u hu; simp at hu; subst hu; rfl) (by decide) (by unfold maxLen; omega) (by omega) (bel_alo hB1 _).size _ rfl ?_; intro g cap w2 ho2 hg2 ha2 hl2; have hB2 : Below W.heap.size W w2 := (bel_alo hB1 _).grown hg2 (bel_alo hB1 _).size (fun kk e => by have h1 := (ho1.lt kk e).1; (try simp at h1); omega))
              | (refine step_append_lies _ rfl (.tmp 24) (.tmp 27) 24 rfl W.heap.size 9 i0 (.string ByteArray.empty) 1 16 Try.underlying24 HI.out HZ0.out HZ1.out HZ2.out rfl (by decide) (.slice ua xs.length uc) xs.length (xs.map Value.string) rfl (own_low ho1 (by first | exact Nat.le_refl _ | (simp; done) | (simp; omega))) ⟨W.heap.size, 0, none⟩ 1 1 [.string rs] rfl rfl (World.news_of_block ((hb1.block _ (by simp)).trans (by first | exact hfD W _ | exact heap_new _ _ rfl))) (by intro u hu; simp at hu; subst hu; rfl) (by decide) (by unfold maxLen; omega) (by omega) hB1.size _ rfl ?_; intro g cap w2 ho2 hg2 ha2 hl2; have hB2 : Below W.heap.size W w2 := hB1.grown hg2 hB1.size (fun kk e => by have h1 := (ho1.lt kk e).1; (try simp at h1); omega)))
          all_goals (
            go_wp2_with fail
            go_meet
            exact ⟨g, cap, rfl, rfl, rfl, Lib.hid (by simpa using ho2), Lib.hid hB2⟩)
        obtain ⟨g, cap, rfl, rfl, rfl, HO, HB⟩ := hcut
        have HXL : Hid (xs.length = n) := Lib.hid HN.out.symm
        obtain ⟨ys, hys⟩ : ∃ ys, ys = xs ++ [rs] := ⟨_, rfl⟩
        have HXI : Hid (X ↔ ∀ s ∈ ys, SortOk ps s) := Lib.hid (by
          rw [hys]
          constructor
          · intro hx s hs
            rcases List.mem_append.1 hs with h | h
            · exact (HV.out.1 hx).2.2.2.1 s h
            · simp at h; subst h; exact (HV.out.1 hx).2.2.2.2
          · intro hs
            exact HV.out.2 ⟨HQ1.out.1 (by simp), HB2.out.symm, HNL.out.2 h3, fun s h => hs s (List.mem_append_left _ h), hs rs (by simp)⟩)
        have HYL : Hid (xs.length + 1 = ys.length) := Lib.hid (by rw [hys]; simp)
        rw [← hys] at HO
        clear hys d0 d1 d2 hbb
        obtain ⟨q, hq⟩ : ∃ q, q = xs.length + 1 := ⟨_, rfl⟩
        have hqi : ((xs.length : Int) + 1) = (q : Int) := by omega
        rw [hqi]
        have HQL : Hid (q = ys.length) := Lib.hid (by rw [hq]; exact HYL.out)
        have hqb : q ≤ 1048577 := by have := HXL.out; omega
        rw [← hq] at HO ⊢
        clear hq hqi
        go_wp2_with fail
        go_loopw [6, 30] (fun _ i wr => ∃ k : Nat, k ≤ q ∧ i = .int .i64 k ∧ Hid (∀ s ∈ ys.take k, SortOk ps s) ∧ wr = wc) (fun _ i _ => q - (intOf i).toNat)
        case atStart => exact ⟨0, Nat.zero_le _, rfl, Lib.hid (fun s hs => by simp at hs), rfl⟩
        case round =>
          obtain ⟨k, hk, rfl, HK, rfl⟩ := hrel
          by_cases hlt : k < q
          · obtain ⟨s, hs⟩ : ∃ s, ys[k]? = some s := ⟨_, List.getElem?_eq_getElem (by have := HQL.out; omega)⟩
            have HT1 := Lib.hid (take_next ys k s hs)
            have HSM := Lib.hid (List.mem_of_getElem? hs)
            have hc : wr.cell? ⟨g, k, none⟩ = some (.string s) := by
              rw [HO.out.cellAt k (by omega)]; simp [hs]
            clear hs
            have HNX : SortOk ps s → Hid (∀ p ∈ ys.take (k + 1), SortOk ps p) := fun hok => Lib.hid (fun p hp => by
              rw [HT1.out] at hp
              rcases List.mem_append.1 hp with h | h
              · exact HK.out p h
              · simp at h; subst h; exact hok)
            have HNX' := Lib.hid HNX; clear HNX
            rcases word_ways s with ⟨h1, h2⟩ | ⟨h1, h2⟩
            · have HN1 := HNX'.out (Or.inl h1); clear h1
              go_wp2
              go_roundw
              case rel => exact ⟨k + 1, by omega, by go_num, HN1, by first | rfl | trivial⟩
              case measure => simp [intOf]; omega
            · have H1 := Lib.hid h1; clear h1
              go_wp2_with fail
              refine (HIX.out _ s HB.out).mono ?_
              rintro e w1 ⟨rfl, rfl⟩
              rcases idx_ways ps s with ⟨hi, hm⟩ | ⟨k2, hi, hk2, hm⟩
              · rw [hi]
                have HM := Lib.hid hm; clear hm hi
                go_wp2
                go_ret
                exact ⟨false, rfl, ⟨fun h => by simp at h, fun hx => by rcases HXI.out.1 hx s HSM.out with h | h; exact absurd h H1.out; exact absurd h HM.out⟩, HBW.out.trans (HB.out.mono HBW.out.size)⟩
              · rw [hi]
                have HN1 := HNX'.out (Or.inr hm); clear hm hi
                go_wp2
                go_roundw
                case rel => exact ⟨k + 1, by omega, by go_num, HN1, by first | rfl | trivial⟩
                case measure => simp [intOf]; omega
          · have HF : Hid (∀ s ∈ ys, SortOk ps s) := Lib.hid (fun s hs => HK.out s (by rw [show k = ys.length by have := HQL.out; omega, List.take_length]; exact hs))
            go_wp2
            go_ret
            exact ⟨true, rfl, ⟨fun _ => HXI.out.2 HF.out, fun _ => rfl⟩, HBW.out.trans (HB.out.mono HBW.out.size)⟩
      · go_wp2
        go_ret
        exact ⟨false, rfl, ⟨fun h => by simp at h, fun hx => absurd (HNL.out.1 (HV.out.1 hx).2.2.1) h3⟩, HBW.out⟩
end Go.Proofs.Ytcmhiindjponcaa
