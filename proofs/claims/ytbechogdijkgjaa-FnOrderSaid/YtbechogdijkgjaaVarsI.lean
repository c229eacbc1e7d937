/-
  impl.VarsOfTerm, level by level, returns the names of a term's variables, sorted; impl.IsGround tells whether there are none.
-/
import Derived.Test.YtbechogdijkgjaaArgsOfG
import Derived.Test.YtbechogdijkgjaaForm
import Derived.Test.YtbechogdijkgjaaSortI
import Derived.Test.YtbechogdijkgjaaTermVars
namespace Go.Proofs.Ytbechogdijkgjaa
open Go.RowKit

/-- The names that a node or a level adds. -/
def vN : T → List ByteArray
  | .node k _ s _ => if k = 1 then [s] else []
def vL (ts : List T) : List ByteArray := ts.flatMap vN
theorem vT_N (t : T) : vT t = vN t ++ vS (kT t) := by
  obtain ⟨k, n, s, xs⟩ := t
  rw [vT_node]; rfl
theorem vS_cons (t : T) (l : List T) : vS (t :: l) = vT t ++ vS l := by simp [vS]
theorem vS_app (l m : List T) : vS (l ++ m) = vS l ++ vS m := by simp [vS]
theorem vL_snoc (l : List T) (t : T) : vL (l ++ [t]) = vL l ++ vN t := by simp [vL]
theorem vN_le (t : T) : (vN t).length ≤ 1 := by
  obtain ⟨k, n, s, xs⟩ := t
  show (if k = 1 then [s] else []).length ≤ 1
  split <;> simp
theorem vS_kids (ts : List T) : List.Perm (vS ts) (vL ts ++ vS (kids ts)) := by
  induction ts with
  | nil => simp [vS, vL, kids]
  | cons t l ih =>
    have e : kids (t :: l) = kT t ++ kids l := by simp [kids]
    have e2 : vL (t :: l) = vN t ++ vL l := by simp [vL]
    rw [e, e2, vS_cons, vS_app, vT_N, List.append_assoc, List.append_assoc]
    refine List.Perm.append_left _ ?_
    refine (List.Perm.append_left _ ih).trans ?_
    rw [← List.append_assoc, ← List.append_assoc]
    exact List.Perm.append_right _ List.perm_append_comm
theorem vL_len (ts : List T) : (vL ts).length ≤ ts.length := by
  induction ts with
  | nil => simp [vL]
  | cons t l ih =>
    have e2 : vL (t :: l) = vN t ++ vL l := by simp [vL]
    have := vN_le t
    rw [e2, List.length_append, List.length_cons]; omega
theorem vL_take (ts : List T) (k : Nat) : (vL (ts.take k)).length ≤ k := by
  have := vL_len (ts.take k)
  rw [List.length_take] at this
  omega

/-- Names that are owned and short. -/
def NamesOwn (B : Nat) (w : World) (v : Value) (ps : List ByteArray) : Prop := w.ownsRow B 9 1 v ps.length (ps.map Value.string) ∧ ∀ p ∈ ps, p.size ≤ maxLen
theorem infoStrV : (Try.prog.info? 9).map (fun i => (i.zero, i.size, i.bytes)) = some (some (.string ByteArray.empty), 1, 16) := by kernel_rfl

theorem first_own (w : World) {lo h : Nat} {k n : Int} {s : ByteArray} {a : Option Addr} {m cap : Nat} {xs : List T} (hs : s.size ≤ maxLen) (ha : ArgsAt w lo h (.slice a m cap) xs) :
    LvlOwn w.heap.size w ((boxed w k n s (.slice a m cap)).alloc (.cells #[.int .i64 k, .int .i64 n, .string s, .slice a m cap] 26)) (.slice (some ⟨w.heap.size + 1, 0, none⟩) 1 1) [.node k n s xs] := by
  refine ⟨h, [.int .i64 k, .int .i64 n, .string s, .slice a m cap], ⟨a, m, cap, [], rfl, hs, ha.low (Nat.zero_le _), rfl⟩, ?_⟩
  have hbs : (boxed w k n s (.slice a m cap)).heap.size = w.heap.size + 1 := by simp
  rw [← hbs]
  exact World.ownsRow_lit (boxed w k n s (.slice a m cap)) #[.int .i64 k, .int .i64 n, .string s, .slice a m cap] 1 (by simp) (by simp [maxLen]) rfl

/-- A node of another kind is no variable. -/
theorem form_other (k n : Int) (s : ByteArray) (u : Value) (w : World) (h1 : k ≠ 1) :
    Calls Try.prog 44 #[tv k n s u] w (fun e w' => ∃ ty x, e = .returned (.iface ty x) ∧ w' = boxed w k n s u ∧ ∀ W, (Instr.typeAssert (.iface ty x) 56 53 true).run Try.prog W = .ok (.tuple #[.agg #[.string ByteArray.empty], .bool false]) W) := by
  by_cases h2 : k = 2
  · subst h2
    exact (form2_any n s u w).mono fun e w' ⟨e1, e2⟩ => ⟨_, _, e1, e2, asOV _⟩
  · by_cases h3 : k = 3
    · subst h3
      exact (form3_any n s u w).mono fun e w' ⟨e1, e2⟩ => ⟨_, _, e1, e2, asWV _⟩
    · exact (form0_any k n s u w h1 h2 h3).mono fun e w' ⟨e1, e2⟩ => ⟨_, _, e1, e2, asUV _⟩

set_option maxRecDepth 100000 in
set_option maxHeartbeats 3200000 in
theorem varsT_any (v : Value) (t : T) (lo h : Nat) (w : World) (ht : TermAt w lo h v t) (hw : wT t ≤ 1048576) :
    Calls Try.prog 15 #[v] w (SortEnd (vT t) w) := by
  obtain ⟨k, n, s, u, xs, rfl, rfl, hs, ha⟩ := ht
  obtain ⟨a, cap, rfl⟩ := ha.slice
  obtain ⟨i0, hi, hz0, hz1, hz2⟩ := info_parts infoStrV
  have HI := Lib.hid hi; clear hi
  have HZ0 := Lib.hid hz0; clear hz0
  have HZ1 := Lib.hid hz1; clear hz1
  have HZ2 := Lib.hid hz2; clear hz2
  have hcb : cT (.node k n s xs) ≤ 1048577 := by have := cT_le (.node k n s xs); omega
  have HL := Lib.hid (first_own w (k := k) (n := n) hs ha)
  have HB0 : Hid (Below w.heap.size w ((boxed w k n s (.slice a xs.length cap)).alloc (.cells #[.int .i64 k, .int .i64 n, .string s, .slice a xs.length cap] 26))) := Lib.hid ((boxed_below w k n s _).trans ((boxed_below _ k n s _).mono (boxed_below w k n s _).size))
  obtain ⟨t0, ht0⟩ : ∃ t0, t0 = T.node k n s xs := ⟨_, rfl⟩
  rw [← ht0] at HL hcb ⊢
  have HCB := Lib.hid hcb
  have HP0 : Hid (List.Perm ([] ++ vS [t0]) (vT t0) ∧ 0 + cS [t0] ≤ 1048577) := Lib.hid ⟨by simp [vS], by rw [single_c]; omega⟩
  have HN0 : Hid (NamesOwn w.heap.size ((boxed w k n s (.slice a xs.length cap)).alloc (.cells #[.int .i64 k, .int .i64 n, .string s, .slice a xs.length cap] 26)) (.slice none 0 0) []) := Lib.hid ⟨World.ownsRow_nil _ _ _ _, by simp⟩
  clear hs ha hw ht0 hcb
  go_enter Try.func15, Try.ntmps15
  go_wp2
  go_loopg [3, 4] (cS [t0]) (fun g nv v wr => ∃ (ps : List ByteArray) (ts : List T), g = cS ts ∧ Hid (List.Perm (ps ++ vS ts) (vT t0) ∧ ps.length + cS ts ≤ 1048577) ∧ Hid (NamesOwn w.heap.size wr nv ps) ∧ Hid (LvlOwn w.heap.size w wr v ts) ∧ Hid (Below w.heap.size w wr))
  case atStart => exact ⟨[], [t0], rfl, HP0, HN0, HL, HB0⟩
  case round =>
    obtain ⟨ps, ts, hg, HP, HN, HLV, HB⟩ := hrel
    have HG := Lib.hid hg; clear hg
    obtain ⟨_, _, la, lc, rfl, _⟩ := HLV.out.at
    obtain ⟨m, hm⟩ : ∃ m, m = ts.length := ⟨_, rfl⟩
    rw [← hm] at HLV
    have HM := Lib.hid hm
    have hmb : m ≤ 1048577 := by have := HP.out.2; have := len_le_cS ts; omega
    by_cases h0 : 0 < m
    · rw [← hm]
      clear hm
      go_wp2
      go_loopw [3, 18] (fun nv' i wi => ∃ q : Nat, q ≤ m ∧ i = .int .i64 q ∧ Hid (NamesOwn w.heap.size wi nv' (ps ++ vL (ts.take q))) ∧ Hid (LvlOwn w.heap.size w wi (.slice la m lc) ts) ∧ Hid (Below w.heap.size w wi)) (fun _ i _ => m - (intOf i).toNat)
      case atStart => exact ⟨0, Nat.zero_le _, rfl, Lib.hid (by simpa [vL] using HN.out), HLV, HB⟩
      case round =>
        obtain ⟨q, hq, rfl, HNI, HLI, HBI⟩ := hrel
        by_cases hlt : q < m
        · obtain ⟨t, ht⟩ : ∃ t, ts[q]? = some t := ⟨_, List.getElem?_eq_getElem (by have := HM.out; omega)⟩
          obtain ⟨hh, ls, la', lc', e, hr, hcl⟩ := HLI.out.at
          injection e with e1 e2 e3
          rw [← e1] at hcl
          clear e1 e2 e3
          obtain ⟨b, o, kk, nn, s1, ys, a', c', rfl, rfl, hsz, d0, d1, d2, d3, har⟩ := lvl_cells hr hcl ht
          have HTT := Lib.hid ht; clear ht
          have HSZ := Lib.hid hsz; clear hsz
          have HVK : Hid (vL (ts.take (q + 1)) = vL (ts.take q) ++ vN (.node kk nn s1 ys)) := Lib.hid (by rw [tk ts q _ HTT.out, vL_snoc])
          have hln : (ps ++ vL (ts.take q)).length ≤ 1048577 := by have := vL_take ts q; have := HP.out.2; have := len_le_cS ts; have := HM.out; rw [List.length_append]; omega
          obtain ⟨qs, hqs⟩ : ∃ qs, qs = ps ++ vL (ts.take q) := ⟨_, rfl⟩
          rw [← hqs] at hln HNI
          have HQS : Hid (ps ++ vL (ts.take (q + 1)) = qs ++ vN (.node kk nn s1 ys)) := Lib.hid (by rw [HVK.out, hqs, List.append_assoc])
          have hsh := HNI.out.2
          have HSH := Lib.hid hsh; clear hsh
          obtain ⟨n', hn'⟩ : ∃ n', n' = qs.length := ⟨_, rfl⟩
          have hno := HNI.out.1
          rw [← hn'] at hln hno
          have HN' := Lib.hid hn'
          have HNO := Lib.hid hno
          clear hr hcl har hqs hn' hno HVK HNI
          by_cases hk1 : kk = 1
          · subst hk1
            have hv := asVV
            go_wp2_with fail
            refine (form1_any _ _ _ _).mono ?_
            rintro e w1 ⟨rfl, hw1⟩
            have hb1 : Below wr.heap.size wr w1 := by rw [hw1]; exact ((Below.refl _ _).alloc (Nat.le_refl _) _).trans ((boxed_below _ _ _ _ _).mono (by simp))
            have HNO1 := Lib.hid (keep_own HNO.out hb1)
            have HL1 := Lib.hid (HLI.out.below hb1)
            have HB1 := Lib.hid (HBI.out.trans (hb1.mono HBI.out.size))
            clear hw1 hb1 d0 d1 d2 d3
            go_wp2_with (first | (at_builtin; refine wpList_append_own _ rfl (.tmp 29) (.tmp 32) 29 rfl w.heap.size 9 i0 (.string ByteArray.empty) 1 16 Try.underlying29 HI.out HZ0.out HZ1.out HZ2.out rfl (by decide) _ _ _ rfl ((HNO1.out.alloc _).alloc _) ⟨w1.heap.size + 1, 0, none⟩ 1 1 [.string s1] rfl rfl ?c1 ?c2 (by unfold maxLen; omega) (by omega) ?c5 ?_))
            case c1 => exact cell_one_at _ _ _ (by simp)
            case c2 => simp [Value.oneCell']
            case c5 => have := HB1.out.size; simp; omega
            intro v2 w2 hown2 hgr2 _
            have hbb : Below w.heap.size w ((w1.alloc (.cells #[.string s1] 53)).alloc (.cells #[.string s1] 9)) := (HB1.out.alloc HB1.out.size _).alloc (by have := HB1.out.size; simp; omega) _
            have HB2 := Lib.hid (hbb.grown hgr2 hbb.size (fun j hj => (HNO1.out.lt j hj).1))
            have HL2 : Hid (LvlOwn w.heap.size w w2 (.slice (some ⟨b, o, none⟩) m lc) ts) := Lib.hid (((HL1.out.below ((Below.refl _ _).alloc (Nat.le_refl _) _)).below ((Below.refl _ _).alloc (Nat.le_refl _) _)).other ((HNO1.out.alloc _).alloc _) (by decide) hgr2)
            have HN2 := Lib.hid hown2
            clear hgr2 hown2 hbb
            go_wp2
            go_roundw
            case rel =>
              refine ⟨q + 1, by omega, by go_num, Lib.hid ?_, HL2, HB2⟩
              rw [HQS.out, show vN (T.node 1 nn s1 ys) = [s1] from rfl]
              refine ⟨?_, ?_⟩
              · have := HN2.out
                rw [HN'.out] at this
                simpa using this
              · intro p hp
                rcases List.mem_append.1 hp with hp | hp
                · exact HSH.out p hp
                · simp at hp; subst hp; exact HSZ.out
            case measure => simp [intOf]; omega
          · have HK1 := Lib.hid hk1
            clear hk1
            go_wp2_with fail
            refine (form_other _ _ _ _ _ HK1.out).mono ?_
            rintro e w1 ⟨ty, x, rfl, hw1, has⟩
            have hb1 : Below wr.heap.size wr w1 := by rw [hw1]; exact ((Below.refl _ _).alloc (Nat.le_refl _) _).trans ((boxed_below _ _ _ _ _).mono (by simp))
            have HNO1 := Lib.hid (keep_own HNO.out hb1)
            have HL1 := Lib.hid (HLI.out.below hb1)
            have HB1 := Lib.hid (HBI.out.trans (hb1.mono HBI.out.size))
            clear hw1 hb1 d0 d1 d2 d3
            go_wp2
            go_roundw
            case rel =>
              refine ⟨q + 1, by omega, by go_num, Lib.hid ?_, Lib.hid (HL1.out.below ((Below.refl _ _).alloc (Nat.le_refl _) _)), Lib.hid (HB1.out.alloc HB1.out.size _)⟩
              have hvn : vN (T.node kk nn s1 ys) = [] := by show (if kk = 1 then [s1] else []) = []; rw [if_neg HK1.out]
              rw [HQS.out, hvn, List.append_nil]
              have := HNO1.out
              rw [HN'.out] at this
              exact ⟨this.alloc _, HSH.out⟩
            case measure => simp [intOf]; omega
        · have hqm : q = m := by omega
          rw [show ts.take q = ts from by rw [List.take_of_length_le]; have := HM.out; omega] at HNI
          subst hqm
          clear hlt
          have hk := cS_kids ts
          have HLK : Hid ((kids ts).length ≤ 1048576) := Lib.hid (by have := HP.out.2; have := HM.out; have := len_le_cS (kids ts); omega)
          have HNX : Hid (List.Perm ((ps ++ vL ts) ++ vS (kids ts)) (vT t0) ∧ (ps ++ vL ts).length + cS (kids ts) ≤ 1048577) := Lib.hid ⟨by rw [List.append_assoc]; exact (List.Perm.append_left _ (vS_kids ts).symm).trans HP.out.1, by rw [List.length_append]; have := vL_len ts; have := HP.out.2; omega⟩
          have HKC : Hid (cS (kids ts) < gk) := Lib.hid (by have := HG.out; have := HM.out; omega)
          clear hk
          have hqq : ¬ q < q := by omega
          go_wp2_with fail
          refine (argsOf_own _ ts w _ HLI.out.at HBI.out HLK.out (by have := HP.out.2; have := len_le_cS ts; omega)).mono ?_
          rintro e w1 ⟨v1, rfl, hl1, hb1⟩
          have HL1 := Lib.hid (hl1.low HBI.out.size)
          have HN1 := Lib.hid (show NamesOwn w.heap.size w1 _ (ps ++ vL ts) from ⟨keep_own HNI.out.1 hb1, HNI.out.2⟩)
          have HB1 := Lib.hid (HBI.out.trans (hb1.mono HBI.out.size))
          clear hl1 hb1
          go_wp2
          go_roundg (cS (kids ts))
          case measure => exact HKC.out
          case rel => exact ⟨_, kids ts, rfl, HNX, HN1, HL1, HB1⟩
    · have h1 : ts = [] := List.eq_nil_of_length_eq_zero (by omega)
      rw [← hm]
      have hm0 : m = 0 := by omega
      subst hm0
      clear hm
      have HPP : Hid (List.Perm ps (vT t0)) := Lib.hid (by have := HP.out.1; rw [h1] at this; simpa [vS] using this)
      have HPL : Hid (ps.length ≤ 4194304) := Lib.hid (by have := HP.out.2; omega)
      go_wp2_with fail
      refine (iSort_any _ ps _ HPL.out HN.out.2 (StrsAt.of_owns HN.out.1)).mono ?_
      rintro e w2 ⟨u2, rs, rfl, hs2, hl2, ho2, hb2⟩
      have HS2 := Lib.hid hs2; clear hs2
      have HL2 := Lib.hid hl2; clear hl2
      have HO2 := Lib.hid (own_low ho2 HB.out.size); clear ho2
      have HB2 := Lib.hid (HB.out.trans (hb2.mono HB.out.size)); clear hb2
      go_wp2
      go_ret
      exact ⟨u2, rs, rfl, ⟨HS2.out.1, fun x => (HS2.out.2 x).trans HPP.out.mem_iff⟩, by have := HL2.out; rw [HPP.out.length_eq] at this; exact this, HO2.out, HB2.out⟩

set_option maxRecDepth 100000 in
set_option maxHeartbeats 800000 in
theorem groundT_any (v : Value) (t : T) (lo h : Nat) (w : World) (ht : TermAt w lo h v t) (hw : wT t ≤ 1048576) :
    Calls Try.prog 23 #[v] w (TellsB2 (vT t = []) w) := by
  obtain ⟨kk, nn, s, u, xs, rfl, et, hs, ha⟩ := id ht
  clear et hs ha xs
  have HC := Lib.hid (varsT_any _ t lo h _ (ht.below (boxed_below w kk nn s u)) hw)
  have HB := Lib.hid (boxed_below w kk nn s u)
  go_enter Try.func23, Try.ntmps23
  go_wp2_with fail
  refine HC.out.mono ?_
  rintro e w1 ⟨u1, rs, rfl, hs1, hl1, ho1, hb1⟩
  obtain ⟨a1, c1, hu1⟩ : ∃ a c, u1 = .slice a rs.length c := by
    rcases ho1.2 with ⟨rfl, h0⟩ | ⟨g, cp, cur, rfl, _⟩
    · exact ⟨none, 0, by rw [h0]⟩
    · exact ⟨_, cp, rfl⟩
  subst hu1
  have HS := Lib.hid hs1; clear hs1
  have HB1 := Lib.hid (HB.out.trans (hb1.mono HB.out.size)); clear hb1 ho1 hl1
  go_wp2
  go_ret
  refine ⟨_, rfl, ?_, HB1.out⟩
  rw [beq_iff_eq]
  constructor
  · intro h
    have hr : rs = [] := List.eq_nil_of_length_eq_zero (by omega)
    have := HS.out.2
    rw [hr] at this
    cases hv : vT t with
    | nil => rfl
    | cons x l => have := (this x).2 (by rw [hv]; simp); simp at this
  · intro h
    have := HS.out.2
    rw [h] at this
    cases hr : rs with
    | nil => rfl
    | cons x l => have := (this x).1 (by rw [hr]; simp); simp at this
end Go.Proofs.Ytbechogdijkgjaa
