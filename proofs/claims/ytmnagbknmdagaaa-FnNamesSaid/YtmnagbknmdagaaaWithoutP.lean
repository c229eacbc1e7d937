/-
  spec.Without and impl.Without return the strings of the first list that are not in the second, in order, in a slice of their own.
-/
import Derived.Test.YtmnagbknmdagaaaDistinct
namespace Go.Proofs.Ytmnagbknmdagaaa
open Go.RowKit Go.Maps

def isIn (rs : List ByteArray) (s : ByteArray) : Bool := rs.any (fun x => key x == key s)
theorem isIn_iff (rs : List ByteArray) (s : ByteArray) : isIn rs s = true ↔ s ∈ rs := by
  unfold isIn
  rw [List.any_eq_true]
  constructor
  · rintro ⟨x, hx, h⟩
    have e : x = s := key_inj (by simpa using h)
    exact e ▸ hx
  · intro h; exact ⟨s, h, by simp⟩
theorem isIn_yes {rs : List ByteArray} {s : ByteArray} (h : s ∈ rs) : isIn rs s = true := (isIn_iff rs s).2 h
theorem isIn_no {rs : List ByteArray} {s : ByteArray} (h : s ∉ rs) : isIn rs s = false := by
  cases e : isIn rs s with
  | false => rfl
  | true => exact absurd ((isIn_iff rs s).1 e) h
theorem isIn_snoc (rs : List ByteArray) (s p : ByteArray) : isIn (rs ++ [s]) p = (isIn rs p || key s == key p) := by simp [isIn]
/-- The strings of ps that are not in rs. -/
def kept (ps rs : List ByteArray) : List ByteArray := ps.filter (fun s => !isIn rs s)
theorem kept_nil (rs : List ByteArray) : kept [] rs = [] := rfl
theorem kept_in {ps rs : List ByteArray} {p : ByteArray} (h : p ∈ rs) : kept (ps ++ [p]) rs = kept ps rs := by
  unfold kept; rw [List.filter_append]; simp [isIn_yes h]
theorem kept_out {ps rs : List ByteArray} {p : ByteArray} (h : p ∉ rs) : kept (ps ++ [p]) rs = kept ps rs ++ [p] := by
  unfold kept; rw [List.filter_append]; simp [isIn_no h]
theorem kept_le (ps rs : List ByteArray) : (kept ps rs).length ≤ ps.length := List.length_filter_le _ _

def WithoutEnd (ps rs : List ByteArray) (w : World) (e : Ending) (w' : World) : Prop :=
  ∃ v, e = .returned v ∧ w'.ownsRow w.heap.size 9 1 v (kept ps rs).length ((kept ps rs).map Value.string) ∧ Below w.heap.size w w'

theorem idx_neg {rs : List ByteArray} {p : ByteArray} (h : p ∉ rs) : Lib.idxOfS rs p < 0 := by
  have := Lib.idxOfS_nonneg_iff rs p
  by_cases h0 : 0 ≤ Lib.idxOfS rs p
  · exact absurd (this.1 h0) h
  · omega
theorem idx_pos {rs : List ByteArray} {p : ByteArray} (h : p ∈ rs) : ¬ Lib.idxOfS rs p < 0 := by
  have := (Lib.idxOfS_nonneg_iff rs p).2 h
  omega

set_option maxRecDepth 100000 in
set_option maxHeartbeats 400000 in
theorem sWithout_empty (a : Option Addr) (cap : Nat) (u : Value) (rs : List ByteArray) (w : World) :
    Calls Try.prog 30 #[.slice a 0 cap, u] w (WithoutEnd [] rs w) := by
  have hown := World.ownsRow_lit (base := w.heap.size) (size := 1) (e := 9) w #[] 0 (Nat.le_refl _) (by decide) rfl
  have HO := Lib.hid hown; clear hown
  go_enter Try.func30, Try.ntmps30
  go_wp2
  refine wp_loop_rounds 1 ?_
  rw [rounds_succ]
  go_wp2
  go_ret
  exact ⟨_, rfl, HO.out, (Below.refl _ _).alloc (Nat.le_refl _) _⟩

set_option maxRecDepth 100000 in
set_option maxHeartbeats 1600000 in
theorem sWithout_some (b o cap : Nat) (u : Value) (ps rs : List ByteArray) (w : World) (hl : ps.length ≤ 1048576) (hr : rs.length ≤ 1048576)
    (hc : ∀ i p, ps[i]? = some p → w.cell? ⟨b, o + i, none⟩ = some (.string p)) (hu : StrsAt w u rs) :
    Calls Try.prog 30 #[.slice (some ⟨b, o, none⟩) ps.length cap, u] w (WithoutEnd ps rs w) := by
  obtain ⟨i0, hi, hz0, hz1, hz2⟩ := info_parts infoStr'
  have HI := Lib.hid hi; clear hi
  have HZ0 := Lib.hid hz0; clear hz0
  have HZ1 := Lib.hid hz1; clear hz1
  have HZ2 := Lib.hid hz2; clear hz2
  have HC := Lib.hid hc; clear hc
  have HU := Lib.hid hu; clear hu
  obtain ⟨m, hm⟩ : ∃ m, m = ps.length := ⟨_, rfl⟩
  rw [← hm] at hl ⊢
  have HM := Lib.hid hm; clear hm
  have hown0 := World.ownsRow_lit (base := w.heap.size) (size := 1) (e := 9) w #[] 0 (Nat.le_refl _) (by decide) rfl
  have HOW := Lib.hid hown0; clear hown0
  go_enter Try.func30, Try.ntmps30
  go_wp2
  go_loopw [5, 6] (fun v i wr => ∃ k : Nat, k ≤ m ∧ i = .int .i64 k ∧ wr.ownsRow w.heap.size 9 1 v (kept (ps.take k) rs).length ((kept (ps.take k) rs).map Value.string) ∧ Below w.heap.size w wr) (fun _ i _ => m - (intOf i).toNat)
  case atStart => exact ⟨0, Nat.zero_le _, rfl, HOW.out, (Below.refl _ _).alloc (Nat.le_refl _) _⟩
  case round =>
    obtain ⟨k, hk, rfl, hown, hb⟩ := hrel
    have HB := Lib.hid hb; clear hb
    have hkl := kept_le (ps.take k) rs
    rw [List.length_take] at hkl
    obtain ⟨ts, hts⟩ : ∃ ts, ts = kept (ps.take k) rs := ⟨_, rfl⟩
    rw [← hts] at hown hkl
    have HTS := Lib.hid hts; clear hts
    have htl : ts.length ≤ k := by omega
    clear hkl
    by_cases hlt : k < m
    · obtain ⟨p, hp⟩ : ∃ p, ps[k]? = some p := ⟨_, List.getElem?_eq_getElem (by have := HM.out; omega)⟩
      have hc0 := HC.out k p hp
      have hcell : wr.cell? ⟨b, o + k, none⟩ = some (.string p) := by rw [HB.out.cell (World.block_lt_of_cell? w _ hc0)]; exact hc0
      clear hc0
      have HT := Lib.hid (take_next ps k p hp); clear hp
      go_wp2_with fail
      refine (sIndex_any u rs p _ (by omega) (HU.out.below HB.out)).mono ?_
      rintro e w1 ⟨rfl, rfl⟩
      by_cases hin : p ∈ rs
      · have hneg := idx_pos hin
        have HK : Hid (kept (ps.take (k + 1)) rs = ts) := Lib.hid (by rw [HT.out, kept_in hin, HTS.out])
        clear hin
        have HO := Lib.hid hown; clear hown
        go_wp2
        go_roundw
        case rel => exact ⟨k + 1, by omega, by go_num, by rw [HK.out]; exact HO.out, HB.out⟩
        case measure => simp [intOf]; omega
      · have hneg := idx_neg hin
        have HK : Hid (kept (ps.take (k + 1)) rs = ts ++ [p]) := Lib.hid (by rw [HT.out, kept_out hin, HTS.out])
        clear hin
        have HO := Lib.hid hown; clear hown
        go_wp2_with (first | (at_builtin; refine wpList_append_own _ rfl (.tmp 21) (.tmp 26) 24 rfl w.heap.size 9 i0 (.string ByteArray.empty) 1 16 Try.underlying24 HI.out HZ0.out HZ1.out HZ2.out rfl (by decide) _ _ _ rfl (HO.out.alloc _) ⟨w1.heap.size, 0, none⟩ 1 1 [.string p] rfl rfl ?c1 ?c2 ?c3 ?c4 ?c5 ?_))
        case c1 => exact cell_one_new _ _ _
        case c2 => intro u hu; simp at hu; subst hu; rfl
        case c3 => unfold maxLen; omega
        case c4 => omega
        case c5 => have := HB.out.size; simp; omega
        intro v' w2 hown' hgrow _
        have hb2 : Below w.heap.size w w2 := (HB.out.alloc (by have := HB.out.size; omega) _).grown hgrow (by have := HB.out.size; simp; omega) (fun j hj => (HO.out.lt j hj).1)
        have hown2 : w2.ownsRow w.heap.size 9 1 v' (ts ++ [p]).length ((ts ++ [p]).map Value.string) := by simpa using hown'
        have HO2 := Lib.hid hown2; clear hown2 hown' hgrow
        have HB2 := Lib.hid hb2; clear hb2
        go_wp2
        go_roundw
        case rel => exact ⟨k + 1, by omega, by go_num, by rw [HK.out]; exact HO2.out, HB2.out⟩
        case measure => simp [intOf]; omega
    · have HD : Hid (ts = kept ps rs) := Lib.hid (by
        have hkn : k = ps.length := by have := HM.out; omega
        rw [HTS.out, hkn, List.take_length])
      have HO := Lib.hid hown; clear hown
      go_wp2
      go_ret
      exact ⟨_, rfl, by rw [← HD.out]; exact HO.out, HB.out⟩

theorem sWithout_any (v u : Value) (ps rs : List ByteArray) (w : World) (hl : ps.length ≤ 1048576) (hr : rs.length ≤ 1048576) (hv : StrsAt w v ps) (hu : StrsAt w u rs) :
    Calls Try.prog 30 #[v, u] w (WithoutEnd ps rs w) := by
  obtain ⟨a, cap, rfl, hv⟩ := hv
  rcases hv with rfl | ⟨b, o, rfl, hv⟩
  · exact sWithout_empty a cap u rs w
  · exact sWithout_some b o cap u ps rs w hl hr hv hu

theorem own_base {w : World} {B B' n size : Nat} {e : TypeId} {v : Value} {xs : List Value} (h : w.ownsRow B e size v n xs) (hb : B' ≤ B) : w.ownsRow B' e size v n xs := by
  refine ⟨h.1, ?_⟩
  rcases h.2 with hn | ⟨g, cap, cur, hv, hg, rest⟩
  · exact Or.inl hn
  · exact Or.inr ⟨g, cap, cur, hv, Nat.le_trans hb hg, rest⟩

/-! ### impl.Without -/
theorem atKey_Sset (rs : List ByteArray) (p : ByteArray) : (Sset (H := Unit) rs).atKey (.string (key p)) (.lit (.bool false)) = .lit (.bool (isIn rs p)) := by
  refine snoc_ind (X := fun rs => (Sset (H := Unit) rs).atKey (.string (key p)) (.lit (.bool false)) = .lit (.bool (isIn rs p))) rfl (fun rs s ih => ?_) rs
  rw [Sset_snoc, isIn_snoc]
  by_cases h : key p = key s
  · rw [h, atKey_put_same (tidy_Sset rs).isMap (show WideAt.IsKeyLit (.string (key s)) from trivial)]
    simp
  · have hk : (key s == key p) = false := by
      rw [beq_eq_false_iff_ne]
      exact fun e => h e.symm
    have hne : Lit.string (key p) ≠ Lit.string (key s) := fun e => h (by simpa using e)
    rw [atKey_put_other hne, ih, hk, Bool.or_false]

theorem plainElem_bool_inv {e : TypeId} (he : Try.prog.underlying e = some .bool) {v : Value} {x : Bool} {ps : List MemPlace} (h : plainElem (H := Unit) Try.prog e v = some (.lit (.bool x), ps)) : v = .bool x := by
  unfold plainElem at h
  rw [he] at h
  cases v <;> simp at h
  exact congrArg Value.bool h.1

theorem zeroBool (w : World) : (zeroValue 4).run Try.prog w = .ok (.bool false) w := by kernel_rfl

theorem lookup_set {w : World} {b : Nat} {rs : List ByteArray} (h : HoldsSet w b rs) (p : ByteArray) (hp : p.size ≤ maxLen) :
    (Instr.lookup 41 (.map (some b)) (.string p) false).run Try.prog w = .ok (.bool (isIn rs p)) w := by
  obtain ⟨v, ps, hrun, hv⟩ := h.lookup lawStr Try.underlying41 (zeroBool w) (plainElem_bool Try.underlying4 false) (kl := .string (key p)) (WideMaps.keyOf_string_mk Try.underlying9 hp)
  rw [atKey_Sset] at hv
  rw [hrun, plainElem_bool_inv Try.underlying4 hv]

set_option maxRecDepth 100000 in
set_option maxHeartbeats 800000 in
theorem iWithout_empty (a : Option Addr) (cap : Nat) (u : Value) (rs : List ByteArray) (w : World) (hr : rs.length ≤ 1048576) (hsr : ∀ p ∈ rs, p.size ≤ maxLen) (hu : StrsAt w u rs) :
    Calls Try.prog 22 #[.slice a 0 cap, u] w (WithoutEnd [] rs w) := by
  have HU := Lib.hid hu; clear hu
  go_enter Try.func22, Try.ntmps22
  go_wp2_with fail
  refine (known_any u rs _ hr hsr HU.out).mono ?_
  rintro e w1 ⟨q, rfl, hset, _, hb1⟩
  have HB1 := Lib.hid hb1; clear hb1 hset
  go_wp2
  refine wp_loop_rounds 1 ?_
  rw [rounds_succ]
  go_wp2
  go_ret
  exact ⟨_, rfl, World.ownsRow_nil _ _ _ _, HB1.out⟩

set_option maxRecDepth 100000 in
set_option maxHeartbeats 1600000 in
theorem iWithout_some (b o cap : Nat) (u : Value) (ps rs : List ByteArray) (w : World) (hl : ps.length ≤ 1048576) (hr : rs.length ≤ 1048576) (hsp : ∀ p ∈ ps, p.size ≤ maxLen) (hsr : ∀ p ∈ rs, p.size ≤ maxLen)
    (hc : ∀ i p, ps[i]? = some p → w.cell? ⟨b, o + i, none⟩ = some (.string p)) (hu : StrsAt w u rs) :
    Calls Try.prog 22 #[.slice (some ⟨b, o, none⟩) ps.length cap, u] w (WithoutEnd ps rs w) := by
  obtain ⟨i0, hi, hz0, hz1, hz2⟩ := info_parts infoStr'
  have HI := Lib.hid hi; clear hi
  have HZ0 := Lib.hid hz0; clear hz0
  have HZ1 := Lib.hid hz1; clear hz1
  have HZ2 := Lib.hid hz2; clear hz2
  have HC := Lib.hid hc; clear hc
  have HU := Lib.hid hu; clear hu
  have HSP := Lib.hid hsp; clear hsp
  obtain ⟨m, hm⟩ : ∃ m, m = ps.length := ⟨_, rfl⟩
  rw [← hm] at hl ⊢
  have HM := Lib.hid hm; clear hm
  go_enter Try.func22, Try.ntmps22
  go_wp2_with fail
  refine (known_any u rs _ hr hsr HU.out).mono ?_
  rintro e w1 ⟨q, rfl, hset, hq, hb1⟩
  have HB1 := Lib.hid hb1; clear hb1
  have hql : q < w1.heap.size := hset.lt
  have HSE := Lib.hid hset; clear hset
  go_wp2
  go_loopw [6, 13] (fun v i wr => ∃ k : Nat, k ≤ m ∧ i = .int .i64 k ∧ wr.ownsRow w1.heap.size 9 1 v (kept (ps.take k) rs).length ((kept (ps.take k) rs).map Value.string) ∧ Below w1.heap.size w1 wr) (fun _ i _ => m - (intOf i).toNat)
  case atStart => exact ⟨0, Nat.zero_le _, rfl, World.ownsRow_nil _ _ _ _, Below.refl _ _⟩
  case round =>
    obtain ⟨k, hk, rfl, hown, hb⟩ := hrel
    have HB := Lib.hid hb; clear hb
    have HBW := Lib.hid (HB1.out.trans (HB.out.mono HB1.out.size))
    have hkl := kept_le (ps.take k) rs
    rw [List.length_take] at hkl
    obtain ⟨ts, hts⟩ : ∃ ts, ts = kept (ps.take k) rs := ⟨_, rfl⟩
    rw [← hts] at hown hkl
    have HTS := Lib.hid hts; clear hts
    have htl : ts.length ≤ k := by omega
    clear hkl
    by_cases hlt : k < m
    · obtain ⟨p, hp⟩ : ∃ p, ps[k]? = some p := ⟨_, List.getElem?_eq_getElem (by have := HM.out; omega)⟩
      have hc0 := HC.out k p hp
      have hcell : wr.cell? ⟨b, o + k, none⟩ = some (.string p) := by rw [HBW.out.cell (World.block_lt_of_cell? w _ hc0)]; exact hc0
      clear hc0
      have hset2 : HoldsSet wr q rs := HSE.out.kept (Below.toGrown HB.out none) (by simp)
      have hlook := lookup_set hset2 p (HSP.out p (List.mem_of_getElem? hp))
      clear hset2
      have HT := Lib.hid (take_next ps k p hp); clear hp
      by_cases hin : p ∈ rs
      · have hd := isIn_yes hin
        rw [hd] at hlook
        have HK : Hid (kept (ps.take (k + 1)) rs = ts) := Lib.hid (by rw [HT.out, kept_in hin, HTS.out])
        clear hin hd
        have HO := Lib.hid hown; clear hown
        go_wp2
        go_roundw
        case rel => exact ⟨k + 1, by omega, by go_num, by rw [HK.out]; exact HO.out, HB.out⟩
        case measure => simp [intOf]; omega
      · have hd := isIn_no hin
        rw [hd] at hlook
        have HK : Hid (kept (ps.take (k + 1)) rs = ts ++ [p]) := Lib.hid (by rw [HT.out, kept_out hin, HTS.out])
        clear hin hd
        have HO := Lib.hid hown; clear hown
        go_wp2_with (first | (at_builtin; refine wpList_append_own _ rfl (.tmp 21) (.tmp 23) 24 rfl w1.heap.size 9 i0 (.string ByteArray.empty) 1 16 Try.underlying24 HI.out HZ0.out HZ1.out HZ2.out rfl (by decide) _ _ _ rfl (HO.out.alloc _) ⟨wr.heap.size, 0, none⟩ 1 1 [.string p] rfl rfl ?c1 ?c2 ?c3 ?c4 ?c5 ?_))
        case c1 => exact cell_one_new _ _ _
        case c2 => intro u hu; simp at hu; subst hu; rfl
        case c3 => unfold maxLen; omega
        case c4 => omega
        case c5 => have := HB.out.size; simp; omega
        intro v' w2 hown' hgrow _
        have hb2 : Below w1.heap.size w1 w2 := (HB.out.alloc (by have := HB.out.size; omega) _).grown hgrow (by have := HB.out.size; simp; omega) (fun j hj => (HO.out.lt j hj).1)
        have hown2 : w2.ownsRow w1.heap.size 9 1 v' (ts ++ [p]).length ((ts ++ [p]).map Value.string) := by simpa using hown'
        have HO2 := Lib.hid hown2; clear hown2 hown' hgrow
        have HB2 := Lib.hid hb2; clear hb2
        go_wp2
        go_roundw
        case rel => exact ⟨k + 1, by omega, by go_num, by rw [HK.out]; exact HO2.out, HB2.out⟩
        case measure => simp [intOf]; omega
    · have HD : Hid (ts = kept ps rs) := Lib.hid (by
        have hkn : k = ps.length := by have := HM.out; omega
        rw [HTS.out, hkn, List.take_length])
      have HO := Lib.hid hown; clear hown
      go_wp2
      go_ret
      exact ⟨_, rfl, by rw [← HD.out]; exact own_base HO.out HB1.out.size, HBW.out⟩

theorem iWithout_any (v u : Value) (ps rs : List ByteArray) (w : World) (hl : ps.length ≤ 1048576) (hr : rs.length ≤ 1048576) (hsp : ∀ p ∈ ps, p.size ≤ maxLen) (hsr : ∀ p ∈ rs, p.size ≤ maxLen) (hv : StrsAt w v ps) (hu : StrsAt w u rs) :
    Calls Try.prog 22 #[v, u] w (WithoutEnd ps rs w) := by
  obtain ⟨a, cap, rfl, hv⟩ := hv
  rcases hv with rfl | ⟨b, o, rfl, hv⟩
  · exact iWithout_empty a cap u rs w hr hsr hu
  · exact iWithout_some b o cap u ps rs w hl hr hsp hsr hv hu
end Go.Proofs.Ytmnagbknmdagaaa
