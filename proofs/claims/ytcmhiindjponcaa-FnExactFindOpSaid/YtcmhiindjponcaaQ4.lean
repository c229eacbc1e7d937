/-
  impl.IsBuiltin and its model spec.IsBuiltin tell the names plus, minus and times.
  laws.eqStringS returns true for two slices of the same strings; it changes nothing.
  laws.szStringS counts what a slice of strings holds; laws.toStringS copies it into a slice of the call's own.
-/
import Derived.Test.YtcmhiindjponcaaQ2
import Derived.WalkLawsBesides
import Derived.Lib.Hide
namespace Go.Proofs.Ytcmhiindjponcaa
open Go.RowKit

abbrev kPlus : ByteArray := ⟨#[112, 108, 117, 115]⟩
abbrev kMinus : ByteArray := ⟨#[109, 105, 110, 117, 115]⟩
abbrev kTimes : ByteArray := ⟨#[116, 105, 109, 101, 115]⟩
abbrev kWord : ByteArray := ⟨#[119, 111, 114, 100]⟩

/-- Is the name that of a built-in operator? -/
def builtinB (s : ByteArray) : Bool := (s.toList == [112, 108, 117, 115]) || (s.toList == [109, 105, 110, 117, 115]) || (s.toList == [116, 105, 109, 101, 115])
def BuiltEnd (s : ByteArray) (w : World) (e : Ending) (w' : World) : Prop := e = .returned (.bool (builtinB s)) ∧ w' = w

/-- The ways a name goes. -/
theorem builtin_ways (s : ByteArray) : (s.toList = [112, 108, 117, 115] ∧ (s.toList == [112, 108, 117, 115]) = true ∧ builtinB s = true) ∨
    (¬ s.toList = [112, 108, 117, 115] ∧ (s.toList == [112, 108, 117, 115]) = false ∧ s.toList = [109, 105, 110, 117, 115] ∧ (s.toList == [109, 105, 110, 117, 115]) = true ∧ builtinB s = true) ∨
    (¬ s.toList = [112, 108, 117, 115] ∧ (s.toList == [112, 108, 117, 115]) = false ∧ ¬ s.toList = [109, 105, 110, 117, 115] ∧ (s.toList == [109, 105, 110, 117, 115]) = false ∧ s.toList = [116, 105, 109, 101, 115] ∧ (s.toList == [116, 105, 109, 101, 115]) = true ∧ builtinB s = true) ∨
    (¬ s.toList = [112, 108, 117, 115] ∧ (s.toList == [112, 108, 117, 115]) = false ∧ ¬ s.toList = [109, 105, 110, 117, 115] ∧ (s.toList == [109, 105, 110, 117, 115]) = false ∧ ¬ s.toList = [116, 105, 109, 101, 115] ∧ (s.toList == [116, 105, 109, 101, 115]) = false ∧ builtinB s = false) := by
  unfold builtinB
  by_cases h1 : s.toList = [112, 108, 117, 115]
  · left; simp [h1]
  by_cases h2 : s.toList = [109, 105, 110, 117, 115]
  · right; left; simp [h2]
  by_cases h3 : s.toList = [116, 105, 109, 101, 115]
  · right; right; left; simp [h3]
  · right; right; right; simp [h1, h2, h3]

set_option maxRecDepth 100000 in
theorem iBuiltin_any (s : ByteArray) (w : World) : Calls Try.prog 26 #[.string s] w (BuiltEnd s w) := by
  rcases builtin_ways s with ⟨p1, b1, hb⟩ | ⟨p1, b1, p2, b2, hb⟩ | ⟨p1, b1, p2, b2, p3, b3, hb⟩ | ⟨p1, b1, p2, b2, p3, b3, hb⟩
  · have HB := Lib.hid hb; clear hb p1
    go_enter Try.func26, Try.ntmps26
    go_wp2
    go_ret
    exact ⟨by rw [HB.out]; rfl, rfl⟩
  · have HB := Lib.hid hb; clear hb p1 p2
    go_enter Try.func26, Try.ntmps26
    go_wp2
    go_ret
    exact ⟨by rw [HB.out]; rfl, rfl⟩
  · have HB := Lib.hid hb; clear hb p1 p2 p3
    go_enter Try.func26, Try.ntmps26
    go_wp2
    go_ret
    exact ⟨by rw [HB.out]; rfl, rfl⟩
  · have HB := Lib.hid hb; clear hb p1 p2 p3
    go_enter Try.func26, Try.ntmps26
    go_wp2
    go_ret
    exact ⟨by rw [HB.out]; rfl, rfl⟩

set_option maxRecDepth 100000 in
theorem sBuiltin_any (s : ByteArray) (w : World) : Calls Try.prog 27 #[.string s] w (BuiltEnd s w) := by
  rcases builtin_ways s with ⟨p1, b1, hb⟩ | ⟨p1, b1, p2, b2, hb⟩ | ⟨p1, b1, p2, b2, p3, b3, hb⟩ | ⟨p1, b1, p2, b2, p3, b3, hb⟩
  · have HB := Lib.hid hb; clear hb p1
    go_enter Try.func27, Try.ntmps27
    go_wp2
    go_ret
    exact ⟨by rw [HB.out]; rfl, rfl⟩
  · have HB := Lib.hid hb; clear hb p1 p2
    go_enter Try.func27, Try.ntmps27
    go_wp2
    go_ret
    exact ⟨by rw [HB.out]; rfl, rfl⟩
  · have HB := Lib.hid hb; clear hb p1 p2 p3
    go_enter Try.func27, Try.ntmps27
    go_wp2
    go_ret
    exact ⟨by rw [HB.out]; rfl, rfl⟩
  · have HB := Lib.hid hb; clear hb p1 p2 p3
    go_enter Try.func27, Try.ntmps27
    go_wp2
    go_ret
    exact ⟨by rw [HB.out]; rfl, rfl⟩

end Go.Proofs.Ytcmhiindjponcaa
namespace Go.Proofs.Ytcmhiindjponcaa
open Go.RowKit

set_option maxRecDepth 100000 in
set_option maxHeartbeats 400000 in
theorem eqStrs_empty (a b : Option Addr) (c d : Nat) (w : World) :
    Calls Try.prog 74 #[.slice a 0 c, .slice b 0 d] w fun e w' => e = .returned (.bool true) ∧ ∃ n, w' = w.drewN n := by
  go_enter Try.func74, Try.ntmps74
  go_wp2
  refine wp_loop_rounds 1 ?_
  rw [rounds_succ]
  go_wp2
  go_ret
  exact ⟨rfl, 0, rfl⟩

set_option maxRecDepth 100000 in
set_option maxHeartbeats 800000 in
theorem eqStrs_some (b o c b' o' c' : Nat) (ps qs : List ByteArray) (w : World) (hl : ps.length ≤ 9223372036854775807)
    (h1 : ∀ i p, ps[i]? = some p → w.cell? ⟨b, o + i, none⟩ = some (.string p)) (h2 : ∀ i p, qs[i]? = some p → w.cell? ⟨b', o' + i, none⟩ = some (.string p))
    (h : ps.map (·.data.toList) = qs.map (·.data.toList)) :
    Calls Try.prog 74 #[.slice (some ⟨b, o, none⟩) ps.length c, .slice (some ⟨b', o', none⟩) qs.length c'] w fun e w' => e = .returned (.bool true) ∧ ∃ n, w' = w.drewN n := by
  have hlq : qs.length = ps.length := by have := congrArg List.length h; simpa using this.symm
  have H1 := Lib.hid h1; clear h1
  have H2 := Lib.hid h2; clear h2
  have HH := Lib.hid h; clear h
  rw [hlq]
  have HLQ := Lib.hid hlq; clear hlq
  obtain ⟨n, hn⟩ : ∃ n, n = ps.length := ⟨_, rfl⟩
  rw [← hn] at hl ⊢
  have HN := Lib.hid hn; clear hn
  go_enter Try.func74, Try.ntmps74
  go_wp2
  go_loopw [5] (fun i wr => ∃ k q : Nat, k ≤ n ∧ i = .int .i64 k ∧ wr = w.drewN q) (fun i _ => n - (intOf i).toNat)
  case atStart => exact ⟨0, 0, Nat.zero_le _, rfl, rfl⟩
  case round =>
    obtain ⟨k, q, hk, rfl, rfl⟩ := hrel
    by_cases hlt : k < n
    · obtain ⟨x, hx⟩ : ∃ x, ps[k]? = some x := ⟨_, List.getElem?_eq_getElem (by have := HN.out; omega)⟩
      obtain ⟨y, hy⟩ : ∃ y, qs[k]? = some y := ⟨_, List.getElem?_eq_getElem (by have := HN.out; have := HLQ.out; omega)⟩
      have hc1 := H1.out k x hx
      have hc2 := H2.out k y hy
      have hxy : (x.toList == y.toList) = true := by
        have e := congrArg (·[k]?) HH.out
        simp only [List.getElem?_map, hx, hy, Option.map_some, Option.some.injEq] at e
        rw [ByteArray.toList_eq, ByteArray.toList_eq, e]; simp
      clear hx hy
      go_wp2
      go_quiet (fail)
      go_wp2
      go_roundw
      case rel => exact ⟨k + 1, _, by omega, by go_num, rfl⟩
      case measure => simp [intOf]; omega
    · go_wp2
      go_ret
      exact ⟨rfl, q, rfl⟩

/-- Two slices of the same strings are found equal. -/
theorem eqStrs_any (v u : Value) (ps qs : List ByteArray) (w : World) (hl : ps.length ≤ 9223372036854775807) (h1 : StrsAt w v ps) (h2 : StrsAt w u qs)
    (h : ps.map (·.data.toList) = qs.map (·.data.toList)) :
    Calls Try.prog 74 #[v, u] w fun e w' => e = .returned (.bool true) ∧ ∃ n, w' = w.drewN n := by
  have hlq : qs.length = ps.length := by have := congrArg List.length h; simpa using this.symm
  obtain ⟨a, c, rfl, h1⟩ := h1
  obtain ⟨a', c', rfl, h2⟩ := h2
  rcases h1 with rfl | ⟨b, o, rfl, h1⟩
  · have hq : qs = [] := List.eq_nil_of_length_eq_zero (by simpa using hlq)
    subst hq
    exact eqStrs_empty _ _ _ _ w
  · rcases h2 with rfl | ⟨b', o', rfl, h2⟩
    · have hp : ps = [] := List.eq_nil_of_length_eq_zero (by simpa using hlq.symm)
      subst hp
      exact eqStrs_empty _ _ _ _ w
    · exact eqStrs_some b o c b' o' c' ps qs w hl h1 h2 h
end Go.Proofs.Ytcmhiindjponcaa
namespace Go.Proofs.Ytcmhiindjponcaa
open Go.RowKit

/-- What the count says. -/
def SzEnd (left : Int) (ps : List ByteArray) (w : World) (e : Ending) (w' : World) : Prop :=
  ∃ r : Int, e = .returned (.int .i64 r) ∧ w' = w ∧ -1 ≤ r ∧ (0 ≤ r → (ps.length : Int) + total ps ≤ left ∧ r ≤ left)

set_option maxRecDepth 100000 in
set_option maxHeartbeats 400000 in
theorem sz_empty (left : Int) (a : Option Addr) (cap : Nat) (w : World) (h0 : 0 ≤ left) (h1 : left ≤ 1048576) :
    Calls Try.prog 70 #[.slice a 0 cap, .int .i64 left] w (SzEnd left [] w) := by
  have hd : decide (left < 0) = false := by simp; omega
  go_enter Try.func70, Try.ntmps70
  go_wp2
  refine wp_loop_rounds 1 ?_
  rw [rounds_succ]
  go_wp2
  go_ret
  exact ⟨left, rfl, rfl, by omega, fun _ => ⟨by simpa [total] using h0, Int.le_refl _⟩⟩

set_option maxRecDepth 100000 in
set_option maxHeartbeats 400000 in
theorem sz_some (left : Int) (b o cap : Nat) (ps : List ByteArray) (w : World) (h0 : 0 ≤ left) (h1 : left ≤ 1048576) (hl : ps.length ≤ 9223372036854775807) (hs : ∀ p ∈ ps, p.size ≤ 9223372036854775807)
    (hc : ∀ i p, ps[i]? = some p → w.cell? ⟨b, o + i, none⟩ = some (.string p)) :
    Calls Try.prog 70 #[.slice (some ⟨b, o, none⟩) ps.length cap, .int .i64 left] w (SzEnd left ps w) := by
  have HC := Lib.hid hc; clear hc
  have HS := Lib.hid hs; clear hs
  obtain ⟨n, hn⟩ : ∃ n, n = ps.length := ⟨_, rfl⟩
  rw [← hn] at hl ⊢
  have HN := Lib.hid hn; clear hn
  by_cases hbig : left < n
  · have hd : decide (left - (n : Int) < 0) = true := by simp; omega
    go_enter Try.func70, Try.ntmps70
    go_wp2
    go_ret
    exact ⟨-1, rfl, rfl, by omega, fun h => by omega⟩
  · have hd : decide (left - (n : Int) < 0) = false := by simp; omega
    go_enter Try.func70, Try.ntmps70
    go_wp2
    go_loop [1, 5] (fun q i => ∃ (k : Nat) (x : Int), k ≤ n ∧ i = .int .i64 k ∧ q = .int .i64 x ∧ 0 ≤ x ∧ x ≤ left ∧ x = left - (n : Int) - total (ps.take k)) (fun _ i => n - (intOf i).toNat)
    case atStart => exact ⟨0, left - n, Nat.zero_le _, rfl, rfl, by omega, by omega, by simp [total]⟩
    case round =>
      obtain ⟨k, x, hk, rfl, rfl, hx0, hx1, hx⟩ := hrel
      have HX := Lib.hid hx; clear hx
      by_cases hlt : k < n
      · obtain ⟨p, hp⟩ : ∃ p, ps[k]? = some p := ⟨_, List.getElem?_eq_getElem (by have := HN.out; omega)⟩
        have hcell := HC.out k p hp
        have hps := HS.out p (List.mem_of_getElem? hp)
        have HT := Lib.hid (take_next ps k p hp); clear hp
        by_cases hneg : x - (p.size : Int) < 0
        · go_wp2
          go_ret
          exact ⟨-1, rfl, rfl, by omega, fun h => by omega⟩
        · go_wp2
          go_round
          case rel => exact ⟨k + 1, x - p.size, by omega, by go_num, rfl, by omega, by omega, by rw [HT.out, total_snoc]; have := HX.out; omega⟩
          case measure => simp [intOf]; omega
      · have hkn : k = n := by omega
        go_wp2
        go_ret
        refine ⟨x, rfl, rfl, by omega, fun _ => ?_⟩
        have h2 := HX.out
        rw [hkn, HN.out, List.take_length] at h2
        omega

theorem sz_any (left : Int) (v : Value) (ps : List ByteArray) (w : World) (h0 : 0 ≤ left) (h1 : left ≤ 1048576) (hl : ps.length ≤ 9223372036854775807) (hs : ∀ p ∈ ps, p.size ≤ 9223372036854775807) (hv : StrsAt w v ps) :
    Calls Try.prog 70 #[v, .int .i64 left] w (SzEnd left ps w) := by
  obtain ⟨a, cap, rfl, hv⟩ := hv
  rcases hv with rfl | ⟨b, o, rfl, hv⟩
  · exact sz_empty left a cap w h0 h1
  · exact sz_some left b o cap ps w h0 h1 hl hs hv

/-- A copy of the strings, in a slice of the call's own. -/
def CopyEnd (ps : List ByteArray) (w : World) (e : Ending) (w' : World) : Prop :=
  ∃ v, e = .returned v ∧ w'.ownsRow w.heap.size 9 1 v ps.length (ps.map Value.string) ∧ Below w.heap.size w w'

theorem copy_set (ps : List ByteArray) (ys : List Value) (k : Nat) (p : ByteArray) (hp : ps[k]? = some p) (hy : k < ys.length) :
    ((ps.take k).map Value.string ++ ys.drop k).set k (.string p) = (ps.take (k + 1)).map Value.string ++ ys.drop (k + 1) := by
  have hk : k < ps.length := (List.getElem?_eq_some_iff.1 hp).1
  have hl : ((ps.take k).map Value.string).length = k := by simp; omega
  rw [List.set_append_right _ _ (by omega), hl, Nat.sub_self, take_next ps k p hp, List.drop_eq_getElem_cons hy, List.set_cons_zero, List.map_append, List.append_assoc]
  rfl

set_option maxRecDepth 100000 in
set_option maxHeartbeats 400000 in
theorem copy_empty (a : Option Addr) (cap : Nat) (w : World) :
    Calls Try.prog 72 #[.slice a 0 cap] w (CopyEnd [] w) := by
  obtain ⟨i0, hi, hz0, hz1, hz2⟩ := info_parts infoStr'
  have HI := Lib.hid hi; clear hi
  have HZ0 := Lib.hid hz0; clear hz0
  have HZ1 := Lib.hid hz1; clear hz1
  have HZ2 := Lib.hid hz2; clear hz2
  go_enter Try.func72, Try.ntmps72
  go_wp2_with (first | (at_make; refine wpList_make_full _ rfl (.tmp 6) (.tmp 6) 24 rfl w.heap.size 9 i0 (.string ByteArray.empty) 1 Try.underlying24 HI.out HZ0.out HZ1.out _ _ _ _ 0 rfl rfl rfl rfl ?m1 ?m2 ?m3 ?_))
  case m1 => simp
  case m2 => decide
  case m3 => exact Nat.le_refl _
  intro w1 hown hgrow
  have hb : Below w.heap.size w w1 := (Below.refl _ _).grown hgrow (Nat.le_refl _) (fun k hk => by cases hk)
  have HO := Lib.hid hown; clear hown hgrow
  go_wp2
  refine wp_loop_rounds 1 ?_
  rw [rounds_succ]
  go_wp2
  go_ret
  exact ⟨_, rfl, by simpa [madeCells] using HO.out, hb⟩

set_option maxRecDepth 100000 in
set_option maxHeartbeats 800000 in
theorem copy_some (b o cap : Nat) (ps : List ByteArray) (w : World) (hl : ps.length ≤ 1048576)
    (hc : ∀ i p, ps[i]? = some p → w.cell? ⟨b, o + i, none⟩ = some (.string p)) :
    Calls Try.prog 72 #[.slice (some ⟨b, o, none⟩) ps.length cap] w (CopyEnd ps w) := by
  obtain ⟨i0, hi, hz0, hz1, hz2⟩ := info_parts infoStr'
  have HI := Lib.hid hi; clear hi
  have HZ0 := Lib.hid hz0; clear hz0
  have HZ1 := Lib.hid hz1; clear hz1
  have HZ2 := Lib.hid hz2; clear hz2
  have HC := Lib.hid hc; clear hc
  obtain ⟨n, hn⟩ : ∃ n, n = ps.length := ⟨_, rfl⟩
  rw [← hn] at hl ⊢
  have HN := Lib.hid hn; clear hn
  go_enter Try.func72, Try.ntmps72
  go_wp2_with (first | (at_make; refine wpList_make_full _ rfl (.tmp 6) (.tmp 6) 24 rfl w.heap.size 9 i0 (.string ByteArray.empty) 1 Try.underlying24 HI.out HZ0.out HZ1.out _ _ _ _ n rfl rfl rfl rfl ?m1 ?m2 ?m3 ?_))
  case m1 => rw [HZ2.out]; omega
  case m2 => unfold maxLen; omega
  case m3 => exact Nat.le_refl _
  intro w1 hown hgrow
  have hb : Below w.heap.size w w1 := (Below.refl _ _).grown hgrow (Nat.le_refl _) (fun k hk => by cases hk)
  obtain ⟨ys, hys⟩ : ∃ ys, ys = (madeCells #[Value.string ByteArray.empty] n).toList := ⟨_, rfl⟩
  rw [← hys] at hown
  clear hys
  have hyl : ys.length = n := by simpa using hown.1
  have HYL := Lib.hid hyl; clear hyl
  have HO := Lib.hid hown; clear hown hgrow
  have HB := Lib.hid hb; clear hb
  go_wp2
  go_loopw [4] (fun i wr => ∃ k : Nat, k ≤ n ∧ i = .int .i64 k ∧ wr.ownsRow w.heap.size 9 1 (.slice (some ⟨w.heap.size, 0, none⟩) n n) n ((ps.take k).map Value.string ++ ys.drop k) ∧ Below w.heap.size w wr) (fun i _ => n - (intOf i).toNat)
  case atStart => exact ⟨0, Nat.zero_le _, rfl, by simpa using HO.out, HB.out⟩
  case round =>
    obtain ⟨k, hk, rfl, ho, hb⟩ := hrel
    have HO1 := Lib.hid ho; clear ho
    have HB1 := Lib.hid hb; clear hb
    by_cases hlt : k < n
    · obtain ⟨p, hp⟩ : ∃ p, ps[k]? = some p := ⟨_, List.getElem?_eq_getElem (by have := HN.out; omega)⟩
      have hc0 := HC.out k p hp
      have hcell : wr.cell? ⟨b, o + k, none⟩ = some (.string p) := by rw [HB1.out.cell (World.block_lt_of_cell? w _ hc0)]; exact hc0
      clear hc0
      obtain ⟨u, hu⟩ : ∃ u, ((ps.take k).map Value.string ++ ys.drop k)[k]? = some u := ⟨_, List.getElem?_eq_getElem (by simp; have := HYL.out; have := HN.out; omega)⟩
      have hold : wr.cell? ⟨w.heap.size, k, none⟩ = some u := by rw [HO1.out.cellAt k (by omega), hu]
      have hfrz : wr.frozen? ⟨w.heap.size, k, none⟩ = false := HO1.out.frozenAt k
      have hst := HO1.out.stored k (.string p)
      rw [copy_set ps ys k p hp (by have := HYL.out; omega)] at hst
      have HS := Lib.hid hst.1; clear hst hu hp
      go_wp2
      go_roundw
      case rel => exact ⟨k + 1, by omega, by go_num, HS.out, HB1.out.setCell (Nat.le_refl _) _⟩
      case measure => simp [intOf]; omega
    · have hkn : k = n := by omega
      go_wp2
      go_ret
      refine ⟨_, rfl, ?_, HB1.out⟩
      have h2 := HO1.out
      rw [hkn, List.drop_eq_nil_of_le (by have := HYL.out; omega), List.append_nil, HN.out, List.take_length] at h2
      rw [HN.out]
      exact h2

theorem copy_any (v : Value) (ps : List ByteArray) (w : World) (hl : ps.length ≤ 1048576) (hv : StrsAt w v ps) :
    Calls Try.prog 72 #[v] w (CopyEnd ps w) := by
  obtain ⟨a, cap, rfl, hv⟩ := hv
  rcases hv with rfl | ⟨b, o, rfl, hv⟩
  · exact copy_empty a cap w
  · exact copy_some b o cap ps w hl hv
end Go.Proofs.Ytcmhiindjponcaa
