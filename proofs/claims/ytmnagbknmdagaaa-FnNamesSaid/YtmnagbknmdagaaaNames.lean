/-
  The law on names answers true at every draw: its walk.
-/
import Derived.Test.YtmnagbknmdagaaaDrawNames
import Derived.Test.YtmnagbknmdagaaaBig
import Derived.Test.YtmnagbknmdagaaaIsName
import Derived.Test.YtmnagbknmdagaaaSortS
import Derived.Test.YtmnagbknmdagaaaWithoutP
namespace Go.Proofs.Ytmnagbknmdagaaa
open Go.RowKit

theorem tells_true {X : Prop} (hX : X) {w w' : World} {e : Ending} (h : Tells X w e w') : e = .returned (.bool true) ∧ w' = w := by
  obtain ⟨b, he, hb, hw⟩ := h
  rw [hb.2 hX] at he
  exact ⟨he, hw⟩
theorem tells_false {X : Prop} (hX : ¬ X) {w w' : World} {e : Ending} (h : Tells X w e w') : e = .returned (.bool false) ∧ w' = w := by
  obtain ⟨b, he, hb, hw⟩ := h
  cases b with
  | true => exact absurd (hb.1 rfl) hX
  | false => exact ⟨he, hw⟩

set_option maxRecDepth 100000 in
set_option maxHeartbeats 400000 in
theorem sameTexts_empty (a b : Option Addr) (c d : Nat) (w : World) :
    Calls Try.prog 13 #[.slice a 0 c, .slice b 0 d] w fun e w' => e = .returned (.bool true) ∧ ∃ n, w' = w.drewN n := by
  go_enter Try.func13, Try.ntmps13
  go_wp2
  refine wp_loop_rounds 1 ?_
  rw [rounds_succ]
  go_wp2
  go_ret
  exact ⟨rfl, 0, rfl⟩

set_option maxRecDepth 100000 in
set_option maxHeartbeats 800000 in
theorem sameTexts_some (b o c b' o' c' : Nat) (ps : List ByteArray) (w : World) (hl : ps.length ≤ 9223372036854775807)
    (h1 : ∀ i p, ps[i]? = some p → w.cell? ⟨b, o + i, none⟩ = some (.string p)) (h2 : ∀ i p, ps[i]? = some p → w.cell? ⟨b', o' + i, none⟩ = some (.string p)) :
    Calls Try.prog 13 #[.slice (some ⟨b, o, none⟩) ps.length c, .slice (some ⟨b', o', none⟩) ps.length c'] w fun e w' => e = .returned (.bool true) ∧ ∃ n, w' = w.drewN n := by
  have H1 := Lib.hid h1; clear h1
  have H2 := Lib.hid h2; clear h2
  obtain ⟨n, hn⟩ : ∃ n, n = ps.length := ⟨_, rfl⟩
  rw [← hn] at hl ⊢
  have HN := Lib.hid hn; clear hn
  go_enter Try.func13, Try.ntmps13
  go_wp2
  go_loopw [5] (fun i wr => ∃ k q : Nat, k ≤ n ∧ i = .int .i64 k ∧ wr = w.drewN q) (fun i _ => n - (intOf i).toNat)
  case atStart => exact ⟨0, 0, Nat.zero_le _, rfl, rfl⟩
  case round =>
    obtain ⟨k, q, hk, rfl, rfl⟩ := hrel
    by_cases hlt : k < n
    · obtain ⟨x, hx⟩ : ∃ x, ps[k]? = some x := ⟨_, List.getElem?_eq_getElem (by have := HN.out; omega)⟩
      have hc1 := H1.out k x hx
      have hc2 := H2.out k x hx
      have hxy : (x.toList == x.toList) = true := by simp
      clear hx
      go_wp2
      go_quiet (fail)
      go_wp2
      go_roundw
      case rel => exact ⟨k + 1, _, by omega, by go_num, rfl⟩
      case measure => simp [intOf]; omega
    · go_wp2
      go_ret
      exact ⟨rfl, q, rfl⟩

/-- Two slices of the same strings are found equal. -/
theorem sameTexts_any (v u : Value) (ps : List ByteArray) (w : World) (hl : ps.length ≤ 9223372036854775807) (h1 : StrsAt w v ps) (h2 : StrsAt w u ps) :
    Calls Try.prog 13 #[v, u] w fun e w' => e = .returned (.bool true) ∧ ∃ n, w' = w.drewN n := by
  obtain ⟨a, c, rfl, h1⟩ := h1
  obtain ⟨a', c', rfl, h2⟩ := h2
  rcases h1 with rfl | ⟨b, o, rfl, h1⟩
  · exact sameTexts_empty _ _ _ _ w
  · rcases h2 with rfl | ⟨b', o', rfl, h2⟩
    · exact sameTexts_empty _ _ _ _ w
    · exact sameTexts_some b o c b' o' c' ps w hl h1 h2

set_option maxRecDepth 100000 in
set_option maxHeartbeats 400000 in
theorem rising_empty (a : Option Addr) (c : Nat) (w : World) :
    Calls Try.prog 15 #[.slice a 0 c] w fun e w' => e = .returned (.bool true) ∧ ∃ n, w' = w.drewN n := by
  go_enter Try.func15, Try.ntmps15
  go_wp2
  refine wp_loop_rounds 1 ?_
  rw [rounds_succ]
  go_wp2
  go_ret
  exact ⟨rfl, 0, rfl⟩

theorem less_true {a b : ByteArray} (h : key a < key b) : Op.bytesLess a.toList b.toList = true := (less_iff a b).2 h

set_option maxRecDepth 100000 in
set_option maxHeartbeats 800000 in
theorem rising_some (b o c : Nat) (ps : List ByteArray) (w : World) (hl : ps.length ≤ 9223372036854775807) (hp : ps.Pairwise (fun a b => key a < key b))
    (h1 : ∀ i p, ps[i]? = some p → w.cell? ⟨b, o + i, none⟩ = some (.string p)) :
    Calls Try.prog 15 #[.slice (some ⟨b, o, none⟩) ps.length c] w fun e w' => e = .returned (.bool true) ∧ ∃ n, w' = w.drewN n := by
  have H1 := Lib.hid h1; clear h1
  have HP := Lib.hid hp; clear hp
  obtain ⟨n, hn⟩ : ∃ n, n = ps.length := ⟨_, rfl⟩
  rw [← hn] at hl ⊢
  have HN := Lib.hid hn; clear hn
  go_enter Try.func15, Try.ntmps15
  go_wp2
  go_loopw [3] (fun i wr => ∃ k q : Nat, k + 1 ≤ max 1 n ∧ i = .int .i64 ((k + 1 : Nat) : Int) ∧ wr = w.drewN q) (fun i _ => n - (intOf i).toNat)
  case atStart => exact ⟨0, 0, by omega, rfl, rfl⟩
  case round =>
    obtain ⟨k, q, hk, rfl, rfl⟩ := hrel
    by_cases hlt : k + 1 < n
    · obtain ⟨x, hx⟩ : ∃ x, ps[k]? = some x := ⟨_, List.getElem?_eq_getElem (by have := HN.out; omega)⟩
      obtain ⟨y, hy⟩ : ∃ y, ps[k + 1]? = some y := ⟨_, List.getElem?_eq_getElem (by have := HN.out; omega)⟩
      have hc1 := H1.out k x hx
      have hc2 := H1.out (k + 1) y hy
      have hxy : Op.bytesLess x.toList y.toList = true := by
        obtain ⟨a1, a2⟩ := List.getElem?_eq_some_iff.1 hx
        obtain ⟨b1, b2⟩ := List.getElem?_eq_some_iff.1 hy
        have := List.pairwise_iff_getElem.1 HP.out k (k + 1) a1 b1 (by omega)
        rw [a2, b2] at this
        exact less_true this
      clear hx hy
      go_wp2
      go_quiet (fail)
      go_wp2
      go_roundw
      case rel => exact ⟨k + 1, _, by omega, by go_num, rfl⟩
      case measure => simp [intOf]; omega
    · go_wp2
      go_ret
      exact ⟨rfl, q, rfl⟩

theorem rising_any (v : Value) (ps : List ByteArray) (w : World) (hl : ps.length ≤ 9223372036854775807) (hp : ps.Pairwise (fun a b => key a < key b)) (h1 : StrsAt w v ps) :
    Calls Try.prog 15 #[v] w fun e w' => e = .returned (.bool true) ∧ ∃ n, w' = w.drewN n := by
  obtain ⟨a, c, rfl, h1⟩ := h1
  rcases h1 with rfl | ⟨b, o, rfl, h1⟩
  · exact rising_empty _ _ w
  · exact rising_some b o c ps w hl hp h1
/-! ### the walk -/
theorem kept_none {rs ps : List ByteArray} (h : ∀ x ∈ rs, x ∈ ps) : kept rs ps = [] := by
  unfold kept
  refine List.filter_eq_nil_iff.2 fun x hx => ?_
  simp [isIn_yes (h x hx)]

theorem nodup_of {rs : List ByteArray} (h : rs.Pairwise (fun a b => key a < key b)) : rs.Nodup :=
  List.Pairwise.imp (S := fun a b => a ≠ b) (fun {x y} (hxy : key x < key y) (e : x = y) => by subst e; exact lt_irr _ hxy) h

theorem strs_cells {w : World} {a : Option Addr} {n cap k : Nat} {ps : List ByteArray} (h : StrsAt w (.slice a n cap) ps) (hk : k < n) :
    ∃ b o, a = some ⟨b, o, none⟩ ∧ ∀ i p, ps[i]? = some p → w.cell? ⟨b, o + i, none⟩ = some (.string p) := by
  obtain ⟨a', cap', he, hv⟩ := h
  simp only [Value.slice.injEq] at he
  obtain ⟨rfl, hn, _⟩ := he
  rcases hv with rfl | ⟨b, o, rfl, hc⟩
  · simp at hn; omega
  · exact ⟨b, o, rfl, hc⟩

/-- A call that always answers so, and changes nothing, in every world that parts from w by draws alone. -/
def Says (w : World) (f : FuncId) (args : Array Value) (v : Value) : Prop := ∀ x : Nat, Calls Try.prog f args (w.drewN x) fun e w' => e = .returned v ∧ w' = w.drewN x

theorem says_of {w : World} {f : FuncId} {args : Array Value} {X : Prop} (h : ∀ w, Calls Try.prog f args w (Tells X w)) : (X → Says w f args (.bool true)) ∧ (¬ X → Says w f args (.bool false)) :=
  ⟨fun hX _ => (h _).mono fun _ _ k => tells_true hX k, fun hX _ => (h _).mono fun _ _ k => tells_false hX k⟩

set_option maxRecDepth 100000 in
set_option maxHeartbeats 3200000 in
theorem names_any (a : Option Addr) (len cap : Nat) (w : World) (hcode : len ≤ 1048576 → CodeAt w w.heap.size (.slice a len cap) len) :
    Calls Try.prog 3 #[.slice a len cap] w (TrueAt w) := by
  have HC := Lib.hid hcode; clear hcode
  by_cases hbig : 1048576 < len
  · have hd : decide (1048576 < len) = true := by simpa using hbig
    have HK := Lib.hid (big_any a len cap w)
    rw [hd] at HK
    go_enter Try.func3, Try.ntmps3
    go_wp2_with fail
    refine HK.out.mono ?_
    rintro e w1 ⟨rfl, rfl⟩
    go_wp2
    go_ret
    exact ⟨rfl, Below.refl _ _⟩
  · have hd : decide (1048576 < len) = false := by simpa using hbig
    have HK := Lib.hid (big_any a len cap w)
    rw [hd] at HK
    have HC1 := Lib.hid (HC.out (by omega))
    go_enter Try.func3, Try.ntmps3
    go_wp2_with fail
    refine HK.out.mono ?_
    rintro e w0 ⟨rfl, rfl⟩
    go_wp2_with fail
    refine (drawNames_any _ len _ HC1.out).mono ?_
    rintro e w1 ⟨lv, ps, rfl, hpl, hps, hown1, hb1⟩
    have HB1 := Lib.hid hb1; clear hb1
    have HPS := Lib.hid hps; clear hps
    have HPM : Hid (∀ p ∈ ps, p.size ≤ maxLen) := Lib.hid (fun p hp => by have := HPS.out p hp; unfold maxLen; omega)
    have hl1 := StrsAt.of_owns hown1
    clear hown1
    obtain ⟨n, hn⟩ : ∃ n, n = ps.length := ⟨_, rfl⟩
    obtain ⟨al, cl, hlv⟩ : ∃ al cl, lv = .slice al n cl := by
      obtain ⟨al, cl, he, _⟩ := hl1
      exact ⟨al, cl, by rw [he, hn]⟩
    subst hlv
    have hnl : n ≤ 1000 := by omega
    have HN := Lib.hid hn; clear hn hpl
    have HL1 := Lib.hid hl1; clear hl1
    go_wp2_with fail
    refine (iSort_any _ ps _ (by have := HN.out; omega) HPM.out HL1.out).mono ?_
    rintro e w2 ⟨u, rs, rfl, hs2, hrl, hown2, hb2⟩
    have hrn : rs.length ≤ 1000 := by have := HN.out; omega
    clear hrl
    have HS2 := Lib.hid hs2; clear hs2
    have HU2 := Lib.hid (StrsAt.of_owns hown2); clear hown2
    have HL2 := Lib.hid (HL1.out.below hb2)
    have HB2 := Lib.hid (HB1.out.trans (hb2.mono HB1.out.size)); clear hb2
    go_wp2_with fail
    refine (sSort_any _ ps _ (by have := HN.out; omega) HL2.out).mono ?_
    rintro e w3 ⟨t, rs2, rfl, hs3, _, hown3, hb3⟩
    obtain rfl : rs = rs2 := HS2.out.unique hs3
    clear hs3
    have HT3 := Lib.hid (StrsAt.of_owns hown3); clear hown3
    have HU3 := Lib.hid (HU2.out.below hb3)
    have HL3 := Lib.hid (HL2.out.below hb3)
    have HB3 := Lib.hid (HB2.out.trans (hb3.mono HB2.out.size)); clear hb3
    go_wp2_with fail
    refine (sameTexts_any u t rs _ (by omega) HU3.out HT3.out).mono ?_
    rintro e w4 ⟨rfl, q4, hw4⟩
    have HU4 : Hid (StrsAt w4 u rs) := Lib.hid (by rw [hw4]; exact HU3.out.drewN q4)
    have HL4 : Hid (StrsAt w4 (.slice al n cl) ps) := Lib.hid (by rw [hw4]; exact HL3.out.drewN q4)
    have HB4 : Hid (Below w.heap.size w w4) := Lib.hid (by rw [hw4]; exact HB3.out.trans ((below_q w3 q4).mono HB3.out.size))
    clear hw4
    go_wp2_with fail
    refine (rising_any u rs _ (by omega) HS2.out.1 HU4.out).mono ?_
    rintro e w5 ⟨rfl, q5, hw5⟩
    have HU5 : Hid (StrsAt w5 u rs) := Lib.hid (by rw [hw5]; exact HU4.out.drewN q5)
    have HL5 : Hid (StrsAt w5 (.slice al n cl) ps) := Lib.hid (by rw [hw5]; exact HL4.out.drewN q5)
    have HB5 : Hid (Below w.heap.size w w5) := Lib.hid (by rw [hw5]; exact HB4.out.trans ((below_q w4 q5).mono HB4.out.size))
    clear hw5
    go_wp2_with fail
    refine (iDistinct_any u rs _ (by omega) (fun p hp => HPM.out p ((HS2.out.2 p).1 hp)) HU5.out).mono ?_
    rintro e w6 ⟨b6, rfl, hq6, hb6⟩
    have hnd : rs.Nodup := nodup_of HS2.out.1
    obtain rfl : b6 = true := hq6.2 hnd
    clear hq6 hnd
    have HU6 := Lib.hid (HU5.out.below hb6)
    have HL6 := Lib.hid (HL5.out.below hb6)
    have HB6 := Lib.hid (HB5.out.trans (hb6.mono HB5.out.size)); clear hb6
    go_wp2
    go_loopw [5] (fun i wr => ∃ k : Nat, k ≤ n ∧ i = .int .i64 k ∧ Hid (StrsAt wr (.slice al n cl) ps) ∧ Hid (StrsAt wr u rs) ∧ Hid (Below w.heap.size w wr)) (fun i _ => n - (intOf i).toNat)
    case atStart => exact ⟨0, Nat.zero_le _, rfl, HL6, HU6, HB6⟩
    case round =>
      obtain ⟨k, hk, rfl, HLS, HUS, HBS⟩ := hrel
      by_cases hlt : k < n
      · obtain ⟨p, hp⟩ : ∃ p, ps[k]? = some p := ⟨_, List.getElem?_eq_getElem (by have := HN.out; omega)⟩
        obtain ⟨b, o, rfl, hcs⟩ := strs_cells HLS.out hlt
        have hcell := hcs k p hp
        clear hcs
        have hpm := List.mem_of_getElem? hp
        have hpz : p.size ≤ 9223372036854775807 := by have := HPS.out p hpm; omega
        have hneg : decide (Lib.idxOfS rs p < 0) = false := decide_eq_false (idx_pos ((HS2.out.2 p).2 hpm))
        have hix : Says wr 17 #[u, .string p] (.int .i64 (Lib.idxOfS rs p)) := fun x => iIndex_any u rs p _ (by omega) (HUS.out.drewN x)
        have HIX := Lib.hid hix; clear hix hp hpm
        have sn := says_of (w := wr) (f := 18) (args := #[.string p]) (fun w => iName_any p w hpz)
        have sv := says_of (w := wr) (f := 19) (args := #[.string p]) (fun w => iVar_any p w hpz)
        have tn := says_of (w := wr) (f := 20) (args := #[.string p]) (fun w => sName_any p w hpz)
        have tv := says_of (w := wr) (f := 21) (args := #[.string p]) (fun w => sVar_any p w hpz)
        by_cases hN : Nm 97 122 p
        · have hV : ¬ Nm 65 90 p := fun h => nm_apart p hN h
          have HIN := Lib.hid (sn.1 hN)
          have HIV := Lib.hid (sv.2 hV)
          have HSN := Lib.hid (tn.1 hN)
          have HSV := Lib.hid (tv.2 hV)
          clear sn sv tn tv hN hV
          go_wp2
          go_quiet (first
            | (go_at_call 17; refine Calls.quiet_of_same (HIX.out _))
            | (go_at_call 18; refine Calls.quiet_of_same (HIN.out _))
            | (go_at_call 19; refine Calls.quiet_of_same (HIV.out _))
            | (go_at_call 20; refine Calls.quiet_of_same (HSN.out _))
            | (go_at_call 21; refine Calls.quiet_of_same (HSV.out _)))
          go_wp2
          go_roundw
          case rel => exact ⟨k + 1, by omega, by go_num, Lib.hid (HLS.out.drewN _), Lib.hid (HUS.out.drewN _), Lib.hid (HBS.out.trans ((below_q wr _).mono HBS.out.size))⟩
          case measure => simp [intOf]; omega
        · by_cases hV : Nm 65 90 p
          · have HIN := Lib.hid (sn.2 hN)
            have HIV := Lib.hid (sv.1 hV)
            have HSN := Lib.hid (tn.2 hN)
            have HSV := Lib.hid (tv.1 hV)
            clear sn sv tn tv hN hV
            go_wp2
            go_quiet (first
              | (go_at_call 17; refine Calls.quiet_of_same (HIX.out _))
              | (go_at_call 18; refine Calls.quiet_of_same (HIN.out _))
              | (go_at_call 19; refine Calls.quiet_of_same (HIV.out _))
              | (go_at_call 20; refine Calls.quiet_of_same (HSN.out _))
              | (go_at_call 21; refine Calls.quiet_of_same (HSV.out _)))
            go_wp2
            go_roundw
            case rel => exact ⟨k + 1, by omega, by go_num, Lib.hid (HLS.out.drewN _), Lib.hid (HUS.out.drewN _), Lib.hid (HBS.out.trans ((below_q wr _).mono HBS.out.size))⟩
            case measure => simp [intOf]; omega
          · have HIN := Lib.hid (sn.2 hN)
            have HIV := Lib.hid (sv.2 hV)
            have HSN := Lib.hid (tn.2 hN)
            have HSV := Lib.hid (tv.2 hV)
            clear sn sv tn tv hN hV
            go_wp2
            go_quiet (first
              | (go_at_call 17; refine Calls.quiet_of_same (HIX.out _))
              | (go_at_call 18; refine Calls.quiet_of_same (HIN.out _))
              | (go_at_call 19; refine Calls.quiet_of_same (HIV.out _))
              | (go_at_call 20; refine Calls.quiet_of_same (HSN.out _))
              | (go_at_call 21; refine Calls.quiet_of_same (HSV.out _)))
            go_wp2
            go_roundw
            case rel => exact ⟨k + 1, by omega, by go_num, Lib.hid (HLS.out.drewN _), Lib.hid (HUS.out.drewN _), Lib.hid (HBS.out.trans ((below_q wr _).mono HBS.out.size))⟩
            case measure => simp [intOf]; omega
      · go_wp2_with fail
        refine (iWithout_any u (.slice al n cl) rs ps _ (by omega) (by have := HN.out; omega) (fun p hp => HPM.out p ((HS2.out.2 p).1 hp)) HPM.out HUS.out HLS.out).mono ?_
        rintro e w8 ⟨v8, rfl, hown8, hb8⟩
        rw [kept_none (fun x hx => (HS2.out.2 x).1 hx)] at hown8
        have HB8 := Lib.hid (HBS.out.trans (hb8.mono HBS.out.size)); clear hb8
        rcases hown8.2 with ⟨rfl, _⟩ | ⟨g, c8, cur, rfl, _⟩
        · clear hown8
          go_wp2
          go_ret
          exact ⟨rfl, HB8.out⟩
        · clear hown8
          go_wp2
          go_ret
          exact ⟨rfl, HB8.out⟩
end Go.Proofs.Ytmnagbknmdagaaa
