/-
  laws.toVarSort and laws.toVarSortS: copies.
  laws.szTerm and laws.szTermS count what a term holds.
-/
import Derived.Test.YtidbokheeieifaaQ19
import Derived.Test.YtidbokheeieifaaQ2
import Derived.WalkLawsBesides
import Derived.BigQuiet
import Derived.Deep.QuietTactic
namespace Go.Proofs.Ytidbokheeieifaa
open Go.RowKit

theorem infoVS : (Try.prog.info? 115).map (fun i => (i.zero, i.size, i.bytes)) = some (some (.agg #[.string ByteArray.empty, .string ByteArray.empty]), 2, 32) := by kernel_rfl

set_option maxRecDepth 100000 in
set_option maxHeartbeats 800000 in
theorem toVar_any (p : ByteArray × ByteArray) (w : World) :
    Calls Try.prog 77 #[vp p] w (fun e w' => e = .returned (vp p) ∧ Below w.heap.size w w') := by
  obtain ⟨a, b⟩ := p
  go_enter Try.func77, Try.ntmps77
  go_wp2
  (try simp only [Exit.inBlock, Exit.then])
  refine bodyPost_ret (v := vp (a, b)) ?hr rfl ?_
  case hr =>
    rw [results_cell (a := 2) (t := 115) (ad := ⟨w.heap.size + 1, 0, none⟩) rfl rfl]
    go_simp
  refine ⟨rfl, ?_⟩
  (repeat' (first | exact Below.refl _ _ | refine Below.setCell ?_ (by simp) _ | refine Below.alloc ?_ (by simp; try omega) _))

/-- How far the copy of a row has come. -/
def VarsRel (g n k : Nat) (vs : List (ByteArray × ByteArray)) (w : World) : Prop :=
  ∃ xs : List Value, w.ownsRow g 115 2 (.slice (some ⟨g, 0, none⟩) n n) n xs ∧ ∀ i p, i < k → vs[i]? = some p → xs[i * 2]? = some (.string p.1) ∧ xs[i * 2 + 1]? = some (.string p.2)
theorem VarsRel.below {g n k : Nat} {vs : List (ByteArray × ByteArray)} {w w' : World} (c : VarsRel g n k vs w) (hb : Below w.heap.size w w') : VarsRel g n k vs w' := by
  obtain ⟨xs, ho, hx⟩ := c
  exact ⟨xs, keep_own ho hb, hx⟩
theorem VarsRel.cells {g n k : Nat} {vs : List (ByteArray × ByteArray)} {w : World} (c : VarsRel g n k vs w) (hk : k < n) (j : Nat) (hj : j < 2) :
    (∃ v, w.cell? ⟨g, k * 2 + j, none⟩ = some v) ∧ w.frozen? ⟨g, k * 2 + j, none⟩ = false := by
  obtain ⟨xs, ho, _⟩ := c
  have hl := ho.1
  refine ⟨?_, ho.frozenAt _⟩
  rw [ho.cellAt (k * 2 + j) (by omega)]
  exact ⟨_, List.getElem?_eq_getElem (by omega)⟩
theorem VarsRel.step {g n k : Nat} {vs : List (ByteArray × ByteArray)} {w : World} (c : VarsRel g n k vs w) (hk : k < n) {p : ByteArray × ByteArray} (ht : vs[k]? = some p) :
    VarsRel g n (k + 1) vs ((w.setCell ⟨g, k * 2, none⟩ (.string p.1)).setCell ⟨g, k * 2 + 1, none⟩ (.string p.2)) := by
  obtain ⟨xs, ho, hx⟩ := c
  have hl : xs.length = n * 2 := ho.1
  have o1 := (ho.stored (k * 2) (.string p.1)).1
  have o2 := (o1.stored (k * 2 + 1) (.string p.2)).1
  refine ⟨_, o2, fun i d' hi ht' => ?_⟩
  by_cases hik : i = k
  · subst hik
    rw [ht] at ht'
    cases ht'
    constructor
    · simp [List.getElem?_set]; omega
    · simp [List.getElem?_set]; omega
  · obtain ⟨x0, x1⟩ := hx i d' (by omega) ht'
    constructor
    · rw [List.getElem?_set_ne (by omega), List.getElem?_set_ne (by omega)]; exact x0
    · rw [List.getElem?_set_ne (by omega), List.getElem?_set_ne (by omega)]; exact x1
theorem VarsRel.done {g n : Nat} {vs : List (ByteArray × ByteArray)} {w : World} (c : VarsRel g n n vs w) (hn : n = vs.length) : VsAt w (.slice (some ⟨g, 0, none⟩) n n) vs := by
  obtain ⟨xs, ho, hx⟩ := c
  subst hn
  refine ⟨_, _, rfl, Or.inr ⟨g, 0, rfl, fun i p hp => ?_⟩⟩
  have hi := (List.getElem?_eq_some_iff.1 hp).1
  obtain ⟨x0, x1⟩ := hx i p hi hp
  constructor
  · rw [Nat.zero_add, ho.cellAt (i * 2) (by omega), x0]
  · rw [Nat.zero_add, ho.cellAt (i * 2 + 1) (by omega), x1]

/-- A copy of a list of variables, in a block of its own. -/
def CopyVars (vs : List (ByteArray × ByteArray)) (w : World) (e : Ending) (w' : World) : Prop :=
  ∃ u, e = .returned u ∧ VsAt w' u vs ∧ (∀ b, u.ownBlock = some b → b = w.heap.size) ∧ Below w.heap.size w w'

set_option maxRecDepth 100000 in
set_option maxHeartbeats 1600000 in
theorem toVars_some (b o cap : Nat) (vs : List (ByteArray × ByteArray)) (w : World) (hn : vs.length ≤ 1048576)
    (hc : ∀ i p, vs[i]? = some p → w.cell? ⟨b, o + i * 2, none⟩ = some (.string p.1) ∧ w.cell? ⟨b, o + i * 2 + 1, none⟩ = some (.string p.2)) :
    Calls Try.prog 25 #[.slice (some ⟨b, o, none⟩) vs.length cap] w (CopyVars vs w) := by
  obtain ⟨i0, hi, hz0, hz1, hz2⟩ := info_parts infoVS
  have HI := Lib.hid hi; clear hi
  have HZ0 := Lib.hid hz0; clear hz0
  have HZ1 := Lib.hid hz1; clear hz1
  have HZ2 := Lib.hid hz2; clear hz2
  have HC := Lib.hid hc; clear hc
  obtain ⟨n, hnn⟩ : ∃ n, n = vs.length := ⟨_, rfl⟩
  have hl : n ≤ 1048576 := by omega
  clear hn
  rw [← hnn]
  have HN := Lib.hid hnn; clear hnn
  go_enter Try.func25, Try.ntmps25
  go_wp2_with (first | (at_make; refine wpList_make_full _ rfl (.tmp 6) (.tmp 6) 52 rfl w.heap.size 115 i0 (.agg #[.string ByteArray.empty, .string ByteArray.empty]) 2 Try.underlying52 HI.out HZ0.out HZ1.out _ _ _ _ n rfl rfl rfl rfl ?m1 ?m2 ?m3 ?_))
  case m1 => rw [HZ2.out]; omega
  case m2 => unfold maxLen; omega
  case m3 => exact Nat.le_refl _
  intro w1 hown hgrow
  have hb : Below w.heap.size w w1 := (Below.refl _ _).grown hgrow (Nat.le_refl _) (fun k hk => by cases hk)
  have hrel0 : VarsRel w.heap.size n 0 vs w1 := ⟨_, hown, fun i _ hi => by omega⟩
  have HR0 := Lib.hid hrel0; clear hrel0 hown
  have HB := Lib.hid hb; clear hb hgrow
  go_wp2
  go_loopw [4] (fun i wr => ∃ k : Nat, k ≤ n ∧ i = .int .i64 k ∧ Hid (VarsRel w.heap.size n k vs wr) ∧ Hid (Below w.heap.size w wr)) (fun i _ => n - (intOf i).toNat)
  case atStart => exact ⟨0, Nat.zero_le _, rfl, HR0, HB⟩
  case round =>
    obtain ⟨k, hk, rfl, HR, HBR⟩ := hrel
    by_cases hlt : k < n
    · obtain ⟨p, ht⟩ : ∃ p, vs[k]? = some p := ⟨_, List.getElem?_eq_getElem (by have := HN.out; omega)⟩
      obtain ⟨c0, c1⟩ := HC.out k _ ht
      have keep : ∀ {ad : Addr} {v : Value}, w.cell? ad = some v → wr.cell? ad = some v := fun {ad} {v} hv => by rw [HBR.out.cell (World.block_lt_of_cell? w _ hv)]; exact hv
      have d0 := keep c0
      have d1 := keep c1
      clear c0 c1 keep
      have HTT := Lib.hid ht; clear ht
      obtain ⟨p1, p2⟩ := p
      go_wp2_with fail
      refine (toVar_any (p1, p2) _).mono ?_
      rintro e w2 ⟨rfl, hb2⟩
      have HR2 := Lib.hid (HR.out.below hb2)
      have HB2 := Lib.hid (HBR.out.trans (hb2.mono HBR.out.size))
      obtain ⟨⟨o0, g0⟩, f0⟩ := HR2.out.cells hlt 0 (by omega)
      obtain ⟨⟨o1, g1⟩, f1⟩ := HR2.out.cells hlt 1 (by omega)
      rw [Nat.add_zero] at g0 f0
      have HST := Lib.hid (HR2.out.step hlt HTT.out); clear hb2
      go_wp2
      go_roundw
      case rel => exact ⟨k + 1, by omega, by go_num, Lib.hid (by simpa using HST.out), Lib.hid ((HB2.out.setCell (Nat.le_refl _) _).setCell (Nat.le_refl _) _)⟩
      case measure => simp [intOf]; omega
    · have hkn : k = n := by omega
      subst hkn
      have HD := Lib.hid (HR.out.done HN.out)
      go_wp2
      go_ret
      exact ⟨_, rfl, HD.out, fun b e => by simpa [Value.ownBlock] using e.symm, HBR.out⟩

set_option maxRecDepth 100000 in
set_option maxHeartbeats 400000 in
theorem toVars_empty (a : Option Addr) (cap : Nat) (w : World) :
    Calls Try.prog 25 #[.slice a 0 cap] w (CopyVars [] w) := by
  obtain ⟨i0, hi, hz0, hz1, hz2⟩ := info_parts infoVS
  have HI := Lib.hid hi; clear hi
  have HZ0 := Lib.hid hz0; clear hz0
  have HZ1 := Lib.hid hz1; clear hz1
  have HZ2 := Lib.hid hz2; clear hz2
  go_enter Try.func25, Try.ntmps25
  go_wp2_with (first | (at_make; refine wpList_make_full _ rfl (.tmp 6) (.tmp 6) 52 rfl w.heap.size 115 i0 (.agg #[.string ByteArray.empty, .string ByteArray.empty]) 2 Try.underlying52 HI.out HZ0.out HZ1.out _ _ _ _ 0 rfl rfl rfl rfl ?m1 ?m2 ?m3 ?_))
  case m1 => simp
  case m2 => decide
  case m3 => exact Nat.le_refl _
  intro w1 hown hgrow
  have hb : Below w.heap.size w w1 := (Below.refl _ _).grown hgrow (Nat.le_refl _) (fun k hk => by cases hk)
  clear hown hgrow
  go_wp2
  refine wp_loop_rounds 1 ?_
  rw [rounds_succ]
  go_wp2
  go_ret
  exact ⟨_, rfl, ⟨_, _, rfl, Or.inl rfl⟩, fun b e => by simpa [Value.ownBlock] using e.symm, hb⟩

theorem toVars_any (v : Value) (vs : List (ByteArray × ByteArray)) (w : World) (hn : vs.length ≤ 1048576) (hv : VsAt w v vs) :
    Calls Try.prog 25 #[v] w (CopyVars vs w) := by
  obtain ⟨a, cap, rfl, hv⟩ := hv
  rcases hv with rfl | ⟨b, o, rfl, hv⟩
  · exact toVars_empty a cap w
  · exact toVars_some b o cap vs w hn hv
end Go.Proofs.Ytidbokheeieifaa
namespace Go.Proofs.Ytidbokheeieifaa
open Go.RowKit

/-- What the count says. -/
def TSz (m : Nat) (left : Int) (w : World) (e : Ending) (w' : World) : Prop :=
  ∃ r : Int, e = .returned (.int .i64 r) ∧ Below w.heap.size w w' ∧ -1 ≤ r ∧ (0 ≤ r → r + m ≤ left)

def SzSAt (lo h : Nat) : Prop := ∀ (u : Value) (ts : List T) (left : Int) (w : World), ArgsAt w lo h u ts → 0 ≤ left → left ≤ 1048576 →
  Calls Try.prog 70 #[u, .int .i64 left] w (TSz (ts.length + wS ts) left w)

set_option maxRecDepth 100000 in
set_option maxHeartbeats 800000 in
theorem szT_of {lo h : Nat} (hS : SzSAt lo h) (k n : Int) (s : ByteArray) (u : Value) (xs : List T) (left : Int) (w : World) (hs : s.size ≤ maxLen) (ha : ArgsAt w lo h u xs) (h0 : 0 ≤ left) (h1 : left ≤ 1048576) :
    Calls Try.prog 20 #[tv k n s u, .int .i64 left] w (TSz (wT (.node k n s xs)) left w) := by
  have hs2 : s.size ≤ 9223372036854775807 := by unfold maxLen at hs; omega
  have hb0 : Below w.heap.size w (w.alloc (.cells #[.int .i64 k, .int .i64 n, .string s, u] 41)) := (Below.refl _ _).alloc (Nat.le_refl _) _
  have HA := Lib.hid (ha.below hb0); clear ha hs
  have HB0 := Lib.hid hb0; clear hb0
  have HW := Lib.hid (wT_node k n s xs)
  by_cases hneg : left - (s.size : Int) < 0
  · go_enter Try.func20, Try.ntmps20
    go_wp2
    go_ret
    exact ⟨-1, rfl, HB0.out, by omega, fun h => by omega⟩
  · go_enter Try.func20, Try.ntmps20
    go_wp2_with fail
    refine (hS u xs (left - (s.size : Int)) _ HA.out (by omega) (by omega)).mono ?_
    rintro e w1 ⟨r, rfl, hb1, hr1, hr2⟩
    have HR := Lib.hid hr2; clear hr2
    have HB1 := Lib.hid (HB0.out.trans (hb1.mono HB0.out.size)); clear hb1
    by_cases hr : r < 0
    · go_wp2
      go_ret
      exact ⟨-1, rfl, HB1.out, by omega, fun h => by omega⟩
    · go_wp2
      go_ret
      refine ⟨r, rfl, HB1.out, by omega, fun h => ?_⟩
      have h2 := HR.out (by omega)
      rw [HW.out]
      omega

set_option maxRecDepth 100000 in
set_option maxHeartbeats 400000 in
theorem szS_empty (left : Int) (a : Option Addr) (cap : Nat) (w : World) (h0 : 0 ≤ left) (h1 : left ≤ 1048576) :
    Calls Try.prog 70 #[.slice a 0 cap, .int .i64 left] w (TSz 0 left w) := by
  have hd : decide (left < 0) = false := by simp; omega
  go_enter Try.func70, Try.ntmps70
  go_wp2
  refine wp_loop_rounds 1 ?_
  rw [rounds_succ]
  go_wp2
  go_ret
  exact ⟨left, rfl, Below.refl _ _, by omega, fun _ => by omega⟩

set_option maxRecDepth 100000 in
set_option maxHeartbeats 1600000 in
theorem szS_some {lo h : Nat} (hS : SzSAt lo h) (b o cap : Nat) (ts : List T) (left : Int) (w : World) (h0 : 0 ≤ left) (h1 : left ≤ 1048576) (hl : ts.length ≤ maxLen)
    (hc : RowAt w lo h b o ts) :
    Calls Try.prog 70 #[.slice (some ⟨b, o, none⟩) ts.length cap, .int .i64 left] w (TSz (ts.length + wS ts) left w) := by
  have HC := Lib.hid hc; clear hc
  have HSS := Lib.hid hS; clear hS
  obtain ⟨n, hn⟩ : ∃ n, n = ts.length := ⟨_, rfl⟩
  have hl2 : ts.length ≤ 9223372036854775807 := by unfold maxLen at hl; omega
  clear hl
  rw [← hn] at hl2 ⊢
  have HN := Lib.hid hn; clear hn
  by_cases hbig : left < n
  · have hd : decide (left - (n : Int) < 0) = true := by simp; omega
    go_enter Try.func70, Try.ntmps70
    go_wp2
    go_ret
    exact ⟨-1, rfl, Below.refl _ _, by omega, fun h => by omega⟩
  · have hd : decide (left - (n : Int) < 0) = false := by simp; omega
    go_enter Try.func70, Try.ntmps70
    go_wp2
    go_loopw [1, 5] (fun q i wr => ∃ (k : Nat) (x : Int), k ≤ n ∧ i = .int .i64 k ∧ q = .int .i64 x ∧ 0 ≤ x ∧ x ≤ left ∧ Hid (x + n + wS (ts.take k) ≤ left) ∧ Below w.heap.size w wr) (fun _ i _ => n - (intOf i).toNat)
    case atStart => exact ⟨0, left - n, Nat.zero_le _, rfl, rfl, by omega, by omega, Lib.hid (by simp [wS]), Below.refl _ _⟩
    case round =>
      obtain ⟨k, x, hk, rfl, rfl, hx0, hx1, HX, hb⟩ := hrel
      have HB := Lib.hid hb; clear hb
      by_cases hlt : k < n
      · obtain ⟨t, ht⟩ : ∃ t, ts[k]? = some t := ⟨_, List.getElem?_eq_getElem (by have := HN.out; omega)⟩
        obtain ⟨tk', tn, tsn, txs⟩ := t
        obtain ⟨hsz, u', c0, c1, c2, c3, har⟩ := HC.out k _ _ _ _ ht
        have keep : ∀ {ad : Addr} {v : Value}, w.cell? ad = some v → wr.cell? ad = some v := fun {ad} {v} hv => by rw [HB.out.cell (World.block_lt_of_cell? w _ hv)]; exact hv
        have d0 := keep c0
        have d1 := keep c1
        have d2 := keep c2
        have d3 := keep c3
        clear c0 c1 c2 c3 keep
        have HAR := Lib.hid (har.below HB.out); clear har
        have HT := Lib.hid (tk ts k _ ht)
        have HSZ := Lib.hid hsz; clear hsz ht
        go_wp2_with fail
        refine (szT_of HSS.out tk' tn tsn u' txs x _ HSZ.out HAR.out hx0 (by omega)).mono ?_
        rintro e w1 ⟨r, rfl, hb1, hr1, hr2⟩
        have HR := Lib.hid hr2; clear hr2
        have HB1 := Lib.hid (HB.out.trans (hb1.mono HB.out.size)); clear hb1
        by_cases hr : r < 0
        · go_wp2
          go_ret
          exact ⟨-1, rfl, HB1.out, by omega, fun h => by omega⟩
        · have hx := HR.out (by omega)
          have HX2 : Hid (r + n + wS (ts.take (k + 1)) ≤ left) := Lib.hid (by rw [HT.out, wS_snoc]; have := HX.out; omega)
          clear hx
          have hrl : r ≤ left := by have := HX2.out; omega
          go_wp2
          go_roundw
          case rel => exact ⟨k + 1, r, by omega, by go_num, rfl, by omega, hrl, HX2, HB1.out⟩
          case measure => simp [intOf]; omega
      · have hkn : k = n := by omega
        have HD : Hid (x + n + wS ts ≤ left) := Lib.hid (by
          have h2 := HX.out
          rw [hkn, HN.out, List.take_length] at h2
          have := HN.out; omega)
        clear hkn
        go_wp2
        go_ret
        exact ⟨x, rfl, HB.out, by omega, fun _ => by have := HD.out; omega⟩

theorem szS_any (lo : Nat) : ∀ h, SzSAt lo h
  | 0 => fun u ts left w ha h0 h1 => by
    obtain ⟨rfl, a, cap, rfl⟩ := ha
    have := szS_empty left a cap w h0 h1
    simpa [wS] using this
  | h + 1 => fun u ts left w ha h0 h1 => by
    rcases ha.cases with ⟨rfl, a, cap, rfl⟩ | ⟨h', b, o, cap, e, rfl, hl, _, hc⟩
    · have := szS_empty left a cap w h0 h1
      simpa [wS] using this
    · obtain rfl : h = h' := by omega
      exact szS_some (szS_any lo h) b o cap ts left w h0 h1 hl hc

theorem szT_any (v : Value) (t : T) (lo h : Nat) (left : Int) (w : World) (ht : TermAt w lo h v t) (h0 : 0 ≤ left) (h1 : left ≤ 1048576) :
    Calls Try.prog 20 #[v, .int .i64 left] w (TSz (wT t) left w) := by
  obtain ⟨k, n, s, u, xs, rfl, rfl, hs, ha⟩ := ht
  exact szT_of (szS_any lo h) k n s u xs left w hs ha h0 h1
end Go.Proofs.Ytidbokheeieifaa
