/-
  impl.CompareTerms and impl.EqualTerm: the nodes are compared by two lists of those that are still to come.
  spec.EqualGuard and impl.EqualGuard: two guards are equal.
  What a term weighs of which the variables are changed. No walk.
  laws.big tells whether a draw has more than 1048576 bytes.
-/
import Derived.Test.YtidbokheeieifaaGreatDoorQ41
import Derived.Test.YtidbokheeieifaaGreatDoorQ23
import Derived.Test.YtidbokheeieifaaGreatDoorQ12
import Derived.Test.YtidbokheeieifaaGreatDoorQ38
import Derived.Test.YtidbokheeieifaaGreatDoorQ21
import Derived.Test.YtidbokheeieifaaGreatDoorQ5
import Derived.Deep.DeepCutAuto
import Derived.Deep.CutRange
import Derived.Deep.CutBlock
import Derived.Deep.RegionHeld3
import Derived.Deep.LoopGhost
import Derived.WalkLawsBesides
import Derived.Lib.Hide
namespace Go.Proofs.YtidbokheeieifaaGreatDoor
open Go.RowKit

theorem LvlOwn.form {B : Nat} {w0 w : World} {v : Value} {ts : List T} (l : LvlOwn B w0 w v ts) : ∃ a cap, v = .slice a ts.length cap := by
  obtain ⟨_, _, a, cap, e, _⟩ := l.at
  exact ⟨a, cap, e⟩
theorem LvlOwn.drew {B : Nat} {w0 w : World} {v : Value} {ts : List T} (l : LvlOwn B w0 w v ts) : LvlOwn B w0 w.drew v ts := l
/-- The lists that the comparison begins with. -/
theorem pair_own (w : World) {lo h : Nat} {k n : Int} {s : ByteArray} {a : Option Addr} {m cap : Nat} {xs : List T} (hs : s.size ≤ maxLen) (ha : ArgsAt w lo h (.slice a m cap) xs) (W : World) (hW : w.heap.size ≤ W.heap.size) :
    LvlOwn w.heap.size w (W.alloc (.cells #[.int .i64 k, .int .i64 n, .string s, .slice a m cap] 26)) (.slice (some ⟨W.heap.size, 0, none⟩) 1 1) [.node k n s xs] :=
  ⟨h, [.int .i64 k, .int .i64 n, .string s, .slice a m cap], ⟨a, m, cap, [], rfl, hs, ha.low (Nat.zero_le _), rfl⟩, World.ownsRow_lit W #[.int .i64 k, .int .i64 n, .string s, .slice a m cap] 1 hW (by simp [maxLen]) rfl⟩

theorem snoc_cases (l : List T) : l = [] ∨ ∃ L x, l = L ++ [x] := by
  rcases List.eq_nil_or_concat l with h | ⟨L, x, h⟩
  · exact Or.inl h
  · exact Or.inr ⟨L, x, by simpa using h⟩
/-- Two structs in blocks of their own. -/
def NodesAt (wr wc : World) (pA pB : Value) (cA cB : Array Value) : Prop := ∃ BA BB, pA = .pointer (some ⟨BA, 0, none⟩) ∧ pB = .pointer (some ⟨BB, 0, none⟩) ∧ wr.heap.size ≤ BA ∧ wr.heap.size ≤ BB ∧ wc.heap[BA]? = some (.cells cA 26 (0, 0)) ∧ wc.heap[BB]? = some (.cells cB 26 (0, 0)) ∧ Below wr.heap.size wr wc
/-- Two lists of nodes, in memory of the call's own. -/
def Stk (w : World) (Ls Rs : List T) (lv rv : Value) (W : World) : Prop := LvlOwn w.heap.size w W lv Ls ∧ LvlOwn w.heap.size w W rv Rs ∧ lv.ownBlock ≠ rv.ownBlock ∧ Below w.heap.size w W
theorem own_cap {w : World} {B n c size : Nat} {e : TypeId} {a : Option Addr} {xs : List Value} (h : w.ownsRow B e size (.slice a n c) n xs) : n ≤ c := by
  rcases h.2 with ⟨h1, h2⟩ | ⟨_, _, _, h1, _, _, hn, _⟩
  · omega
  · cases h1; exact hn
theorem own_form {w : World} {B n size : Nat} {e : TypeId} {v : Value} {xs : List Value} (h : w.ownsRow B e size v n xs) : ∃ a c, v = .slice a n c := by
  rcases h.2 with ⟨rfl, h0⟩ | ⟨g, cap, cur, rfl, _⟩
  · exact ⟨none, 0, by rw [h0]⟩
  · exact ⟨_, cap, rfl⟩
theorem nodes_ab (wr : World) (cA cB : Array Value) {b b' : Nat} (e : b = wr.heap.size) (e' : b' = wr.heap.size + 1) :
    NodesAt wr ((wr.alloc (.cells cA 26)).alloc (.cells cB 26)).drew (.pointer (some ⟨b, 0, none⟩)) (.pointer (some ⟨b', 0, none⟩)) cA cB := by
  subst e
  subst e'
  have hz : (wr.alloc (.cells cA 26)).heap.size = wr.heap.size + 1 := by simp
  refine ⟨_, _, rfl, rfl, Nat.le_refl _, Nat.le_succ _, ?_, ?_, (((Below.refl _ _).alloc (Nat.le_refl _) _).alloc (by rw [hz]; omega) _).drew⟩
  · exact (Below.heap_alloc _ _ _ (by rw [hz]; omega)).trans (World.alloc_heap_new wr _)
  · have := World.alloc_heap_new (wr.alloc (.cells cA 26)) (.cells cB 26)
    rw [hz] at this
    exact this
theorem NodesAt.swap {wr wc : World} {pA pB : Value} {cA cB : Array Value} (h : NodesAt wr wc pA pB cA cB) : NodesAt wr wc pB pA cB cA := by
  obtain ⟨BA, BB, e1, e2, h1, h2, h3, h4, h5⟩ := h
  exact ⟨BB, BA, e2, e1, h2, h1, h4, h3, h5⟩
theorem cS_rev (l : List T) : cS l.reverse = cS l := by simp [cS, List.sum_reverse]
/-- The last node taken off, its arguments put on. -/
theorem lvl_pop {B : Nat} {w0 W : World} {a : Option Addr} {q c : Nat} {L1 : List T} {x : T} (l : LvlOwn B w0 W (.slice a (q + 1) c) (L1 ++ [x])) (hq : q = L1.length) : ∃ h vs, RowV w0 h L1 vs ∧ W.ownsRow B 26 4 (.slice a q c) q vs := by
  obtain ⟨h, ls, hr, ho⟩ := l
  have e : (L1 ++ [x]).length = q + 1 := by rw [hq]; simp
  rw [e] at ho
  obtain ⟨v1, v2, e1, h1, h2⟩ := hr.split
  have hc := own_cut ho (Nat.le_succ q)
  have hl : v1.length = q * 4 := by rw [h1.len, hq]
  rw [e1, ← hl, List.take_left'  rfl] at hc
  exact ⟨h, v1, h1, hc⟩
theorem NdsT.le {w : World} {h h' : Nat} (hle : h ≤ h') : ∀ {ts : List T} {ds : List Nd}, NdsT w h ts ds → NdsT w h' ts ds
  | [], [], _ => trivial
  | [], _ :: _, k => k.elim
  | _ :: _, [], k => k.elim
  | _ :: _, _ :: _, ⟨⟨xs, e, hs, ha⟩, hr⟩ => ⟨⟨xs, e, hs, ha.le hle⟩, hr.le hle⟩
theorem lvl_push {B : Nat} {w0 W : World} {v : Value} {q h h' : Nat} {L1 xs : List T} {vs : List Value} {ds : List Nd} (hr : RowV w0 h L1 vs) (hd : NdsT w0 h' xs ds) (hq : q = L1.length)
    (ho : W.ownsRow B 26 4 v (q + ds.length) (vs ++ ds.reverse.flatMap Nd.cs)) : LvlOwn B w0 W v (L1 ++ xs.reverse) := by
  refine ⟨max h h', _, RowV.app ((hd.le (Nat.le_max_right h h')).rev.row) (hr.le (Nat.le_max_left h h')), ?_⟩
  rw [List.length_append, List.length_reverse, ← hq, ← hd.len]
  exact ho
theorem stk_start (w : World) {lo h lo' h' : Nat} {k n : Int} {s : ByteArray} {a : Option Addr} {m cap : Nat} {xs : List T} {k' n' : Int} {s' : ByteArray} {a' : Option Addr} {m' cap' : Nat} {ys : List T} (hs : s.size ≤ maxLen) (ha : ArgsAt w lo h (.slice a m cap) xs)
    (hs' : s'.size ≤ maxLen) (ha' : ArgsAt w lo' h' (.slice a' m' cap') ys) (X : World) (hb : Below w.heap.size w X) {b b' : Nat} (e : b = X.heap.size) (e' : b' = X.heap.size + 1) :
    Stk w [.node k n s xs] [.node k' n' s' ys] (.slice (some ⟨b, 0, none⟩) 1 1) (.slice (some ⟨b', 0, none⟩) 1 1) (((X.alloc (.cells #[.int .i64 k, .int .i64 n, .string s, .slice a m cap] 26)).alloc (.cells #[.int .i64 k', .int .i64 n', .string s', .slice a' m' cap'] 26)).drew) := by
  subst e
  have e2 : b' = (X.alloc (.cells #[.int .i64 k, .int .i64 n, .string s, .slice a m cap] 26)).heap.size := by rw [e']; simp
  subst e2
  have hX := hb.size
  have hb1 := hb.alloc hX (.cells #[.int .i64 k, .int .i64 n, .string s, .slice a m cap] 26)
  refine ⟨((pair_own w hs ha X hX).below ((Below.refl _ _).alloc (Nat.le_refl _) _)).drew, (pair_own w hs' ha' _ hb1.size).drew, ?_, (hb1.alloc hb1.size _).drew⟩
  simp [Value.ownBlock]
theorem Stk.swap {w : World} {Ls Rs : List T} {lv rv : Value} {W : World} (h : Stk w Ls Rs lv rv W) : Stk w Rs Ls rv lv W := ⟨h.2.1, h.1, fun e => h.2.2.1 e.symm, h.2.2.2⟩

set_option maxRecDepth 100000 in
set_option maxHeartbeats 3200000 in
theorem cmpTI_anyK (v v' : Value) (t t' : T) (lo lo' h h' : Nat) (w : World) (ht : TermAt w lo h v t) (ht' : TermAt w lo' h' v' t') (hw : cT t ≤ 4294967296) :
    Calls Tryz.prog 49 #[v, v'] w (NumB (cmpT t t') w) := by
  obtain ⟨k, n, s, u, xs, rfl, rfl, hs, ha⟩ := ht
  obtain ⟨k', n', s', u', ys, rfl, rfl, hs', ha'⟩ := ht'
  obtain ⟨a, cap, rfl⟩ := ha.slice
  obtain ⟨a', cap', rfl⟩ := ha'.slice
  have HB0 := Lib.hid (boxed2_below w k n s (.slice a xs.length cap) k' n' s' (.slice a' ys.length cap'))
  obtain ⟨c0, c1, c2, c3, d0, d1, d2, d3, hb0⟩ := boxed2_all (Below.refl _ (boxed2 w k n s (.slice a xs.length cap) k' n' s' (.slice a' ys.length cap')))
  have HA := Lib.hid (And.intro ha ha')
  have HS := Lib.hid (And.intro hs hs')
  clear ha ha' hs hs' hb0
  go_enter Tryz.func49, Tryz.ntmps49
  go_wp2
  obtain ⟨t1, ht1⟩ : ∃ t1, t1 = T.node k n s xs := ⟨_, rfl⟩
  obtain ⟨t2, ht2⟩ : ∃ t2, t2 = T.node k' n' s' ys := ⟨_, rfl⟩
  have HT := Lib.hid (And.intro ht1 ht2)
  go_cut [5, 6] (fun lv rv wc => Hid (Stk w [T.node k n s xs] [T.node k' n' s' ys] lv rv wc))
  case first =>
    go_region
    · go_wp2_with fail
      go_meet
      exact Lib.hid (stk_start w HS.out.1 HA.out.1 HS.out.2 HA.out.2 _ HB0.out (by simp) (by simp))
    · go_wp2_with fail
      go_meet
      exact Lib.hid (stk_start w HS.out.2 HA.out.2 HS.out.1 HA.out.1 _ HB0.out (by simp) (by simp)).swap
  obtain ⟨la0, lc0, e5⟩ := hcut.out.1.form
  obtain ⟨ra0, rc0, e6⟩ := hcut.out.2.1.form
  subst e5
  subst e6
  rw [← ht1, ← ht2] at hcut
  have hcb : cS [t1] ≤ 4294967296 := by rw [single_c, ht1]; exact hw
  have HSC : Hid (SC [t1] [t2] = cmpT (T.node k n s xs) (T.node k' n' s' ys)) := Lib.hid (by rw [← ht1, ← ht2]; exact SC_one _ _)
  clear ht1 ht2 HA HS HB0 hw c0 c1 c2 c3 d0 d1 d2 d3 HT
  go_wp2
  go_loopg [5, 6] (cS [t1]) (fun g lv rv wr => ∃ Ls Rs, g = cS Ls ∧ Ls.length = Rs.length ∧ cS Ls ≤ 4294967296 ∧ Hid (SC Ls Rs = cmpT (T.node k n s xs) (T.node k' n' s' ys)) ∧ Hid (Stk w Ls Rs lv rv wr))
  case atStart => exact ⟨[t1], [t2], rfl, rfl, hcb, HSC, hcut⟩
  case round =>
    clear HSC hcut hcb
    obtain ⟨Ls, Rs, hg, hlr, hcs, HSC, HST⟩ := hrel
    have HG := Lib.hid hg; clear hg
    have hml := len_le_cS Ls
    obtain ⟨la, lc, rfl⟩ := HST.out.1.form
    obtain ⟨ra, rc, rfl⟩ := HST.out.2.1.form
    rw [← hlr] at HST
    rcases snoc_cases Ls with hnil | ⟨L1, x, hLs⟩
    · have hR0 : Rs = [] := List.eq_nil_of_length_eq_zero (by rw [← hlr, hnil]; rfl)
      have HZ : Hid (cmpT (T.node k n s xs) (T.node k' n' s' ys) = 0) := Lib.hid (by rw [← HSC.out, hnil, hR0]; rfl)
      have hl0 : Ls.length = 0 := by rw [hnil]; rfl
      rw [← hlr, hl0]
      clear hR0 hnil hlr
      go_wp2
      go_ret
      exact ⟨by rw [HZ.out]; rfl, HST.out.2.2.2⟩
    · obtain ⟨R1, y, hRs⟩ : ∃ R1 y, Rs = R1 ++ [y] := by
        rcases snoc_cases Rs with e | ⟨R1, y, e⟩
        · rw [e, hLs] at hlr; simp at hlr
        · exact ⟨R1, y, e⟩
      obtain ⟨q, hq⟩ : ∃ q, q = L1.length := ⟨_, rfl⟩
      have hLq : Ls.length = q + 1 := by rw [hLs, hq]; simp
      have hRq : Rs.length = q + 1 := by omega
      have hxq : Ls[q]? = some x := by rw [hLs, hq]; simp
      have hyq : Rs[q]? = some y := by
        have : q = R1.length := by rw [hRs] at hRq; simp at hRq; omega
        rw [hRs, this]; simp
      obtain ⟨hh1, ls1, la1, lc1, e1, hrv1, hcl1⟩ := HST.out.1.at
      obtain ⟨hh2, ls2, ra1, rc1, e2, hrv2, hcl2⟩ := HST.out.2.1.at
      injection e1 with e1a e1b e1c
      injection e2 with e2a e2b e2c
      rw [← e1a] at hcl1
      rw [← e2a] at hcl2
      obtain ⟨bA, oA, ka, na, sa, xa, aa, ca, hla, hxe, hsa, a0, a1, a2, a3, harA⟩ := lvl_cells hrv1 hcl1 hxq
      obtain ⟨bB, oB, kb, nb, sb, xb, ab, cb, hra, hye, hsb, b0, b1, b2, b3, harB⟩ := lvl_cells hrv2 hcl2 hyq
      subst hla
      subst hra
      rw [← hlr, hLq]
      rw [hLq] at HST
      have HSZ := Lib.hid (And.intro hsa hsb); clear hsa hsb
      have HAR := Lib.hid (And.intro harA harB); clear harA harB
      have HXY := Lib.hid (And.intro hxe hye)
      have HEQ := Lib.hid (And.intro hLs hRs)
      have HQ := Lib.hid hq
      have HRQ := Lib.hid hRq
      have hqb : q ≤ 4294967296 := by omega
      have hlk : (q : Int) < (q : Int) + 1 := by omega
      clear hxe hye hLs hRs hq hcl1 hcl2 hrv1 hrv2 e1a e1b e1c e2a e2b e2c hxq hyq hRq hLq hml hlr
      go_upto_region 4 with fail
      have ax0 : ∀ o, (wr.alloc o).cell? ⟨bA, oA + q * 4, none⟩ = some (.int .i64 ka) := fun o => cell_on ((Below.refl _ _).alloc (Nat.le_refl _) o) a0
      have ay0 : ∀ o o2, ((wr.alloc o).alloc o2).cell? ⟨bA, oA + q * 4, none⟩ = some (.int .i64 ka) := fun o o2 => cell_on ((Below.refl _ _).alloc (Nat.le_refl _) o2) (ax0 o)
      have ax1 : ∀ o, (wr.alloc o).cell? ⟨bA, oA + q * 4 + 1, none⟩ = some (.int .i64 na) := fun o => cell_on ((Below.refl _ _).alloc (Nat.le_refl _) o) a1
      have ay1 : ∀ o o2, ((wr.alloc o).alloc o2).cell? ⟨bA, oA + q * 4 + 1, none⟩ = some (.int .i64 na) := fun o o2 => cell_on ((Below.refl _ _).alloc (Nat.le_refl _) o2) (ax1 o)
      have ax2 : ∀ o, (wr.alloc o).cell? ⟨bA, oA + q * 4 + 2, none⟩ = some (.string sa) := fun o => cell_on ((Below.refl _ _).alloc (Nat.le_refl _) o) a2
      have ay2 : ∀ o o2, ((wr.alloc o).alloc o2).cell? ⟨bA, oA + q * 4 + 2, none⟩ = some (.string sa) := fun o o2 => cell_on ((Below.refl _ _).alloc (Nat.le_refl _) o2) (ax2 o)
      have ax3 : ∀ o, (wr.alloc o).cell? ⟨bA, oA + q * 4 + 3, none⟩ = some (.slice aa xa.length ca) := fun o => cell_on ((Below.refl _ _).alloc (Nat.le_refl _) o) a3
      have ay3 : ∀ o o2, ((wr.alloc o).alloc o2).cell? ⟨bA, oA + q * 4 + 3, none⟩ = some (.slice aa xa.length ca) := fun o o2 => cell_on ((Below.refl _ _).alloc (Nat.le_refl _) o2) (ax3 o)
      have bx0 : ∀ o, (wr.alloc o).cell? ⟨bB, oB + q * 4, none⟩ = some (.int .i64 kb) := fun o => cell_on ((Below.refl _ _).alloc (Nat.le_refl _) o) b0
      have by0 : ∀ o o2, ((wr.alloc o).alloc o2).cell? ⟨bB, oB + q * 4, none⟩ = some (.int .i64 kb) := fun o o2 => cell_on ((Below.refl _ _).alloc (Nat.le_refl _) o2) (bx0 o)
      have bx1 : ∀ o, (wr.alloc o).cell? ⟨bB, oB + q * 4 + 1, none⟩ = some (.int .i64 nb) := fun o => cell_on ((Below.refl _ _).alloc (Nat.le_refl _) o) b1
      have by1 : ∀ o o2, ((wr.alloc o).alloc o2).cell? ⟨bB, oB + q * 4 + 1, none⟩ = some (.int .i64 nb) := fun o o2 => cell_on ((Below.refl _ _).alloc (Nat.le_refl _) o2) (bx1 o)
      have bx2 : ∀ o, (wr.alloc o).cell? ⟨bB, oB + q * 4 + 2, none⟩ = some (.string sb) := fun o => cell_on ((Below.refl _ _).alloc (Nat.le_refl _) o) b2
      have by2 : ∀ o o2, ((wr.alloc o).alloc o2).cell? ⟨bB, oB + q * 4 + 2, none⟩ = some (.string sb) := fun o o2 => cell_on ((Below.refl _ _).alloc (Nat.le_refl _) o2) (bx2 o)
      have bx3 : ∀ o, (wr.alloc o).cell? ⟨bB, oB + q * 4 + 3, none⟩ = some (.slice ab xb.length cb) := fun o => cell_on ((Below.refl _ _).alloc (Nat.le_refl _) o) b3
      have by3 : ∀ o o2, ((wr.alloc o).alloc o2).cell? ⟨bB, oB + q * 4 + 3, none⟩ = some (.slice ab xb.length cb) := fun o o2 => cell_on ((Below.refl _ _).alloc (Nat.le_refl _) o2) (bx3 o)
      go_cut [8, 9] (fun pA pB wc => Hid (NodesAt wr wc pA pB #[.int .i64 ka, .int .i64 na, .string sa, .slice aa xa.length ca] #[.int .i64 kb, .int .i64 nb, .string sb, .slice ab xb.length cb]))
      case first =>
        go_region
        all_goals go_wp2_with fail
        all_goals go_meet
        · exact Lib.hid (nodes_ab wr _ _ (by simp) (by simp))
        · exact Lib.hid (nodes_ab wr _ _ (by simp) (by simp)).swap
      obtain ⟨BA, BB, e8, e9, hBA, hBB, hcA, hcB, hbc⟩ := hcut.out
      subst e8
      subst e9
      have HSTc : Hid (Stk w Ls Rs (.slice (some ⟨bA, oA, none⟩) (q + 1) lc) (.slice (some ⟨bB, oB, none⟩) (q + 1) rc) wc) := Lib.hid ⟨HST.out.1.below hbc, HST.out.2.1.below hbc, HST.out.2.2.1, HST.out.2.2.2.trans (hbc.mono HST.out.2.2.2.size)⟩
      have p0 := cell_of_row wc BA 0 _ _ _ hcA
      have p1 := cell_of_row wc BA 1 _ _ _ hcA
      have p2 := cell_of_row wc BA 2 _ _ _ hcA
      have p3 := cell_of_row wc BA 3 _ _ _ hcA
      have r0 := cell_of_row wc BB 0 _ _ _ hcB
      have r1 := cell_of_row wc BB 1 _ _ _ hcB
      have r2 := cell_of_row wc BB 2 _ _ _ hcB
      have r3 := cell_of_row wc BB 3 _ _ _ hcB
      simp at p0 p1 p2 p3 r0 r1 r2 r3
      have HCA := Lib.hid hcA
      have HCB := Lib.hid hcB
      have HBS : Hid (∀ k, (Value.slice (some ⟨bA, oA, none⟩) (q + 1) lc).ownBlock = some k ∨ (Value.slice (some ⟨bB, oB, none⟩) (q + 1) rc).ownBlock = some k → k < BA ∧ k < BB) := Lib.hid (fun k hk => by
        obtain ⟨_, _, _, ho1⟩ := HST.out.1
        obtain ⟨_, _, _, ho2⟩ := HST.out.2.1
        rcases hk with hk | hk
        · have := (ho1.lt k hk).2; omega
        · have := (ho2.lt k hk).2; omega)
      clear hcut hBA hBB hcA hcB hbc HST a0 a1 a2 a3 b0 b1 b2 b3 ax0 ax1 ax2 ax3 ay0 ay1 ay2 ay3 bx0 bx1 bx2 bx3 by0 by1 by2 by3
      go_wp2_with fail
      refine (node_any ka na sa aa xa.length ca kb nb sb ab xb.length cb _).mono ?_
      rintro e w2 ⟨rfl, hb2⟩
      obtain ⟨z, hz⟩ : ∃ z, z = nz (headC ka na sa xa.length kb nb sb xb.length) := ⟨_, rfl⟩
      rw [← hz]
      have HZ := Lib.hid hz; clear hz
      have HST2 : Hid (Stk w Ls Rs (.slice (some ⟨bA, oA, none⟩) (q + 1) lc) (.slice (some ⟨bB, oB, none⟩) (q + 1) rc) w2) := Lib.hid ⟨HSTc.out.1.below hb2, HSTc.out.2.1.below hb2, HSTc.out.2.2.1, HSTc.out.2.2.2.trans (hb2.mono HSTc.out.2.2.2.size)⟩
      have HCA2 := Lib.hid ((hb2.block BA (Array.getElem?_eq_some_iff.1 HCA.out).1).trans HCA.out)
      have HCB2 := Lib.hid ((hb2.block BB (Array.getElem?_eq_some_iff.1 HCB.out).1).trans HCB.out)
      clear HSTc HCA HCB hb2 p0 p1 p2 p3 r0 r1 r2 r3
      by_cases hz0 : z = 0
      · subst hz0
        have hab : xa.length = xb.length := head_len HZ.out.symm
        obtain ⟨dsA, hdA, hiA⟩ := nds_of HAR.out.1
        obtain ⟨dsB, hdB, hiB⟩ := nds_of HAR.out.2
        have hlA := hdA.len
        have hlB := hdB.len
        have hcl : cS Ls = cS L1 + 1 + cS xa := by rw [HEQ.out.1, cS_app, single_c, cT_kT, HXY.out.1]; simp only [kT]; omega
        have hxl := len_le_cS xa
        have hL1l : L1.length ≤ cS L1 := len_le_cS L1
        have HLE : Hid (Ls = L1 ++ [x] ∧ Rs = R1 ++ [y]) := HEQ
        have hRl : q = R1.length := by
          have h1 := HRQ.out
          rw [HEQ.out.2, List.length_append, List.length_singleton] at h1
          omega
        have HRL := Lib.hid hRl; clear hRl
        have HD := Lib.hid (And.intro hdA hdB); clear hdA hdB
        have HIA := Lib.hid (And.intro hiA hiB); clear hiA hiB
        obtain ⟨hA1, vsA, hrA1, hoA1⟩ := lvl_pop (by have := HST2.out.1; rw [HEQ.out.1] at this; exact this) HQ.out
        obtain ⟨hB1, vsB, hrB1, hoB1⟩ := lvl_pop (by have := HST2.out.2.1; rw [HEQ.out.2] at this; exact this) HRL.out
        have HR1 := Lib.hid (And.intro hrA1 hrB1); clear hrA1 hrB1
        have HO1 := Lib.hid (And.intro hoA1 hoB1); clear hoA1 hoB1
        have hqa : q + dsA.length ≤ 4294967296 := by have := HQ.out; omega
        have hda : dsA.length ≤ 4294967296 := by omega
        have hqb2 : q + dsB.length ≤ 4294967296 := by omega
        have hdb : dsB.length ≤ 4294967296 := by omega
        have HBD := Lib.hid (And.intro (And.intro hqa hda) (And.intro hqb2 hdb))
        have HCL := Lib.hid hcl
        have HAB := Lib.hid hab
        clear hcl hab hxl hL1l hlA hlB hqa hda hqb2 hdb
        have p3 := cell_of_row w2 BA 3 _ _ _ HCA2.out
        simp at p3
        have hcapA := own_cap HO1.out.1
        have hcapB := own_cap HO1.out.2
        have hcapAz : (q : Int) ≤ (lc : Int) := by omega
        have hcapBz : (q : Int) ≤ (rc : Int) := by omega
        go_upto_region 8 with fail
        go_cut [5] (fun lv' wd => Hid ((∃ a c, lv' = .slice a (q + dsA.length) c) ∧ LvlOwn w.heap.size w wd lv' (L1 ++ xa.reverse) ∧ wd.ownsRow w.heap.size 26 4 (.slice (some ⟨bB, oB, none⟩) q rc) q vsB ∧ lv'.ownBlock ≠ (Value.slice (some ⟨bB, oB, none⟩) q rc).ownBlock ∧ Below w.heap.size w wd ∧ wd.heap[BB]? = some (.cells #[.int .i64 kb, .int .i64 nb, .string sb, .slice ab xb.length cb] 26 (0, 0)) ∧ lv'.ownBlock ≠ some BB))
        case first =>
          have hcall := fun (W : World) (hW : W = w2.drew) => appB_any (some ⟨bA, oA, none⟩) q lc vsA aa xa.length ca dsA w.heap.size W (by rw [hW]; exact HO1.out.1) (by rw [hW]; exact HST2.out.2.2.2.size) (by rw [hW]; exact HIA.out.1.below HST2.out.2.2.2.drew) HBD.out.1.1 HBD.out.1.2
          have HCALL := Lib.hid hcall; clear hcall
          go_region_with (go_at_call 82; refine (HCALL.out _ rfl).mono ?_; rintro e w3 ⟨v3, rfl, ho3, hb3, hg3, hm3⟩)
          go_wp2_with fail
          go_meet
          have hbb := HBS.out
          refine Lib.hid ⟨own_form ho3, lvl_push HR1.out.1 HD.out.1 HQ.out ho3, World.ownsRow.kept (w := w2.drew) HO1.out.2 hg3 (Or.inr (fun e => HST2.out.2.2.1 e.symm)), ?_, HST2.out.2.2.2.drew.trans hb3, ?_, ?_⟩
          · rcases hm3 with e | ⟨j, e1, e2⟩
            · rw [e]; exact HST2.out.2.2.1
            · rw [e1]; intro e3
              have := (HO1.out.2.lt j e3.symm).2
              have e4 : w2.heap.size ≤ j := e2
              omega
          · refine (hg3.block BB (Array.getElem?_eq_some_iff.1 HCB2.out).1 (fun e => ?_)).trans HCB2.out
            have := (hbb BB (Or.inl e.symm)).2
            omega
          · rcases hm3 with e | ⟨j, e1, e2⟩
            · rw [e]; intro e3
              have := (hbb BB (Or.inl e3)).2
              omega
            · rw [e1]; intro e3
              cases e3
              have := (Array.getElem?_eq_some_iff.1 HCB2.out).1
              have e4 : w2.heap.size ≤ BB := e2
              omega
        obtain ⟨⟨na3, nc3, e5⟩, hcut⟩ := hcut.out
        subst e5
        have HC5 := Lib.hid hcut; clear hcut
        have r3 := cell_of_row wc BB 3 _ _ _ HC5.out.2.2.2.2.1
        simp at r3
        clear p3
        go_upto_region 9 with fail
        have hcall := fun (W : World) (hW : W = wc.drew) => appB_any (some ⟨bB, oB, none⟩) q rc vsB ab xb.length cb dsB w.heap.size W (by rw [hW]; exact HC5.out.2.1) (by rw [hW]; exact HC5.out.2.2.2.1.size) (by rw [hW]; exact HIA.out.2.below HC5.out.2.2.2.1.drew) HBD.out.2.1 HBD.out.2.2
        have HCALL := Lib.hid hcall; clear hcall
        go_region_with (go_at_call 82; refine (HCALL.out _ rfl).mono ?_; rintro e w3 ⟨v3, rfl, ho3, hb3, hg3, hm3⟩)
        have HST3 : Hid (Stk w (L1 ++ xa.reverse) (R1 ++ xb.reverse) (.slice na3 (q + dsA.length) nc3) v3 w3) := Lib.hid (by
          refine ⟨?_, lvl_push HR1.out.2 HD.out.2 HRL.out ho3, ?_, HC5.out.2.2.2.1.drew.trans hb3⟩
          · obtain ⟨hh, ls, q1, q2⟩ := HC5.out.1
            exact ⟨hh, ls, q1, World.ownsRow.kept (w := wc.drew) q2 hg3 (Or.inr HC5.out.2.2.1)⟩
          · rcases hm3 with e | ⟨j, e1, e2⟩
            · rw [e]; exact HC5.out.2.2.1
            · rw [e1]; intro e3
              obtain ⟨_, _, _, q2⟩ := HC5.out.1
              have := (q2.lt j e3).2
              have e4 : wc.heap.size ≤ j := e2
              omega)
        clear ho3 hb3 hg3 hm3 hcapA hcapB hcapAz hcapBz r3
        have HLL : Hid ((L1 ++ xa.reverse).length = (R1 ++ xb.reverse).length) := Lib.hid (by rw [List.length_append, List.length_append, List.length_reverse, List.length_reverse, ← HQ.out, ← HRL.out, HAB.out])
        have HCS : Hid (cS (L1 ++ xa.reverse) + 1 = cS Ls) := Lib.hid (by rw [cS_app, cS_rev]; have := HCL.out; omega)
        have HSC2 : Hid (SC (L1 ++ xa.reverse) (R1 ++ xb.reverse) = cmpT (T.node k n s xs) (T.node k' n' s' ys)) := Lib.hid (by
          rw [← HSC.out, HEQ.out.1, HEQ.out.2, HXY.out.1, HXY.out.2, SC_eq HZ.out.symm])
        go_wp2
        go_roundg (cS (L1 ++ xa.reverse))
        case measure => have := HG.out; have := HCS.out; omega
        case rel => exact ⟨_, _, rfl, HLL.out, by have := HCS.out; omega, HSC2, HST3⟩
      · have hz1 : (z != 0) = true := by simpa using hz0
        have HF : Hid (cmpT (T.node k n s xs) (T.node k' n' s' ys) = z) := Lib.hid (by
          rw [← HSC.out, HEQ.out.1, HEQ.out.2, HXY.out.1, HXY.out.2, SC_ne (by rw [← HZ.out]; exact hz0), ← HZ.out])
        go_wp2
        go_ret
        exact ⟨by rw [HF.out]; rfl, HST2.out.2.2.2⟩

theorem cmpTI_any (v v' : Value) (t t' : T) (lo lo' h h' : Nat) (w : World) (ht : TermAt w lo h v t) (ht' : TermAt w lo' h' v' t') (hw : wT t ≤ 1048576) (_ : wT t' ≤ 1048576) :
    Calls Tryz.prog 49 #[v, v'] w (NumB (cmpT t t') w) := cmpTI_anyK v v' t t' lo lo' h h' w ht ht' (by have := cT_le t; omega)
set_option maxRecDepth 100000 in
set_option maxHeartbeats 800000 in
theorem equalTI_anyK (v v' : Value) (t t' : T) (lo lo' h h' : Nat) (w : World) (ht : TermAt w lo h v t) (ht' : TermAt w lo' h' v' t') (hw : cT t ≤ 4294967296) :
    Calls Tryz.prog 29 #[v, v'] w (fun e w' => ∃ b, AnsB b w e w' ∧ (b = true ↔ t = t')) := by
  obtain ⟨k, n, s, u, rfl⟩ := ht.form
  obtain ⟨k', n', s', u', rfl⟩ := ht'.form
  have hb := boxed2_below w k n s u k' n' s' u'
  have HC := Lib.hid (cmpTI_anyK _ _ t t' lo lo' h h' _ (ht.below hb) (ht'.below hb) hw)
  have HB := Lib.hid hb
  obtain ⟨c0, c1, c2, c3, d0, d1, d2, d3, hb0⟩ := boxed2_all (Below.refl _ (boxed2 w k n s u k' n' s' u'))
  clear ht ht' hb hb0
  go_enter Tryz.func29, Tryz.ntmps29
  go_wp2_with fail
  refine HC.out.mono ?_
  rintro e w1 ⟨rfl, hb1⟩
  have HB1 := Lib.hid (HB.out.trans (hb1.mono HB.out.size)); clear hb1
  go_wp2
  go_ret
  refine ⟨_, ⟨rfl, HB1.out⟩, ?_⟩
  rw [beq_iff_eq, cmpT_zero]
theorem equalTI_any (v v' : Value) (t t' : T) (lo lo' h h' : Nat) (w : World) (ht : TermAt w lo h v t) (ht' : TermAt w lo' h' v' t') (hw : wT t ≤ 1048576) (_ : wT t' ≤ 1048576) :
    Calls Tryz.prog 29 #[v, v'] w (fun e w' => ∃ b, AnsB b w e w' ∧ (b = true ↔ t = t')) := equalTI_anyK v v' t t' lo lo' h h' w ht ht' (by have := cT_le t; omega)
end Go.Proofs.YtidbokheeieifaaGreatDoor
namespace Go.Proofs.YtidbokheeieifaaGreatDoor
open Go.RowKit

open Classical in
/-- Two guards are the same. -/
noncomputable def eqGB (g g' : Gd) : Bool := decide (g = g')
theorem eqGB_iff (g g' : Gd) : eqGB g g' = true ↔ g = g' := by unfold eqGB; simp

set_option maxRecDepth 100000 in
set_option maxHeartbeats 1600000 in
theorem iEqG_any (v v' : Value) (g g' : Gd) (lo lo' h h' : Nat) (w : World) (hv : GAt w lo h v g) (hv' : GAt w lo' h' v' g') (hw : wG g ≤ 1048576) :
    Calls Tryz.prog 11 #[v, v'] w (AnsB (eqGB g g') w) := by
  obtain ⟨k, n, s, u, k', n', s', u', rfl, ht1, ht2⟩ := hv
  obtain ⟨ka, na, sa, ua, kb, nb, sb, ub, rfl, ht3, ht4⟩ := hv'
  obtain ⟨kd, t1, t2⟩ := g
  obtain ⟨ke, t3, t4⟩ := g'
  have hw1 : wT t1 ≤ 1048576 := by unfold wG at hw; simp only at hw; omega
  have hw2 : wT t2 ≤ 1048576 := by unfold wG at hw; simp only at hw; omega
  clear hw
  obtain ⟨W, hW⟩ : ∃ W, W = (w.alloc (.cells #[.int .i64 kd, .int .i64 k, .int .i64 n, .string s, u, .int .i64 k', .int .i64 n', .string s', u'] 28)).alloc (.cells #[.int .i64 ke, .int .i64 ka, .int .i64 na, .string sa, ua, .int .i64 kb, .int .i64 nb, .string sb, ub] 28) := ⟨_, rfl⟩
  have hb0 : Below w.heap.size w W := by rw [hW]; exact ((Below.refl _ _).alloc (Nat.le_refl _) _).alloc (by simp) _
  have r0 : W.heap[w.heap.size]? = some (grow 28 kd k n s u k' n' s' u') := by rw [hW, Below.heap_alloc _ _ _ (by simp)]; exact heap_new _ _ rfl
  have r1 : W.heap[w.heap.size + 1]? = some (grow 28 ke ka na sa ua kb nb sb ub) := by rw [hW]; exact heap_new _ _ (by simp)
  have HR := Lib.hid (And.intro r0 r1); clear r0 r1
  have HT := Lib.hid (And.intro (ht1.below hb0) (ht3.below hb0)); clear ht1 ht3
  have HU := Lib.hid (And.intro (ht2.below hb0) (ht4.below hb0)); clear ht2 ht4
  have HB0 := Lib.hid hb0; clear hb0
  obtain ⟨r, hr⟩ : ∃ r, r = eqGB ⟨kd, t1, t2⟩ ⟨ke, t3, t4⟩ := ⟨_, rfl⟩
  have HE : Hid (r = true ↔ (kd = ke ∧ t1 = t3 ∧ t2 = t4)) := Lib.hid (by rw [hr, eqGB_iff]; simp)
  rw [← hr]
  clear hr
  by_cases hk : kd = ke
  · subst hk
    go_enter Tryz.func11, Tryz.ntmps11
    go_wp2_with fail
    rw [← hW]
    clear hW
    refine (equalTI_anyK _ _ t1 t3 _ _ _ _ _ HT.out.1 HT.out.2 (by have := cT_le t1; omega)).mono ?_
    rintro e w1 ⟨b1, ⟨rfl, hb1⟩, hq1⟩
    have q0 := (hb1.block _ (Array.getElem?_eq_some_iff.1 HR.out.1).1).trans HR.out.1
    have q1 := (hb1.block _ (Array.getElem?_eq_some_iff.1 HR.out.2).1).trans HR.out.2
    have HU2 := Lib.hid (And.intro (HU.out.1.below hb1) (HU.out.2.below hb1))
    have HB1 := Lib.hid (HB0.out.trans (hb1.mono HB0.out.size)); clear hb1
    have HQ1 := Lib.hid hq1; clear hq1
    obtain ⟨x0, x1, x2, x3, x4, x5, x6, x7, x8⟩ := cells_of9 q0
    obtain ⟨z0, z1, z2, z3, z4, z5, z6, z7, z8⟩ := cells_of9 q1
    clear q0 q1 x0 x1 x2 x3 x4 z0 z1 z2 z3 z4
    cases b1 with
    | false =>
      have hrf : r = false := by
        cases r with
        | false => rfl
        | true => have h1 := HE.out.1 rfl; have h2 := HQ1.out.2 h1.2.1; cases h2
      subst hrf
      go_wp2
      go_ret
      exact ⟨rfl, HB1.out⟩
    | true =>
      go_wp2_with fail
      refine (equalTI_anyK _ _ t2 t4 _ _ _ _ _ HU2.out.1 HU2.out.2 (by have := cT_le t2; omega)).mono ?_
      rintro e w2 ⟨b2, ⟨rfl, hb2⟩, hq2⟩
      have HB2 := Lib.hid (HB1.out.trans (hb2.mono HB1.out.size)); clear hb2
      have hrr : r = b2 := by
        have h1 := HE.out
        have h3 := HQ1.out.1 (by first | rfl | trivial)
        cases b2 with
        | false => cases r with
          | false => rfl
          | true => have h2 := hq2.2 (h1.1 rfl).2.2; cases h2
        | true => exact h1.2 ⟨(by first | rfl | trivial), h3, hq2.1 rfl⟩
      subst hrr
      clear hq2
      go_wp2
      go_ret
      exact ⟨rfl, HB2.out⟩
  · have hrf : r = false := by
      cases r with
      | false => rfl
      | true => exact absurd (HE.out.1 rfl).1 hk
    subst hrf
    have hkk : (kd == ke) = false := by simpa using hk
    go_enter Tryz.func11, Tryz.ntmps11
    go_wp2
    rw [← hW]
    go_ret
    exact ⟨rfl, HB0.out⟩

end Go.Proofs.YtidbokheeieifaaGreatDoor
namespace Go.Proofs.YtidbokheeieifaaGreatDoor
open Go.RowKit

theorem wS_map (f : T → T) (M : Nat) (xs : List T) (h : ∀ x ∈ xs, wT (f x) ≤ wT x * (M + 1) + M) : wS (xs.map f) ≤ wS xs * (M + 1) + xs.length * M := by
  induction xs with
  | nil => simp [wS]
  | cons x r ih =>
    have h1 := h x (by simp)
    have h2 := ih (fun y hy => h y (by simp [hy]))
    simp only [wS, List.map_cons, List.sum_cons, List.length_cons, Nat.add_mul] at *
    omega
theorem wT_map (F : ByteArray → Option T) (M : Nat) (hF : ∀ s u, F s = some u → wT u ≤ M) : ∀ t, wT (mapT F (fun s => s) t) ≤ wT t * (M + 1) + M
  | .node k n s xs => by
    have hm : wS (xs.map (mapT F (fun s => s))) ≤ wS xs * (M + 1) + xs.length * M := wS_map _ M xs fun x _ => wT_map F M hF x
    have hn : wT (.node k n s (xs.map (mapT F (fun s => s)))) ≤ wT (.node k n s xs) * (M + 1) + M := by
      rw [wT_node, wT_node, List.length_map]
      simp only [Nat.add_mul, Nat.mul_add, Nat.mul_one] at *
      omega
    rw [mapT_node]
    split
    · split
      · rename_i u hu
        have := hF _ _ hu
        omega
      · exact hn
    · exact hn
theorem findB_mem7 {bs : List (ByteArray × T)} {s : ByteArray} {t : T} (h : findB bs s = some t) : ∃ x ∈ bs, x.2 = t := by
  unfold findB at h
  obtain ⟨x, hx, rfl⟩ := Option.map_eq_some_iff.1 h
  exact ⟨x, List.mem_of_find?_eq_some hx, rfl⟩
theorem small_find {bs : List (ByteArray × T)} (h : Small7 bs) : ∀ s u, findB bs s = some u → wT u ≤ 13 := fun s u hf => by
  obtain ⟨x, hx, rfl⟩ := findB_mem7 hf
  exact (h.2 x hx).2
end Go.Proofs.YtidbokheeieifaaGreatDoor
namespace Go.Proofs.YtidbokheeieifaaGreatDoor
open Go.RowKit

def TrueAt (w : World) (e : Ending) (w' : World) : Prop := e = .returned (.bool true) ∧ Below w.heap.size w w'

set_option maxRecDepth 100000 in
set_option maxHeartbeats 400000 in
theorem big_any (a : Option Addr) (len cap : Nat) (w : World) :
    Calls Tryz.prog 5 #[.slice a len cap] w fun e w' => e = .returned (.bool (decide (1048576 < len))) ∧ w = w' := by
  go_enter Tryz.func5, Tryz.ntmps5
  go_wp2
  go_ret
  refine ⟨?_, rfl⟩
  rw [show decide (1048576 < len) = decide ((1048576 : Int) < (len : Int)) from decide_eq_decide.2 (by omega)]
  rfl
end Go.Proofs.YtidbokheeieifaaGreatDoor
