/-
  laws.eqTerm and laws.eqTermS answer true at two terms that are one tree.
  What the contracts of functions that return a term share. No walk.
  slices.Clone over terms: the same cells in a row of the call's own; impl.ownArgs puts such a row in the place of a term's arguments.
  What the growth of a slice of the call's own leaves as it was. No walk.
  Small facts on one byte as a string and on strings put together. No walk.
  Plain facts on decimal numerals: digits of a positive number, the numeral of an integer. No program.
  laws.markText: 'm' and the decimal numeral.
  laws.markTermS and laws.markTerm write over the rows of a term that are a call's own; nothing else turns.
  laws.markTermS and laws.markTerm write numbered marks over the rows of a term that are a call's own, and nothing else turns; laws.heldTermS and laws.heldTerm find the marks there.
-/
import Derived.Test.YtidbokheeieifaaGreatDoorQ5
import Derived.Test.YtidbokheeieifaaGreatDoorQ10
import Derived.Test.YtidbokheeieifaaGreatDoorRows
import Derived.Test.YtidbokheeieifaaGreatDoorQ8
import Derived.WalkLawsBesides
import Derived.BigQuiet
import Derived.Deep.QuietTactic
import Derived.Deep.RegionHeld3
import Derived.Laws.AppendOwn
import Derived.WalkKit
import Derived.WalkSpells
import Derived.Laws.IdiomStrings
import Derived.Lib.Hide
import Derived.Lib.ItoaNum
import Derived.Lib.ItoaMem
import Derived.Lib.ItoaLen
namespace Go.Proofs.YtidbokheeieifaaGreatDoor
open Go.RowKit

/-- The eight cells of two structs, and that what was there is there. -/
def Cells8 (wr : World) (b o b' o' : Nat) (k n : Int) (s : ByteArray) (u u' : Value) (w' : World) : Prop :=
  w'.cell? ⟨b, o, none⟩ = some (.int .i64 k) ∧ w'.cell? ⟨b, o + 1, none⟩ = some (.int .i64 n) ∧ w'.cell? ⟨b, o + 2, none⟩ = some (.string s) ∧ w'.cell? ⟨b, o + 3, none⟩ = some u ∧
  w'.cell? ⟨b', o', none⟩ = some (.int .i64 k) ∧ w'.cell? ⟨b', o' + 1, none⟩ = some (.int .i64 n) ∧ w'.cell? ⟨b', o' + 2, none⟩ = some (.string s) ∧ w'.cell? ⟨b', o' + 3, none⟩ = some u' ∧ Below wr.heap.size wr w'

theorem Cells8.on {wr w' : World} {b o b' o' : Nat} {k n : Int} {s : ByteArray} {u u' : Value} (h : Cells8 wr b o b' o' k n s u u' wr) (hb : Below wr.heap.size wr w') : Cells8 wr b o b' o' k n s u u' w' := by
  obtain ⟨c0, c1, c2, c3, d0, d1, d2, d3, _⟩ := h
  have keep : ∀ {ad : Addr} {v : Value}, wr.cell? ad = some v → w'.cell? ad = some v := fun {ad} {v} hv => by rw [hb.cell (World.block_lt_of_cell? wr _ hv)]; exact hv
  exact ⟨keep c0, keep c1, keep c2, keep c3, keep d0, keep d1, keep d2, keep d3, hb⟩

def TrueB (w : World) (e : Ending) (w' : World) : Prop := e = .returned (.bool true) ∧ Below w.heap.size w w'

def EqSAt (lo lo' h : Nat) : Prop := ∀ (u u' : Value) (ts : List T) (w : World), ArgsAt w lo h u ts → ArgsAt w lo' h u' ts →
  Calls Tryz.prog 59 #[u, u'] w (TrueB w)

set_option maxRecDepth 100000 in
set_option maxHeartbeats 800000 in
theorem eqT_of {lo lo' h : Nat} (hS : EqSAt lo lo' h) (k n : Int) (s : ByteArray) (u u' : Value) (xs : List T) (w : World) (ha : ArgsAt w lo h u xs) (ha' : ArgsAt w lo' h u' xs) :
    Calls Tryz.prog 36 #[tv k n s u, tv k n s u'] w (TrueB w) := by
  have hb0 : Below w.heap.size w ((w.alloc (.cells #[.int .i64 k, .int .i64 n, .string s, u] 26)).alloc (.cells #[.int .i64 k, .int .i64 n, .string s, u'] 26)) := ((Below.refl _ _).alloc (Nat.le_refl _) _).alloc (by simp) _
  have hc := hS u u' xs _ (ha.below hb0) (ha'.below hb0)
  have HC := Lib.hid hc; clear hc ha ha'
  have HB0 := Lib.hid hb0; clear hb0
  have e1 : (k != k) = false := by simp
  have e2 : (n != n) = false := by simp
  have e3 : (s.toList == s.toList) = true := by simp
  go_enter Tryz.func36, Tryz.ntmps36
  go_wp2_with fail
  refine HC.out.mono ?_
  rintro e w1 ⟨rfl, hb1⟩
  have HB1 := Lib.hid (HB0.out.trans (hb1.mono HB0.out.size)); clear hb1
  go_wp2
  go_ret
  exact ⟨rfl, HB1.out⟩

set_option maxRecDepth 100000 in
set_option maxHeartbeats 400000 in
theorem eqS_empty (a b : Option Addr) (c d : Nat) (w : World) :
    Calls Tryz.prog 59 #[.slice a 0 c, .slice b 0 d] w (TrueB w) := by
  go_enter Tryz.func59, Tryz.ntmps59
  go_wp2
  refine wp_loop_rounds 1 ?_
  rw [rounds_succ]
  go_wp2
  go_ret
  exact ⟨rfl, Below.refl _ _⟩

set_option maxRecDepth 100000 in
set_option maxHeartbeats 1600000 in
theorem eqS_some {lo lo' h : Nat} (hS : EqSAt lo lo' h) (b o cap b' o' cap' : Nat) (ts : List T) (w : World) (hl : ts.length ≤ maxLen) (hc : RowAt w lo h b o ts) (hc' : RowAt w lo' h b' o' ts) :
    Calls Tryz.prog 59 #[.slice (some ⟨b, o, none⟩) ts.length cap, .slice (some ⟨b', o', none⟩) ts.length cap'] w (TrueB w) := by
  have HC := Lib.hid hc; clear hc
  have HC' := Lib.hid hc'; clear hc'
  have HSS := Lib.hid hS; clear hS
  obtain ⟨n, hn⟩ : ∃ n, n = ts.length := ⟨_, rfl⟩
  have hl2 : ts.length ≤ 9223372036854775807 := by unfold maxLen at hl; omega
  clear hl
  rw [← hn] at hl2 ⊢
  have HN := Lib.hid hn; clear hn
  go_enter Tryz.func59, Tryz.ntmps59
  go_wp2
  go_loopw [5] (fun i wr => ∃ k : Nat, k ≤ n ∧ i = .int .i64 k ∧ Hid (Below w.heap.size w wr)) (fun i _ => n - (intOf i).toNat)
  case atStart => exact ⟨0, Nat.zero_le _, rfl, Lib.hid (Below.refl _ _)⟩
  case round =>
    obtain ⟨k, hk, rfl, HB⟩ := hrel
    by_cases hlt : k < n
    · obtain ⟨t, ht⟩ : ∃ t, ts[k]? = some t := ⟨_, List.getElem?_eq_getElem (by have := HN.out; omega)⟩
      obtain ⟨tk', tn, tsn, txs⟩ := t
      obtain ⟨_, u1, c0, c1, c2, c3, har⟩ := HC.out k _ _ _ _ ht
      obtain ⟨_, u2, d0, d1, d2, d3, har'⟩ := HC'.out k _ _ _ _ ht
      have keep : ∀ {ad : Addr} {v : Value}, w.cell? ad = some v → wr.cell? ad = some v := fun {ad} {v} hv => by rw [HB.out.cell (World.block_lt_of_cell? w _ hv)]; exact hv
      have h8 : Cells8 wr b (o + k * 4) b' (o' + k * 4) tk' tn tsn u1 u2 wr := ⟨keep c0, keep c1, keep c2, keep c3, keep d0, keep d1, keep d2, keep d3, Below.refl _ _⟩
      have HAR := Lib.hid (har.below HB.out); clear har
      have HAR' := Lib.hid (har'.below HB.out); clear har'
      clear c0 c1 c2 c3 d0 d1 d2 d3 keep ht
      have HK : Hid (∀ w', Below wr.heap.size wr w' → Cells8 wr b (o + k * 4) b' (o' + k * 4) tk' tn tsn u1 u2 w') := Lib.hid (fun w' hb => h8.on hb)
      have HCALL : Hid (∀ w', Below wr.heap.size wr w' → Calls Tryz.prog 36 #[tv tk' tn tsn u1, tv tk' tn tsn u2] w' (TrueB w')) := Lib.hid (fun w' hb => eqT_of HSS.out tk' tn tsn u1 u2 txs w' (HAR.out.below hb) (HAR'.out.below hb))
      obtain ⟨c0, c1, c2, c3, d0, d1, d2, d3, hb0⟩ := h8
      go_wp2
      go_region_held3 (fun w' => w'.cell? ⟨b, o + k * 4, none⟩ = some (.int .i64 tk') ∧ w'.cell? ⟨b, o + k * 4 + 1, none⟩ = some (.int .i64 tn) ∧ w'.cell? ⟨b, o + k * 4 + 2, none⟩ = some (.string tsn) ∧ w'.cell? ⟨b, o + k * 4 + 3, none⟩ = some u1 ∧
          w'.cell? ⟨b', o' + k * 4, none⟩ = some (.int .i64 tk') ∧ w'.cell? ⟨b', o' + k * 4 + 1, none⟩ = some (.int .i64 tn) ∧ w'.cell? ⟨b', o' + k * 4 + 2, none⟩ = some (.string tsn) ∧ w'.cell? ⟨b', o' + k * 4 + 3, none⟩ = some u2 ∧ Below wr.heap.size wr w')
        (first | exact HK.out _ (by assumption) | exact HK.out _ (bel_drew (by assumption)) | exact HK.out _ (Below.drew (by assumption)) | exact HK.out _ (Below.trans (by assumption) (Below.mono (by assumption) (Below.size (by assumption)))) | go_keep)
        (first | (go_at_call 36; refine (HCALL.out _ (by first | assumption | exact Below.drew (by assumption))).mono ?_; rintro e w1 ⟨rfl, hb1⟩))
      have HB2 := Lib.hid (HB.out.trans ((bel_drew hb1).mono HB.out.size)); clear hb1
      go_wp2
      go_roundw
      case rel => exact ⟨k + 1, by omega, by go_num, HB2⟩
      case measure => simp [intOf]; omega
    · go_wp2
      go_ret
      exact ⟨rfl, HB.out⟩

theorem eqS_any (lo lo' : Nat) : ∀ h, EqSAt lo lo' h
  | 0 => fun u u' ts w ha ha' => by
    obtain ⟨rfl, a, cap, rfl⟩ := ha
    obtain ⟨_, a', cap', rfl⟩ := ha'
    exact eqS_empty a a' cap cap' w
  | h + 1 => fun u u' ts w ha ha' => by
    rcases ha.cases with ⟨rfl, a, cap, rfl⟩ | ⟨h1, b, o, cap, e, rfl, hl, _, hc⟩
    · obtain ⟨a', cap', rfl⟩ := ha'.slice
      exact eqS_empty a a' cap cap' w
    · obtain rfl : h = h1 := by omega
      rcases ha'.cases with ⟨rfl, a', cap', rfl⟩ | ⟨h2, b', o', cap', e2, rfl, _, _, hc'⟩
      · exact eqS_empty _ a' cap cap' w
      · obtain rfl : h = h2 := by omega
        exact eqS_some (eqS_any lo lo' h) b o cap b' o' cap' ts w hl hc hc'

/-- laws.eqTerm, at two readings of one tree. -/
theorem eqT_any (v v' : Value) (t : T) (lo lo' h : Nat) (w : World) (ht : TermAt w lo h v t) (ht' : TermAt w lo' h v' t) :
    Calls Tryz.prog 36 #[v, v'] w (TrueB w) := by
  obtain ⟨k, n, s, u, xs, rfl, rfl, hs, ha⟩ := ht
  obtain ⟨k', n', s', u', xs', rfl, e, hs', ha'⟩ := ht'
  cases e
  exact eqT_of (eqS_any lo lo' h) k n s u u' xs w ha ha'
end Go.Proofs.YtidbokheeieifaaGreatDoor
namespace Go.Proofs.YtidbokheeieifaaGreatDoor
open Go.RowKit

theorem keep_at {w w' : World} {B n size : Nat} {e : TypeId} {v : Value} {xs : List Value} (h : w.ownsRow B e size v n xs) (hk : ∀ k, v.ownBlock = some k → w'.heap[k]? = w.heap[k]?) : w'.ownsRow B e size v n xs := by
  refine ⟨h.1, ?_⟩
  rcases h.2 with hn | ⟨g, cap, cur, rfl, hg, hc, rest⟩
  · exact Or.inl hn
  · exact Or.inr ⟨g, cap, cur, rfl, hg, by rw [hk g rfl]; exact hc, rest⟩
theorem Out.own {w w' : World} {lo hi B n size : Nat} {e : TypeId} {v : Value} {xs : List Value} (h : Out lo hi w w') (ho : w.ownsRow B e size v n xs) (hk : ∀ k, v.ownBlock = some k → k < lo ∨ hi ≤ k) : w'.ownsRow B e size v n xs :=
  keep_at ho fun k hv => h.2.2.2.2 k (ho.lt k hv).2 (hk k hv)
theorem Out.under {w w' : World} {lo hi B : Nat} (h : Out lo hi w w') (hB : B ≤ lo) (hB2 : B ≤ w.heap.size) : Below B w w' :=
  ⟨h.1, h.2.1, h.2.2.1, h.2.2.2.1, fun k hk => h.2.2.2.2 k (by omega) (Or.inl (by omega))⟩
theorem TermAt.le {w : World} {lo h h' : Nat} {v : Value} {t : T} (k : TermAt w lo h v t) (hle : h ≤ h') : TermAt w lo h' v t := by
  obtain ⟨k, n, s, u, xs, e1, e2, hs, ha⟩ := k
  exact ⟨k, n, s, u, xs, e1, e2, hs, ha.le hle⟩
/-- An answer that is a term, in rows of the call's own, and a word. -/
def ResO (ok : Bool) (r : T) (w : World) (e : Ending) (w' : World) : Prop :=
  ∃ k n s a m c h xs, e = .returned (.tuple #[tv k n s (.slice a m c), .bool ok]) ∧ r = .node k n s xs ∧ s.size ≤ maxLen ∧ OwnR (fun _ => True) w' h w.heap.size w'.heap.size (.slice a m c) xs ∧ Below w.heap.size w w'
/-- The same, read alone. -/
def ResT (ok : Bool) (r : T) (w : World) (e : Ending) (w' : World) : Prop :=
  ∃ k n s a m c h, e = .returned (.tuple #[tv k n s (.slice a m c), .bool ok]) ∧ TermAt w' w.heap.size h (tv k n s (.slice a m c)) r ∧ Below w.heap.size w w'

/-- The blocks from lo to hi are as they were. -/
def Same (lo hi : Nat) (w w' : World) : Prop := ∀ b, lo ≤ b → b < hi → w'.heap[b]? = w.heap[b]?
theorem Same.below {lo hi : Nat} {w w1 w2 : World} (h : Same lo hi w w1) (hb : Below w1.heap.size w1 w2) (hh : hi ≤ w1.heap.size) : Same lo hi w w2 := fun b h1 h2 => (hb.block b (by omega)).trans (h b h1 h2)
theorem Same.of_below {lo hi : Nat} {w w1 : World} (hb : Below w.heap.size w w1) (hh : hi ≤ w.heap.size) : Same lo hi w w1 := fun b _ h2 => hb.block b (by omega)
theorem Same.out {lo hi l2 h2 : Nat} {w w1 w2 : World} (h : Same lo hi w w1) (ho : Out l2 h2 w1 w2) (hh : hi ≤ w1.heap.size) (hd : hi ≤ l2 ∨ h2 ≤ lo) : Same lo hi w w2 := fun b b1 b2 => (ho.2.2.2.2 b (by omega) (by omega)).trans (h b b1 b2)
theorem Same.grown {lo hi : Nat} {w w1 w2 : World} {row : Option Nat} (h : Same lo hi w w1) (hg : w1.grownBy w2 row) (hh : hi ≤ w1.heap.size) (hd : ∀ k, row = some k → k < lo ∨ hi ≤ k) : Same lo hi w w2 := fun b b1 b2 =>
  (hg.block b (by omega) (fun e => by have := hd b e.symm; omega)).trans (h b b1 b2)
/-- A term's box and rows in blocks that are as they were. -/
theorem same_term {w w' : World} {lo hi b h : Nat} {k n : Int} {s : ByteArray} {u : Value} {xs : List T} (hs : Same lo (b + 1) w w') (ho : OwnR (fun _ => True) w h lo hi u xs) (hhi : hi ≤ b + 1) (hr : w.heap[b]? = some (trow k n s u)) (hlo : lo ≤ b) (hsz : s.size ≤ maxLen) :
    w'.heap[b]? = some (trow k n s u) ∧ OwnR (fun _ => True) w' h lo hi u xs ∧ TermAt w' lo h (tv k n s u) (.node k n s xs) := by
  have ho' : OwnR (fun _ => True) w' h lo hi u xs := ho.keep fun c _ c1 c2 => ⟨hs c c1 (by omega), trivial⟩
  exact ⟨(hs b hlo (by omega)).trans hr, ho', ⟨k, n, s, u, xs, rfl, rfl, hsz, ho'.args (Nat.le_refl _)⟩⟩
/-- laws.eqTerm, whatever the heights of the readings. -/
theorem eqT_two (v v' : Value) (t : T) (lo lo' h h' : Nat) (w : World) (ht : TermAt w lo h v t) (ht' : TermAt w lo' h' v' t) : Calls Tryz.prog 36 #[v, v'] w (TrueB w) :=
  eqT_any v v' t lo lo' (max h h') w (ht.le (Nat.le_max_left _ _)) (ht'.le (Nat.le_max_right _ _))
end Go.Proofs.YtidbokheeieifaaGreatDoor
namespace Go.Proofs.YtidbokheeieifaaGreatDoor
open Go.RowKit

theorem infoTermK : (Tryz.prog.info? 26).map (fun i => (i.zero, i.size, i.bytes)) = some (some (.agg #[.int .i64 0, .int .i64 0, .string ByteArray.empty, .slice none 0 0]), 4, 56) := by kernel_rfl
theorem own_formK {w : World} {B n size : Nat} {e : TypeId} {v : Value} {xs : List Value} (h : w.ownsRow B e size v n xs) : ∃ a c, v = .slice a n c := by
  rcases h.2 with ⟨rfl, h0⟩ | ⟨g, cap, cur, rfl, _⟩
  · exact ⟨none, 0, by rw [h0]⟩
  · exact ⟨_, _, rfl⟩

/-- The value's cells are those of vs, and the row is the call's own. -/
def CloneB (m : Nat) (vs : List Value) (w : World) (e : Ending) (w' : World) : Prop :=
  ∃ u, e = .returned u ∧ w'.ownsRow w.heap.size 26 4 u m vs ∧ Below w.heap.size w w'

set_option maxRecDepth 100000 in
set_option maxHeartbeats 800000 in
theorem clone_anyK (a : Option Addr) (m cap : Nat) (vs : List Value) (w : World) (hl : vs.length = m * 4) (hm : m ≤ 4294967296) (h0 : a = none → m = 0) (hc : ∀ ad, a = some ad → ∀ j u, vs[j]? = some u → w.cell? (ad.add j) = some u) (h1 : ∀ u ∈ vs, u.oneCell' = true) :
    Calls Tryz.prog 109 #[.slice a m cap] w (CloneB m vs w) := by
  have q22 : ∀ (w : World) (a : Option Addr) (n c n' c' : Nat), (binOp .eql 24 (.slice a n c) (.slice none n' c')).run Tryz.prog w = .ok (.bool a.isNone) w := fun w a n c n' c' => Lib.run_eql_slice_nil w _ _ a n c n' c' Tryz.underlying24
  cases a with
  | none =>
    have e0 := h0 rfl
    subst e0
    have ev : vs = [] := List.eq_nil_of_length_eq_zero (by omega)
    subst ev
    clear hc h1
    go_enter Tryz.func109, Tryz.ntmps109
    go_wp2
    go_ret
    exact ⟨_, rfl, ⟨rfl, Or.inl ⟨rfl, rfl⟩⟩, Below.refl _ _⟩
  | some ad =>
    obtain ⟨i0, hi, hz0, hz1, hz2⟩ := info_parts infoTermK
    have HI := Lib.hid hi; clear hi
    have HZ0 := Lib.hid hz0; clear hz0
    have HZ1 := Lib.hid hz1; clear hz1
    have HZ2 := Lib.hid hz2; clear hz2
    have HC := Lib.hid (hc ad rfl); clear hc
    have H1 := Lib.hid h1; clear h1
    clear h0
    go_enter Tryz.func109, Tryz.ntmps109
    go_wp2_with (first | (at_builtin; refine wpList_append_own _ rfl (.tmp 5) (.tmp 6) 24 rfl w.heap.size 26 i0 (.agg #[.int .i64 0, .int .i64 0, .string ByteArray.empty, .slice none 0 0]) 4 56 Tryz.underlying24 HI.out HZ0.out HZ1.out HZ2.out rfl (by decide) _ _ _ rfl (World.ownsRow_lit w #[] 0 (Nat.le_refl _) (by decide) rfl) ad m cap vs rfl hl ?c1 H1.out ?c3 ?c4 ?c5 ?_))
    case c1 => intro j u hj; exact Lib.cell?_alloc_some _ (HC.out j u hj)
    case c3 => unfold maxLen; omega
    case c4 => omega
    case c5 => simp
    intro v' w1 hown hgrow _
    have hb : Below w.heap.size w w1 := ((Below.refl _ _).alloc (Nat.le_refl _) _).grown hgrow (by simp) (fun k hk => by simp [Value.ownBlock] at hk; omega)
    have HO := Lib.hid hown; clear hown hgrow
    have HB := Lib.hid hb; clear hb
    go_wp2
    go_ret
    exact ⟨_, rfl, HO.out, HB.out⟩

/-- impl.ownArgs: the fourth cell holds such a row. -/
def OwnB (b o m : Nat) (vs : List Value) (w : World) (e : Ending) (w' : World) : Prop :=
  e = .returned (.tuple #[]) ∧ ∃ u wc, w' = wc.setCell ⟨b, o + 3, none⟩ u ∧ wc.ownsRow w.heap.size 26 4 u m vs ∧ Below w.heap.size w wc

set_option maxRecDepth 100000 in
set_option maxHeartbeats 800000 in
theorem ownArgs_anyK (b o : Nat) (a : Option Addr) (m cap : Nat) (vs : List Value) (w : World) (hl : vs.length = m * 4) (hm : m ≤ 4294967296) (h0 : a = none → m = 0) (hc : ∀ ad, a = some ad → ∀ j u, vs[j]? = some u → w.cell? (ad.add j) = some u) (h1 : ∀ u ∈ vs, u.oneCell' = true)
    (hcell : w.cell? ⟨b, o + 3, none⟩ = some (.slice a m cap)) (hfrz : w.frozen? ⟨b, o + 3, none⟩ = false) :
    Calls Tryz.prog 86 #[.pointer (some ⟨b, o, none⟩)] w (OwnB b o m vs w) := by
  have HCL := Lib.hid (clone_anyK a m cap vs w hl hm h0 hc h1)
  clear hc h1 h0
  have HCE := Lib.hid (And.intro hcell hfrz)
  go_enter Tryz.func86, Tryz.ntmps86
  go_wp2_with fail
  refine HCL.out.mono ?_
  rintro e w1 ⟨u, rfl, ho, hb⟩
  have hlt := World.block_lt_of_cell? w _ HCE.out.1
  have hcell1 : w1.cell? ⟨b, o + 3, none⟩ = some (.slice a m cap) := by rw [hb.cell hlt]; exact HCE.out.1
  have hfrz1 : w1.frozen? ⟨b, o + 3, none⟩ = false := (hb.frozen hlt).trans HCE.out.2
  rcases own_formK ho with ⟨a1, c1, rfl⟩
  have HO := Lib.hid ho; clear ho
  have HB := Lib.hid hb; clear hb hcell hfrz
  go_wp2
  go_end0
  exact ⟨rfl, _, w1, rfl, HO.out, HB.out⟩
theorem ownArgs_any (b o : Nat) (a : Option Addr) (m cap : Nat) (vs : List Value) (w : World) (hl : vs.length = m * 4) (hm : m ≤ 4194304) (h0 : a = none → m = 0) (hc : ∀ ad, a = some ad → ∀ j u, vs[j]? = some u → w.cell? (ad.add j) = some u) (h1 : ∀ u ∈ vs, u.oneCell' = true)
    (hcell : w.cell? ⟨b, o + 3, none⟩ = some (.slice a m cap)) (hfrz : w.frozen? ⟨b, o + 3, none⟩ = false) :
    Calls Tryz.prog 86 #[.pointer (some ⟨b, o, none⟩)] w (OwnB b o m vs w) := ownArgs_anyK b o a m cap vs w hl (by omega) h0 hc h1 hcell hfrz
end Go.Proofs.YtidbokheeieifaaGreatDoor
namespace Go.Proofs.YtidbokheeieifaaGreatDoor
open Go.RowKit

/-- What slice v's growth leaves. -/
def Grew (v : Value) (w1 : World) (v' : Value) (w' : World) : Prop := w1.heap.size ≤ w'.heap.size ∧ (∀ b, b < w1.heap.size → NotOwn v b → w'.heap[b]? = w1.heap[b]?) ∧ (v'.ownBlock = v.ownBlock ∨ ∃ k, v'.ownBlock = some k ∧ w1.heap.size ≤ k)
theorem Grew.refl (v v' : Value) (w : World) (h : v'.ownBlock = v.ownBlock) : Grew v w v' w := ⟨Nat.le_refl _, fun _ _ _ => rfl, Or.inl h⟩
theorem Grew.trans {v v' v2 : Value} {w1 w' w2 : World} (h : Grew v w1 v' w') (k : Grew v' w' v2 w2) : Grew v w1 v2 w2 :=
  ⟨Nat.le_trans h.1 k.1, fun b hb hv => (k.2.1 b (Nat.lt_of_lt_of_le hb h.1) (notOwn_old h.2.2 hb hv)).trans (h.2.1 b hb hv), ob_trans h.1 h.2.2 k.2.2⟩

theorem grew_app {vi : Value} {wr w3 : World} {o : Obj} {g3 n cap : Nat} (hgr : (wr.alloc o).grownBy w3 vi.ownBlock) (hat : vi.ownBlock = some g3 ∨ g3 = (wr.alloc o).heap.size) : Grew vi wr (.slice (some ⟨g3, 0, none⟩) n cap) w3 := by
  have hz : (wr.alloc o).heap.size = wr.heap.size + 1 := by simp
  have hs := hgr.size
  rw [hz] at hs hat
  refine ⟨by omega, fun b hb hv => (hgr.block b (by omega) hv).trans (Below.heap_alloc _ _ _ hb), ?_⟩
  rcases hat with h | h
  · exact Or.inl h.symm
  · exact Or.inr ⟨g3, rfl, by omega⟩
theorem Grew.alloc {v v' : Value} {w w' : World} (h : Grew v w v' w') (o : Obj) : Grew v w v' (w'.alloc o) :=
  ⟨by have := h.1; simp; omega, fun b hb hv => (Below.heap_alloc _ _ _ (Nat.lt_of_lt_of_le hb h.1)).trans (h.2.1 b hb hv), h.2.2⟩
theorem Grew.below {v v' : Value} {w w' w2 : World} (h : Grew v w v' w') (hb : Below w'.heap.size w' w2) : Grew v w v' w2 :=
  ⟨Nat.le_trans h.1 hb.size, fun b hl hv => (hb.block b (Nat.lt_of_lt_of_le hl h.1)).trans (h.2.1 b hl hv), h.2.2⟩
theorem Grew.drew {v v' : Value} {w w' : World} (h : Grew v w v' w') : Grew v w v' w'.drew := h
end Go.Proofs.YtidbokheeieifaaGreatDoor
namespace Go.Proofs.YtidbokheeieifaaGreatDoor
open Go.RowKit

theorem ret_str {a b : List UInt8} (h : a = b) : Ending.returned (.string ⟨a.toArray⟩) = .returned (.string ⟨b.toArray⟩) := by rw [h]

/-- 'string([]byte{c})'. -/
theorem conv_one (W : World) (k : Nat) (c : Int) (hk : k < 256) (hc : c = (k : Int)) :
    (convert 22 9 (.slice (some ⟨W.heap.size, 0, none⟩) 1 1)).run Tryz.prog (W.alloc (.cells #[.int .u8 c] 5)) = .ok (.string ⟨#[UInt8.ofNat k]⟩) (W.alloc (.cells #[.int .u8 c] 5)) := by
  have h := run_convert_bytes_back (P := Tryz.prog) (W.alloc (.cells #[.int .u8 c] 5)) 22 9 5 ⟨W.heap.size, 0, none⟩ 1 [UInt8.ofNat k] Tryz.underlying22 Tryz.underlying5 Tryz.underlying9 (fun j hj => by
    have hj0 : j = 0 := by simpa using hj
    subst hj0
    have := World.cell?_alloc_mark W #[.int .u8 c] 5 (0, 0) 0
    show (W.alloc (.cells #[.int .u8 c] 5)).cell? ⟨W.heap.size, 0, none⟩ = _
    rw [this, hc]
    simp
    omega)
  exact h

theorem cons_str (x : UInt8) (out : List UInt8) : (⟨#[x]⟩ : ByteArray) ++ ⟨out.toArray⟩ = ⟨(x :: out).toArray⟩ := by
  apply ByteArray.ext
  simp [ByteArray.data_append]
theorem digit_val (k : Nat) : (48 : UInt8) + UInt8.ofNat k = UInt8.ofNat (48 + k) := by
  rw [UInt8.ofNat_add]; rfl
end Go.Proofs.YtidbokheeieifaaGreatDoor
namespace Go.Proofs.YtidbokheeieifaaGreatDoor
open Go

/-- The digits of u, none for 0. -/
def decPos (u : Nat) : List UInt8 :=
  if _h : u = 0 then [] else decPos (u / 10) ++ [UInt8.ofNat (48 + u % 10)]
termination_by u
decreasing_by omega

theorem decPos_zero : decPos 0 = [] := by rw [decPos, dif_pos rfl]
theorem decPos_pos {u : Nat} (h : u ≠ 0) : decPos u = decPos (u / 10) ++ [UInt8.ofNat (48 + u % 10)] := by
  rw [decPos, dif_neg h]
theorem decPos_eq (u : Nat) (h : u ≠ 0) : decPos u = Lib.decDigits u := by
  induction u using Nat.strongRecOn with
  | _ u ih =>
    rw [decPos_pos h]
    by_cases hs : u < 10
    · rw [Lib.decDigits_one hs, show u / 10 = 0 by omega, decPos_zero, show u % 10 = u by omega]; rfl
    · rw [Lib.decDigits, dif_neg hs, ih (u / 10) (by omega) (by omega)]

/-- One round: the last digit of the rest goes ahead of what has been written. -/
theorem decPos_step {u : Nat} (h : u ≠ 0) (out : List UInt8) : decPos (u / 10) ++ (UInt8.ofNat (48 + u % 10) :: out) = decPos u ++ out := by
  rw [decPos_pos h, List.append_assoc]; rfl

theorem decPos_length_le (u : Nat) (h : u < 10 ^ 20) : (decPos u).length ≤ 20 := by
  by_cases h0 : u = 0
  · rw [h0, decPos_zero]; simp
  · rw [decPos_eq u h0, Lib.decDigits_length]
    have h1 := Lib.nDigits_pos u
    rcases Nat.lt_or_ge 20 (Lib.nDigits u) with hlt | hge
    · exfalso
      obtain ⟨k, hk⟩ : ∃ k, Lib.nDigits u = k + 1 := ⟨Lib.nDigits u - 1, by omega⟩
      have hle : ∀ (k u : Nat), Lib.nDigits u = k + 1 → 1 ≤ k → 10 ^ k ≤ u := by
        intro k
        induction k with
        | zero => intro u _ h; omega
        | succ k ih =>
          intro u hu _
          have hb : ¬ u < 10 := by
            intro hlt; rw [Lib.nDigits_small hlt] at hu; omega
          rw [Lib.nDigits_big hb] at hu
          by_cases hk0 : k = 0
          · subst hk0; omega
          · have := ih (u / 10) (by omega) (by omega)
            rw [Nat.pow_succ]; omega
      have h2 := hle k u hk (by omega)
      have h3 : 10 ^ 20 ≤ 10 ^ k := Nat.pow_le_pow_right (by omega) (by omega)
      omega
    · omega

theorem itoa_pos {n : Int} (h : 0 < n) : Lib.itoa n = decPos n.toNat := by
  unfold Lib.itoa; rw [if_neg (by omega), decPos_eq _ (by omega)]
theorem itoa_neg' {n : Int} (h : n < 0) : Lib.itoa n = 45 :: decPos n.natAbs := by
  unfold Lib.itoa; rw [if_pos h, decPos_eq _ (by omega)]
theorem itoa_zero : Lib.itoa 0 = [48] := by
  unfold Lib.itoa; rw [if_neg (by omega)]; exact Lib.decDigits_one (by decide)
end Go.Proofs.YtidbokheeieifaaGreatDoor
namespace Go.Proofs.YtidbokheeieifaaGreatDoor
open Go.RowKit

/-- The k-th mark. -/
def mark (k : Nat) : ByteArray := ⟨((109 : UInt8) :: decPos k).toArray⟩
def MarkEnd (k : Nat) (w : World) (e : Ending) (w' : World) : Prop := e = .returned (.string (mark k)) ∧ Below w.heap.size w w'

set_option maxRecDepth 100000 in
set_option maxHeartbeats 400000 in
theorem markText_any (n : Nat) (w : World) (h0 : 1 ≤ n) (h1 : (n : Int) ≤ 9223372036854775807) :
    Calls Tryz.prog 90 #[.int .i64 n] w (MarkEnd n w) := by
  have hz : decide ((n : Int) ≤ 0) = false := by simp; omega
  go_enter Tryz.func90, Tryz.ntmps90
  go_wp2
  go_loopw [0, 3] (fun a o wr => ∃ (m : Nat) (out : List UInt8), (m : Int) ≤ 9223372036854775807 ∧ a = .int .i64 m ∧ o = .string ⟨out.toArray⟩ ∧ decPos m ++ out = decPos n ∧ Below w.heap.size w wr) (fun a _ _ => (intOf a).toNat)
  case atStart => exact ⟨n, [], by omega, rfl, rfl, by simp, Below.refl _ _⟩
  case round =>
    obtain ⟨m, out, hm, rfl, rfl, hd, hb⟩ := hrel
    have HD := Lib.hid hd; clear hd
    have hlen : out.length ≤ 20 := by
      have e := congrArg List.length HD.out
      have l := decPos_length_le n (by omega)
      rw [List.length_append] at e
      omega
    by_cases hm0 : m = 0
    · subst hm0
      go_wp2
      go_ret
      refine ⟨?_, hb⟩
      show Ending.returned (.string (⟨#[109]⟩ ++ ⟨out.toArray⟩)) = _
      rw [cons_str]
      have := HD.out
      rw [decPos_zero, List.nil_append] at this
      rw [this]; rfl
    · have hmp : 1 ≤ m := by omega
      have hp : (0 : Int) ≤ (m : Int) % 10 := by omega
      have hp2 : (m : Int) % 10 ≤ 9 := by omega
      have hcv := conv_one wr (48 + m % 10) (48 + (m : Int) % 10) (by omega) (by omega)
      have hstep := decPos_step (u := m) hm0 out
      clear hm0
      have HS := Lib.hid hstep; clear hstep
      go_wp2
      go_roundw
      case rel =>
        refine ⟨m / 10, UInt8.ofNat (48 + m % 10) :: out, by omega, by go_num, ?_, by rw [HS.out, HD.out], hb.alloc (by have := hb.size; omega) _⟩
        rw [digit_val, cons_str]
      case measure => simp [intOf]; omega

theorem markText_int (x : Int) (n : Nat) (w : World) (hx : x = (n : Int)) (h0 : 1 ≤ n) (h1 : (n : Int) ≤ 9223372036854775807) :
    Calls Tryz.prog 90 #[.int .i64 x] w (MarkEnd n w) := by
  subst hx; exact markText_any n w h0 h1

theorem held_call {wr w1 : World} {a : Addr} {v : Value} (hb1 : Below wr.drew.heap.size wr.drew w1) (hg : a.block < wr.heap.size) (h : wr.cell? a = some v) : w1.cell? a = some v ∧ Below wr.heap.size wr w1 := by
  have hb : Below wr.heap.size wr wr.drew := (Below.refl _ _).drew
  exact ⟨by rw [(hb.trans hb1).cell hg]; exact h, hb.trans hb1⟩
theorem held_draw {wr : World} {a : Addr} {v : Value} (h : wr.cell? a = some v) : wr.drew.cell? a = some v ∧ Below wr.heap.size wr wr.drew :=
  ⟨h, (Below.refl _ _).drew⟩
end Go.Proofs.YtidbokheeieifaaGreatDoor
namespace Go.Proofs.YtidbokheeieifaaGreatDoor
open Go.RowKit

def MarkOut (lo hi k : Nat) (w : World) (e : Ending) (w' : World) : Prop := e = .returned (.int .i64 (k : Int)) ∧ Out lo hi w w'

def MarkAt (h : Nat) : Prop := ∀ (u : Value) (ts : List T) (lo hi k : Nat) (w : World), OwnA w h lo hi u ts → hi ≤ w.heap.size → 1 ≤ k → k + 3 * cS ts ≤ 2305843009213693952 →
  Calls Tryz.prog 60 #[u, .int .i64 k] w (MarkOut lo hi (k + 3 * cS ts) w)

theorem len_cS : ∀ ts : List T, ts.length ≤ cS ts
  | [] => Nat.zero_le _
  | t :: ts => by
    have h := len_cS ts
    obtain ⟨k, n, s, xs⟩ := t
    have hc : cS (T.node k n s xs :: ts) = cT (T.node k n s xs) + cS ts := by simp [cS]
    rw [hc, cT_node]
    simp only [List.length_cons]
    omega

/-- How far the marks of a row have come. -/
def MRel (h g m cap j : Nat) (ts : List T) (U : Nat → Value) (L R : Nat → Nat) (w : World) : Prop :=
  ∃ xs, w.ownsRow g 26 4 (.slice (some ⟨g, 0, none⟩) m cap) m xs ∧ ∀ i kk nn s txs, j ≤ i → ts[i]? = some (T.node kk nn s txs) → xs[i * 4 + 3]? = some (U i) ∧ OwnA w h (L i) (R i) (U i) txs

theorem MRel.cells {h g m cap j : Nat} {ts : List T} {U : Nat → Value} {L R : Nat → Nat} {w : World} (c : MRel h g m cap j ts U L R w) {i : Nat} (hi : i < m) (q : Nat) (hq : q < 4) :
    (∃ v, w.cell? ⟨g, i * 4 + q, none⟩ = some v) ∧ w.frozen? ⟨g, i * 4 + q, none⟩ = false := by
  obtain ⟨xs, ho, _⟩ := c
  have hl := ho.1
  refine ⟨?_, ho.frozenAt _⟩
  rw [ho.cellAt (i * 4 + q) (by omega)]
  exact ⟨_, List.getElem?_eq_getElem (by omega)⟩
theorem MRel.args {h g m cap j : Nat} {ts : List T} {U : Nat → Value} {L R : Nat → Nat} {w : World} (c : MRel h g m cap j ts U L R w) {kk nn : Int} {s : ByteArray} {txs : List T} (hj : j < m) (ht : ts[j]? = some (T.node kk nn s txs)) :
    w.cell? ⟨g, j * 4 + 3, none⟩ = some (U j) ∧ OwnA w h (L j) (R j) (U j) txs := by
  obtain ⟨xs, ho, hx⟩ := c
  obtain ⟨h1, h2⟩ := hx j kk nn s txs (Nat.le_refl _) ht
  exact ⟨by rw [ho.cellAt (j * 4 + 3) (by omega)]; exact h1, h2⟩
/-- A store into a cell of element j that is not its last. -/
theorem MRel.store {h g m cap j : Nat} {ts : List T} {U : Nat → Value} {L R : Nat → Nat} {w : World} (c : MRel h g m cap j ts U L R w) (hg : ∀ i, g < L i ∨ R i ≤ g) (q : Nat) (hq : q < 3) (v : Value) :
    MRel h g m cap j ts U L R (w.setCell ⟨g, j * 4 + q, none⟩ v) := by
  obtain ⟨xs, ho, hx⟩ := c
  refine ⟨_, (ho.stored (j * 4 + q) v).1, fun i kk nn s txs hi ht => ?_⟩
  obtain ⟨h1, h2⟩ := hx i kk nn s txs hi ht
  refine ⟨by rw [List.getElem?_set_ne (by omega)]; exact h1, h2.keep fun b b1 b2 => ?_⟩
  exact Below.heap_setCell _ _ _ _ (fun e => by have := hg i; simp at e; omega)
theorem MRel.below {h g m cap j : Nat} {ts : List T} {U : Nat → Value} {L R : Nat → Nat} {w w' : World} (c : MRel h g m cap j ts U L R w) (hb : Below w.heap.size w w') (hR : ∀ i, R i ≤ w.heap.size) : MRel h g m cap j ts U L R w' := by
  obtain ⟨xs, ho, hx⟩ := c
  refine ⟨xs, keep_own ho hb, fun i kk nn s txs hi ht => ?_⟩
  obtain ⟨h1, h2⟩ := hx i kk nn s txs hi ht
  exact ⟨h1, h2.keep fun b b1 b2 => hb.block b (by have := hR i; omega)⟩
/-- The child's marks. -/
theorem MRel.child {h g m cap j : Nat} {ts : List T} {U : Nat → Value} {L R : Nat → Nat} {w w' : World} (c : MRel h g m cap j ts U L R w) (ho : Out (L j) (R j) w w') (hg : ∀ i, g < L i ∨ R i ≤ g) (hgs : g < w.heap.size) (hR : ∀ i, R i ≤ w.heap.size)
    (hd : ∀ i, j < i → i < ts.length → R j ≤ L i ∨ R i ≤ L j) : MRel h g m cap (j + 1) ts U L R w' := by
  obtain ⟨xs, hr, hx⟩ := c
  refine ⟨xs, row_keep hr (ho.2.2.2.2 g hgs (by have := hg j; omega)), fun i kk nn s txs hi ht => ?_⟩
  obtain ⟨h1, h2⟩ := hx i kk nn s txs (by omega) ht
  refine ⟨h1, h2.keep fun b b1 b2 => ho.2.2.2.2 b (by have := hR i; omega) ?_⟩
  have := hd i (by omega) (List.getElem?_eq_some_iff.1 ht).1
  omega

set_option maxRecDepth 100000 in
set_option maxHeartbeats 400000 in
theorem mark_empty (lo hi k : Nat) (a : Option Addr) (cap : Nat) (w : World) :
    Calls Tryz.prog 60 #[.slice a 0 cap, .int .i64 k] w (MarkOut lo hi k w) := by
  go_enter Tryz.func60, Tryz.ntmps60
  go_wp2
  refine wp_loop_rounds 1 ?_
  rw [rounds_succ]
  go_wp2
  go_ret
  exact ⟨rfl, Out.refl _ _ _⟩

set_option maxRecDepth 100000 in
set_option maxHeartbeats 1600000 in
theorem mark_some {h : Nat} (hM : MarkAt h) (g cap : Nat) (ts : List T) (U : Nat → Value) (L R : Nat → Nat) (lo hi k : Nat) (w : World) (hrel0 : MRel h g ts.length cap 0 ts U L R w) (h1 : lo ≤ g) (h2 : g < hi) (hhi : hi ≤ w.heap.size)
    (hg : ∀ i, g < L i ∨ R i ≤ g) (hL : ∀ i, lo ≤ L i) (hR : ∀ i, R i ≤ hi) (hd : ∀ i j, i < j → j < ts.length → R i ≤ L j ∨ R j ≤ L i) (hk : 1 ≤ k) (hkc : k + 3 * cS ts ≤ 2305843009213693952) :
    Calls Tryz.prog 60 #[.slice (some ⟨g, 0, none⟩) ts.length cap, .int .i64 k] w (MarkOut lo hi (k + 3 * cS ts) w) := by
  have hl : ts.length ≤ 2305843009213693952 := by have := len_cS ts; omega
  have HM0 := Lib.hid hM; clear hM
  have HG := Lib.hid hg; clear hg
  have HL := Lib.hid hL; clear hL
  have HRR := Lib.hid hR; clear hR
  have HDD := Lib.hid hd; clear hd
  have HKC := Lib.hid hkc; clear hkc
  obtain ⟨m, hm⟩ : ∃ m, m = ts.length := ⟨_, rfl⟩
  rw [← hm] at hrel0 hl ⊢
  have HM := Lib.hid hm; clear hm
  have HR0 := Lib.hid hrel0; clear hrel0
  go_enter Tryz.func60, Tryz.ntmps60
  go_wp2
  go_loopw [1, 5] (fun q i wr => ∃ (j c : Nat), j ≤ m ∧ i = .int .i64 j ∧ q = .int .i64 c ∧ Hid (c = k + 3 * cS (ts.take j)) ∧ Hid (MRel h g m cap j ts U L R wr) ∧ Hid (Out lo hi w wr)) (fun _ i _ => m - (intOf i).toNat)
  case atStart => exact ⟨0, k, Nat.zero_le _, rfl, rfl, Lib.hid (by simp [cS]), HR0, Lib.hid (Out.refl _ _ _)⟩
  case round =>
    obtain ⟨j, c, hj, rfl, rfl, HC, HR, HO⟩ := hrel
    have hcb : c ≤ 2305843009213693952 := by have := HC.out; have := cS_take ts j; have := HKC.out; omega
    have hc1 : 1 ≤ c := by have := HC.out; omega
    by_cases hlt : j < m
    · obtain ⟨t, ht⟩ : ∃ t, ts[j]? = some t := ⟨_, List.getElem?_eq_getElem (by have := HM.out; omega)⟩
      obtain ⟨tk1, tn1, ts1, txs⟩ := t
      have hct : cS (ts.take (j + 1)) = cS (ts.take j) + (1 + cS txs) := by rw [tk ts j _ ht, cS_snoc, cT_node]
      have hctl := cS_take ts (j + 1)
      have HCT := Lib.hid hct
      have hcx : c + 3 + 3 * cS txs ≤ 2305843009213693952 := by have := HC.out; have := HKC.out; omega
      have htl2 : txs.length ≤ 2305843009213693952 := by have := len_cS txs; omega
      clear hct hctl
      have hgs : g < wr.heap.size := by have := HO.out.2.2.2.1; omega
      have hRs : Hid (∀ i, R i ≤ wr.heap.size) := Lib.hid (fun i => by have := HRR.out i; have := HO.out.2.2.2.1; omega)
      have HT := Lib.hid ht; clear ht
      obtain ⟨⟨o0, g0⟩, f0⟩ := HR.out.cells hlt 0 (by omega)
      obtain ⟨⟨o1, g1⟩, f1⟩ := HR.out.cells hlt 1 (by omega)
      rw [Nat.add_zero] at g0 f0
      have s0 := HR.out.store HG.out 0 (by omega) (.int .i64 (c : Int))
      rw [Nat.add_zero] at s0
      have s1 := s0.store HG.out 1 (by omega) (.int .i64 ((c : Int) + 1))
      have HS1 := Lib.hid s1; clear s0 s1
      have HO1 := Lib.hid (HO.out.trans ((Out.set (lo := lo) (hi := hi) wr g (j * 4) (.int .i64 (c : Int)) h1 h2).trans (Out.set _ g (j * 4 + 1) (.int .i64 ((c : Int) + 1)) h1 h2)))
      go_wp2_with fail
      refine (markText_int _ (c + 2) _ (by omega) (by omega) (by omega)).mono ?_
      rintro e w1 ⟨rfl, hb1⟩
      have HS2 := Lib.hid (HS1.out.below hb1 (fun i => by have := hRs.out i; simpa using this))
      have hw1 : wr.heap.size ≤ w1.heap.size := by have := hb1.size; simpa [World.setCell] using this
      have HO2 := Lib.hid (HO1.out.trans (Out.of_below hb1)); clear hb1 g0 g1 f0 f1
      obtain ⟨⟨o2, g2⟩, f2⟩ := HS2.out.cells hlt 2 (by omega)
      have HS3 := Lib.hid (HS2.out.store HG.out 2 (by omega) (.string (mark (c + 2))))
      have HO3 := Lib.hid (HO2.out.trans (Out.set (lo := lo) (hi := hi) w1 g (j * 4 + 2) (.string (mark (c + 2))) h1 h2))
      obtain ⟨ca, hoa⟩ := HS3.out.args hlt HT.out
      have hsz : w1.heap.size = (w1.setCell ⟨g, j * 4 + 2, none⟩ (.string (mark (c + 2)))).heap.size := by simp [World.setCell]
      have hcall := HM0.out (U j) txs (L j) (R j) (c + 3) _ hoa (by have := hRs.out j; omega) (by omega) (by omega)
      obtain ⟨ua, uc, hu⟩ := hoa.slice
      rw [hu] at ca hcall
      clear hoa
      have HCALL := Lib.hid hcall; clear hcall
      go_wp2_with fail
      have hcast : ((c : Int) + 1 + 1 + 1) = ((c + 3 : Nat) : Int) := by omega
      rw [hcast]
      refine HCALL.out.mono ?_
      rintro e w2 ⟨rfl, ho2⟩
      have HR4 := Lib.hid (HS3.out.child ho2 HG.out (by omega) (fun i => by have := hRs.out i; omega) (fun i hi hil => HDD.out j i hi hil))
      have HO4 := Lib.hid (HO3.out.trans (ho2.wide (HL.out j) (HRR.out j))); clear ho2
      have HC4 : Hid (c + 3 + 3 * cS txs = k + 3 * cS (ts.take (j + 1))) := Lib.hid (by have := HC.out; have := HCT.out; omega)
      go_wp2
      go_roundw
      case rel => exact ⟨j + 1, c + 3 + 3 * cS txs, by omega, by go_num, rfl, HC4, HR4, HO4⟩
      case measure => simp [intOf]; omega
    · have HD : Hid (c = k + 3 * cS ts) := Lib.hid (by
        have hjm : j = ts.length := by have := HM.out; omega
        rw [HC.out, hjm, List.take_length])
      go_wp2
      go_ret
      exact ⟨by rw [← HD.out]; rfl, HO.out⟩

theorem mark_any : ∀ h, MarkAt h
  | 0 => by
    rintro u ts lo hi k w ⟨rfl, a, cap, rfl⟩ hhi hk hkc
    exact (mark_empty lo hi k a cap w)
  | h + 1 => by
    rintro u ts lo hi k w ⟨a, cap, rfl, hc⟩ hhi hk hkc
    by_cases hn : ts = []
    · subst hn
      exact mark_empty lo hi k a cap w
    · obtain ⟨g, xs, U, L, R, rfl, h1, h2, ho, hx, hd⟩ := hc.resolve_left hn
      have hin : ∀ i, i < ts.length → lo ≤ L i ∧ R i ≤ hi ∧ (g < L i ∨ R i ≤ g) := fun i hi' => by
        obtain ⟨t, ht⟩ : ∃ t, ts[i]? = some t := ⟨_, List.getElem?_eq_getElem hi'⟩
        obtain ⟨kk, nn, s, txs⟩ := t
        obtain ⟨_, l1, l2, l3, _⟩ := hx i kk nn s txs ht
        exact ⟨l1, l2, l3⟩
      refine mark_some (mark_any h) g cap ts U (fun i => if i < ts.length then L i else lo) (fun i => if i < ts.length then R i else lo) lo hi k w ⟨xs, ho, fun i kk nn s txs _ ht => ?_⟩ h1 h2 hhi ?_ ?_ ?_ ?_ hk hkc
      · have hi' := (List.getElem?_eq_some_iff.1 ht).1
        obtain ⟨x3, _, _, _, hr⟩ := hx i kk nn s txs ht
        exact ⟨x3, by simpa [hi'] using hr⟩
      · intro i
        by_cases hi' : i < ts.length
        · simpa [hi'] using (hin i hi').2.2
        · simp [hi']; omega
      · intro i
        by_cases hi' : i < ts.length
        · simpa [hi'] using (hin i hi').1
        · simp [hi']
      · intro i
        by_cases hi' : i < ts.length
        · simpa [hi'] using (hin i hi').2.1
        · simp [hi']; omega
      · intro i j hij hj
        have hi' : i < ts.length := by omega
        simpa [hi', hj] using hd i j hij hj

set_option maxRecDepth 100000 in
set_option maxHeartbeats 800000 in
/-- laws.markTerm, at a term whose rows are the call's own. -/
theorem markT_any (kk nn : Int) (s : ByteArray) (u : Value) (xs : List T) (h lo hi k : Nat) (w : World) (ho : OwnA w h lo hi u xs) (hhi : hi ≤ w.heap.size) (hk : 1 ≤ k) (hkc : k + 3 * cS xs ≤ 2305843009213693952) :
    Calls Tryz.prog 37 #[tv kk nn s u, .int .i64 k] w (MarkOut lo hi (k + 3 * cS xs) w) := by
  have hob : OwnA (boxed w kk nn s u) h lo hi u xs := ho.keep fun b b1 b2 => (boxed_below w kk nn s u).block b (by omega)
  have hsz := (boxed_below w kk nn s u).size
  have hcall := mark_any h u xs lo hi k _ hob (by omega) hk hkc
  have HO := Lib.hid (Out.of_below (lo := lo) (hi := hi) (boxed_below w kk nn s u))
  obtain ⟨a, cap, rfl⟩ := ho.slice
  clear ho hob
  have HCALL := Lib.hid hcall; clear hcall
  go_enter Tryz.func37, Tryz.ntmps37
  go_wp2_with fail
  refine HCALL.out.mono ?_
  rintro e w1 ⟨rfl, ho1⟩
  have HO1 := Lib.hid (HO.out.trans ho1); clear ho1
  go_wp2
  go_ret
  exact ⟨rfl, HO1.out⟩
end Go.Proofs.YtidbokheeieifaaGreatDoor
namespace Go.Proofs.YtidbokheeieifaaGreatDoor
open Go.RowKit

mutual
/-- A term over whose arguments, and itself, the marks from k on were written. -/
def mkT (k : Nat) : T → T
  | .node _ _ _ xs => .node (k : Int) ((k : Int) + 1) (mark (k + 2)) (mkS (k + 3) xs)
def mkS (k : Nat) : List T → List T
  | [] => []
  | t :: ts => mkT k t :: mkS (k + 3 * cT t) ts
end
theorem mkS_nil (k : Nat) : mkS k [] = [] := by rw [mkS]
theorem mkS_cons (k : Nat) (t : T) (ts : List T) : mkS k (t :: ts) = mkT k t :: mkS (k + 3 * cT t) ts := by rw [mkS]
theorem mkS_length (k : Nat) (ts : List T) : (mkS k ts).length = ts.length := by
  induction ts generalizing k with
  | nil => simp [mkS_nil]
  | cons t ts ih => rw [mkS_cons, List.length_cons, List.length_cons, ih]
theorem mkS_at (ts : List T) (k i : Nat) (t : T) (h : ts[i]? = some t) : (mkS k ts)[i]? = some (mkT (k + 3 * cS (ts.take i)) t) := by
  induction ts generalizing k i with
  | nil => simp at h
  | cons x ts ih =>
    rw [mkS_cons]
    cases i with
    | zero => simp at h; subst h; simp [cS]
    | succ i =>
      simp at h
      rw [List.getElem?_cons_succ, ih _ i h, List.take_succ_cons]
      have : cS (x :: ts.take i) = cT x + cS (ts.take i) := by simp [cS]
      rw [this, show k + 3 * cT x + 3 * cS (ts.take i) = k + 3 * (cT x + cS (ts.take i)) by omega]
theorem mkT_node (k : Nat) (kk nn : Int) (s : ByteArray) (xs : List T) : mkT k (.node kk nn s xs) = .node (k : Int) ((k : Int) + 1) (mark (k + 2)) (mkS (k + 3) xs) := by rw [mkT]
theorem mark_size (k : Nat) (h : k ≤ 2305843009213693952) : (mark k).size ≤ maxLen := by
  have l := decPos_length_le k (by omega)
  have : (mark k).size = 1 + (decPos k).length := by
    show ((109 : UInt8) :: decPos k).toArray.size = _
    simp; omega
  rw [this]; unfold maxLen; omega

/-- The mark of cell q of an element. -/
def mv (c : Nat) : Nat → Value
  | 0 => .int .i64 (c : Int)
  | 1 => .int .i64 ((c : Int) + 1)
  | _ => .string (mark (c + 2))

theorem cell_heap {w w' : World} {ad : Addr} (h : w'.heap[ad.block]? = w.heap[ad.block]?) : w'.cell? ad = w.cell? ad := by
  unfold World.cell?; rw [h]
theorem ArgsP.keepB {P : Nat → Prop} {w w' : World} {h : Nat} {u : Value} {ts : List T} (k : ArgsP P w h u ts) (hk : ∀ b, P b → b < w.heap.size → w'.heap[b]? = w.heap[b]?) : ArgsP P w' h u ts :=
  k.keep fun ad v hp hv => by rw [cell_heap (hk _ hp (World.block_lt_of_cell? w _ hv))]; exact hv

/-- Blocks from l to r. -/
abbrev In (l r : Nat) : Nat → Prop := fun b => l ≤ b ∧ b < r

/-- How far the marks of a row have come: all before element j, and q cells of it. -/
def MRow (h g m cap k j q : Nat) (ts : List T) (U : Nat → Value) (L R : Nat → Nat) (w : World) : Prop :=
  ∃ xs, w.ownsRow g 26 4 (.slice (some ⟨g, 0, none⟩) m cap) m xs ∧ (∀ i kk nn s txs, j ≤ i → ts[i]? = some (T.node kk nn s txs) → xs[i * 4 + 3]? = some (U i) ∧ OwnA w h (L i) (R i) (U i) txs) ∧
    (∀ i kk nn s txs, i < j → ts[i]? = some (T.node kk nn s txs) → (∀ p, p < 3 → xs[i * 4 + p]? = some (mv (k + 3 * cS (ts.take i)) p)) ∧ xs[i * 4 + 3]? = some (U i) ∧ ArgsP (In (L i) (R i)) w h (U i) (mkS (k + 3 * cS (ts.take i) + 3) txs)) ∧
    ∀ p, p < q → xs[j * 4 + p]? = some (mv (k + 3 * cS (ts.take j)) p)

theorem MRow.cells {h g m cap k j p : Nat} {ts : List T} {U : Nat → Value} {L R : Nat → Nat} {w : World} (c : MRow h g m cap k j p ts U L R w) {i : Nat} (hi : i < m) (q : Nat) (hq : q < 4) :
    (∃ v, w.cell? ⟨g, i * 4 + q, none⟩ = some v) ∧ w.frozen? ⟨g, i * 4 + q, none⟩ = false := by
  obtain ⟨xs, ho, _⟩ := c
  have hl := ho.1
  refine ⟨?_, ho.frozenAt _⟩
  rw [ho.cellAt (i * 4 + q) (by omega)]
  exact ⟨_, List.getElem?_eq_getElem (by omega)⟩
theorem MRow.args {h g m cap k j p : Nat} {ts : List T} {U : Nat → Value} {L R : Nat → Nat} {w : World} (c : MRow h g m cap k j p ts U L R w) {kk nn : Int} {s : ByteArray} {txs : List T} (hj : j < m) (ht : ts[j]? = some (T.node kk nn s txs)) :
    w.cell? ⟨g, j * 4 + 3, none⟩ = some (U j) ∧ OwnA w h (L j) (R j) (U j) txs := by
  obtain ⟨xs, ho, hx, _⟩ := c
  obtain ⟨h1, h2⟩ := hx j kk nn s txs (Nat.le_refl _) ht
  exact ⟨by rw [ho.cellAt (j * 4 + 3) (by omega)]; exact h1, h2⟩
/-- The next cell of element j. -/
theorem MRow.store {h g m cap k j q : Nat} {ts : List T} {U : Nat → Value} {L R : Nat → Nat} {w : World} (c : MRow h g m cap k j q ts U L R w) (hg : ∀ i, g < L i ∨ R i ≤ g) (hq : q < 3) (hj : j < m) {v : Value} (hv : v = mv (k + 3 * cS (ts.take j)) q) :
    MRow h g m cap k j (q + 1) ts U L R (w.setCell ⟨g, j * 4 + q, none⟩ v) := by
  obtain ⟨xs, ho, hx, hd, hp⟩ := c
  have hl := ho.1
  have hs : ∀ b, b ≠ g → (w.setCell ⟨g, j * 4 + q, none⟩ v).heap[b]? = w.heap[b]? := fun b hb => Below.heap_setCell _ _ _ _ (fun e => hb (by simpa using e))
  refine ⟨_, (ho.stored (j * 4 + q) v).1, fun i kk nn s txs hi ht => ?_, fun i kk nn s txs hi ht => ?_, fun p hp' => ?_⟩
  · obtain ⟨h1, h2⟩ := hx i kk nn s txs hi ht
    refine ⟨by rw [List.getElem?_set_ne (by omega)]; exact h1, h2.keep fun b b1 b2 => hs b (by have := hg i; omega)⟩
  · obtain ⟨h0, h1, h2⟩ := hd i kk nn s txs hi ht
    refine ⟨fun p hp => by rw [List.getElem?_set_ne (by omega)]; exact h0 p hp, by rw [List.getElem?_set_ne (by omega)]; exact h1, h2.keepB fun b hb _ => hs b (by have := hg i; have := hb.1; have := hb.2; omega)⟩
  · by_cases hpq : p = q
    · subst hpq
      rw [List.getElem?_set_self (by omega), hv]
    · rw [List.getElem?_set_ne (by omega)]
      exact hp p (by omega)
theorem MRow.below {h g m cap k j q : Nat} {ts : List T} {U : Nat → Value} {L R : Nat → Nat} {w w' : World} (c : MRow h g m cap k j q ts U L R w) (hb : Below w.heap.size w w') (hR : ∀ i, R i ≤ w.heap.size) : MRow h g m cap k j q ts U L R w' := by
  obtain ⟨xs, ho, hx, hd, hp⟩ := c
  refine ⟨xs, keep_own ho hb, fun i kk nn s txs hi ht => ?_, fun i kk nn s txs hi ht => ?_, hp⟩
  · obtain ⟨h1, h2⟩ := hx i kk nn s txs hi ht
    exact ⟨h1, h2.keep fun b b1 b2 => hb.block b (by have := hR i; omega)⟩
  · obtain ⟨h0, h1, h2⟩ := hd i kk nn s txs hi ht
    exact ⟨h0, h1, h2.keepB fun b _ hlt => hb.block b hlt⟩
/-- The child's marks. -/
theorem MRow.child {h g m cap k j : Nat} {ts : List T} {U : Nat → Value} {L R : Nat → Nat} {w w' : World} (c : MRow h g m cap k j 3 ts U L R w) (ho : Out (L j) (R j) w w') (hg : ∀ i, g < L i ∨ R i ≤ g) (hgs : g < w.heap.size) (hR : ∀ i, R i ≤ w.heap.size)
    (hd : ∀ i i', i < i' → i' < ts.length → R i ≤ L i' ∨ R i' ≤ L i) {kk nn : Int} {s : ByteArray} {txs : List T} (ht : ts[j]? = some (T.node kk nn s txs)) (hm : ArgsP (In (L j) (R j)) w' h (U j) (mkS (k + 3 * cS (ts.take j) + 3) txs)) :
    MRow h g m cap k (j + 1) 0 ts U L R w' := by
  obtain ⟨xs, hr, hx, hdn, hp⟩ := c
  have hjl := (List.getElem?_eq_some_iff.1 ht).1
  refine ⟨xs, row_keep hr (ho.2.2.2.2 g hgs (by have := hg j; omega)), fun i kk' nn' s' txs' hi ht' => ?_, fun i kk' nn' s' txs' hi ht' => ?_, fun p hp => by omega⟩
  · obtain ⟨h1, h2⟩ := hx i kk' nn' s' txs' (by omega) ht'
    refine ⟨h1, h2.keep fun b b1 b2 => ho.2.2.2.2 b (by have := hR i; omega) ?_⟩
    have := hd j i (by omega) (List.getElem?_eq_some_iff.1 ht').1
    omega
  · by_cases hij : i = j
    · subst hij
      rw [ht] at ht'
      cases ht'
      exact ⟨hp, (hx i kk nn s txs (Nat.le_refl _) ht).1, hm⟩
    · obtain ⟨h0, h1, h2⟩ := hdn i kk' nn' s' txs' (by omega) ht'
      refine ⟨h0, h1, h2.keepB fun b hb hlt => ho.2.2.2.2 b hlt ?_⟩
      have := hd i j (by omega) hjl
      have := hb.1; have := hb.2
      omega
theorem MRow.done {h g m cap k : Nat} {ts : List T} {U : Nat → Value} {L R : Nat → Nat} {w : World} {lo hi : Nat} (c : MRow h g m cap k m 0 ts U L R w) (hm : m = ts.length) (hl : m ≤ maxLen) (hk : k + 3 * cS ts ≤ 2305843009213693952) (h1 : lo ≤ g) (h2 : g < hi) (hL : ∀ i, lo ≤ L i) (hR : ∀ i, R i ≤ hi) :
    ArgsP (In lo hi) w (h + 1) (.slice (some ⟨g, 0, none⟩) m cap) (mkS k ts) := by
  obtain ⟨xs, ho, _, hd, _⟩ := c
  refine ⟨_, cap, by rw [mkS_length, hm], by rw [mkS_length]; omega, Or.inr ⟨g, 0, rfl, ⟨h1, h2⟩, fun i a b s' txs' hi' => ?_⟩⟩
  have hil : i < ts.length := by have := (List.getElem?_eq_some_iff.1 hi').1; rwa [mkS_length] at this
  obtain ⟨t, ht⟩ : ∃ t, ts[i]? = some t := ⟨_, List.getElem?_eq_getElem hil⟩
  obtain ⟨kk, nn, s, txs⟩ := t
  rw [mkS_at ts k i _ ht, mkT_node] at hi'
  simp only [Option.some.injEq, T.node.injEq] at hi'
  obtain ⟨rfl, rfl, rfl, rfl⟩ := hi'
  obtain ⟨h0, h3, h4⟩ := hd i kk nn s txs (by omega) ht
  have hct := cS_take ts (i + 1)
  rw [tk ts i _ ht, cS_snoc, cT_node] at hct
  refine ⟨mark_size _ (by omega), U i, ?_, ?_, ?_, ?_, h4.imp fun b hb => ⟨Nat.le_trans (hL i) hb.1, Nat.lt_of_lt_of_le hb.2 (hR i)⟩⟩
  · rw [Nat.zero_add, ho.cellAt (i * 4) (by omega)]; exact h0 0 (by omega)
  · rw [Nat.zero_add, ho.cellAt (i * 4 + 1) (by omega)]; exact h0 1 (by omega)
  · rw [Nat.zero_add, ho.cellAt (i * 4 + 2) (by omega)]; exact h0 2 (by omega)
  · rw [Nat.zero_add, ho.cellAt (i * 4 + 3) (by omega)]; exact h3

def MarkP (lo hi k h : Nat) (u : Value) (ts : List T) (w : World) (e : Ending) (w' : World) : Prop := MarkOut lo hi (k + 3 * cS ts) w e w' ∧ ArgsP (In lo hi) w' h u (mkS k ts)
def MarkPAt (h : Nat) : Prop := ∀ (u : Value) (ts : List T) (lo hi k : Nat) (w : World), OwnA w h lo hi u ts → hi ≤ w.heap.size → 1 ≤ k → k + 3 * cS ts ≤ 2305843009213693952 →
  Calls Tryz.prog 60 #[u, .int .i64 k] w (MarkP lo hi k h u ts w)

theorem markP_empty (lo hi k h : Nat) (a : Option Addr) (cap : Nat) (w : World) :
    Calls Tryz.prog 60 #[.slice a 0 cap, .int .i64 k] w (MarkP lo hi k h (.slice a 0 cap) [] w) :=
  (mark_empty lo hi k a cap w).mono fun e w' hm => ⟨by simpa [cS] using hm, by
    rw [mkS_nil]
    cases h with
    | zero => exact ⟨rfl, _, _, rfl⟩
    | succ h => exact ⟨_, _, rfl, Nat.zero_le _, Or.inl rfl⟩⟩

set_option maxRecDepth 100000 in
set_option maxHeartbeats 1600000 in
theorem markP_some {h : Nat} (hM : MarkPAt h) (g cap : Nat) (ts : List T) (U : Nat → Value) (L R : Nat → Nat) (lo hi k : Nat) (w : World) (hrel0 : MRow h g ts.length cap k 0 0 ts U L R w) (h1 : lo ≤ g) (h2 : g < hi) (hhi : hi ≤ w.heap.size)
    (hg : ∀ i, g < L i ∨ R i ≤ g) (hL : ∀ i, lo ≤ L i) (hR : ∀ i, R i ≤ hi) (hd : ∀ i j, i < j → j < ts.length → R i ≤ L j ∨ R j ≤ L i) (hk : 1 ≤ k) (hkc : k + 3 * cS ts ≤ 2305843009213693952) :
    Calls Tryz.prog 60 #[.slice (some ⟨g, 0, none⟩) ts.length cap, .int .i64 k] w (MarkP lo hi k (h + 1) (.slice (some ⟨g, 0, none⟩) ts.length cap) ts w) := by
  have hl : ts.length ≤ 2305843009213693952 := by have := len_cS ts; omega
  have HM0 := Lib.hid hM; clear hM
  have HG := Lib.hid hg; clear hg
  have HL := Lib.hid hL; clear hL
  have HRR := Lib.hid hR; clear hR
  have HDD := Lib.hid hd; clear hd
  have HKC := Lib.hid hkc; clear hkc
  obtain ⟨m, hm⟩ : ∃ m, m = ts.length := ⟨_, rfl⟩
  rw [← hm] at hrel0 hl ⊢
  have HM := Lib.hid hm; clear hm
  have HR0 := Lib.hid hrel0; clear hrel0
  go_enter Tryz.func60, Tryz.ntmps60
  go_wp2
  go_loopw [1, 5] (fun q i wr => ∃ (j c : Nat), j ≤ m ∧ i = .int .i64 j ∧ q = .int .i64 c ∧ Hid (c = k + 3 * cS (ts.take j)) ∧ Hid (MRow h g m cap k j 0 ts U L R wr) ∧ Hid (Out lo hi w wr)) (fun _ i _ => m - (intOf i).toNat)
  case atStart => exact ⟨0, k, Nat.zero_le _, rfl, rfl, Lib.hid (by simp [cS]), HR0, Lib.hid (Out.refl _ _ _)⟩
  case round =>
    obtain ⟨j, c, hj, rfl, rfl, HC, HR, HO⟩ := hrel
    have hcb : c ≤ 2305843009213693952 := by have := HC.out; have := cS_take ts j; have := HKC.out; omega
    have hc1 : 1 ≤ c := by have := HC.out; omega
    by_cases hlt : j < m
    · obtain ⟨t, ht⟩ : ∃ t, ts[j]? = some t := ⟨_, List.getElem?_eq_getElem (by have := HM.out; omega)⟩
      obtain ⟨tk1, tn1, ts1, txs⟩ := t
      have hct : cS (ts.take (j + 1)) = cS (ts.take j) + (1 + cS txs) := by rw [tk ts j _ ht, cS_snoc, cT_node]
      have hctl := cS_take ts (j + 1)
      have HCT := Lib.hid hct
      have hcx : c + 3 + 3 * cS txs ≤ 2305843009213693952 := by have := HC.out; have := HKC.out; omega
      have htl2 : txs.length ≤ 2305843009213693952 := by have := len_cS txs; omega
      clear hct hctl
      have hgs : g < wr.heap.size := by have := HO.out.2.2.2.1; omega
      have hRs : Hid (∀ i, R i ≤ wr.heap.size) := Lib.hid (fun i => by have := HRR.out i; have := HO.out.2.2.2.1; omega)
      have HT := Lib.hid ht; clear ht
      obtain ⟨⟨o0, g0⟩, f0⟩ := HR.out.cells hlt 0 (by omega)
      obtain ⟨⟨o1, g1⟩, f1⟩ := HR.out.cells hlt 1 (by omega)
      rw [Nat.add_zero] at g0 f0
      have s0 := HR.out.store (q := 0) HG.out (by omega) hlt (v := .int .i64 (c : Int)) (by rw [HC.out]; rfl)
      rw [Nat.add_zero] at s0
      have s1 := s0.store (q := 1) HG.out (by omega) hlt (v := .int .i64 ((c : Int) + 1)) (by rw [HC.out]; rfl)
      have HS1 := Lib.hid s1; clear s0 s1
      have HO1 := Lib.hid (HO.out.trans ((Out.set (lo := lo) (hi := hi) wr g (j * 4) (.int .i64 (c : Int)) h1 h2).trans (Out.set _ g (j * 4 + 1) (.int .i64 ((c : Int) + 1)) h1 h2)))
      go_wp2_with fail
      refine (markText_int _ (c + 2) _ (by omega) (by omega) (by omega)).mono ?_
      rintro e w1 ⟨rfl, hb1⟩
      have HS2 := Lib.hid (HS1.out.below hb1 (fun i => by have := hRs.out i; simpa using this))
      have hw1 : wr.heap.size ≤ w1.heap.size := by have := hb1.size; simpa [World.setCell] using this
      have HO2 := Lib.hid (HO1.out.trans (Out.of_below hb1)); clear hb1 g0 g1 f0 f1
      obtain ⟨⟨o2, g2⟩, f2⟩ := HS2.out.cells hlt 2 (by omega)
      have HS3 := Lib.hid (HS2.out.store (q := 2) HG.out (by omega) hlt (v := .string (mark (c + 2))) (by rw [HC.out]; rfl))
      have HO3 := Lib.hid (HO2.out.trans (Out.set (lo := lo) (hi := hi) w1 g (j * 4 + 2) (.string (mark (c + 2))) h1 h2))
      obtain ⟨ca, hoa⟩ := HS3.out.args hlt HT.out
      have hsz : w1.heap.size = (w1.setCell ⟨g, j * 4 + 2, none⟩ (.string (mark (c + 2)))).heap.size := by simp [World.setCell]
      have hcall := HM0.out (U j) txs (L j) (R j) (c + 3) _ hoa (by have := hRs.out j; omega) (by omega) (by omega)
      obtain ⟨ua, uc, hu⟩ := hoa.slice
      rw [hu] at ca hcall
      clear hoa
      have HUE := Lib.hid hu; clear hu
      have HCALL := Lib.hid hcall; clear hcall
      go_wp2_with fail
      have hcast : ((c : Int) + 1 + 1 + 1) = ((c + 3 : Nat) : Int) := by omega
      rw [hcast]
      refine HCALL.out.mono ?_
      rintro e w2 ⟨⟨rfl, ho2⟩, hp2⟩
      have HR4 := Lib.hid (HS3.out.child ho2 HG.out (by omega) (fun i => by have := hRs.out i; omega) HDD.out HT.out (by rw [HUE.out, ← HC.out]; exact hp2))
      have HO4 := Lib.hid (HO3.out.trans (ho2.wide (HL.out j) (HRR.out j))); clear ho2 hp2
      have HC4 : Hid (c + 3 + 3 * cS txs = k + 3 * cS (ts.take (j + 1))) := Lib.hid (by have := HC.out; have := HCT.out; omega)
      go_wp2
      go_roundw
      case rel => exact ⟨j + 1, c + 3 + 3 * cS txs, by omega, by go_num, rfl, HC4, HR4, HO4⟩
      case measure => simp [intOf]; omega
    · have HD : Hid (c = k + 3 * cS ts) := Lib.hid (by
        have hjm : j = ts.length := by have := HM.out; omega
        rw [HC.out, hjm, List.take_length])
      have hjm : j = m := by omega
      have HF := Lib.hid ((hjm ▸ HR.out).done (lo := lo) (hi := hi) HM.out (by unfold maxLen; omega) HKC.out h1 h2 HL.out HRR.out)
      go_wp2
      go_ret
      exact ⟨⟨by rw [← HD.out]; rfl, HO.out⟩, HF.out⟩

theorem markP_any : ∀ h, MarkPAt h
  | 0 => by
    rintro u ts lo hi k w ⟨rfl, a, cap, rfl⟩ hhi hk hkc
    exact markP_empty lo hi k 0 a cap w
  | h + 1 => by
    rintro u ts lo hi k w ⟨a, cap, rfl, hc⟩ hhi hk hkc
    by_cases hn : ts = []
    · subst hn
      exact markP_empty lo hi k (h + 1) a cap w
    · obtain ⟨g, xs, U, L, R, rfl, h1, h2, ho, hx, hd⟩ := hc.resolve_left hn
      have hin : ∀ i, i < ts.length → lo ≤ L i ∧ R i ≤ hi ∧ (g < L i ∨ R i ≤ g) := fun i hi' => by
        obtain ⟨t, ht⟩ : ∃ t, ts[i]? = some t := ⟨_, List.getElem?_eq_getElem hi'⟩
        obtain ⟨kk, nn, s, txs⟩ := t
        obtain ⟨_, l1, l2, l3, _⟩ := hx i kk nn s txs ht
        exact ⟨l1, l2, l3⟩
      refine markP_some (markP_any h) g cap ts U (fun i => if i < ts.length then L i else lo) (fun i => if i < ts.length then R i else lo) lo hi k w ⟨xs, ho, fun i kk nn s txs _ ht => ?_, fun i _ _ _ _ hi' => by omega, fun p hp => by omega⟩ h1 h2 hhi ?_ ?_ ?_ ?_ hk hkc
      · have hi' := (List.getElem?_eq_some_iff.1 ht).1
        obtain ⟨x3, _, _, _, hr⟩ := hx i kk nn s txs ht
        exact ⟨x3, by simpa [hi'] using hr⟩
      · intro i
        by_cases hi' : i < ts.length
        · simpa [hi'] using (hin i hi').2.2
        · simp [hi']; omega
      · intro i
        by_cases hi' : i < ts.length
        · simpa [hi'] using (hin i hi').1
        · simp [hi']
      · intro i
        by_cases hi' : i < ts.length
        · simpa [hi'] using (hin i hi').2.1
        · simp [hi']; omega
      · intro i j hij hj
        have hi' : i < ts.length := by omega
        simpa [hi', hj] using hd i j hij hj

set_option maxRecDepth 100000 in
set_option maxHeartbeats 800000 in
/-- laws.markTerm, at a term whose rows are the call's own. -/
theorem markPT_any (kk nn : Int) (s : ByteArray) (u : Value) (xs : List T) (h lo hi k : Nat) (w : World) (ho : OwnA w h lo hi u xs) (hhi : hi ≤ w.heap.size) (hk : 1 ≤ k) (hkc : k + 3 * cS xs ≤ 2305843009213693952) :
    Calls Tryz.prog 37 #[tv kk nn s u, .int .i64 k] w (MarkP lo hi k h u xs w) := by
  have hob : OwnA (boxed w kk nn s u) h lo hi u xs := ho.keep fun b b1 b2 => (boxed_below w kk nn s u).block b (by omega)
  have hsz := (boxed_below w kk nn s u).size
  have hcall := markP_any h u xs lo hi k _ hob (by omega) hk hkc
  have HO := Lib.hid (Out.of_below (lo := lo) (hi := hi) (boxed_below w kk nn s u))
  obtain ⟨a, cap, rfl⟩ := ho.slice
  clear ho hob
  have HCALL := Lib.hid hcall; clear hcall
  go_enter Tryz.func37, Tryz.ntmps37
  go_wp2_with fail
  refine HCALL.out.mono ?_
  rintro e w1 ⟨⟨rfl, ho1⟩, hp1⟩
  have HO1 := Lib.hid (HO.out.trans ho1); clear ho1
  have HP1 := Lib.hid hp1; clear hp1
  go_wp2
  go_ret
  exact ⟨⟨rfl, HO1.out⟩, HP1.out⟩
end Go.Proofs.YtidbokheeieifaaGreatDoor
