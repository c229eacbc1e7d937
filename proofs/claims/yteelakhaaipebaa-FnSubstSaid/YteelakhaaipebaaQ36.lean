/-
  append of a row of Binds: a copy that reads as the row does.
  A slice of strings: what it holds. No walk.
  The draws spec.DrawSameSubst and spec.DrawRestrictSubst.
  spec.l22Binds, spec.EqualProof and laws.sameBinds at two readings of one list of Binds.
  Plain facts on the sizes of lists of strings and of what is joined out of them. No program.
  A slice of strings that came in, or that was made: small facts. No walk.
  impl.knownNames makes a set of a list's strings.
  What a sort of names hands back. No walk.
  impl.SortNames returns the strings of its list in strictly ascending order, each once, in a slice of its own.
  impl.RestrictSubst: the Binds of the names of a list, in the names' order.
-/
import Derived.Test.YteelakhaaipebaaQ34
import Derived.Test.YteelakhaaipebaaRows
import Derived.Test.YteelakhaaipebaaQ35
import Derived.Test.YteelakhaaipebaaQ31
import Derived.Test.YteelakhaaipebaaQ21
import Derived.Test.YteelakhaaipebaaQ2
import Derived.Test.YteelakhaaipebaaQ18
import Derived.Test.YteelakhaaipebaaQ1
import Derived.Test.YteelakhaaipebaaQ33
import Derived.WalkKit
import Derived.WalkSpells
import Derived.WalkLawsBesides
import Derived.Lib.Hide
import Derived.BigQuiet
import Derived.Deep.QuietTactic
import Derived.Deep.RegionHeld3
import Derived.Lib.Join
import Derived.ProofKit
import Derived.Maps.OwnSet
namespace Go.Proofs.Yteelakhaaipebaa
open Go.RowKit

/-- The row u appended to the call's own row v: its cells stand behind. -/
theorem row_app5 {w : World} {base lo h n : Nat} {v u : Value} {xs : List Value} {bs : List (ByteArray × T)} (hown : w.ownsRow base 86 5 v n xs) (hu : BsAt w lo h u bs) (hm : n + bs.length ≤ 2097152) (hbase : base ≤ w.heap.size) :
    ∃ v' w' news, (Builtin.append_ #[24, 24] 24 #[v, u]).run Try.prog w = .ok v' w' ∧ w'.ownsRow base 86 5 v' (n + bs.length) (xs ++ news) ∧ (w.grownBy w' v.ownBlock) ∧ news.length = bs.length * 5 ∧ ∀ (i : Nat) (p : ByteArray) (k nn : Int) (s : ByteArray) (ts : List T), bs[i]? = some (p, T.node k nn s ts) → (p.size ≤ maxLen ∧ s.size ≤ maxLen) ∧ ∃ u', ArgsAt w lo h u' ts ∧ news[i * 5]? = some (.string p) ∧ news[i * 5 + 1]? = some (.int .i64 k) ∧ news[i * 5 + 2]? = some (.int .i64 nn) ∧ news[i * 5 + 3]? = some (.string s) ∧ news[i * 5 + 4]? = some u' ∧ ∀ b o c, u = .slice (some ⟨b, o, none⟩) bs.length c → w.cell? ⟨b, o + i * 5 + 4, none⟩ = some u' := by
  obtain ⟨i0, hi, hz0, hz1, hz2⟩ := info_parts infoBind
  obtain ⟨a, cap, rfl, hl, hc⟩ := hu
  have hun : Try.prog.underlying 24 = some (.slice 86) := Try.underlying24
  rcases hc with rfl | ⟨b, o, rfl, hb, hc⟩
  · cases a with
    | none => exact ⟨v, w, [], run_none_cap base _ _ _ i0 5 hun hi v n xs hown cap, by simpa using hown, World.grownBy.refl _ _, rfl, fun i p k nn s ts h => by simp at h⟩
    | some ad =>
      obtain ⟨v', w', h1, h2, h3, _⟩ := run_append_own (P := Try.prog) w base 24 24 86 i0 _ 5 72 hun hi hz0 hz1 hz2 (by simp [Value.cells]) (by decide) v n xs hown ad 0 cap [] rfl (fun j u hj => by simp at hj) (by simp) (by unfold maxLen; omega) (by omega) hbase
      exact ⟨v', w', [], h1, h2, h3, rfl, fun i p k nn s ts h => by simp at h⟩
  · obtain ⟨l, l1, l2, l3, l4⟩ := cells_list (w := w) (b := b) (o := o) (n := bs.length * 5) (fun j hj => by
      obtain ⟨⟨p, k, nn, s, ys⟩, hx⟩ : ∃ x, bs[j / 5]? = some x := ⟨_, List.getElem?_eq_getElem (by omega)⟩
      obtain ⟨_, _, u', c0, c1, c2, c3, c4, har⟩ := hc _ _ _ _ _ _ hx
      obtain ⟨ua, uc, rfl⟩ := har.slice
      have hj5 : j = j / 5 * 5 + j % 5 := by omega
      rcases (by omega : j % 5 = 0 ∨ j % 5 = 1 ∨ j % 5 = 2 ∨ j % 5 = 3 ∨ j % 5 = 4) with h | h | h | h | h <;> rw [h] at hj5
      · exact ⟨_, by rw [hj5]; exact c0, rfl⟩
      · exact ⟨_, by rw [hj5]; exact c1, rfl⟩
      · exact ⟨_, by rw [hj5]; exact c2, rfl⟩
      · exact ⟨_, by rw [hj5]; exact c3, rfl⟩
      · exact ⟨_, by rw [hj5]; exact c4, rfl⟩)
    obtain ⟨v', w', h1, h2, h3, _⟩ := run_append_own (P := Try.prog) w base 24 24 86 i0 _ 5 72 hun hi hz0 hz1 hz2 (by simp [Value.cells]) (by decide) v n xs hown ⟨b, o, none⟩ bs.length cap l l1 l2 l3 (by unfold maxLen; omega) (by omega) hbase
    refine ⟨v', w', l, h1, h2, h3, l1, fun i p k nn s ts hx => ?_⟩
    obtain ⟨hp, hs, u', c0, c1, c2, c3, c4, har⟩ := hc _ _ _ _ _ _ hx
    have := (List.getElem?_eq_some_iff.1 hx).1
    exact ⟨⟨hp, hs⟩, u', har, l4 _ _ (by omega) c0, l4 (i * 5 + 1) _ (by omega) c1, l4 (i * 5 + 2) _ (by omega) c2, l4 (i * 5 + 3) _ (by omega) c3, l4 (i * 5 + 4) _ (by omega) c4, fun b' o' c' e => by simp only [Value.slice.injEq, Option.some.injEq, Addr.mk.injEq] at e; obtain ⟨⟨rfl, rfl, _⟩, _⟩ := e; exact c4⟩

/-- append([]Bind{}, u...): a copy of the row. -/
theorem row_copy {w : World} {lo h : Nat} {u : Value} {bs : List (ByteArray × T)} (hu : BsAt w lo h u bs) (hm : bs.length ≤ 1048576) (hlo : lo ≤ w.heap.size) :
    ∃ v' w', (Builtin.append_ #[24, 24] 24 #[.slice (some ⟨w.heap.size, 0, none⟩) 0 0, u]).run Try.prog (w.alloc (.cells #[] 86)) = .ok v' w' ∧ BsAt w' lo h v' bs ∧ Below w.heap.size w w' := by
  have hb0 : Below w.heap.size w (w.alloc (.cells #[] 86)) := (Below.refl _ _).alloc (Nat.le_refl _) _
  have ho0 : (w.alloc (.cells #[] 86)).ownsRow w.heap.size 86 5 (.slice (some ⟨w.heap.size, 0, none⟩) 0 0) 0 [] := World.ownsRow_lit (base := w.heap.size) (size := 5) (e := 86) w #[] 0 (Nat.le_refl _) (by decide) rfl
  obtain ⟨v', w', news, hr, ho, hg, hl, hx⟩ := row_app5 ho0 (hu.below hb0) (by omega) hb0.size
  have hb : Below w.heap.size w w' := hb0.grown hg hb0.size (fun j hj => by simp [Value.ownBlock] at hj; omega)
  refine ⟨v', w', hr, ?_, hb⟩
  rw [Nat.zero_add, List.nil_append] at ho
  rcases ho.2 with ⟨rfl, h0⟩ | ⟨q, cap, cur, rfl, hq, _⟩
  · have : bs = [] := List.eq_nil_of_length_eq_zero h0
    subst this
    exact ⟨none, 0, rfl, Nat.zero_le _, Or.inl rfl⟩
  · obtain ⟨a0, c0, rfl, _, hcs⟩ := hu
    refine ⟨_, cap, rfl, by unfold maxLen; omega, Or.inr ⟨q, 0, rfl, by omega, fun i p k n s xs hi => ?_⟩⟩
    have hil := (List.getElem?_eq_some_iff.1 hi).1
    obtain ⟨⟨h1, h1'⟩, u', _, x0, x1, x2, x3, x4, hux⟩ := hx i p k n s xs hi
    have hvl := ho.1
    rcases hcs with rfl | ⟨b, o, rfl, hbl, hcc⟩
    · simp at hi
    · obtain ⟨_, _, u2, d0, d1, d2, d3, d4, har⟩ := hcc i p k n s xs hi
      have e4 := hux b o c0 rfl
      rw [hb0.cell (World.block_lt_of_cell? w _ d4), d4] at e4
      cases e4
      refine ⟨h1, h1', u', ?_, ?_, ?_, ?_, ?_, har.below hb⟩
      · rw [Nat.zero_add, ho.cellAt (i * 5) (by omega), x0]
      · rw [Nat.zero_add, ho.cellAt (i * 5 + 1) (by omega), x1]
      · rw [Nat.zero_add, ho.cellAt (i * 5 + 2) (by omega), x2]
      · rw [Nat.zero_add, ho.cellAt (i * 5 + 3) (by omega), x3]
      · rw [Nat.zero_add, ho.cellAt (i * 5 + 4) (by omega)]; exact x4
end Go.Proofs.Yteelakhaaipebaa
namespace Go.Proofs.Yteelakhaaipebaa
open Go.RowKit

/-- The slice value v holds the strings ps. -/
def StrsAt (w : World) (v : Value) (ps : List ByteArray) : Prop :=
  ∃ a cap, v = .slice a ps.length cap ∧ (ps = [] ∨ ∃ b o, a = some ⟨b, o, none⟩ ∧ ∀ i p, ps[i]? = some p → w.cell? ⟨b, o + i, none⟩ = some (.string p))

theorem StrsAt.of_owns {w : World} {B : Nat} {e : TypeId} {v : Value} {ps : List ByteArray} (h : w.ownsRow B e 1 v ps.length (ps.map Value.string)) : StrsAt w v ps := by
  rcases h.2 with ⟨rfl, h0⟩ | ⟨g, cap, cur, rfl, _, _, _, _, _, _⟩
  · exact ⟨none, 0, by rw [h0], Or.inl (List.eq_nil_of_length_eq_zero h0)⟩
  · refine ⟨_, cap, rfl, Or.inr ⟨g, 0, rfl, fun i p hp => ?_⟩⟩
    have hi : i < ps.length := (List.getElem?_eq_some_iff.1 hp).1
    rw [Nat.zero_add, h.cellAt i (by omega)]
    simp [hp]
theorem StrsAt.drewN {w : World} {v : Value} {ps : List ByteArray} (h : StrsAt w v ps) (n : Nat) : StrsAt (w.drewN n) v ps := by
  obtain ⟨a, cap, rfl, h⟩ := h
  refine ⟨a, cap, rfl, ?_⟩
  rcases h with h | ⟨b, o, rfl, h⟩
  · exact Or.inl h
  · exact Or.inr ⟨b, o, rfl, fun i p hp => by simpa using h i p hp⟩

end Go.Proofs.Yteelakhaaipebaa
namespace Go.Proofs.Yteelakhaaipebaa
open Go.RowKit

set_option maxRecDepth 100000 in
set_option maxHeartbeats 800000 in
theorem drawSame_any (cv : Value) (len : Nat) (w : World) (hcode : CodeAt w w.heap.size cv len) :
    Calls Try.prog 21 #[cv] w (DrawnB2 w) := by
  have HC := Lib.hid hcode; clear hcode
  go_enter Try.func21, Try.ntmps21
  go_wp2_with fail
  refine (new_any cv len w HC.out).mono ?_
  rintro e w1 ⟨rfl, hcu, hb1, hlt⟩
  have hc1 : CodeAt w1 w.heap.size cv len := HC.out.at_new hb1
  have H1 := Lib.hid (draw7_any w.heap.size cv len w1 hc1 hcu)
  have HC1 := Lib.hid hc1; have HB1 := Lib.hid (And.intro hb1 hlt)
  clear hcu hb1 hlt hc1
  go_wp2_with fail
  refine H1.out.mono ?_
  rintro e w2 ⟨u, a, rfl, hua, hsa, hcu2, hg2⟩
  have HO := Lib.hid (once_any w.heap.size cv len 2 w2 (by decide) (by decide) (HC1.out.grown HB1.out.2 hg2) hcu2)
  have HU := Lib.hid hua; have HSA := Lib.hid hsa; have HG2 := Lib.hid hg2
  clear hua hsa hcu2 hg2 H1
  go_wp2_with fail
  refine HO.out.mono ?_
  rintro e w3 ⟨qb, rfl, hcu3, hg3⟩
  have HG3 := Lib.hid (grown_trans HG2.out hg3)
  have HU3 := Lib.hid (HU.out.grown7 hg3 (fun j e => by cases e; exact HB1.out.2))
  have H2 := Lib.hid (draw7_any w.heap.size cv len w3 (HC1.out.grown HB1.out.2 (grown_trans HG2.out hg3)) hcu3)
  clear hcu3 hg3 HO
  cases qb with
  | true =>
    obtain ⟨v, w4, hrun, hv, hb4⟩ := row_copy HU3.out (by have := HSA.out.1; omega) HG3.out.size
    obtain ⟨W4, hW4⟩ : ∃ W, W = w3.alloc (.cells #[] 86) := ⟨_, rfl⟩
    rw [← hW4] at hrun
    have HRUN := Lib.hid hrun
    have hb3 : Below w.heap.size w w3 := HB1.out.1.grown HG3.out HB1.out.1.size (fun j e => by cases e; omega)
    have HF : Hid (DrawnB2 w (.returned (.tuple #[u, v])) w4) := Lib.hid ⟨u, v, a, a, rfl, (HU3.out.below hb4).low HB1.out.1.size, hv.low HB1.out.1.size, HSA.out, HSA.out, hb3.trans (hb4.mono hb3.size)⟩
    clear hv hb4 hrun hb3 H2
    go_wp2_with (first | (at_builtin; refine Lib.wpList_append_run _ rfl (.tmp 13) (.tmp 14) _ _ rfl _ _ rfl rfl _ _ (by rw [← hW4]; exact HRUN.out) ?_))
    go_ret2
    exact HF.out
  | false =>
    go_wp2_with fail
    refine H2.out.mono ?_
    rintro e w4 ⟨v, b, rfl, hvb, hsb, hcu4, hg4⟩
    have HF : Hid (DrawnB2 w (.returned (.tuple #[u, v])) w4) := Lib.hid ⟨u, v, a, b, rfl, (HU3.out.grown7 hg4 (fun j e => by cases e; exact HB1.out.2)).low HB1.out.1.size, hvb.low (by have := HB1.out.1.size; have := HG3.out.size; omega), HSA.out, hsb,
      HB1.out.1.grown (grown_trans HG3.out hg4) HB1.out.1.size (fun j e => by cases e; omega)⟩
    clear hvb hsb hcu4 hg4 H2
    go_wp2
    go_ret2
    exact HF.out

/-- A drawn list of Binds and a short list of strings. -/
def DrawnBS (w : World) (e : Ending) (w' : World) : Prop :=
  ∃ u v a ps, e = .returned (.tuple #[u, v]) ∧ BsAt w' w.heap.size 2 u a ∧ StrsAt w' v ps ∧ Small7 a ∧ ps.length ≤ 4 ∧ (∀ p ∈ ps, p.size ≤ 1) ∧ Below w.heap.size w w'

abbrev textsR : List ByteArray := [⟨#[90]⟩, ⟨#[88]⟩, ⟨#[88]⟩, ⟨#[81]⟩]
abbrev strsR (w : World) : World := w.alloc (.cells #[.string ⟨#[90]⟩, .string ⟨#[88]⟩, .string ⟨#[88]⟩, .string ⟨#[81]⟩] 9)

set_option maxRecDepth 100000 in
set_option maxHeartbeats 1600000 in
theorem drawRest_any (cv : Value) (len : Nat) (w : World) (hcode : CodeAt w w.heap.size cv len) :
    Calls Try.prog 19 #[cv] w (DrawnBS w) := by
  have HC := Lib.hid hcode; clear hcode
  go_enter Try.func19, Try.ntmps19
  go_wp2_with fail
  refine (new_any cv len w HC.out).mono ?_
  rintro e w1 ⟨rfl, hcu, hb1, hlt⟩
  have hc1 : CodeAt w1 w.heap.size cv len := HC.out.at_new hb1
  have H1 : Hid (∀ W', w1.grownBy W' (some w.heap.size) → CurAt W' w.heap.size cv len → Calls Try.prog 58 #[.pointer (some ⟨w.heap.size, 0, none⟩)] W' (DrawnBs w.heap.size cv len W')) := Lib.hid (fun W' hg hc => draw7_any w.heap.size cv len W' (hc1.grown hlt hg) hc)
  have H2 : Hid (∀ W', w1.grownBy W' (some w.heap.size) → CurAt W' w.heap.size cv len → Calls Try.prog 67 #[.pointer (some ⟨w.heap.size, 0, none⟩), .int .i64 5] W' (NumEnd 0 4 w.heap.size cv len W')) := Lib.hid (fun W' hg hc => below_any w.heap.size cv len 5 W' (by decide) (by decide) (hc1.grown hlt hg) hc)
  have hga : w1.grownBy w1.drew (some w.heap.size) := gr_drew (grown_refl _ _)
  have hgb : w1.grownBy (strsR w1).drew (some w.heap.size) := gr_drew (World.grownBy_alloc _ _ _)
  have hca : CurAt w1.drew w.heap.size cv len := cu_drew hcu
  have hcb : CurAt (strsR w1).drew w.heap.size cv len := cu_drew (hcu.alloc _)
  have HF0 := Lib.hid True.intro
  have HB1 := Lib.hid (And.intro hb1 hlt)
  have HFIN : Hid (∀ (X : Nat) (w' : World) (u : Value) (a : List (ByteArray × T)) (n : Nat), BsAt w' w1.heap.size 2 u a → Small7 a → (n : Int) ≤ 4 → (∀ i p, textsR[i]? = some p → w'.cell? ⟨X, i, none⟩ = some (.string p)) → w1.grownBy w' (some w.heap.size) → DrawnBS w (.returned (.tuple #[u, .slice (some ⟨X, 0, none⟩) n 4])) w') := Lib.hid (fun X w' u a n q1 q2 q3 q4 q5 => by
    have hn : (textsR.take n).length = n := by rw [List.length_take]; simp; omega
    refine ⟨u, _, a, textsR.take n, rfl, q1.low hb1.size, ⟨some ⟨X, 0, none⟩, 4, by rw [hn], Or.inr ⟨X, 0, rfl, fun i p hp => ?_⟩⟩, q2, by omega, fun p hp => ?_, hb1.grown q5 hb1.size (fun j e => by cases e; exact Nat.le_refl _)⟩
    · rw [Nat.zero_add]
      refine q4 i p ?_
      rw [List.getElem?_take] at hp
      split at hp
      · exact hp
      · cases hp
    · have h := List.mem_of_mem_take hp
      simp [textsR] at h
      rcases h with rfl | rfl | rfl <;> decide)
  have HNS : Hid (∀ (W : World) i p, textsR[i]? = some p → (strsR W).cell? ⟨W.heap.size, i, none⟩ = some (.string p)) := Lib.hid (fun W i p h => new_strs W textsR 9 i p h)
  clear hcu hb1 hlt hc1
  go_wp2
  go_region_law (first
    | (clear HF0; go_simp; go_at_call 58; (first | refine (H1.out _ hga hca).mono ?_ | refine (H1.out _ hgb hcb).mono ?_); rintro e w2 ⟨u, a, rfl, hua, hsa, hcu2, hg2⟩; have hgc : w1.grownBy w2 (some w.heap.size) := (by first | exact grown_trans hga hg2 | exact grown_trans hgb hg2); have hgd : w1.grownBy (strsR w2) (some w.heap.size) := grown_trans hgc (World.grownBy_alloc _ _ _); have hcd := hcu2.alloc (.cells #[.string ⟨#[90]⟩, .string ⟨#[88]⟩, .string ⟨#[88]⟩, .string ⟨#[81]⟩] 9); have HFA := Lib.hid True.intro)
    | (clear HFA; go_simp; go_at_call 67; (first | refine (H2.out _ hgc hcu2).mono ?_ | refine (H2.out _ hgd hcd).mono ?_); rintro e w3 ⟨x, rfl, hx0, hx1, hcu3, hg3⟩; obtain ⟨n, rfl⟩ : ∃ n : Nat, x = n := ⟨x.toNat, by omega⟩))
  all_goals first
    | (have HA : Hid (DrawnBS w (.returned (.tuple #[u, .slice (some ⟨w1.heap.size, 0, none⟩) n 4])) w3) := Lib.hid (HFIN.out _ _ _ _ _ ((hua.grown7 hg3 (fun j e => by cases e; simp; have := HB1.out.2; omega)).low (by simp)) hsa hx1 (fun i p h => ((show (strsR w1).grownBy w3 (some w.heap.size) from ⟨(grown_trans hg2 hg3).os, (grown_trans hg2 hg3).tape, (grown_trans hg2 hg3).output, (grown_trans hg2 hg3).size, (grown_trans hg2 hg3).block⟩).cell (HNS.out w1 i p h) (by have := HB1.out.2; simp; omega))) (grown_trans hgc hg3)); go_wp2; go_ret2; exact HA.out)
    | (have HA : Hid (DrawnBS w (.returned (.tuple #[u, .slice (some ⟨w2.heap.size, 0, none⟩) n 4])) w3) := Lib.hid (HFIN.out _ _ _ _ _ ((hua.grown7 (grown_trans (World.grownBy_alloc w2 _ (some w.heap.size)) hg3) (fun j e => by cases e; simp; have := HB1.out.2; omega)).low (by simp)) hsa hx1 (fun i p h => hg3.cell (HNS.out w2 i p h) (by have := HB1.out.2; have := hg2.size; simp at this; simp; omega)) (grown_trans hgd hg3)); go_wp2; go_ret2; exact HA.out)
    | (have HA : Hid (DrawnBS w (.returned (.tuple #[u, .slice (some ⟨w3.heap.size, 0, none⟩) n 4])) (strsR w3)) := Lib.hid (HFIN.out _ _ _ _ _ ((hua.grown7 (grown_trans hg3 (World.grownBy_alloc w3 _ (some w.heap.size))) (fun j e => by cases e; simp; have := HB1.out.2; omega)).low (by simp)) hsa hx1 (fun i p h => HNS.out w3 i p h) (grown_trans (grown_trans hgc hg3) (World.grownBy_alloc w3 _ _))); go_wp2; go_ret2; exact HA.out)
    | (trace_state; sorry)
end Go.Proofs.Yteelakhaaipebaa
namespace Go.Proofs.Yteelakhaaipebaa
open Go.RowKit

set_option maxRecDepth 100000 in
set_option maxHeartbeats 1600000 in
theorem l22_any (u v : Value) (bs : List (ByteArray × T)) (lo lo' h : Nat) (w : World) (hl : bs.length ≤ 9223372036854775807) (hwt : ∀ x ∈ bs, wT x.2 ≤ 1048576) (hu : BsAt w lo h u bs) (hv : BsAt w lo' h v bs) :
    Calls Try.prog 117 #[u, v] w (TrueB w) := by
  have HWT := Lib.hid hwt; clear hwt
  have HC := Lib.hid hu
  have HC' := Lib.hid hv
  obtain ⟨a, cap, rfl⟩ := hu.slice
  obtain ⟨a', cap', rfl⟩ := hv.slice
  clear hu hv
  obtain ⟨n, hn⟩ : ∃ n, n = bs.length := ⟨_, rfl⟩
  rw [← hn] at hl HC HC' ⊢
  have HN := Lib.hid hn; clear hn
  go_enter Try.func117, Try.ntmps117
  go_wp2
  go_loopw [5] (fun i wr => ∃ k : Nat, k ≤ n ∧ i = .int .i64 k ∧ Hid (Below w.heap.size w wr)) (fun i _ => n - (intOf i).toNat)
  case atStart => exact ⟨0, Nat.zero_le _, rfl, Lib.hid (Below.refl _ _)⟩
  case round =>
    obtain ⟨k, hk, rfl, HB⟩ := hrel
    by_cases hlt : k < n
    · obtain ⟨y, ht⟩ : ∃ y, bs[k]? = some y := ⟨_, List.getElem?_eq_getElem (by have := HN.out; omega)⟩
      obtain ⟨b, o, c', p, tk', tn, tsn, txs, u1, e, rfl, _, _, hsz, c0, c1, c2, c3, c4, har⟩ := HC.out.at ht
      obtain ⟨b2, o2, c2', _, _, _, _, _, u2, e', e2, _, _, _, d0, d1, d2, d3, d4, har'⟩ := HC'.out.at ht
      cases e2
      obtain ⟨rfl, -, rfl⟩ : a = some ⟨b, o, none⟩ ∧ n = bs.length ∧ cap = c' := by simpa using e
      obtain ⟨rfl, -, rfl⟩ : a' = some ⟨b2, o2, none⟩ ∧ n = bs.length ∧ cap' = c2' := by simpa using e'
      have HK : Hid (∀ w', Below wr.heap.size wr w' → (w'.cell? ⟨b, o + k * 5, none⟩ = some (.string p) ∧ w'.cell? ⟨b, o + k * 5 + 1, none⟩ = some (.int .i64 tk') ∧ w'.cell? ⟨b, o + k * 5 + 2, none⟩ = some (.int .i64 tn) ∧ w'.cell? ⟨b, o + k * 5 + 3, none⟩ = some (.string tsn) ∧ w'.cell? ⟨b, o + k * 5 + 4, none⟩ = some u1 ∧
          w'.cell? ⟨b2, o2 + k * 5, none⟩ = some (.string p) ∧ w'.cell? ⟨b2, o2 + k * 5 + 1, none⟩ = some (.int .i64 tk') ∧ w'.cell? ⟨b2, o2 + k * 5 + 2, none⟩ = some (.int .i64 tn) ∧ w'.cell? ⟨b2, o2 + k * 5 + 3, none⟩ = some (.string tsn) ∧ w'.cell? ⟨b2, o2 + k * 5 + 4, none⟩ = some u2 ∧ Below wr.heap.size wr w')) := Lib.hid (fun w' hb => by
        have hq := HB.out.trans (hb.mono HB.out.size)
        exact ⟨cell_on hq c0, cell_on hq c1, cell_on hq c2, cell_on hq c3, cell_on hq c4, cell_on hq d0, cell_on hq d1, cell_on hq d2, cell_on hq d3, cell_on hq d4, hb⟩)
      have HCALL : Hid (∀ w', Below wr.heap.size wr w' → Calls Try.prog 15 #[tv tk' tn tsn u1, tv tk' tn tsn u2] w' (TrueB w')) := Lib.hid (fun w' hb => by
        have hq := HB.out.trans (hb.mono HB.out.size)
        refine (sSame_any lo lo' h (tv tk' tn tsn u1) (tv tk' tn tsn u2) (.node tk' tn tsn txs) (.node tk' tn tsn txs) w' h ⟨_, _, _, _, txs, rfl, rfl, hsz, har.below hq⟩ ⟨_, _, _, _, txs, rfl, rfl, hsz, har'.below hq⟩ (HWT.out _ (List.mem_iff_getElem?.2 ⟨k, ht⟩))).mono ?_
        rintro e w5 ⟨r, ⟨rfl, hb5⟩, hr⟩
        rw [hr.2 rfl]
        exact ⟨rfl, hb5⟩)
      clear c0 c1 c2 c3 c4 d0 d1 d2 d3 d4 e e' ht har har' hsz
      obtain ⟨c0, c1, c2, c3, c4, d0, d1, d2, d3, d4, hb0⟩ := HK.out _ (Below.refl _ _)
      have e3 : (p.toList == p.toList) = true := by simp
      go_wp2
      go_region_held3 (fun w' => w'.cell? ⟨b, o + k * 5, none⟩ = some (.string p) ∧ w'.cell? ⟨b, o + k * 5 + 1, none⟩ = some (.int .i64 tk') ∧ w'.cell? ⟨b, o + k * 5 + 2, none⟩ = some (.int .i64 tn) ∧ w'.cell? ⟨b, o + k * 5 + 3, none⟩ = some (.string tsn) ∧ w'.cell? ⟨b, o + k * 5 + 4, none⟩ = some u1 ∧
          w'.cell? ⟨b2, o2 + k * 5, none⟩ = some (.string p) ∧ w'.cell? ⟨b2, o2 + k * 5 + 1, none⟩ = some (.int .i64 tk') ∧ w'.cell? ⟨b2, o2 + k * 5 + 2, none⟩ = some (.int .i64 tn) ∧ w'.cell? ⟨b2, o2 + k * 5 + 3, none⟩ = some (.string tsn) ∧ w'.cell? ⟨b2, o2 + k * 5 + 4, none⟩ = some u2 ∧ Below wr.heap.size wr w')
        (first | exact HK.out _ (by assumption) | exact HK.out _ (bel_drew (by assumption)) | exact HK.out _ (Below.drew (by assumption)) | exact HK.out _ (Below.trans (by assumption) (Below.mono (by assumption) (Below.size (by assumption)))) | go_keep)
        (first | (go_at_call 15; refine (HCALL.out _ (by first | assumption | exact Below.drew (by assumption))).mono ?_; rintro e w1 ⟨rfl, hb1⟩))
      have HB2 := Lib.hid (HB.out.trans ((bel_drew hb1).mono HB.out.size)); clear hb1
      go_wp2
      go_roundw
      case rel => exact ⟨k + 1, by omega, by go_num, HB2⟩
      case measure => simp [intOf]; omega
    · go_wp2
      go_ret
      exact ⟨rfl, HB.out⟩

set_option maxRecDepth 100000 in
set_option maxHeartbeats 400000 in
theorem ints_none (w : World) : Calls Try.prog 116 #[.slice none 0 0, .slice none 0 0] w (TrueB w) := by
  have HB : Hid (Below w.heap.size w w) := Lib.hid (Below.refl _ _)
  go_enter Try.func116, Try.ntmps116
  go_wp2
  go_loop [5] (fun i => i = .int .i64 0) (fun _ => 0)
  case atStart => rfl
  case round =>
    subst hrel
    go_wp2
    go_ret
    exact ⟨rfl, HB.out⟩

/-- The cells of a proof's node that holds a list of Binds alone. -/
def NodeAt (w : World) (p : Nat) (u : Value) : Prop := w.heap[p]? = some (.cells #[.int .i64 0, .slice none 0 0, .int .i64 0, u] 91 (0, 0))

set_option maxRecDepth 100000 in
set_option maxHeartbeats 1600000 in
theorem proof_any (p q : Nat) (u v : Value) (bs : List (ByteArray × T)) (lo lo' h : Nat) (w : World) (hl : bs.length ≤ 9223372036854775807) (hwt : ∀ x ∈ bs, wT x.2 ≤ 1048576) (hu : BsAt w lo h u bs) (hv : BsAt w lo' h v bs) (hp : NodeAt w p u) (hq : NodeAt w q v) :
    Calls Try.prog 63 #[.agg #[.slice (some ⟨p, 0, none⟩) 1 1], .agg #[.slice (some ⟨q, 0, none⟩) 1 1]] w (TrueB w) := by
  obtain ⟨a, cap, rfl⟩ := hu.slice
  obtain ⟨a', cap', rfl⟩ := hv.slice
  obtain ⟨n, hn⟩ : ∃ n, n = bs.length := ⟨_, rfl⟩
  have HC : Hid (∀ w', Below w.heap.size w w' → Calls Try.prog 117 #[.slice a bs.length cap, .slice a' bs.length cap'] w' (TrueB w')) := Lib.hid (fun w' hb => l22_any _ _ bs lo lo' h w' hl hwt (hu.below hb) (hv.below hb))
  rw [← hn] at hp hq HC
  obtain ⟨W0, hW0⟩ : ∃ W0, W0 = (w.alloc (.cells #[.slice (some ⟨p, 0, none⟩) 1 1] 94)).alloc (.cells #[.slice (some ⟨q, 0, none⟩) 1 1] 94) := ⟨_, rfl⟩
  have hb0 : Below w.heap.size w W0 := by rw [hW0]; exact ((Below.refl _ _).alloc (Nat.le_refl _) _).alloc (by simp) _
  have hs0 : W0.heap.size = w.heap.size + 2 := by rw [hW0]; simp
  have r0 : W0.heap[w.heap.size]? = some (.cells #[.slice (some ⟨p, 0, none⟩) 1 1] 94 (0, 0)) := by rw [hW0, Below.heap_alloc _ _ _ (by simp)]; exact heap_new _ _ rfl
  have r1 : W0.heap[w.heap.size + 1]? = some (.cells #[.slice (some ⟨q, 0, none⟩) 1 1] 94 (0, 0)) := by rw [hW0]; exact heap_new _ _ (by simp)
  have rp : NodeAt W0 p (.slice a n cap) := (hb0.block p (Array.getElem?_eq_some_iff.1 hp).1).trans hp
  have rq : NodeAt W0 q (.slice a' n cap') := (hb0.block q (Array.getElem?_eq_some_iff.1 hq).1).trans hq
  have HCELL : Hid (∀ w', Below W0.heap.size W0 w' → w'.cell? ⟨w.heap.size, 0, none⟩ = some (.slice (some ⟨p, 0, none⟩) 1 1) ∧ w'.cell? ⟨w.heap.size + 1, 0, none⟩ = some (.slice (some ⟨q, 0, none⟩) 1 1) ∧
      (w'.cell? ⟨p, 0, none⟩ = some (.int .i64 0) ∧ w'.cell? ⟨p, 1, none⟩ = some (.slice none 0 0) ∧ w'.cell? ⟨p, 2, none⟩ = some (.int .i64 0) ∧ w'.cell? ⟨p, 3, none⟩ = some (.slice a n cap)) ∧
      (w'.cell? ⟨q, 0, none⟩ = some (.int .i64 0) ∧ w'.cell? ⟨q, 1, none⟩ = some (.slice none 0 0) ∧ w'.cell? ⟨q, 2, none⟩ = some (.int .i64 0) ∧ w'.cell? ⟨q, 3, none⟩ = some (.slice a' n cap'))) := Lib.hid (fun w' hb => by
    have c0 := cell_on hb (cell_of_row W0 w.heap.size 0 _ _ _ r0)
    have c1 := cell_on hb (cell_of_row W0 (w.heap.size + 1) 0 _ _ _ r1)
    have p0 := cell_on hb (cell_of_row W0 p 0 _ _ _ rp)
    have p1 := cell_on hb (cell_of_row W0 p 1 _ _ _ rp)
    have p2 := cell_on hb (cell_of_row W0 p 2 _ _ _ rp)
    have p3 := cell_on hb (cell_of_row W0 p 3 _ _ _ rp)
    have q0 := cell_on hb (cell_of_row W0 q 0 _ _ _ rq)
    have q1 := cell_on hb (cell_of_row W0 q 1 _ _ _ rq)
    have q2 := cell_on hb (cell_of_row W0 q 2 _ _ _ rq)
    have q3 := cell_on hb (cell_of_row W0 q 3 _ _ _ rq)
    exact ⟨c0, c1, ⟨p0, p1, p2, p3⟩, ⟨q0, q1, q2, q3⟩⟩)
  have HB0 := Lib.hid hb0
  clear hl hwt hu hv hp hq hn hb0 hs0 r0 r1 rp rq
  go_enter Try.func63, Try.ntmps63
  obtain ⟨c0, c1, ⟨p0, p1, p2, p3⟩, ⟨q0, q1, q2, q3⟩⟩ := HCELL.out _ (Below.refl _ _)
  go_upto_region 1 with fail
  rw [← hW0]
  clear hW0
  go_wp2
  clear c0 c1 p0 p1 p2 p3 q0 q1 q2 q3
  go_loopw [5] (fun i wr => ∃ k : Nat, k ≤ 1 ∧ i = .int .i64 k ∧ Hid (Below W0.heap.size W0 wr)) (fun i _ => 1 - (intOf i).toNat)
  case atStart => exact ⟨0, Nat.zero_le _, rfl, Lib.hid (Below.refl _ _)⟩
  case round =>
    obtain ⟨k, hk, rfl, HB⟩ := hrel
    obtain ⟨c0, c1, ⟨p0, p1, p2, p3⟩, ⟨q0, q1, q2, q3⟩⟩ := HCELL.out _ HB.out
    rcases (by omega : k = 0 ∨ k = 1) with rfl | rfl
    · obtain ⟨W1, hW1⟩ : ∃ W1, W1 = wr.alloc (.cells #[.int .i64 0, .slice none 0 0, .int .i64 0, .slice a n cap] 91) := ⟨_, rfl⟩
      have hb1 : Below wr.heap.size wr W1 := by rw [hW1]; exact (Below.refl _ _).alloc (Nat.le_refl _) _
      have r1 : W1.heap[wr.heap.size]? = some (.cells #[.int .i64 0, .slice none 0 0, .int .i64 0, .slice a n cap] 91 (0, 0)) := by rw [hW1]; exact heap_new _ _ rfl
      have hs1 : W1.heap.size = wr.heap.size + 1 := by rw [hW1]; simp
      obtain ⟨W2, hW2⟩ : ∃ W2, W2 = W1.alloc (.cells #[.int .i64 0, .slice none 0 0, .int .i64 0, .slice a' n cap'] 91) := ⟨_, rfl⟩
      have hb2 : Below W1.heap.size W1 W2 := by rw [hW2]; exact (Below.refl _ _).alloc (Nat.le_refl _) _
      have r2 : W2.heap[W1.heap.size]? = some (.cells #[.int .i64 0, .slice none 0 0, .int .i64 0, .slice a' n cap'] 91 (0, 0)) := by rw [hW2]; exact heap_new _ _ rfl
      have r1' := (hb2.block _ (by omega)).trans r1
      have HB2 := Lib.hid (bel_two (bel_two HB.out hb1) hb2)
      have HN : Hid (∀ w', Below W2.heap.size W2 w' → (w'.cell? ⟨wr.heap.size, 0, none⟩ = some (.int .i64 0) ∧ w'.cell? ⟨wr.heap.size, 1, none⟩ = some (.slice none 0 0) ∧ w'.cell? ⟨wr.heap.size, 2, none⟩ = some (.int .i64 0) ∧ w'.cell? ⟨wr.heap.size, 3, none⟩ = some (.slice a n cap)) ∧
          (w'.cell? ⟨W1.heap.size, 0, none⟩ = some (.int .i64 0) ∧ w'.cell? ⟨W1.heap.size, 1, none⟩ = some (.slice none 0 0) ∧ w'.cell? ⟨W1.heap.size, 2, none⟩ = some (.int .i64 0) ∧ w'.cell? ⟨W1.heap.size, 3, none⟩ = some (.slice a' n cap'))) := Lib.hid (fun w' hb => by
        exact ⟨⟨cell_on hb (cell_of_row W2 wr.heap.size 0 _ _ _ r1'), cell_on hb (cell_of_row W2 wr.heap.size 1 _ _ _ r1'), cell_on hb (cell_of_row W2 wr.heap.size 2 _ _ _ r1'), cell_on hb (cell_of_row W2 wr.heap.size 3 _ _ _ r1')⟩,
          ⟨cell_on hb (cell_of_row W2 W1.heap.size 0 _ _ _ r2), cell_on hb (cell_of_row W2 W1.heap.size 1 _ _ _ r2), cell_on hb (cell_of_row W2 W1.heap.size 2 _ _ _ r2), cell_on hb (cell_of_row W2 W1.heap.size 3 _ _ _ r2)⟩⟩)
      have HS1 := Lib.hid hs1
      clear hb2 r1 r2 r1' hs1
      go_upto_region 7 with fail
      rw [← hW1]
      clear hW1
      clear c0 c1 p0 p1 p2 p3 q0 q1 q2 q3
      obtain ⟨c0, c1, ⟨p0, p1, p2, p3⟩, ⟨q0, q1, q2, q3⟩⟩ := HCELL.out _ (bel_two HB.out hb1)
      clear hb1
      go_upto_region 8 with fail
      rw [← hW2]
      clear hW2 c0 c1 p0 p1 p2 p3 q0 q1 q2 q3
      obtain ⟨⟨p0, p1, p2, p3⟩, ⟨q0, q1, q2, q3⟩⟩ := HN.out _ (Below.refl _ _)
      go_wp2_with fail
      refine (ints_none _).mono ?_
      rintro e w3 ⟨rfl, hb3⟩
      clear p0 p1 p2 p3 q0 q1 q2 q3
      obtain ⟨⟨p0, p1, p2, p3⟩, ⟨q0, q1, q2, q3⟩⟩ := HN.out _ hb3
      have HB3 := Lib.hid (bel_two HB2.out hb3)
      clear hb3
      go_wp2_with fail
      refine (HC.out _ (bel_two HB0.out HB3.out)).mono ?_
      rintro e w4 ⟨rfl, hb4⟩
      have HB4 := Lib.hid (bel_two HB3.out hb4)
      clear hb4 p0 p1 p2 p3 q0 q1 q2 q3
      go_wp2
      go_roundw
      case rel => exact ⟨1, by omega, by go_num, HB4⟩
      case measure => simp [intOf]
    · have HBF := Lib.hid (bel_two HB0.out HB.out)
      go_wp2
      go_ret
      exact ⟨rfl, HBF.out⟩

set_option maxRecDepth 100000 in
set_option maxHeartbeats 1600000 in
/-- Two readings of one list of Binds: laws.sameBinds tells that they are the same. -/
theorem sameBs_any (u v : Value) (bs : List (ByteArray × T)) (lo lo' h h' : Nat) (w : World) (hl : bs.length ≤ 9223372036854775807) (hwt : ∀ x ∈ bs, wT x.2 ≤ 1048576) (hu : BsAt w lo h u bs) (hv : BsAt w lo' h' v bs) :
    Calls Try.prog 17 #[u, v] w (TrueB w) := by
  obtain ⟨W2, hW2⟩ : ∃ W2, W2 = (w.alloc (.cells #[.int .i64 0, .slice none 0 0, .int .i64 0, u] 91)).alloc (.cells #[.int .i64 0, .slice none 0 0, .int .i64 0, v] 91) := ⟨_, rfl⟩
  have hb2 : Below w.heap.size w W2 := by rw [hW2]; exact ((Below.refl _ _).alloc (Nat.le_refl _) _).alloc (by simp) _
  have r1 : NodeAt W2 w.heap.size u := by unfold NodeAt; rw [hW2, Below.heap_alloc _ _ _ (by simp)]; exact heap_new _ _ rfl
  have r2 : NodeAt W2 (w.heap.size + 1) v := by unfold NodeAt; rw [hW2]; exact heap_new _ _ (by simp)
  have HC := Lib.hid (proof_any w.heap.size (w.heap.size + 1) u v bs lo lo' (max h h') W2 hl hwt ((hu.two hv).1.below hb2) ((hu.two hv).2.below hb2) r1 r2)
  have HB2 := Lib.hid hb2
  obtain ⟨a, cap, rfl⟩ := hu.slice
  obtain ⟨a', cap', rfl⟩ := hv.slice
  clear hu hv hl hwt r1 r2 hb2
  go_enter Try.func17, Try.ntmps17
  go_wp2_with fail
  rw [← hW2]
  clear hW2
  refine HC.out.mono ?_
  rintro e w3 ⟨rfl, hb3⟩
  have HB3 := Lib.hid (bel_two HB2.out hb3)
  clear hb3
  go_wp2
  go_ret
  exact ⟨rfl, HB3.out⟩
end Go.Proofs.Yteelakhaaipebaa
namespace Go.Proofs.Yteelakhaaipebaa
open Go

/-- The bytes of all strings together. -/
def total (ps : List ByteArray) : Nat := (ps.map (·.size)).sum
theorem total_snoc (ps : List ByteArray) (p : ByteArray) : total (ps ++ [p]) = total ps + p.size := by simp [total]
theorem take_next {α : Type} (l : List α) (k : Nat) (x : α) (h : l[k]? = some x) : l.take (k + 1) = l.take k ++ [x] := by
  rw [List.take_add_one, h]; rfl
theorem total_take_le (ps : List ByteArray) (k : Nat) : total (ps.take k) ≤ total ps := by
  have h : total ps = total (ps.take k) + total (ps.drop k) := by
    unfold total
    rw [← List.sum_append, ← List.map_append, List.take_append_drop]
  omega

theorem join_length (sep : List UInt8) (ps : List ByteArray) : (Lib.join (ps.map (·.data.toList)) sep).length ≤ total ps + ps.length * sep.length := by
  cases ps with
  | nil => simp [Lib.join_nil]
  | cons p r =>
    rw [List.map_cons, Lib.join_cons]
    have h : ∀ r : List ByteArray, (Lib.joinTail sep (r.map (·.data.toList))).length = total r + r.length * sep.length := by
      intro r
      induction r with
      | nil => simp [Lib.joinTail, total]
      | cons q r ih =>
        have e : Lib.joinTail sep ((q :: r).map (·.data.toList)) = sep ++ q.data.toList ++ Lib.joinTail sep (r.map (·.data.toList)) := by simp [Lib.joinTail]
        have e2 : total (q :: r) = q.size + total r := by simp [total]
        have e3 : q.data.toList.length = q.size := by simp
        rw [e, List.length_append, List.length_append, ih, e2, e3, List.length_cons, Nat.add_mul]
        omega
    have e2 : total (p :: r) = p.size + total r := by simp [total]
    have e3 : p.data.toList.length = p.size := by simp
    rw [List.length_append, h r, e2, e3, List.length_cons, Nat.add_mul]
    omega

end Go.Proofs.Yteelakhaaipebaa
namespace Go.Proofs.Yteelakhaaipebaa
open Go.RowKit

theorem infoStr' : (Try.prog.info? 9).map (fun i => (i.zero, i.size, i.bytes)) = some (some (.string ByteArray.empty), 1, 16) := by kernel_rfl

/-- A slice of strings that came in. -/
theorem strsAt_of_open {w : World} {a : Addr} {len cap : Nat} {ss : List ByteArray} (hl : len ≤ ss.length)
    (hc : ∀ i, i < ss.length → w.cell? (a.add i) = some (.string (ss.getD i ByteArray.empty))) : StrsAt w (.slice (some a) len cap) (ss.take len) := by
  have hlen : (ss.take len).length = len := by simp; omega
  refine ⟨some a, cap, by rw [hlen], ?_⟩
  by_cases h0 : len = 0
  · left; rw [h0]; simp
  · right
    have h := hc 0 (by omega)
    have hs := World.cell?_spot h
    obtain ⟨b, o, sp⟩ := a
    have hsp : sp = none := by simpa [Addr.add] using hs
    subst hsp
    refine ⟨b, o, rfl, fun i p hp => ?_⟩
    have hi : i < len := by have := (List.getElem?_eq_some_iff.1 hp).1; omega
    have hx := hc i (by omega)
    have e : (⟨b, o, none⟩ : Addr).add i = ⟨b, o + i, none⟩ := by
      unfold Addr.add
      split
      · rename_i h; subst h; rfl
      · rfl
    rw [e] at hx
    rw [hx]
    rw [List.getElem?_take, if_pos hi] at hp
    simp [List.getD, hp]

theorem StrsAt.below {w w' : World} {v : Value} {ps : List ByteArray} (h : StrsAt w v ps) (hb : Below w.heap.size w w') : StrsAt w' v ps := by
  obtain ⟨a, cap, rfl, h⟩ := h
  refine ⟨a, cap, rfl, ?_⟩
  rcases h with h | ⟨b, o, rfl, h⟩
  · exact Or.inl h
  · refine Or.inr ⟨b, o, rfl, fun i p hp => ?_⟩
    have hc := h i p hp
    rw [hb.cell (World.block_lt_of_cell? w _ hc)]; exact hc
end Go.Proofs.Yteelakhaaipebaa
namespace Go.Proofs.Yteelakhaaipebaa
open Go.RowKit Go.Maps Go.WideMaps

theorem lawStr : Keyed Try.prog 9 := string_keyed Try.underlying9

/-- A set of the call's own that holds the strings ps. -/
def HoldsSet (w : World) (b : Nat) (ps : List ByteArray) : Prop := w.ownsMap Try.prog 9 (plainElem (H := Unit) Try.prog 4) b ps.length (Sset (H := Unit) ps)
def KnownEnd (ps : List ByteArray) (w : World) (e : Ending) (w' : World) : Prop :=
  ∃ b, e = .returned (.map (some b)) ∧ HoldsSet w' b ps ∧ w.heap.size ≤ b ∧ Below w.heap.size w w'

set_option maxRecDepth 100000 in
set_option maxHeartbeats 400000 in
theorem known_empty (a : Option Addr) (cap : Nat) (w : World) :
    Calls Try.prog 121 #[.slice a 0 cap] w (KnownEnd [] w) := by
  have hmm := @run_makeMap Try.prog
  go_enter Try.func121, Try.ntmps121
  go_wp2
  refine wp_loop_rounds 1 ?_
  rw [rounds_succ]
  go_wp2
  go_ret
  exact ⟨_, rfl, World.ownsMap_made _ _ _ _, Nat.le_refl _, (Below.refl _ _).alloc (Nat.le_refl _) _⟩

set_option maxRecDepth 100000 in
set_option maxHeartbeats 800000 in
theorem known_some (b o cap : Nat) (ps : List ByteArray) (w : World) (hl : ps.length ≤ 4194304) (hs : ∀ p ∈ ps, p.size ≤ maxLen)
    (hc : ∀ i p, ps[i]? = some p → w.cell? ⟨b, o + i, none⟩ = some (.string p)) :
    Calls Try.prog 121 #[.slice (some ⟨b, o, none⟩) ps.length cap] w (KnownEnd ps w) := by
  have HC := Lib.hid hc; clear hc
  have HS := Lib.hid hs; clear hs
  obtain ⟨n, hn⟩ : ∃ n, n = ps.length := ⟨_, rfl⟩
  rw [← hn] at hl ⊢
  have HN := Lib.hid hn; clear hn
  have hmm := @run_makeMap Try.prog
  go_enter Try.func121, Try.ntmps121
  go_wp2
  go_loopw [9] (fun i wr => ∃ k : Nat, k ≤ n ∧ i = .int .i64 k ∧ HoldsSet wr w.heap.size (ps.take k) ∧ Below w.heap.size w wr) (fun i _ => n - (intOf i).toNat)
  case atStart => exact ⟨0, Nat.zero_le _, rfl, World.ownsMap_made _ _ _ _, (Below.refl _ _).alloc (Nat.le_refl _) _⟩
  case round =>
    obtain ⟨k, hk, rfl, hown, hb⟩ := hrel
    have HB := Lib.hid hb; clear hb
    have HO := Lib.hid hown; clear hown
    by_cases hlt : k < n
    · obtain ⟨p, hp⟩ : ∃ p, ps[k]? = some p := ⟨_, List.getElem?_eq_getElem (by have := HN.out; omega)⟩
      have hc0 := HC.out k p hp
      have hcell : wr.cell? ⟨b, o + k, none⟩ = some (.string p) := by rw [HB.out.cell (World.block_lt_of_cell? w _ hc0)]; exact hc0
      clear hc0
      have hkey : keyOf Try.prog 9 (.string p) = some (.string (key p)) := WideMaps.keyOf_string_mk Try.underlying9 (HS.out p (List.mem_of_getElem? hp))
      have HK := Lib.hid hkey; clear hkey
      have hkl : (ps.take k).length = k := by rw [List.length_take]; have := HN.out; omega
      have HKL := Lib.hid hkl; clear hkl
      have hst : Sset (H := Unit) (ps.take (k + 1)) = (Sset (ps.take k)).put (.string (key p)) (.lit (.bool true)) := by rw [take_next ps k p hp, Sset_snoc]
      have HST := Lib.hid hst; clear hst hp
      go_wp2_with (first
        | (at_mapUpdate; refine wpList_mapUpdate_own _ rfl _ _ _ 144 rfl 9 4 lawStr Try.underlying144 (plainElem (H := Unit) Try.prog 4) w.heap.size (ps.take k).length _ rfl HO.out ?m1 _ _ _ rfl rfl HK.out _ [] (plainElem_bool Try.underlying4 true) ?_))
      case m1 => rw [HKL.out]; unfold maxLen; omega
      intro w1 hown1 hgrow1
      have hown2 : HoldsSet w1 w.heap.size (ps.take (k + 1)) := by
        unfold HoldsSet
        rw [HST.out]
        exact hown1.mono (by simp only [List.length_take]; have := HN.out; omega)
      have hb2 := HB.out.grown hgrow1 HB.out.size (fun j hj => by cases hj; exact Nat.le_refl _)
      have HO2 := Lib.hid hown2; clear hown1 hown2
      have HB2 := Lib.hid hb2; clear hb2 hgrow1
      go_wp2
      go_roundw
      case rel => exact ⟨k + 1, by omega, by go_num, HO2.out, HB2.out⟩
      case measure => simp [intOf]; omega
    · have HD : Hid (ps.take k = ps) := Lib.hid (by
        have hkn : k = ps.length := by have := HN.out; omega
        rw [hkn, List.take_length])
      go_wp2
      go_ret
      refine ⟨_, rfl, ?_, Nat.le_refl _, HB.out⟩
      have h := HO.out
      rw [HD.out] at h
      exact h

theorem known_any (v : Value) (ps : List ByteArray) (w : World) (hl : ps.length ≤ 4194304) (hs : ∀ p ∈ ps, p.size ≤ maxLen) (hv : StrsAt w v ps) :
    Calls Try.prog 121 #[v] w (KnownEnd ps w) := by
  obtain ⟨a, cap, rfl, hv⟩ := hv
  rcases hv with rfl | ⟨b, o, rfl, hv⟩
  · exact known_empty a cap w
  · exact known_some b o cap ps w hl hs hv
end Go.Proofs.Yteelakhaaipebaa
namespace Go.Proofs.Yteelakhaaipebaa
open Go.RowKit

/-- What a sort of names hands back. -/
def SortEnd (ps : List ByteArray) (w : World) (e : Ending) (w' : World) : Prop :=
  ∃ (v : Value) (rs : List ByteArray), e = .returned v ∧ SortedOf ps rs ∧ rs.length ≤ ps.length ∧ w'.ownsRow w.heap.size 9 1 v rs.length (rs.map Value.string) ∧ Below w.heap.size w w'
end Go.Proofs.Yteelakhaaipebaa
namespace Go.Proofs.Yteelakhaaipebaa
open Go.RowKit Go.Maps Go.Sort Go.Shelf

theorem sortsK (m : Nat) : AnyZ.SortsIn Try.prog Try.sortedK_ren Fence.wide m :=
  ⟨fun blk off cap ss W hH hblk hsz => callsIn_wide.2 (AnyM.slices_Sort_string Try.sortK blk off cap ss W hH hblk hsz),
   fun p cap W => callsIn_wide.2 (AnyM.slices_Sort_string_none Try.sortK p cap W)⟩

theorem mapKeys_any (mb : Option Nat) (W : World) : Calls Try.prog 120 #[.map mb] W fun e w' =>
    e = .returned (.func (.func 145) #[] #[.pointer (some ⟨W.heap.size, 0, none⟩)]) ∧ w' = W.alloc (.cells #[.map mb] 144) :=
  (callsIn_wide (n := 5)).1 (AnyZ.keys_in Try.keysK Fence.wide 5 trivial rfl mb W)

def SortedEnd (ks : List (List UInt8)) (w : World) (e : Ending) (w' : World) : Prop :=
  ∃ (v : Value) (ss : List (List UInt8)), e = .returned v ∧ ss.Perm ks ∧ w'.ownsRow w.heap.size 9 1 v ss.length ((ss.mergeSort leB).map encStr) ∧ Below w.heap.size w w'

set_option maxHeartbeats 1000000 in
/-- The sorted keys of a map, from the world ahead of the call that made the iterator. -/
theorem sortedKeys_any {H : Type} (b nn : Nat) (D0 : DataW H) (R : Value → Option (DataW H × List MemPlace)) (w : World) (hown : w.ownsMap Try.prog 9 R b nn D0) (hmax : Maps.size D0 ≤ 4194304) :
    Calls Try.prog 119 #[.func (.func 145) #[] #[.pointer (some ⟨w.heap.size, 0, none⟩)]] (w.alloc (.cells #[.map (some b)] 144)) (SortedEnd (strKeys D0) (w.alloc (.cells #[.map (some b)] 144))) := by
  have hbl := hown.lt
  have hseq : SeqGives Fence.wide 2 Try.prog 145 #[.pointer (some ⟨w.heap.size, 0, none⟩)] encStr (fun ss => ss.Perm (strKeys D0)) (Maps.size D0) (w.alloc (.cells #[.map (some b)] 144)) :=
    AnyZ.keys_gives (ρ := Try.keysK_ren) { Try.keysK with } Fence.wide _ trivial rfl (by omega) w.heap.size b nn D0 _ (by simp) (by simp) (by
      obtain ⟨es, clock, hb, Ft, hs, hD⟩ := hown
      exact ⟨es, clock, (Below.heap_alloc _ _ b hbl).trans hb, Ft, hs, hD⟩)
  have h := AnyZ.sorted_in Try.sortedK Fence.wide 5 trivial trivial trivial trivial rfl (by omega) (sortsK _) (enters_of Try.func144 (by kernel_rfl) rfl) 145 #[.pointer (some ⟨w.heap.size, 0, none⟩)] trivial (enters_of Try.func145 (by kernel_rfl) rfl) _ _ (by unfold maxLen; omega) (by omega) _ hseq
  exact ((callsIn_wide (n := 5)).1 h).mono fun e w' ⟨v, ss, he, hp, hrow, _, hb⟩ => ⟨v, ss, he, hp, hrow, hb⟩

theorem sort_of_keys {ps : List ByteArray} {w w1 : World} {b : Nat} (hset : HoldsSet w1 b ps) (hb : Below w.heap.size w w1) (e : Ending) (w' : World)
    (h : SortedEnd (strKeys (Sset (H := Unit) ps)) (w1.alloc (.cells #[.map (some b)] 144)) e w') : SortEnd ps w e w' := by
  obtain ⟨v, ss, he, hperm, hrow, hb2⟩ := h
  obtain ⟨k1, k2, k3⟩ := keys_Sset ps hset Try.underlying9
  obtain ⟨l1, l2⟩ := sorted_len ps ss hperm
  refine ⟨v, strs (ss.mergeSort leB), he, sorted_strs ps ss k2 hperm k1 k3, by omega, ?_, ?_⟩
  · rw [l1, strs_vals]
    exact own_low hrow (by have := hb.size; simp; omega)
  · exact (hb.alloc hb.size _).trans (hb2.mono (by have := hb.size; simp; omega))

set_option maxRecDepth 100000 in
set_option maxHeartbeats 400000 in
theorem iSort_any (v : Value) (ps : List ByteArray) (w : World) (hl : ps.length ≤ 4194304) (hs : ∀ p ∈ ps, p.size ≤ maxLen) (hv : StrsAt w v ps) :
    Calls Try.prog 68 #[v] w (SortEnd ps w) := by
  have hk := known_any v ps w hl hs hv
  have HK := Lib.hid hk; clear hk
  clear hv
  go_enter Try.func68, Try.ntmps68
  go_wp2_with fail
  refine HK.out.mono ?_
  rintro e w1 ⟨m, rfl, hown, _, hb⟩
  have HB := Lib.hid hb; clear hb
  have HO := Lib.hid hown; clear hown
  go_wp2_with fail
  refine (mapKeys_any (some m) _).mono ?_
  rintro e w2 ⟨rfl, rfl⟩
  go_wp2_with fail
  refine (sortedKeys_any m ps.length (Sset (H := Unit) ps) _ w1 HO.out (by have := size_Sset_le (H := Unit) ps; omega)).mono ?_
  rintro e w3 he
  obtain ⟨u, rs, rfl, h1, h2, h3, h4⟩ := sort_of_keys HO.out HB.out e w3 he
  have H1 := Lib.hid h1; clear h1
  have H3 := Lib.hid h3; clear h3
  have H4 := Lib.hid h4; clear h4 he
  go_wp2
  go_ret
  exact ⟨_, rs, rfl, H1.out, h2, H3.out, H4.out⟩
end Go.Proofs.Yteelakhaaipebaa
namespace Go.Proofs.Yteelakhaaipebaa
open Go.RowKit Go.Maps Go.WideMaps

/-- The Binds of the names rs, in that order. -/
def restB (a : List (ByteArray × T)) (rs : List ByteArray) : List (ByteArray × T) := rs.filterMap (fun nm => (findB a nm).map (fun t => (nm, t)))
theorem restB_app (a : List (ByteArray × T)) (r s : List ByteArray) : restB a (r ++ s) = restB a r ++ restB a s := by simp [restB]
theorem restB_len (a : List (ByteArray × T)) (rs : List ByteArray) : (restB a rs).length ≤ rs.length := by unfold restB; exact List.length_filterMap_le _ _
theorem restB_m (a : List (ByteArray × T)) (rs : List ByteArray) (hw : wBs a ≤ 1048576) : mBs (restB a rs) ≤ rs.length * 12582916 := by
  induction rs with
  | nil => simp [restB, mBs]
  | cons x r ih =>
    have h1 : restB a (x :: r) = restB a [x] ++ restB a r := restB_app a [x] r
    rw [h1, mBs_app, List.length_cons, Nat.add_mul]
    have h2 : mBs (restB a [x]) ≤ 12582916 := by
      unfold restB
      cases e : findB a x with
      | none => simp [e, mBs]
      | some t => have h4 := findB_w e; have h5 := cT_le t; simp [e, mBs]; omega
    omega
theorem own_formR {w : World} {B n size : Nat} {e : TypeId} {v : Value} {xs : List Value} (h : w.ownsRow B e size v n xs) : ∃ a c, v = .slice a n c := by
  rcases h.2 with ⟨rfl, h0⟩ | ⟨g, cap, cur, rfl, _⟩
  · exact ⟨none, 0, by rw [h0]⟩
  · exact ⟨_, _, rfl⟩
theorem tk1 {rs : List ByteArray} {k : Nat} {x : ByteArray} (h : rs[k]? = some x) : rs.take (k + 1) = rs.take k ++ [x] := by rw [List.take_add_one, h]; rfl
theorem row_at {w : World} {B n : Nat} {v : Value} {rs : List ByteArray} (ho : w.ownsRow B 9 1 v n (rs.map Value.string)) (hn : n = rs.length) {k : Nat} {x : ByteArray} (hx : rs[k]? = some x) : ∃ g c, v = .slice (some ⟨g, 0, none⟩) n c ∧ w.cell? ⟨g, k, none⟩ = some (.string x) := by
  rcases ho.2 with ⟨_, h0⟩ | ⟨g, cap, cur, e, _⟩
  · have := (List.getElem?_eq_some_iff.1 hx).1; omega
  · refine ⟨g, cap, e, ?_⟩
    have h := ho.cells (g := g) (by rw [e]; rfl) k (.string x) (by simp [hx])
    have e2 : (⟨g, 0, none⟩ : Addr).add k = ⟨g, k, none⟩ := by
      unfold Addr.add
      split
      · rename_i h0; rw [h0]
      · simp
    rw [e2] at h; exact h

set_option maxRecDepth 100000 in
set_option maxHeartbeats 3200000 in
theorem restI_any (u v : Value) (a : List (ByteArray × T)) (ps rs : List ByteArray) (lo ha : Nat) (w : World) (hwa : wBs a ≤ 1048576) (hu : BsAt w lo ha u a) (hl : ps.length ≤ 1048576) (hs : ∀ p ∈ ps, p.size ≤ maxLen) (hv : StrsAt w v ps) (hrs : SortedOf ps rs) :
    Calls Try.prog 20 #[u, v] w (CopyBE (restB a rs) w) := by
  obtain ⟨i0, hi, hz0, hz1, hz2⟩ := info_parts infoBind
  have HI := Lib.hid hi; clear hi
  have HZ0 := Lib.hid hz0; clear hz0
  have HZ1 := Lib.hid hz1; clear hz1
  have HZ2 := Lib.hid hz2; clear hz2
  have hla := wBs_len a
  obtain ⟨la, hba, hc1⟩ := subOf_any u a lo ha w (by omega) hu
  have HC1 := Lib.hid hc1
  have HBA := Lib.hid hba
  have HWA := Lib.hid hwa
  have HV := Lib.hid hv
  have HL := Lib.hid (And.intro hl hs)
  have HRS := Lib.hid hrs
  clear hc1 hba hwa hv hl hs hrs hu hla
  go_enter Try.func20, Try.ntmps20
  go_wp2_with fail
  refine HC1.out.mono ?_
  rintro e w1 ⟨ba, rfl, hbal, hta, hb1⟩
  obtain ⟨W0, hW0⟩ : ∃ W0, W0 = w1.alloc (.cells #[.map (some ba)] 83) := ⟨_, rfl⟩
  have h10 : Below w1.heap.size w1 W0 := by rw [hW0]; exact (Below.refl _ _).alloc (Nat.le_refl _) _
  have HB0 := Lib.hid (bel_two hb1 h10)
  have r0 : W0.heap[w1.heap.size]? = some (.cells #[.map (some ba)] 83 (0, 0)) := by rw [hW0]; exact heap_new _ _ rfl
  have hs0 : W0.heap.size = w1.heap.size + 1 := by rw [hW0]; simp
  have HTA0 := Lib.hid (hta.below h10)
  have HR0 := Lib.hid (And.intro r0 hs0)
  clear r0 hs0 hta hb1 h10 hbal HC1
  go_upto_region 2 with fail
  rw [← hW0]
  clear hW0
  go_wp2_with fail
  refine (iSort_any v ps W0 (by have := HL.out.1; omega) HL.out.2 (HV.out.below HB0.out)).mono ?_
  rintro e w2 ⟨uv, rs', rfl, hso, hrl, hro, hb2⟩
  obtain rfl : rs = rs' := HRS.out.unique hso
  obtain ⟨n, hn⟩ : ∃ n, n = rs.length := ⟨_, rfl⟩
  rw [← hn] at hro hrl
  have hnl : n ≤ 1048576 := by have := HL.out.1; omega
  have HN : Hid (n = rs.length ∧ ∀ x ∈ rs, x.size ≤ maxLen) := Lib.hid ⟨hn, fun x hx => HL.out.2 x ((HRS.out.2 x).1 hx)⟩
  have HRO := Lib.hid hro
  obtain ⟨ra, rc, rfl⟩ := own_formR hro
  have HB2 := Lib.hid (bel_two HB0.out hb2)
  have HTA2 := Lib.hid (HTA0.out.below hb2)
  have HBA2 := Lib.hid (HBA.out.below HB2.out)
  have r2 : w2.heap[w1.heap.size]? = some (.cells #[.map (some ba)] 83 (0, 0)) := (hb2.block _ (by have := HR0.out.2; omega)).trans HR0.out.1
  have c2 := cell_of_row w2 w1.heap.size 0 _ _ _ r2
  simp at c2
  have HC2 := Lib.hid c2
  have hg0 : GrowB true (ha + 1) w2.heap.size (.slice none 0 0) [] w2 := GrowB.nil _ _ _ _
  have HG0 := Lib.hid hg0
  clear hso hrl hro hn hb2 r2 c2 hg0 HV HBA HTA0 HR0
  go_wp2
  go_loopw [16, 6] (fun i v wr => ∃ (j q : Nat) (ua : Option Addr) (uc : Nat), j ≤ n ∧ i = .int .i64 j ∧ v = .slice ua q uc ∧ q ≤ j ∧ Hid (q = (restB a (rs.take j)).length) ∧ Hid (GrowB true (ha + 1) w2.heap.size (.slice ua q uc) (restB a (rs.take j)) wr) ∧ Hid (Below w2.heap.size w2 wr)) (fun i _ _ => n - (intOf i).toNat)
  case atStart => exact ⟨0, 0, none, 0, Nat.zero_le _, rfl, rfl, Nat.le_refl _, Lib.hid rfl, HG0, Lib.hid (Below.refl _ _)⟩
  case round =>
    clear HG0
    obtain ⟨j, q, ua, uc, hj, rfl, rfl, hq, HQ, HG, HB⟩ := hrel
    by_cases hlt : j < n
    · obtain ⟨x, hx⟩ : ∃ x, rs[j]? = some x := ⟨_, List.getElem?_eq_getElem (by have := HN.out.1; omega)⟩
      obtain ⟨g, c', e, cx0⟩ := row_at HRO.out HN.out.1 hx
      obtain ⟨rfl, rfl⟩ : ra = some ⟨g, 0, none⟩ ∧ rc = c' := by simpa using e
      have cx := cell_on HB.out cx0
      have cs := cell_on HB.out HC2.out
      have hxs : x.size ≤ maxLen := HN.out.2 x (List.mem_iff_getElem?.2 ⟨j, hx⟩)
      have HFC := Lib.hid (find_anyH ba x a la lo ha wr (HTA2.out.below HB.out) (HBA2.out.below HB.out) hxs HWA.out)
      have HX := Lib.hid (And.intro hx hxs)
      clear cx0 e hx hxs
      go_wp2_with fail
      refine HFC.out.mono ?_
      rintro e w3 ⟨k9, n9, s9, a9, m9, c9, xs9, rfl, hr9, hs9, ho9, hb3⟩
      obtain ⟨W4, hW4⟩ : ∃ W4, W4 = w3.alloc (.cells #[.int .i64 k9, .int .i64 n9, .string s9, .slice a9 m9 c9] 29) := ⟨_, rfl⟩
      have hb34 : Below w3.heap.size w3 W4 := by rw [hW4]; exact (Below.refl _ _).alloc (Nat.le_refl _) _
      have hz4 : W4.heap.size = w3.heap.size + 1 := by rw [hW4]; simp
      have r4 : W4.heap[w3.heap.size]? = some (trow k9 n9 s9 (.slice a9 m9 c9)) := by rw [hW4]; exact heap_new _ _ rfl
      have hb4 : Below wr.heap.size wr W4 := bel_two hb3 hb34
      have HB4 := Lib.hid (HB.out.trans (hb4.mono HB.out.size))
      cases hfx : findB a x with
      | none =>
        simp only [Option.isSome_none]
        have HTS : Hid (restB a (rs.take (j + 1)) = restB a (rs.take j)) := Lib.hid (by rw [tk1 HX.out.1, restB_app]; simp [restB, hfx])
        have HG4 := Lib.hid (HG.out.below hb4)
        clear hr9 hs9 ho9 hb3 hb34 hz4 r4 hb4 hfx HFC cs cx
        go_upto_region 7 with fail
        rw [← hW4]
        clear hW4
        go_wp2
        go_roundw
        case rel => exact ⟨j + 1, q, ua, uc, by omega, by go_num, rfl, by omega, by rw [HTS.out]; exact HQ, by rw [HTS.out]; exact HG4, HB4⟩
        case measure => simp [intOf]; omega
      | some t =>
        rw [hfx] at hr9
        simp only [Option.getD_some] at hr9
        simp only [Option.isSome_some]
        have HTS : Hid (restB a (rs.take (j + 1)) = restB a (rs.take j) ++ [(x, t)]) := Lib.hid (by rw [tk1 HX.out.1, restB_app]; simp [restB, hfx])
        have hkt : Kept wr.heap.size W4.heap.size (KArgs true (ha + 1) wr.heap.size W4.heap.size (.slice a9 m9 c9) xs9) W4 := kargs_own ((ho9.keep (fun b _ h1 h2 => ⟨hb34.block b h2, trivial⟩)).wide (Nat.le_refl _) hb34.size) (Nat.le_succ _)
        obtain ⟨ys, hys, hnx⟩ := HG.out.next HQ.out HB.out.size hb4
        have HYS := Lib.hid (hys.alloc (.cells #[.string x, .int .i64 k9, .int .i64 n9, .string s9, .slice a9 m9 c9] 86))
        have HNX := Lib.hid (hnx x k9 n9 s9 _ xs9 HX.out.2 hs9 hkt)
        have HHR := Lib.hid hr9
        have HLO : Hid (w2.heap.size ≤ (W4.alloc (.cells #[.string x, .int .i64 k9, .int .i64 n9, .string s9, .slice a9 m9 c9] 86)).heap.size) := Lib.hid (by have := HB4.out.size; simp; omega)
        have HNEW := Lib.hid (news5 W4 (.string x) (.int .i64 k9) (.int .i64 n9) (.string s9) (.slice a9 m9 c9) 86 rfl)
        have HBR := Lib.hid HB.out
        obtain ⟨⟨y0, y1, y2, y3⟩, _⟩ := cells_of4 r4
        clear hr9 hs9 ho9 hb3 hb34 hz4 r4 hfx HFC cs cx hkt hys hnx
        go_upto_region 7 with fail
        rw [← hW4]
        clear hW4
        go_wp2_with (first | (at_builtin; refine wpList_append_lies _ rfl (.tmp 27) (.tmp 31) 24 rfl (w2.heap.size) 86 i0 (.agg #[.string ByteArray.empty, .int .i64 0, .int .i64 0, .string ByteArray.empty, .slice none 0 0]) 5 72 Try.underlying24 HI.out HZ0.out HZ1.out HZ2.out rfl (by decide) (.slice ua q uc) q ys rfl HYS.out ⟨W4.heap.size, 0, none⟩ 1 1 [.string x, .int .i64 k9, .int .i64 n9, .string s9, .slice a9 m9 c9] rfl rfl HNEW.out (by intro u hu; simp at hu; rcases hu with rfl | rfl | rfl | rfl | rfl <;> rfl) (by decide) (by unfold maxLen; omega) (by omega) HLO.out _ rfl ?_; intro g3 c3' w5 ho3 hg3 ha3 hl3; have HGOT3 := Lib.hid (HNX.out g3 c3' w5 ho3 hg3 ha3); clear ho3 hg3 ha3 hl3))
        go_roundw
        case rel => exact ⟨j + 1, q + 1, _, _, by omega, by go_num, rfl, by omega, by rw [HTS.out, List.length_append]; exact Lib.hid (by have := HQ.out; simp; omega), by rw [HTS.out, HHR.out]; exact Lib.hid HGOT3.out.1, Lib.hid (HB.out.trans (HGOT3.out.2.mono (Nat.le_refl _)))⟩
        case measure => simp [intOf]; omega
    · have hjn : j = n := by omega
      subst hjn
      have HT : Hid (rs.take j = rs) := Lib.hid (List.take_of_length_le (by have := HN.out.1; omega))
      rw [HT.out] at HG HQ
      have HRET : Hid (CopyBE (restB a rs) w (.returned (.slice ua q uc)) wr) := Lib.hid (by
        have hob := HG.out.obj (by have := HQ.out; unfold maxLen; omega)
        exact ⟨_, ha + 1, rfl, ⟨hob.1.low HB2.out.size, hob.2.wide HB2.out.size (Nat.le_refl _)⟩, bel_two HB2.out HB.out⟩)
      go_wp2
      go_ret
      exact HRET.out
end Go.Proofs.Yteelakhaaipebaa
