/-
  slices.Clone over terms: the same cells in a row of the call's own; impl.ownArgs puts such a row in the place of a term's arguments.
-/
import Derived.Test.YtooiiomfahomjaaOwnR
import Derived.Test.YtooiiomfahomjaaTermTo
import Derived.Laws.AppendOwn
namespace Go.Proofs.Ytooiiomfahomjaa
open Go.RowKit

theorem infoTermK : (Try.prog.info? 26).map (fun i => (i.zero, i.size, i.bytes)) = some (some (.agg #[.int .i64 0, .int .i64 0, .string ByteArray.empty, .slice none 0 0]), 4, 56) := by kernel_rfl
theorem own_formK {w : World} {B n size : Nat} {e : TypeId} {v : Value} {xs : List Value} (h : w.ownsRow B e size v n xs) : ∃ a c, v = .slice a n c := by
  rcases h.2 with ⟨rfl, h0⟩ | ⟨g, cap, cur, rfl, _⟩
  · exact ⟨none, 0, by rw [h0]⟩
  · exact ⟨_, _, rfl⟩

/-- The value's cells are those of vs, and the row is the call's own. -/
def CloneB (m : Nat) (vs : List Value) (w : World) (e : Ending) (w' : World) : Prop :=
  ∃ u, e = .returned u ∧ w'.ownsRow w.heap.size 26 4 u m vs ∧ Below w.heap.size w w'

set_option maxRecDepth 100000 in
set_option maxHeartbeats 800000 in
theorem clone_any (a : Option Addr) (m cap : Nat) (vs : List Value) (w : World) (hl : vs.length = m * 4) (hm : m ≤ 4194304) (h0 : a = none → m = 0) (hc : ∀ ad, a = some ad → ∀ j u, vs[j]? = some u → w.cell? (ad.add j) = some u) (h1 : ∀ u ∈ vs, u.oneCell' = true) :
    Calls Try.prog 48 #[.slice a m cap] w (CloneB m vs w) := by
  have q22 : ∀ (w : World) (a : Option Addr) (n c n' c' : Nat), (binOp .eql 24 (.slice a n c) (.slice none n' c')).run Try.prog w = .ok (.bool a.isNone) w := fun w a n c n' c' => Lib.run_eql_slice_nil w _ _ a n c n' c' Try.underlying24
  cases a with
  | none =>
    have e0 := h0 rfl
    subst e0
    have ev : vs = [] := List.eq_nil_of_length_eq_zero (by omega)
    subst ev
    clear hc h1
    go_enter Try.func48, Try.ntmps48
    go_wp2
    go_ret
    exact ⟨_, rfl, ⟨rfl, Or.inl ⟨rfl, rfl⟩⟩, Below.refl _ _⟩
  | some ad =>
    obtain ⟨i0, hi, hz0, hz1, hz2⟩ := info_parts infoTermK
    have HI := Lib.hid hi; clear hi
    have HZ0 := Lib.hid hz0; clear hz0
    have HZ1 := Lib.hid hz1; clear hz1
    have HZ2 := Lib.hid hz2; clear hz2
    have HC := Lib.hid (hc ad rfl); clear hc
    have H1 := Lib.hid h1; clear h1
    clear h0
    go_enter Try.func48, Try.ntmps48
    go_wp2_with (first | (at_builtin; refine wpList_append_own _ rfl (.tmp 5) (.tmp 6) 24 rfl w.heap.size 26 i0 (.agg #[.int .i64 0, .int .i64 0, .string ByteArray.empty, .slice none 0 0]) 4 56 Try.underlying24 HI.out HZ0.out HZ1.out HZ2.out rfl (by decide) _ _ _ rfl (World.ownsRow_lit w #[] 0 (Nat.le_refl _) (by decide) rfl) ad m cap vs rfl hl ?c1 H1.out ?c3 ?c4 ?c5 ?_))
    case c1 => intro j u hj; exact Lib.cell?_alloc_some _ (HC.out j u hj)
    case c3 => unfold maxLen; omega
    case c4 => omega
    case c5 => simp
    intro v' w1 hown hgrow _
    have hb : Below w.heap.size w w1 := ((Below.refl _ _).alloc (Nat.le_refl _) _).grown hgrow (by simp) (fun k hk => by simp [Value.ownBlock] at hk; omega)
    have HO := Lib.hid hown; clear hown hgrow
    have HB := Lib.hid hb; clear hb
    go_wp2
    go_ret
    exact ⟨_, rfl, HO.out, HB.out⟩

/-- impl.ownArgs: the fourth cell holds such a row. -/
def OwnB (b o m : Nat) (vs : List Value) (w : World) (e : Ending) (w' : World) : Prop :=
  e = .returned (.tuple #[]) ∧ ∃ u wc, w' = wc.setCell ⟨b, o + 3, none⟩ u ∧ wc.ownsRow w.heap.size 26 4 u m vs ∧ Below w.heap.size w wc

set_option maxRecDepth 100000 in
set_option maxHeartbeats 800000 in
theorem ownArgs_any (b o : Nat) (a : Option Addr) (m cap : Nat) (vs : List Value) (w : World) (hl : vs.length = m * 4) (hm : m ≤ 4194304) (h0 : a = none → m = 0) (hc : ∀ ad, a = some ad → ∀ j u, vs[j]? = some u → w.cell? (ad.add j) = some u) (h1 : ∀ u ∈ vs, u.oneCell' = true)
    (hcell : w.cell? ⟨b, o + 3, none⟩ = some (.slice a m cap)) (hfrz : w.frozen? ⟨b, o + 3, none⟩ = false) :
    Calls Try.prog 24 #[.pointer (some ⟨b, o, none⟩)] w (OwnB b o m vs w) := by
  have HCL := Lib.hid (clone_any a m cap vs w hl hm h0 hc h1)
  clear hc h1 h0
  have HCE := Lib.hid (And.intro hcell hfrz)
  go_enter Try.func24, Try.ntmps24
  go_wp2_with fail
  refine HCL.out.mono ?_
  rintro e w1 ⟨u, rfl, ho, hb⟩
  have hlt := World.block_lt_of_cell? w _ HCE.out.1
  have hcell1 : w1.cell? ⟨b, o + 3, none⟩ = some (.slice a m cap) := by rw [hb.cell hlt]; exact HCE.out.1
  have hfrz1 : w1.frozen? ⟨b, o + 3, none⟩ = false := (hb.frozen hlt).trans HCE.out.2
  rcases own_formK ho with ⟨a1, c1, rfl⟩
  have HO := Lib.hid ho; clear ho
  have HB := Lib.hid hb; clear hb hcell hfrz
  go_wp2
  go_end0
  exact ⟨rfl, _, w1, rfl, HO.out, HB.out⟩
end Go.Proofs.Ytooiiomfahomjaa
