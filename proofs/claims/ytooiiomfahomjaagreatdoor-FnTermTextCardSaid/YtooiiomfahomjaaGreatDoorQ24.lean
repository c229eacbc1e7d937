/-
  A row of arguments in the making: each argument's rows lie behind those of the ones before; what the model's reader leaves of its own cells. No walk.
  spec.l5Sees: does a word stand where the reader is.
  The cursor over the bytes of a draw: what its functions hand back lies within bounds, and they write nothing but the cursor.
-/
import Derived.Test.YtooiiomfahomjaaGreatDoorQ23
import Derived.Test.YtooiiomfahomjaaGreatDoorQ7
import Derived.Test.YtooiiomfahomjaaGreatDoorQ15
import Derived.Test.YtooiiomfahomjaaGreatDoorQ22
import Derived.Test.YtooiiomfahomjaaGreatDoorQ4
import Derived.WalkLawsBesides
import Derived.Lib.Hide
namespace Go.Proofs.YtooiiomfahomjaaGreatDoor
open Go.RowKit

theorem OwnR.le {Q : Nat → Prop} {w : World} {h h' lo hi : Nat} {u : Value} {ts : List T} (k : OwnR Q w h lo hi u ts) (hle : h ≤ h') : OwnR Q w h' lo hi u ts := by
  induction hle with
  | refl => exact k
  | step _ ih => exact ih.more

/-- What an append to a slice leaves. -/
structure Snoc (lo0 : Nat) (w : World) (u : Value) (m : Nat) (ys cs : List Value) (w' : World) (u' : Value) : Prop where
  size : w.heap.size ≤ w'.heap.size
  keep : ∀ b, b < w.heap.size → NotOwn u b → w'.heap[b]? = w.heap[b]?
  new : w'.ownsRow lo0 26 4 u' (m + 1) (ys ++ cs)
  ob : u'.ownBlock = u.ownBlock ∨ ∃ k, u'.ownBlock = some k ∧ w.heap.size ≤ k

/-- One argument more. -/
theorem OwnR.row {w : World} {lo0 lo hi H : Nat} {u : Value} {txs : List T} (ho : OwnR (fun _ => True) w (H + 1) lo hi u txs) (h0 : lo0 ≤ lo) (hn : txs = [] → u = .slice none 0 0) (hhi : hi ≤ w.heap.size) (hlw : lo ≤ w.heap.size) (hm : txs.length + 1 ≤ maxLen) :
    ∃ ys, w.ownsRow lo0 26 4 u txs.length ys ∧ (∀ j, u.ownBlock = some j → lo ≤ j ∧ j < hi) ∧
      ∀ w' u' ka na sa ua axs La Ra, Snoc lo0 w u txs.length ys [.int .i64 ka, .int .i64 na, .string sa, ua] w' u' → sa.size ≤ maxLen → lo ≤ La → hi ≤ La → Ra ≤ w.heap.size → OwnR (fun _ => True) w H La Ra ua axs →
        OwnR (fun _ => True) w' (H + 1) lo w'.heap.size u' (txs ++ [.node ka na sa axs]) := by
  have hrow : ∃ ys, w.ownsRow lo0 26 4 u txs.length ys ∧ (∀ j, u.ownBlock = some j → lo ≤ j ∧ j < hi) ∧ ∃ (V : Nat → Value) (L' R' : Nat → Nat),
      (∀ i kk nn s' tx, txs[i]? = some (T.node kk nn s' tx) → (s'.size ≤ maxLen ∧ ys[i * 4]? = some (.int .i64 kk) ∧ ys[i * 4 + 1]? = some (.int .i64 nn) ∧ ys[i * 4 + 2]? = some (.string s')) ∧ ys[i * 4 + 3]? = some (V i) ∧ (lo ≤ L' i ∧ R' i ≤ hi) ∧ (∀ j, u.ownBlock = some j → j < L' i ∨ R' i ≤ j) ∧ OwnR (fun _ => True) w H (L' i) (R' i) (V i) tx) ∧
      (∀ i j, i < j → j < txs.length → R' i ≤ L' j ∨ R' j ≤ L' i) := by
    by_cases ht : txs = []
    · subst ht
      rw [hn rfl]
      exact ⟨[], ⟨rfl, Or.inl ⟨rfl, rfl⟩⟩, fun j e => by simp [Value.ownBlock] at e, fun _ => undef, fun _ => 0, fun _ => 0, fun i _ _ _ _ hi => by simp at hi, fun i j _ h2 => by simp at h2⟩
    · obtain ⟨a, cap, e, hle, hc⟩ := ho
      obtain ⟨g, ys, V, L', R', rfl, hq, h1, h2, how, hxx, hdd⟩ := hc.resolve_left ht
      have how' := how
      rw [e] at how'
      refine ⟨ys, own_low how (by omega), fun j ej => ?_, V, L', R', fun i kk nn s' tx hi => ?_, hdd⟩
      · rw [e] at ej; simp [Value.ownBlock] at ej; subst ej; exact ⟨h1, h2⟩
      · obtain ⟨cc, y3, l1, l2, l3, hr⟩ := hxx i kk nn s' tx hi
        exact ⟨cc, y3, ⟨l1, l2⟩, fun j ej => by rw [e] at ej; simp [Value.ownBlock] at ej; subst ej; exact l3, hr⟩
  obtain ⟨ys, how, hnv, V, L', R', hxx, hdd⟩ := hrow
  refine ⟨ys, how, hnv, fun w' u' ka na sa ua axs La Ra A hsa hLl hLa hRa hoa => ?_⟩
  have hyl : ys.length = txs.length * 4 := how.1
  have hsz := A.size
  have hkb : ∀ b, b < w.heap.size → (∀ j, u.ownBlock = some j → b ≠ j) → w'.heap[b]? = w.heap[b]? := fun b hb h2 => A.keep b hb (fun e => h2 b e.symm rfl)
  obtain ⟨g', cap', rfl⟩ : ∃ g' cap', u' = .slice (some ⟨g', 0, none⟩) (txs.length + 1) cap' := by
    rcases A.new.2 with ⟨_, h0⟩ | ⟨g, c, cur, e, _⟩
    · omega
    · exact ⟨g, c, e⟩
  have hg' : u.ownBlock = some g' ∨ w.heap.size ≤ g' := by
    rcases A.ob with e | ⟨j, e, hj⟩
    · exact Or.inl e.symm
    · simp [Value.ownBlock] at e; subst e; exact Or.inr hj
  have hg'lt : g' < w'.heap.size := (A.new.lt g' rfl).2
  have hg'lo : lo ≤ g' := by
    rcases hg' with e | e
    · exact (hnv g' e).1
    · omega
  refine ⟨_, cap', by simp, by simpa using hm, Or.inr ⟨g', ys ++ [.int .i64 ka, .int .i64 na, .string sa, ua], fun i => if i = txs.length then ua else V i, fun i => if i = txs.length then La else L' i, fun i => if i = txs.length then Ra else R' i, rfl, trivial, hg'lo, hg'lt, ?_, fun i kk nn s' tx hi => ?_, fun i j h1 h2 => ?_⟩⟩
  · rw [List.length_append, List.length_singleton]
    refine ⟨A.new.1, ?_⟩
    rcases A.new.2 with ⟨_, h0⟩ | ⟨g, c, cur, e, hb, rest⟩
    · omega
    · cases e; exact Or.inr ⟨g', cap', cur, rfl, Nat.le_refl _, rest⟩
  · rcases Nat.lt_trichotomy i txs.length with hlt | hlt | hlt
    · rw [List.getElem?_append_left hlt] at hi
      obtain ⟨⟨d0, d1, d2, d3⟩, y3, l1, l3, hr⟩ := hxx i kk nn s' tx hi
      have e : i ≠ txs.length := by omega
      simp only [if_neg e]
      refine ⟨⟨d0, ?_, ?_, ?_⟩, ?_, l1.1, by omega, ?_, hr.keep fun b hb b1 b2 => ⟨hkb b (by omega) fun j ej ebj => ?_, trivial⟩⟩
      · rw [List.getElem?_append_left (by omega)]; exact d1
      · rw [List.getElem?_append_left (by omega)]; exact d2
      · rw [List.getElem?_append_left (by omega)]; exact d3
      · rw [List.getElem?_append_left (by omega)]; exact y3
      · rcases hg' with eg | eg
        · exact l3 g' eg
        · exact Or.inr (by omega)
      · have := l3 j ej; omega
    · subst hlt
      simp only [List.getElem?_concat_length, Option.some.injEq, T.node.injEq] at hi
      obtain ⟨rfl, rfl, rfl, rfl⟩ := hi
      simp only [if_true]
      refine ⟨⟨hsa, ?_, ?_, ?_⟩, ?_, by omega, by omega, ?_, hoa.keep fun b hb b1 b2 => ⟨hkb b (by omega) fun j ej ebj => ?_, trivial⟩⟩
      · rw [List.getElem?_append_right (by omega), hyl, Nat.sub_self]; rfl
      · rw [List.getElem?_append_right (by omega), hyl, show txs.length * 4 + 1 - txs.length * 4 = 1 by omega]; rfl
      · rw [List.getElem?_append_right (by omega), hyl, show txs.length * 4 + 2 - txs.length * 4 = 2 by omega]; rfl
      · rw [List.getElem?_append_right (by omega), hyl, show txs.length * 4 + 3 - txs.length * 4 = 3 by omega]; rfl
      · rcases hg' with eg | eg
        · have := (hnv g' eg).2; exact Or.inl (by omega)
        · exact Or.inr (by omega)
      · have := (hnv j ej).2; omega
    · rw [List.getElem?_eq_none (by simp; omega)] at hi; cases hi
  · rw [List.length_append, List.length_singleton] at h2
    have e : i ≠ txs.length := by omega
    simp only [if_neg e]
    by_cases e2 : j = txs.length
    · simp only [if_pos e2]
      obtain ⟨t, ht⟩ : ∃ t, txs[i]? = some t := ⟨_, List.getElem?_eq_getElem (by omega)⟩
      obtain ⟨k1, n1, s1, x1⟩ := t
      obtain ⟨_, _, l1, _, _⟩ := hxx i k1 n1 s1 x1 ht
      exact Or.inl (by omega)
    · simp only [if_neg e2]; exact hdd i j h1 (by omega)
end Go.Proofs.YtooiiomfahomjaaGreatDoor
namespace Go.Proofs.YtooiiomfahomjaaGreatDoor
open Go.RowKit

/-- The model's reader in memory. -/
abbrev RB (s : ByteArray) (at1 : Nat) (bad : Bool) : Obj := .cells #[.string s, .int .i64 at1, .bool bad] 45
theorem cells3r {Y : World} {b : Nat} {x0 x1 x2 : Value} {T : TypeId} (hb : Y.heap[b]? = some (.cells #[x0, x1, x2] T (0, 0))) : (Y.cell? ⟨b, 0, none⟩ = some x0 ∧ Y.cell? ⟨b, 1, none⟩ = some x1 ∧ Y.cell? ⟨b, 2, none⟩ = some x2) ∧
    (Y.frozen? ⟨b, 0, none⟩ = false ∧ Y.frozen? ⟨b, 1, none⟩ = false ∧ Y.frozen? ⟨b, 2, none⟩ = false) := by
  have a0 := cell_of_row Y b 0 _ _ _ hb
  have a1 := cell_of_row Y b 1 _ _ _ hb
  have a2 := cell_of_row Y b 2 _ _ _ hb
  simp at a0 a1 a2
  exact ⟨⟨a0, a1, a2⟩, frozen_of_row Y b 0 _ _ hb, frozen_of_row Y b 1 _ _ hb, frozen_of_row Y b 2 _ _ hb⟩

/-- The bytes p stand in L from place a on. -/
def Sees (L p : List UInt8) (a : Nat) : Prop := p <+: L.drop a
theorem sees_seg {L p : List UInt8} {a : Nat} (_ : a + p.length ≤ L.length) : Sees L p a ↔ seg L a (a + p.length) = p := by
  unfold Sees seg
  rw [show a + p.length - a = p.length by omega]
  constructor
  · rintro ⟨r, hr⟩
    rw [← hr, List.take_left]
  · intro h2
    exact ⟨(L.drop a).drop p.length, by conv => lhs; lhs; rw [← h2]
                                        exact List.take_append_drop _ _⟩
theorem sees_no {L p : List UInt8} {a : Nat} (h : ¬ a + p.length ≤ L.length) (hp : p ≠ []) : ¬ Sees L p a := by
  rintro ⟨r, hr⟩
  have := congrArg List.length hr
  have h1 := List.length_pos_iff.2 hp
  simp only [List.length_append, List.length_drop] at this
  omega

def SeesEnd (s p : ByteArray) (a : Nat) (w : World) (e : Ending) (w' : World) : Prop := ∃ q : Bool, e = .returned (.bool q) ∧ (q = true ↔ Sees s.data.toList p.data.toList a) ∧ ∃ n, w' = w.drewN n

set_option maxRecDepth 100000 in
set_option maxHeartbeats 800000 in
theorem sees_any (rb : Nat) (s p : ByteArray) (a : Nat) (bad : Bool) (w : World) (hs : s.size ≤ 600) (ha : a ≤ 1000) (hp : p.size ≤ 10) (hp0 : 0 < p.size) (hr : w.heap[rb]? = some (RB s a bad)) :
    Calls Tryz.prog 47 #[.pointer (some ⟨rb, 0, none⟩), .string p] w (SeesEnd s p a w) := by
  have hsl : s.data.toList.length = s.size := by simp
  have hpl : p.data.toList.length = p.size := by simp
  have HS := Lib.hid hsl; clear hsl
  have HP := Lib.hid hpl; clear hpl
  obtain ⟨⟨c0, c1, c2⟩, _⟩ := cells3r hr
  clear hr
  have e1 : IntKind.i64.wrap ((a : Int) + (p.size : Int)) = (a : Int) + (p.size : Int) := IntWalk.i64_in _ (by omega)
  by_cases h : a + p.size ≤ s.size
  · have h1 : decide ((a : Int) + (p.size : Int) ≤ (s.size : Int)) = true := by rw [decide_eq_true_iff]; omega
    have h2 : (a : Int) ≤ (a : Int) + (p.size : Int) := by omega
    have h3 : ((a : Int) + (p.size : Int)).toNat = a + p.size := by omega
    have h4 : (0 : Int) ≤ (a : Int) + (p.size : Int) := by omega
    have HQ : Hid ((((s.extract a (a + p.size)).toList == p.toList) = true) ↔ Sees s.data.toList p.data.toList a) := Lib.hid (by
      rw [same_iff, sees_seg (by rw [HP.out]; have := HS.out; omega), HP.out, ← extract_seg]
      exact ⟨fun e => by rw [e], fun e => key_inj e⟩)
    go_enter Tryz.func47, Tryz.ntmps47
    go_wp2
    go_quiet (fail)
    go_wp2
    go_ret
    exact ⟨_, rfl, HQ.out, _, rfl⟩
  · have h1 : decide ((a : Int) + (p.size : Int) ≤ (s.size : Int)) = false := by rw [decide_eq_false_iff_not]; omega
    have HQ : Hid (¬ Sees s.data.toList p.data.toList a) := Lib.hid (sees_no (by rw [HS.out, HP.out]; exact h) (fun e => by have h0 := HP.out; rw [e] at h0; simp at h0; omega))
    clear h
    go_enter Tryz.func47, Tryz.ntmps47
    go_wp2
    go_quiet (fail)
    go_wp2
    go_ret
    exact ⟨false, rfl, ⟨fun e => (by cases e), fun k => absurd k HQ.out⟩, _, rfl⟩
end Go.Proofs.YtooiiomfahomjaaGreatDoor
namespace Go.Proofs.YtooiiomfahomjaaGreatDoor
open Go.RowKit

theorem ofInt64_nat (m : Nat) (h : m < 18446744073709551616) : (BitVec.ofInt 64 (m : Int)).toNat = m := by
  rw [BitVec.ofInt_natCast, BitVec.toNat_ofNat]; exact Nat.mod_eq_of_lt h
theorem and_small (a : Int) (m : Nat) (hm : m < 4611686018427387904) : 0 ≤ bits .and .i64 a (m : Int) ∧ bits .and .i64 a (m : Int) ≤ m := by
  have e : bits .and .i64 a (m : Int) = IntKind.i64.wrap ((BitVec.ofInt 64 a &&& BitVec.ofInt 64 (m : Int)).toNat : Int) := rfl
  have hle : (BitVec.ofInt 64 a &&& BitVec.ofInt 64 (m : Int)).toNat ≤ m := by
    rw [BitVec.toNat_and, ofInt64_nat m (by omega)]; exact Nat.and_le_right
  rw [e, IntWalk.i64_in _ (by omega)]
  omega

theorem and_255 (a : Int) : 0 ≤ bits .and .i64 a 255 ∧ bits .and .i64 a 255 ≤ 255 := by simpa using and_small a 255 (by decide)

/-- The bytes of a draw: the slice value cv of len bytes, all of whose cells hold bytes, below block B. -/
def CodeAt (w : World) (B : Nat) (cv : Value) (len : Nat) : Prop :=
  len ≤ 1048576 ∧ ∃ a cap, cv = .slice a len cap ∧ (len = 0 ∨ ∃ b o, a = some ⟨b, o, none⟩ ∧ b < B ∧ ∀ j, j < len → ∃ z : Int, 0 ≤ z ∧ z ≤ 255 ∧ w.cell? ⟨b, o + j, none⟩ = some (.int .u8 z))
/-- The cursor in block B over these bytes. -/
def CurAt (w : World) (B : Nat) (cv : Value) (len : Nat) : Prop :=
  ∃ (i : Nat) (h : Int), i ≤ len ∧ w.heap[B]? = some (.cells #[cv, .int .i64 i, .int .i64 h] 54 (0, 0))

theorem CodeAt.grown {w w' : World} {B : Nat} {cv : Value} {len : Nat} (h : CodeAt w B cv len) (hB : B < w.heap.size) (hg : w.grownBy w' (some B)) : CodeAt w' B cv len := by
  obtain ⟨h1, a, cap, rfl, h2⟩ := h
  refine ⟨h1, a, cap, rfl, ?_⟩
  rcases h2 with h2 | ⟨b, o, rfl, hb, hc⟩
  · exact Or.inl h2
  · refine Or.inr ⟨b, o, rfl, hb, fun j hj => ?_⟩
    obtain ⟨z, z0, z1, hz⟩ := hc j hj
    exact ⟨z, z0, z1, hg.cell hz (by simp; have := hB; omega)⟩

/-- What a draw of a number hands back. -/
def NumEnd (lo hi : Int) (B : Nat) (cv : Value) (len : Nat) (w : World) (e : Ending) (w' : World) : Prop :=
  ∃ x : Int, e = .returned (.int .i64 x) ∧ lo ≤ x ∧ x ≤ hi ∧ CurAt w' B cv len ∧ w.grownBy w' (some B)

theorem grown_set (w : World) (B j : Nat) (v : Value) : w.grownBy (w.setCell ⟨B, j, none⟩ v) (some B) :=
  ⟨rfl, rfl, rfl, by simp [World.setCell], fun k _ hk => Below.heap_setCell _ _ _ _ (fun e => hk (by rw [e]))⟩

theorem grown_drewN {w w' : World} {row : Option Nat} (h : w.grownBy w' row) (q : Nat) : w.grownBy (w'.drewN q) row := ⟨h.os, h.tape, h.output, h.size, h.block⟩
theorem fin_one {w : World} {B len : Nat} {cv : Value} {i : Nat} {h v x : Int} (hi : i ≤ len) (hB : w.heap[B]? = some (.cells #[cv, .int .i64 i, .int .i64 h] 54 (0, 0))) (hx : 0 ≤ x ∧ x ≤ 255) (q r : Nat) :
    NumEnd 0 255 B cv len w (.returned (.int .i64 x)) (((w.setCell ⟨B, 2, none⟩ (.int .i64 v)).drewN q).drewN r) :=
  ⟨x, rfl, hx.1, hx.2, ⟨i, v, hi, heap_setCell_same w B 2 _ _ (.int .i64 v) hB⟩, grown_drewN (grown_drewN (grown_set w B 2 _) q) r⟩
theorem fin_two {w : World} {B len : Nat} {cv : Value} {i : Nat} {h v x : Int} (hi : i < len) (hB : w.heap[B]? = some (.cells #[cv, .int .i64 i, .int .i64 h] 54 (0, 0))) (hx : 0 ≤ x ∧ x ≤ 255) (q : Nat) :
    NumEnd 0 255 B cv len w (.returned (.int .i64 x)) (((w.setCell ⟨B, 2, none⟩ (.int .i64 v)).setCell ⟨B, 1, none⟩ (.int .i64 ((i : Int) + 1))).drewN q) := by
  have h1 := heap_setCell_same w B 2 _ _ (.int .i64 v) hB
  exact ⟨x, rfl, hx.1, hx.2, ⟨i + 1, v, hi, heap_setCell_same (w.setCell ⟨B, 2, none⟩ (.int .i64 v)) B 1 _ _ (.int .i64 ((i : Int) + 1)) h1⟩, grown_drewN (grown_trans (grown_set w B 2 _) (grown_set _ B 1 _)) q⟩

set_option maxRecDepth 100000 in
set_option maxHeartbeats 800000 in
theorem byte_any (B : Nat) (cv : Value) (len : Nat) (w : World) (hcode : CodeAt w B cv len) (hcur : CurAt w B cv len) :
    Calls Tryz.prog 44 #[.pointer (some ⟨B, 0, none⟩)] w (NumEnd 0 255 B cv len w) := by
  obtain ⟨i, h, hi, hB⟩ := hcur
  obtain ⟨hlen, a, cap, rfl, hc⟩ := hcode
  have c0 : w.cell? ⟨B, 0, none⟩ = some (.slice a len cap) := by rw [cell_of_row w B 0 _ _ _ hB]; rfl
  have c1 : w.cell? ⟨B, 1, none⟩ = some (.int .i64 i) := by rw [cell_of_row w B 1 _ _ _ hB]; rfl
  have c2 : w.cell? ⟨B, 2, none⟩ = some (.int .i64 h) := by rw [cell_of_row w B 2 _ _ _ hB]; rfl
  have f1 : w.frozen? ⟨B, 1, none⟩ = false := frozen_of_row w B 1 _ _ hB
  have f2 : w.frozen? ⟨B, 2, none⟩ = false := frozen_of_row w B 2 _ _ hB
  have HB := Lib.hid hB; clear hB
  by_cases hlt : i < len
  · have hd : decide ((i : Int) < (len : Int)) = true := by simp; omega
    rcases hc with h0 | ⟨b, o, rfl, hb, hc⟩
    · omega
    · obtain ⟨z, z0, z1, hz⟩ := hc i hlt
      clear hc
      have hne : b ≠ B := by omega
      clear hb
      go_enter Tryz.func44, Tryz.ntmps44
      go_wp2
      go_quiet (fail)
      go_wp2
      go_quiet (fail)
      go_wp2
      go_quiet (fail)
      go_wp2
      go_ret
      exact fin_two hlt HB.out (and_255 _) _
  · have hd : decide ((i : Int) < (len : Int)) = false := by simp; omega
    clear hc
    go_enter Tryz.func44, Tryz.ntmps44
    go_wp2
    go_quiet (fail)
    go_wp2
    go_quiet (fail)
    go_wp2
    go_ret
    exact fin_one hi HB.out (and_255 _) _ _

/-- What a draw leaves: the cursor over the same bytes, the bytes as they were. -/
theorem CurAt.lt {w : World} {B : Nat} {cv : Value} {len : Nat} (h : CurAt w B cv len) : B < w.heap.size := by
  obtain ⟨i, h, _, hB⟩ := h
  exact (Array.getElem?_eq_some_iff.1 hB).1

theorem mod_in (x : Int) {n : Nat} (h : 1 ≤ n) : 0 ≤ x % (n : Int) ∧ x % (n : Int) ≤ (n : Int) - 1 := by
  have h1 := Int.emod_nonneg x (show (n : Int) ≠ 0 by omega)
  have h2 := Int.emod_lt_of_pos x (show (0 : Int) < (n : Int) by omega)
  omega

set_option maxRecDepth 100000 in
set_option maxHeartbeats 800000 in
theorem below_any (B : Nat) (cv : Value) (len n : Nat) (w : World) (hn1 : 1 ≤ n) (hn2 : n ≤ 1000000) (hcode : CodeAt w B cv len) (hcur : CurAt w B cv len) :
    Calls Tryz.prog 24 #[.pointer (some ⟨B, 0, none⟩), .int .i64 n] w (NumEnd 0 ((n : Int) - 1) B cv len w) := by
  have HC := Lib.hid hcode; clear hcode
  have HU := Lib.hid hcur; clear hcur
  by_cases hs : n ≤ 256
  · go_enter Tryz.func24, Tryz.ntmps24
    go_wp2_with fail
    refine (byte_any B cv len _ HC.out HU.out).mono ?_
    rintro e w1 ⟨x, rfl, x0, x1, hu1, hg1⟩
    have HU1 := Lib.hid hu1; clear hu1
    have HG1 := Lib.hid hg1; clear hg1
    go_wp2
    go_ret
    exact ⟨x % (n : Int), rfl, (mod_in x hn1).1, (mod_in x hn1).2, HU1.out, HG1.out⟩
  · go_enter Tryz.func24, Tryz.ntmps24
    go_wp2_with fail
    refine (byte_any B cv len _ HC.out HU.out).mono ?_
    rintro e w1 ⟨x, rfl, x0, x1, hu1, hg1⟩
    have HU1 := Lib.hid hu1; clear hu1
    have HG1 := Lib.hid hg1; clear hg1
    go_wp2_with fail
    refine (byte_any B cv len _ (HC.out.grown HU.out.lt HG1.out) HU1.out).mono ?_
    rintro e w2 ⟨y, rfl, y0, y1, hu2, hg2⟩
    have HU2 := Lib.hid hu2; clear hu2
    have HG2 := Lib.hid (grown_trans HG1.out hg2); clear hg2
    go_wp2_with fail
    refine (byte_any B cv len _ (HC.out.grown HU.out.lt HG2.out) HU2.out).mono ?_
    rintro e w3 ⟨z, rfl, z0, z1, hu3, hg3⟩
    have HU3 := Lib.hid hu3; clear hu3
    have HG3 := Lib.hid (grown_trans HG2.out hg3); clear hg3
    go_wp2_with fail
    refine (byte_any B cv len _ (HC.out.grown HU.out.lt HG3.out) HU3.out).mono ?_
    rintro e w4 ⟨v, rfl, v0, v1, hu4, hg4⟩
    have HU4 := Lib.hid hu4; clear hu4
    have HG4 := Lib.hid (grown_trans HG3.out hg4); clear hg4
    go_wp2
    go_ret
    exact ⟨(x * 16777216 + y * 65536 + z * 256 + v) % (n : Int), rfl, (mod_in _ hn1).1, (mod_in _ hn1).2, HU4.out, HG4.out⟩
end Go.Proofs.YtooiiomfahomjaaGreatDoor
