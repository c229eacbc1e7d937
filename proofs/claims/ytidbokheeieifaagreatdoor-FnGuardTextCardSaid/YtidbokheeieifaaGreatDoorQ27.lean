/-
  spec.l9Cut and strings.Cut part a text at the first place of a separator.
  A stack of terms in the making: its row is a call's own, and so are the rows of the arguments of what lies on it. No walk.
-/
import Derived.Test.YtidbokheeieifaaGreatDoorQ25
import Derived.Test.YtidbokheeieifaaGreatDoorQ3
import Derived.Test.YtidbokheeieifaaGreatDoorQ11
import Derived.Test.YtidbokheeieifaaGreatDoorQ12
import Derived.Shelf.Strings.Cut
import Derived.Deep.RegionLaw
namespace Go.Proofs.YtidbokheeieifaaGreatDoor
open Go.RowKit

/-- What stands before a separator, behind it, and whether it is there. -/
def cutA (s sep : ByteArray) : ByteArray := ⟨(Lib.cut s.data.toList sep.data.toList).1.toArray⟩
def cutZ (s sep : ByteArray) : ByteArray := ⟨(Lib.cut s.data.toList sep.data.toList).2.1.toArray⟩
def cutF (s sep : ByteArray) : Bool := (Lib.cut s.data.toList sep.data.toList).2.2
theorem cut_cases (s sep : ByteArray) : (Lib.indexB s sep = -1 ∧ cutA s sep = s ∧ cutZ s sep = ByteArray.empty ∧ cutF s sep = false) ∨
    ∃ i : Nat, Lib.indexB s sep = i ∧ i + sep.size ≤ s.size ∧ cutA s sep = s.extract 0 i ∧ cutZ s sep = s.extract (i + sep.size) s.size ∧ cutF s sep = true := by
  rcases Lib.indexB_cases s sep with h | ⟨i, h, hr⟩
  · obtain ⟨e1, e2, e3⟩ := Lib.cutB_miss s sep h
    exact Or.inl ⟨h, e1, e2, e3⟩
  · obtain ⟨e1, e2, e3⟩ := Lib.cutB_hit s sep i h
    exact Or.inr ⟨i, h, hr, e1, e2, e3⟩
theorem cut_sizes (s sep : ByteArray) : (cutA s sep).size ≤ s.size ∧ (cutZ s sep).size ≤ s.size := by
  rcases cut_cases s sep with ⟨_, e1, e2, _⟩ | ⟨i, _, hr, e1, e2, _⟩
  · rw [e1, e2]; exact ⟨Nat.le_refl _, Nat.zero_le _⟩
  · rw [e1, e2, ByteArray.size_extract, ByteArray.size_extract]; omega

def CutB (s sep : ByteArray) (w : World) (e : Ending) (w' : World) : Prop := e = .returned (.tuple #[.string (cutA s sep), .string (cutZ s sep), .bool (cutF s sep)]) ∧ Below w.heap.size w w'

theorem iCut_any (s sep : ByteArray) (m : Int) (w : World) (hs : s.size ≤ 1048576) (hm : w.cell? ⟨0, 0, none⟩ = some (.int .i64 m)) :
    Calls Tryz.prog 23 #[.string s, .string sep] w (CutB s sep w) := by
  refine (Any.strings_Cut { Tryz.laysM145 with } s sep m w (by omega) hm).mono ?_
  rintro e w' ⟨rfl, n, rfl⟩
  refine ⟨rfl, ?_⟩
  unfold World.drewN
  exact ⟨rfl, rfl, rfl, Nat.le_refl _, fun _ _ => rfl⟩

set_option maxRecDepth 100000 in
set_option maxHeartbeats 3200000 in
theorem sCut_any (s sep : ByteArray) (w : World) (hs : s.size ≤ 1048576) (h1 : 1 ≤ sep.size) (h2 : sep.size ≤ 4) :
    Calls Tryz.prog 25 #[.string s, .string sep] w (CutB s sep w) := by
  go_enter Tryz.func25, Tryz.ntmps25
  go_wp2
  go_loopw [7] (fun i wr => ∃ k : Nat, k ≤ s.size ∧ i = .int .i64 k ∧ Hid (Lib.NoOccB s sep k) ∧ Hid (Below w.heap.size w wr)) (fun i _ => s.size + 1 - (intOf i).toNat)
  case atStart => exact ⟨0, Nat.zero_le _, rfl, Lib.hid (Lib.NoOcc.zero _ _), Lib.hid (Below.refl _ _)⟩
  case round =>
    obtain ⟨k, hk, rfl, HN, HB⟩ := hrel
    by_cases hlt : k + sep.size ≤ s.size
    · have c1 : ((k : Int) + (sep.size : Int)) ≤ (s.size : Int) := by omega
      have c2 : (0 : Int) ≤ (k : Int) := by omega
      have c3 : (0 : Int) ≤ (k : Int) + (sep.size : Int) := by omega
      have c4 : (k : Int) ≤ (k : Int) + (sep.size : Int) := by omega
      have c5 : (k : Int) ≤ (s.size : Int) := by omega
      have hcast : ((k : Int) + (sep.size : Int)).toNat = k + sep.size := by omega
      by_cases hp : ((s.extract k (k + sep.size)).toList == sep.toList) = true
      · have HH : Hid (Lib.indexB s sep = k) := Lib.hid (Lib.hit s sep k HN.out hlt hp)
        have HC : Hid (cutA s sep = s.extract 0 k ∧ cutZ s sep = s.extract (k + sep.size) s.size ∧ cutF s sep = true) := Lib.hid (Lib.cutB_hit s sep k HH.out)
        go_wp2
        first | go_region | go_region_o
        go_wp2
        go_ret3
        refine ⟨?_, (Below.drew HB.out)⟩
        rw [HC.out.1, HC.out.2.1, HC.out.2.2]
        rfl
      · have hp' : ((s.extract k (k + sep.size)).toList == sep.toList) = false := by simpa using hp
        have HM := Lib.hid (Lib.miss_piece s sep k HN.out hlt hp')
        clear hp
        go_wp2
        go_roundw
        case rel => exact ⟨k + 1, by omega, by go_num, HM, HB⟩
        case measure => simp [intOf]; omega
    · have c1 : ¬ ((k : Int) + (sep.size : Int)) ≤ (s.size : Int) := by omega
      have HH : Hid (Lib.indexB s sep = -1) := Lib.hid (Lib.past s sep k HN.out h1 (by omega))
      have HC : Hid (cutA s sep = s ∧ cutZ s sep = ByteArray.empty ∧ cutF s sep = false) := Lib.hid (Lib.cutB_miss s sep HH.out)
      go_wp2
      go_ret3
      exact ⟨by rw [HC.out.1, HC.out.2.1, HC.out.2.2]; rfl, HB.out⟩
end Go.Proofs.YtidbokheeieifaaGreatDoor
namespace Go.Proofs.YtidbokheeieifaaGreatDoor
open Go.RowKit

/-- What lies on the stack v (its cells: xs), the lowest first: the rows below lie in blocks from lo to top, the higher the later. -/
def StX (w : World) (lo : Nat) (v : Value) (H top : Nat) (ss : List T) (xs : List Value) : Prop :=
  ∃ (U : Nat → Value) (L R : Nat → Nat),
    (∀ i k n s txs, ss[i]? = some (T.node k n s txs) → (s.size ≤ maxLen ∧ xs[i * 4]? = some (.int .i64 k) ∧ xs[i * 4 + 1]? = some (.int .i64 n) ∧ xs[i * 4 + 2]? = some (.string s)) ∧ xs[i * 4 + 3]? = some (U i) ∧ (txs = [] → U i = .slice none 0 0) ∧ (lo ≤ L i ∧ L i ≤ R i ∧ R i ≤ top) ∧ OwnR (NotOwn v) w H (L i) (R i) (U i) txs) ∧
    (∀ i j, i < j → j < ss.length → R i ≤ L j)

theorem StX.keep {w w' : World} {lo H top : Nat} {v v' : Value} {ss : List T} {xs : List Value} (h : StX w lo v H top ss xs) (hk : ∀ b, NotOwn v b → lo ≤ b → b < top → w'.heap[b]? = w.heap[b]? ∧ NotOwn v' b) : StX w' lo v' H top ss xs := by
  obtain ⟨U, L, R, hx, hd⟩ := h
  refine ⟨U, L, R, fun i k n s txs hi => ?_, hd⟩
  obtain ⟨c, x3, hn, hl, ho⟩ := hx i k n s txs hi
  exact ⟨c, x3, hn, hl, ho.keep fun b hb b1 b2 => hk b hb (by omega) (by omega)⟩
theorem StX.topped {w : World} {lo H top top' : Nat} {v : Value} {ss : List T} {xs : List Value} (h : StX w lo v H top ss xs) (ht : top ≤ top') : StX w lo v H top' ss xs := by
  obtain ⟨U, L, R, hx, hd⟩ := h
  refine ⟨U, L, R, fun i k n s txs hi => ?_, hd⟩
  obtain ⟨c, x3, hn, hl, ho⟩ := hx i k n s txs hi
  exact ⟨c, x3, hn, by omega, ho⟩
theorem StX.more {w : World} {lo H top : Nat} {v : Value} {ss : List T} {xs : List Value} (h : StX w lo v H top ss xs) : StX w lo v (H + 1) top ss xs := by
  obtain ⟨U, L, R, hx, hd⟩ := h
  refine ⟨U, L, R, fun i k n s txs hi => ?_, hd⟩
  obtain ⟨c, x3, hn, hl, ho⟩ := hx i k n s txs hi
  exact ⟨c, x3, hn, hl, ho.more⟩

/-- An open operator is put on the stack. -/
theorem StX.push {w w' : World} {lo H : Nat} {v v' : Value} {ss : List T} {xs : List Value} {k n : Int} {s : ByteArray} (h : StX w lo v H w.heap.size ss xs) (hxl : xs.length = ss.length * 4) (hlo : lo ≤ w.heap.size) (hg : Grew v w v' w') (hs : s.size ≤ maxLen) :
    StX w' lo v' H w'.heap.size (ss ++ [.node k n s []]) (xs ++ [.int .i64 k, .int .i64 n, .string s, .slice none 0 0]) := by
  have hk := h.keep (w' := w') (v' := v') fun b hb _ h2 => ⟨hg.2.1 b h2 hb, notOwn_old hg.2.2 h2 hb⟩
  have hsz := hg.1
  obtain ⟨U, L, R, hx, hd⟩ := hk
  refine ⟨fun i => if i = ss.length then .slice none 0 0 else U i, fun i => if i = ss.length then w.heap.size else L i, fun i => if i = ss.length then w.heap.size else R i, fun i kk nn s' txs hi => ?_, fun i j h1 h2 => ?_⟩
  · rcases Nat.lt_trichotomy i ss.length with hl | hl | hl
    · rw [List.getElem?_append_left hl] at hi
      obtain ⟨⟨c0, c1, c2, c3⟩, x3, hn, hl2, ho⟩ := hx i kk nn s' txs hi
      have e : i ≠ ss.length := by omega
      simp only [if_neg e]
      refine ⟨⟨c0, ?_, ?_, ?_⟩, ?_, hn, by omega, ho⟩
      · rw [List.getElem?_append_left (by omega)]; exact c1
      · rw [List.getElem?_append_left (by omega)]; exact c2
      · rw [List.getElem?_append_left (by omega)]; exact c3
      · rw [List.getElem?_append_left (by omega)]; exact x3
    · subst hl
      simp only [List.getElem?_concat_length, Option.some.injEq, T.node.injEq] at hi
      obtain ⟨rfl, rfl, rfl, rfl⟩ := hi
      simp only [if_true]
      refine ⟨⟨hs, ?_, ?_, ?_⟩, ?_, fun _ => trivial, ⟨hlo, Nat.le_refl _, hsz⟩, OwnR.nil _ _ _ _ _ _ _⟩
      · rw [List.getElem?_append_right (by omega), hxl, Nat.sub_self]; rfl
      · rw [List.getElem?_append_right (by omega), hxl, show ss.length * 4 + 1 - ss.length * 4 = 1 by omega]; rfl
      · rw [List.getElem?_append_right (by omega), hxl, show ss.length * 4 + 2 - ss.length * 4 = 2 by omega]; rfl
      · rw [List.getElem?_append_right (by omega), hxl, show ss.length * 4 + 3 - ss.length * 4 = 3 by omega]; rfl
    · rw [List.getElem?_eq_none (by simp; omega)] at hi; cases hi
  · rw [List.length_append, List.length_singleton] at h2
    have e : i ≠ ss.length := by omega
    simp only [if_neg e]
    obtain ⟨t, ht⟩ : ∃ t, ss[i]? = some t := ⟨_, List.getElem?_eq_getElem (by omega)⟩
    obtain ⟨k1, n1, s1, x1⟩ := t
    obtain ⟨_, _, _, hl2, _⟩ := hx i k1 n1 s1 x1 ht
    by_cases e2 : j = ss.length
    · simp only [if_pos e2]; omega
    · simp only [if_neg e2]; exact hd i j h1 (by omega)

/-- The topmost one is taken off. -/
theorem StX.pop {w : World} {lo H top : Nat} {v v' : Value} {ss : List T} {xs : List Value} {k n : Int} {s : ByteArray} {txs : List T} (h : StX w lo v H top (ss ++ [.node k n s txs]) xs) (hv : v'.ownBlock = v.ownBlock) :
    ∃ u La Ra, (s.size ≤ maxLen ∧ xs[ss.length * 4]? = some (.int .i64 k) ∧ xs[ss.length * 4 + 1]? = some (.int .i64 n) ∧ xs[ss.length * 4 + 2]? = some (.string s) ∧ xs[ss.length * 4 + 3]? = some u) ∧ lo ≤ La ∧ La ≤ Ra ∧ Ra ≤ top ∧ OwnR (NotOwn v') w H La Ra u txs ∧ StX w lo v' H La ss (xs.take (ss.length * 4)) := by
  have hq : ∀ b, NotOwn v b → NotOwn v' b := fun b hb => by unfold NotOwn at *; rw [hv]; exact hb
  obtain ⟨U, L, R, hx, hd⟩ := h
  obtain ⟨⟨c0, c1, c2, c3⟩, x3, hn, hl, ho⟩ := hx ss.length k n s txs (by simp)
  refine ⟨U ss.length, L ss.length, R ss.length, ⟨c0, c1, c2, c3, x3⟩, hl.1, hl.2.1, hl.2.2, ho.keep fun b hb _ _ => ⟨rfl, hq b hb⟩, U, L, R, fun i kk nn s' tx hi => ?_, fun i j h1 h2 => hd i j h1 (by simp; omega)⟩
  have hil : i < ss.length := (List.getElem?_eq_some_iff.1 hi).1
  obtain ⟨⟨d0, d1, d2, d3⟩, y3, hn', hl', ho'⟩ := hx i kk nn s' tx (by rw [List.getElem?_append_left hil]; exact hi)
  have hdd := hd i ss.length hil (by simp)
  refine ⟨⟨d0, ?_, ?_, ?_⟩, ?_, hn', by omega, ho'.keep fun b hb _ _ => ⟨rfl, hq b hb⟩⟩
  · rw [List.getElem?_take_of_lt (by omega)]; exact d1
  · rw [List.getElem?_take_of_lt (by omega)]; exact d2
  · rw [List.getElem?_take_of_lt (by omega)]; exact d3
  · rw [List.getElem?_take_of_lt (by omega)]; exact y3

/-- An argument was added to the topmost one: its row grew, and the stack's row holds the new slice. -/
structure Added (lo : Nat) (w : World) (v : Value) (n : Nat) (xs : List Value) (u : Value) (m : Nat) (ys cs : List Value) (w' : World) (u' : Value) : Prop where
  bel : Below lo w w'
  keep : ∀ b, b < w.heap.size → NotOwn v b → NotOwn u b → w'.heap[b]? = w.heap[b]?
  row : w'.ownsRow lo 26 4 v (n + 1) (xs.set (n * 4 + 3) u')
  new : w'.ownsRow lo 26 4 u' (m + 1) (ys ++ cs)
  ob : u'.ownBlock = u.ownBlock ∨ ∃ k, u'.ownBlock = some k ∧ w.heap.size ≤ k

theorem StX.add {w : World} {lo0 lo H top : Nat} {v : Value} {ss : List T} {xs : List Value} {k n : Int} {s : ByteArray} {txs : List T} (h : StX w lo v H top (ss ++ [.node k n s txs]) xs) (h0 : lo0 ≤ lo) (hv : w.ownsRow lo0 26 4 v (ss.length + 1) xs) (htop : top ≤ w.heap.size) (hm : txs.length + 1 ≤ maxLen) :
    ∃ u ys, xs[ss.length * 4 + 3]? = some u ∧ w.ownsRow lo0 26 4 u txs.length ys ∧ (∀ j, u.ownBlock = some j → NotOwn v j ∧ lo ≤ j) ∧
      ∀ w' u' ka na sa ua axs La Ra, Added lo0 w v ss.length xs u txs.length ys [.int .i64 ka, .int .i64 na, .string sa, ua] w' u' → sa.size ≤ maxLen → top ≤ La → La ≤ Ra → Ra ≤ w.heap.size → OwnR (NotOwn v) w H La Ra ua axs →
        StX w' lo v (H + 1) w'.heap.size (ss ++ [.node k n s (txs ++ [.node ka na sa axs])]) (xs.set (ss.length * 4 + 3) u') := by
  have hxl : xs.length = (ss.length + 1) * 4 := hv.1
  have hvlt := hv.lt
  obtain ⟨U, L, R, hx, hd⟩ := h
  obtain ⟨⟨c0, c1, c2, c3⟩, x3, hn, hl, ho⟩ := hx ss.length k n s txs (by simp)
  -- the row of the arguments
  have hrow : ∃ ys, w.ownsRow lo0 26 4 (U ss.length) txs.length ys ∧ (∀ j, (U ss.length).ownBlock = some j → NotOwn v j ∧ L ss.length ≤ j ∧ j < R ss.length) ∧ ∃ (V : Nat → Value) (L' R' : Nat → Nat),
      (∀ i kk nn s' tx, txs[i]? = some (T.node kk nn s' tx) → (s'.size ≤ maxLen ∧ ys[i * 4]? = some (.int .i64 kk) ∧ ys[i * 4 + 1]? = some (.int .i64 nn) ∧ ys[i * 4 + 2]? = some (.string s')) ∧ ys[i * 4 + 3]? = some (V i) ∧ (L ss.length ≤ L' i ∧ R' i ≤ R ss.length) ∧ (∀ j, (U ss.length).ownBlock = some j → j < L' i ∨ R' i ≤ j) ∧ OwnR (NotOwn v) w H (L' i) (R' i) (V i) tx) ∧
      (∀ i j, i < j → j < txs.length → R' i ≤ L' j ∨ R' j ≤ L' i) := by
    by_cases ht : txs = []
    · subst ht
      rw [hn rfl]
      exact ⟨[], ⟨rfl, Or.inl ⟨rfl, rfl⟩⟩, fun j e => by simp [Value.ownBlock] at e, fun _ => undef, fun _ => 0, fun _ => 0, fun i _ _ _ _ hi => by simp at hi, fun i j _ h2 => by simp at h2⟩
    · cases H with
      | zero => exact absurd ho.1 ht
      | succ h =>
        obtain ⟨a, cap, e, hle, hc⟩ := ho
        obtain ⟨g, ys, V, L', R', rfl, hq, h1, h2, how, hxx, hdd⟩ := hc.resolve_left ht
        have how' := how
        rw [e] at how'
        refine ⟨ys, own_low how (by omega), fun j ej => ?_, V, L', R', fun i kk nn s' tx hi => ?_, hdd⟩
        · rw [e] at ej; simp [Value.ownBlock] at ej; subst ej; exact ⟨hq, h1, h2⟩
        · obtain ⟨cc, y3, l1, l2, l3, hr⟩ := hxx i kk nn s' tx hi
          exact ⟨cc, y3, ⟨l1, l2⟩, fun j ej => by rw [e] at ej; simp [Value.ownBlock] at ej; subst ej; exact l3, hr.more⟩
  obtain ⟨ys, how, hnv, V, L', R', hxx, hdd⟩ := hrow
  refine ⟨U ss.length, ys, x3, how, fun j e => ⟨(hnv j e).1, by have := (hnv j e).2.1; omega⟩, fun w' u' ka na sa ua axs La Ra A hsa hLa hLR hRa hoa => ?_⟩
  have hyl : ys.length = txs.length * 4 := how.1
  have hsz := A.bel.size
  -- what a block that is neither keeps
  have hkb : ∀ b, b < w.heap.size → NotOwn v b → (∀ j, (U ss.length).ownBlock = some j → b ≠ j) → w'.heap[b]? = w.heap[b]? := fun b hb h1 h2 => A.keep b hb h1 (fun e => h2 b e.symm rfl)
  -- the new row
  obtain ⟨g', cap', rfl⟩ : ∃ g' cap', u' = .slice (some ⟨g', 0, none⟩) (txs.length + 1) cap' := by
    rcases A.new.2 with ⟨_, h0⟩ | ⟨g, c, cur, e, _⟩
    · omega
    · exact ⟨g, c, e⟩
  have hg' : (U ss.length).ownBlock = some g' ∨ w.heap.size ≤ g' := by
    rcases A.ob with e | ⟨j, e, hj⟩
    · exact Or.inl e.symm
    · simp [Value.ownBlock] at e; subst e; exact Or.inr hj
  have hg'v : NotOwn v g' := by
    rcases hg' with e | e
    · exact (hnv g' e).1
    · intro e2; have := (hvlt g' e2.symm).2; omega
  have hg'lt : g' < w'.heap.size := (A.new.lt g' rfl).2
  have hg'lo : L ss.length ≤ g' := by
    rcases hg' with e | e
    · exact (hnv g' e).2.1
    · omega
  have hnew : OwnR (NotOwn v) w' (H + 1) (L ss.length) w'.heap.size (.slice (some ⟨g', 0, none⟩) (txs.length + 1) cap') (txs ++ [.node ka na sa axs]) := by
    refine ⟨_, cap', by simp, by simpa using hm, Or.inr ⟨g', ys ++ [.int .i64 ka, .int .i64 na, .string sa, ua], fun i => if i = txs.length then ua else V i, fun i => if i = txs.length then La else L' i, fun i => if i = txs.length then Ra else R' i, rfl, hg'v, hg'lo, hg'lt, ?_, fun i kk nn s' tx hi => ?_, fun i j h1 h2 => ?_⟩⟩
    · rw [List.length_append, List.length_singleton]
      refine ⟨A.new.1, ?_⟩
      rcases A.new.2 with ⟨_, h0⟩ | ⟨g, c, cur, e, hb, rest⟩
      · omega
      · cases e; exact Or.inr ⟨g', cap', cur, rfl, Nat.le_refl _, rest⟩
    · rcases Nat.lt_trichotomy i txs.length with hlt | hlt | hlt
      · rw [List.getElem?_append_left hlt] at hi
        obtain ⟨⟨d0, d1, d2, d3⟩, y3, l1, l3, hr⟩ := hxx i kk nn s' tx hi
        have e : i ≠ txs.length := by omega
        simp only [if_neg e]
        refine ⟨⟨d0, ?_, ?_, ?_⟩, ?_, l1.1, by omega, ?_, hr.keep fun b hb b1 b2 => ⟨hkb b (by omega) hb fun j ej ebj => ?_, hb⟩⟩
        · rw [List.getElem?_append_left (by omega)]; exact d1
        · rw [List.getElem?_append_left (by omega)]; exact d2
        · rw [List.getElem?_append_left (by omega)]; exact d3
        · rw [List.getElem?_append_left (by omega)]; exact y3
        · rcases hg' with eg | eg
          · exact l3 g' eg
          · exact Or.inr (by omega)
        · have := l3 j ej; omega
      · subst hlt
        simp only [List.getElem?_concat_length, Option.some.injEq, T.node.injEq] at hi
        obtain ⟨rfl, rfl, rfl, rfl⟩ := hi
        simp only [if_true]
        refine ⟨⟨hsa, ?_, ?_, ?_⟩, ?_, by omega, by omega, ?_, hoa.keep fun b hb b1 b2 => ⟨hkb b (by omega) hb fun j ej ebj => ?_, hb⟩⟩
        · rw [List.getElem?_append_right (by omega), hyl, Nat.sub_self]; rfl
        · rw [List.getElem?_append_right (by omega), hyl, show txs.length * 4 + 1 - txs.length * 4 = 1 by omega]; rfl
        · rw [List.getElem?_append_right (by omega), hyl, show txs.length * 4 + 2 - txs.length * 4 = 2 by omega]; rfl
        · rw [List.getElem?_append_right (by omega), hyl, show txs.length * 4 + 3 - txs.length * 4 = 3 by omega]; rfl
        · rcases hg' with eg | eg
          · have := (hnv g' eg).2.2; exact Or.inl (by omega)
          · exact Or.inr (by omega)
        · have := (hnv j ej).2.2; omega
      · rw [List.getElem?_eq_none (by simp; omega)] at hi; cases hi
    · rw [List.length_append, List.length_singleton] at h2
      have e : i ≠ txs.length := by omega
      simp only [if_neg e]
      by_cases e2 : j = txs.length
      · simp only [if_pos e2]
        obtain ⟨t, ht⟩ : ∃ t, txs[i]? = some t := ⟨_, List.getElem?_eq_getElem (by omega)⟩
        obtain ⟨k1, n1, s1, x1⟩ := t
        obtain ⟨_, _, l1, _, _⟩ := hxx i k1 n1 s1 x1 ht
        exact Or.inl (by omega)
      · simp only [if_neg e2]; exact hdd i j h1 (by omega)
  -- the stack
  refine ⟨fun i => if i = ss.length then .slice (some ⟨g', 0, none⟩) (txs.length + 1) cap' else U i, L, fun i => if i = ss.length then w'.heap.size else R i, fun i kk nn s' tx hi => ?_, fun i j h1 h2 => ?_⟩
  · rcases Nat.lt_trichotomy i ss.length with hlt | hlt | hlt
    · rw [List.getElem?_append_left hlt] at hi
      obtain ⟨⟨d0, d1, d2, d3⟩, y3, hn', hl', ho'⟩ := hx i kk nn s' tx (by rw [List.getElem?_append_left hlt]; exact hi)
      have e : i ≠ ss.length := by omega
      have hdi := hd i ss.length hlt (by simp)
      simp only [if_neg e]
      refine ⟨⟨d0, ?_, ?_, ?_⟩, ?_, hn', by omega, (ho'.keep fun b hb b1 b2 => ⟨hkb b (by omega) hb fun j ej ebj => ?_, hb⟩).more⟩
      · rw [List.getElem?_set_ne (by omega)]; exact d1
      · rw [List.getElem?_set_ne (by omega)]; exact d2
      · rw [List.getElem?_set_ne (by omega)]; exact d3
      · rw [List.getElem?_set_ne (by omega)]; exact y3
      · have := (hnv j ej).2.1; omega
    · subst hlt
      simp only [List.getElem?_concat_length, Option.some.injEq, T.node.injEq] at hi
      obtain ⟨rfl, rfl, rfl, rfl⟩ := hi
      simp only [if_true]
      refine ⟨⟨c0, ?_, ?_, ?_⟩, List.getElem?_set_self (by omega), fun e => by simp at e, by omega, hnew⟩
      · rw [List.getElem?_set_ne (by omega)]; exact c1
      · rw [List.getElem?_set_ne (by omega)]; exact c2
      · rw [List.getElem?_set_ne (by omega)]; exact c3
    · rw [List.getElem?_eq_none (by simp; omega)] at hi; cases hi
  · rw [List.length_append, List.length_singleton] at h2
    have e : i ≠ ss.length := by omega
    simp only [if_neg e]
    exact hd i j h1 (by simp; omega)
end Go.Proofs.YtidbokheeieifaaGreatDoor
