/-
  impl.leafOf: what a symbol stands for; impl.addSymbol: it becomes an argument of the topmost term of the stack, unless it is empty.
-/
import Derived.Test.YtooiiomfahomjaaGreatDoorQ8
import Derived.Test.YtooiiomfahomjaaGreatDoorQ12
import Derived.Test.YtooiiomfahomjaaGreatDoorQ13
namespace Go.Proofs.YtooiiomfahomjaaGreatDoor
open Go.RowKit

theorem cells4r {Y : World} {b : Nat} {x0 x1 x2 x3 : Value} (hb : Y.heap[b]? = some (.cells #[x0, x1, x2, x3] 26 (0, 0))) : (Y.cell? ⟨b, 0, none⟩ = some x0 ∧ Y.cell? ⟨b, 1, none⟩ = some x1 ∧ Y.cell? ⟨b, 2, none⟩ = some x2 ∧ Y.cell? ⟨b, 3, none⟩ = some x3) ∧
    (Y.frozen? ⟨b, 0, none⟩ = false ∧ Y.frozen? ⟨b, 1, none⟩ = false ∧ Y.frozen? ⟨b, 2, none⟩ = false ∧ Y.frozen? ⟨b, 3, none⟩ = false) := by
  have a0 := cell_of_row Y b 0 _ _ _ hb
  have a1 := cell_of_row Y b 1 _ _ _ hb
  have a2 := cell_of_row Y b 2 _ _ _ hb
  have a3 := cell_of_row Y b 3 _ _ _ hb
  simp at a0 a1 a2 a3
  exact ⟨⟨a0, a1, a2, a3⟩, frozen_of_row Y b 0 _ _ hb, frozen_of_row Y b 1 _ _ hb, frozen_of_row Y b 2 _ _ hb, frozen_of_row Y b 3 _ _ hb⟩

/-- The tables that the reading of a number needs. -/
def TabsAt (w : World) : Prop := PowTab w ∧ ErrVars w ∧ 5 < w.heap.size
theorem TabsAt.below {w w' : World} (h : TabsAt w) (hb : Below w.heap.size w w') (hp : 0 < w.heap.size) : TabsAt w' :=
  ⟨h.1.below hb hp, h.2.1.below hb h.2.2, Nat.lt_of_lt_of_le h.2.2 hb.size⟩
theorem TabsAt.low {w : World} (h : TabsAt w) : 0 < w.heap.size := by have := h.2.2; omega

def LeafEnd (s : ByteArray) (w : World) (e : Ending) (w' : World) : Prop :=
  ∃ k n nm, e = .returned (tv k n nm (.slice none 0 0)) ∧ leafT s.data.toList = .node k n nm [] ∧ nm.size ≤ s.size ∧ Below w.heap.size w w'

theorem leaf_below {w w1 : World} (hb : Below w.heap.size w w1) (v0 v1 v2 v3 : Value) : Below w.heap.size w ((((w1.setCell ⟨w.heap.size, 0, none⟩ v0).setCell ⟨w.heap.size, 1, none⟩ v1).setCell ⟨w.heap.size, 2, none⟩ v2).setCell ⟨w.heap.size, 3, none⟩ v3) :=
  (((hb.setCell (Nat.le_refl _) _).setCell (Nat.le_refl _) _).setCell (Nat.le_refl _) _).setCell (Nat.le_refl _) _

set_option maxRecDepth 100000 in
set_option maxHeartbeats 1600000 in
theorem leafOf_any (s : ByteArray) (w : World) (hs : s.size ≤ 100000) (ht : TabsAt w) : Calls Tryz.prog 54 #[.string s] w (LeafEnd s w) := by
  have hbz : Below w.heap.size w (w.alloc zRow) := bel_al _ _
  have HTZ := Lib.hid (ht.below hbz ht.low); clear ht
  have HBZ := Lib.hid hbz; clear hbz
  go_enter Tryz.func54, Tryz.ntmps54
  go_wp2_with fail
  refine (iNumber_any s (w.alloc zRow) (by omega) HTZ.out.1 HTZ.out.2.1 HTZ.out.2.2).mono ?_
  rintro e w1 ⟨hb, v, b, rfl, hg⟩
  have HG := Lib.hid hg; clear hg
  have HB1 := Lib.hid (HBZ.out.trans (hb.mono HBZ.out.size))
  obtain ⟨⟨x0, x1, x2, x3⟩, f0, f1, f2, f3⟩ := cells4r ((hb.block w.heap.size (by simp)).trans (heap_new w zRow rfl))
  clear hb
  cases b with
  | true =>
    obtain ⟨h0, h1, h2⟩ := HG.out.1 rfl
    have HF : Hid (LeafEnd s w (.returned (tv 3 v ByteArray.empty (.slice none 0 0))) ((((w1.setCell ⟨w.heap.size, 0, none⟩ (.int .i64 3)).setCell ⟨w.heap.size, 1, none⟩ (.int .i64 v)).setCell ⟨w.heap.size, 2, none⟩ (.string ⟨#[]⟩)).setCell ⟨w.heap.size, 3, none⟩ (.slice none 0 0))) :=
      Lib.hid ⟨3, v, ByteArray.empty, rfl, leafT_num ⟨h0, h1, h2⟩, Nat.zero_le _, leaf_below HB1.out _ _ _ _⟩
    clear h0 h1 h2
    go_wp2
    (try simp only [Exit.inBlock, Exit.then])
    refine bodyPost_ret (v := tv 3 v ByteArray.empty (.slice none 0 0)) ?hr rfl ?_
    case hr =>
      rw [results_cell (a := 2) (t := 26) (ad := ⟨w.heap.size, 0, none⟩) rfl rfl]
      go_simp
      rfl
    exact HF.out
  | false =>
    have hno : ¬ ∃ u, IsNum u s.data.toList := fun ⟨u, h0, h1, h2⟩ => (HG.out.2 rfl).2 u h0 h1 h2
    have HNO := Lib.hid hno; clear hno
    go_wp2_with fail
    refine (iVar_any s w1 (by omega)).mono ?_
    rintro e w2 ⟨q, rfl, hq, rfl⟩
    cases q with
    | true =>
      have HF : Hid (LeafEnd s w (.returned (tv 1 0 s (.slice none 0 0))) ((((w2.setCell ⟨w.heap.size, 0, none⟩ (.int .i64 1)).setCell ⟨w.heap.size, 1, none⟩ (.int .i64 0)).setCell ⟨w.heap.size, 2, none⟩ (.string s)).setCell ⟨w.heap.size, 3, none⟩ (.slice none 0 0))) :=
        Lib.hid ⟨1, 0, s, rfl, by rw [leafT_var HNO.out (by rw [mk_data]; exact hq.1 rfl), mk_data], Nat.le_refl _, leaf_below HB1.out _ _ _ _⟩
      clear hq
      go_wp2
      (try simp only [Exit.inBlock, Exit.then])
      refine bodyPost_ret (v := tv 1 0 s (.slice none 0 0)) ?hr rfl ?_
      case hr =>
        rw [results_cell (a := 2) (t := 26) (ad := ⟨w.heap.size, 0, none⟩) rfl rfl]
        go_simp
      exact HF.out
    | false =>
      have HF : Hid (LeafEnd s w (.returned (tv 2 0 s (.slice none 0 0))) ((((w2.setCell ⟨w.heap.size, 0, none⟩ (.int .i64 2)).setCell ⟨w.heap.size, 1, none⟩ (.int .i64 0)).setCell ⟨w.heap.size, 2, none⟩ (.string s)).setCell ⟨w.heap.size, 3, none⟩ (.slice none 0 0))) :=
        Lib.hid ⟨2, 0, s, rfl, by rw [leafT_app HNO.out (by rw [mk_data]; intro h; have := hq.2 h; simp at this), mk_data], Nat.le_refl _, leaf_below HB1.out _ _ _ _⟩
      clear hq
      go_wp2
      (try simp only [Exit.inBlock, Exit.then])
      refine bodyPost_ret (v := tv 2 0 s (.slice none 0 0)) ?hr rfl ?_
      case hr =>
        rw [results_cell (a := 2) (t := 26) (ad := ⟨w.heap.size, 0, none⟩) rfl rfl]
        go_simp
      exact HF.out

/-- The stack v holds the terms st, the topmost first. -/
def StkAt (lo0 lo : Nat) (v : Value) (st : List T) (w : World) : Prop := ∃ H xs, w.ownsRow lo0 26 4 v st.length xs ∧ StX w lo v H w.heap.size st.reverse xs
theorem StkAt.below {lo0 lo : Nat} {v : Value} {st : List T} {w w' : World} (h : StkAt lo0 lo v st w) (hb : Below w.heap.size w w') : StkAt lo0 lo v st w' := by
  obtain ⟨H, xs, ho, hx⟩ := h
  exact ⟨H, xs, keep_own ho hb, (hx.keep fun b hq _ h2 => ⟨hb.block b h2, hq⟩).topped hb.size⟩
theorem StkAt.form {lo0 lo : Nat} {v : Value} {p : T} {r : List T} {w : World} (h : StkAt lo0 lo v (p :: r) w) : ∃ g cap, v = .slice (some ⟨g, 0, none⟩) (r.length + 1) cap ∧ lo0 ≤ g ∧ g < w.heap.size := by
  obtain ⟨H, xs, ho, hx⟩ := h
  rcases ho.2 with ⟨_, h0⟩ | ⟨g, cap, cur, e, _⟩
  · simp at h0
  · exact ⟨g, cap, e, ho.lt g (by rw [e]; rfl)⟩
theorem StkAt.cap {lo0 lo g n cap : Nat} {p : T} {r : List T} {w : World} (h : StkAt lo0 lo (.slice (some ⟨g, 0, none⟩) n cap) (p :: r) w) : r.length + 1 ≤ cap := by
  obtain ⟨H, xs, ho, hx⟩ := h
  rcases ho.2 with ⟨_, h0⟩ | ⟨g', cap', cur, e, _, _, hc, _⟩
  · simp at h0
  · cases e; exact hc

/-- What a call on a stack leaves: blocks below, but for the stack's own row. -/
def Left (lo0 lo : Nat) (v : Value) (w w' : World) : Prop := Below lo0 w w' ∧ ∀ b, b < lo → b < w.heap.size → NotOwn v b → w'.heap[b]? = w.heap[b]?
theorem Left.refl (lo0 lo : Nat) (v : Value) (w : World) : Left lo0 lo v w w := ⟨Below.refl _ _, fun _ _ _ _ => rfl⟩
theorem Left.of {lo0 lo : Nat} {v : Value} {w w' : World} (hb : Below w.heap.size w w') (h0 : lo0 ≤ w.heap.size) : Left lo0 lo v w w' := ⟨hb.mono h0, fun b _ h _ => hb.block b h⟩
theorem Left.trans {lo0 lo : Nat} {v : Value} {a b c : World} (h : Left lo0 lo v a b) (k : Left lo0 lo v b c) : Left lo0 lo v a c :=
  ⟨h.1.trans k.1, fun j h1 h2 h3 => (k.2 j h1 (Nat.lt_of_lt_of_le h2 h.1.size) h3).trans (h.2 j h1 h2 h3)⟩

/-- A call that added the term a to the topmost one. -/
theorem StkAt.add {lo0 lo g cap H top : Nat} {v : Value} {k n : Int} {nm : ByteArray} {txs r : List T} {xs : List Value} {w : World} (h0 : lo0 ≤ lo) (ho : w.ownsRow lo0 26 4 v (r.length + 1) xs) (hx : StX w lo v H top (r.reverse ++ [.node k n nm txs]) xs) (htop : top ≤ w.heap.size)
    (hv : v = .slice (some ⟨g, 0, none⟩) (r.length + 1) cap) (hw : r.length ≤ 100000 ∧ txs.length ≤ 100000) {ka na : Int} {sa : ByteArray} {aa : Option Addr} {am ac La Ra : Nat} {axs : List T} (hsa : sa.size ≤ maxLen) (hLa : top ≤ La) (hLR : La ≤ Ra) (hRa : Ra ≤ w.heap.size)
    (hoa : OwnR (NotOwn v) w H La Ra (.slice aa am ac) axs) :
    Calls Tryz.prog 37 #[v, tv ka na sa (.slice aa am ac)] w (fun e w' => e = .returned (.tuple #[]) ∧ StkAt lo0 lo v (addA (.node ka na sa axs) (.node k n nm txs :: r)) w' ∧ Left lo0 lo v w w') := by
  have hl : r.reverse.length = r.length := List.length_reverse
  obtain ⟨u, ys, h3, hu, hnv, hstep⟩ := hx.add h0 (by rw [hl]; exact ho) htop (by unfold maxLen; omega)
  rw [hl] at h3
  have hc := addArg_any lo0 r.length g cap xs u txs.length ys ka na sa aa am ac w (by rw [← hv]; exact ho) hu h3 (fun j e e2 => by
    have := (hnv j e).1
    rw [hv, e2] at this
    exact this rfl) hw.1 hw.2
  rw [← hv] at hc
  refine hc.mono ?_
  rintro e w' ⟨rfl, u', hA⟩
  refine ⟨rfl, ⟨H + 1, xs.set (r.length * 4 + 3) u', hA.row, ?_⟩, hA.bel, fun b h1 h2 h3 => hA.keep b h2 h3 (fun e => by have := (hnv b e.symm).2; omega)⟩
  have := hstep w' u' ka na sa _ axs La Ra (by rw [hl]; exact hA) hsa hLa hLR hRa hoa
  rw [hl] at this
  simpa [addA] using this

set_option maxRecDepth 100000 in
set_option maxHeartbeats 1600000 in
theorem addSym_any (lo0 lo : Nat) (v : Value) (p : T) (r : List T) (s : ByteArray) (w : World) (hl0 : lo0 ≤ lo) (hs : s.size ≤ 100000) (ht : TabsAt w) (hst : StkAt lo0 lo v (p :: r) w) (hw : wL (p :: r) ≤ 100000) :
    Calls Tryz.prog 36 #[v, .string s] w (fun e w' => e = .returned (.tuple #[]) ∧ StkAt lo0 lo v (addS s.data.toList (p :: r)) w' ∧ Left lo0 lo v w w') := by
  obtain ⟨k, n, nm, txs⟩ := p
  by_cases h0 : s.size = 0
  · obtain rfl := no_empty s h0
    have HST := Lib.hid hst; clear hst
    go_enter Tryz.func36, Tryz.ntmps36
    go_wp2
    go_end0
    exact ⟨rfl, by rw [addS_nil]; exact HST.out, Left.refl _ _ _ _⟩
  · obtain ⟨hne, hne2⟩ := some_byte s h0
    have HN : Hid (s.data.toList ≠ []) := Lib.hid (fun e => h0 (by have := congrArg List.length e; simpa using this))
    obtain ⟨g, cap, hv, hg1, hg2⟩ := hst.form
    have HV := Lib.hid hv
    obtain ⟨H, xs, ho, hx⟩ := hst
    rw [List.reverse_cons] at hx
    have HO := Lib.hid ho; clear ho
    have HX := Lib.hid hx; clear hx
    have HW : Hid (r.length ≤ 100000 ∧ txs.length ≤ 100000) := Lib.hid (by
      simp only [wL, wS, List.map_cons, List.sum_cons, List.length_cons] at hw
      rw [wT_node] at hw
      omega)
    have HG := Lib.hid hg1
    have HL0 := Lib.hid hl0
    clear hw h0 hg2 hg1 hl0
    have HT := Lib.hid ht; clear ht
    subst hv
    go_enter Tryz.func36, Tryz.ntmps36
    go_wp2_with fail
    refine (leafOf_any s w hs HT.out).mono ?_
    rintro e w1 ⟨ka, na, sa, rfl, hlf, hsa, hb⟩
    have HLF := Lib.hid hlf; clear hlf
    have HC := Lib.hid (StkAt.add (g := g) (cap := cap) HL0.out (keep_own HO.out hb) ((HX.out.keep fun b hq _ h2 => ⟨hb.block b h2, hq⟩ : StX w1 lo _ H w.heap.size _ xs)) hb.size rfl HW.out (ka := ka) (na := na) (sa := sa) (aa := none) (am := 0) (ac := 0) (La := w.heap.size) (Ra := w.heap.size) (axs := []) (by unfold maxLen; omega) (Nat.le_refl _) (Nat.le_refl _) hb.size (OwnR.nil _ _ _ _ _ _ _))
    have HB : Hid (Left lo0 lo (.slice (some ⟨g, 0, none⟩) (r.length + 1) cap) w w1) := Lib.hid (Left.of hb (by have := HO.out.lt g rfl; omega))
    clear hb
    go_wp2_with fail
    refine HC.out.mono ?_
    rintro e w2 ⟨rfl, hst2, hb2⟩
    have HS2 := Lib.hid hst2; clear hst2
    have HB2 := Lib.hid (HB.out.trans hb2); clear hb2
    go_wp2
    go_end0
    exact ⟨rfl, by rw [addS_some HN.out, HLF.out]; exact HS2.out, HB2.out⟩
end Go.Proofs.YtooiiomfahomjaaGreatDoor
