/-
  The scan of a word and of arguments, as the model's reader does it in memory. No walk.
-/
import Derived.Test.YtooiiomfahomjaaGreatDoorQ24
import Derived.Test.YtooiiomfahomjaaGreatDoorQ25
import Derived.Test.YtooiiomfahomjaaGreatDoorQ8
import Derived.Test.YtooiiomfahomjaaGreatDoorQ14
import Derived.Test.YtooiiomfahomjaaGreatDoorQ7
import Derived.Deep.RegionLaw
import Derived.Deep.AppendLies
import Derived.Deep.DeepCutAuto
import Derived.Deep.CutRange
import Derived.Deep.CutBlock
import Derived.Deep.LoopGhost
import Derived.Deep.RegionHeld3
namespace Go.Proofs.YtooiiomfahomjaaGreatDoor
open Go.RowKit

/-- The scan of a word: from a to b there is no special byte. -/
def ScanAt (L : List UInt8) (a b : Nat) : Prop := a ≤ b ∧ b ≤ L.length ∧ ∀ c ∈ seg L a b, ¬ Special c
theorem ScanAt.start {L : List UInt8} {a : Nat} (h : a ≤ L.length) : ScanAt L a a := ⟨Nat.le_refl _, h, by rw [seg_nil]; simp⟩
theorem ScanAt.next {L : List UInt8} {a b : Nat} (h : ScanAt L a b) {c : UInt8} (hc : L[b]? = some c) (hs : ¬ Special c) : ScanAt L a (b + 1) := by
  obtain ⟨h1, _, h3⟩ := h
  refine ⟨by omega, (List.getElem?_eq_some_iff.1 hc).1, fun x hx => ?_⟩
  rw [← seg_app h1 (Nat.le_succ b), seg_one hc, List.mem_append, List.mem_singleton] at hx
  rcases hx with hx | rfl
  · exact h3 x hx
  · exact hs
theorem drop_seg (L : List UInt8) {a b : Nat} (h : a ≤ b) : L.drop a = seg L a b ++ L.drop b := by
  unfold seg
  rw [show L.drop b = (L.drop a).drop (b - a) by rw [List.drop_drop, show a + (b - a) = b by omega], List.take_append_drop]

/-- Where the model's reader lies. -/
def posOf (rb : Nat) (w : World) : Nat := match w.cell? ⟨rb, 1, none⟩ with | some (.int _ n) => n.toNat | _ => 0
theorem posOf_of {rb : Nat} {w : World} {s : ByteArray} {a : Nat} {q : Bool} (h : w.heap[rb]? = some (RB s a q)) : posOf rb w = a := by
  unfold posOf; rw [(cells3r h).1.2.1]; simp

theorem RB_at {w : World} {rb a b : Nat} {s : ByteArray} {q : Bool} (h : w.heap[rb]? = some (RB s a q)) {v : Int} (hv : v = b) : (w.setCell ⟨rb, 1, none⟩ (.int .i64 v)).heap[rb]? = some (RB s b q) := by
  rw [heap_setCell_same _ _ _ _ _ _ h, hv]; rfl
theorem RB_bad {w : World} {rb a : Nat} {s : ByteArray} {q : Bool} (h : w.heap[rb]? = some (RB s a q)) (q' : Bool) : (w.setCell ⟨rb, 2, none⟩ (.bool q')).heap[rb]? = some (RB s a q') := by
  rw [heap_setCell_same _ _ _ _ _ _ h]; rfl

theorem set_box {Y : World} {b : Nat} {x0 x1 x2 x3 : Value} {T : TypeId} (h : Y.heap[b]? = some (.cells #[x0, x1, x2, x3] T (0, 0))) (y0 y1 y2 y3 : Value) :
    ((((Y.setCell ⟨b, 0, none⟩ y0).setCell ⟨b, 1, none⟩ y1).setCell ⟨b, 2, none⟩ y2).setCell ⟨b, 3, none⟩ y3).heap[b]? = some (.cells #[y0, y1, y2, y3] T (0, 0)) := by
  have h1 := heap_setCell_same _ _ 0 _ _ y0 h
  have h2 := heap_setCell_same _ _ 1 _ _ y1 h1
  have h3 := heap_setCell_same _ _ 2 _ _ y2 h2
  exact heap_setCell_same _ _ 3 _ _ y3 h3
/-- A word's leaf in a box of its own. -/
def LeafAt (wd : ByteArray) (W wx : World) : Prop := ∃ k n nm, leafS wd.data.toList = .node k n nm [] ∧ nm.size ≤ wd.size ∧ wx.heap[W.heap.size]? = some (.cells #[.int .i64 k, .int .i64 n, .string nm, .slice none 0 0] 26 (0, 0)) ∧ Below W.heap.size W wx
theorem leaf_var {wd : ByteArray} {W : World} (h : Nm 65 90 wd) : LeafAt wd W (W.alloc (.cells #[.int .i64 1, .int .i64 0, .string wd, .slice none 0 0] 26)) :=
  ⟨1, 0, wd, by rw [leafS_var (by rw [mk_data]; exact h), mk_data], Nat.le_refl _, heap_new _ _ rfl, bel_al _ _⟩
theorem leaf_app {wd : ByteArray} {W : World} (h : ¬ Nm 65 90 wd) (h2 : ¬ (wd.size = 1 ∧ 48 ≤ byteAt wd 0 ∧ byteAt wd 0 ≤ 57)) : LeafAt wd W (W.alloc (.cells #[.int .i64 2, .int .i64 0, .string wd, .slice none 0 0] 26)) :=
  ⟨2, 0, wd, by
    rw [leafS_app (by rw [mk_data]; exact h) (fun c e hc => h2 ?_), mk_data]
    have hl : wd.size = 1 := by have := congrArg List.length e; simpa using this
    have e0 : wd.data.toList[0]? = some c := by rw [e]; rfl
    rw [List.getElem?_eq_getElem (by simpa using (by omega : 0 < wd.size))] at e0
    rw [byteAt_lt wd 0 (by omega)]
    have hz : 0 < wd.data.size := by show 0 < wd.size; omega
    have : wd[0]'(by omega) = c := by show wd.data[0] = c; simpa using e0
    rw [this]
    omega, Nat.le_refl _, heap_new _ _ rfl, bel_al _ _⟩
theorem leaf_dig {wd : ByteArray} (h : ¬ Nm 65 90 wd) (hl : wd.size = 1) (h2 : 48 ≤ byteAt wd 0 ∧ byteAt wd 0 ≤ 57) : leafS wd.data.toList = .node 3 (byteAt wd 0 - 48) ByteArray.empty [] := by
  have hl2 : wd.data.toList.length = 1 := by simpa using hl
  obtain ⟨c, e⟩ := List.length_eq_one_iff.1 hl2
  have e0 : wd.data.toList[0]? = some c := by rw [e]; rfl
  rw [List.getElem?_eq_getElem (by rw [hl2]; decide)] at e0
  have hz : 0 < wd.data.size := by show 0 < wd.size; omega
  have hc : wd[0]'(by omega) = c := by show wd.data[0] = c; simpa using e0
  rw [byteAt_lt wd 0 (by omega), hc] at h2 ⊢
  rw [e]
  have hm : (⟨[c].toArray⟩ : ByteArray) = wd := by rw [← e, mk_data]
  exact leafS_dig (by rw [hm]; exact h) (by omega)

/-- What a reading of a term gives. -/
def TermEnd (s : ByteArray) (d rb at1 : Nat) (w : World) (e : Ending) (w' : World) : Prop :=
  ∃ k n nm a c xs H at2 bad, e = .returned (tv k n nm (.slice a xs.length c)) ∧ w'.heap[rb]? = some (RB s at2 bad) ∧ w.grownBy w' (some rb) ∧ ReadsT s.data.toList d at1 (.node k n nm xs) at2 bad ∧
    (at1 ≤ at2 ∧ (bad = false → at2 ≤ s.size) ∧ at2 ≤ s.size + 2 * (17 - d)) ∧ wT (.node k n nm xs) ≤ at2 - at1 ∧ OwnR (fun _ => True) w' H w.heap.size w'.heap.size (.slice a xs.length c) xs

theorem term_fin {s : ByteArray} {d rb at1 : Nat} {w wf : World} {k n : Int} {nm : ByteArray} {a : Option Addr} {c : Nat} {xs : List T} {H at2 lo : Nat} {bad : Bool} (hrb : wf.heap[rb]? = some (RB s at2 bad)) (hg : w.grownBy wf (some rb)) (hlt : rb < w.heap.size) (hR : ReadsT s.data.toList d at1 (.node k n nm xs) at2 bad)
    (hat : at1 ≤ at2 ∧ (bad = false → at2 ≤ s.size) ∧ at2 ≤ s.size + 2 * (17 - d)) (hw : wT (.node k n nm xs) ≤ at2 - at1) (ho : OwnR (fun _ => True) wf H lo wf.heap.size (.slice a xs.length c) xs) (hlo : w.heap.size < lo) (v0 v1 v2 v3 : Value) :
    TermEnd s d rb at1 w (.returned (tv k n nm (.slice a xs.length c))) ((((wf.setCell ⟨w.heap.size, 0, none⟩ v0).setCell ⟨w.heap.size, 1, none⟩ v1).setCell ⟨w.heap.size, 2, none⟩ v2).setCell ⟨w.heap.size, 3, none⟩ v3) := by
  have hne : rb ≠ w.heap.size := by omega
  have st : ∀ (W : World) (j : Nat) (v : Value), OwnR (fun _ => True) W H lo wf.heap.size (.slice a xs.length c) xs → OwnR (fun _ => True) (W.setCell ⟨w.heap.size, j, none⟩ v) H lo wf.heap.size (.slice a xs.length c) xs := fun W j v o =>
    o.keep fun b _ h1 _ => ⟨Below.heap_setCell _ _ _ _ (fun e => by simp at e; omega), trivial⟩
  have sg : ∀ (W : World) (j : Nat) (v : Value), w.grownBy W (some rb) → w.grownBy (W.setCell ⟨w.heap.size, j, none⟩ v) (some rb) := fun W j v g =>
    ⟨g.os, g.tape, g.output, Nat.le_trans g.size (by simp), fun b hb hr => (Below.heap_setCell _ _ _ _ (fun e => by simp at e; omega)).trans (g.block b hb hr)⟩
  refine ⟨k, n, nm, a, c, xs, H, at2, bad, rfl, ?_, sg _ _ _ (sg _ _ _ (sg _ _ _ (sg _ _ _ hg))), hR, hat, hw, (st _ _ _ (st _ _ _ (st _ _ _ (st _ _ _ ho)))).wide (by omega) (by simp)⟩
  rw [heap_off _ _ hne, heap_off _ _ hne, heap_off _ _ hne, heap_off _ _ hne]
  exact hrb

/-- Where the reader stands among the arguments that begin at a1. -/
def ArgPos (s : ByteArray) (d a1 at3 : Nat) (bad : Bool) (ts : List T) : Prop := a1 ≤ at3 ∧ (bad = false → at3 ≤ s.size) ∧ at3 ≤ s.size + 2 * (17 - d) ∧ wS ts + ts.length ≤ at3 - a1
/-- The arguments so far. -/
def ArgsSo (w : World) (lo : Nat) (ua : Option Addr) (uc : Nat) (ts : List T) (wr : World) : Prop := (∃ H, OwnR (fun _ => True) wr (H + 1) lo wr.heap.size (.slice ua ts.length uc) ts) ∧ (ts = [] → Value.slice ua ts.length uc = .slice none 0 0) ∧ w.heap.size < lo
theorem news4c (w : World) (x0 x1 x2 x3 : Value) (t : TypeId) {n : Nat} (h : n = w.heap.size) : ∀ (j : Nat) (u : Value), [x0, x1, x2, x3][j]? = some u → (w.alloc (.cells #[x0, x1, x2, x3] t)).cell? (Addr.add ⟨n, 0, none⟩ j) = some u := by
  subst h
  intro j u hj
  have e := fun j => World.cell?_alloc_mark w #[x0, x1, x2, x3] t (0, 0) j
  match j, hj with
  | 0, hj => simp at hj; subst hj; exact e 0
  | 1, hj => simp at hj; subst hj; exact e 1
  | 2, hj => simp at hj; subst hj; exact e 2
  | 3, hj => simp at hj; subst hj; exact e 3
  | j + 4, hj => simp at hj
/-- What stands once an argument was read and appended. -/
structure Got (s : ByteArray) (w : World) (rb tb : Nat) (k0 n0 : Int) (nm : ByteArray) (at4 : Nat) (bad : Bool) (ts : List T) (ua : Option Addr) (uc : Nat) (W : World) : Prop where
  rd : W.heap[rb]? = some (RB s at4 bad)
  gr : w.grownBy W (some rb)
  zr : W.heap[w.heap.size]? = some zRow
  tt : W.heap[tb]? = some (.cells #[.int .i64 k0, .int .i64 n0, .string nm, .slice ua ts.length uc] 26 (0, 0))
  so : ArgsSo w (tb + 1) ua uc ts W

theorem got_step {s : ByteArray} {w wr w1 : World} {rb tb : Nat} {k0 n0 : Int} {nm : ByteArray} {at4 : Nat} {bad : Bool} {ts : List T} {m : Nat} {ua : Option Addr} {uc : Nat} {kc nc : Int} {nmc : ByteArray} {ac : Option Addr} {cc : Nat} {xc : List T} {Hc : Nat}
    (hml : m = ts.length) (hg : w.grownBy wr (some rb)) (hz : wr.heap[w.heap.size]? = some zRow) (ht : wr.heap[tb]? = some (.cells #[.int .i64 k0, .int .i64 n0, .string nm, .slice ua m uc] 26 (0, 0))) (has : ArgsSo w (tb + 1) ua uc ts wr) (hrlt : rb < w.heap.size) (hzt : w.heap.size < tb)
    (hr1 : w1.heap[rb]? = some (RB s at4 bad)) (hg1 : wr.drew.grownBy w1 (some rb)) (hoc : OwnR (fun _ => True) w1 Hc wr.drew.heap.size w1.heap.size (.slice ac xc.length cc) xc) (hnc : nmc.size ≤ maxLen) (hm : m + 1 ≤ maxLen) :
    ∃ ys, (w1.alloc (.cells #[.int .i64 kc, .int .i64 nc, .string nmc, .slice ac xc.length cc] 26)).ownsRow (tb + 1) 26 4 (.slice ua m uc) m ys ∧ tb + 1 ≤ w1.heap.size ∧
      ∀ g3 c3 w3, w3.ownsRow (tb + 1) 26 4 (.slice (some ⟨g3, 0, none⟩) (m + 1) c3) (m + 1) (ys ++ [.int .i64 kc, .int .i64 nc, .string nmc, .slice ac xc.length cc]) → (w1.alloc (.cells #[.int .i64 kc, .int .i64 nc, .string nmc, .slice ac xc.length cc] 26)).grownBy w3 (Value.slice ua m uc).ownBlock →
        ((Value.slice ua m uc).ownBlock = some g3 ∨ g3 = (w1.alloc (.cells #[.int .i64 kc, .int .i64 nc, .string nmc, .slice ac xc.length cc] 26)).heap.size) →
        w3.heap[tb]? = some (.cells #[.int .i64 k0, .int .i64 n0, .string nm, .slice ua m uc] 26 (0, 0)) ∧ Got s w rb tb k0 n0 nm at4 bad (ts ++ [.node kc nc nmc xc]) (some ⟨g3, 0, none⟩) c3 (w3.setCell ⟨tb, 3, none⟩ (.slice (some ⟨g3, 0, none⟩) (m + 1) c3)) := by
  subst hml
  obtain ⟨⟨H, ho⟩, hnil, _⟩ := has
  have hts : tb < wr.heap.size := (Array.getElem?_eq_some_iff.1 ht).1
  have hs1 : wr.heap.size ≤ w1.heap.size := hg1.size
  have ho0 : OwnR (fun _ => True) w1 (H + 1) (tb + 1) wr.heap.size (.slice ua ts.length uc) ts := OwnR.keep (Q := fun _ => True) (w := wr) (fun b _ h1 h2 => ⟨hg1.block b h2 (fun e => by have := Option.some.inj e; omega), trivial⟩) ho
  have ho1 : OwnR (fun _ => True) w1 (max H Hc + 1) (tb + 1) wr.heap.size (.slice ua ts.length uc) ts := ho0.le (by omega)
  have hoc1 : OwnR (fun _ => True) w1 (max H Hc) wr.heap.size w1.heap.size (.slice ac xc.length cc) xc := hoc.le (by omega)
  obtain ⟨ys, hrow, hnv, hstep⟩ := ho1.row (lo0 := tb + 1) (Nat.le_refl _) hnil hs1 (by omega) hm
  refine ⟨ys, keep_own hrow (bel_al _ _), by omega, fun g3 c3 w3 h3 hg3 ha3 => ?_⟩
  have hzz : (w1.alloc (.cells #[.int .i64 kc, .int .i64 nc, .string nmc, .slice ac xc.length cc] 26)).heap.size = w1.heap.size + 1 := by simp
  have hs3 := hg3.size
  rw [hzz] at hs3 ha3
  -- what a block keeps
  have hkb : ∀ b, b < w1.heap.size → (Value.slice ua ts.length uc).ownBlock ≠ some b → w3.heap[b]? = w1.heap[b]? := fun b hb hno => (hg3.block b (by omega) (fun e => hno e.symm)).trans (Below.heap_alloc _ _ _ hb)
  have hlow : ∀ b, b ≤ tb → (Value.slice ua ts.length uc).ownBlock ≠ some b := fun b hb e => by have := (hnv b e).1; omega
  have hsn : Snoc (tb + 1) w1 (.slice ua ts.length uc) ts.length ys [.int .i64 kc, .int .i64 nc, .string nmc, .slice ac xc.length cc] w3 (.slice (some ⟨g3, 0, none⟩) (ts.length + 1) c3) :=
    ⟨by omega, fun b hb hno => hkb b hb (fun e => hno e.symm), h3, by
      rcases ha3 with e | e
      · exact Or.inl e.symm
      · exact Or.inr ⟨g3, rfl, by omega⟩⟩
  have hnew := hstep w3 (.slice (some ⟨g3, 0, none⟩) (ts.length + 1) c3) kc nc nmc _ xc wr.heap.size w1.heap.size hsn hnc (by omega) (Nat.le_refl _) (Nat.le_refl _) hoc1
  have htb3 : w3.heap[tb]? = some (.cells #[.int .i64 k0, .int .i64 n0, .string nm, .slice ua ts.length uc] 26 (0, 0)) :=
    (hkb tb (by omega) (hlow tb (Nat.le_refl _))).trans ((hg1.block tb hts (fun e => by have := Option.some.inj e; omega)).trans ht)
  have hg2 : w.grownBy w1 (some rb) := grown_trans hg (grown_trans (Below.toGrown ((Below.refl _ _).drew) (some rb)) hg1)
  have hw1 : w.heap.size ≤ w1.heap.size := hg2.size
  refine ⟨htb3, ?_, ?_, ?_, ?_, ?_, ?_, ?_⟩
  · rw [heap_off _ _ (by omega), hkb rb (by omega) (hlow rb (by omega))]
    exact hr1
  · refine ⟨hg3.os.trans hg2.os, hg3.tape.trans hg2.tape, hg3.output.trans hg2.output, by simp; omega, fun b hb hr => ?_⟩
    rw [heap_off _ _ (by omega), hkb b (by omega) (hlow b (by omega))]
    exact hg2.block b hb hr
  · rw [heap_off _ _ (by omega), hkb _ (by omega) (hlow _ (by omega)), hg1.block _ (Array.getElem?_eq_some_iff.1 hz).1 (fun e => by have := Option.some.inj e; omega)]
    exact hz
  · rw [heap_setCell_same _ _ _ _ _ _ htb3, List.length_append, List.length_singleton]; rfl
  · refine ⟨max H Hc, ?_⟩
    rw [List.length_append, List.length_singleton]
    exact (hnew.keep fun b _ h1 _ => ⟨heap_off _ _ (by omega), trivial⟩).wide (Nat.le_refl _) (by simp)
  · intro e; simp at e
  · omega

theorem ArgsSo.keep {w wr wr' : World} {lo : Nat} {ua : Option Addr} {uc : Nat} {ts : List T} (h : ArgsSo w lo ua uc ts wr) (hs : wr.heap.size ≤ wr'.heap.size) (hk : ∀ b, lo ≤ b → b < wr.heap.size → wr'.heap[b]? = wr.heap[b]?) : ArgsSo w lo ua uc ts wr' := by
  obtain ⟨⟨H, ho⟩, h1, h2⟩ := h
  exact ⟨⟨H, (OwnR.keep (Q := fun _ => True) (w := wr) (fun b _ b1 b2 => ⟨hk b b1 b2, trivial⟩) ho).wide (Nat.le_refl _) hs⟩, h1, h2⟩
theorem Got.drewN {s : ByteArray} {w W : World} {rb tb : Nat} {k0 n0 : Int} {nm : ByteArray} {at4 : Nat} {bad : Bool} {ts : List T} {ua : Option Addr} {uc : Nat} (h : Got s w rb tb k0 n0 nm at4 bad ts ua uc W) (n : Nat) : Got s w rb tb k0 n0 nm at4 bad ts ua uc (W.drewN n) :=
  ⟨h.rd, grown_trans h.gr (Below.toGrown (below_q _ _) _), h.zr, h.tt, h.so.keep (Nat.le_refl _) fun _ _ _ => rfl⟩
theorem Got.set {s : ByteArray} {w W : World} {rb tb : Nat} {k0 n0 : Int} {nm : ByteArray} {at4 at5 : Nat} {bad bad' : Bool} {ts : List T} {ua : Option Addr} {uc : Nat} (h : Got s w rb tb k0 n0 nm at4 bad ts ua uc W) (h1 : rb < w.heap.size) (h2 : w.heap.size < tb) (j : Nat) (v : Value)
    (hr : (W.setCell ⟨rb, j, none⟩ v).heap[rb]? = some (RB s at5 bad')) : Got s w rb tb k0 n0 nm at5 bad' ts ua uc (W.setCell ⟨rb, j, none⟩ v) :=
  ⟨hr, grown_trans h.gr (set_grown _ _ _ _), (heap_off _ _ (by omega)).trans h.zr, (heap_off _ _ (by omega)).trans h.tt, h.so.keep (by simp) fun b h3 _ => heap_off _ _ (by omega)⟩
theorem ArgPos.next {s : ByteArray} {d a1 at3 at4 : Nat} {ts : List T} {c : T} {badc q : Bool} (h : ArgPos s d a1 at3 false ts) (hd : d ≤ 16) (hp : (at3 ≤ at4 ∧ (badc = false → at4 ≤ s.size) ∧ at4 ≤ s.size + 2 * (17 - (d + 1))) ∧ wT c ≤ at4 - at3)
    (hq : badc = false → q = true → at4 + 2 ≤ s.size) : ArgPos s d a1 (at4 + 2) (badc || !q) (ts ++ [c]) := by
  obtain ⟨h1, _, h3, h4⟩ := h
  refine ⟨by omega, fun e => ?_, by omega, ?_⟩
  · cases badc with
    | true => simp at e
    | false => exact hq rfl (by simpa using e)
  · rw [wS_snoc, List.length_append, List.length_singleton]; omega
theorem sees_len {L p : List UInt8} {a : Nat} (h : Sees L p a) (hp : p ≠ []) : a + p.length ≤ L.length := by
  by_cases h2 : a + p.length ≤ L.length
  · exact h2
  · exact absurd h (sees_no h2 hp)

/-- What an argument's reading gives to the reader of the arguments. -/
def GotArg (s : ByteArray) (w : World) (rb tb : Nat) (k0 n0 : Int) (nm : ByteArray) (ts : List T) (m : Nat) (ua : Option Addr) (uc d at3 : Nat) (e : Ending) (w1 : World) : Prop :=
  ∃ kc nc nmc ac cc xc at4 bad ys, e = .returned (tv kc nc nmc (.slice ac (xc : List T).length cc)) ∧ w1.heap[tb]? = some (.cells #[.int .i64 k0, .int .i64 n0, .string nm, .slice ua m uc] 26 (0, 0)) ∧
    (w1.alloc (.cells #[.int .i64 kc, .int .i64 nc, .string nmc, .slice ac xc.length cc] 26)).ownsRow (tb + 1) 26 4 (.slice ua m uc) m ys ∧ tb + 1 ≤ (w1.alloc (.cells #[.int .i64 kc, .int .i64 nc, .string nmc, .slice ac xc.length cc] 26)).heap.size ∧
    (∀ g3 c3 w3, w3.ownsRow (tb + 1) 26 4 (.slice (some ⟨g3, 0, none⟩) (m + 1) c3) (m + 1) (ys ++ [.int .i64 kc, .int .i64 nc, .string nmc, .slice ac xc.length cc]) → (w1.alloc (.cells #[.int .i64 kc, .int .i64 nc, .string nmc, .slice ac xc.length cc] 26)).grownBy w3 (Value.slice ua m uc).ownBlock →
        ((Value.slice ua m uc).ownBlock = some g3 ∨ g3 = (w1.alloc (.cells #[.int .i64 kc, .int .i64 nc, .string nmc, .slice ac xc.length cc] 26)).heap.size) →
        w3.heap[tb]? = some (.cells #[.int .i64 k0, .int .i64 n0, .string nm, .slice ua m uc] 26 (0, 0)) ∧ Got s w rb tb k0 n0 nm at4 bad (ts ++ [.node kc nc nmc xc]) (some ⟨g3, 0, none⟩) c3 (w3.setCell ⟨tb, 3, none⟩ (.slice (some ⟨g3, 0, none⟩) (m + 1) c3))) ∧
    ReadsT s.data.toList (d + 1) at3 (.node kc nc nmc xc) at4 bad ∧ (at3 ≤ at4 ∧ (bad = false → at4 ≤ s.size) ∧ at4 ≤ s.size + 2 * (17 - (d + 1))) ∧ wT (.node kc nc nmc xc) ≤ at4 - at3
theorem got_arg {s : ByteArray} {w wr w1 : World} {rb tb : Nat} {k0 n0 : Int} {nm : ByteArray} {ts : List T} {m : Nat} {ua : Option Addr} {uc d at3 : Nat} {e : Ending} (h : TermEnd s (d + 1) rb at3 wr.drew e w1) (hs : s.size ≤ 600)
    (hml : m = ts.length) (hg : w.grownBy wr (some rb)) (hz : wr.heap[w.heap.size]? = some zRow) (ht : wr.heap[tb]? = some (.cells #[.int .i64 k0, .int .i64 n0, .string nm, .slice ua m uc] 26 (0, 0))) (has : ArgsSo w (tb + 1) ua uc ts wr) (hrlt : rb < w.heap.size) (hzt : w.heap.size < tb) (hm : m + 1 ≤ maxLen) :
    GotArg s w rb tb k0 n0 nm ts m ua uc d at3 e w1 := by
  obtain ⟨kc, nc, nmc, ac, cc, xc, Hc, at4, badc, rfl, hr1, hg1, hrt1, hpos1, hwt1, ho1⟩ := h
  have hnc1 : nmc.size ≤ maxLen := by have := hwt1; rw [wT_node] at this; unfold maxLen; omega
  obtain ⟨ys, hys, hlo1, hgot⟩ := got_step hml hg hz ht has hrlt hzt hr1 hg1 ho1 hnc1 hm
  refine ⟨kc, nc, nmc, ac, cc, xc, at4, badc, ys, rfl, ?_, hys, by simp; omega, hgot, hrt1, hpos1, hwt1⟩
  exact (hg1.block tb (Array.getElem?_eq_some_iff.1 ht).1 (fun e => by have := Option.some.inj e; omega)).trans ht
end Go.Proofs.YtooiiomfahomjaaGreatDoor
