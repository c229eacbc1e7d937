/-
  spec.l6Base, spec.l6Bent and the draws that use them: signatures that are drawn.
  A signature that is being drawn: what holds of it on the way. No walk.
  What lies below is kept twice. No walk.
-/
import Derived.Test.YtidbokheeieifaaQ3
import Derived.Test.YtidbokheeieifaaQ6
import Derived.Test.YtidbokheeieifaaQ4
import Derived.OwnWalk
import Derived.Laws.AppendOwn
import Derived.Deep.AppendLies
import Derived.OrdersHeld
import Derived.Deep.RegionHeld
namespace Go.Proofs.Ytidbokheeieifaa
open Go.RowKit

abbrev tE : ByteArray := ⟨#[101]⟩
abbrev tK : ByteArray := ⟨#[107]⟩
abbrev tWord : ByteArray := ⟨#[119, 111, 114, 100]⟩
def baseSorts : List ByteArray := [tE, tK]
def baseOps : List OpD := [⟨⟨#[97]⟩, [], tE⟩, ⟨⟨#[98]⟩, [], tE⟩, ⟨⟨#[103]⟩, [tE], tE⟩, ⟨⟨#[102]⟩, [tE, tE], tE⟩, ⟨⟨#[104]⟩, [tE, tWord], tE⟩, ⟨⟨#[110, 117, 109]⟩, [tWord], tE⟩, ⟨⟨#[116, 111, 112]⟩, [tE], tK⟩]

/-- The slice value u holds the strings ps, in a block other than O and not below lo. -/
def StrsNe (w : World) (O lo : Nat) (u : Value) (ps : List ByteArray) : Prop :=
  ∃ a cap, u = .slice a ps.length cap ∧ (ps = [] ∨ ∃ b o, a = some ⟨b, o, none⟩ ∧ (b ≠ O ∧ lo ≤ b) ∧ ∀ i p, ps[i]? = some p → w.cell? ⟨b, o + i, none⟩ = some (.string p))
theorem StrsNe.at {w : World} {O lo : Nat} {u : Value} {ps : List ByteArray} (h : StrsNe w O lo u ps) : StrsAt w u ps := by
  obtain ⟨a, cap, rfl, h⟩ := h
  rcases h with h | ⟨b, o, rfl, _, h⟩
  · exact ⟨a, cap, rfl, Or.inl h⟩
  · exact ⟨_, cap, rfl, Or.inr ⟨b, o, rfl, h⟩⟩
theorem StrsNe.keep {w w' : World} {O lo : Nat} {u : Value} {ps : List ByteArray} (h : StrsNe w O lo u ps) (hk : ∀ (ad : Addr) (p : ByteArray), ad.block ≠ O → lo ≤ ad.block → w.cell? ad = some (.string p) → w'.cell? ad = some (.string p)) : StrsNe w' O lo u ps := by
  obtain ⟨a, cap, rfl, h⟩ := h
  rcases h with h | ⟨b, o, rfl, hb, h⟩
  · exact ⟨a, cap, rfl, Or.inl h⟩
  · exact ⟨_, cap, rfl, Or.inr ⟨b, o, rfl, hb, fun i p hp => hk _ _ hb.1 hb.2 (h i p hp)⟩⟩
/-- The cells of a row of operators; their arguments lie in blocks other than O. -/
def CellsOps (w : World) (O lo : Nat) : List OpD → List Value → Prop
  | [], vs => vs = []
  | d :: ds, vs => ∃ u rest, vs = .string d.name :: u :: .string d.res :: rest ∧ StrsNe w O lo u d.args ∧ CellsOps w O lo ds rest
theorem CellsOps.keep {w w' : World} {O lo : Nat} (hk : ∀ (ad : Addr) (p : ByteArray), ad.block ≠ O → lo ≤ ad.block → w.cell? ad = some (.string p) → w'.cell? ad = some (.string p)) : ∀ {ds : List OpD} {vs : List Value}, CellsOps w O lo ds vs → CellsOps w' O lo ds vs
  | [], _, e => e
  | _ :: _, _, ⟨u, rest, e, hs, hr⟩ => ⟨u, rest, e, hs.keep hk, hr.keep hk⟩
theorem CellsOps.snoc {w : World} {O lo : Nat} {d : OpD} {u : Value} (hs : StrsNe w O lo u d.args) : ∀ {ds : List OpD} {vs : List Value}, CellsOps w O lo ds vs → CellsOps w O lo (ds ++ [d]) (vs ++ [.string d.name, u, .string d.res])
  | [], _, e => by cases e; exact ⟨u, [], rfl, hs, rfl⟩
  | _ :: _, _, ⟨u', rest, e, hs', hr⟩ => ⟨u', _, by rw [e]; rfl, hs', hr.snoc hs⟩
theorem CellsOps.at {w : World} {O lo : Nat} : ∀ {ds : List OpD} {vs : List Value}, CellsOps w O lo ds vs → ∀ i d, ds[i]? = some d → ∃ u, vs[i * 3]? = some (.string d.name) ∧ vs[i * 3 + 1]? = some u ∧ vs[i * 3 + 2]? = some (.string d.res) ∧ StrsAt w u d.args
  | [], _, _ => by simp
  | _ :: _, _, ⟨u, rest, e, hs, hr⟩ => by
    intro i d hi
    cases i with
    | zero => simp at hi; subst hi; subst e; exact ⟨u, rfl, rfl, rfl, hs.at⟩
    | succ i =>
      simp at hi
      obtain ⟨u', x0, x1, x2, hs'⟩ := hr.at i d hi
      subst e
      exact ⟨u', by rw [show (i + 1) * 3 = i * 3 + 3 by omega]; simpa using x0, by rw [show (i + 1) * 3 + 1 = i * 3 + 1 + 3 by omega]; simpa using x1, by rw [show (i + 1) * 3 + 2 = i * 3 + 2 + 3 by omega]; simpa using x2, hs'⟩
theorem CellsOps.len {w : World} {O lo : Nat} : ∀ {ds : List OpD} {vs : List Value}, CellsOps w O lo ds vs → vs.length = ds.length * 3
  | [], _, e => by cases e; rfl
  | _ :: _, _, ⟨_, rest, e, _, hr⟩ => by subst e; have := hr.len; simp; omega
theorem CellsOps.ops {w : World} {O lo B n : Nat} {v : Value} {ds : List OpD} {vs : List Value} (h : CellsOps w O lo ds vs) (ho : w.ownsRow B 109 3 v n vs) (hn : n = ds.length) : OpsAt w v ds := by
  subst hn
  rcases ho.2 with ⟨rfl, h0⟩ | ⟨g, cap, cur, rfl, _⟩
  · exact ⟨none, 0, by rw [h0], Or.inl (List.eq_nil_of_length_eq_zero h0)⟩
  · refine ⟨_, cap, rfl, Or.inr ⟨g, 0, rfl, fun i d hd => ?_⟩⟩
    obtain ⟨u, x0, x1, x2, hs⟩ := h.at i d hd
    have hi : i < ds.length := (List.getElem?_eq_some_iff.1 hd).1
    refine ⟨u, ?_, ?_, ?_, hs⟩
    · rw [Nat.zero_add, ho.cellAt (i * 3) (by omega), x0]
    · rw [Nat.zero_add, ho.cellAt (i * 3 + 1) (by omega), x1]
    · rw [Nat.zero_add, ho.cellAt (i * 3 + 2) (by omega), x2]

/-- A signature's row of sorts and its row of operators, both the call's own. -/
def OwnSigAt (w0 : World) (u v : Value) (ps : List ByteArray) (ds : List OpD) (w : World) : Prop :=
  ∃ (S O : Nat) (cs co : Nat) (vs : List Value), u = .slice (some ⟨S, 0, none⟩) ps.length cs ∧ v = .slice (some ⟨O, 0, none⟩) ds.length co ∧ S ≠ O ∧ w.ownsRow w0.heap.size 9 1 u ps.length (ps.map Value.string) ∧ w.ownsRow w0.heap.size 109 3 v ds.length vs ∧ CellsOps w O w0.heap.size ds vs ∧ CellsOps w S w0.heap.size ds vs
def BaseEnd (w : World) (e : Ending) (w' : World) : Prop := ∃ u v, e = .returned (sv u v) ∧ OwnSigAt w u v baseSorts baseOps w' ∧ Below w.heap.size w w'

/-- New blocks, one behind the other. -/
def allocs (w : World) : List Obj → World
  | [] => w
  | o :: os => allocs (w.alloc o) os
theorem allocs_low : ∀ (os : List Obj) (w : World) (k : Nat), k < w.heap.size → (allocs w os).heap[k]? = w.heap[k]?
  | [], _, _, _ => rfl
  | o :: os, w, k, h => (allocs_low os (w.alloc o) k (by simp; omega)).trans (Below.heap_alloc w o k h)
theorem allocs_at : ∀ (os : List Obj) (w : World) (i : Nat) (o : Obj), os[i]? = some o → (allocs w os).heap[w.heap.size + i]? = some o
  | [], _, _, _, h => by simp at h
  | o :: os, w, 0, x, h => by
    simp at h
    subst h
    exact (allocs_low os (w.alloc o) w.heap.size (by simp)).trans (heap_new w o rfl)
  | o :: os, w, i + 1, x, h => by
    have h1 := allocs_at os (w.alloc o) i x (by simpa using h)
    have e : (w.alloc o).heap.size + i = w.heap.size + (i + 1) := by simp; omega
    rw [e] at h1
    exact h1
theorem allocs_below : ∀ (os : List Obj) (w : World), Below w.heap.size w (allocs w os)
  | [], _ => Below.refl _ _
  | o :: os, w => by
    have h : Below w.heap.size w (w.alloc o) := (Below.refl _ _).alloc (Nat.le_refl _) _
    exact h.trans ((allocs_below os (w.alloc o)).mono h.size)
theorem strs_row {w : World} {b O : Nat} {ps : List ByteArray} {t : TypeId} (h : w.heap[b]? = some (.cells (ps.map Value.string).toArray t (0, 0))) (lo : Nat) (hb : b ≠ O ∧ lo ≤ b) (c : Nat) : StrsNe w O lo (.slice (some ⟨b, 0, none⟩) ps.length c) ps := by
  refine ⟨_, c, rfl, Or.inr ⟨b, 0, rfl, hb, fun i p hp => ?_⟩⟩
  rw [cell_of_row w b (0 + i) _ _ _ h, Nat.zero_add]
  simp [hp]
theorem strs_nil (w : World) (O lo : Nat) : StrsNe w O lo (.slice none 0 0) [] := ⟨none, 0, rfl, Or.inl rfl⟩

end Go.Proofs.Ytidbokheeieifaa
namespace Go.Proofs.Ytidbokheeieifaa
open Go.RowKit

/-- A signature that was drawn. -/
def BentEnd (B : Nat) (cv : Value) (len : Nat) (w : World) (e : Ending) (w' : World) : Prop :=
  ∃ u v ps ds, e = .returned (sv u v) ∧ SigAt w' (sv u v) ps ds ∧ ps.length ≤ 3 ∧ ds.length ≤ 8 ∧ (∀ d ∈ ds, d.args.length ≤ 4) ∧ CurAt w' B cv len ∧ w.grownBy w' (some B)

theorem CurAt.far {w : World} {B : Nat} {cv : Value} {len : Nat} (h : CurAt w B cv len) {g j : Nat} {v : Value} (hg : B ≠ g) : CurAt (w.setCell ⟨g, j, none⟩ v) B cv len := by
  obtain ⟨i, x, hi, hB⟩ := h
  exact ⟨i, x, hi, by rw [Below.heap_setCell _ _ _ _ hg]; exact hB⟩
theorem grown_far {w wr : World} {B : Nat} (h : w.grownBy wr (some B)) {g j : Nat} {v : Value} (hg : w.heap.size ≤ g) : w.grownBy (wr.setCell ⟨g, j, none⟩ v) (some B) :=
  ⟨h.os, h.tape, h.output, by simpa [World.setCell] using h.size, fun k hk hr => (Below.heap_setCell wr _ v k (fun e => by simp at e; omega)).trans (h.block k hk hr)⟩

theorem bent_fin {w wr : World} {B lo R0 O len : Nat} {cv u v : Value} {ps : List ByteArray} {ds : List OpD} {vs : List Value} (hs : wr.ownsRow lo 9 1 u ps.length (ps.map Value.string)) (ho : wr.ownsRow lo 109 3 v ds.length vs) (hc : CellsOps wr O lo ds vs)
    (h1 : ps.length ≤ 3) (h2 : ds.length ≤ 8) (h3 : ∀ d ∈ ds, d.args.length ≤ 4) (hR : R0 < lo) (hBR : B < R0) (hw : w.heap.size ≤ R0) (hcur : CurAt wr B cv len) (hg : w.grownBy wr (some B)) (v0 v1 : Value) :
    BentEnd B cv len w (.returned (sv u v)) ((wr.setCell ⟨R0, 0, none⟩ v0).setCell ⟨R0, 1, none⟩ v1) := by
  refine ⟨u, v, ps, ds, rfl, ⟨u, v, rfl, StrsAt.of_owns (row_off (row_off hs hR) hR), ?_⟩, h1, h2, h3, (hcur.far (by omega)).far (by omega), grown_far (grown_far hg hw) hw⟩
  refine CellsOps.ops (O := O) (lo := lo) (CellsOps.keep (fun ad v hO hl hv => ?_) hc) (row_off (row_off ho hR) hR) rfl
  rw [World.cell?_setCell_far _ _ _ _ (by show R0 ≠ ad.block; omega), World.cell?_setCell_far _ _ _ _ (by show R0 ≠ ad.block; omega)]
  exact hv

theorem cells_of2 {Y : World} {b : Nat} {x0 x1 : Value} {t : TypeId} (hb : Y.heap[b]? = some (.cells #[x0, x1] t (0, 0))) : (Y.cell? ⟨b, 0, none⟩ = some x0 ∧ Y.cell? ⟨b, 1, none⟩ = some x1) ∧ (Y.frozen? ⟨b, 0, none⟩ = false ∧ Y.frozen? ⟨b, 1, none⟩ = false) :=
  ⟨⟨by rw [cell_of_row Y b 0 _ _ _ hb]; rfl, by rw [cell_of_row Y b 1 _ _ _ hb]; rfl⟩, frozen_of_row Y b 0 _ _ hb, frozen_of_row Y b 1 _ _ hb⟩

/-- What is there when the draw has told which way the signature is bent. -/
def Mid (B : Nat) (cv : Value) (len : Nat) (w : World) (X S O cs co : Nat) (vs : List Value) (wr : World) : Prop :=
  (wr.heap[X]? = some (.cells #[.slice (some ⟨S, 0, none⟩) 2 cs, .slice (some ⟨O, 0, none⟩) 7 co] 49 (0, 0)) ∧ wr.heap[w.heap.size]? = some (.cells #[.slice none 0 0, .slice none 0 0] 49 (0, 0))) ∧
  (wr.ownsRow (w.heap.size + 1) 9 1 (.slice (some ⟨S, 0, none⟩) 2 cs) 2 (baseSorts.map Value.string) ∧ wr.ownsRow (w.heap.size + 1) 109 3 (.slice (some ⟨O, 0, none⟩) 7 co) 7 vs ∧ CellsOps wr O (w.heap.size + 1) baseOps vs ∧ CellsOps wr S (w.heap.size + 1) baseOps vs) ∧
  CurAt wr B cv len ∧ w.grownBy wr (some B) ∧ CodeAt wr B cv len


theorem Mid.kept {B len X S O cs co : Nat} {cv : Value} {w W wr : World} {vs : List Value} (h : Mid B cv len w X S O cs co vs W) (hB : B < w.heap.size) (hX : w.heap.size + 1 ≤ X) (hS : w.heap.size + 1 ≤ S) (hO : w.heap.size + 1 ≤ O) (hg : W.grownBy wr (some B)) (hu : CurAt wr B cv len) : Mid B cv len w X S O cs co vs wr := by
  obtain ⟨⟨m1, m2⟩, ⟨m3, m4, m5⟩, m6, m7, m8⟩ := h
  refine ⟨⟨?_, ?_⟩, ⟨m3.kept hg (Or.inr (fun e => by simp [Value.ownBlock] at e; omega)), m4.kept hg (Or.inr (fun e => by simp [Value.ownBlock] at e; omega)), CellsOps.keep (fun ad v _ hl hv => hg.cell hv (fun e => by simp at e; omega)) m5.1, CellsOps.keep (fun ad v _ hl hv => hg.cell hv (fun e => by simp at e; omega)) m5.2⟩, hu, grown_trans m7 hg, m8.grown (by have := m7.size; omega) hg⟩
  · exact (hg.block _ (Array.getElem?_eq_some_iff.1 m1).1 (fun e => by simp at e; omega)).trans m1
  · exact (hg.block _ (Array.getElem?_eq_some_iff.1 m2).1 (fun e => by simp at e; omega)).trans m2

/-- What is there when the signature is bent. -/
def MidG (B : Nat) (cv : Value) (len : Nat) (w : World) (X : Nat) (wr : World) : Prop :=
  ∃ (u v : Value) (ps : List ByteArray) (ds : List OpD) (vs : List Value) (O : Nat), (wr.heap[X]? = some (.cells #[u, v] 49 (0, 0)) ∧ wr.heap[w.heap.size]? = some (.cells #[.slice none 0 0, .slice none 0 0] 49 (0, 0))) ∧
    (wr.ownsRow (w.heap.size + 1) 9 1 u ps.length (ps.map Value.string) ∧ wr.ownsRow (w.heap.size + 1) 109 3 v ds.length vs ∧ CellsOps wr O (w.heap.size + 1) ds vs) ∧ (ps.length ≤ 3 ∧ ds.length ≤ 8 ∧ ∀ d ∈ ds, d.args.length ≤ 4) ∧ CurAt wr B cv len ∧ w.grownBy wr (some B)

theorem CellsOps.store {w : World} {O lo X : Nat} {u : Value} (hx : ∃ a n c, w.cell? ⟨X, 1, none⟩ = some (.slice a n c)) {ds : List OpD} {vs : List Value} (h : CellsOps w O lo ds vs) : CellsOps (w.setCell ⟨X, 1, none⟩ u) O lo ds vs :=
  CellsOps.keep (fun ad p _ _ hv => by
    by_cases e : ad = ⟨X, 1, none⟩
    · subst e
      obtain ⟨a, n, c, hx⟩ := hx
      rw [hx] at hv; simp at hv
    · rw [World.cell?_setCell_other _ _ _ _ (fun e2 => e e2.symm)]; exact hv) h

/-- An operator more. -/
theorem MidG.more {B len X S O cs co g cap q bB : Nat} {cv : Value} {w wr w6 : World} {vs : List Value} {sA sC : ByteArray} (h : Mid B cv len w X S O cs co vs wr) (hB : B < w.heap.size) (hX : w.heap.size + 1 ≤ X) (hO : w.heap.size + 1 ≤ O) (hXO : X ≠ O) (hXS : X ≠ S) (hSO : S ≠ O)
    (hb1 : w.heap.size + 1 ≤ bB) (hb2 : bB ≠ O) (hb3 : wr.heap[bB]? = some (.cells #[.string tE, .string tE, .string tE, .string tE] 9 (0, 0))) (hq : q ≤ 4)
    (ho : w6.ownsRow (w.heap.size + 1) 109 3 (.slice (some ⟨g, 0, none⟩) (7 + 1) cap) (7 + 1) (vs ++ [.string sA, .slice (some ⟨bB, 0, none⟩) q 4, .string sC])) (hg : wr.grownBy w6 (some O)) (hgg : some O = some g ∨ g = wr.heap.size) :
    MidG B cv len w X (w6.setCell ⟨X, 1, none⟩ (.slice (some ⟨g, 0, none⟩) (7 + 1) cap)) := by
  obtain ⟨⟨m1, m2⟩, ⟨m3, m4, m5⟩, m6, m7, m8⟩ := h
  have hXl := (Array.getElem?_eq_some_iff.1 m1).1
  have hRl := (Array.getElem?_eq_some_iff.1 m2).1
  have hSl := (m3.lt S rfl)
  have hBl := m6.lt
  have x1 : w6.heap[X]? = some (.cells #[.slice (some ⟨S, 0, none⟩) 2 cs, .slice (some ⟨O, 0, none⟩) 7 co] 49 (0, 0)) := (hg.block X hXl (fun e => by simp at e; omega)).trans m1
  have hgX : g ≠ X := by
    rcases hgg with e | e
    · injection e with e; omega
    · omega
  refine ⟨.slice (some ⟨S, 0, none⟩) 2 cs, .slice (some ⟨g, 0, none⟩) (7 + 1) cap, baseSorts, baseOps ++ [⟨sA, ([tE, tE, tE, tE] : List ByteArray).take q, sC⟩], vs ++ [.string sA, .slice (some ⟨bB, 0, none⟩) q 4, .string sC], O, ⟨?_, ?_⟩, ⟨?_, ?_, ?_⟩, ⟨by decide, by simp [baseOps], ?_⟩, ?_, ?_⟩
  · exact heap_setCell_same w6 X 1 _ _ _ x1
  · rw [Below.heap_setCell _ _ _ _ (by show w.heap.size ≠ X; omega)]
    exact (hg.block _ hRl (fun e => by simp at e; omega)).trans m2
  · exact row_keep' (m3.kept hg (Or.inr (fun e => by simp [Value.ownBlock] at e; omega))) (fun b hb => by
      simp [Value.ownBlock] at hb
      rw [Below.heap_setCell _ _ _ _ (by show b ≠ X; omega)])
  · exact row_keep' ho (fun b hb => by
      simp [Value.ownBlock] at hb
      rw [Below.heap_setCell _ _ _ _ (by show b ≠ X; omega)])
  · refine CellsOps.store ⟨some ⟨O, 0, none⟩, 7, co, by rw [cell_of_row _ _ 1 _ _ _ x1]; rfl⟩ (CellsOps.snoc ?_ (CellsOps.keep (fun ad p hO' _ hv => hg.cell hv (fun e => by simp at e; omega)) m5.1))
    have hr : w6.heap[bB]? = some (.cells #[.string tE, .string tE, .string tE, .string tE] 9 (0, 0)) := (hg.block bB (Array.getElem?_eq_some_iff.1 hb3).1 (fun e => by simp at e; omega)).trans hb3
    have hl : (([tE, tE, tE, tE] : List ByteArray).take q).length = q := by simp; omega
    refine ⟨_, 4, by show _ = Value.slice _ (List.take q _).length 4; rw [hl], Or.inr ⟨bB, 0, rfl, ⟨hb2, hb1⟩, fun i p hp => ?_⟩⟩
    have hp4 : ([tE, tE, tE, tE] : List ByteArray)[i]? = some p := by
      have hp' : (List.take q ([tE, tE, tE, tE] : List ByteArray))[i]? = some p := hp
      rw [List.getElem?_take] at hp'
      split at hp'
      · exact hp'
      · simp at hp'
    rw [Nat.zero_add, cell_of_row w6 bB i _ _ _ hr]
    match i, hp4 with
    | 0, h => simp at h; subst h; rfl
    | 1, h => simp at h; subst h; rfl
    | 2, h => simp at h; subst h; rfl
    | 3, h => simp at h; subst h; rfl
    | i + 4, h => simp at h
  · intro d hd
    rcases List.mem_append.1 hd with h | h
    · exact (by decide : ∀ d ∈ baseOps, d.args.length ≤ 4) d h
    · simp at h; subst h; simp; omega
  · obtain ⟨i, x, hi, hBB⟩ := m6
    refine CurAt.far ⟨i, x, hi, (hg.block B (Array.getElem?_eq_some_iff.1 hBB).1 (fun e => by simp at e; omega)).trans hBB⟩ (by omega)
  · refine grown_far ⟨hg.os.trans m7.os, hg.tape.trans m7.tape, hg.output.trans m7.output, Nat.le_trans m7.size hg.size, fun k hk hr => (hg.block k (by have := m7.size; omega) (fun e => by simp at e; omega)).trans (m7.block k hk hr)⟩ (by omega)

/-- The end: the result's box is written. -/
theorem MidG.fin {B len X : Nat} {cv : Value} {w wr : World} (h : MidG B cv len w X wr) (hB : B < w.heap.size) :
    ∃ u v, ((wr.cell? ⟨X, 0, none⟩ = some u ∧ wr.cell? ⟨X, 1, none⟩ = some v) ∧ (wr.cell? ⟨w.heap.size, 0, none⟩ = some (.slice none 0 0) ∧ wr.cell? ⟨w.heap.size, 1, none⟩ = some (.slice none 0 0)) ∧ (wr.frozen? ⟨w.heap.size, 0, none⟩ = false ∧ wr.frozen? ⟨w.heap.size, 1, none⟩ = false)) ∧
      (∃ a n c, u = .slice a n c) ∧ (∃ a n c, v = .slice a n c) ∧ ∀ v0 v1, BentEnd B cv len w (.returned (sv u v)) ((wr.setCell ⟨w.heap.size, 0, none⟩ v0).setCell ⟨w.heap.size, 1, none⟩ v1) := by
  obtain ⟨u, v, ps, ds, vs, O, ⟨m1, m2⟩, ⟨m3, m4, m5⟩, ⟨l1, l2, l3⟩, m6, m7⟩ := h
  obtain ⟨⟨c0, c1⟩, _⟩ := cells_of2 m1
  obtain ⟨d0, d1⟩ := cells_of2 m2
  refine ⟨u, v, ⟨⟨c0, c1⟩, d0, d1⟩, ?_, ?_, fun v0 v1 => bent_fin m3 m4 m5 l1 l2 l3 (by omega) hB (Nat.le_refl _) m6 m7 v0 v1⟩
  · rcases m3.2 with ⟨e, _⟩ | ⟨g, c, _, e, _⟩ <;> exact ⟨_, _, _, e⟩
  · rcases m4.2 with ⟨e, _⟩ | ⟨g, c, _, e, _⟩ <;> exact ⟨_, _, _, e⟩
end Go.Proofs.Ytidbokheeieifaa
namespace Go.Proofs.Ytidbokheeieifaa
open Go.RowKit

theorem bel_two {w a b : World} (h : Below w.heap.size w a) (k : Below a.heap.size a b) : Below w.heap.size w b := h.trans (k.mono h.size)
end Go.Proofs.Ytidbokheeieifaa
