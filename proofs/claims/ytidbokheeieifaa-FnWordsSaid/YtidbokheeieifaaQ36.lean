/-
  The model's terms with changed variables: the rows grow by one changed argument a round. spec.RenameVars.
-/
import Derived.Test.YtidbokheeieifaaQ10
import Derived.Deep.AppendLies
import Derived.Deep.RegionLawGrows
namespace Go.Proofs.Ytidbokheeieifaa
open Go.RowKit

theorem heap_set_at' {w : World} {b : Nat} {cs : Array Value} {e : TypeId} (h : w.heap[b]? = some (.cells cs e (0, 0))) (j : Nat) (v : Value) : (w.setCell ⟨b, j, none⟩ v).heap[b]? = some (.cells (cs.setIfInBounds j v) e (0, 0)) := by
  unfold World.setCell
  simp [Array.getElem?_modify, h]

/-- The changed node in the making lies in block tb; its row lies behind. -/
structure OutR (B tb H : Nat) (K N : Int) (S : ByteArray) (ua : Option Addr) (m uc : Nat) (txs : List T) (base wr : World) : Prop where
  box : wr.heap[tb]? = some (trow K N S (.slice ua m uc))
  row : OwnR (fun _ => True) wr H (tb + 1) wr.heap.size (.slice ua m uc) txs
  nil : txs = [] → Value.slice ua m uc = .slice none 0 0
  len : m = txs.length
  bel : Below B base wr

/-- One changed argument more. -/
def GotE (B tb H : Nat) (K N : Int) (S : ByteArray) (ua : Option Addr) (m uc : Nat) (txs : List T) (t : T) (base : World) (e : Ending) (w1 : World) : Prop :=
  ∃ kc nc nmc ac mc cc ys, e = .returned (tv kc nc nmc (.slice ac mc cc)) ∧ w1.heap[tb]? = some (trow K N S (.slice ua m uc)) ∧ Below B base w1 ∧ w1.ownsRow (tb + 1) 26 4 (.slice ua m uc) m ys ∧
    ∀ g3 c3 w3, w3.ownsRow (tb + 1) 26 4 (.slice (some ⟨g3, 0, none⟩) (m + 1) c3) (m + 1) (ys ++ [.int .i64 kc, .int .i64 nc, .string nmc, .slice ac mc cc]) →
      (w1.alloc (.cells #[.int .i64 kc, .int .i64 nc, .string nmc, .slice ac mc cc] 26)).grownBy w3 (Value.slice ua m uc).ownBlock → ((Value.slice ua m uc).ownBlock = some g3 ∨ g3 = (w1.alloc (.cells #[.int .i64 kc, .int .i64 nc, .string nmc, .slice ac mc cc] 26)).heap.size) →
      w3.heap[tb]? = some (trow K N S (.slice ua m uc)) ∧ OutR B tb H K N S (some ⟨g3, 0, none⟩) (m + 1) c3 (txs ++ [t]) base (w3.setCell ⟨tb, 3, none⟩ (.slice (some ⟨g3, 0, none⟩) (m + 1) c3))

theorem got_e {B tb H H1 : Nat} {K N : Int} {S : ByteArray} {ua : Option Addr} {m uc : Nat} {txs : List T} {t : T} {base wr w1 : World} {e : Ending} (hH : H1 = H + 1) (o : OutR B tb H1 K N S ua m uc txs base wr) (hB : B ≤ tb) (hml : m + 1 ≤ maxLen) (h : CopyR H t wr.drew e w1) : GotE B tb H1 K N S ua m uc txs t base e w1 := by
  subst hH
  obtain ⟨kc, nc, nmc, u, xc, rfl, rfl, hsz, hoc, hb0⟩ := h
  obtain ⟨ac, cc, rfl⟩ := hoc.slice
  have hb1 : Below wr.heap.size wr w1 := bel_drew hb0
  have htb : tb < wr.heap.size := (Array.getElem?_eq_some_iff.1 o.box).1
  have hz1 := hb1.size
  have hBr : B ≤ wr.heap.size := by omega
  have ho1 : OwnR (fun _ => True) w1 (H + 1) (tb + 1) wr.heap.size (.slice ua m uc) txs := o.row.keep fun b _ _ b2 => ⟨hb1.block b b2, trivial⟩
  obtain ⟨ys, hys, hyl, hstep⟩ := ho1.row (Nat.le_refl _) o.nil hz1 (by omega) (by rw [← o.len]; exact hml)
  rw [← o.len] at hys hstep
  have hBw : Below B base w1 := o.bel.trans (hb1.mono hBr)
  refine ⟨kc, nc, nmc, ac, xc.length, cc, ys, rfl, (hb1.block tb htb).trans o.box, hBw, hys, fun g3 c3 w3 ho3 hg3 ha3 => ?_⟩
  have hza : (w1.alloc (.cells #[.int .i64 kc, .int .i64 nc, .string nmc, .slice ac xc.length cc] 26)).heap.size = w1.heap.size + 1 := by simp
  have hgz := hg3.size
  rw [hza] at hgz ha3
  have hne : some tb ≠ (Value.slice ua m uc).ownBlock := fun e => by have := (hyl tb e.symm).1; omega
  have hbx3 : w3.heap[tb]? = some (trow K N S (.slice ua m uc)) := (hg3.block tb (by omega) hne).trans ((Below.heap_alloc _ _ _ (by omega)).trans ((hb1.block tb htb).trans o.box))
  refine ⟨hbx3, ?_⟩
  have hsn : Snoc (tb + 1) w1 (.slice ua m uc) m ys [.int .i64 kc, .int .i64 nc, .string nmc, .slice ac xc.length cc] w3 (.slice (some ⟨g3, 0, none⟩) (m + 1) c3) := by
    refine ⟨by omega, fun b hb hno => (hg3.block b (by omega) hno).trans (Below.heap_alloc _ _ _ hb), ho3, ?_⟩
    rcases ha3 with h | h
    · exact Or.inl (by rw [h]; rfl)
    · exact Or.inr ⟨g3, rfl, by omega⟩
  have hrow := hstep w3 _ kc nc nmc (.slice ac xc.length cc) xc wr.heap.size w1.heap.size hsn hsz (by omega) (Nat.le_refl _) (Nat.le_refl _) hoc
  refine ⟨?_, ?_, fun e => by simp at e, by rw [List.length_append, List.length_singleton, o.len], ?_⟩
  · exact heap_set_at' hbx3 3 _
  · have hz : (w3.setCell ⟨tb, 3, none⟩ (.slice (some ⟨g3, 0, none⟩) (m + 1) c3)).heap.size = w3.heap.size := by simp [World.setCell]
    rw [hz]
    exact hrow.keep fun b _ h1 _ => ⟨Below.heap_setCell _ _ _ _ (fun e => by simp at e; omega), trivial⟩
  · exact Below.setCell ((hBw.alloc (by omega) _).grown hg3 (by omega) (fun k hk => by have := (hyl k hk).1; omega)) hB _

/-- A copy, put into the result's box b. -/
theorem copy_fin2 {w wr : World} {b B : Nat} {k n : Int} {s : ByteArray} {u : Value} {h : Nat} {xs : List T} (hs : s.size ≤ maxLen) (ho : OwnR (fun _ => True) wr h B wr.heap.size u xs) (hb : Below w.heap.size w wr) (h1 : w.heap.size ≤ b) (h2 : b < B) (v0 v1 v2 v3 : Value) :
    CopyR h (.node k n s xs) w (.returned (tv k n s u)) ((((wr.setCell ⟨b, 0, none⟩ v0).setCell ⟨b, 1, none⟩ v1).setCell ⟨b, 2, none⟩ v2).setCell ⟨b, 3, none⟩ v3) := by
  have st : ∀ (W : World) (j : Nat) (v : Value), OwnR (fun _ => True) W h B wr.heap.size u xs → OwnR (fun _ => True) (W.setCell ⟨b, j, none⟩ v) h B wr.heap.size u xs := fun W j v o =>
    o.keep fun b' _ h1 _ => ⟨Below.heap_setCell _ _ _ _ (fun e => by simp at e; omega), trivial⟩
  refine ⟨k, n, s, u, xs, rfl, rfl, hs, (st _ _ _ (st _ _ _ (st _ _ _ (st _ _ _ ho)))).wide (by omega) (by simp [World.setCell]), ?_⟩
  exact (((hb.setCell h1 _).setCell h1 _).setCell h1 _).setCell h1 _

end Go.Proofs.Ytidbokheeieifaa
