/-
  The draws of terms: spec.l3Bent.
-/
import Derived.Test.YtidbokheeieifaaDoorQ5
import Derived.Test.YtidbokheeieifaaDoorQ3
import Derived.Deep.AppendLies
import Derived.Deep.LoopGhost
import Derived.Deep.CutBlock
import Derived.Deep.RegionLaw
import Derived.Deep.RegionLawGrows
namespace Go.Proofs.YtidbokheeieifaaDoor
open Go.RowKit

theorem set_new {w X : World} {B b : Nat} (hg : w.grownBy X (some B)) (hb : w.heap.size ≤ b) (j : Nat) (v : Value) : w.grownBy (X.setCell ⟨b, j, none⟩ v) (some B) :=
  ⟨hg.os, hg.tape, hg.output, by simpa [World.setCell] using hg.size, fun i hi hne => (Below.heap_setCell _ _ _ _ (by show i ≠ b; omega)).trans (hg.block i hi hne)⟩
theorem news4' (w : World) (x0 x1 x2 x3 : Value) (t : TypeId) {n : Nat} (h : n = w.heap.size) : ∀ (j : Nat) (u : Value), [x0, x1, x2, x3][j]? = some u → (w.alloc (.cells #[x0, x1, x2, x3] t)).cell? (Addr.add ⟨n, 0, none⟩ j) = some u := by
  subst h
  intro j u hj
  have e := fun j => World.cell?_alloc_mark w #[x0, x1, x2, x3] t (0, 0) j
  match j, hj with
  | 0, hj => simp at hj; subst hj; exact e 0
  | 1, hj => simp at hj; subst hj; exact e 1
  | 2, hj => simp at hj; subst hj; exact e 2
  | 3, hj => simp at hj; subst hj; exact e 3
  | j + 4, hj => simp at hj

theorem own_zero {w : World} {B n c size b o : Nat} {e : TypeId} {xs : List Value} (h : w.ownsRow B e size (.slice (some ⟨b, o, none⟩) n c) n xs) : o = 0 := by
  rcases h.2 with ⟨h1, _⟩ | ⟨_, _, _, h1, _⟩
  · cases h1
  · cases h1; rfl
theorem own_base {w : World} {B n c size b o : Nat} {e : TypeId} {xs : List Value} (h : w.ownsRow B e size (.slice (some ⟨b, o, none⟩) n c) n xs) : B ≤ b := by
  rcases h.2 with ⟨h1, _⟩ | ⟨_, _, _, h1, hg, _⟩
  · cases h1
  · cases h1; exact hg
theorem own_spot {w : World} {B n c size : Nat} {e : TypeId} {a : Addr} {xs : List Value} (h : w.ownsRow B e size (.slice (some a) n c) n xs) : ∃ b, a = ⟨b, 0, none⟩ := by
  rcases h.2 with ⟨h1, _⟩ | ⟨g, _, _, h1, _⟩
  · cases h1
  · cases h1; exact ⟨g, rfl⟩
/-- A row of one's own with one leaf more. -/
theorem ArgsP.snoc {P : Nat → Prop} {W X : World} {B B' : Nat} {a : Option Addr} {c n d : Nat} {ts : List T} {xs : List Value} {v' : Value} (ha : ArgsP P W d (.slice a n c) ts) (ho : W.ownsRow B 31 4 (.slice a n c) n xs) (hn : n = ts.length)
    (hx : X.ownsRow B' 31 4 v' (n + 1) (xs ++ [.int .i64 3, .int .i64 1, .string ByteArray.empty, .slice none 0 0])) (hk : ∀ (ad : Addr) v, P ad.block → W.cell? ad = some v → X.cell? ad = some v) (hP : ∀ j, v'.ownBlock = some j → P j) (hl : n + 1 ≤ maxLen) :
    ArgsP P X (d + 1) v' (ts ++ [.node 3 1 ByteArray.empty []]) := by
  have hlen : (ts ++ [T.node 3 1 ByteArray.empty []]).length = n + 1 := by rw [hn]; simp
  rcases hx.2 with ⟨_, h0⟩ | ⟨g, cap, cur, rfl, _⟩
  · omega
  refine ⟨some ⟨g, 0, none⟩, cap, by rw [hlen], by rw [hlen]; exact hl, Or.inr ⟨g, 0, rfl, hP g rfl, fun i k n' s ys hi => ?_⟩⟩
  have hxl : xs.length = n * 4 := ho.1
  have hat : ∀ j v, j < (n + 1) * 4 → (xs ++ [.int .i64 3, .int .i64 1, .string ByteArray.empty, .slice none 0 0])[j]? = some v → X.cell? ⟨g, 0 + j, none⟩ = some v := fun j v hj hv => by rw [Nat.zero_add, hx.cellAt j hj, hv]
  by_cases hin : i < n
  · have hi' : ts[i]? = some (T.node k n' s ys) := by rw [List.getElem?_append_left (by omega)] at hi; exact hi
    cases d with
    | zero => obtain ⟨rfl, _⟩ := ha; simp at hi'
    | succ d =>
      obtain ⟨a', c', e, _, hc⟩ := ha
      injection e with e1 _ e3
      rcases hc with hnil | ⟨b, o, hab, hp, hc⟩
      · rw [hnil] at hi'; simp at hi'
      obtain ⟨hs, u', q0, q1, q2, q3, hr⟩ := hc i k n' s ys hi'
      rw [e1, hab] at ho
      have ho0 := own_zero ho
      subst ho0
      have hg : ∀ j v, j < 4 → W.cell? ⟨b, 0 + i * 4 + j, none⟩ = some v → xs[i * 4 + j]? = some v := fun j v hj hv => by
        rw [Nat.zero_add] at hv
        rw [← ho.cellAt (i * 4 + j) (by omega)]; exact hv
      have x0 := hg 0 _ (by omega) q0
      have x1 := hg 1 _ (by omega) q1
      have x2 := hg 2 _ (by omega) q2
      have x3 := hg 3 _ (by omega) q3
      have hap : ∀ j v, j < 4 → xs[i * 4 + j]? = some v → X.cell? ⟨g, 0 + (i * 4 + j), none⟩ = some v := fun j v hj hv => hat _ v (by omega) (by rw [List.getElem?_append_left (by omega)]; exact hv)
      refine ⟨hs, u', ?_, ?_, ?_, ?_, (hr.keep hk).more⟩
      · exact hap 0 _ (by omega) x0
      · have := hap 1 _ (by omega) x1; rw [← Nat.add_assoc] at this; exact this
      · have := hap 2 _ (by omega) x2; rw [← Nat.add_assoc] at this; exact this
      · have := hap 3 _ (by omega) x3; rw [← Nat.add_assoc] at this; exact this
  · have hin2 : i = n := by have := (List.getElem?_eq_some_iff.1 hi).1; omega
    subst hin2
    rw [List.getElem?_append_right (by omega), hn, Nat.sub_self] at hi
    simp at hi
    obtain ⟨rfl, rfl, rfl, rfl⟩ := hi
    have hap : ∀ j v, [Value.int .i64 3, .int .i64 1, .string ByteArray.empty, .slice none 0 0][j]? = some v → X.cell? ⟨g, 0 + (i * 4 + j), none⟩ = some v := fun j v hv => by
      have hj := (List.getElem?_eq_some_iff.1 hv).1
      simp at hj
      exact hat _ v (by omega) (by rw [List.getElem?_append_right (by omega), hxl, Nat.add_sub_cancel_left]; exact hv)
    refine ⟨by decide, .slice none 0 0, hap 0 _ rfl, ?_, ?_, ?_, ArgsP.empty P X d⟩
    · have := hap 1 _ rfl; rw [← Nat.add_assoc] at this; exact this
    · have := hap 2 _ rfl; rw [← Nat.add_assoc] at this; exact this
    · have := hap 3 _ rfl; rw [← Nat.add_assoc] at this; exact this

theorem own_form' {w : World} {B n size : Nat} {e : TypeId} {v : Value} {xs : List Value} (h : w.ownsRow B e size v n xs) : ∃ a c, v = .slice a n c := by
  rcases h.2 with ⟨rfl, h0⟩ | ⟨g, cap, cur, rfl, _⟩
  · exact ⟨none, 0, by rw [h0]⟩
  · exact ⟨_, cap, rfl⟩
def bentInts : List Int := [4, -1, 1]
def bentTexts : List ByteArray := [⟨#[]⟩, ⟨#[88]⟩, ⟨#[102]⟩, ⟨#[97, 66]⟩]
theorem bentTexts_short : ∀ p ∈ bentTexts, p.size ≤ 2 := by
  unfold bentTexts; intro p hp; simp only [List.mem_cons, List.mem_nil_iff, or_false] at hp
  rcases hp with rfl | rfl | rfl | rfl <;> decide

theorem infoTermD : (Tryd.prog.info? 31).map (fun i => (i.zero, i.size, i.bytes)) = some (some (.agg #[.int .i64 0, .int .i64 0, .string ByteArray.empty, .slice none 0 0]), 4, 56) := by kernel_rfl

theorem set4_row {w : World} {b : Nat} {a0 a1 a2 a3 : Value} {t : TypeId} (h : w.heap[b]? = some (.cells #[a0, a1, a2, a3] t (0, 0))) (v0 v1 v2 v3 : Value) :
    ((((w.setCell ⟨b, 0, none⟩ v0).setCell ⟨b, 1, none⟩ v1).setCell ⟨b, 2, none⟩ v2).setCell ⟨b, 3, none⟩ v3).heap[b]? = some (.cells #[v0, v1, v2, v3] t (0, 0)) := by
  have s1 : ∀ (w : World) (cs : Array Value) (j : Nat) (v : Value), w.heap[b]? = some (.cells cs t (0, 0)) → (w.setCell ⟨b, j, none⟩ v).heap[b]? = some (.cells (cs.setIfInBounds j v) t (0, 0)) := by
    intro w cs j v h
    obtain ⟨hlt, hk⟩ := Array.getElem?_eq_some_iff.1 h
    show (w.heap.modify b _)[b]? = _
    rw [Array.getElem?_eq_getElem (by rw [Array.size_modify]; exact hlt), Array.getElem_modify_self, hk]
    rfl
  have := s1 _ _ 3 v3 (s1 _ _ 2 v2 (s1 _ _ 1 v1 (s1 _ _ 0 v0 h)))
  simpa using this

end Go.Proofs.YtidbokheeieifaaDoor
