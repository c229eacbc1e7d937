/-
  The stack's entries as terms with positions; the arguments of a term as nodes; the marks that range statements leave. No walk.
-/
import Derived.Test.YtooiiomfahomjaaPosSt
import Derived.Test.YtooiiomfahomjaaBack
namespace Go.Proofs.Ytooiiomfahomjaa
open Go.RowKit Go.Shelf

/-- An entry that holds a term of an earlier world. -/
def Fit (w0 : World) (x : En × T) : Prop := ∃ xs h, x.2 = .node x.1.k x.1.n x.1.s xs ∧ ArgsAt w0 0 h (.slice x.1.a x.1.m x.1.c) xs
/-- The positions that an entry stands for. -/
def posE (x : En × T) : List (List Int) := (posT x.2).map (x.1.ps ++ ·)
theorem posE_node {e : En} {k n : Int} {s : ByteArray} {xs : List T} : posE (e, .node k n s xs) = e.ps :: (posS 0 xs).map (e.ps ++ ·) := by
  unfold posE
  rw [posT_node]; simp
theorem pos_zip (ps : List Int) : ∀ (xs : List T) (ch : List En) (i0 : Nat), ch.length = xs.length → (∀ (i : Nat) (e : En), ch[i]? = some e → e.ps = ps ++ [((i0 + i : Nat) : Int)]) → (ch.zip xs).flatMap posE = (posS i0 xs).map (ps ++ ·)
  | [], ch, i0, hl, _ => by
    obtain rfl : ch = [] := List.eq_nil_of_length_eq_zero hl
    rw [posS_nil]; rfl
  | x :: xs, [], i0, hl, _ => by simp at hl
  | x :: xs, e :: ch, i0, hl, hp => by
    have ih := pos_zip ps xs ch (i0 + 1) (by simpa using hl) (fun i e' he => by
      have := hp (i + 1) e' (by simpa using he)
      rw [this]; congr 3; omega)
    rw [List.zip_cons_cons, List.flatMap_cons, ih, posS_cons, List.map_append]
    congr 1
    unfold posE
    rw [hp 0 e rfl, List.map_map]
    apply List.map_congr_left
    intro q _
    simp

theorem choose_list {α : Type} {R : Nat → α → Prop} : ∀ (n : Nat), (∀ i, i < n → ∃ d, R i d) → ∃ ds : List α, ds.length = n ∧ ∀ (i : Nat) (d : α), ds[i]? = some d → R i d
  | 0, _ => ⟨[], rfl, fun i d h => by simp at h⟩
  | n + 1, h => by
    obtain ⟨ds, hl, hd⟩ := choose_list n (fun i hi => h i (by omega))
    obtain ⟨d, hdn⟩ := h n (by omega)
    refine ⟨ds ++ [d], by simp [hl], fun i x hx => ?_⟩
    by_cases hi : i < n
    · rw [List.getElem?_append_left (by omega)] at hx
      exact hd i x hx
    · have hlt := (List.getElem?_eq_some_iff.1 hx).1
      simp at hlt
      obtain rfl : i = n := by omega
      rw [List.getElem?_append_right (by omega), hl, Nat.sub_self] at hx
      simp at hx
      subst hx
      exact hdn

/-- The arguments of a term as nodes in memory. -/
theorem nds_of {w0 W : World} {h : Nat} {a : Option Addr} {m c : Nat} {xs : List T} (ha : ArgsAt w0 0 h (.slice a m c) xs) (hb : Below w0.heap.size w0 W) :
    ∃ ds : List Nd, ds.length = xs.length ∧ m = xs.length ∧ NdsIn w0.heap.size W (.slice a m c) ds ∧ ∀ (i : Nat) (d : Nd), ds[i]? = some d → ∃ k n s ts h', xs[i]? = some (T.node k n s ts) ∧ d.k = k ∧ d.n = n ∧ d.s = s ∧ ArgsAt w0 0 h' (.slice d.a d.m d.c) ts := by
  rcases ha.cases with ⟨rfl, a', cap, e⟩ | ⟨h', b, o, cap, rfl, e, _, _, hr⟩
  · simp only [Value.slice.injEq] at e
    obtain ⟨rfl, rfl, rfl⟩ := e
    exact ⟨[], rfl, rfl, Or.inl ⟨_, _, rfl, rfl⟩, fun i d hd => by simp at hd⟩
  · simp only [Value.slice.injEq] at e
    obtain ⟨rfl, rfl, rfl⟩ := e
    obtain ⟨ds, hl, hd⟩ := choose_list (R := fun i (d : Nd) => (∃ k n s ts, xs[i]? = some (T.node k n s ts) ∧ d.k = k ∧ d.n = n ∧ d.s = s ∧ ArgsAt w0 0 h' (.slice d.a d.m d.c) ts) ∧
      (w0.cell? ⟨b, o + i * 4, none⟩ = some (.int .i64 d.k) ∧ w0.cell? ⟨b, o + i * 4 + 1, none⟩ = some (.int .i64 d.n) ∧ w0.cell? ⟨b, o + i * 4 + 2, none⟩ = some (.string d.s) ∧ w0.cell? ⟨b, o + i * 4 + 3, none⟩ = some (.slice d.a d.m d.c))) xs.length (fun i hi => by
        obtain ⟨t, ht⟩ : ∃ t, xs[i]? = some t := ⟨_, List.getElem?_eq_getElem hi⟩
        obtain ⟨k, n, s, ts⟩ := t
        obtain ⟨_, u, c0, c1, c2, c3, hA⟩ := hr i k n s ts ht
        obtain ⟨ua, uc, rfl⟩ := hA.slice
        exact ⟨⟨k, n, s, ua, ts.length, uc⟩, ⟨k, n, s, ts, ht, rfl, rfl, rfl, hA⟩, c0, c1, c2, c3⟩)
    refine ⟨ds, hl, rfl, ?_, fun i d hdi => ?_⟩
    · by_cases h0 : xs.length = 0
      · refine Or.inl ⟨some ⟨b, o, none⟩, c, by rw [h0], List.eq_nil_of_length_eq_zero (by omega)⟩
      · obtain ⟨d0, hd0⟩ : ∃ d, ds[0]? = some d := ⟨_, List.getElem?_eq_getElem (by omega)⟩
        have hlt := World.block_lt_of_cell? w0 _ (hd 0 d0 hd0).2.1
        refine Or.inr ⟨b, o, c, by rw [hl], hlt, fun j d hj => ?_⟩
        obtain ⟨c0, c1, c2, c3⟩ := (hd j d hj).2
        exact ⟨(hb.cell (p := ⟨b, o + j * 4, none⟩) hlt).trans c0, (hb.cell (p := ⟨b, o + j * 4 + 1, none⟩) hlt).trans c1, (hb.cell (p := ⟨b, o + j * 4 + 2, none⟩) hlt).trans c2, (hb.cell (p := ⟨b, o + j * 4 + 3, none⟩) hlt).trans c3⟩
    · obtain ⟨⟨k, n, s, ts, hx, e1, e2, e3, hA⟩, _⟩ := hd i d hdi
      exact ⟨k, n, s, ts, h', hx, e1, e2, e3, hA⟩

/-- The marks of the range statements that are over. -/
def Marks (B : Nat) : List Deferred → World → Prop
  | [], _ => True
  | d :: ds, W => ∃ D, d = { target := .collected D, args := #[] } ∧ B ≤ D ∧ W.heap[D]? = some (.deferred (some [])) ∧ (∀ d' ∈ ds, ∀ D', d'.target = .collected D' → D' < D) ∧ Marks B ds W
theorem Marks.keep {B : Nat} : ∀ {ds : List Deferred} {W W' : World}, Marks B ds W → (∀ D, W.heap[D]? = some (.deferred (some [])) → (∀ d ∈ ds, d.target = .collected D → W'.heap[D]? = some (.deferred (some [])))) → Marks B ds W'
  | [], _, _, _, _ => trivial
  | d :: ds, W, W', ⟨D, e, hB, h, hlt, hr⟩, hk => ⟨D, e, hB, hk D h d (by simp) (by rw [e]), hlt, hr.keep fun D' h' d' hd' e' => hk D' h' d' (by simp [hd']) e'⟩
theorem Marks.others {B : Nat} {ds : List Deferred} {W W' : World} (h : Marks B ds W) (hk : KeepsOthers W W') : Marks B ds W' := h.keep fun D hD _ _ _ => hk.same D _ hD rfl
theorem Marks.lt {B : Nat} : ∀ {ds : List Deferred} {W : World}, Marks B ds W → ∀ d ∈ ds, ∀ D, d.target = .collected D → D < W.heap.size
  | d :: ds, W, ⟨D, e, _, h, _, hr⟩, d', hd', D', e' => by
    rcases List.mem_cons.1 hd' with rfl | hd'
    · rw [e] at e'
      cases e'
      exact (Array.getElem?_eq_some_iff.1 h).1
    · exact hr.lt d' hd' D' e'

/-- A function leaves past its marks. -/
theorem leaves_marks {F : Fence} {n : Nat} {P : Program} {fn : Func} {tmps : Array Value} {R : Ending → World → Prop} {B : Nat} (Pr : World → Prop) (hp : ∀ (W : World) (D : Nat) (o : Obj), Pr W → B ≤ D → W.heap[D]? = some (.deferred (some [])) → Pr (W.putObj D o))
    (hr : ∀ W, Pr W → LeavesInM F n P fn tmps R [] .returning W) : ∀ (ds : List Deferred) (W : World), Marks B ds W → Pr W → LeavesInM F n P fn tmps R ds .returning W
  | [], W, _, h => hr W h
  | d :: ds, W, ⟨D, e, hB, hD, hlt, hm⟩, h => by
    subst e
    refine ⟨by simp, .inl ⟨D, _, rfl, run_takeDeferred hD, leaves_marks Pr hp hr ds _ ?_ (hp W D _ h hB hD)⟩⟩
    refine hm.keep fun D' hD' d' hd' e' => ?_
    have hne := hlt d' hd' D' e'
    have : (W.putObj D (.deferred none)).heap[D']? = W.heap[D']? := (grownBy_putObj' W D (.deferred none)).block D' (Array.getElem?_eq_some_iff.1 hD').1 (fun e => by cases e; omega)
    rw [this]; exact hD'
end Go.Proofs.Ytooiiomfahomjaa
