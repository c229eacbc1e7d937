/-
  A stack of terms under the steps of a scan: its first world, an iterator's step, a push, a pop, the end. No walk.
  The scan of a text from place to place: what a rune's bytes are; how far the scan came. No walk.
-/
import Derived.Test.YtooiiomfahomjaaGreatDoorQ14
import Derived.Test.YtooiiomfahomjaaGreatDoorQ12
import Derived.WalkSmall
import Derived.Lib.DecodeN
import Derived.Laws.RangeAny
namespace Go.Proofs.YtooiiomfahomjaaGreatDoor
open Go.RowKit

theorem results_ctR {fn : Func} {a b : Tmp} {t : TypeId} {tmps : Array Value} {ad : Addr} (h : fn.results = #[.cell a t, .tmp b]) (ha : tmps.getD a undef = .pointer (some ad)) (P : Program) (w : World) {x : Value}
    (hx : (loadVar t ad).run P w = .ok x w) : (results fn tmps).run P w = .ok (.tuple #[x, tmps.getD b undef]) w := by
  have h2 : tmps[a]?.getD undef = .pointer (some ad) := by rw [← ha]; simp
  simp [results, h, h2, asAddr, hx, Result.andThen]

theorem not_iter {w : World} {lo n g cap k : Nat} {e : TypeId} {xs : List Value} {s : ByteArray} {pos : Nat} (ho : w.ownsRow lo e 4 (.slice (some ⟨g, 0, none⟩) n cap) n xs) (hk : w.heap[k]? = some (.stringIter s pos)) : g ≠ k := by
  rintro rfl
  rcases ho.2 with ⟨e1, _⟩ | ⟨g', c, cur, e1, _, hg, _⟩
  · cases e1
  · cases e1
    rw [hk] at hg
    cases hg

theorem StkAt.iterAt {lo0 lo k : Nat} {v : Value} {p : T} {r : List T} {w : World} {s : ByteArray} {pos : Nat} (h : StkAt lo0 lo v (p :: r) w) (hk : w.heap[k]? = some (.stringIter s pos)) (hlo : k < lo) (pos' : Nat) : StkAt lo0 lo v (p :: r) (w.iterAt k s pos') := by
  obtain ⟨g, cap, rfl, _, _⟩ := h.form
  obtain ⟨H, xs, ho, hx⟩ := h
  have hne := not_iter ho hk
  refine ⟨H, xs, row_keep ho (Lib.iterAt_other _ _ _ _ _ hne), ?_⟩
  rw [Lib.iterAt_size]
  exact hx.keep fun b hb h1 _ => ⟨Lib.iterAt_other _ _ _ _ _ (by omega), hb⟩

theorem Left.iter {lo0 lo k : Nat} {v : Value} {p : T} {r : List T} {w w' : World} {s : ByteArray} {pos : Nat} (h : Left lo0 lo v w w') (hst : StkAt lo0 lo v (p :: r) w) (hk : w.heap[k]? = some (.stringIter s pos)) (hlo : k < lo) : w'.heap[k]? = some (.stringIter s pos) := by
  obtain ⟨g, cap, rfl, _, _⟩ := hst.form
  obtain ⟨H, xs, ho, hx⟩ := hst
  have hne := not_iter ho hk
  rw [h.2 k hlo (Array.getElem?_eq_some_iff.1 hk).1 (fun e => hne (by simpa [Value.ownBlock] using e.symm))]
  exact hk

/-- Where the scan begins. -/
theorem stk_start (w : World) (s : ByteArray) : StkAt (w.heap.size + 1) (w.heap.size + 3) (.slice (some ⟨w.heap.size + 1, 0, none⟩) 1 1) [.node 0 0 ByteArray.empty []] (((w.alloc zRow).alloc zRow).iter s 0) ∧
    (((w.alloc zRow).alloc zRow).iter s 0).heap[w.heap.size + 2]? = some (.stringIter s 0) ∧ Below w.heap.size w (((w.alloc zRow).alloc zRow).iter s 0) ∧ (((w.alloc zRow).alloc zRow).iter s 0).heap[w.heap.size]? = some zRow := by
  have hsz : (w.alloc zRow).heap.size = w.heap.size + 1 := by simp
  have hsz2 : ((w.alloc zRow).alloc zRow).heap.size = w.heap.size + 2 := by simp
  have b1 : Below (w.alloc zRow).heap.size (w.alloc zRow) (((w.alloc zRow).alloc zRow).iter s 0) := (bel_al _ _).alloc (by simp) _
  have b2 : Below ((w.alloc zRow).alloc zRow).heap.size ((w.alloc zRow).alloc zRow) (((w.alloc zRow).alloc zRow).iter s 0) := bel_al _ _
  refine ⟨⟨0, zs4, ?_, fun _ => .slice none 0 0, fun _ => w.heap.size + 3, fun _ => w.heap.size + 3, fun i k n nm txs hi => ?_, fun i j h1 h2 => by simp at h2; omega⟩, ?_, (bel_al w zRow).trans (b1.mono (by simp)), (b1.block _ (by simp)).trans (heap_new w zRow rfl)⟩
  · have := World.ownsRow_lit (base := w.heap.size + 1) (size := 4) (e := 26) (w.alloc zRow) #[.int .i64 0, .int .i64 0, .string ⟨#[]⟩, .slice none 0 0] 1 (by rw [hsz]; exact Nat.le_refl _) (by decide) rfl
    rw [hsz] at this
    exact keep_own this b2
  · match i, hi with
    | 0, hi =>
      simp at hi
      obtain ⟨rfl, rfl, rfl, rfl⟩ := hi
      exact ⟨⟨Nat.zero_le _, rfl, rfl, rfl⟩, rfl, fun _ => rfl, ⟨Nat.le_refl _, Nat.le_refl _, by show _ ≤ (((w.alloc zRow).alloc zRow).alloc _).heap.size; simp⟩, rfl, none, 0, rfl⟩
    | i + 1, hi => simp at hi
  · have := World.iter_heap ((w.alloc zRow).alloc zRow) s 0
    rw [hsz2] at this
    exact this

/-- An open operator is put on the stack. -/
theorem StkAt.push {lo0 lo g cap g3 c3 : Nat} {H : Nat} {p : T} {r : List T} {xs : List Value} {w w3 : World} {o : Obj} {sym : ByteArray} (ho : w.ownsRow lo0 26 4 (.slice (some ⟨g, 0, none⟩) (r.length + 1) cap) (r.length + 1) xs) (hx : StX w lo (.slice (some ⟨g, 0, none⟩) (r.length + 1) cap) H w.heap.size (p :: r).reverse xs) (hlo : lo ≤ w.heap.size) (hs : sym.size ≤ maxLen)
    (ho3 : w3.ownsRow lo0 26 4 (.slice (some ⟨g3, 0, none⟩) (r.length + 1 + 1) c3) (r.length + 1 + 1) (xs ++ [.int .i64 2, .int .i64 0, .string sym, .slice none 0 0]))
    (hg3 : (w.alloc o).grownBy w3 (Value.slice (some ⟨g, 0, none⟩) (r.length + 1) cap).ownBlock) (ha3 : (Value.slice (some ⟨g, 0, none⟩) (r.length + 1) cap).ownBlock = some g3 ∨ g3 = (w.alloc o).heap.size) :
    StkAt lo0 lo (.slice (some ⟨g3, 0, none⟩) (r.length + 1 + 1) c3) (.node 2 0 sym [] :: p :: r) w3 := by
  have hg := grew_app (n := r.length + 1 + 1) (cap := c3) hg3 ha3
  refine ⟨H, _, ho3, ?_⟩
  rw [List.reverse_cons]
  exact hx.push (by have := ho.1; simpa using this) hlo hg hs

/-- The topmost one is taken off, and becomes an argument of the next. -/
theorem StkAt.pop {lo0 lo g cap : Nat} {k n : Int} {nm : ByteArray} {txs r : List T} {y : T} {w : World} (h0 : lo0 ≤ lo) (h : StkAt lo0 lo (.slice (some ⟨g, 0, none⟩) (r.length + 1 + 1) cap) (.node k n nm txs :: y :: r) w) (hw : wL (.node k n nm txs :: y :: r) ≤ 100000) :
    ∃ a m c, (w.cell? ⟨g, (r.length + 1) * 4, none⟩ = some (.int .i64 k) ∧ w.cell? ⟨g, (r.length + 1) * 4 + 1, none⟩ = some (.int .i64 n) ∧ w.cell? ⟨g, (r.length + 1) * 4 + 2, none⟩ = some (.string nm) ∧ w.cell? ⟨g, (r.length + 1) * 4 + 3, none⟩ = some (.slice a m c)) ∧
      ∀ w1, Below w.heap.size w w1 → Calls Tryz.prog 37 #[.slice (some ⟨g, 0, none⟩) (r.length + 1) cap, tv k n nm (.slice a m c)] w1
        (fun e w' => e = .returned (.tuple #[]) ∧ StkAt lo0 lo (.slice (some ⟨g, 0, none⟩) (r.length + 1) cap) (addA (.node k n nm txs) (y :: r)) w' ∧ Left lo0 lo (.slice (some ⟨g, 0, none⟩) (r.length + 1) cap) w1 w') := by
  obtain ⟨H, xs, ho, hx⟩ := h
  rw [List.reverse_cons] at hx
  have hl : (y :: r).reverse.length = r.length + 1 := by simp
  obtain ⟨u, La, Ra, ⟨hnm, x0, x1, x2, x3⟩, l1, l2, l3, hown, hxp⟩ := hx.pop (v' := .slice (some ⟨g, 0, none⟩) (r.length + 1) cap) rfl
  rw [hl] at x0 x1 x2 x3 hxp
  obtain ⟨a, c, rfl⟩ := hown.slice
  have hxl : xs.length = (r.length + 1 + 1) * 4 := ho.1
  refine ⟨a, txs.length, c, ⟨?_, ?_, ?_, ?_⟩, fun w1 hb => ?_⟩
  · rw [ho.cellAt ((r.length + 1) * 4) (by omega), x0]
  · rw [ho.cellAt ((r.length + 1) * 4 + 1) (by omega), x1]
  · rw [ho.cellAt ((r.length + 1) * 4 + 2) (by omega), x2]
  · rw [ho.cellAt ((r.length + 1) * 4 + 3) (by omega), x3]
  · obtain ⟨ky, ny, nmy, ty⟩ := y
    have hb2 : ∀ b, b < w.heap.size → w1.heap[b]? = w.heap[b]? := fun b h => hb.block b h
    have hpop : w.ownsRow lo0 26 4 (.slice (some ⟨g, 0, none⟩) (r.length + 1) cap) (r.length + 1) (xs.take ((r.length + 1) * 4)) := by
      refine ownsRow_pop (n := r.length + 1) (last := xs.drop ((r.length + 1) * 4)) (by rw [List.length_take]; omega) ?_
      rw [List.take_append_drop]
      exact ho
    have hwl : r.length ≤ 100000 ∧ ty.length ≤ 100000 := by
      simp only [wL, wS, List.map_cons, List.sum_cons, List.length_cons] at hw
      rw [wT_node, wT_node] at hw
      omega
    rw [List.reverse_cons] at hxp
    exact StkAt.add h0 (keep_own hpop hb) ((hxp.keep fun b hq _ h2 => ⟨hb2 b (by omega), hq⟩)) (La := La) (Ra := Ra) (by have := hb.size; omega) rfl hwl hnm (Nat.le_refl _) l2 (by have := hb.size; omega) (hown.keep fun b hq _ h2 => ⟨hb2 b (by omega), hq⟩)

/-- The last one, and what it holds. -/
theorem StkAt.last {lo0 lo g cap : Nat} {k n : Int} {nm : ByteArray} {txs : List T} {w : World} (h : StkAt lo0 lo (.slice (some ⟨g, 0, none⟩) 1 cap) [.node k n nm txs] w) :
    ∃ a c, w.cell? ⟨g, 3, none⟩ = some (.slice a txs.length c) ∧ ∀ k2 n2 nm2 txs2, txs = [.node k2 n2 nm2 txs2] → ∃ g1 a2 m2 c2 H, a = some ⟨g1, 0, none⟩ ∧ nm2.size ≤ maxLen ∧
      (w.cell? ⟨g1, 0, none⟩ = some (.int .i64 k2) ∧ w.cell? ⟨g1, 1, none⟩ = some (.int .i64 n2) ∧ w.cell? ⟨g1, 2, none⟩ = some (.string nm2) ∧ w.cell? ⟨g1, 3, none⟩ = some (.slice a2 m2 c2)) ∧ OwnR (fun _ => True) w H lo w.heap.size (.slice a2 m2 c2) txs2 := by
  obtain ⟨H, xs, ho, U, L, R, hx, hd⟩ := h
  obtain ⟨_, x3, _, hl, hown⟩ := hx 0 k n nm txs rfl
  obtain ⟨a, c, hU⟩ := hown.slice
  refine ⟨a, c, by rw [ho.cellAt 3 (by have := ho.1; simp at this ⊢)]; rw [← hU]; exact x3, fun k2 n2 nm2 txs2 htx => ?_⟩
  subst htx
  cases H with
  | zero => exact absurd hown.1 (by simp)
  | succ H =>
    obtain ⟨a', c', e, _, hc⟩ := hown
    obtain ⟨g1, ys, V, L', R', rfl, _, g0, gh, how, hxx, _⟩ := hc.resolve_left (by simp)
    rw [hU] at e
    simp only [Value.slice.injEq] at e
    obtain ⟨rfl, _, rfl⟩ := e
    obtain ⟨⟨hs2, y0, y1, y2⟩, y3, l1, l2, _, hr⟩ := hxx 0 k2 n2 nm2 txs2 rfl
    obtain ⟨a2, c2, hV⟩ := hr.slice
    rw [hV] at y3 hr
    have hyl : ys.length = 1 * 4 := how.1
    rw [hU] at how
    refine ⟨g1, a2, txs2.length, c2, H, rfl, hs2, ⟨?_, ?_, ?_, ?_⟩, (hr.keep fun b _ _ _ => ⟨rfl, trivial⟩).wide (by omega) (by omega)⟩
    · rw [how.cellAt 0 (by simp)]; exact y0
    · rw [how.cellAt 1 (by simp)]; exact y1
    · rw [how.cellAt 2 (by simp)]; exact y2
    · rw [how.cellAt 3 (by simp)]; exact y3
end Go.Proofs.YtooiiomfahomjaaGreatDoor
namespace Go.Proofs.YtooiiomfahomjaaGreatDoor
open Go.RowKit

theorem get_mid (s : ByteArray) (i : Nat) (h : i < s.size) : s.get! i = s[i] := by
  simp [ByteArray.get!, getElem!_pos, h]
  rfl

/-- A rune at place i: a byte below 128 alone, or bytes from 128 on. -/
theorem dec_cases (s : ByteArray) (i : Nat) (h : i < s.size) : ((s[i].toNat < 128) ∧ Utf8.decode s i = (s[i].toNat, 1)) ∨
    (128 ≤ s[i].toNat ∧ 128 ≤ (Utf8.decode s i).1 ∧ 1 ≤ (Utf8.decode s i).2 ∧ i + (Utf8.decode s i).2 ≤ s.size ∧ ∀ j, j < (Utf8.decode s i).2 → 128 ≤ (s.get! (i + j)).toNat) := by
  by_cases ha : s[i].toNat < 128
  · exact Or.inl ⟨ha, decode_ascii s i h ha⟩
  · have hh := decode_high s i h (by omega)
    have hb0 : 128 ≤ (s.get! i).toNat := by rw [get_mid s i h]; omega
    have key : ∀ n b0 b1 b2 b3 : Nat, 1 ≤ n → 128 ≤ b0 → (Lib.decodeN n b0 b1 b2 b3).2 ≤ n ∧ (1 < (Lib.decodeN n b0 b1 b2 b3).2 → 128 ≤ b1) ∧ (2 < (Lib.decodeN n b0 b1 b2 b3).2 → 128 ≤ b2) ∧ (3 < (Lib.decodeN n b0 b1 b2 b3).2 → 128 ≤ b3) ∧ (Lib.decodeN n b0 b1 b2 b3).2 ≤ 4 := by
      intro n b0 b1 b2 b3 hn hb
      unfold Lib.decodeN
      repeat' split
      all_goals (refine ⟨?_, ?_, ?_, ?_, ?_⟩ <;> (try intro _) <;> simp only at * <;> omega)
    have hk := key (s.size - i) (s.get! i).toNat (s.get! (i + 1)).toNat (s.get! (i + 2)).toNat (s.get! (i + 3)).toNat (by omega) hb0
    rw [← Lib.decode_at] at hk
    obtain ⟨k0, k1, k2, k3, k4⟩ := hk
    refine Or.inr ⟨by omega, hh.1, hh.2, by omega, fun j hj => ?_⟩
    rcases (by omega : j = 0 ∨ j = 1 ∨ j = 2 ∨ j = 3) with rfl | rfl | rfl | rfl
    · exact hb0
    · exact k1 (by omega)
    · exact k2 (by omega)
    · exact k3 (by omega)

theorem runR_snoc (l : List UInt8) (c : UInt8) (s0 : List T × List UInt8) : runR (l ++ [c]) s0 = (runR l s0).bind (fun s => stepR s c) := by
  rw [runR_append]
  cases runR l s0 with
  | none => rfl
  | some s => exact runR_one c s

/-- The bytes from a to b. -/
def seg (L : List UInt8) (a b : Nat) : List UInt8 := (L.drop a).take (b - a)
theorem seg_nil (L : List UInt8) (a : Nat) : seg L a a = [] := by simp [seg]
theorem seg_len {L : List UInt8} {a b : Nat} (h : a ≤ b) (hb : b ≤ L.length) : (seg L a b).length = b - a := by
  simp [seg, List.length_take, List.length_drop]; omega
theorem seg_app {L : List UInt8} {a b c : Nat} (h1 : a ≤ b) (h2 : b ≤ c) : seg L a b ++ seg L b c = seg L a c := by
  unfold seg
  have e : c - a = (b - a) + (c - b) := by omega
  rw [e, List.take_add, List.drop_drop, show a + (b - a) = b by omega]
theorem take_seg (L : List UInt8) {a b : Nat} (h : a ≤ b) : L.take b = L.take a ++ seg L a b := by
  unfold seg
  conv => lhs; rw [show b = a + (b - a) by omega, List.take_add]
theorem seg_one {L : List UInt8} {a : Nat} {c : UInt8} (h : L[a]? = some c) : seg L a (a + 1) = [c] := by
  unfold seg
  have hl := (List.getElem?_eq_some_iff.1 h).1
  rw [show a + 1 - a = 1 by omega, List.drop_eq_getElem_cons hl]
  rw [List.getElem?_eq_getElem hl] at h
  simp [Option.some.inj h]
theorem seg_end (L : List UInt8) (a : Nat) : seg L a L.length = L.drop a := by unfold seg; rw [List.take_of_length_le]; simp
theorem extract_seg (s : ByteArray) (a b : Nat) : (s.extract a b).data.toList = seg s.data.toList a b := by
  simp [ByteArray.data_extract, seg, List.extract_eq_take_drop]

/-- The scan came to place pos; the symbol at hand began at start; st is the stack. -/
def RdAt (L : List UInt8) (pos start : Nat) (st : List T) : Prop :=
  start ≤ pos ∧ pos ≤ L.length ∧ st ≠ [] ∧ runR (L.take pos) ([baseT], []) = some (st, seg L start pos) ∧ wL st + 2 * (pos - start) ≤ 1 + 3 * pos

theorem RdAt.init (L : List UInt8) : RdAt L 0 0 [baseT] := ⟨Nat.le_refl _, Nat.zero_le _, by simp, by simp [seg, runR], by simp [wL, wS, wT_node, ByteArray.size]⟩
theorem RdAt.plain {L : List UInt8} {pos start w : Nat} {st : List T} (h : RdAt L pos start st) (hw : pos + w ≤ L.length) (hp : ∀ c ∈ seg L pos (pos + w), ¬ Special c) : RdAt L (pos + w) start st := by
  obtain ⟨h1, h2, h3, h4, h5⟩ := h
  refine ⟨by omega, hw, h3, ?_, by omega⟩
  rw [take_seg L (Nat.le_add_right pos w), runR_append, h4]
  show runR _ (_, _) = _
  rw [runR_plain _ hp, seg_app h1 (Nat.le_add_right pos w)]
theorem RdAt.step {L : List UInt8} {pos start : Nat} {st : List T} (h : RdAt L pos start st) {c : UInt8} (hc : L[pos]? = some c) : runR (L.take (pos + 1)) ([baseT], []) = stepR (st, seg L start pos) c := by
  rw [take_seg L (Nat.le_succ pos), seg_one hc, runR_snoc, h.2.2.2.1]; rfl
theorem RdAt.opens {L : List UInt8} {pos start : Nat} {st : List T} (h : RdAt L pos start st) (hc : L[pos]? = some 40) : RdAt L (pos + 1) (pos + 1) (.node 2 0 ⟨(seg L start pos).toArray⟩ [] :: st) := by
  have hl := (List.getElem?_eq_some_iff.1 hc).1
  have hsl := seg_len h.1 h.2.1
  refine ⟨Nat.le_refl _, hl, by simp, ?_, ?_⟩
  · rw [h.step hc, seg_nil]; unfold stepR; rw [if_pos rfl]
  · have h5 := h.2.2.2.2
    have h1 := h.1
    simp only [wL, wS, List.map_cons, List.sum_cons, List.length_cons] at *
    rw [wT_node]
    simp only [wS, List.map_nil, List.sum_nil, List.length_nil, ByteArray.size, List.size_toArray] at *
    omega
theorem RdAt.cons {L : List UInt8} {pos start : Nat} {st : List T} (h : RdAt L pos start st) : ∃ p r, st = p :: r := by
  cases st with
  | nil => exact absurd rfl h.2.2.1
  | cons p r => exact ⟨p, r, rfl⟩
theorem RdAt.sym {L : List UInt8} {pos start : Nat} {p : T} {r : List T} (h : RdAt L pos start (p :: r)) : wL (addS (seg L start pos) (p :: r)) ≤ 1 + 3 * pos := by
  have h1 := addS_w (seg L start pos) p r
  rw [seg_len h.1 h.2.1] at h1
  have := h.2.2.2.2
  omega
theorem RdAt.comma {L : List UInt8} {pos start : Nat} {st : List T} (h : RdAt L pos start st) {c : UInt8} (hc : L[pos]? = some c) (h2 : c = 44 ∨ c = 32) : RdAt L (pos + 1) (pos + 1) (addS (seg L start pos) st) := by
  have hl := (List.getElem?_eq_some_iff.1 hc).1
  obtain ⟨p, r, rfl⟩ := h.cons
  obtain ⟨q, hq⟩ := addS_cons (seg L start pos) p r
  refine ⟨Nat.le_refl _, hl, by rw [hq]; simp, ?_, by have := h.sym; omega⟩
  rw [h.step hc, seg_nil]; unfold stepR; rw [if_neg (by rcases h2 with rfl | rfl <;> decide), if_pos h2]
theorem RdAt.close {L : List UInt8} {pos start : Nat} {st : List T} (h : RdAt L pos start st) (hc : L[pos]? = some 41) {x y : T} {r : List T} (hs : addS (seg L start pos) st = x :: y :: r) : RdAt L (pos + 1) (pos + 1) (addA x (y :: r)) := by
  have hl := (List.getElem?_eq_some_iff.1 hc).1
  obtain ⟨p, q, rfl⟩ := h.cons
  have hw := h.sym
  rw [hs] at hw
  have hw2 := addA_w x y r
  refine ⟨Nat.le_refl _, hl, ?_, ?_, ?_⟩
  · obtain ⟨k, n, s, xs⟩ := y; simp [addA]
  · rw [h.step hc, seg_nil]; unfold stepR; rw [if_neg (by decide), if_neg (by decide), if_pos rfl, hs]
  · have e : wL (x :: y :: r) = wL (y :: r) + wT x + 1 := by simp only [wL, wS, List.map_cons, List.sum_cons, List.length_cons]; omega
    omega
theorem RdAt.stuck {L : List UInt8} {pos start : Nat} {st : List T} (h : RdAt L pos start st) (hc : L[pos]? = some 41) {x : T} (hs : addS (seg L start pos) st = [x]) : readR L = none := by
  have hl := (List.getElem?_eq_some_iff.1 hc).1
  have h1 := h.step hc
  have h2 : stepR (st, seg L start pos) 41 = none := by unfold stepR; rw [if_neg (by decide), if_neg (by decide), if_pos rfl, hs]
  rw [h2] at h1
  unfold readR
  have e : L = L.take (pos + 1) ++ L.drop (pos + 1) := (List.take_append_drop _ _).symm
  rw [e, runR_append, h1]
  rfl
theorem RdAt.done {L : List UInt8} {start : Nat} {st : List T} (h : RdAt L L.length start st) : readR L = endR (st, seg L start L.length) := by
  have h4 := h.2.2.2.1
  rw [List.take_length] at h4
  unfold readR
  rw [h4]
  rfl
theorem endR_one {st : List T} {l : List UInt8} {k n : Int} {s : ByteArray} {t : T} (h : addS l st = [.node k n s [t]]) : endR (st, l) = some t := by unfold endR; rw [h]
theorem endR_no {st : List T} {l : List UInt8} (h : ∀ k n s t, addS l st ≠ [.node k n s [t]]) : endR (st, l) = none := by
  unfold endR
  split
  · rename_i k n s t e; exact absurd e (h k n s t)
  · rfl
end Go.Proofs.YtooiiomfahomjaaGreatDoor
