/-
  The rows of a term that are a call's own and lie apart: what keeps them. No walk.
  What the walks over structs of terms share: a new block, a result in a cell. No walk.
  spec.l6Sort, spec.l6Op and spec.IsValidSignature tell the signatures that are valid.
-/
import Derived.Test.YtcmhiindjponcaaQ2
import Derived.Test.YtcmhiindjponcaaQ3
import Derived.Test.YtcmhiindjponcaaQ6
import Derived.Test.YtcmhiindjponcaaQ7
import Derived.WalkKit
import Derived.WalkLawsBesides
import Derived.BigQuiet
import Derived.Deep.QuietTactic
import Derived.Deep.RegionHeld3
namespace Go.Proofs.Ytcmhiindjponcaa
open Go.RowKit

/-- The slice value u holds as many terms as ts; its rows, and those below, are owned, lie in blocks from lo to hi, and lie apart. -/
def OwnA (w : World) : Nat → Nat → Nat → Value → List T → Prop
  | 0, _, _, u, ts => ts = [] ∧ ∃ a cap, u = .slice a 0 cap
  | h + 1, lo, hi, u, ts => ∃ a cap, u = .slice a ts.length cap ∧ (ts = [] ∨ ∃ (g : Nat) (xs : List Value) (U : Nat → Value) (L R : Nat → Nat), a = some ⟨g, 0, none⟩ ∧ lo ≤ g ∧ g < hi ∧ w.ownsRow g 30 4 u ts.length xs ∧
      (∀ i k n s txs, ts[i]? = some (T.node k n s txs) → xs[i * 4 + 3]? = some (U i) ∧ lo ≤ L i ∧ R i ≤ hi ∧ (g < L i ∨ R i ≤ g) ∧ OwnA w h (L i) (R i) (U i) txs) ∧
      (∀ i j, i < j → j < ts.length → R i ≤ L j ∨ R j ≤ L i))

/-- Only blocks from lo to hi have turned, and new ones are there. -/
def Out (lo hi : Nat) (w w' : World) : Prop :=
  w'.os = w.os ∧ w'.tape = w.tape ∧ w'.output = w.output ∧ w.heap.size ≤ w'.heap.size ∧ ∀ b, b < w.heap.size → (b < lo ∨ hi ≤ b) → w'.heap[b]? = w.heap[b]?
theorem Out.refl (lo hi : Nat) (w : World) : Out lo hi w w := ⟨rfl, rfl, rfl, Nat.le_refl _, fun _ _ _ => rfl⟩
theorem Out.trans {lo hi : Nat} {a b c : World} (h : Out lo hi a b) (k : Out lo hi b c) : Out lo hi a c :=
  ⟨k.1.trans h.1, k.2.1.trans h.2.1, k.2.2.1.trans h.2.2.1, Nat.le_trans h.2.2.2.1 k.2.2.2.1, fun i hi ho => (k.2.2.2.2 i (Nat.lt_of_lt_of_le hi h.2.2.2.1) ho).trans (h.2.2.2.2 i hi ho)⟩
theorem Out.of_below {lo hi : Nat} {w w' : World} (h : Below w.heap.size w w') : Out lo hi w w' := ⟨h.os, h.tape, h.output, h.size, fun b hb _ => h.block b hb⟩
theorem Out.set {lo hi : Nat} (w : World) (g j : Nat) (v : Value) (h1 : lo ≤ g) (h2 : g < hi) : Out lo hi w (w.setCell ⟨g, j, none⟩ v) := by
  have h := set_grown w g j v
  exact ⟨h.os, h.tape, h.output, h.size, fun b hb ho => h.block b hb (fun e => by cases e; omega)⟩
theorem Out.wide {lo hi lo' hi' : Nat} {w w' : World} (h : Out lo hi w w') (h1 : lo' ≤ lo) (h2 : hi ≤ hi') : Out lo' hi' w w' :=
  ⟨h.1, h.2.1, h.2.2.1, h.2.2.2.1, fun b hb ho => h.2.2.2.2 b hb (by omega)⟩

theorem row_keep {w w' : World} {B g n cap size : Nat} {e : TypeId} {xs : List Value} (h : w.ownsRow B e size (.slice (some ⟨g, 0, none⟩) n cap) n xs) (hk : w'.heap[g]? = w.heap[g]?) : w'.ownsRow B e size (.slice (some ⟨g, 0, none⟩) n cap) n xs := by
  refine ⟨h.1, ?_⟩
  rcases h.2 with ⟨e1, _⟩ | ⟨g', cap', cur, e1, hb, hg, rest⟩
  · simp at e1
  · simp only [Value.slice.injEq, Option.some.injEq, Addr.mk.injEq] at e1
    obtain ⟨⟨rfl, _⟩, _, rfl⟩ := e1
    exact Or.inr ⟨g, cap, cur, rfl, hb, by rw [hk]; exact hg, rest⟩

theorem OwnA.keep {w w' : World} : ∀ {h lo hi : Nat} {u : Value} {ts : List T}, (∀ b, lo ≤ b → b < hi → w'.heap[b]? = w.heap[b]?) → OwnA w h lo hi u ts → OwnA w' h lo hi u ts
  | 0, _, _, _, _, _, k => k
  | h + 1, lo, hi, u, ts, hk, ⟨a, cap, e, hc⟩ => by
    refine ⟨a, cap, e, ?_⟩
    rcases hc with hc | ⟨g, xs, U, L, R, rfl, h1, h2, ho, hx, hd⟩
    · exact Or.inl hc
    · subst e
      refine Or.inr ⟨g, xs, U, L, R, rfl, h1, h2, row_keep ho (hk g h1 h2), fun i k n s txs hi => ?_, hd⟩
      obtain ⟨x3, l1, l2, l3, hr⟩ := hx i k n s txs hi
      exact ⟨x3, l1, l2, l3, hr.keep (fun b b1 b2 => hk b (by omega) (by omega))⟩
theorem OwnA.wide {w : World} : ∀ {h lo hi lo' hi' : Nat} {u : Value} {ts : List T}, lo' ≤ lo → hi ≤ hi' → OwnA w h lo hi u ts → OwnA w h lo' hi' u ts
  | 0, _, _, _, _, _, _, _, _, k => k
  | h + 1, lo, hi, lo', hi', u, ts, w1, w2, ⟨a, cap, e, hc⟩ => by
    refine ⟨a, cap, e, ?_⟩
    rcases hc with hc | ⟨g, xs, U, L, R, ea, h1, h2, ho, hx, hd⟩
    · exact Or.inl hc
    · refine Or.inr ⟨g, xs, U, L, R, ea, by omega, by omega, ho, fun i k n s txs hi => ?_, hd⟩
      obtain ⟨x3, l1, l2, l3, hr⟩ := hx i k n s txs hi
      exact ⟨x3, by omega, by omega, l3, hr⟩
theorem OwnA.slice {w : World} {h lo hi : Nat} {u : Value} {ts : List T} (k : OwnA w h lo hi u ts) : ∃ a cap, u = .slice a ts.length cap := by
  cases h with
  | zero => obtain ⟨rfl, a, cap, rfl⟩ := k; exact ⟨a, cap, rfl⟩
  | succ h => obtain ⟨a, cap, e, _⟩ := k; exact ⟨a, cap, e⟩
theorem OwnA.nil (w : World) (h lo hi : Nat) (a : Option Addr) (cap : Nat) : OwnA w h lo hi (.slice a 0 cap) [] := by
  cases h with
  | zero => exact ⟨rfl, a, cap, rfl⟩
  | succ h => exact ⟨a, cap, rfl, Or.inl rfl⟩
theorem OwnA.off {w : World} {h lo hi : Nat} {u : Value} {ts : List T} (k : OwnA w h lo hi u ts) {g : Nat} (hg : g < lo ∨ hi ≤ g) (j : Nat) (v : Value) : OwnA (w.setCell ⟨g, j, none⟩ v) h lo hi u ts :=
  k.keep fun b b1 b2 => Below.heap_setCell _ _ _ _ (fun e => by simp at e; omega)
end Go.Proofs.Ytcmhiindjponcaa
namespace Go.Proofs.Ytcmhiindjponcaa
open Go.RowKit

theorem infoTerm : (Try.prog.info? 30).map (fun i => (i.zero, i.size, i.bytes)) = some (some (.agg #[.int .i64 0, .int .i64 0, .string ByteArray.empty, .slice none 0 0]), 4, 56) := by kernel_rfl

theorem heap_new (w : World) (o : Obj) {n : Nat} (h : n = w.heap.size) : (w.alloc o).heap[n]? = some o := by
  subst h
  show (w.heap.push o)[w.heap.size]? = _
  simp
theorem heap_mid (w : World) (o p : Obj) {n : Nat} (h : n = w.heap.size) : ((w.alloc o).alloc p).heap[n]? = some o := by
  rw [Below.heap_alloc _ _ _ (by simp; omega)]
  exact heap_new w o h

theorem results_cell {fn : Func} {a : Tmp} {t : TypeId} {tmps : Array Value} {ad : Addr} (h : fn.results = #[.cell a t]) (ha : tmps.getD a undef = .pointer (some ad)) (P : Program) (w : World) :
    (results fn tmps).run P w = (loadVar t ad).run P w := by
  have h2 : tmps[a]?.getD undef = .pointer (some ad) := by rw [← ha]; simp
  simp [results, h, h2, asAddr]

theorem bel_drew {wr w1 : World} (hb : Below wr.drew.heap.size wr.drew w1) : Below wr.heap.size wr w1 := ((Below.refl _ _).drew).trans hb
end Go.Proofs.Ytcmhiindjponcaa
namespace Go.Proofs.Ytcmhiindjponcaa
open Go.RowKit

/-- The name of the sort of the words. -/
abbrev wordL : List UInt8 := [119, 111, 114, 100]
theorem word_ways (s : ByteArray) : (s.toList = [119, 111, 114, 100] ∧ (s.toList == [119, 111, 114, 100]) = true) ∨ (¬ s.toList = [119, 111, 114, 100] ∧ (s.toList == [119, 111, 114, 100]) = false) := by
  by_cases h : s.toList = [119, 111, 114, 100]
  · left; simp [h]
  · right; simp [h]
/-- A sort of a signature. -/
def SortOk (ps : List ByteArray) (s : ByteArray) : Prop := s.toList = [119, 111, 114, 100] ∨ s ∈ ps
/-- An operator of a signature. -/
def ValidOp (ps : List ByteArray) (d : OpD) : Prop := Nm 97 122 d.name ∧ builtinB d.name = false ∧ d.args.length ≤ 3 ∧ (∀ s ∈ d.args, SortOk ps s) ∧ SortOk ps d.res
def SortName (p : ByteArray) : Prop := Nm 97 122 p ∧ ¬ p.toList = [119, 111, 114, 100]
def ValidSig (ps : List ByteArray) (ds : List OpD) : Prop := ps.length ≤ 4 ∧ ps.Nodup ∧ ds.length ≤ 16 ∧ (ds.map OpD.name).Nodup ∧ (∀ p ∈ ps, SortName p) ∧ ∀ d ∈ ds, ValidOp ps d

theorem idx_ways (ps : List ByteArray) (s : ByteArray) : (Lib.idxOfS ps s = -1 ∧ s ∉ ps) ∨ (∃ k : Nat, Lib.idxOfS ps s = (k : Int) ∧ k < ps.length ∧ s ∈ ps) := by
  by_cases h : ∃ k, NotYet ps s k ∧ ps[k]? = some s
  · obtain ⟨k, h1, h2⟩ := h
    exact Or.inr ⟨k, idx_hit h1 h2, (List.getElem?_eq_some_iff.1 h2).1, List.mem_of_getElem? h2⟩
  · have hn : ∀ k, NotYet ps s k := by
      intro k
      induction k with
      | zero => intro j p hj; omega
      | succ k ih =>
        intro j p hj hp
        by_cases e : j = k
        · subst e
          intro e2
          exact h ⟨j, ih, by rw [hp, e2]⟩
        · exact ih j p (by omega) hp
    refine Or.inl ⟨idx_miss (hn _), fun hm => ?_⟩
    obtain ⟨j, hj⟩ := List.mem_iff_getElem?.1 hm
    exact hn (j + 1) j s (by omega) hj rfl

set_option maxRecDepth 100000 in
set_option maxHeartbeats 800000 in
theorem sSort_any (ua : Value) (bb : Option Addr) (bn bc : Nat) (ps : List ByteArray) (s : ByteArray) (w : World) (hl : ps.length ≤ 1048576) (ha : StrsAt w ua ps) :
    Calls Try.prog 103 #[sv ua (.slice bb bn bc), .string s] w (TellsB (SortOk ps s) w) := by
  have HA := Lib.hid ha
  obtain ⟨a0, c0, rfl⟩ := ha.slice
  clear ha
  have HBA : Hid (∀ o, Below w.heap.size w (w.alloc o)) := Lib.hid (fun o => (Below.refl _ _).alloc (Nat.le_refl _) _)
  rcases word_ways s with ⟨h1, h2⟩ | ⟨h1, h2⟩
  · have H1 := Lib.hid h1; clear h1
    go_enter Try.func103, Try.ntmps103
    go_wp2
    go_ret
    exact ⟨true, rfl, ⟨fun _ => Or.inl H1.out, fun _ => rfl⟩, HBA.out _⟩
  · have H1 := Lib.hid h1; clear h1
    go_enter Try.func103, Try.ntmps103
    go_wp2_with fail
    refine (sIndex_any _ ps s _ (by omega) (HA.out.below (HBA.out _))).mono ?_
    rintro e w1 ⟨rfl, rfl⟩
    rcases idx_ways ps s with ⟨hi, hm⟩ | ⟨k, hi, hk, hm⟩
    · rw [hi]
      have HM := Lib.hid hm; clear hm hi
      go_wp2
      go_ret
      exact ⟨false, rfl, ⟨fun h => by simp at h, fun h => by rcases h with h | h; exact absurd h H1.out; exact absurd h HM.out⟩, HBA.out _⟩
    · rw [hi]
      have HM := Lib.hid hm; clear hm hi
      go_wp2
      go_ret
      exact ⟨true, rfl, ⟨fun _ => Or.inr HM.out, fun _ => rfl⟩, HBA.out _⟩
theorem StrsAt.at {w : World} {u : Value} {ps : List ByteArray} (h : StrsAt w u ps) {k : Nat} {p : ByteArray} (hp : ps[k]? = some p) : ∃ b o cap, u = .slice (some ⟨b, o, none⟩) ps.length cap ∧ w.cell? ⟨b, o + k, none⟩ = some (.string p) := by
  obtain ⟨a, cap, rfl, h⟩ := h
  rcases h with rfl | ⟨b, o, rfl, h⟩
  · simp at hp
  · exact ⟨b, o, cap, rfl, h k p hp⟩
theorem OpsAt.at {w : World} {u : Value} {ds : List OpD} (h : OpsAt w u ds) {k : Nat} {d : OpD} (hp : ds[k]? = some d) : ∃ b o cap a' n' c', u = .slice (some ⟨b, o, none⟩) ds.length cap ∧ w.cell? ⟨b, o + k * 3, none⟩ = some (.string d.name) ∧
    w.cell? ⟨b, o + k * 3 + 1, none⟩ = some (.slice a' n' c') ∧ w.cell? ⟨b, o + k * 3 + 2, none⟩ = some (.string d.res) ∧ StrsAt w (.slice a' n' c') d.args := by
  obtain ⟨a, cap, rfl, h⟩ := h
  rcases h with rfl | ⟨b, o, rfl, h⟩
  · simp at hp
  · obtain ⟨u', c0, c1, c2, hs⟩ := h k d hp
    obtain ⟨a', c', rfl⟩ := hs.slice
    exact ⟨b, o, cap, a', _, c', rfl, c0, c1, c2, hs⟩

set_option maxRecDepth 100000 in
set_option maxHeartbeats 1600000 in
theorem sOp_any (ua u : Value) (bb : Option Addr) (bn bc : Nat) (ps : List ByteArray) (d : OpD) (w : World) (hl : ps.length ≤ 1048576) (hal : d.args.length ≤ 1048576) (hnm : d.name.size ≤ 1048576) (ha : StrsAt w ua ps) (hu : StrsAt w u d.args) :
    Calls Try.prog 60 #[sv ua (.slice bb bn bc), ov d.name u d.res] w (TellsB (ValidOp ps d) w) := by
  have HA := Lib.hid ha
  have HU := Lib.hid hu
  obtain ⟨a0, c0, rfl⟩ := ha.slice
  obtain ⟨a1, c1, rfl⟩ := hu.slice
  clear ha hu
  have HV : Hid (ValidOp ps d ↔ (Nm 97 122 d.name ∧ builtinB d.name = false ∧ d.args.length ≤ 3 ∧ (∀ s ∈ d.args, SortOk ps s) ∧ SortOk ps d.res)) := Lib.hid Iff.rfl
  obtain ⟨nm, xs, rs⟩ := d
  obtain ⟨X, hX⟩ : ∃ X, X = ValidOp ps ⟨nm, xs, rs⟩ := ⟨_, rfl⟩
  rw [← hX] at HV ⊢
  clear hX
  obtain ⟨W, hW⟩ : ∃ W, W = (w.alloc (.cells #[.slice a0 ps.length c0, .slice bb bn bc] 27)).alloc (.cells #[.string nm, .slice a1 xs.length c1, .string rs] 47) := ⟨_, rfl⟩
  have hbW : Below w.heap.size w W := by rw [hW]; exact ((Below.refl _ _).alloc (Nat.le_refl _) _).alloc (by simp) _
  have hWs : W.heap.size = w.heap.size + 1 + 1 := by rw [hW]; simp
  have r0 : W.heap[w.heap.size]? = some (.cells #[.slice a0 ps.length c0, .slice bb bn bc] 27 (0, 0)) := by rw [hW]; exact heap_mid _ _ _ rfl
  have r1 : W.heap[w.heap.size + 1]? = some (.cells #[.string nm, .slice a1 xs.length c1, .string rs] 47 (0, 0)) := by rw [hW]; exact heap_new _ _ (by simp)
  have HCS : Hid (∀ w', Below W.heap.size W w' → w'.cell? ⟨w.heap.size, 0, none⟩ = some (.slice a0 ps.length c0) ∧ w'.cell? ⟨w.heap.size, 1, none⟩ = some (.slice bb bn bc) ∧ w'.cell? ⟨w.heap.size + 1, 0, none⟩ = some (.string nm) ∧ w'.cell? ⟨w.heap.size + 1, 1, none⟩ = some (.slice a1 xs.length c1) ∧ w'.cell? ⟨w.heap.size + 1, 2, none⟩ = some (.string rs) ∧ Below W.heap.size W w') := Lib.hid (fun w' hb => by
    have q0 := (hb.block w.heap.size (by omega)).trans r0
    have q1 := (hb.block (w.heap.size + 1) (by omega)).trans r1
    refine ⟨?_, ?_, ?_, ?_, ?_, hb⟩
    · rw [cell_of_row w' _ 0 _ _ _ q0]; rfl
    · rw [cell_of_row w' _ 1 _ _ _ q0]; rfl
    · rw [cell_of_row w' _ 0 _ _ _ q1]; rfl
    · rw [cell_of_row w' _ 1 _ _ _ q1]; rfl
    · rw [cell_of_row w' _ 2 _ _ _ q1]; rfl)
  have HBW := Lib.hid hbW; clear hbW r0 r1 hWs
  have HAW : Hid (∀ w', Below W.heap.size W w' → StrsAt w' (.slice a0 ps.length c0) ps) := Lib.hid (fun w' hb => (HA.out.below HBW.out).below hb)
  have HUW : Hid (∀ w', Below W.heap.size W w' → StrsAt w' (.slice a1 xs.length c1) xs) := Lib.hid (fun w' hb => (HU.out.below HBW.out).below hb)
  have HSO : Hid (∀ w' s, Below W.heap.size W w' → Calls Try.prog 103 #[sv (.slice a0 ps.length c0) (.slice bb bn bc), .string s] w' (TellsB (SortOk ps s) w')) := Lib.hid (fun w' s hb => sSort_any _ bb bn bc ps s w' hl (HAW.out w' hb))
  obtain ⟨n, hn⟩ : ∃ n, n = xs.length := ⟨_, rfl⟩
  have hn' : xs.length = n := hn.symm
  have hal2 : n ≤ 1048576 := by rw [hn]; exact hal
  clear hal
  have hnm2 : nm.size ≤ 1048576 := hnm
  clear hnm
  rw [hn'] at HU hW HCS HUW
  rw [hn']
  have HN := Lib.hid hn; clear hn hn'
  obtain ⟨c0', c1', c2', c3', c4', _⟩ := HCS.out W (Below.refl _ _)
  go_enter Try.func60, Try.ntmps60
  go_wp2_with fail
  rw [← hW]
  clear hW c0' c1' c2' c3' c4'
  go_loopw [5] (fun i wr => ∃ k : Nat, k ≤ n ∧ i = .int .i64 k ∧ Hid (∀ s ∈ xs.take k, SortOk ps s) ∧ Hid (Below W.heap.size W wr)) (fun i _ => n - (intOf i).toNat)
  case atStart => exact ⟨0, Nat.zero_le _, rfl, Lib.hid (fun s hs => by simp at hs), Lib.hid (Below.refl _ _)⟩
  case round =>
    obtain ⟨k, hk, rfl, HO, HB⟩ := hrel
    obtain ⟨c0', c1', c2', c3', c4', _⟩ := HCS.out wr HB.out
    by_cases hlt : k < n
    · obtain ⟨p, hp⟩ : ∃ p, xs[k]? = some p := ⟨_, List.getElem?_eq_getElem (by have := HN.out; omega)⟩
      have HT := Lib.hid (take_next xs k p hp)
      have HPM := Lib.hid (List.mem_of_getElem? hp)
      obtain ⟨g, o, cc, ee, hc⟩ := (HUW.out wr HB.out).at hp
      clear hp
      simp only [Value.slice.injEq] at ee
      obtain ⟨rfl, _, rfl⟩ := ee
      have hblt : g < wr.heap.size := World.block_lt_of_cell? wr _ hc
      have HK : Hid (∀ w', Below wr.heap.size wr w' → w'.cell? ⟨w.heap.size, 0, none⟩ = some (.slice a0 ps.length c0) ∧ w'.cell? ⟨w.heap.size, 1, none⟩ = some (.slice bb bn bc) ∧ w'.cell? ⟨w.heap.size + 1, 1, none⟩ = some (.slice (some ⟨g, o, none⟩) n c1) ∧ w'.cell? ⟨g, o + k, none⟩ = some (.string p) ∧ Below wr.heap.size wr w') := Lib.hid (fun w' hb => by
        obtain ⟨q0, q1, _, q3, _, _⟩ := HCS.out w' (HB.out.trans (hb.mono HB.out.size))
        exact ⟨q0, q1, q3, by rw [hb.cell hblt]; exact hc, hb⟩)
      have HCALL : Hid (∀ w', Below wr.heap.size wr w' → Calls Try.prog 103 #[sv (.slice a0 ps.length c0) (.slice bb bn bc), .string p] w' (TellsB (SortOk ps p) w')) := Lib.hid (fun w' hb => HSO.out w' p (HB.out.trans (hb.mono HB.out.size)))
      clear c2' c4' hblt
      have hb0 : Below wr.heap.size wr wr := Below.refl _ _
      go_wp2
      go_region_held3 (fun w' => w'.cell? ⟨w.heap.size, 0, none⟩ = some (.slice a0 ps.length c0) ∧ w'.cell? ⟨w.heap.size, 1, none⟩ = some (.slice bb bn bc) ∧ w'.cell? ⟨w.heap.size + 1, 1, none⟩ = some (.slice (some ⟨g, o, none⟩) n c1) ∧ w'.cell? ⟨g, o + k, none⟩ = some (.string p) ∧ Below wr.heap.size wr w')
        (first | exact HK.out _ (by assumption) | exact HK.out _ (bel_drew (by assumption)) | exact HK.out _ (Below.drew (by assumption)) | exact HK.out _ (Below.trans (by assumption) (Below.mono (by assumption) (Below.size (by assumption)))) | go_keep)
        (first | (go_at_call 103; refine (HCALL.out _ (by first | assumption | exact Below.drew (by assumption))).mono ?_; rintro e w1 ⟨bq, rfl, hbq, hb1⟩))
      have HQ := Lib.hid hbq; clear hbq
      have HB2 := Lib.hid (HB.out.trans ((bel_drew hb1).mono HB.out.size)); clear hb1
      clear c0' c1' c3' hc
      cases bq with
      | false =>
        go_wp2
        go_ret
        exact ⟨false, rfl, ⟨fun h => by simp at h, fun hx => by have := HQ.out.2 ((HV.out.1 hx).2.2.2.1 p HPM.out); simp at this⟩, HBW.out.trans (HB2.out.mono HBW.out.size)⟩
      | true =>
        have HNX : Hid (∀ s ∈ xs.take (k + 1), SortOk ps s) := Lib.hid (fun s hs => by
          rw [HT.out] at hs
          rcases List.mem_append.1 hs with h | h
          · exact HO.out s h
          · simp at h; subst h; exact HQ.out.1 rfl)
        go_wp2
        go_roundw
        case rel => first | exact ⟨k + 1, by omega, by go_num, HNX, HB2⟩ | exact ⟨k + 1, by have := HN.out; omega, by omega, HNX⟩
        case measure => simp [intOf]; omega
    · have hkn : k = n := by omega
      have HF : Hid (∀ s ∈ xs, SortOk ps s) := Lib.hid (fun s hs => HO.out s (by rw [hkn, HN.out, List.take_length]; exact hs))
      have HNL : Hid (xs.length ≤ 3 ↔ n ≤ 3) := Lib.hid (by have := HN.out; omega)
      have HBF := Lib.hid (HBW.out.trans (HB.out.mono HBW.out.size))
      clear hkn
      go_wp2_with fail
      refine (sName_any nm _ (by omega)).mono ?_
      rintro e w1 ⟨b1, rfl, hq1, rfl⟩
      have HQ1 := Lib.hid hq1; clear hq1
      cases b1 with
      | false =>
        go_wp2
        go_ret
        exact ⟨false, rfl, ⟨fun h => by simp at h, fun hx => by have := HQ1.out.2 (HV.out.1 hx).1; simp at this⟩, HBF.out⟩
      | true =>
        go_wp2_with fail
        refine (sBuiltin_any nm _).mono ?_
        rintro e w1 ⟨rfl, rfl⟩
        obtain ⟨bb2, hbb2⟩ : ∃ b, b = builtinB nm := ⟨_, rfl⟩
        rw [← hbb2]
        have HB2 := Lib.hid hbb2; clear hbb2
        cases bb2 with
        | true =>
          go_wp2
          go_ret
          exact ⟨false, rfl, ⟨fun h => by simp at h, fun hx => by have := (HV.out.1 hx).2.1; rw [← HB2.out] at this; simp at this⟩, HBF.out⟩
        | false =>
          by_cases h3 : n ≤ 3
          · go_wp2_with fail
            refine (HSO.out _ rs HB.out).mono ?_
            rintro e w2 ⟨b4, rfl, hq4, hb4⟩
            have HQ4 := Lib.hid hq4; clear hq4
            have HBF2 := Lib.hid (HBF.out.trans (hb4.mono HBF.out.size)); clear hb4
            go_wp2
            go_ret
            refine ⟨b4, rfl, ⟨fun h => HV.out.2 ⟨HQ1.out.1 (by simp), HB2.out.symm, HNL.out.2 h3, HF.out, HQ4.out.1 h⟩, fun hx => HQ4.out.2 (HV.out.1 hx).2.2.2.2⟩, HBF2.out⟩
          · go_wp2
            go_ret
            exact ⟨false, rfl, ⟨fun h => by simp at h, fun hx => absurd (HNL.out.1 (HV.out.1 hx).2.2.1) h3⟩, HBF.out⟩
end Go.Proofs.Ytcmhiindjponcaa
