/-
  A term that came in, as the walks take it. No walk.
  A signature that lies in memory, as the walks take it; one that came in. No walk.
-/
import Derived.Test.YtcmhiindjponcaaQ2
import Derived.ProofKit
namespace Go.Proofs.Ytcmhiindjponcaa
open Go.RowKit Go.ChangeShapes Go.WideShapes

theorem cLT : Try.prog.cellsOf 66 = 4 := by kernel_rfl
theorem cStr' : Try.prog.cellsOf 9 = 1 := by kernel_rfl
theorem cInt' : Try.prog.cellsOf 3 = 1 := by kernel_rfl
theorem cLS : Try.prog.cellsOf 64 = 1 := by kernel_rfl

theorem cells4 {W : World} {a : Addr} {cs : List Value} (h : W.cells? 0 a 4 = some cs) : ∃ v0 v1 v2 v3, cs = [v0, v1, v2, v3] ∧ W.cell? (a.add 0) = some v0 ∧ W.cell? (a.add 1) = some v1 ∧ W.cell? (a.add 2) = some v2 ∧ W.cell? (a.add 3) = some v3 := by
  unfold World.cells? at h
  rw [if_pos (Nat.zero_le _)] at h
  have e : List.range 4 = [0, 1, 2, 3] := rfl
  rw [e] at h
  simp only [List.mapM_cons, List.mapM_nil, Option.bind_eq_bind, Option.pure_def, Option.bind_eq_some_iff] at h
  obtain ⟨v0, h0, r0, ⟨v1, h1, r1, ⟨v2, h2, r2, ⟨v3, h3, r3, e3, e2⟩, e1⟩, e0⟩, ee⟩ := h
  simp at e3 e2 e1 e0 ee
  subst e3; subst e2; subst e1; subst e0; subst ee
  exact ⟨v0, v1, v2, v3, rfl, h0, h1, h2, h3⟩

theorem bound_all (f : Nat → Nat) (n : Nat) : ∃ m, ∀ i, i < n → f i ≤ m := by
  induction n with
  | zero => exact ⟨0, fun i hi => by omega⟩
  | succ n ih =>
    obtain ⟨m, hm⟩ := ih
    refine ⟨max m (f n), fun i hi => ?_⟩
    by_cases e : i = n
    · subst e; omega
    · have := hm i (by omega); omega

section
variable {H : Type} {enc : TypeId × Value → H} {W : World} {spare : Nat → Bool} {held : Bool}

theorem spot_add {a : Addr} {i : Nat} {v : Value} (h : W.cell? (a.add i) = some v) (hs : a.spot = none) : W.cell? ⟨a.block, a.off + i, none⟩ = some v := by
  obtain ⟨b, o, sp⟩ := a
  simp at hs; subst hs
  have e : (⟨b, o, none⟩ : Addr).add i = ⟨b, o + i, none⟩ := by
    unfold Addr.add
    split
    · rename_i h; subst h; rfl
    · rfl
  rw [e] at h
  exact h

set_option maxRecDepth 100000 in
/-- The reading of a struct of a term and of a slice of such. -/
theorem term_of_trod : ∀ fuel : Nat,
    (∀ (cs : List Value) (x : DataW H × List MemPlace), DataW.trod enc Try.prog W 0 spare held fuel 66 cs = some x → ∃ k n s u xs h, cs = [.int .i64 k, .int .i64 n, .string s, u] ∧ s.size ≤ maxLen ∧ ArgsAt W 0 h u xs) ∧
    (∀ (cs : List Value) (x : DataW H × List MemPlace), DataW.trod enc Try.prog W 0 spare held fuel 64 cs = some x → ∃ u xs h, cs = [u] ∧ ArgsAt W 0 h u xs) := by
  intro fuel
  induction fuel with
  | zero => exact ⟨fun cs x h => by simp [DataW.trod] at h, fun cs x h => by simp [DataW.trod] at h⟩
  | succ f ih =>
    obtain ⟨ih1, ih2⟩ := ih
    refine ⟨fun cs x h => ?_, fun cs x h => ?_⟩
    · obtain ⟨xs, n, hn, _, hl, hlen, hf⟩ := DataW.trod_struct Try.underlying66 h
      obtain rfl : f = n := by omega
      rw [cLT] at hl
      match cs, hl with
      | [v0, v1, v2, v3], _ =>
        have h0 : DataW.trod enc Try.prog W 0 spare held f 3 (([v0, v1, v2, v3].drop 0).take (Try.prog.cellsOf 3)) = xs[0]? := hf 0 _ rfl
        have h1 : DataW.trod enc Try.prog W 0 spare held f 3 (([v0, v1, v2, v3].drop 1).take (Try.prog.cellsOf 3)) = xs[1]? := hf 1 _ rfl
        have h2 : DataW.trod enc Try.prog W 0 spare held f 9 (([v0, v1, v2, v3].drop 2).take (Try.prog.cellsOf 9)) = xs[2]? := hf 2 _ rfl
        have h3 : DataW.trod enc Try.prog W 0 spare held f 64 (([v0, v1, v2, v3].drop 3).take (Try.prog.cellsOf 64)) = xs[3]? := hf 3 _ rfl
        have hl4 : xs.length = 4 := hlen
        rw [cInt'] at h0 h1
        rw [cStr'] at h2
        rw [cLS] at h3
        obtain ⟨y0, e0⟩ : ∃ y, xs[0]? = some y := ⟨_, List.getElem?_eq_getElem (by omega)⟩
        obtain ⟨y1, e1⟩ : ∃ y, xs[1]? = some y := ⟨_, List.getElem?_eq_getElem (by omega)⟩
        obtain ⟨y2, e2⟩ : ∃ y, xs[2]? = some y := ⟨_, List.getElem?_eq_getElem (by omega)⟩
        obtain ⟨y3, e3⟩ : ∃ y, xs[3]? = some y := ⟨_, List.getElem?_eq_getElem (by omega)⟩
        rw [e0] at h0; rw [e1] at h1; rw [e2] at h2; rw [e3] at h3
        (try simp at h0); (try simp at h1); (try simp at h2); (try simp at h3)
        obtain ⟨k, hk, _⟩ := DataW.trod_int Try.underlying3 h0
        obtain ⟨n, hn, _⟩ := DataW.trod_int Try.underlying3 h1
        obtain ⟨s, hs, _, hsz⟩ := DataW.trod_string Try.underlying9 h2
        obtain ⟨u, ts, hgt, hu, ha⟩ := ih2 _ _ h3
        simp at hk hn hs hu
        subst hk; subst hn; subst hs; subst hu
        exact ⟨k, n, s, _, ts, hgt, rfl, hsz, ha⟩
    · rcases DataW.trod_slice Try.underlying64 h with ⟨rfl, _⟩ | ⟨a, len, cap, elems, rest, n, hn, rfl, _, _, hlc, hcm, hlen, hel, _, _⟩
      · exact ⟨_, [], 0, rfl, ArgsAt.nil W 0 0 none 0⟩
      · obtain rfl : f = n := by omega
        have each : ∀ i, i < len → ∃ k n s u xs h, W.cells? 0 (a.add (i * 4)) 4 = some [.int .i64 k, .int .i64 n, .string s, u] ∧ s.size ≤ maxLen ∧ ArgsAt W 0 h u xs := by
          intro i hi
          have h1 := hel i hi
          rw [cLT] at h1
          obtain ⟨y, hy⟩ : ∃ y, elems[i]? = some y := ⟨_, List.getElem?_eq_getElem (by omega)⟩
          rw [hy, Option.bind_eq_some_iff] at h1
          obtain ⟨cs, hcs, ht⟩ := h1
          obtain ⟨k, n, s, u, xs, h, rfl, hsz, ha⟩ := ih1 cs _ ht
          exact ⟨k, n, s, u, xs, h, hcs, hsz, ha⟩
        by_cases h0 : len = 0
        · subst h0
          exact ⟨_, [], 0, rfl, ArgsAt.nil W 0 0 (some a) cap⟩
        · -- the elements, chosen once
          have hch : ∃ (K N : Nat → Int) (S : Nat → ByteArray) (U : Nat → Value) (X : Nat → List T) (Hh : Nat → Nat), ∀ i, i < len → W.cells? 0 (a.add (i * 4)) 4 = some [.int .i64 (K i), .int .i64 (N i), .string (S i), U i] ∧ (S i).size ≤ maxLen ∧ ArgsAt W 0 (Hh i) (U i) (X i) := by
            have hc2 : ∀ i, ∃ (k n : Int) (s : ByteArray) (u : Value) (xs : List T) (h : Nat), i < len → W.cells? 0 (a.add (i * 4)) 4 = some [.int .i64 k, .int .i64 n, .string s, u] ∧ s.size ≤ maxLen ∧ ArgsAt W 0 h u xs := by
              intro i
              by_cases hi : i < len
              · obtain ⟨k, n, s, u, xs, h, q⟩ := each i hi
                exact ⟨k, n, s, u, xs, h, fun _ => q⟩
              · exact ⟨0, 0, ByteArray.empty, .slice none 0 0, [], 0, fun h => absurd h hi⟩
            exact ⟨fun i => (hc2 i).choose, fun i => (hc2 i).choose_spec.choose, fun i => (hc2 i).choose_spec.choose_spec.choose, fun i => (hc2 i).choose_spec.choose_spec.choose_spec.choose,
              fun i => (hc2 i).choose_spec.choose_spec.choose_spec.choose_spec.choose, fun i => (hc2 i).choose_spec.choose_spec.choose_spec.choose_spec.choose_spec.choose, fun i hi => (hc2 i).choose_spec.choose_spec.choose_spec.choose_spec.choose_spec.choose_spec hi⟩
          obtain ⟨K, N, S, U, X, Hh, hall⟩ := hch
          -- one height for all
          have hmax := bound_all Hh len
          obtain ⟨hm, hle⟩ := hmax
          have hspot : a.spot = none := by
            obtain ⟨v0, _, _, _, _, c0, _⟩ := cells4 (hall 0 (by omega)).1
            have := World.cell?_spot c0
            obtain ⟨b, o, sp⟩ := a
            simpa [Addr.add] using this
          refine ⟨_, (List.range len).map fun i => T.node (K i) (N i) (S i) (X i), hm + 1, rfl, some a, cap, by simp, by simp; omega, Or.inr ⟨a.block, a.off, ?_, Nat.zero_le _, fun i k n s xs hi => ?_⟩⟩
          · obtain ⟨b, o, sp⟩ := a
            simp at hspot; subst hspot; rfl
          · have hil : i < len := by have := (List.getElem?_eq_some_iff.1 hi).1; simpa using this
            simp [hil] at hi
            obtain ⟨rfl, rfl, rfl, rfl⟩ := hi
            obtain ⟨hcs, hsz, ha⟩ := hall i hil
            obtain ⟨v0, v1, v2, v3, e, c0, c1, c2, c3⟩ := cells4 hcs
            simp at e
            obtain ⟨rfl, rfl, rfl, rfl⟩ := e
            have sp : (a.add (i * 4)).spot = none := by
              obtain ⟨b, o, sp⟩ := a
              simp at hspot; subst hspot
              unfold Addr.add
              split <;> rfl
            have eb : (a.add (i * 4)).block = a.block ∧ (a.add (i * 4)).off = a.off + i * 4 := by
              obtain ⟨b, o, sp⟩ := a
              simp at hspot; subst hspot
              unfold Addr.add
              split
              · rename_i h; rw [h]; exact ⟨rfl, rfl⟩
              · exact ⟨rfl, rfl⟩
            have d0 := spot_add c0 sp
            have d1 := spot_add c1 sp
            have d2 := spot_add c2 sp
            have d3 := spot_add c3 sp
            rw [eb.1, eb.2] at d0 d1 d2 d3
            exact ⟨hsz, _, d0, d1, d2, d3, ha.le (hle i hil)⟩
end

set_option maxRecDepth 100000 in
/-- A term that came in. -/
theorem term_came {H : Type} {enc : TypeId × Value → H} {W : World} {base : Nat} {v : Value} {d : DataW H} {p : List MemPlace} (hv : Value.okWide Try.prog W .any base 66 v)
    (h : DataW.Trod enc Try.prog W 0 (fun _ => true) true 66 v d p) : ∃ g t, TermAt W 0 g v t := by
  obtain ⟨cs, rfl, hsz⟩ := okWide_struct Try.underlying66 hv
  obtain ⟨fuel, hf⟩ := h
  obtain ⟨k, n, s, u, xs, g, e, hs, ha⟩ := (term_of_trod fuel).1 _ _ hf
  have ec : cs = #[.int .i64 k, .int .i64 n, .string s, u] := by
    have : cs.toList = [.int .i64 k, .int .i64 n, .string s, u] := e
    rw [← Array.toArray_toList (xs := cs), this]
  subst ec
  exact ⟨g, _, k, n, s, u, xs, rfl, rfl, hs, ha⟩
end Go.Proofs.Ytcmhiindjponcaa
namespace Go.Proofs.Ytcmhiindjponcaa
open Go.RowKit Go.ChangeShapes Go.WideShapes

/-- An operator: its name, the sorts of its arguments, the sort of its result. -/
structure OpD where
  name : ByteArray
  args : List ByteArray
  res : ByteArray

/-- The value of a struct of an operator. -/
abbrev ov (n : ByteArray) (u : Value) (r : ByteArray) : Value := .agg #[.string n, u, .string r]

/-- Strings that a machine holds. -/
def StrsOk (ps : List ByteArray) : Prop := ps.length ≤ maxLen ∧ ∀ p ∈ ps, p.size ≤ maxLen
def OpOk (d : OpD) : Prop := d.name.size ≤ maxLen ∧ StrsOk d.args ∧ d.res.size ≤ maxLen
def OpsOk (ds : List OpD) : Prop := ds.length ≤ maxLen ∧ ∀ d ∈ ds, OpOk d

/-- The slice value u holds the operators ds. -/
def OpsAt (w : World) (u : Value) (ds : List OpD) : Prop :=
  ∃ a cap, u = .slice a ds.length cap ∧ (ds = [] ∨ ∃ b o, a = some ⟨b, o, none⟩ ∧ ∀ i d, ds[i]? = some d → ∃ u', w.cell? ⟨b, o + i * 3, none⟩ = some (.string d.name) ∧ w.cell? ⟨b, o + i * 3 + 1, none⟩ = some u' ∧
    w.cell? ⟨b, o + i * 3 + 2, none⟩ = some (.string d.res) ∧ StrsAt w u' d.args)

theorem OpsAt.nil (w : World) (a : Option Addr) (cap : Nat) : OpsAt w (.slice a 0 cap) [] := ⟨a, cap, rfl, Or.inl rfl⟩
theorem OpsAt.slice {w : World} {u : Value} {ds : List OpD} (h : OpsAt w u ds) : ∃ a cap, u = .slice a ds.length cap := by
  obtain ⟨a, cap, e, _⟩ := h; exact ⟨a, cap, e⟩
theorem StrsAt.slice {w : World} {u : Value} {ps : List ByteArray} (h : StrsAt w u ps) : ∃ a cap, u = .slice a ps.length cap := by
  obtain ⟨a, cap, e, _⟩ := h; exact ⟨a, cap, e⟩
theorem OpsAt.below {w w' : World} {u : Value} {ds : List OpD} (h : OpsAt w u ds) (hb : Below w.heap.size w w') : OpsAt w' u ds := by
  obtain ⟨a, cap, rfl, h⟩ := h
  refine ⟨a, cap, rfl, ?_⟩
  rcases h with h | ⟨b, o, rfl, h⟩
  · exact Or.inl h
  · refine Or.inr ⟨b, o, rfl, fun i d hd => ?_⟩
    obtain ⟨u', c0, c1, c2, hs⟩ := h i d hd
    have k : ∀ {ad : Addr} {v : Value}, w.cell? ad = some v → w'.cell? ad = some v := fun hc => by rw [hb.cell (World.block_lt_of_cell? w _ hc)]; exact hc
    exact ⟨u', k c0, k c1, k c2, hs.below hb⟩

/-- The value of a struct of a signature. -/
abbrev sv (a b : Value) : Value := .agg #[a, b]
/-- A signature in memory. -/
def SigAt (w : World) (v : Value) (ps : List ByteArray) (ds : List OpD) : Prop := ∃ a b, v = sv a b ∧ StrsAt w a ps ∧ OpsAt w b ds

theorem cLO : Try.prog.cellsOf 157 = 3 := by kernel_rfl
theorem cLOS : Try.prog.cellsOf 53 = 1 := by kernel_rfl
theorem cSS : Try.prog.cellsOf 24 = 1 := by kernel_rfl
theorem cLSig : Try.prog.cellsOf 55 = 2 := by kernel_rfl

theorem cells3 {W : World} {a : Addr} {cs : List Value} (h : W.cells? 0 a 3 = some cs) : ∃ v0 v1 v2, cs = [v0, v1, v2] ∧ W.cell? (a.add 0) = some v0 ∧ W.cell? (a.add 1) = some v1 ∧ W.cell? (a.add 2) = some v2 := by
  unfold World.cells? at h
  rw [if_pos (Nat.zero_le _)] at h
  have e : List.range 3 = [0, 1, 2] := rfl
  rw [e] at h
  simp only [List.mapM_cons, List.mapM_nil, Option.bind_eq_bind, Option.pure_def, Option.bind_eq_some_iff] at h
  obtain ⟨v0, h0, r0, ⟨v1, h1, r1, ⟨v2, h2, r2, e2, e1⟩, e0⟩, ee⟩ := h
  simp at e2 e1 e0 ee
  subst e2; subst e1; subst e0; subst ee
  exact ⟨v0, v1, v2, rfl, h0, h1, h2⟩

section
variable {H : Type} {enc : TypeId × Value → H} {W : World} {held : Bool}

theorem strs_of_trod {fuel : Nat} {cs : List Value} {x : DataW H × List MemPlace} (h : DataW.trod enc Try.prog W 0 (fun _ => true) held fuel 24 cs = some x) : ∃ u ps, cs = [u] ∧ StrsOk ps ∧ StrsAt W u ps := by
  rcases open_strings Try.underlying24 Try.underlying9 cStr' h with ⟨rfl, hx⟩ | ⟨a, len, cap, ss, rfl, _, hl, hm, hz, hx, hcell, hws⟩
  · exact ⟨_, [], rfl, ⟨Nat.zero_le _, fun p hp => by cases hp⟩, ⟨none, 0, rfl, Or.inl rfl⟩⟩
  · simp only [if_true] at hz
    refine ⟨_, ss.take len, rfl, ⟨by simp; omega, fun p hp => hws p (List.mem_of_mem_take hp)⟩, strsAt_of_open (by omega) hcell⟩

set_option maxRecDepth 100000 in
theorem op_of_trod {fuel : Nat} {cs : List Value} {x : DataW H × List MemPlace} (h : DataW.trod enc Try.prog W 0 (fun _ => true) held fuel 157 cs = some x) : ∃ (d : OpD) (u : Value), cs = [.string d.name, u, .string d.res] ∧ OpOk d ∧ StrsAt W u d.args := by
  obtain ⟨xs, n, hn, _, hl, hlen, hf⟩ := DataW.trod_struct Try.underlying157 h
  rw [cLO] at hl
  match cs, hl with
  | [v0, v1, v2], _ =>
    have h0 : DataW.trod enc Try.prog W 0 (fun _ => true) held n 9 (([v0, v1, v2].drop 0).take (Try.prog.cellsOf 9)) = xs[0]? := hf 0 _ rfl
    have h1 : DataW.trod enc Try.prog W 0 (fun _ => true) held n 24 (([v0, v1, v2].drop 1).take (Try.prog.cellsOf 24)) = xs[1]? := hf 1 _ rfl
    have h2 : DataW.trod enc Try.prog W 0 (fun _ => true) held n 9 (([v0, v1, v2].drop 2).take (Try.prog.cellsOf 9)) = xs[2]? := hf 2 _ rfl
    have hl3 : xs.length = 3 := hlen
    rw [cStr'] at h0 h2
    rw [cSS] at h1
    obtain ⟨y0, e0⟩ : ∃ y, xs[0]? = some y := ⟨_, List.getElem?_eq_getElem (by omega)⟩
    obtain ⟨y1, e1⟩ : ∃ y, xs[1]? = some y := ⟨_, List.getElem?_eq_getElem (by omega)⟩
    obtain ⟨y2, e2⟩ : ∃ y, xs[2]? = some y := ⟨_, List.getElem?_eq_getElem (by omega)⟩
    rw [e0] at h0; rw [e1] at h1; rw [e2] at h2
    (try simp at h0); (try simp at h1); (try simp at h2)
    obtain ⟨s, hs, _, hsz⟩ := DataW.trod_string Try.underlying9 h0
    obtain ⟨r, hr, _, hrz⟩ := DataW.trod_string Try.underlying9 h2
    obtain ⟨u, ps, hu, hps, ha⟩ := strs_of_trod h1
    simp at hs hr hu
    subst hs; subst hr; subst hu
    exact ⟨⟨s, ps, r⟩, _, rfl, ⟨hsz, hps, hrz⟩, ha⟩

set_option maxRecDepth 100000 in
theorem ops_of_trod {fuel : Nat} {cs : List Value} {x : DataW H × List MemPlace} (h : DataW.trod enc Try.prog W 0 (fun _ => true) held fuel 53 cs = some x) : ∃ (u : Value) (ds : List OpD), cs = [u] ∧ OpsOk ds ∧ OpsAt W u ds := by
  rcases DataW.trod_slice Try.underlying53 h with ⟨rfl, _⟩ | ⟨a, len, cap, elems, rest, n, hn, rfl, _, _, hlc, hcm, hlen, hel, _, _⟩
  · exact ⟨_, [], rfl, ⟨Nat.zero_le _, fun d hd => by cases hd⟩, OpsAt.nil W none 0⟩
  · have each : ∀ i, i < len → ∃ (d : OpD) (u : Value), W.cells? 0 (a.add (i * 3)) 3 = some [.string d.name, u, .string d.res] ∧ OpOk d ∧ StrsAt W u d.args := by
      intro i hi
      have h1 := hel i hi
      rw [cLO] at h1
      obtain ⟨y, hy⟩ : ∃ y, elems[i]? = some y := ⟨_, List.getElem?_eq_getElem (by omega)⟩
      rw [hy, Option.bind_eq_some_iff] at h1
      obtain ⟨cs, hcs, ht⟩ := h1
      obtain ⟨d, u, rfl, hd, ha⟩ := op_of_trod ht
      exact ⟨d, u, hcs, hd, ha⟩
    by_cases h0 : len = 0
    · subst h0
      exact ⟨_, [], rfl, ⟨Nat.zero_le _, fun d hd => by cases hd⟩, OpsAt.nil W (some a) cap⟩
    · have hch : ∃ (D : Nat → OpD) (U : Nat → Value), ∀ i, i < len → W.cells? 0 (a.add (i * 3)) 3 = some [.string (D i).name, U i, .string (D i).res] ∧ OpOk (D i) ∧ StrsAt W (U i) (D i).args := by
        have hc2 : ∀ i, ∃ (d : OpD) (u : Value), i < len → W.cells? 0 (a.add (i * 3)) 3 = some [.string d.name, u, .string d.res] ∧ OpOk d ∧ StrsAt W u d.args := by
          intro i
          by_cases hi : i < len
          · obtain ⟨d, u, q⟩ := each i hi
            exact ⟨d, u, fun _ => q⟩
          · exact ⟨⟨ByteArray.empty, [], ByteArray.empty⟩, .slice none 0 0, fun h => absurd h hi⟩
        exact ⟨fun i => (hc2 i).choose, fun i => (hc2 i).choose_spec.choose, fun i hi => (hc2 i).choose_spec.choose_spec hi⟩
      obtain ⟨D, U, hall⟩ := hch
      have hspot : a.spot = none := by
        obtain ⟨v0, _, _, _, c0, _⟩ := cells3 (hall 0 (by omega)).1
        have := World.cell?_spot c0
        obtain ⟨b, o, sp⟩ := a
        simpa [Addr.add] using this
      refine ⟨_, (List.range len).map D, rfl, ⟨by simp; omega, fun d hd => ?_⟩, some a, cap, by simp, Or.inr ⟨a.block, a.off, ?_, fun i d hi => ?_⟩⟩
      · obtain ⟨i, hi, rfl⟩ := List.mem_map.1 hd
        exact (hall i (by simpa using hi)).2.1
      · obtain ⟨b, o, sp⟩ := a
        simp at hspot; subst hspot; rfl
      · have hil : i < len := by have := (List.getElem?_eq_some_iff.1 hi).1; simpa using this
        simp [hil] at hi
        subst hi
        obtain ⟨hcs, _, ha⟩ := hall i hil
        obtain ⟨v0, v1, v2, e, c0, c1, c2⟩ := cells3 hcs
        simp at e
        obtain ⟨rfl, rfl, rfl⟩ := e
        have sp : (a.add (i * 3)).spot = none := by
          obtain ⟨b, o, sp⟩ := a
          simp at hspot; subst hspot
          unfold Addr.add
          split <;> rfl
        have eb : (a.add (i * 3)).block = a.block ∧ (a.add (i * 3)).off = a.off + i * 3 := by
          obtain ⟨b, o, sp⟩ := a
          simp at hspot; subst hspot
          unfold Addr.add
          split
          · rename_i h; rw [h]; exact ⟨rfl, rfl⟩
          · exact ⟨rfl, rfl⟩
        have d0 := spot_add c0 sp
        have d1 := spot_add c1 sp
        have d2 := spot_add c2 sp
        rw [eb.1, eb.2] at d0 d1 d2
        exact ⟨_, d0, d1, d2, ha⟩
end

set_option maxRecDepth 100000 in
/-- A signature that came in. -/
theorem sig_came {H : Type} {enc : TypeId × Value → H} {W : World} {base : Nat} {v : Value} {d : DataW H} {p : List MemPlace} (hv : Value.okWide Try.prog W .any base 55 v)
    (h : DataW.Trod enc Try.prog W 0 (fun _ => true) true 55 v d p) : ∃ ps ds, StrsOk ps ∧ OpsOk ds ∧ SigAt W v ps ds := by
  obtain ⟨cs, rfl, hsz⟩ := okWide_struct Try.underlying55 hv
  obtain ⟨fuel, hf⟩ := h
  obtain ⟨xs, n, hn, _, hl, hlen, hfl⟩ := DataW.trod_struct Try.underlying55 hf
  rw [cLSig] at hl
  obtain ⟨v0, v1, ec⟩ : ∃ v0 v1, cs = #[v0, v1] := by
    have hl2 : cs.toList.length = 2 := hl
    match h : cs.toList, hl2 with
    | [v0, v1], _ => exact ⟨v0, v1, by rw [← Array.toArray_toList (xs := cs), h]⟩
  subst ec
  have h0 : DataW.trod enc Try.prog W 0 (fun _ => true) true n 24 (([v0, v1].drop 0).take (Try.prog.cellsOf 24)) = xs[0]? := hfl 0 _ rfl
  have h1 : DataW.trod enc Try.prog W 0 (fun _ => true) true n 53 (([v0, v1].drop 1).take (Try.prog.cellsOf 53)) = xs[1]? := hfl 1 _ rfl
  have hl2 : xs.length = 2 := hlen
  rw [cSS] at h0
  rw [cLOS] at h1
  obtain ⟨y0, e0⟩ : ∃ y, xs[0]? = some y := ⟨_, List.getElem?_eq_getElem (by omega)⟩
  obtain ⟨y1, e1⟩ : ∃ y, xs[1]? = some y := ⟨_, List.getElem?_eq_getElem (by omega)⟩
  rw [e0] at h0; rw [e1] at h1
  (try simp at h0); (try simp at h1)
  obtain ⟨u, ps, hu, hps, ha⟩ := strs_of_trod h0
  obtain ⟨u', ds, hu', hds, ha'⟩ := ops_of_trod h1
  simp at hu hu'
  subst hu; subst hu'
  exact ⟨ps, ds, hps, hds, _, _, rfl, ha, ha'⟩
end Go.Proofs.Ytcmhiindjponcaa
