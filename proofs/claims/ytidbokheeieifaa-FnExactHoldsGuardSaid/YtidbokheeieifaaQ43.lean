/-
  A term that came in, as the walks take it. No walk.
  A Guard that came in as an argument. No walk.
-/
import Derived.Test.YtidbokheeieifaaQ2
import Derived.Test.YtidbokheeieifaaQ9
import Derived.ProofKit
namespace Go.Proofs.Ytidbokheeieifaa
open Go.RowKit Go.ChangeShapes Go.WideShapes

theorem cLT : Try.prog.cellsOf 41 = 4 := by kernel_rfl
theorem cStr' : Try.prog.cellsOf 9 = 1 := by kernel_rfl
theorem cInt' : Try.prog.cellsOf 3 = 1 := by kernel_rfl
theorem cLS : Try.prog.cellsOf 39 = 1 := by kernel_rfl

theorem cells4 {W : World} {a : Addr} {cs : List Value} (h : W.cells? 0 a 4 = some cs) : ∃ v0 v1 v2 v3, cs = [v0, v1, v2, v3] ∧ W.cell? (a.add 0) = some v0 ∧ W.cell? (a.add 1) = some v1 ∧ W.cell? (a.add 2) = some v2 ∧ W.cell? (a.add 3) = some v3 := by
  unfold World.cells? at h
  rw [if_pos (Nat.zero_le _)] at h
  have e : List.range 4 = [0, 1, 2, 3] := rfl
  rw [e] at h
  simp only [List.mapM_cons, List.mapM_nil, Option.bind_eq_bind, Option.pure_def, Option.bind_eq_some_iff] at h
  obtain ⟨v0, h0, r0, ⟨v1, h1, r1, ⟨v2, h2, r2, ⟨v3, h3, r3, e3, e2⟩, e1⟩, e0⟩, ee⟩ := h
  simp at e3 e2 e1 e0 ee
  subst e3; subst e2; subst e1; subst e0; subst ee
  exact ⟨v0, v1, v2, v3, rfl, h0, h1, h2, h3⟩

theorem bound_all (f : Nat → Nat) (n : Nat) : ∃ m, ∀ i, i < n → f i ≤ m := by
  induction n with
  | zero => exact ⟨0, fun i hi => by omega⟩
  | succ n ih =>
    obtain ⟨m, hm⟩ := ih
    refine ⟨max m (f n), fun i hi => ?_⟩
    by_cases e : i = n
    · subst e; omega
    · have := hm i (by omega); omega

section
variable {H : Type} {enc : TypeId × Value → H} {W : World} {spare : Nat → Bool} {held : Bool}

theorem spot_add {a : Addr} {i : Nat} {v : Value} (h : W.cell? (a.add i) = some v) (hs : a.spot = none) : W.cell? ⟨a.block, a.off + i, none⟩ = some v := by
  obtain ⟨b, o, sp⟩ := a
  simp at hs; subst hs
  have e : (⟨b, o, none⟩ : Addr).add i = ⟨b, o + i, none⟩ := by
    unfold Addr.add
    split
    · rename_i h; subst h; rfl
    · rfl
  rw [e] at h
  exact h

set_option maxRecDepth 100000 in
/-- The reading of a struct of a term and of a slice of such. -/
theorem term_of_trod : ∀ fuel : Nat,
    (∀ (cs : List Value) (x : DataW H × List MemPlace), DataW.trod enc Try.prog W 0 spare held fuel 41 cs = some x → ∃ k n s u xs h, cs = [.int .i64 k, .int .i64 n, .string s, u] ∧ s.size ≤ maxLen ∧ ArgsAt W 0 h u xs) ∧
    (∀ (cs : List Value) (x : DataW H × List MemPlace), DataW.trod enc Try.prog W 0 spare held fuel 39 cs = some x → ∃ u xs h, cs = [u] ∧ ArgsAt W 0 h u xs) := by
  intro fuel
  induction fuel with
  | zero => exact ⟨fun cs x h => by simp [DataW.trod] at h, fun cs x h => by simp [DataW.trod] at h⟩
  | succ f ih =>
    obtain ⟨ih1, ih2⟩ := ih
    refine ⟨fun cs x h => ?_, fun cs x h => ?_⟩
    · obtain ⟨xs, n, hn, _, hl, hlen, hf⟩ := DataW.trod_struct Try.underlying41 h
      obtain rfl : f = n := by omega
      rw [cLT] at hl
      match cs, hl with
      | [v0, v1, v2, v3], _ =>
        have h0 : DataW.trod enc Try.prog W 0 spare held f 3 (([v0, v1, v2, v3].drop 0).take (Try.prog.cellsOf 3)) = xs[0]? := hf 0 _ rfl
        have h1 : DataW.trod enc Try.prog W 0 spare held f 3 (([v0, v1, v2, v3].drop 1).take (Try.prog.cellsOf 3)) = xs[1]? := hf 1 _ rfl
        have h2 : DataW.trod enc Try.prog W 0 spare held f 9 (([v0, v1, v2, v3].drop 2).take (Try.prog.cellsOf 9)) = xs[2]? := hf 2 _ rfl
        have h3 : DataW.trod enc Try.prog W 0 spare held f 39 (([v0, v1, v2, v3].drop 3).take (Try.prog.cellsOf 39)) = xs[3]? := hf 3 _ rfl
        have hl4 : xs.length = 4 := hlen
        rw [cInt'] at h0 h1
        rw [cStr'] at h2
        rw [cLS] at h3
        obtain ⟨y0, e0⟩ : ∃ y, xs[0]? = some y := ⟨_, List.getElem?_eq_getElem (by omega)⟩
        obtain ⟨y1, e1⟩ : ∃ y, xs[1]? = some y := ⟨_, List.getElem?_eq_getElem (by omega)⟩
        obtain ⟨y2, e2⟩ : ∃ y, xs[2]? = some y := ⟨_, List.getElem?_eq_getElem (by omega)⟩
        obtain ⟨y3, e3⟩ : ∃ y, xs[3]? = some y := ⟨_, List.getElem?_eq_getElem (by omega)⟩
        rw [e0] at h0; rw [e1] at h1; rw [e2] at h2; rw [e3] at h3
        (try simp at h0); (try simp at h1); (try simp at h2); (try simp at h3)
        obtain ⟨k, hk, _⟩ := DataW.trod_int Try.underlying3 h0
        obtain ⟨n, hn, _⟩ := DataW.trod_int Try.underlying3 h1
        obtain ⟨s, hs, _, hsz⟩ := DataW.trod_string Try.underlying9 h2
        obtain ⟨u, ts, hgt, hu, ha⟩ := ih2 _ _ h3
        simp at hk hn hs hu
        subst hk; subst hn; subst hs; subst hu
        exact ⟨k, n, s, _, ts, hgt, rfl, hsz, ha⟩
    · rcases DataW.trod_slice Try.underlying39 h with ⟨rfl, _⟩ | ⟨a, len, cap, elems, rest, n, hn, rfl, _, _, hlc, hcm, hlen, hel, _, _⟩
      · exact ⟨_, [], 0, rfl, ArgsAt.nil W 0 0 none 0⟩
      · obtain rfl : f = n := by omega
        have each : ∀ i, i < len → ∃ k n s u xs h, W.cells? 0 (a.add (i * 4)) 4 = some [.int .i64 k, .int .i64 n, .string s, u] ∧ s.size ≤ maxLen ∧ ArgsAt W 0 h u xs := by
          intro i hi
          have h1 := hel i hi
          rw [cLT] at h1
          obtain ⟨y, hy⟩ : ∃ y, elems[i]? = some y := ⟨_, List.getElem?_eq_getElem (by omega)⟩
          rw [hy, Option.bind_eq_some_iff] at h1
          obtain ⟨cs, hcs, ht⟩ := h1
          obtain ⟨k, n, s, u, xs, h, rfl, hsz, ha⟩ := ih1 cs _ ht
          exact ⟨k, n, s, u, xs, h, hcs, hsz, ha⟩
        by_cases h0 : len = 0
        · subst h0
          exact ⟨_, [], 0, rfl, ArgsAt.nil W 0 0 (some a) cap⟩
        · -- the elements, chosen once
          have hch : ∃ (K N : Nat → Int) (S : Nat → ByteArray) (U : Nat → Value) (X : Nat → List T) (Hh : Nat → Nat), ∀ i, i < len → W.cells? 0 (a.add (i * 4)) 4 = some [.int .i64 (K i), .int .i64 (N i), .string (S i), U i] ∧ (S i).size ≤ maxLen ∧ ArgsAt W 0 (Hh i) (U i) (X i) := by
            have hc2 : ∀ i, ∃ (k n : Int) (s : ByteArray) (u : Value) (xs : List T) (h : Nat), i < len → W.cells? 0 (a.add (i * 4)) 4 = some [.int .i64 k, .int .i64 n, .string s, u] ∧ s.size ≤ maxLen ∧ ArgsAt W 0 h u xs := by
              intro i
              by_cases hi : i < len
              · obtain ⟨k, n, s, u, xs, h, q⟩ := each i hi
                exact ⟨k, n, s, u, xs, h, fun _ => q⟩
              · exact ⟨0, 0, ByteArray.empty, .slice none 0 0, [], 0, fun h => absurd h hi⟩
            exact ⟨fun i => (hc2 i).choose, fun i => (hc2 i).choose_spec.choose, fun i => (hc2 i).choose_spec.choose_spec.choose, fun i => (hc2 i).choose_spec.choose_spec.choose_spec.choose,
              fun i => (hc2 i).choose_spec.choose_spec.choose_spec.choose_spec.choose, fun i => (hc2 i).choose_spec.choose_spec.choose_spec.choose_spec.choose_spec.choose, fun i hi => (hc2 i).choose_spec.choose_spec.choose_spec.choose_spec.choose_spec.choose_spec hi⟩
          obtain ⟨K, N, S, U, X, Hh, hall⟩ := hch
          -- one height for all
          have hmax := bound_all Hh len
          obtain ⟨hm, hle⟩ := hmax
          have hspot : a.spot = none := by
            obtain ⟨v0, _, _, _, _, c0, _⟩ := cells4 (hall 0 (by omega)).1
            have := World.cell?_spot c0
            obtain ⟨b, o, sp⟩ := a
            simpa [Addr.add] using this
          refine ⟨_, (List.range len).map fun i => T.node (K i) (N i) (S i) (X i), hm + 1, rfl, some a, cap, by simp, by simp; omega, Or.inr ⟨a.block, a.off, ?_, Nat.zero_le _, fun i k n s xs hi => ?_⟩⟩
          · obtain ⟨b, o, sp⟩ := a
            simp at hspot; subst hspot; rfl
          · have hil : i < len := by have := (List.getElem?_eq_some_iff.1 hi).1; simpa using this
            simp [hil] at hi
            obtain ⟨rfl, rfl, rfl, rfl⟩ := hi
            obtain ⟨hcs, hsz, ha⟩ := hall i hil
            obtain ⟨v0, v1, v2, v3, e, c0, c1, c2, c3⟩ := cells4 hcs
            simp at e
            obtain ⟨rfl, rfl, rfl, rfl⟩ := e
            have sp : (a.add (i * 4)).spot = none := by
              obtain ⟨b, o, sp⟩ := a
              simp at hspot; subst hspot
              unfold Addr.add
              split <;> rfl
            have eb : (a.add (i * 4)).block = a.block ∧ (a.add (i * 4)).off = a.off + i * 4 := by
              obtain ⟨b, o, sp⟩ := a
              simp at hspot; subst hspot
              unfold Addr.add
              split
              · rename_i h; rw [h]; exact ⟨rfl, rfl⟩
              · exact ⟨rfl, rfl⟩
            have d0 := spot_add c0 sp
            have d1 := spot_add c1 sp
            have d2 := spot_add c2 sp
            have d3 := spot_add c3 sp
            rw [eb.1, eb.2] at d0 d1 d2 d3
            exact ⟨hsz, _, d0, d1, d2, d3, ha.le (hle i hil)⟩
end

set_option maxRecDepth 100000 in
/-- A term that came in. -/
theorem term_came {H : Type} {enc : TypeId × Value → H} {W : World} {base : Nat} {v : Value} {d : DataW H} {p : List MemPlace} (hv : Value.okWide Try.prog W .any base 41 v)
    (h : DataW.Trod enc Try.prog W 0 (fun _ => true) true 41 v d p) : ∃ g t, TermAt W 0 g v t := by
  obtain ⟨cs, rfl, hsz⟩ := okWide_struct Try.underlying41 hv
  obtain ⟨fuel, hf⟩ := h
  obtain ⟨k, n, s, u, xs, g, e, hs, ha⟩ := (term_of_trod fuel).1 _ _ hf
  have ec : cs = #[.int .i64 k, .int .i64 n, .string s, u] := by
    have : cs.toList = [.int .i64 k, .int .i64 n, .string s, u] := e
    rw [← Array.toArray_toList (xs := cs), this]
  subst ec
  exact ⟨g, _, k, n, s, u, xs, rfl, rfl, hs, ha⟩
end Go.Proofs.Ytidbokheeieifaa
namespace Go.Proofs.Ytidbokheeieifaa
open Go.ChangeShapes Go.WideShapes Go.ChangeAt Go.RowKit

theorem cLG : Try.prog.cellsOf 66 = 9 := by kernel_rfl
set_option maxRecDepth 100000 in
/-- A guard that came in. -/
theorem guard_came {H : Type} {enc : TypeId × Value → H} {W : World} {base : Nat} {v : Value} {d : DataW H} {p : List MemPlace} (hv : Value.okWide Try.prog W .any base 66 v)
    (h : DataW.Trod enc Try.prog W 0 (fun _ => true) true 66 v d p) : ∃ g x, GAt W 0 g v x := by
  obtain ⟨cs, rfl, hsz⟩ := okWide_struct Try.underlying66 hv
  obtain ⟨fuel, hf⟩ := h
  obtain ⟨xs, n, hn, _, hl, hlen, hfl⟩ := DataW.trod_struct Try.underlying66 hf
  rw [cLG] at hl
  obtain ⟨v0, v1, v2, v3, v4, v5, v6, v7, v8, ec⟩ : ∃ v0 v1 v2 v3 v4 v5 v6 v7 v8, cs = #[v0, v1, v2, v3, v4, v5, v6, v7, v8] := by
    have hl2 : cs.toList.length = 9 := hl
    match h : cs.toList, hl2 with
    | [v0, v1, v2, v3, v4, v5, v6, v7, v8], _ => exact ⟨v0, v1, v2, v3, v4, v5, v6, v7, v8, by rw [← Array.toArray_toList (xs := cs), h]⟩
  subst ec
  have h0 : DataW.trod enc Try.prog W 0 (fun _ => true) true n 3 (([v0, v1, v2, v3, v4, v5, v6, v7, v8].drop 0).take (Try.prog.cellsOf 3)) = xs[0]? := hfl 0 _ rfl
  have h1 : DataW.trod enc Try.prog W 0 (fun _ => true) true n 41 (([v0, v1, v2, v3, v4, v5, v6, v7, v8].drop 1).take (Try.prog.cellsOf 41)) = xs[1]? := hfl 1 _ rfl
  have h2 : DataW.trod enc Try.prog W 0 (fun _ => true) true n 41 (([v0, v1, v2, v3, v4, v5, v6, v7, v8].drop 5).take (Try.prog.cellsOf 41)) = xs[2]? := hfl 2 _ rfl
  have hl2 : xs.length = 3 := hlen
  rw [cInt'] at h0
  rw [cLT] at h1 h2
  obtain ⟨y0, e0⟩ : ∃ y, xs[0]? = some y := ⟨_, List.getElem?_eq_getElem (by omega)⟩
  obtain ⟨y1, e1⟩ : ∃ y, xs[1]? = some y := ⟨_, List.getElem?_eq_getElem (by omega)⟩
  obtain ⟨y2, e2⟩ : ∃ y, xs[2]? = some y := ⟨_, List.getElem?_eq_getElem (by omega)⟩
  rw [e0] at h0; rw [e1] at h1; rw [e2] at h2
  (try simp at h0); (try simp at h1); (try simp at h2)
  obtain ⟨kd, hk, _⟩ := DataW.trod_int Try.underlying3 h0
  obtain ⟨k, n1, s, u, ts, hh, hr, hsz1, ha⟩ := (term_of_trod n).1 _ _ h1
  obtain ⟨k', n', s', u', ts', hh', hr', hsz', ha'⟩ := (term_of_trod n).1 _ _ h2
  simp at hk hr hr'
  obtain ⟨rfl, rfl, rfl, rfl⟩ := hr
  obtain ⟨rfl, rfl, rfl, rfl⟩ := hr'
  subst hk
  exact ⟨max hh hh', ⟨kd, .node k n1 s ts, .node k' n' s' ts'⟩, k, n1, s, _, k', n', s', _, rfl, ⟨_, _, _, _, _, rfl, rfl, hsz1, ha.le (Nat.le_max_left _ _)⟩, ⟨_, _, _, _, _, rfl, rfl, hsz', ha'.le (Nat.le_max_right _ _)⟩⟩
end Go.Proofs.Ytidbokheeieifaa
