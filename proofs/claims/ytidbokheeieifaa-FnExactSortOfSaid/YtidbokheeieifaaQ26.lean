/-
  A []VarSort that came in as an argument.
-/
import Derived.Test.YtidbokheeieifaaQ19
import Derived.ProofKit
import Derived.SizedLaws
namespace Go.Proofs.Ytidbokheeieifaa
open Go.ChangeShapes Go.WideShapes Go.ChangeAt Go.RowKit

theorem cLV : Try.prog.cellsOf 106 = 2 := by kernel_rfl
theorem cells2V {W : World} {a : Addr} {cs : List Value} (h : W.cells? 0 a 2 = some cs) : ∃ v0 v1, cs = [v0, v1] ∧ W.cell? (a.add 0) = some v0 ∧ W.cell? (a.add 1) = some v1 := by
  unfold World.cells? at h
  rw [if_pos (Nat.zero_le _)] at h
  have e : List.range 2 = [0, 1] := rfl
  rw [e] at h
  simp only [List.mapM_cons, List.mapM_nil, Option.bind_eq_bind, Option.pure_def, Option.bind_eq_some_iff] at h
  obtain ⟨v0, h0, r0, ⟨v1, h1, r1, e1, e0⟩, ee⟩ := h
  simp at e1 e0 ee
  subst e1; subst e0; subst ee
  exact ⟨v0, v1, rfl, h0, h1⟩

section
variable {H : Type} {enc : TypeId × Value → H} {W : World} {held : Bool}
set_option maxRecDepth 100000 in
theorem var_of_trod {fuel : Nat} {cs : List Value} {x : DataW H × List MemPlace} (h : DataW.trod enc Try.prog W 0 (fun _ => true) held fuel 106 cs = some x) : ∃ p : ByteArray × ByteArray, cs = [.string p.1, .string p.2] ∧ VarOk p := by
  obtain ⟨xs, n, hn, _, hl, hlen, hf⟩ := DataW.trod_struct Try.underlying106 h
  rw [cLV] at hl
  match cs, hl with
  | [v0, v1], _ =>
    have h0 : DataW.trod enc Try.prog W 0 (fun _ => true) held n 9 (([v0, v1].drop 0).take (Try.prog.cellsOf 9)) = xs[0]? := hf 0 _ rfl
    have h1 : DataW.trod enc Try.prog W 0 (fun _ => true) held n 9 (([v0, v1].drop 1).take (Try.prog.cellsOf 9)) = xs[1]? := hf 1 _ rfl
    have hl2 : xs.length = 2 := hlen
    rw [cStr'] at h0 h1
    obtain ⟨y0, e0⟩ : ∃ y, xs[0]? = some y := ⟨_, List.getElem?_eq_getElem (by omega)⟩
    obtain ⟨y1, e1⟩ : ∃ y, xs[1]? = some y := ⟨_, List.getElem?_eq_getElem (by omega)⟩
    rw [e0] at h0; rw [e1] at h1
    (try simp at h0); (try simp at h1)
    obtain ⟨s, hs, _, hsz⟩ := DataW.trod_string Try.underlying9 h0
    obtain ⟨r, hr, _, hrz⟩ := DataW.trod_string Try.underlying9 h1
    simp at hs hr
    subst hs; subst hr
    exact ⟨(s, r), rfl, hsz, hrz⟩

set_option maxRecDepth 100000 in
theorem vars_of_trod {fuel : Nat} {cs : List Value} {x : DataW H × List MemPlace} (h : DataW.trod enc Try.prog W 0 (fun _ => true) held fuel 42 cs = some x) : ∃ (u : Value) (vs : List (ByteArray × ByteArray)), cs = [u] ∧ VarsOk vs ∧ VsAt W u vs := by
  rcases DataW.trod_slice Try.underlying42 h with ⟨rfl, _⟩ | ⟨a, len, cap, elems, rest, n, hn, rfl, _, _, hlc, hcm, hlen, hel, _, _⟩
  · exact ⟨_, [], rfl, ⟨Nat.zero_le _, fun d hd => by cases hd⟩, none, 0, rfl, Or.inl rfl⟩
  · have each : ∀ i, i < len → ∃ p : ByteArray × ByteArray, W.cells? 0 (a.add (i * 2)) 2 = some [.string p.1, .string p.2] ∧ VarOk p := by
      intro i hi
      have h1 := hel i hi
      rw [cLV] at h1
      obtain ⟨y, hy⟩ : ∃ y, elems[i]? = some y := ⟨_, List.getElem?_eq_getElem (by omega)⟩
      rw [hy, Option.bind_eq_some_iff] at h1
      obtain ⟨cs, hcs, ht⟩ := h1
      obtain ⟨p, rfl, hd⟩ := var_of_trod ht
      exact ⟨p, hcs, hd⟩
    by_cases h0 : len = 0
    · subst h0
      exact ⟨_, [], rfl, ⟨Nat.zero_le _, fun d hd => by cases hd⟩, some a, cap, rfl, Or.inl rfl⟩
    · have hch : ∃ (D : Nat → ByteArray × ByteArray), ∀ i, i < len → W.cells? 0 (a.add (i * 2)) 2 = some [.string (D i).1, .string (D i).2] ∧ VarOk (D i) := by
        have hc2 : ∀ i, ∃ p : ByteArray × ByteArray, i < len → W.cells? 0 (a.add (i * 2)) 2 = some [.string p.1, .string p.2] ∧ VarOk p := by
          intro i
          by_cases hi : i < len
          · obtain ⟨p, q⟩ := each i hi
            exact ⟨p, fun _ => q⟩
          · exact ⟨(ByteArray.empty, ByteArray.empty), fun h => absurd h hi⟩
        exact ⟨fun i => (hc2 i).choose, fun i hi => (hc2 i).choose_spec hi⟩
      obtain ⟨D, hall⟩ := hch
      have hspot : a.spot = none := by
        obtain ⟨v0, _, _, c0, _⟩ := cells2V (hall 0 (by omega)).1
        have := World.cell?_spot c0
        obtain ⟨b, o, sp⟩ := a
        simpa [Addr.add] using this
      refine ⟨_, (List.range len).map D, rfl, ⟨by simp; omega, fun d hd => ?_⟩, some a, cap, by simp, Or.inr ⟨a.block, a.off, ?_, fun i p hi => ?_⟩⟩
      · obtain ⟨i, hi, rfl⟩ := List.mem_map.1 hd
        exact (hall i (by simpa using hi)).2
      · obtain ⟨b, o, sp⟩ := a
        simp at hspot; subst hspot; rfl
      · have hil : i < len := by have := (List.getElem?_eq_some_iff.1 hi).1; simpa using this
        simp [hil] at hi
        subst hi
        obtain ⟨hcs, _⟩ := hall i hil
        obtain ⟨v0, v1, e, c0, c1⟩ := cells2V hcs
        simp at e
        obtain ⟨rfl, rfl⟩ := e
        have sp : (a.add (i * 2)).spot = none := by
          obtain ⟨b, o, sp⟩ := a
          simp at hspot; subst hspot
          unfold Addr.add
          split <;> rfl
        have eb : (a.add (i * 2)).block = a.block ∧ (a.add (i * 2)).off = a.off + i * 2 := by
          obtain ⟨b, o, sp⟩ := a
          simp at hspot; subst hspot
          unfold Addr.add
          split
          · rename_i h; rw [h]; exact ⟨rfl, rfl⟩
          · exact ⟨rfl, rfl⟩
        have d0 := spot_add c0 sp
        have d1 := spot_add c1 sp
        rw [eb.1, eb.2] at d0 d1
        exact ⟨d0, d1⟩
end

set_option maxRecDepth 100000 in
/-- A list of variables that came in. -/
theorem vars_came {H : Type} {enc : TypeId × Value → H} {W : World} {base : Nat} {v : Value} {d : DataW H} {p : List MemPlace} (hv : Value.okWide Try.prog W .any base 42 v)
    (h : DataW.Trod enc Try.prog W 0 (fun _ => true) true 42 v d p) : ∃ vs, VarsOk vs ∧ VsAt W v vs := by
  obtain ⟨a, n, c, rfl⟩ := okWide_slice Try.underlying42 hv
  obtain ⟨fuel, hf⟩ := h
  obtain ⟨u, vs, hu, hok, hat⟩ := vars_of_trod hf
  simp [Value.cells] at hu
  subst hu
  exact ⟨vs, hok, hat⟩
end Go.Proofs.Ytidbokheeieifaa
