/-
  A list of integers that came in, as a walk wants it. No walk.
-/
import Derived.Test.YtcedeniamolbmaaInts
import Derived.ProofKit
import Derived.SizedLaws
namespace Go.Proofs.Ytcedeniamolbmaa
open Go.ChangeShapes Go.WideShapes Go.ChangeAt Go.RowKit

theorem cInt1 : Try.prog.cellsOf 3 = 1 := by kernel_rfl

theorem intsAt_of_open {w : World} {a : Addr} {len cap : Nat} {zs : List Int} (hl : len ≤ zs.length) (hcap : len ≤ cap)
    (hc : ∀ i, i < zs.length → w.cell? (a.add i) = some (.int .i64 (zs.getD i 0))) : IntsAt w (.slice (some a) len cap) (zs.take len) := by
  have hlen : (zs.take len).length = len := by simp; omega
  refine ⟨some a, cap, by rw [hlen], by omega, ?_⟩
  by_cases h0 : len = 0
  · left; rw [h0]; simp
  · right
    have h := hc 0 (by omega)
    have hs := World.cell?_spot h
    obtain ⟨b, o, sp⟩ := a
    have hsp : sp = none := by simpa [Addr.add] using hs
    subst hsp
    refine ⟨b, o, rfl, fun i p hp => ?_⟩
    have hi : i < (zs.take len).length := (List.getElem?_eq_some_iff.1 hp).1
    have h2 := hc i (by omega)
    rw [List.getElem?_take] at hp
    rw [if_pos (by omega)] at hp
    have : zs.getD i 0 = p := by simp [List.getD, hp]
    rw [this] at h2
    have e : (Addr.mk b o none).add i = ⟨b, o + i, none⟩ := by
      unfold Addr.add
      split
      · rename_i h; subst h; rfl
      · rfl
    rw [e] at h2
    exact h2

theorem ints_came {H : Type} {enc : TypeId × Value → H} {W : World} {b0 : Nat} {v : Value} {d0 : DataW H} {p0 : List MemPlace}
    (hval : Value.okWide Try.prog W .any b0 27 v) (h0 : DataW.Trod enc Try.prog W 0 (fun _ => true) true 27 v d0 p0) : ∃ ps : List Int, ps.length ≤ maxLen ∧ IntsAt W v ps := by
  obtain ⟨a0, len, cap, rfl⟩ := okWide_slice Try.underlying27 hval
  obtain ⟨fuel, hf⟩ := h0
  rcases open_ints Try.underlying27 Try.underlying3 cInt1 hf with ⟨hcs, hx⟩ | ⟨a, len', cap', zs, hcs, _, hl, hm, hz, hx, hcell, hws⟩
  · simp [Value.cells] at hcs
    obtain ⟨rfl, rfl, rfl⟩ := hcs
    exact ⟨[], Nat.zero_le _, none, 0, rfl, Nat.zero_le _, Or.inl rfl⟩
  · simp [Value.cells] at hcs
    obtain ⟨rfl, rfl, rfl⟩ := hcs
    simp only [if_true] at hz
    exact ⟨zs.take len, by simp; omega, intsAt_of_open (by omega) hl hcell⟩
end Go.Proofs.Ytcedeniamolbmaa
