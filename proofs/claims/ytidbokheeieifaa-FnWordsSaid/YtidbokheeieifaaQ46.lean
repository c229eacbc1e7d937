/-
  A slice of bytes that came in, as the draws take it.
-/
import Derived.Test.YtidbokheeieifaaQ2
import Derived.ProofKit
namespace Go.Proofs.Ytidbokheeieifaa
open Go.RowKit Go.ChangeShapes Go.WideShapes

theorem cByte : Try.prog.cellsOf 5 = 1 := by kernel_rfl
theorem codeAt_nil (W : World) (c : Nat) : CodeAt W W.heap.size (.slice none 0 c) 0 := ⟨by decide, none, c, rfl, Or.inl rfl⟩
theorem codeAt_of_open {W : World} {a : Addr} {len cap : Nat} {zs : List Int} (hl : len ≤ zs.length) (hlen : len ≤ 1048576)
    (hcell : ∀ i, i < zs.length → W.cell? (a.add i) = some (.int .u8 (zs.getD i 0))) (hwf : ∀ n ∈ zs, (Lit.int .u8 n).wf = true) : CodeAt W W.heap.size (.slice (some a) len cap) len := by
  refine ⟨hlen, some a, cap, rfl, ?_⟩
  by_cases h0 : len = 0
  · exact Or.inl h0
  · right
    have h := hcell 0 (by omega)
    have hs := World.cell?_spot h
    have hlt := World.block_lt_of_cell? W _ h
    obtain ⟨b, o, sp⟩ := a
    have hsp : sp = none := by simpa [Addr.add] using hs
    subst hsp
    refine ⟨b, o, rfl, by simpa [Addr.add] using hlt, fun j hj => ?_⟩
    have hx := hcell j (by omega)
    have e : (⟨b, o, none⟩ : Addr).add j = ⟨b, o + j, none⟩ := by
      unfold Addr.add
      split
      · rename_i h; subst h; rfl
      · rfl
    rw [e] at hx
    have hw := hwf (zs.getD j 0) (by
      have hj2 : j < zs.length := by omega
      simp only [List.getD_eq_getElem?_getD, List.getElem?_eq_getElem hj2, Option.getD_some]
      exact List.getElem_mem _)
    have hb : 0 ≤ zs.getD j 0 ∧ zs.getD j 0 ≤ 255 := by simpa [Lit.wf, IntKind.min, IntKind.max, IntKind.signed, IntKind.bits] using hw
    exact ⟨_, hb.1, hb.2, hx⟩
end Go.Proofs.Ytidbokheeieifaa
