/-
  A slice of bytes that came in, as the draws take it.
  What the library's table of powers of ten holds when the call begins.
-/
import Derived.Test.YtcmhiindjponcaaDoorQ13
import Derived.Test.YtcmhiindjponcaaDoorQ23
import Derived.ProofKit
import Derived.SizedLaws
import Derived.LaidMore
import Derived.OpenShut
import Derived.Stop.Joined
import Derived.Stop.LaidErr
import Derived.LaidHandle
import Derived.MakeChecks
namespace Go.Proofs.YtcmhiindjponcaaDoor
open Go.RowKit Go.ChangeShapes Go.WideShapes

theorem cByte : Tryd.prog.cellsOf 5 = 1 := by kernel_rfl
theorem codeAt_nil (W : World) (c : Nat) : CodeAt W W.heap.size (.slice none 0 c) 0 := ⟨by decide, none, c, rfl, Or.inl rfl⟩
theorem codeAt_of_open {W : World} {a : Addr} {len cap : Nat} {zs : List Int} (hl : len ≤ zs.length) (hlen : len ≤ 1048576)
    (hcell : ∀ i, i < zs.length → W.cell? (a.add i) = some (.int .u8 (zs.getD i 0))) (hwf : ∀ n ∈ zs, (Lit.int .u8 n).wf = true) : CodeAt W W.heap.size (.slice (some a) len cap) len := by
  refine ⟨hlen, some a, cap, rfl, ?_⟩
  by_cases h0 : len = 0
  · exact Or.inl h0
  · right
    have h := hcell 0 (by omega)
    have hs := World.cell?_spot h
    have hlt := World.block_lt_of_cell? W _ h
    obtain ⟨b, o, sp⟩ := a
    have hsp : sp = none := by simpa [Addr.add] using hs
    subst hsp
    refine ⟨b, o, rfl, by simpa [Addr.add] using hlt, fun j hj => ?_⟩
    have hx := hcell j (by omega)
    have e : (⟨b, o, none⟩ : Addr).add j = ⟨b, o + j, none⟩ := by
      unfold Addr.add
      split
      · rename_i h; subst h; rfl
      · rfl
    rw [e] at hx
    have hw := hwf (zs.getD j 0) (by
      have hj2 : j < zs.length := by omega
      simp only [List.getD_eq_getElem?_getD, List.getElem?_eq_getElem hj2, Option.getD_some]
      exact List.getElem_mem _)
    have hb : 0 ≤ zs.getD j 0 ∧ zs.getD j 0 ≤ 255 := by simpa [Lit.wf, IntKind.min, IntKind.max, IntKind.signed, IntKind.bits] using hw
    exact ⟨_, hb.1, hb.2, hx⟩
end Go.Proofs.YtcmhiindjponcaaDoor
namespace Go.Proofs.YtcmhiindjponcaaDoor
open Go.ChangeShapes Go.WideShapes Go.RowKit

theorem own : ownKnob Tryd.prog.godebug = none := by kernel_rfl
theorem tPow : (Tryd.prog.globals[0]?).map (·.type) = some 93 := by kernel_rfl
theorem cU64 : Tryd.prog.cellsOf 83 = 1 := by kernel_rfl
theorem cPow : Tryd.prog.cellsOf 93 = 20 := by kernel_rfl
theorem powData : (Rows.laid_internal_strconv_uint64pow10 : DataW Unit) = Lib.tabData .u64 Lib.pow10Tab := by kernel_rfl

/-- From the three tables' list. -/
theorem pow_of_laid {W : World} {r : List (String × DataW Unit)} (h : laidMet Tryd.prog ((powName, Rows.laid_internal_strconv_uint64pow10) :: r) W) : PowTab W := by
  rw [powData] at h
  exact Lib.tabIs_of_head gPow tPow Tryd.underlying93 Tryd.underlying83 cU64 cPow h

theorem PowTab.low {W : World} (h : PowTab W) : 0 < W.heap.size := by
  have h1 := World.var?_cell gPow h 0
  have h2 : ((Lib.pow10Tab.map fun z => Value.int .u64 z).toArray)[0]? = some (.int .u64 1) := by simp [Lib.pow10Tab]
  rw [h2] at h1
  exact World.block_lt_of_cell? W _ h1

end Go.Proofs.YtcmhiindjponcaaDoor
