/-
  What the listed package-level variables hold when the call begins, and one start in which they do.
-/
import Derived.Test.YtjdcehnjdfhbnaaDoorIntOf
import Derived.ProofKit
import Derived.SizedLaws
import Derived.LaidMore
import Derived.OpenShut
import Derived.Stop.Joined
import Derived.Stop.LaidErr
import Derived.LaidHandle
import Derived.MakeChecks
namespace Go.Proofs.YtjdcehnjdfhbnaaDoor
open Go.ChangeShapes Go.WideShapes Go.RowKit

theorem own : ownKnob Tryd.prog.godebug = none := by kernel_rfl
theorem tPow : (Tryd.prog.globals[0]?).map (·.type) = some 89 := by kernel_rfl
theorem cU64 : Tryd.prog.cellsOf 69 = 1 := by kernel_rfl
theorem cPow : Tryd.prog.cellsOf 89 = 20 := by kernel_rfl
theorem powData : (Rows.laid_internal_strconv_uint64pow10 : DataW Unit) = Lib.tabData .u64 Lib.pow10Tab := by kernel_rfl

/-- From the three tables' list. -/
theorem pow_of_laid {W : World} {r : List (String × DataW Unit)} (h : laidMet Tryd.prog ((powName, Rows.laid_internal_strconv_uint64pow10) :: r) W) : PowTab W := by
  rw [powData] at h
  exact Lib.tabIs_of_head gPow tPow Tryd.underlying89 Tryd.underlying69 cU64 cPow h

theorem PowTab.low {W : World} (h : PowTab W) : 0 < W.heap.size := by
  have h1 := World.var?_cell gPow h 0
  have h2 : ((Lib.pow10Tab.map fun z => Value.int .u64 z).toArray)[0]? = some (.int .u64 1) := by simp [Lib.pow10Tab]
  rw [h2] at h1
  exact World.block_lt_of_cell? W _ h1

theorem var_low {P : Program} {w : World} {n : String} {g : Nat} {cs : Array Value} (hg : P.globalNamed n = some g) (h : w.var? P n = some cs) : g < w.heap.size := by
  unfold World.var? at h
  rw [hg] at h
  simp only [Option.bind_some] at h
  rcases Nat.lt_or_ge g w.heap.size with hl | hl
  · exact hl
  · rw [Array.getElem?_eq_none hl] at h
    simp at h

def bruName : String := (Rows.fnExactParseNumberRow.named.getD 4 "x")
theorem gBru : Tryd.prog.globalNamed bruName = some 7 := by kernel_rfl
theorem low_of_laid {W : World} {d : DataW Unit} {r : List (String × DataW Unit)} (h : laidMet Tryd.prog ((bruName, d) :: r) W) : 7 < W.heap.size := by
  obtain ⟨ps, ⟨g', t', cs, fuel, p, q, hg', ht', hvar, hd, _, _⟩, _⟩ := h
  exact var_low gBru hvar

theorem tSyn : (Tryd.prog.globals[1]?).map (·.type) = some 53 := by kernel_rfl
theorem tRng : (Tryd.prog.globals[2]?).map (·.type) = some 53 := by kernel_rfl
theorem cErr : Tryd.prog.cellsOf 103 = 1 := by kernel_rfl
theorem cStr : Tryd.prog.cellsOf 9 = 1 := by kernel_rfl
theorem star : "*" ++ "errors.errorString" = "*errors.errorString" := by decide
theorem rowErr (u : TypeId) (h : Tryd.prog.typeName? 3 u = some "*errors.errorString") : u = 101 :=
  typeName_ptr_named (nm := "errors.errorString") (by rw [star]; kernel_rfl) (by kernel_rfl) (by decide) u (by rw [star]; exact h)
theorem errs_of_laid {W : World} {r : List (String × DataW Unit)} (h : laidMet Tryd.prog ((rngName, Rows.laid_strconv_ErrRange) :: (synName, Rows.laid_strconv_ErrSyntax) :: r) W) : ErrVars W := by
  obtain ⟨a0, s0, hv0, -, -, -⟩ := laid_sentinel h gRng tRng Tryd.underlying53 rowErr Tryd.underlying101 Tryd.underlying103 rfl rfl Tryd.underlying9 cErr cStr
  obtain ⟨a1, s1, hv1, -, -, -⟩ := laid_sentinel h.tail gSyn tSyn Tryd.underlying53 rowErr Tryd.underlying101 Tryd.underlying103 rfl rfl Tryd.underlying9 cErr cStr
  exact ⟨⟨_, _, hv1⟩, _, _, hv0⟩

/-- A string that came in takes less than 2^48 bytes. -/
theorem string_short {H : Type} {P : Program} {ts : List TypeId} {ds : List (DataW H)} {s : ByteArray} {j t : Nat}
    (hsz : (DataW.weightsEach P ts ds).all (· ≤ reachBytes) = true) (ht : ts[j]? = some t) (hd : ds[j]? = some (.lit (.string s.data.toList))) : s.size ≤ 281474976710656 := by
  have h1 := sized_string hsz (j := j) (t := t) ht hd
  have h2 := reachBytes_lt
  have e1 : s.size = s.data.size := rfl
  have e2 : s.data.toList.length = s.data.size := Array.length_toList
  have e3 : (2 : Nat) ^ 47 = 140737488355328 := by decide
  omega
end Go.Proofs.YtjdcehnjdfhbnaaDoor
