/-
  A slice of bytes that came in, as the draws take it.
  The wrap of a row that lists variables, the world's shape kept: the library's wrap of a listed row, with one hypothesis more for the contract: the world has the program's shape.
  What the library's table of powers of ten holds when the call begins.
  What the listed package-level variables hold when the call begins, and one start in which they do.
-/
import Derived.Test.YtidbokheeieifaaGreatDoorQ5
import Derived.Test.YtidbokheeieifaaGreatDoorRows
import Derived.Test.YtidbokheeieifaaGreatDoorQ23
import Derived.Test.YtidbokheeieifaaGreatDoorQ29
import Derived.ProofKit
import Derived.HandedShaped
import Derived.SizedLaws
import Derived.LaidMore
import Derived.OpenShut
import Derived.Stop.Joined
import Derived.Stop.LaidErr
import Derived.LaidHandle
import Derived.MakeChecks
namespace Go.Proofs.YtidbokheeieifaaGreatDoor
open Go.RowKit Go.ChangeShapes Go.WideShapes

theorem cByte : Tryz.prog.cellsOf 5 = 1 := by kernel_rfl
theorem codeAt_nil (W : World) (c : Nat) : CodeAt W W.heap.size (.slice none 0 c) 0 := ⟨by decide, none, c, rfl, Or.inl rfl⟩
theorem codeAt_of_open {W : World} {a : Addr} {len cap : Nat} {zs : List Int} (hl : len ≤ zs.length) (hlen : len ≤ 1048576)
    (hcell : ∀ i, i < zs.length → W.cell? (a.add i) = some (.int .u8 (zs.getD i 0))) (hwf : ∀ n ∈ zs, (Lit.int .u8 n).wf = true) : CodeAt W W.heap.size (.slice (some a) len cap) len := by
  refine ⟨hlen, some a, cap, rfl, ?_⟩
  by_cases h0 : len = 0
  · exact Or.inl h0
  · right
    have h := hcell 0 (by omega)
    have hs := World.cell?_spot h
    have hlt := World.block_lt_of_cell? W _ h
    obtain ⟨b, o, sp⟩ := a
    have hsp : sp = none := by simpa [Addr.add] using hs
    subst hsp
    refine ⟨b, o, rfl, by simpa [Addr.add] using hlt, fun j hj => ?_⟩
    have hx := hcell j (by omega)
    have e : (⟨b, o, none⟩ : Addr).add j = ⟨b, o + j, none⟩ := by
      unfold Addr.add
      split
      · rename_i h; subst h; rfl
      · rfl
    rw [e] at hx
    have hw := hwf (zs.getD j 0) (by
      have hj2 : j < zs.length := by omega
      simp only [List.getD_eq_getElem?_getD, List.getElem?_eq_getElem hj2, Option.getD_some]
      exact List.getElem_mem _)
    have hb : 0 ≤ zs.getD j 0 ∧ zs.getD j 0 ≤ 255 := by simpa [Lit.wf, IntKind.min, IntKind.max, IntKind.signed, IntKind.bits] using hw
    exact ⟨_, hb.1, hb.2, hx⟩
end Go.Proofs.YtidbokheeieifaaGreatDoor
namespace Go.Proofs.YtidbokheeieifaaGreatDoor
open Go
variable {H : Type} {enc : TypeId × Value → H}

theorem handed_and_shaped {a : Assume} {C : Checked} {os : Os} {f : FuncId} {fn : Func} {s : ChangeSpec} {conds : List PathCond} {apart fresh handsOn again : Bool} {X : World → Array Value → Prop}
    (hX : ∀ (w w' : World) (args : Array Value), w.heap = w'.heap → X w args → X w' args)
    (own : ownKnob C.prog.godebug = none) (started : os.Started) (noInit : C.prog.inits.idxOf? f = none) (hfn : C.prog.funcs[f]? = some fn)
    (witness : ∃ (w : World) (tape : Tape) (i : Input), w.os = os ∧ (w.forCall tape i).Shaped C.prog ∧ i.vars = [] ∧ Input.okWide C.prog (w.forCall tape i) .any w.heap.size f i ∧
      ((s.pre enc C.prog fn conds apart (w.forCall tape i).memory i.args ∧ X (w.forCall tape i).memory i.args) ∧ sizedMet enc C.prog fn (OpenSpec.ofChange s) apart (w.forCall tape i).memory i.args) ∧ a.holds C.prog (lone (Frame.enter C.prog f i.args .normal) [] (w.forCall tape i)))
    (contract : ∀ (W : World) (base : Nat) (args : Array Value) (ds gs : List (DataW H)) (before : List MemPlace),
      (∀ (j : Nat) t v, fn.params[j]? = some t → args[j]? = some v → Value.okWide C.prog W .any base t v) →
      DataW.Whole enc C.prog fn.params.toList s.vars apart W args.toList ds gs before →
      conds.all (PathCond.test C.prog ⟨fn.params.toList, ds, s.plain.varTypes C.prog, gs⟩) = true →
      (DataW.weightsEach C.prog (fn.params.toList ++ s.plain.varTypes C.prog) (ds ++ gs)).all (· ≤ reachBytes) = true → X W args →
      W.ShapedOpen C.prog →
      a.holds C.prog (lone (Frame.enter C.prog f args .normal) [] W) →
      Calls C.prog f args W fun e W' => ∃ v, e = .returned v ∧ s.post enc C.prog fn apart fresh handsOn again W args v W') :
    ReturnsInHanded a C os f .any (fun w args => (s.pre enc C.prog fn conds apart w args ∧ X w args) ∧ sizedMet enc C.prog fn (OpenSpec.ofChange s) apart w args) (s.post enc C.prog fn apart fresh handsOn again) := by
  refine returnsInHanded_of_calls own started noInit witness ?_
  intro w tape i _ hsh _ hok hpre hholds
  obtain ⟨_, _, _, fn', hfn', _, _, _, _, hval⟩ := hok
  have e : fn' = fn := Option.some.inj (hfn'.symm.trans hfn)
  subst e
  obtain ⟨⟨⟨ds, gs, before, hw, hc⟩, hx⟩, hz⟩ := hpre
  have hw' := DataW.Whole.of_heap (w' := w.forCall tape i) (by rfl) hw
  refine (contract (w.forCall tape i) w.heap.size i.args ds gs before hval hw' hc (hz.weights hw) (hX _ _ _ (by rfl) hx) hsh hholds).mono fun e W' ⟨v, he, hp⟩ => ?_
  subst he
  exact ChangeSpec.post_blind hp
end Go.Proofs.YtidbokheeieifaaGreatDoor
namespace Go.Proofs.YtidbokheeieifaaGreatDoor
open Go.ChangeShapes Go.WideShapes Go.RowKit

theorem own : ownKnob Tryz.prog.godebug = none := by kernel_rfl
theorem tPow : (Tryz.prog.globals[1]?).map (·.type) = some 156 := by kernel_rfl
theorem cU64 : Tryz.prog.cellsOf 147 = 1 := by kernel_rfl
theorem cPow : Tryz.prog.cellsOf 156 = 20 := by kernel_rfl
theorem powData : (Rows.laid_internal_strconv_uint64pow10 : DataW Unit) = Lib.tabData .u64 Lib.pow10Tab := by kernel_rfl

/-- From the three tables' list. -/
theorem pow_of_laid {W : World} {r : List (String × DataW Unit)} (h : laidMet Tryz.prog ((powName, Rows.laid_internal_strconv_uint64pow10) :: r) W) : PowTab W := by
  rw [powData] at h
  exact Lib.tabIs_of_head gPow tPow Tryz.underlying156 Tryz.underlying147 cU64 cPow h

theorem PowTab.low {W : World} (h : PowTab W) : 1 < W.heap.size := by
  have h1 := World.var?_cell gPow h 0
  have h2 : ((Lib.pow10Tab.map fun z => Value.int .u64 z).toArray)[0]? = some (.int .u64 1) := by simp [Lib.pow10Tab]
  rw [h2] at h1
  exact World.block_lt_of_cell? W _ h1

end Go.Proofs.YtidbokheeieifaaGreatDoor
namespace Go.Proofs.YtidbokheeieifaaGreatDoor
open Go.ChangeShapes Go.WideShapes Go.RowKit

theorem var_low {P : Program} {w : World} {n : String} {g : Nat} {cs : Array Value} (hg : P.globalNamed n = some g) (h : w.var? P n = some cs) : g < w.heap.size := by
  unfold World.var? at h
  rw [hg] at h
  simp only [Option.bind_some] at h
  rcases Nat.lt_or_ge g w.heap.size with hl | hl
  · exact hl
  · rw [Array.getElem?_eq_none hl] at h
    simp at h

theorem gBru : Tryz.prog.globalNamed bruName = some 3 := by kernel_rfl
theorem low_of_laid {W : World} {d : DataW Unit} {r : List (String × DataW Unit)} (h : laidMet Tryz.prog ((bruName, d) :: r) W) : 3 < W.heap.size := by
  obtain ⟨ps, ⟨g', t', cs, fuel, p, q, hg', ht', hvar, hd, _, _⟩, _⟩ := h
  exact var_low gBru hvar

theorem tSyn : (Tryz.prog.globals[4]?).map (·.type) = some 132 := by kernel_rfl
theorem tRng : (Tryz.prog.globals[5]?).map (·.type) = some 132 := by kernel_rfl
theorem cErr : Tryz.prog.cellsOf 178 = 1 := by kernel_rfl
theorem cStr : Tryz.prog.cellsOf 9 = 1 := by kernel_rfl
theorem star : "*" ++ "errors.errorString" = "*errors.errorString" := by decide
theorem rowErr (u : TypeId) (h : Tryz.prog.typeName? 3 u = some "*errors.errorString") : u = 176 :=
  typeName_ptr_named (nm := "errors.errorString") (by rw [star]; kernel_rfl) (by kernel_rfl) (by decide) u (by rw [star]; exact h)
theorem errs_of_laid {W : World} {r : List (String × DataW Unit)} (h : laidMet Tryz.prog ((rngName, Rows.laid_strconv_ErrRange) :: (synName, Rows.laid_strconv_ErrSyntax) :: r) W) : ErrVars W := by
  obtain ⟨a0, s0, hv0, -, -, -⟩ := laid_sentinel h gRng tRng Tryz.underlying132 rowErr Tryz.underlying176 Tryz.underlying178 rfl rfl Tryz.underlying9 cErr cStr
  obtain ⟨a1, s1, hv1, -, -, -⟩ := laid_sentinel h.tail gSyn tSyn Tryz.underlying132 rowErr Tryz.underlying176 Tryz.underlying178 rfl rfl Tryz.underlying9 cErr cStr
  exact ⟨⟨_, _, hv1⟩, _, _, hv0⟩

/-- A string that came in takes less than 2^48 bytes. -/
theorem string_short {H : Type} {P : Program} {ts : List TypeId} {ds : List (DataW H)} {s : ByteArray} {j t : Nat}
    (hsz : (DataW.weightsEach P ts ds).all (· ≤ reachBytes) = true) (ht : ts[j]? = some t) (hd : ds[j]? = some (.lit (.string s.data.toList))) : s.size ≤ 281474976710656 := by
  have h1 := sized_string hsz (j := j) (t := t) ht hd
  have h2 := reachBytes_lt
  have e1 : s.size = s.data.size := rfl
  have e2 : s.data.toList.length = s.data.size := Array.length_toList
  have e3 : (2 : Nat) ^ 47 = 140737488355328 := by decide
  omega
end Go.Proofs.YtidbokheeieifaaGreatDoor
