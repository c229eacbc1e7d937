/-
  NARROWER THAN 'FOR EVERY INPUT', by the rows' own cells (each row's printed sentence says how): FnExactCountTerm: loops · FnExactDepthOfTerm: loops · FnExactIsValidTerm: loops · FnExactEqualTerm: loops · FnExactVarsOfTerm: loops · FnExactIsGround: loops · FnExactCompareTerms: loops.
  DERIVED. THE GIVEN ROWS OF THIS SEAT. 9 by the template 'for every input the law returns true; each argument reads behind the call as it read before'; 0 by the template 'total and deterministic' (their statements: YtbechogdijkgjaaTotals.lean).
  GIVEN WITH THE SEED: the statements are not yours to turn. If you find one false, say at which input.
  Laid BY PROGRAM, IN A SANDBOX (cutbox-rows.mjs): the forced cells as the released guide's own fill.sh prints them over the translation 74000a8cf73837f6… (all of the seat's roots in one cut). By AI agents, Wed Nov 11 2026. No macro, syntax, notation, axiom, sorry.
-/
import Derived.Test.YtbechogdijkgjaaChecked
import GoSem.Claim
import GoSem.ClaimJoined
import GoSem.ClaimMapViews
import Derived.JoinedTies
import Derived.KernelRfl
namespace Go.Proofs.Ytbechogdijkgjaa
/- THE CELL 'sum', in the pinned program and in every row, IS THE sha256 OF THE DUMP (.gsa) THAT YtbechogdijkgjaaProg.lean LOADS. Nothing in Lean hashes anything: it is a label: what it is worth is what the hold of that sum in a sandbox is worth. -/
noncomputable def Try.pinned : Pinned := { name := "ytbechogdijkgjaa", sum := "74000a8cf73837f6f8f489d2e58c363a4788e9ebedb66f8d9d8a9d602a2b9b2c", checked := Try.checked }
namespace Rows
def none {H : Type} : Left H := { results := [], args := [] }

/-- 'laws.FnTerms': WHATEVER THE INPUT: true; the input reads as it did. -/
def fnTermsSpec : ChangeSpec := { name := "fnTerms", fn := fun _ => fun
  | [d] => { results := [.lit (.bool true)], args := [d] }
  | _ => none }
def fnTermsRow : OpenClaim := { program := "ytbechogdijkgjaa", sum := "74000a8cf73837f6f8f489d2e58c363a4788e9ebedb66f8d9d8a9d602a2b9b2c", func := "loop.example/g00517/laws.FnTerms", spec := "fnTerms", unfollowed := true, recurses := true, apart := false }
def FnTermsSaid : Prop := fnTermsRow.holds Try.pinned (OpenSpec.ofChange fnTermsSpec)

/-- ITS FALSE NEIGHBOUR: 'it returns false'. Refute it at one input. -/
def fnTermsWrong : ChangeSpec := { name := "fnTerms", fn := fun _ => fun
  | [d] => { results := [.lit (.bool false)], args := [d] }
  | _ => none }
def FnTermsWrongFalsely : Prop := fnTermsRow.holds Try.pinned (OpenSpec.ofChange fnTermsWrong)

/-- 'laws.FnOrder': WHATEVER THE INPUT: true; the input reads as it did. -/
def fnOrderSpec : ChangeSpec := { name := "fnOrder", fn := fun _ => fun
  | [d] => { results := [.lit (.bool true)], args := [d] }
  | _ => none }
def fnOrderRow : OpenClaim := { program := "ytbechogdijkgjaa", sum := "74000a8cf73837f6f8f489d2e58c363a4788e9ebedb66f8d9d8a9d602a2b9b2c", func := "loop.example/g00517/laws.FnOrder", spec := "fnOrder", inPlace := ["internal/bytealg.abigen_runtime_cmpstring"], unfollowed := true, recurses := true, apart := false }
def FnOrderSaid : Prop := fnOrderRow.holds Try.pinned (OpenSpec.ofChange fnOrderSpec)

/-- ITS FALSE NEIGHBOUR: 'it returns false'. Refute it at one input. -/
def fnOrderWrong : ChangeSpec := { name := "fnOrder", fn := fun _ => fun
  | [d] => { results := [.lit (.bool false)], args := [d] }
  | _ => none }
def FnOrderWrongFalsely : Prop := fnOrderRow.holds Try.pinned (OpenSpec.ofChange fnOrderWrong)

/-- 'laws.FnExactCountTerm': WHATEVER THE INPUT: true; the input reads as it did. -/
def fnExactCountTermSpec : ChangeSpec := { name := "fnExactCountTerm", fn := fun _ => fun
  | [d] => { results := [.lit (.bool true)], args := [d] }
  | _ => none }
def fnExactCountTermRow : OpenClaim := { program := "ytbechogdijkgjaa", sum := "74000a8cf73837f6f8f489d2e58c363a4788e9ebedb66f8d9d8a9d602a2b9b2c", func := "loop.example/g00517/laws.FnExactCountTerm", spec := "fnExactCountTerm", recurses := true, loops := true, apart := false }
def FnExactCountTermSaid : Prop := fnExactCountTermRow.holds Try.pinned (OpenSpec.ofChange fnExactCountTermSpec)

/-- ITS FALSE NEIGHBOUR: 'it returns false'. Refute it at one input. -/
def fnExactCountTermWrong : ChangeSpec := { name := "fnExactCountTerm", fn := fun _ => fun
  | [d] => { results := [.lit (.bool false)], args := [d] }
  | _ => none }
def FnExactCountTermWrongFalsely : Prop := fnExactCountTermRow.holds Try.pinned (OpenSpec.ofChange fnExactCountTermWrong)

/-- 'laws.FnExactDepthOfTerm': WHATEVER THE INPUT: true; the input reads as it did. -/
def fnExactDepthOfTermSpec : ChangeSpec := { name := "fnExactDepthOfTerm", fn := fun _ => fun
  | [d] => { results := [.lit (.bool true)], args := [d] }
  | _ => none }
def fnExactDepthOfTermRow : OpenClaim := { program := "ytbechogdijkgjaa", sum := "74000a8cf73837f6f8f489d2e58c363a4788e9ebedb66f8d9d8a9d602a2b9b2c", func := "loop.example/g00517/laws.FnExactDepthOfTerm", spec := "fnExactDepthOfTerm", recurses := true, loops := true, apart := false }
def FnExactDepthOfTermSaid : Prop := fnExactDepthOfTermRow.holds Try.pinned (OpenSpec.ofChange fnExactDepthOfTermSpec)

/-- ITS FALSE NEIGHBOUR: 'it returns false'. Refute it at one input. -/
def fnExactDepthOfTermWrong : ChangeSpec := { name := "fnExactDepthOfTerm", fn := fun _ => fun
  | [d] => { results := [.lit (.bool false)], args := [d] }
  | _ => none }
def FnExactDepthOfTermWrongFalsely : Prop := fnExactDepthOfTermRow.holds Try.pinned (OpenSpec.ofChange fnExactDepthOfTermWrong)

/-- 'laws.FnExactIsValidTerm': WHATEVER THE INPUT: true; the input reads as it did. -/
def fnExactIsValidTermSpec : ChangeSpec := { name := "fnExactIsValidTerm", fn := fun _ => fun
  | [d] => { results := [.lit (.bool true)], args := [d] }
  | _ => none }
def fnExactIsValidTermRow : OpenClaim := { program := "ytbechogdijkgjaa", sum := "74000a8cf73837f6f8f489d2e58c363a4788e9ebedb66f8d9d8a9d602a2b9b2c", func := "loop.example/g00517/laws.FnExactIsValidTerm", spec := "fnExactIsValidTerm", unfollowed := true, recurses := true, loops := true, apart := false }
def FnExactIsValidTermSaid : Prop := fnExactIsValidTermRow.holds Try.pinned (OpenSpec.ofChange fnExactIsValidTermSpec)

/-- ITS FALSE NEIGHBOUR: 'it returns false'. Refute it at one input. -/
def fnExactIsValidTermWrong : ChangeSpec := { name := "fnExactIsValidTerm", fn := fun _ => fun
  | [d] => { results := [.lit (.bool false)], args := [d] }
  | _ => none }
def FnExactIsValidTermWrongFalsely : Prop := fnExactIsValidTermRow.holds Try.pinned (OpenSpec.ofChange fnExactIsValidTermWrong)

/-- 'laws.FnExactEqualTerm': WHATEVER THE INPUT: true; the input reads as it did. -/
def fnExactEqualTermSpec : ChangeSpec := { name := "fnExactEqualTerm", fn := fun _ => fun
  | [d1, d2] => { results := [.lit (.bool true)], args := [d1, d2] }
  | _ => none }
def fnExactEqualTermRow : OpenClaim := { program := "ytbechogdijkgjaa", sum := "74000a8cf73837f6f8f489d2e58c363a4788e9ebedb66f8d9d8a9d602a2b9b2c", func := "loop.example/g00517/laws.FnExactEqualTerm", spec := "fnExactEqualTerm", inPlace := ["internal/bytealg.abigen_runtime_cmpstring"], unfollowed := true, recurses := true, loops := true, apart := false }
def FnExactEqualTermSaid : Prop := fnExactEqualTermRow.holds Try.pinned (OpenSpec.ofChange fnExactEqualTermSpec)

/-- ITS FALSE NEIGHBOUR: 'it returns false'. Refute it at one input. -/
def fnExactEqualTermWrong : ChangeSpec := { name := "fnExactEqualTerm", fn := fun _ => fun
  | [d1, d2] => { results := [.lit (.bool false)], args := [d1, d2] }
  | _ => none }
def FnExactEqualTermWrongFalsely : Prop := fnExactEqualTermRow.holds Try.pinned (OpenSpec.ofChange fnExactEqualTermWrong)

/-- 'laws.FnExactVarsOfTerm': WHATEVER THE INPUT: true; the input reads as it did. -/
def fnExactVarsOfTermSpec : ChangeSpec := { name := "fnExactVarsOfTerm", fn := fun _ => fun
  | [d] => { results := [.lit (.bool true)], args := [d] }
  | _ => none }
def fnExactVarsOfTermRow : OpenClaim := { program := "ytbechogdijkgjaa", sum := "74000a8cf73837f6f8f489d2e58c363a4788e9ebedb66f8d9d8a9d602a2b9b2c", func := "loop.example/g00517/laws.FnExactVarsOfTerm", spec := "fnExactVarsOfTerm", unfollowed := true, recurses := true, loops := true, apart := false }
def FnExactVarsOfTermSaid : Prop := fnExactVarsOfTermRow.holds Try.pinned (OpenSpec.ofChange fnExactVarsOfTermSpec)

/-- ITS FALSE NEIGHBOUR: 'it returns false'. Refute it at one input. -/
def fnExactVarsOfTermWrong : ChangeSpec := { name := "fnExactVarsOfTerm", fn := fun _ => fun
  | [d] => { results := [.lit (.bool false)], args := [d] }
  | _ => none }
def FnExactVarsOfTermWrongFalsely : Prop := fnExactVarsOfTermRow.holds Try.pinned (OpenSpec.ofChange fnExactVarsOfTermWrong)

/-- 'laws.FnExactIsGround': WHATEVER THE INPUT: true; the input reads as it did. -/
def fnExactIsGroundSpec : ChangeSpec := { name := "fnExactIsGround", fn := fun _ => fun
  | [d] => { results := [.lit (.bool true)], args := [d] }
  | _ => none }
def fnExactIsGroundRow : OpenClaim := { program := "ytbechogdijkgjaa", sum := "74000a8cf73837f6f8f489d2e58c363a4788e9ebedb66f8d9d8a9d602a2b9b2c", func := "loop.example/g00517/laws.FnExactIsGround", spec := "fnExactIsGround", unfollowed := true, recurses := true, loops := true, apart := false }
def FnExactIsGroundSaid : Prop := fnExactIsGroundRow.holds Try.pinned (OpenSpec.ofChange fnExactIsGroundSpec)

/-- ITS FALSE NEIGHBOUR: 'it returns false'. Refute it at one input. -/
def fnExactIsGroundWrong : ChangeSpec := { name := "fnExactIsGround", fn := fun _ => fun
  | [d] => { results := [.lit (.bool false)], args := [d] }
  | _ => none }
def FnExactIsGroundWrongFalsely : Prop := fnExactIsGroundRow.holds Try.pinned (OpenSpec.ofChange fnExactIsGroundWrong)

/-- 'laws.FnExactCompareTerms': WHATEVER THE INPUT: true; the input reads as it did. -/
def fnExactCompareTermsSpec : ChangeSpec := { name := "fnExactCompareTerms", fn := fun _ => fun
  | [d1, d2] => { results := [.lit (.bool true)], args := [d1, d2] }
  | _ => none }
def fnExactCompareTermsRow : OpenClaim := { program := "ytbechogdijkgjaa", sum := "74000a8cf73837f6f8f489d2e58c363a4788e9ebedb66f8d9d8a9d602a2b9b2c", func := "loop.example/g00517/laws.FnExactCompareTerms", spec := "fnExactCompareTerms", inPlace := ["internal/bytealg.abigen_runtime_cmpstring"], unfollowed := true, recurses := true, loops := true, apart := false }
def FnExactCompareTermsSaid : Prop := fnExactCompareTermsRow.holds Try.pinned (OpenSpec.ofChange fnExactCompareTermsSpec)

/-- ITS FALSE NEIGHBOUR: 'it returns false'. Refute it at one input. -/
def fnExactCompareTermsWrong : ChangeSpec := { name := "fnExactCompareTerms", fn := fun _ => fun
  | [d1, d2] => { results := [.lit (.bool false)], args := [d1, d2] }
  | _ => none }
def FnExactCompareTermsWrongFalsely : Prop := fnExactCompareTermsRow.holds Try.pinned (OpenSpec.ofChange fnExactCompareTermsWrong)

/- THE SECOND FORM. 'bulk': how many values and letters a reading holds, each counted each time it is reached (what is shared counts as often as it is met; a slice's spare places count too). A statement '..UptoSaid' is the law's where the arguments, and the package variables that the reading takes, are together of bulk at most 1048576: NARROWER than '..Said'. Prove '..Said' where nothing that the law and all that it calls make is longer than what came in: it says more and counts as full. Else prove '..UptoSaid'. A law counts once. -/
mutual
def uptoBulk {H : Type} : DataW H → Nat
  | .lit (.string bytes) => bytes.length + 1
  | .lit _ => 1
  | .nil => 1
  | .ptr d => uptoBulk d + 1
  | .slice elems spare => uptoBulkAll elems + uptoBulkAll spare + 1
  | .agg parts => uptoBulkAll parts + 1
  | .iface _ d => uptoBulk d + 1
  | .map entries => uptoBulkEntries entries + 1
  | .held _ => 1
def uptoBulkAll {H : Type} : List (DataW H) → Nat
  | [] => 0
  | d :: r => uptoBulk d + uptoBulkAll r
def uptoBulkEntries {H : Type} : List (Lit × DataW H) → Nat
  | [] => 0
  | x :: r => uptoBulkEntry x + uptoBulkEntries r
def uptoBulkEntry {H : Type} : Lit × DataW H → Nat
  | (.string bytes, d) => bytes.length + uptoBulk d + 1
  | (_, d) => uptoBulk d + 1
 end
def uptoSmall : (H : Type) → List (DataW H) → Bool := fun _ ds => decide (uptoBulkAll ds ≤ 1048576)
def OpenSpec.upto (s : _root_.Go.ChangeSpec) : _root_.Go.OpenSpec := { _root_.Go.OpenSpec.ofChange s with cond := some uptoSmall }

/-- 'laws.FnTerms', WHERE WHAT IT READS IS OF BULK AT MOST 1048576: true; the input reads as it did. -/
def fnTermsUptoRow : OpenClaim := { program := "ytbechogdijkgjaa", sum := "74000a8cf73837f6f8f489d2e58c363a4788e9ebedb66f8d9d8a9d602a2b9b2c", func := "loop.example/g00517/laws.FnTerms", spec := "fnTerms", unfollowed := true, recurses := true, apart := false, narrowed := true }
def FnTermsUptoSaid : Prop := fnTermsUptoRow.holds Try.pinned (OpenSpec.upto fnTermsSpec)

/-- 'laws.FnOrder', WHERE WHAT IT READS IS OF BULK AT MOST 1048576: true; the input reads as it did. -/
def fnOrderUptoRow : OpenClaim := { program := "ytbechogdijkgjaa", sum := "74000a8cf73837f6f8f489d2e58c363a4788e9ebedb66f8d9d8a9d602a2b9b2c", func := "loop.example/g00517/laws.FnOrder", spec := "fnOrder", inPlace := ["internal/bytealg.abigen_runtime_cmpstring"], unfollowed := true, recurses := true, apart := false, narrowed := true }
def FnOrderUptoSaid : Prop := fnOrderUptoRow.holds Try.pinned (OpenSpec.upto fnOrderSpec)

/-- 'laws.FnExactCountTerm', WHERE WHAT IT READS IS OF BULK AT MOST 1048576: true; the input reads as it did. -/
def fnExactCountTermUptoRow : OpenClaim := { program := "ytbechogdijkgjaa", sum := "74000a8cf73837f6f8f489d2e58c363a4788e9ebedb66f8d9d8a9d602a2b9b2c", func := "loop.example/g00517/laws.FnExactCountTerm", spec := "fnExactCountTerm", recurses := true, loops := true, apart := false, narrowed := true }
def FnExactCountTermUptoSaid : Prop := fnExactCountTermUptoRow.holds Try.pinned (OpenSpec.upto fnExactCountTermSpec)

/-- 'laws.FnExactDepthOfTerm', WHERE WHAT IT READS IS OF BULK AT MOST 1048576: true; the input reads as it did. -/
def fnExactDepthOfTermUptoRow : OpenClaim := { program := "ytbechogdijkgjaa", sum := "74000a8cf73837f6f8f489d2e58c363a4788e9ebedb66f8d9d8a9d602a2b9b2c", func := "loop.example/g00517/laws.FnExactDepthOfTerm", spec := "fnExactDepthOfTerm", recurses := true, loops := true, apart := false, narrowed := true }
def FnExactDepthOfTermUptoSaid : Prop := fnExactDepthOfTermUptoRow.holds Try.pinned (OpenSpec.upto fnExactDepthOfTermSpec)

/-- 'laws.FnExactIsValidTerm', WHERE WHAT IT READS IS OF BULK AT MOST 1048576: true; the input reads as it did. -/
def fnExactIsValidTermUptoRow : OpenClaim := { program := "ytbechogdijkgjaa", sum := "74000a8cf73837f6f8f489d2e58c363a4788e9ebedb66f8d9d8a9d602a2b9b2c", func := "loop.example/g00517/laws.FnExactIsValidTerm", spec := "fnExactIsValidTerm", unfollowed := true, recurses := true, loops := true, apart := false, narrowed := true }
def FnExactIsValidTermUptoSaid : Prop := fnExactIsValidTermUptoRow.holds Try.pinned (OpenSpec.upto fnExactIsValidTermSpec)

/-- 'laws.FnExactEqualTerm', WHERE WHAT IT READS IS OF BULK AT MOST 1048576: true; the input reads as it did. -/
def fnExactEqualTermUptoRow : OpenClaim := { program := "ytbechogdijkgjaa", sum := "74000a8cf73837f6f8f489d2e58c363a4788e9ebedb66f8d9d8a9d602a2b9b2c", func := "loop.example/g00517/laws.FnExactEqualTerm", spec := "fnExactEqualTerm", inPlace := ["internal/bytealg.abigen_runtime_cmpstring"], unfollowed := true, recurses := true, loops := true, apart := false, narrowed := true }
def FnExactEqualTermUptoSaid : Prop := fnExactEqualTermUptoRow.holds Try.pinned (OpenSpec.upto fnExactEqualTermSpec)

/-- 'laws.FnExactVarsOfTerm', WHERE WHAT IT READS IS OF BULK AT MOST 1048576: true; the input reads as it did. -/
def fnExactVarsOfTermUptoRow : OpenClaim := { program := "ytbechogdijkgjaa", sum := "74000a8cf73837f6f8f489d2e58c363a4788e9ebedb66f8d9d8a9d602a2b9b2c", func := "loop.example/g00517/laws.FnExactVarsOfTerm", spec := "fnExactVarsOfTerm", unfollowed := true, recurses := true, loops := true, apart := false, narrowed := true }
def FnExactVarsOfTermUptoSaid : Prop := fnExactVarsOfTermUptoRow.holds Try.pinned (OpenSpec.upto fnExactVarsOfTermSpec)

/-- 'laws.FnExactIsGround', WHERE WHAT IT READS IS OF BULK AT MOST 1048576: true; the input reads as it did. -/
def fnExactIsGroundUptoRow : OpenClaim := { program := "ytbechogdijkgjaa", sum := "74000a8cf73837f6f8f489d2e58c363a4788e9ebedb66f8d9d8a9d602a2b9b2c", func := "loop.example/g00517/laws.FnExactIsGround", spec := "fnExactIsGround", unfollowed := true, recurses := true, loops := true, apart := false, narrowed := true }
def FnExactIsGroundUptoSaid : Prop := fnExactIsGroundUptoRow.holds Try.pinned (OpenSpec.upto fnExactIsGroundSpec)

/-- 'laws.FnExactCompareTerms', WHERE WHAT IT READS IS OF BULK AT MOST 1048576: true; the input reads as it did. -/
def fnExactCompareTermsUptoRow : OpenClaim := { program := "ytbechogdijkgjaa", sum := "74000a8cf73837f6f8f489d2e58c363a4788e9ebedb66f8d9d8a9d602a2b9b2c", func := "loop.example/g00517/laws.FnExactCompareTerms", spec := "fnExactCompareTerms", inPlace := ["internal/bytealg.abigen_runtime_cmpstring"], unfollowed := true, recurses := true, loops := true, apart := false, narrowed := true }
def FnExactCompareTermsUptoSaid : Prop := fnExactCompareTermsUptoRow.holds Try.pinned (OpenSpec.upto fnExactCompareTermsSpec)

end Rows
end Go.Proofs.Ytbechogdijkgjaa
