/-
  NARROWER THAN 'FOR EVERY INPUT', by the rows' own cells (each row's printed sentence says how): FnExactSortOf: loops · FnExactInferVars: loops.
  DERIVED. THE GIVEN ROWS OF THIS SEAT. 7 by the template 'for every input the law returns true; each argument reads behind the call as it read before'; 0 by the template 'total and deterministic' (their statements: YtcmhiindjponcaaTotals.lean).
  GIVEN WITH THE SEED: the statements are not yours to turn. If you find one false, say at which input.
  Laid BY PROGRAM, IN A SANDBOX (cutbox-rows.mjs): the forced cells as the released guide's own fill.sh prints them over the translation 9c3c9e38104f3f4f… (all of the seat's roots in one cut). By AI agents, Wed Nov 11 2026. No macro, syntax, notation, axiom, sorry.
-/
import Derived.Test.YtcmhiindjponcaaChecked
import GoSem.Claim
import GoSem.ClaimJoined
import GoSem.ClaimMapViews
import Derived.JoinedTies
import Derived.KernelRfl
namespace Go.Proofs.Ytcmhiindjponcaa
/- THE CELL 'sum', in the pinned program and in every row, IS THE sha256 OF THE DUMP (.gsa) THAT YtcmhiindjponcaaProg.lean LOADS. Nothing in Lean hashes anything: it is a label: what it is worth is what the hold of that sum in a sandbox is worth. -/
noncomputable def Try.pinned : Pinned := { name := "ytcmhiindjponcaa", sum := "9c3c9e38104f3f4ff649174af2c5306d43d11000193363d20b75877a9edf0f65", checked := Try.checked }
namespace Rows
def none {H : Type} : Left H := { results := [], args := [] }

/-- 'laws.FnSorts': WHATEVER THE INPUT: true; the input reads as it did. -/
def fnSortsSpec : ChangeSpec := { name := "fnSorts", fn := fun _ => fun
  | [d] => { results := [.lit (.bool true)], args := [d] }
  | _ => none }
def fnSortsRow : OpenClaim := { program := "ytcmhiindjponcaa", sum := "9c3c9e38104f3f4ff649174af2c5306d43d11000193363d20b75877a9edf0f65", func := "loop.example/g00517/laws.FnSorts", spec := "fnSorts", unfollowed := true, recurses := true, apart := false }
def FnSortsSaid : Prop := fnSortsRow.holds Try.pinned (OpenSpec.ofChange fnSortsSpec)

/-- ITS FALSE NEIGHBOUR: 'it returns false'. Refute it at one input. -/
def fnSortsWrong : ChangeSpec := { name := "fnSorts", fn := fun _ => fun
  | [d] => { results := [.lit (.bool false)], args := [d] }
  | _ => none }
def FnSortsWrongFalsely : Prop := fnSortsRow.holds Try.pinned (OpenSpec.ofChange fnSortsWrong)

/-- 'laws.FnOps': WHATEVER THE INPUT: true; the input reads as it did. -/
def fnOpsSpec : ChangeSpec := { name := "fnOps", fn := fun _ => fun
  | [d] => { results := [.lit (.bool true)], args := [d] }
  | _ => none }
def fnOpsRow : OpenClaim := { program := "ytcmhiindjponcaa", sum := "9c3c9e38104f3f4ff649174af2c5306d43d11000193363d20b75877a9edf0f65", func := "loop.example/g00517/laws.FnOps", spec := "fnOps", apart := false }
def FnOpsSaid : Prop := fnOpsRow.holds Try.pinned (OpenSpec.ofChange fnOpsSpec)

/-- ITS FALSE NEIGHBOUR: 'it returns false'. Refute it at one input. -/
def fnOpsWrong : ChangeSpec := { name := "fnOps", fn := fun _ => fun
  | [d] => { results := [.lit (.bool false)], args := [d] }
  | _ => none }
def FnOpsWrongFalsely : Prop := fnOpsRow.holds Try.pinned (OpenSpec.ofChange fnOpsWrong)

/-- 'laws.FnExactIsBuiltin': WHATEVER THE INPUT: true; the input reads as it did. -/
def fnExactIsBuiltinSpec : ChangeSpec := { name := "fnExactIsBuiltin", fn := fun _ => fun
  | [d] => { results := [.lit (.bool true)], args := [d] }
  | _ => none }
def fnExactIsBuiltinRow : OpenClaim := { program := "ytcmhiindjponcaa", sum := "9c3c9e38104f3f4ff649174af2c5306d43d11000193363d20b75877a9edf0f65", func := "loop.example/g00517/laws.FnExactIsBuiltin", spec := "fnExactIsBuiltin", apart := false }
def FnExactIsBuiltinSaid : Prop := fnExactIsBuiltinRow.holds Try.pinned (OpenSpec.ofChange fnExactIsBuiltinSpec)

/-- ITS FALSE NEIGHBOUR: 'it returns false'. Refute it at one input. -/
def fnExactIsBuiltinWrong : ChangeSpec := { name := "fnExactIsBuiltin", fn := fun _ => fun
  | [d] => { results := [.lit (.bool false)], args := [d] }
  | _ => none }
def FnExactIsBuiltinWrongFalsely : Prop := fnExactIsBuiltinRow.holds Try.pinned (OpenSpec.ofChange fnExactIsBuiltinWrong)

/-- 'laws.FnExactIsValidSignature': WHATEVER THE INPUT: true; the input reads as it did. -/
def fnExactIsValidSignatureSpec : ChangeSpec := { name := "fnExactIsValidSignature", fn := fun _ => fun
  | [d] => { results := [.lit (.bool true)], args := [d] }
  | _ => none }
def fnExactIsValidSignatureRow : OpenClaim := { program := "ytcmhiindjponcaa", sum := "9c3c9e38104f3f4ff649174af2c5306d43d11000193363d20b75877a9edf0f65", func := "loop.example/g00517/laws.FnExactIsValidSignature", spec := "fnExactIsValidSignature", unfollowed := true, recurses := true, apart := false }
def FnExactIsValidSignatureSaid : Prop := fnExactIsValidSignatureRow.holds Try.pinned (OpenSpec.ofChange fnExactIsValidSignatureSpec)

/-- ITS FALSE NEIGHBOUR: 'it returns false'. Refute it at one input. -/
def fnExactIsValidSignatureWrong : ChangeSpec := { name := "fnExactIsValidSignature", fn := fun _ => fun
  | [d] => { results := [.lit (.bool false)], args := [d] }
  | _ => none }
def FnExactIsValidSignatureWrongFalsely : Prop := fnExactIsValidSignatureRow.holds Try.pinned (OpenSpec.ofChange fnExactIsValidSignatureWrong)

/-- 'laws.FnExactFindOp': WHATEVER THE INPUT: true; the input reads as it did. -/
def fnExactFindOpSpec : ChangeSpec := { name := "fnExactFindOp", fn := fun _ => fun
  | [d1, d2] => { results := [.lit (.bool true)], args := [d1, d2] }
  | _ => none }
def fnExactFindOpRow : OpenClaim := { program := "ytcmhiindjponcaa", sum := "9c3c9e38104f3f4ff649174af2c5306d43d11000193363d20b75877a9edf0f65", func := "loop.example/g00517/laws.FnExactFindOp", spec := "fnExactFindOp", apart := false }
def FnExactFindOpSaid : Prop := fnExactFindOpRow.holds Try.pinned (OpenSpec.ofChange fnExactFindOpSpec)

/-- ITS FALSE NEIGHBOUR: 'it returns false'. Refute it at one input. -/
def fnExactFindOpWrong : ChangeSpec := { name := "fnExactFindOp", fn := fun _ => fun
  | [d1, d2] => { results := [.lit (.bool false)], args := [d1, d2] }
  | _ => none }
def FnExactFindOpWrongFalsely : Prop := fnExactFindOpRow.holds Try.pinned (OpenSpec.ofChange fnExactFindOpWrong)

/-- 'laws.FnExactSortOf': WHATEVER THE INPUT: true; the input reads as it did. -/
def fnExactSortOfSpec : ChangeSpec := { name := "fnExactSortOf", fn := fun _ => fun
  | [d1, d2, d3] => { results := [.lit (.bool true)], args := [d1, d2, d3] }
  | _ => none }
def fnExactSortOfRow : OpenClaim := { program := "ytcmhiindjponcaa", sum := "9c3c9e38104f3f4ff649174af2c5306d43d11000193363d20b75877a9edf0f65", func := "loop.example/g00517/laws.FnExactSortOf", spec := "fnExactSortOf", unfollowed := true, recurses := true, loops := true, apart := false }
def FnExactSortOfSaid : Prop := fnExactSortOfRow.holds Try.pinned (OpenSpec.ofChange fnExactSortOfSpec)

/-- ITS FALSE NEIGHBOUR: 'it returns false'. Refute it at one input. -/
def fnExactSortOfWrong : ChangeSpec := { name := "fnExactSortOf", fn := fun _ => fun
  | [d1, d2, d3] => { results := [.lit (.bool false)], args := [d1, d2, d3] }
  | _ => none }
def FnExactSortOfWrongFalsely : Prop := fnExactSortOfRow.holds Try.pinned (OpenSpec.ofChange fnExactSortOfWrong)

/-- 'laws.FnExactInferVars': WHATEVER THE INPUT: true; the input reads as it did. -/
def fnExactInferVarsSpec : ChangeSpec := { name := "fnExactInferVars", fn := fun _ => fun
  | [d1, d2, d3] => { results := [.lit (.bool true)], args := [d1, d2, d3] }
  | _ => none }
def fnExactInferVarsRow : OpenClaim := { program := "ytcmhiindjponcaa", sum := "9c3c9e38104f3f4ff649174af2c5306d43d11000193363d20b75877a9edf0f65", func := "loop.example/g00517/laws.FnExactInferVars", spec := "fnExactInferVars", unfollowed := true, recurses := true, loops := true, apart := false }
def FnExactInferVarsSaid : Prop := fnExactInferVarsRow.holds Try.pinned (OpenSpec.ofChange fnExactInferVarsSpec)

/-- ITS FALSE NEIGHBOUR: 'it returns false'. Refute it at one input. -/
def fnExactInferVarsWrong : ChangeSpec := { name := "fnExactInferVars", fn := fun _ => fun
  | [d1, d2, d3] => { results := [.lit (.bool false)], args := [d1, d2, d3] }
  | _ => none }
def FnExactInferVarsWrongFalsely : Prop := fnExactInferVarsRow.holds Try.pinned (OpenSpec.ofChange fnExactInferVarsWrong)

/- THE SECOND FORM. 'bulk': how many values and letters a reading holds, each counted each time it is reached (what is shared counts as often as it is met; a slice's spare places count too). A statement '..UptoSaid' is the law's where the arguments, and the package variables that the reading takes, are together of bulk at most 1048576: NARROWER than '..Said'. Prove '..Said' where nothing that the law and all that it calls make is longer than what came in: it says more and counts as full. Else prove '..UptoSaid'. A law counts once. -/
mutual
def uptoBulk {H : Type} : DataW H → Nat
  | .lit (.string bytes) => bytes.length + 1
  | .lit _ => 1
  | .nil => 1
  | .ptr d => uptoBulk d + 1
  | .slice elems spare => uptoBulkAll elems + uptoBulkAll spare + 1
  | .agg parts => uptoBulkAll parts + 1
  | .iface _ d => uptoBulk d + 1
  | .map entries => uptoBulkEntries entries + 1
  | .held _ => 1
def uptoBulkAll {H : Type} : List (DataW H) → Nat
  | [] => 0
  | d :: r => uptoBulk d + uptoBulkAll r
def uptoBulkEntries {H : Type} : List (Lit × DataW H) → Nat
  | [] => 0
  | x :: r => uptoBulkEntry x + uptoBulkEntries r
def uptoBulkEntry {H : Type} : Lit × DataW H → Nat
  | (.string bytes, d) => bytes.length + uptoBulk d + 1
  | (_, d) => uptoBulk d + 1
 end
def uptoSmall : (H : Type) → List (DataW H) → Bool := fun _ ds => decide (uptoBulkAll ds ≤ 1048576)
def OpenSpec.upto (s : _root_.Go.ChangeSpec) : _root_.Go.OpenSpec := { _root_.Go.OpenSpec.ofChange s with cond := some uptoSmall }

/-- 'laws.FnSorts', WHERE WHAT IT READS IS OF BULK AT MOST 1048576: true; the input reads as it did. -/
def fnSortsUptoRow : OpenClaim := { program := "ytcmhiindjponcaa", sum := "9c3c9e38104f3f4ff649174af2c5306d43d11000193363d20b75877a9edf0f65", func := "loop.example/g00517/laws.FnSorts", spec := "fnSorts", unfollowed := true, recurses := true, apart := false, narrowed := true }
def FnSortsUptoSaid : Prop := fnSortsUptoRow.holds Try.pinned (OpenSpec.upto fnSortsSpec)

/-- 'laws.FnOps', WHERE WHAT IT READS IS OF BULK AT MOST 1048576: true; the input reads as it did. -/
def fnOpsUptoRow : OpenClaim := { program := "ytcmhiindjponcaa", sum := "9c3c9e38104f3f4ff649174af2c5306d43d11000193363d20b75877a9edf0f65", func := "loop.example/g00517/laws.FnOps", spec := "fnOps", apart := false, narrowed := true }
def FnOpsUptoSaid : Prop := fnOpsUptoRow.holds Try.pinned (OpenSpec.upto fnOpsSpec)

/-- 'laws.FnExactIsBuiltin', WHERE WHAT IT READS IS OF BULK AT MOST 1048576: true; the input reads as it did. -/
def fnExactIsBuiltinUptoRow : OpenClaim := { program := "ytcmhiindjponcaa", sum := "9c3c9e38104f3f4ff649174af2c5306d43d11000193363d20b75877a9edf0f65", func := "loop.example/g00517/laws.FnExactIsBuiltin", spec := "fnExactIsBuiltin", apart := false, narrowed := true }
def FnExactIsBuiltinUptoSaid : Prop := fnExactIsBuiltinUptoRow.holds Try.pinned (OpenSpec.upto fnExactIsBuiltinSpec)

/-- 'laws.FnExactIsValidSignature', WHERE WHAT IT READS IS OF BULK AT MOST 1048576: true; the input reads as it did. -/
def fnExactIsValidSignatureUptoRow : OpenClaim := { program := "ytcmhiindjponcaa", sum := "9c3c9e38104f3f4ff649174af2c5306d43d11000193363d20b75877a9edf0f65", func := "loop.example/g00517/laws.FnExactIsValidSignature", spec := "fnExactIsValidSignature", unfollowed := true, recurses := true, apart := false, narrowed := true }
def FnExactIsValidSignatureUptoSaid : Prop := fnExactIsValidSignatureUptoRow.holds Try.pinned (OpenSpec.upto fnExactIsValidSignatureSpec)

/-- 'laws.FnExactFindOp', WHERE WHAT IT READS IS OF BULK AT MOST 1048576: true; the input reads as it did. -/
def fnExactFindOpUptoRow : OpenClaim := { program := "ytcmhiindjponcaa", sum := "9c3c9e38104f3f4ff649174af2c5306d43d11000193363d20b75877a9edf0f65", func := "loop.example/g00517/laws.FnExactFindOp", spec := "fnExactFindOp", apart := false, narrowed := true }
def FnExactFindOpUptoSaid : Prop := fnExactFindOpUptoRow.holds Try.pinned (OpenSpec.upto fnExactFindOpSpec)

/-- 'laws.FnExactSortOf', WHERE WHAT IT READS IS OF BULK AT MOST 1048576: true; the input reads as it did. -/
def fnExactSortOfUptoRow : OpenClaim := { program := "ytcmhiindjponcaa", sum := "9c3c9e38104f3f4ff649174af2c5306d43d11000193363d20b75877a9edf0f65", func := "loop.example/g00517/laws.FnExactSortOf", spec := "fnExactSortOf", unfollowed := true, recurses := true, loops := true, apart := false, narrowed := true }
def FnExactSortOfUptoSaid : Prop := fnExactSortOfUptoRow.holds Try.pinned (OpenSpec.upto fnExactSortOfSpec)

/-- 'laws.FnExactInferVars', WHERE WHAT IT READS IS OF BULK AT MOST 1048576: true; the input reads as it did. -/
def fnExactInferVarsUptoRow : OpenClaim := { program := "ytcmhiindjponcaa", sum := "9c3c9e38104f3f4ff649174af2c5306d43d11000193363d20b75877a9edf0f65", func := "loop.example/g00517/laws.FnExactInferVars", spec := "fnExactInferVars", unfollowed := true, recurses := true, loops := true, apart := false, narrowed := true }
def FnExactInferVarsUptoSaid : Prop := fnExactInferVarsUptoRow.holds Try.pinned (OpenSpec.upto fnExactInferVarsSpec)

end Rows
end Go.Proofs.Ytcmhiindjponcaa
