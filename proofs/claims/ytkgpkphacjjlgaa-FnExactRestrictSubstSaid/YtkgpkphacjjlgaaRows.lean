/-
  NARROWER THAN 'FOR EVERY INPUT', by the rows' own cells (each row's printed sentence says how): FnExactSortOf: loops · FnExactFindBind: loops · FnExactApplySubst: loops · FnExactComposeSubst: loops · FnExactRestrictSubst: loops · FnExactSameSubst: loops · FnExactRenameVars: loops.
  DERIVED. THE GIVEN ROWS OF THIS SEAT. 8 by the template 'for every input the law returns true; each argument reads behind the call as it read before'; 0 by the template 'total and deterministic' (their statements: YtkgpkphacjjlgaaTotals.lean).
  GIVEN WITH THE SEED: the statements are not yours to turn. If you find one false, say at which input.
  Laid BY PROGRAM, IN A SANDBOX (cutbox-rows.mjs): the forced cells as the released guide's own fill.sh prints them over the translation f0995808720e74a8… (all of the seat's roots in one cut). By AI agents, Wed Nov 11 2026. No macro, syntax, notation, axiom, sorry.
-/
import Derived.Test.YtkgpkphacjjlgaaChecked
import GoSem.Claim
import GoSem.ClaimJoined
import GoSem.ClaimMapViews
import Derived.JoinedTies
import Derived.KernelRfl
namespace Go.Proofs.Ytkgpkphacjjlgaa
/- THE CELL 'sum', in the pinned program and in every row, IS THE sha256 OF THE DUMP (.gsa) THAT YtkgpkphacjjlgaaProg.lean LOADS. Nothing in Lean hashes anything: it is a label: what it is worth is what the hold of that sum in a sandbox is worth. -/
noncomputable def Try.pinned : Pinned := { name := "ytkgpkphacjjlgaa", sum := "f0995808720e74a89ff0ec0009a5dcb0f7009c0ec1883346eca38b805b1af8c2", checked := Try.checked }
namespace Rows
def none {H : Type} : Left H := { results := [], args := [] }

/-- 'laws.FnSubst': WHATEVER THE INPUT: true; the input reads as it did. -/
def fnSubstSpec : ChangeSpec := { name := "fnSubst", fn := fun _ => fun
  | [d] => { results := [.lit (.bool true)], args := [d] }
  | _ => none }
def fnSubstRow : OpenClaim := { program := "ytkgpkphacjjlgaa", sum := "f0995808720e74a89ff0ec0009a5dcb0f7009c0ec1883346eca38b805b1af8c2", func := "loop.example/g00517/laws.FnSubst", spec := "fnSubst", inPlace := ["internal/bytealg.abigen_runtime_cmpstring"], unfollowed := true, recurses := true, apart := false }
def FnSubstSaid : Prop := fnSubstRow.holds Try.pinned (OpenSpec.ofChange fnSubstSpec)

/-- ITS FALSE NEIGHBOUR: 'it returns false'. Refute it at one input. -/
def fnSubstWrong : ChangeSpec := { name := "fnSubst", fn := fun _ => fun
  | [d] => { results := [.lit (.bool false)], args := [d] }
  | _ => none }
def FnSubstWrongFalsely : Prop := fnSubstRow.holds Try.pinned (OpenSpec.ofChange fnSubstWrong)

/-- 'laws.FnExactSortOf': WHATEVER THE INPUT: true; the input reads as it did. -/
def fnExactSortOfSpec : ChangeSpec := { name := "fnExactSortOf", fn := fun _ => fun
  | [d1, d2, d3] => { results := [.lit (.bool true)], args := [d1, d2, d3] }
  | _ => none }
def fnExactSortOfRow : OpenClaim := { program := "ytkgpkphacjjlgaa", sum := "f0995808720e74a89ff0ec0009a5dcb0f7009c0ec1883346eca38b805b1af8c2", func := "loop.example/g00517/laws.FnExactSortOf", spec := "fnExactSortOf", unfollowed := true, recurses := true, loops := true, apart := false }
def FnExactSortOfSaid : Prop := fnExactSortOfRow.holds Try.pinned (OpenSpec.ofChange fnExactSortOfSpec)

/-- ITS FALSE NEIGHBOUR: 'it returns false'. Refute it at one input. -/
def fnExactSortOfWrong : ChangeSpec := { name := "fnExactSortOf", fn := fun _ => fun
  | [d1, d2, d3] => { results := [.lit (.bool false)], args := [d1, d2, d3] }
  | _ => none }
def FnExactSortOfWrongFalsely : Prop := fnExactSortOfRow.holds Try.pinned (OpenSpec.ofChange fnExactSortOfWrong)

/-- 'laws.FnExactFindBind': WHATEVER THE INPUT: true; the input reads as it did. -/
def fnExactFindBindSpec : ChangeSpec := { name := "fnExactFindBind", fn := fun _ => fun
  | [d1, d2] => { results := [.lit (.bool true)], args := [d1, d2] }
  | _ => none }
def fnExactFindBindRow : OpenClaim := { program := "ytkgpkphacjjlgaa", sum := "f0995808720e74a89ff0ec0009a5dcb0f7009c0ec1883346eca38b805b1af8c2", func := "loop.example/g00517/laws.FnExactFindBind", spec := "fnExactFindBind", recurses := true, loops := true, apart := false }
def FnExactFindBindSaid : Prop := fnExactFindBindRow.holds Try.pinned (OpenSpec.ofChange fnExactFindBindSpec)

/-- ITS FALSE NEIGHBOUR: 'it returns false'. Refute it at one input. -/
def fnExactFindBindWrong : ChangeSpec := { name := "fnExactFindBind", fn := fun _ => fun
  | [d1, d2] => { results := [.lit (.bool false)], args := [d1, d2] }
  | _ => none }
def FnExactFindBindWrongFalsely : Prop := fnExactFindBindRow.holds Try.pinned (OpenSpec.ofChange fnExactFindBindWrong)

/-- 'laws.FnExactApplySubst': WHATEVER THE INPUT: true; the input reads as it did. -/
def fnExactApplySubstSpec : ChangeSpec := { name := "fnExactApplySubst", fn := fun _ => fun
  | [d1, d2] => { results := [.lit (.bool true)], args := [d1, d2] }
  | _ => none }
def fnExactApplySubstRow : OpenClaim := { program := "ytkgpkphacjjlgaa", sum := "f0995808720e74a89ff0ec0009a5dcb0f7009c0ec1883346eca38b805b1af8c2", func := "loop.example/g00517/laws.FnExactApplySubst", spec := "fnExactApplySubst", unfollowed := true, recurses := true, loops := true, apart := false }
def FnExactApplySubstSaid : Prop := fnExactApplySubstRow.holds Try.pinned (OpenSpec.ofChange fnExactApplySubstSpec)

/-- ITS FALSE NEIGHBOUR: 'it returns false'. Refute it at one input. -/
def fnExactApplySubstWrong : ChangeSpec := { name := "fnExactApplySubst", fn := fun _ => fun
  | [d1, d2] => { results := [.lit (.bool false)], args := [d1, d2] }
  | _ => none }
def FnExactApplySubstWrongFalsely : Prop := fnExactApplySubstRow.holds Try.pinned (OpenSpec.ofChange fnExactApplySubstWrong)

/-- 'laws.FnExactComposeSubst': WHATEVER THE INPUT: true; the input reads as it did. -/
def fnExactComposeSubstSpec : ChangeSpec := { name := "fnExactComposeSubst", fn := fun _ => fun
  | [d1, d2] => { results := [.lit (.bool true)], args := [d1, d2] }
  | _ => none }
def fnExactComposeSubstRow : OpenClaim := { program := "ytkgpkphacjjlgaa", sum := "f0995808720e74a89ff0ec0009a5dcb0f7009c0ec1883346eca38b805b1af8c2", func := "loop.example/g00517/laws.FnExactComposeSubst", spec := "fnExactComposeSubst", unfollowed := true, recurses := true, loops := true, apart := false }
def FnExactComposeSubstSaid : Prop := fnExactComposeSubstRow.holds Try.pinned (OpenSpec.ofChange fnExactComposeSubstSpec)

/-- ITS FALSE NEIGHBOUR: 'it returns false'. Refute it at one input. -/
def fnExactComposeSubstWrong : ChangeSpec := { name := "fnExactComposeSubst", fn := fun _ => fun
  | [d1, d2] => { results := [.lit (.bool false)], args := [d1, d2] }
  | _ => none }
def FnExactComposeSubstWrongFalsely : Prop := fnExactComposeSubstRow.holds Try.pinned (OpenSpec.ofChange fnExactComposeSubstWrong)

/-- 'laws.FnExactRestrictSubst': WHATEVER THE INPUT: true; the input reads as it did. -/
def fnExactRestrictSubstSpec : ChangeSpec := { name := "fnExactRestrictSubst", fn := fun _ => fun
  | [d1, d2] => { results := [.lit (.bool true)], args := [d1, d2] }
  | _ => none }
def fnExactRestrictSubstRow : OpenClaim := { program := "ytkgpkphacjjlgaa", sum := "f0995808720e74a89ff0ec0009a5dcb0f7009c0ec1883346eca38b805b1af8c2", func := "loop.example/g00517/laws.FnExactRestrictSubst", spec := "fnExactRestrictSubst", unfollowed := true, recurses := true, loops := true, apart := false }
def FnExactRestrictSubstSaid : Prop := fnExactRestrictSubstRow.holds Try.pinned (OpenSpec.ofChange fnExactRestrictSubstSpec)

/-- ITS FALSE NEIGHBOUR: 'it returns false'. Refute it at one input. -/
def fnExactRestrictSubstWrong : ChangeSpec := { name := "fnExactRestrictSubst", fn := fun _ => fun
  | [d1, d2] => { results := [.lit (.bool false)], args := [d1, d2] }
  | _ => none }
def FnExactRestrictSubstWrongFalsely : Prop := fnExactRestrictSubstRow.holds Try.pinned (OpenSpec.ofChange fnExactRestrictSubstWrong)

/-- 'laws.FnExactSameSubst': WHATEVER THE INPUT: true; the input reads as it did. -/
def fnExactSameSubstSpec : ChangeSpec := { name := "fnExactSameSubst", fn := fun _ => fun
  | [d1, d2] => { results := [.lit (.bool true)], args := [d1, d2] }
  | _ => none }
def fnExactSameSubstRow : OpenClaim := { program := "ytkgpkphacjjlgaa", sum := "f0995808720e74a89ff0ec0009a5dcb0f7009c0ec1883346eca38b805b1af8c2", func := "loop.example/g00517/laws.FnExactSameSubst", spec := "fnExactSameSubst", inPlace := ["internal/bytealg.abigen_runtime_cmpstring"], unfollowed := true, recurses := true, loops := true, apart := false }
def FnExactSameSubstSaid : Prop := fnExactSameSubstRow.holds Try.pinned (OpenSpec.ofChange fnExactSameSubstSpec)

/-- ITS FALSE NEIGHBOUR: 'it returns false'. Refute it at one input. -/
def fnExactSameSubstWrong : ChangeSpec := { name := "fnExactSameSubst", fn := fun _ => fun
  | [d1, d2] => { results := [.lit (.bool false)], args := [d1, d2] }
  | _ => none }
def FnExactSameSubstWrongFalsely : Prop := fnExactSameSubstRow.holds Try.pinned (OpenSpec.ofChange fnExactSameSubstWrong)

/-- 'laws.FnExactRenameVars': WHATEVER THE INPUT: true; the input reads as it did. -/
def fnExactRenameVarsSpec : ChangeSpec := { name := "fnExactRenameVars", fn := fun _ => fun
  | [d1, d2] => { results := [.lit (.bool true)], args := [d1, d2] }
  | _ => none }
def fnExactRenameVarsRow : OpenClaim := { program := "ytkgpkphacjjlgaa", sum := "f0995808720e74a89ff0ec0009a5dcb0f7009c0ec1883346eca38b805b1af8c2", func := "loop.example/g00517/laws.FnExactRenameVars", spec := "fnExactRenameVars", unfollowed := true, recurses := true, loops := true, apart := false }
def FnExactRenameVarsSaid : Prop := fnExactRenameVarsRow.holds Try.pinned (OpenSpec.ofChange fnExactRenameVarsSpec)

/-- ITS FALSE NEIGHBOUR: 'it returns false'. Refute it at one input. -/
def fnExactRenameVarsWrong : ChangeSpec := { name := "fnExactRenameVars", fn := fun _ => fun
  | [d1, d2] => { results := [.lit (.bool false)], args := [d1, d2] }
  | _ => none }
def FnExactRenameVarsWrongFalsely : Prop := fnExactRenameVarsRow.holds Try.pinned (OpenSpec.ofChange fnExactRenameVarsWrong)

/- THE SECOND FORM. 'bulk': how many values and letters a reading holds, each counted each time it is reached (what is shared counts as often as it is met; a slice's spare places count too). A statement '..UptoSaid' is the law's where the arguments, and the package variables that the reading takes, are together of bulk at most 1048576: NARROWER than '..Said'. Prove '..Said' where nothing that the law and all that it calls make is longer than what came in: it says more and counts as full. Else prove '..UptoSaid'. A law counts once. -/
mutual
def uptoBulk {H : Type} : DataW H → Nat
  | .lit (.string bytes) => bytes.length + 1
  | .lit _ => 1
  | .nil => 1
  | .ptr d => uptoBulk d + 1
  | .slice elems spare => uptoBulkAll elems + uptoBulkAll spare + 1
  | .agg parts => uptoBulkAll parts + 1
  | .iface _ d => uptoBulk d + 1
  | .map entries => uptoBulkEntries entries + 1
  | .held _ => 1
def uptoBulkAll {H : Type} : List (DataW H) → Nat
  | [] => 0
  | d :: r => uptoBulk d + uptoBulkAll r
def uptoBulkEntries {H : Type} : List (Lit × DataW H) → Nat
  | [] => 0
  | x :: r => uptoBulkEntry x + uptoBulkEntries r
def uptoBulkEntry {H : Type} : Lit × DataW H → Nat
  | (.string bytes, d) => bytes.length + uptoBulk d + 1
  | (_, d) => uptoBulk d + 1
 end
def uptoSmall : (H : Type) → List (DataW H) → Bool := fun _ ds => decide (uptoBulkAll ds ≤ 1048576)
def OpenSpec.upto (s : _root_.Go.ChangeSpec) : _root_.Go.OpenSpec := { _root_.Go.OpenSpec.ofChange s with cond := some uptoSmall }

/-- 'laws.FnSubst', WHERE WHAT IT READS IS OF BULK AT MOST 1048576: true; the input reads as it did. -/
def fnSubstUptoRow : OpenClaim := { program := "ytkgpkphacjjlgaa", sum := "f0995808720e74a89ff0ec0009a5dcb0f7009c0ec1883346eca38b805b1af8c2", func := "loop.example/g00517/laws.FnSubst", spec := "fnSubst", inPlace := ["internal/bytealg.abigen_runtime_cmpstring"], unfollowed := true, recurses := true, apart := false, narrowed := true }
def FnSubstUptoSaid : Prop := fnSubstUptoRow.holds Try.pinned (OpenSpec.upto fnSubstSpec)

/-- 'laws.FnExactSortOf', WHERE WHAT IT READS IS OF BULK AT MOST 1048576: true; the input reads as it did. -/
def fnExactSortOfUptoRow : OpenClaim := { program := "ytkgpkphacjjlgaa", sum := "f0995808720e74a89ff0ec0009a5dcb0f7009c0ec1883346eca38b805b1af8c2", func := "loop.example/g00517/laws.FnExactSortOf", spec := "fnExactSortOf", unfollowed := true, recurses := true, loops := true, apart := false, narrowed := true }
def FnExactSortOfUptoSaid : Prop := fnExactSortOfUptoRow.holds Try.pinned (OpenSpec.upto fnExactSortOfSpec)

/-- 'laws.FnExactFindBind', WHERE WHAT IT READS IS OF BULK AT MOST 1048576: true; the input reads as it did. -/
def fnExactFindBindUptoRow : OpenClaim := { program := "ytkgpkphacjjlgaa", sum := "f0995808720e74a89ff0ec0009a5dcb0f7009c0ec1883346eca38b805b1af8c2", func := "loop.example/g00517/laws.FnExactFindBind", spec := "fnExactFindBind", recurses := true, loops := true, apart := false, narrowed := true }
def FnExactFindBindUptoSaid : Prop := fnExactFindBindUptoRow.holds Try.pinned (OpenSpec.upto fnExactFindBindSpec)

/-- 'laws.FnExactApplySubst', WHERE WHAT IT READS IS OF BULK AT MOST 1048576: true; the input reads as it did. -/
def fnExactApplySubstUptoRow : OpenClaim := { program := "ytkgpkphacjjlgaa", sum := "f0995808720e74a89ff0ec0009a5dcb0f7009c0ec1883346eca38b805b1af8c2", func := "loop.example/g00517/laws.FnExactApplySubst", spec := "fnExactApplySubst", unfollowed := true, recurses := true, loops := true, apart := false, narrowed := true }
def FnExactApplySubstUptoSaid : Prop := fnExactApplySubstUptoRow.holds Try.pinned (OpenSpec.upto fnExactApplySubstSpec)

/-- 'laws.FnExactComposeSubst', WHERE WHAT IT READS IS OF BULK AT MOST 1048576: true; the input reads as it did. -/
def fnExactComposeSubstUptoRow : OpenClaim := { program := "ytkgpkphacjjlgaa", sum := "f0995808720e74a89ff0ec0009a5dcb0f7009c0ec1883346eca38b805b1af8c2", func := "loop.example/g00517/laws.FnExactComposeSubst", spec := "fnExactComposeSubst", unfollowed := true, recurses := true, loops := true, apart := false, narrowed := true }
def FnExactComposeSubstUptoSaid : Prop := fnExactComposeSubstUptoRow.holds Try.pinned (OpenSpec.upto fnExactComposeSubstSpec)

/-- 'laws.FnExactRestrictSubst', WHERE WHAT IT READS IS OF BULK AT MOST 1048576: true; the input reads as it did. -/
def fnExactRestrictSubstUptoRow : OpenClaim := { program := "ytkgpkphacjjlgaa", sum := "f0995808720e74a89ff0ec0009a5dcb0f7009c0ec1883346eca38b805b1af8c2", func := "loop.example/g00517/laws.FnExactRestrictSubst", spec := "fnExactRestrictSubst", unfollowed := true, recurses := true, loops := true, apart := false, narrowed := true }
def FnExactRestrictSubstUptoSaid : Prop := fnExactRestrictSubstUptoRow.holds Try.pinned (OpenSpec.upto fnExactRestrictSubstSpec)

/-- 'laws.FnExactSameSubst', WHERE WHAT IT READS IS OF BULK AT MOST 1048576: true; the input reads as it did. -/
def fnExactSameSubstUptoRow : OpenClaim := { program := "ytkgpkphacjjlgaa", sum := "f0995808720e74a89ff0ec0009a5dcb0f7009c0ec1883346eca38b805b1af8c2", func := "loop.example/g00517/laws.FnExactSameSubst", spec := "fnExactSameSubst", inPlace := ["internal/bytealg.abigen_runtime_cmpstring"], unfollowed := true, recurses := true, loops := true, apart := false, narrowed := true }
def FnExactSameSubstUptoSaid : Prop := fnExactSameSubstUptoRow.holds Try.pinned (OpenSpec.upto fnExactSameSubstSpec)

/-- 'laws.FnExactRenameVars', WHERE WHAT IT READS IS OF BULK AT MOST 1048576: true; the input reads as it did. -/
def fnExactRenameVarsUptoRow : OpenClaim := { program := "ytkgpkphacjjlgaa", sum := "f0995808720e74a89ff0ec0009a5dcb0f7009c0ec1883346eca38b805b1af8c2", func := "loop.example/g00517/laws.FnExactRenameVars", spec := "fnExactRenameVars", unfollowed := true, recurses := true, loops := true, apart := false, narrowed := true }
def FnExactRenameVarsUptoSaid : Prop := fnExactRenameVarsUptoRow.holds Try.pinned (OpenSpec.upto fnExactRenameVarsSpec)

end Rows
end Go.Proofs.Ytkgpkphacjjlgaa
