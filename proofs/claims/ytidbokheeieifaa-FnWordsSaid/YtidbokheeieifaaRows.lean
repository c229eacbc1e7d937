/-
  NARROWER THAN 'FOR EVERY INPUT', by the rows' own cells (each row's printed sentence says how): FnExactSortOf: loops · FnExactUnifyTerms: loops · FnExactReduceWords: loops · FnExactHoldsGuard: loops · FnExactApplyToGuard: loops · FnExactEqualGuard: loops.
  DERIVED. THE GIVEN ROWS OF THIS SEAT. 7 by the template 'for every input the law returns true; each argument reads behind the call as it read before'; 0 by the template 'total and deterministic' (their statements: YtidbokheeieifaaTotals.lean).
  GIVEN WITH THE SEED: the statements are not yours to turn. If you find one false, say at which input.
  Laid BY PROGRAM, IN A SANDBOX (cutbox-rows.mjs): the forced cells as the released guide's own fill.sh prints them over the translation 6c19afa0be1979cc… (all of the seat's roots in one cut). By AI agents, Wed Nov 11 2026. No macro, syntax, notation, axiom, sorry.
-/
import Derived.Test.YtidbokheeieifaaChecked
import GoSem.Claim
import GoSem.ClaimJoined
import GoSem.ClaimMapViews
import Derived.JoinedTies
import Derived.KernelRfl
namespace Go.Proofs.Ytidbokheeieifaa
/- THE CELL 'sum', in the pinned program and in every row, IS THE sha256 OF THE DUMP (.gsa) THAT YtidbokheeieifaaProg.lean LOADS. Nothing in Lean hashes anything: it is a label: what it is worth is what the hold of that sum in a sandbox is worth. -/
noncomputable def Try.pinned : Pinned := { name := "ytidbokheeieifaa", sum := "6c19afa0be1979cc9c64a9a4f56251a6ee37ef1fd5dce7e39943ad5a295670d6", checked := Try.checked }
namespace Rows
def none {H : Type} : Left H := { results := [], args := [] }

/-- 'laws.FnWords': WHATEVER THE INPUT: true; the input reads as it did. -/
def fnWordsSpec : ChangeSpec := { name := "fnWords", fn := fun _ => fun
  | [d] => { results := [.lit (.bool true)], args := [d] }
  | _ => none }
def fnWordsRow : OpenClaim := { program := "ytidbokheeieifaa", sum := "6c19afa0be1979cc9c64a9a4f56251a6ee37ef1fd5dce7e39943ad5a295670d6", func := "loop.example/g00517/laws.FnWords", spec := "fnWords", inPlace := ["internal/bytealg.abigen_runtime_cmpstring"], unfollowed := true, recurses := true, apart := false }
def FnWordsSaid : Prop := fnWordsRow.holds Try.pinned (OpenSpec.ofChange fnWordsSpec)

/-- ITS FALSE NEIGHBOUR: 'it returns false'. Refute it at one input. -/
def fnWordsWrong : ChangeSpec := { name := "fnWords", fn := fun _ => fun
  | [d] => { results := [.lit (.bool false)], args := [d] }
  | _ => none }
def FnWordsWrongFalsely : Prop := fnWordsRow.holds Try.pinned (OpenSpec.ofChange fnWordsWrong)

/-- 'laws.FnExactSortOf': WHATEVER THE INPUT: true; the input reads as it did. -/
def fnExactSortOfSpec : ChangeSpec := { name := "fnExactSortOf", fn := fun _ => fun
  | [d1, d2, d3] => { results := [.lit (.bool true)], args := [d1, d2, d3] }
  | _ => none }
def fnExactSortOfRow : OpenClaim := { program := "ytidbokheeieifaa", sum := "6c19afa0be1979cc9c64a9a4f56251a6ee37ef1fd5dce7e39943ad5a295670d6", func := "loop.example/g00517/laws.FnExactSortOf", spec := "fnExactSortOf", unfollowed := true, recurses := true, loops := true, apart := false }
def FnExactSortOfSaid : Prop := fnExactSortOfRow.holds Try.pinned (OpenSpec.ofChange fnExactSortOfSpec)

/-- ITS FALSE NEIGHBOUR: 'it returns false'. Refute it at one input. -/
def fnExactSortOfWrong : ChangeSpec := { name := "fnExactSortOf", fn := fun _ => fun
  | [d1, d2, d3] => { results := [.lit (.bool false)], args := [d1, d2, d3] }
  | _ => none }
def FnExactSortOfWrongFalsely : Prop := fnExactSortOfRow.holds Try.pinned (OpenSpec.ofChange fnExactSortOfWrong)

/-- 'laws.FnExactUnifyTerms': WHATEVER THE INPUT: true; the input reads as it did. -/
def fnExactUnifyTermsSpec : ChangeSpec := { name := "fnExactUnifyTerms", fn := fun _ => fun
  | [d1, d2] => { results := [.lit (.bool true)], args := [d1, d2] }
  | _ => none }
def fnExactUnifyTermsRow : OpenClaim := { program := "ytidbokheeieifaa", sum := "6c19afa0be1979cc9c64a9a4f56251a6ee37ef1fd5dce7e39943ad5a295670d6", func := "loop.example/g00517/laws.FnExactUnifyTerms", spec := "fnExactUnifyTerms", inPlace := ["internal/bytealg.abigen_runtime_cmpstring"], unfollowed := true, recurses := true, loops := true, apart := false }
def FnExactUnifyTermsSaid : Prop := fnExactUnifyTermsRow.holds Try.pinned (OpenSpec.ofChange fnExactUnifyTermsSpec)

/-- ITS FALSE NEIGHBOUR: 'it returns false'. Refute it at one input. -/
def fnExactUnifyTermsWrong : ChangeSpec := { name := "fnExactUnifyTerms", fn := fun _ => fun
  | [d1, d2] => { results := [.lit (.bool false)], args := [d1, d2] }
  | _ => none }
def FnExactUnifyTermsWrongFalsely : Prop := fnExactUnifyTermsRow.holds Try.pinned (OpenSpec.ofChange fnExactUnifyTermsWrong)

/-- 'laws.FnExactReduceWords': WHATEVER THE INPUT: true; the input reads as it did. -/
def fnExactReduceWordsSpec : ChangeSpec := { name := "fnExactReduceWords", fn := fun _ => fun
  | [d] => { results := [.lit (.bool true)], args := [d] }
  | _ => none }
def fnExactReduceWordsRow : OpenClaim := { program := "ytidbokheeieifaa", sum := "6c19afa0be1979cc9c64a9a4f56251a6ee37ef1fd5dce7e39943ad5a295670d6", func := "loop.example/g00517/laws.FnExactReduceWords", spec := "fnExactReduceWords", unfollowed := true, recurses := true, loops := true, apart := false }
def FnExactReduceWordsSaid : Prop := fnExactReduceWordsRow.holds Try.pinned (OpenSpec.ofChange fnExactReduceWordsSpec)

/-- ITS FALSE NEIGHBOUR: 'it returns false'. Refute it at one input. -/
def fnExactReduceWordsWrong : ChangeSpec := { name := "fnExactReduceWords", fn := fun _ => fun
  | [d] => { results := [.lit (.bool false)], args := [d] }
  | _ => none }
def FnExactReduceWordsWrongFalsely : Prop := fnExactReduceWordsRow.holds Try.pinned (OpenSpec.ofChange fnExactReduceWordsWrong)

/-- 'laws.FnExactHoldsGuard': WHATEVER THE INPUT: true; the input reads as it did. -/
def fnExactHoldsGuardSpec : ChangeSpec := { name := "fnExactHoldsGuard", fn := fun _ => fun
  | [d] => { results := [.lit (.bool true)], args := [d] }
  | _ => none }
def fnExactHoldsGuardRow : OpenClaim := { program := "ytidbokheeieifaa", sum := "6c19afa0be1979cc9c64a9a4f56251a6ee37ef1fd5dce7e39943ad5a295670d6", func := "loop.example/g00517/laws.FnExactHoldsGuard", spec := "fnExactHoldsGuard", inPlace := ["internal/bytealg.abigen_runtime_cmpstring"], unfollowed := true, recurses := true, loops := true, apart := false }
def FnExactHoldsGuardSaid : Prop := fnExactHoldsGuardRow.holds Try.pinned (OpenSpec.ofChange fnExactHoldsGuardSpec)

/-- ITS FALSE NEIGHBOUR: 'it returns false'. Refute it at one input. -/
def fnExactHoldsGuardWrong : ChangeSpec := { name := "fnExactHoldsGuard", fn := fun _ => fun
  | [d] => { results := [.lit (.bool false)], args := [d] }
  | _ => none }
def FnExactHoldsGuardWrongFalsely : Prop := fnExactHoldsGuardRow.holds Try.pinned (OpenSpec.ofChange fnExactHoldsGuardWrong)

/-- 'laws.FnExactApplyToGuard': WHATEVER THE INPUT: true; the input reads as it did. -/
def fnExactApplyToGuardSpec : ChangeSpec := { name := "fnExactApplyToGuard", fn := fun _ => fun
  | [d1, d2] => { results := [.lit (.bool true)], args := [d1, d2] }
  | _ => none }
def fnExactApplyToGuardRow : OpenClaim := { program := "ytidbokheeieifaa", sum := "6c19afa0be1979cc9c64a9a4f56251a6ee37ef1fd5dce7e39943ad5a295670d6", func := "loop.example/g00517/laws.FnExactApplyToGuard", spec := "fnExactApplyToGuard", unfollowed := true, recurses := true, loops := true, apart := false }
def FnExactApplyToGuardSaid : Prop := fnExactApplyToGuardRow.holds Try.pinned (OpenSpec.ofChange fnExactApplyToGuardSpec)

/-- ITS FALSE NEIGHBOUR: 'it returns false'. Refute it at one input. -/
def fnExactApplyToGuardWrong : ChangeSpec := { name := "fnExactApplyToGuard", fn := fun _ => fun
  | [d1, d2] => { results := [.lit (.bool false)], args := [d1, d2] }
  | _ => none }
def FnExactApplyToGuardWrongFalsely : Prop := fnExactApplyToGuardRow.holds Try.pinned (OpenSpec.ofChange fnExactApplyToGuardWrong)

/-- 'laws.FnExactEqualGuard': WHATEVER THE INPUT: true; the input reads as it did. -/
def fnExactEqualGuardSpec : ChangeSpec := { name := "fnExactEqualGuard", fn := fun _ => fun
  | [d1, d2] => { results := [.lit (.bool true)], args := [d1, d2] }
  | _ => none }
def fnExactEqualGuardRow : OpenClaim := { program := "ytidbokheeieifaa", sum := "6c19afa0be1979cc9c64a9a4f56251a6ee37ef1fd5dce7e39943ad5a295670d6", func := "loop.example/g00517/laws.FnExactEqualGuard", spec := "fnExactEqualGuard", inPlace := ["internal/bytealg.abigen_runtime_cmpstring"], unfollowed := true, recurses := true, loops := true, apart := false }
def FnExactEqualGuardSaid : Prop := fnExactEqualGuardRow.holds Try.pinned (OpenSpec.ofChange fnExactEqualGuardSpec)

/-- ITS FALSE NEIGHBOUR: 'it returns false'. Refute it at one input. -/
def fnExactEqualGuardWrong : ChangeSpec := { name := "fnExactEqualGuard", fn := fun _ => fun
  | [d1, d2] => { results := [.lit (.bool false)], args := [d1, d2] }
  | _ => none }
def FnExactEqualGuardWrongFalsely : Prop := fnExactEqualGuardRow.holds Try.pinned (OpenSpec.ofChange fnExactEqualGuardWrong)

/- THE SECOND FORM. 'bulk': how many values and letters a reading holds, each counted each time it is reached (what is shared counts as often as it is met; a slice's spare places count too). A statement '..UptoSaid' is the law's where the arguments, and the package variables that the reading takes, are together of bulk at most 1048576: NARROWER than '..Said'. Prove '..Said' where nothing that the law and all that it calls make is longer than what came in: it says more and counts as full. Else prove '..UptoSaid'. A law counts once. -/
mutual
def uptoBulk {H : Type} : DataW H → Nat
  | .lit (.string bytes) => bytes.length + 1
  | .lit _ => 1
  | .nil => 1
  | .ptr d => uptoBulk d + 1
  | .slice elems spare => uptoBulkAll elems + uptoBulkAll spare + 1
  | .agg parts => uptoBulkAll parts + 1
  | .iface _ d => uptoBulk d + 1
  | .map entries => uptoBulkEntries entries + 1
  | .held _ => 1
def uptoBulkAll {H : Type} : List (DataW H) → Nat
  | [] => 0
  | d :: r => uptoBulk d + uptoBulkAll r
def uptoBulkEntries {H : Type} : List (Lit × DataW H) → Nat
  | [] => 0
  | x :: r => uptoBulkEntry x + uptoBulkEntries r
def uptoBulkEntry {H : Type} : Lit × DataW H → Nat
  | (.string bytes, d) => bytes.length + uptoBulk d + 1
  | (_, d) => uptoBulk d + 1
 end
def uptoSmall : (H : Type) → List (DataW H) → Bool := fun _ ds => decide (uptoBulkAll ds ≤ 1048576)
def OpenSpec.upto (s : _root_.Go.ChangeSpec) : _root_.Go.OpenSpec := { _root_.Go.OpenSpec.ofChange s with cond := some uptoSmall }

/-- 'laws.FnWords', WHERE WHAT IT READS IS OF BULK AT MOST 1048576: true; the input reads as it did. -/
def fnWordsUptoRow : OpenClaim := { program := "ytidbokheeieifaa", sum := "6c19afa0be1979cc9c64a9a4f56251a6ee37ef1fd5dce7e39943ad5a295670d6", func := "loop.example/g00517/laws.FnWords", spec := "fnWords", inPlace := ["internal/bytealg.abigen_runtime_cmpstring"], unfollowed := true, recurses := true, apart := false, narrowed := true }
def FnWordsUptoSaid : Prop := fnWordsUptoRow.holds Try.pinned (OpenSpec.upto fnWordsSpec)

/-- 'laws.FnExactSortOf', WHERE WHAT IT READS IS OF BULK AT MOST 1048576: true; the input reads as it did. -/
def fnExactSortOfUptoRow : OpenClaim := { program := "ytidbokheeieifaa", sum := "6c19afa0be1979cc9c64a9a4f56251a6ee37ef1fd5dce7e39943ad5a295670d6", func := "loop.example/g00517/laws.FnExactSortOf", spec := "fnExactSortOf", unfollowed := true, recurses := true, loops := true, apart := false, narrowed := true }
def FnExactSortOfUptoSaid : Prop := fnExactSortOfUptoRow.holds Try.pinned (OpenSpec.upto fnExactSortOfSpec)

/-- 'laws.FnExactUnifyTerms', WHERE WHAT IT READS IS OF BULK AT MOST 1048576: true; the input reads as it did. -/
def fnExactUnifyTermsUptoRow : OpenClaim := { program := "ytidbokheeieifaa", sum := "6c19afa0be1979cc9c64a9a4f56251a6ee37ef1fd5dce7e39943ad5a295670d6", func := "loop.example/g00517/laws.FnExactUnifyTerms", spec := "fnExactUnifyTerms", inPlace := ["internal/bytealg.abigen_runtime_cmpstring"], unfollowed := true, recurses := true, loops := true, apart := false, narrowed := true }
def FnExactUnifyTermsUptoSaid : Prop := fnExactUnifyTermsUptoRow.holds Try.pinned (OpenSpec.upto fnExactUnifyTermsSpec)

/-- 'laws.FnExactReduceWords', WHERE WHAT IT READS IS OF BULK AT MOST 1048576: true; the input reads as it did. -/
def fnExactReduceWordsUptoRow : OpenClaim := { program := "ytidbokheeieifaa", sum := "6c19afa0be1979cc9c64a9a4f56251a6ee37ef1fd5dce7e39943ad5a295670d6", func := "loop.example/g00517/laws.FnExactReduceWords", spec := "fnExactReduceWords", unfollowed := true, recurses := true, loops := true, apart := false, narrowed := true }
def FnExactReduceWordsUptoSaid : Prop := fnExactReduceWordsUptoRow.holds Try.pinned (OpenSpec.upto fnExactReduceWordsSpec)

/-- 'laws.FnExactHoldsGuard', WHERE WHAT IT READS IS OF BULK AT MOST 1048576: true; the input reads as it did. -/
def fnExactHoldsGuardUptoRow : OpenClaim := { program := "ytidbokheeieifaa", sum := "6c19afa0be1979cc9c64a9a4f56251a6ee37ef1fd5dce7e39943ad5a295670d6", func := "loop.example/g00517/laws.FnExactHoldsGuard", spec := "fnExactHoldsGuard", inPlace := ["internal/bytealg.abigen_runtime_cmpstring"], unfollowed := true, recurses := true, loops := true, apart := false, narrowed := true }
def FnExactHoldsGuardUptoSaid : Prop := fnExactHoldsGuardUptoRow.holds Try.pinned (OpenSpec.upto fnExactHoldsGuardSpec)

/-- 'laws.FnExactApplyToGuard', WHERE WHAT IT READS IS OF BULK AT MOST 1048576: true; the input reads as it did. -/
def fnExactApplyToGuardUptoRow : OpenClaim := { program := "ytidbokheeieifaa", sum := "6c19afa0be1979cc9c64a9a4f56251a6ee37ef1fd5dce7e39943ad5a295670d6", func := "loop.example/g00517/laws.FnExactApplyToGuard", spec := "fnExactApplyToGuard", unfollowed := true, recurses := true, loops := true, apart := false, narrowed := true }
def FnExactApplyToGuardUptoSaid : Prop := fnExactApplyToGuardUptoRow.holds Try.pinned (OpenSpec.upto fnExactApplyToGuardSpec)

/-- 'laws.FnExactEqualGuard', WHERE WHAT IT READS IS OF BULK AT MOST 1048576: true; the input reads as it did. -/
def fnExactEqualGuardUptoRow : OpenClaim := { program := "ytidbokheeieifaa", sum := "6c19afa0be1979cc9c64a9a4f56251a6ee37ef1fd5dce7e39943ad5a295670d6", func := "loop.example/g00517/laws.FnExactEqualGuard", spec := "fnExactEqualGuard", inPlace := ["internal/bytealg.abigen_runtime_cmpstring"], unfollowed := true, recurses := true, loops := true, apart := false, narrowed := true }
def FnExactEqualGuardUptoSaid : Prop := fnExactEqualGuardUptoRow.holds Try.pinned (OpenSpec.upto fnExactEqualGuardSpec)

end Rows
end Go.Proofs.Ytidbokheeieifaa
