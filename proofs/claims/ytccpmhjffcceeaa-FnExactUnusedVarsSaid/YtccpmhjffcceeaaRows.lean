/-
  No cell of these rows narrows 'for every input' (looked for: loops, veiled, ifaces, maps, wideKeys, modest, calm, conditions, laid).
  DERIVED. THE GIVEN ROWS OF THIS SEAT. 6 by the template 'for every input the law returns true; each argument reads behind the call as it read before'; 0 by the template 'total and deterministic' (their statements: YtccpmhjffcceeaaTotals.lean).
  GIVEN WITH THE SEED: the statements are not yours to turn. If you find one false, say at which input.
  Laid BY PROGRAM, IN A SANDBOX (cutbox-rows.mjs): the forced cells as the released guide's own fill.sh prints them over the translation 13271612a744c251… (all of the seat's roots in one cut). By AI agents, Wed Nov 11 2026. No macro, syntax, notation, axiom, sorry.
-/
import Derived.Test.YtccpmhjffcceeaaChecked
import GoSem.Claim
import GoSem.ClaimJoined
import GoSem.ClaimMapViews
import Derived.JoinedTies
import Derived.KernelRfl
namespace Go.Proofs.Ytccpmhjffcceeaa
/- THE CELL 'sum', in the pinned program and in every row, IS THE sha256 OF THE DUMP (.gsa) THAT YtccpmhjffcceeaaProg.lean LOADS. Nothing in Lean hashes anything: it is a label: what it is worth is what the hold of that sum in a sandbox is worth. -/
noncomputable def Try.pinned : Pinned := { name := "ytccpmhjffcceeaa", sum := "13271612a744c25159e941db5088718ef131594cf4ccc3af405844a75b98a9f7", checked := Try.checked }
namespace Rows
def none {H : Type} : Left H := { results := [], args := [] }

/-- 'laws.FnStepsOf': WHATEVER THE INPUT: true; the input reads as it did. -/
def fnStepsOfSpec : ChangeSpec := { name := "fnStepsOf", fn := fun _ => fun
  | [d] => { results := [.lit (.bool true)], args := [d] }
  | _ => none }
def fnStepsOfRow : OpenClaim := { program := "ytccpmhjffcceeaa", sum := "13271612a744c25159e941db5088718ef131594cf4ccc3af405844a75b98a9f7", func := "loop.example/endsoflife/laws.FnStepsOf", spec := "fnStepsOf", inPlace := ["internal/bytealg.IndexByteString", "internal/bytealg.IndexString"], unfollowed := true, recurses := true, named := ["internal/bytealg.MaxLen"], apart := false }
def FnStepsOfSaid : Prop := fnStepsOfRow.holds Try.pinned (OpenSpec.ofChange fnStepsOfSpec)

/-- ITS FALSE NEIGHBOUR: 'it returns false'. Refute it at one input. -/
def fnStepsOfWrong : ChangeSpec := { name := "fnStepsOf", fn := fun _ => fun
  | [d] => { results := [.lit (.bool false)], args := [d] }
  | _ => none }
def FnStepsOfWrongFalsely : Prop := fnStepsOfRow.holds Try.pinned (OpenSpec.ofChange fnStepsOfWrong)

/-- 'laws.FnExactTidyFlags': WHATEVER THE INPUT: true; the input reads as it did. -/
def fnExactTidyFlagsSpec : ChangeSpec := { name := "fnExactTidyFlags", fn := fun _ => fun
  | [d] => { results := [.lit (.bool true)], args := [d] }
  | _ => none }
def fnExactTidyFlagsRow : OpenClaim := { program := "ytccpmhjffcceeaa", sum := "13271612a744c25159e941db5088718ef131594cf4ccc3af405844a75b98a9f7", func := "loop.example/endsoflife/laws.FnExactTidyFlags", spec := "fnExactTidyFlags", inPlace := ["internal/bytealg.IndexByteString", "internal/abi.NoEscape"], unfollowed := true, recurses := true, apart := false }
def FnExactTidyFlagsSaid : Prop := fnExactTidyFlagsRow.holds Try.pinned (OpenSpec.ofChange fnExactTidyFlagsSpec)

/-- ITS FALSE NEIGHBOUR: 'it returns false'. Refute it at one input. -/
def fnExactTidyFlagsWrong : ChangeSpec := { name := "fnExactTidyFlags", fn := fun _ => fun
  | [d] => { results := [.lit (.bool false)], args := [d] }
  | _ => none }
def FnExactTidyFlagsWrongFalsely : Prop := fnExactTidyFlagsRow.holds Try.pinned (OpenSpec.ofChange fnExactTidyFlagsWrong)

/-- 'laws.FnExactWriteStep': WHATEVER THE INPUT: true; the input reads as it did. -/
def fnExactWriteStepSpec : ChangeSpec := { name := "fnExactWriteStep", fn := fun _ => fun
  | [d1, d2] => { results := [.lit (.bool true)], args := [d1, d2] }
  | _ => none }
def fnExactWriteStepRow : OpenClaim := { program := "ytccpmhjffcceeaa", sum := "13271612a744c25159e941db5088718ef131594cf4ccc3af405844a75b98a9f7", func := "loop.example/endsoflife/laws.FnExactWriteStep", spec := "fnExactWriteStep", inPlace := ["internal/bytealg.IndexByteString", "internal/abi.NoEscape"], unfollowed := true, recurses := true, apart := false }
def FnExactWriteStepSaid : Prop := fnExactWriteStepRow.holds Try.pinned (OpenSpec.ofChange fnExactWriteStepSpec)

/-- ITS FALSE NEIGHBOUR: 'it returns false'. Refute it at one input. -/
def fnExactWriteStepWrong : ChangeSpec := { name := "fnExactWriteStep", fn := fun _ => fun
  | [d1, d2] => { results := [.lit (.bool false)], args := [d1, d2] }
  | _ => none }
def FnExactWriteStepWrongFalsely : Prop := fnExactWriteStepRow.holds Try.pinned (OpenSpec.ofChange fnExactWriteStepWrong)

/-- 'laws.FnExactDropDead': WHATEVER THE INPUT: true; the input reads as it did. -/
def fnExactDropDeadSpec : ChangeSpec := { name := "fnExactDropDead", fn := fun _ => fun
  | [d] => { results := [.lit (.bool true)], args := [d] }
  | _ => none }
def fnExactDropDeadRow : OpenClaim := { program := "ytccpmhjffcceeaa", sum := "13271612a744c25159e941db5088718ef131594cf4ccc3af405844a75b98a9f7", func := "loop.example/endsoflife/laws.FnExactDropDead", spec := "fnExactDropDead", inPlace := ["internal/bytealg.IndexByteString", "internal/abi.NoEscape"], unfollowed := true, recurses := true, apart := false }
def FnExactDropDeadSaid : Prop := fnExactDropDeadRow.holds Try.pinned (OpenSpec.ofChange fnExactDropDeadSpec)

/-- ITS FALSE NEIGHBOUR: 'it returns false'. Refute it at one input. -/
def fnExactDropDeadWrong : ChangeSpec := { name := "fnExactDropDead", fn := fun _ => fun
  | [d] => { results := [.lit (.bool false)], args := [d] }
  | _ => none }
def FnExactDropDeadWrongFalsely : Prop := fnExactDropDeadRow.holds Try.pinned (OpenSpec.ofChange fnExactDropDeadWrong)

/-- 'laws.FnExactUnusedVars': WHATEVER THE INPUT: true; the input reads as it did. -/
def fnExactUnusedVarsSpec : ChangeSpec := { name := "fnExactUnusedVars", fn := fun _ => fun
  | [d] => { results := [.lit (.bool true)], args := [d] }
  | _ => none }
def fnExactUnusedVarsRow : OpenClaim := { program := "ytccpmhjffcceeaa", sum := "13271612a744c25159e941db5088718ef131594cf4ccc3af405844a75b98a9f7", func := "loop.example/endsoflife/laws.FnExactUnusedVars", spec := "fnExactUnusedVars", inPlace := ["internal/bytealg.IndexByteString"], unfollowed := true, recurses := true, apart := false }
def FnExactUnusedVarsSaid : Prop := fnExactUnusedVarsRow.holds Try.pinned (OpenSpec.ofChange fnExactUnusedVarsSpec)

/-- ITS FALSE NEIGHBOUR: 'it returns false'. Refute it at one input. -/
def fnExactUnusedVarsWrong : ChangeSpec := { name := "fnExactUnusedVars", fn := fun _ => fun
  | [d] => { results := [.lit (.bool false)], args := [d] }
  | _ => none }
def FnExactUnusedVarsWrongFalsely : Prop := fnExactUnusedVarsRow.holds Try.pinned (OpenSpec.ofChange fnExactUnusedVarsWrong)

/-- 'laws.FnExactDropVars': WHATEVER THE INPUT: true; the input reads as it did. -/
def fnExactDropVarsSpec : ChangeSpec := { name := "fnExactDropVars", fn := fun _ => fun
  | [d] => { results := [.lit (.bool true)], args := [d] }
  | _ => none }
def fnExactDropVarsRow : OpenClaim := { program := "ytccpmhjffcceeaa", sum := "13271612a744c25159e941db5088718ef131594cf4ccc3af405844a75b98a9f7", func := "loop.example/endsoflife/laws.FnExactDropVars", spec := "fnExactDropVars", inPlace := ["internal/bytealg.IndexByteString", "internal/abi.NoEscape"], unfollowed := true, recurses := true, apart := false }
def FnExactDropVarsSaid : Prop := fnExactDropVarsRow.holds Try.pinned (OpenSpec.ofChange fnExactDropVarsSpec)

/-- ITS FALSE NEIGHBOUR: 'it returns false'. Refute it at one input. -/
def fnExactDropVarsWrong : ChangeSpec := { name := "fnExactDropVars", fn := fun _ => fun
  | [d] => { results := [.lit (.bool false)], args := [d] }
  | _ => none }
def FnExactDropVarsWrongFalsely : Prop := fnExactDropVarsRow.holds Try.pinned (OpenSpec.ofChange fnExactDropVarsWrong)

/- THE SECOND FORM. 'bulk': how many values and letters a reading holds, each counted each time it is reached (what is shared counts as often as it is met; a slice's spare places count too). A statement '..UptoSaid' is the law's where the arguments, and the package variables that the reading takes, are together of bulk at most 1048576: NARROWER than '..Said'. Prove '..Said' where nothing that the law and all that it calls make is longer than what came in: it says more and counts as full. Else prove '..UptoSaid'. A law counts once. -/
mutual
def uptoBulk {H : Type} : DataW H → Nat
  | .lit (.string bytes) => bytes.length + 1
  | .lit _ => 1
  | .nil => 1
  | .ptr d => uptoBulk d + 1
  | .slice elems spare => uptoBulkAll elems + uptoBulkAll spare + 1
  | .agg parts => uptoBulkAll parts + 1
  | .iface _ d => uptoBulk d + 1
  | .map entries => uptoBulkEntries entries + 1
  | .held _ => 1
def uptoBulkAll {H : Type} : List (DataW H) → Nat
  | [] => 0
  | d :: r => uptoBulk d + uptoBulkAll r
def uptoBulkEntries {H : Type} : List (Lit × DataW H) → Nat
  | [] => 0
  | x :: r => uptoBulkEntry x + uptoBulkEntries r
def uptoBulkEntry {H : Type} : Lit × DataW H → Nat
  | (.string bytes, d) => bytes.length + uptoBulk d + 1
  | (_, d) => uptoBulk d + 1
 end
def uptoSmall : (H : Type) → List (DataW H) → Bool := fun _ ds => decide (uptoBulkAll ds ≤ 1048576)
def OpenSpec.upto (s : _root_.Go.ChangeSpec) : _root_.Go.OpenSpec := { _root_.Go.OpenSpec.ofChange s with cond := some uptoSmall }

/-- 'laws.FnStepsOf', WHERE WHAT IT READS IS OF BULK AT MOST 1048576: true; the input reads as it did. -/
def fnStepsOfUptoRow : OpenClaim := { program := "ytccpmhjffcceeaa", sum := "13271612a744c25159e941db5088718ef131594cf4ccc3af405844a75b98a9f7", func := "loop.example/endsoflife/laws.FnStepsOf", spec := "fnStepsOf", inPlace := ["internal/bytealg.IndexByteString", "internal/bytealg.IndexString"], unfollowed := true, recurses := true, named := ["internal/bytealg.MaxLen"], apart := false, narrowed := true }
def FnStepsOfUptoSaid : Prop := fnStepsOfUptoRow.holds Try.pinned (OpenSpec.upto fnStepsOfSpec)

/-- 'laws.FnExactTidyFlags', WHERE WHAT IT READS IS OF BULK AT MOST 1048576: true; the input reads as it did. -/
def fnExactTidyFlagsUptoRow : OpenClaim := { program := "ytccpmhjffcceeaa", sum := "13271612a744c25159e941db5088718ef131594cf4ccc3af405844a75b98a9f7", func := "loop.example/endsoflife/laws.FnExactTidyFlags", spec := "fnExactTidyFlags", inPlace := ["internal/bytealg.IndexByteString", "internal/abi.NoEscape"], unfollowed := true, recurses := true, apart := false, narrowed := true }
def FnExactTidyFlagsUptoSaid : Prop := fnExactTidyFlagsUptoRow.holds Try.pinned (OpenSpec.upto fnExactTidyFlagsSpec)

/-- 'laws.FnExactWriteStep', WHERE WHAT IT READS IS OF BULK AT MOST 1048576: true; the input reads as it did. -/
def fnExactWriteStepUptoRow : OpenClaim := { program := "ytccpmhjffcceeaa", sum := "13271612a744c25159e941db5088718ef131594cf4ccc3af405844a75b98a9f7", func := "loop.example/endsoflife/laws.FnExactWriteStep", spec := "fnExactWriteStep", inPlace := ["internal/bytealg.IndexByteString", "internal/abi.NoEscape"], unfollowed := true, recurses := true, apart := false, narrowed := true }
def FnExactWriteStepUptoSaid : Prop := fnExactWriteStepUptoRow.holds Try.pinned (OpenSpec.upto fnExactWriteStepSpec)

/-- 'laws.FnExactDropDead', WHERE WHAT IT READS IS OF BULK AT MOST 1048576: true; the input reads as it did. -/
def fnExactDropDeadUptoRow : OpenClaim := { program := "ytccpmhjffcceeaa", sum := "13271612a744c25159e941db5088718ef131594cf4ccc3af405844a75b98a9f7", func := "loop.example/endsoflife/laws.FnExactDropDead", spec := "fnExactDropDead", inPlace := ["internal/bytealg.IndexByteString", "internal/abi.NoEscape"], unfollowed := true, recurses := true, apart := false, narrowed := true }
def FnExactDropDeadUptoSaid : Prop := fnExactDropDeadUptoRow.holds Try.pinned (OpenSpec.upto fnExactDropDeadSpec)

/-- 'laws.FnExactUnusedVars', WHERE WHAT IT READS IS OF BULK AT MOST 1048576: true; the input reads as it did. -/
def fnExactUnusedVarsUptoRow : OpenClaim := { program := "ytccpmhjffcceeaa", sum := "13271612a744c25159e941db5088718ef131594cf4ccc3af405844a75b98a9f7", func := "loop.example/endsoflife/laws.FnExactUnusedVars", spec := "fnExactUnusedVars", inPlace := ["internal/bytealg.IndexByteString"], unfollowed := true, recurses := true, apart := false, narrowed := true }
def FnExactUnusedVarsUptoSaid : Prop := fnExactUnusedVarsUptoRow.holds Try.pinned (OpenSpec.upto fnExactUnusedVarsSpec)

/-- 'laws.FnExactDropVars', WHERE WHAT IT READS IS OF BULK AT MOST 1048576: true; the input reads as it did. -/
def fnExactDropVarsUptoRow : OpenClaim := { program := "ytccpmhjffcceeaa", sum := "13271612a744c25159e941db5088718ef131594cf4ccc3af405844a75b98a9f7", func := "loop.example/endsoflife/laws.FnExactDropVars", spec := "fnExactDropVars", inPlace := ["internal/bytealg.IndexByteString", "internal/abi.NoEscape"], unfollowed := true, recurses := true, apart := false, narrowed := true }
def FnExactDropVarsUptoSaid : Prop := fnExactDropVarsUptoRow.holds Try.pinned (OpenSpec.upto fnExactDropVarsSpec)

end Rows
end Go.Proofs.Ytccpmhjffcceeaa
