/-
  No cell of these rows narrows 'for every input' (looked for: loops, veiled, ifaces, maps, wideKeys, modest, calm, conditions, laid).
  DERIVED. THE GIVEN ROWS OF THIS SEAT. 10 by the template 'for every input the law returns true; each argument reads behind the call as it read before'; 0 by the template 'total and deterministic' (their statements: YtfnaikopogojbaaTotals.lean).
  GIVEN WITH THE SEED: the statements are not yours to turn. If you find one false, say at which input.
  Laid BY PROGRAM, IN A SANDBOX (cutbox-rows.mjs): the forced cells as the released guide's own fill.sh prints them over the translation d1e536f52db6c336… (all of the seat's roots in one cut). By AI agents, Wed Nov 11 2026. No macro, syntax, notation, axiom, sorry.
-/
import Derived.Test.YtfnaikopogojbaaChecked
import GoSem.Claim
import GoSem.ClaimJoined
import GoSem.ClaimMapViews
import Derived.JoinedTies
import Derived.KernelRfl
namespace Go.Proofs.Ytfnaikopogojbaa
/- THE CELL 'sum', in the pinned program and in every row, IS THE sha256 OF THE DUMP (.gsa) THAT YtfnaikopogojbaaProg.lean LOADS. Nothing in Lean hashes anything: it is a label: what it is worth is what the hold of that sum in a sandbox is worth. -/
noncomputable def Try.pinned : Pinned := { name := "ytfnaikopogojbaa", sum := "d1e536f52db6c336f2d7e4108a058ea2759f7995f39156ad3f90a799df68d87a", checked := Try.checked }
namespace Rows
def none {H : Type} : Left H := { results := [], args := [] }

/-- 'laws.FnStepsOf': WHATEVER THE INPUT: true; the input reads as it did. -/
def fnStepsOfSpec : ChangeSpec := { name := "fnStepsOf", fn := fun _ => fun
  | [d] => { results := [.lit (.bool true)], args := [d] }
  | _ => none }
def fnStepsOfRow : OpenClaim := { program := "ytfnaikopogojbaa", sum := "d1e536f52db6c336f2d7e4108a058ea2759f7995f39156ad3f90a799df68d87a", func := "loop.example/endsoflife/laws.FnStepsOf", spec := "fnStepsOf", inPlace := ["internal/bytealg.IndexByteString", "internal/bytealg.IndexString"], unfollowed := true, recurses := true, named := ["internal/bytealg.MaxLen"], apart := false }
def FnStepsOfSaid : Prop := fnStepsOfRow.holds Try.pinned (OpenSpec.ofChange fnStepsOfSpec)

/-- ITS FALSE NEIGHBOUR: 'it returns false'. Refute it at one input. -/
def fnStepsOfWrong : ChangeSpec := { name := "fnStepsOf", fn := fun _ => fun
  | [d] => { results := [.lit (.bool false)], args := [d] }
  | _ => none }
def FnStepsOfWrongFalsely : Prop := fnStepsOfRow.holds Try.pinned (OpenSpec.ofChange fnStepsOfWrong)

/-- 'laws.FnStepAt': WHATEVER THE INPUT: true; the input reads as it did. -/
def fnStepAtSpec : ChangeSpec := { name := "fnStepAt", fn := fun _ => fun
  | [d1, d2] => { results := [.lit (.bool true)], args := [d1, d2] }
  | _ => none }
def fnStepAtRow : OpenClaim := { program := "ytfnaikopogojbaa", sum := "d1e536f52db6c336f2d7e4108a058ea2759f7995f39156ad3f90a799df68d87a", func := "loop.example/endsoflife/laws.FnStepAt", spec := "fnStepAt", inPlace := ["internal/bytealg.IndexByteString", "internal/bytealg.IndexString"], unfollowed := true, recurses := true, named := ["internal/bytealg.MaxLen"], apart := false }
def FnStepAtSaid : Prop := fnStepAtRow.holds Try.pinned (OpenSpec.ofChange fnStepAtSpec)

/-- ITS FALSE NEIGHBOUR: 'it returns false'. Refute it at one input. -/
def fnStepAtWrong : ChangeSpec := { name := "fnStepAt", fn := fun _ => fun
  | [d1, d2] => { results := [.lit (.bool false)], args := [d1, d2] }
  | _ => none }
def FnStepAtWrongFalsely : Prop := fnStepAtRow.holds Try.pinned (OpenSpec.ofChange fnStepAtWrong)

/-- 'laws.FnVisits': WHATEVER THE INPUT: true; the input reads as it did. -/
def fnVisitsSpec : ChangeSpec := { name := "fnVisits", fn := fun _ => fun
  | [d] => { results := [.lit (.bool true)], args := [d] }
  | _ => none }
def fnVisitsRow : OpenClaim := { program := "ytfnaikopogojbaa", sum := "d1e536f52db6c336f2d7e4108a058ea2759f7995f39156ad3f90a799df68d87a", func := "loop.example/endsoflife/laws.FnVisits", spec := "fnVisits", inPlace := ["internal/bytealg.IndexByteString"], unfollowed := true, recurses := true, apart := false }
def FnVisitsSaid : Prop := fnVisitsRow.holds Try.pinned (OpenSpec.ofChange fnVisitsSpec)

/-- ITS FALSE NEIGHBOUR: 'it returns false'. Refute it at one input. -/
def fnVisitsWrong : ChangeSpec := { name := "fnVisits", fn := fun _ => fun
  | [d] => { results := [.lit (.bool false)], args := [d] }
  | _ => none }
def FnVisitsWrongFalsely : Prop := fnVisitsRow.holds Try.pinned (OpenSpec.ofChange fnVisitsWrong)

/-- 'laws.FnAllChoices': WHATEVER THE INPUT: true; the input reads as it did. -/
def fnAllChoicesSpec : ChangeSpec := { name := "fnAllChoices", fn := fun _ => fun
  | [d1, d2] => { results := [.lit (.bool true)], args := [d1, d2] }
  | _ => none }
def fnAllChoicesRow : OpenClaim := { program := "ytfnaikopogojbaa", sum := "d1e536f52db6c336f2d7e4108a058ea2759f7995f39156ad3f90a799df68d87a", func := "loop.example/endsoflife/laws.FnAllChoices", spec := "fnAllChoices", inPlace := ["internal/bytealg.IndexByteString"], unfollowed := true, recurses := true, apart := false }
def FnAllChoicesSaid : Prop := fnAllChoicesRow.holds Try.pinned (OpenSpec.ofChange fnAllChoicesSpec)

/-- ITS FALSE NEIGHBOUR: 'it returns false'. Refute it at one input. -/
def fnAllChoicesWrong : ChangeSpec := { name := "fnAllChoices", fn := fun _ => fun
  | [d1, d2] => { results := [.lit (.bool false)], args := [d1, d2] }
  | _ => none }
def FnAllChoicesWrongFalsely : Prop := fnAllChoicesRow.holds Try.pinned (OpenSpec.ofChange fnAllChoicesWrong)

/-- 'laws.FnExactVarsOf': WHATEVER THE INPUT: true; the input reads as it did. -/
def fnExactVarsOfSpec : ChangeSpec := { name := "fnExactVarsOf", fn := fun _ => fun
  | [d] => { results := [.lit (.bool true)], args := [d] }
  | _ => none }
def fnExactVarsOfRow : OpenClaim := { program := "ytfnaikopogojbaa", sum := "d1e536f52db6c336f2d7e4108a058ea2759f7995f39156ad3f90a799df68d87a", func := "loop.example/endsoflife/laws.FnExactVarsOf", spec := "fnExactVarsOf", inPlace := ["internal/bytealg.IndexByteString"], unfollowed := true, recurses := true, apart := false }
def FnExactVarsOfSaid : Prop := fnExactVarsOfRow.holds Try.pinned (OpenSpec.ofChange fnExactVarsOfSpec)

/-- ITS FALSE NEIGHBOUR: 'it returns false'. Refute it at one input. -/
def fnExactVarsOfWrong : ChangeSpec := { name := "fnExactVarsOf", fn := fun _ => fun
  | [d] => { results := [.lit (.bool false)], args := [d] }
  | _ => none }
def FnExactVarsOfWrongFalsely : Prop := fnExactVarsOfRow.holds Try.pinned (OpenSpec.ofChange fnExactVarsOfWrong)

/-- 'laws.FnExactChoicesRight': WHATEVER THE INPUT: true; the input reads as it did. -/
def fnExactChoicesRightSpec : ChangeSpec := { name := "fnExactChoicesRight", fn := fun _ => fun
  | [d1, d2] => { results := [.lit (.bool true)], args := [d1, d2] }
  | _ => none }
def fnExactChoicesRightRow : OpenClaim := { program := "ytfnaikopogojbaa", sum := "d1e536f52db6c336f2d7e4108a058ea2759f7995f39156ad3f90a799df68d87a", func := "loop.example/endsoflife/laws.FnExactChoicesRight", spec := "fnExactChoicesRight", inPlace := ["internal/bytealg.IndexByteString"], unfollowed := true, recurses := true, apart := false }
def FnExactChoicesRightSaid : Prop := fnExactChoicesRightRow.holds Try.pinned (OpenSpec.ofChange fnExactChoicesRightSpec)

/-- ITS FALSE NEIGHBOUR: 'it returns false'. Refute it at one input. -/
def fnExactChoicesRightWrong : ChangeSpec := { name := "fnExactChoicesRight", fn := fun _ => fun
  | [d1, d2] => { results := [.lit (.bool false)], args := [d1, d2] }
  | _ => none }
def FnExactChoicesRightWrongFalsely : Prop := fnExactChoicesRightRow.holds Try.pinned (OpenSpec.ofChange fnExactChoicesRightWrong)

/-- 'laws.FnExactExitOf': WHATEVER THE INPUT: true; the input reads as it did. -/
def fnExactExitOfSpec : ChangeSpec := { name := "fnExactExitOf", fn := fun _ => fun
  | [d1, d2] => { results := [.lit (.bool true)], args := [d1, d2] }
  | _ => none }
def fnExactExitOfRow : OpenClaim := { program := "ytfnaikopogojbaa", sum := "d1e536f52db6c336f2d7e4108a058ea2759f7995f39156ad3f90a799df68d87a", func := "loop.example/endsoflife/laws.FnExactExitOf", spec := "fnExactExitOf", inPlace := ["internal/bytealg.IndexByteString"], unfollowed := true, recurses := true, apart := false }
def FnExactExitOfSaid : Prop := fnExactExitOfRow.holds Try.pinned (OpenSpec.ofChange fnExactExitOfSpec)

/-- ITS FALSE NEIGHBOUR: 'it returns false'. Refute it at one input. -/
def fnExactExitOfWrong : ChangeSpec := { name := "fnExactExitOf", fn := fun _ => fun
  | [d1, d2] => { results := [.lit (.bool false)], args := [d1, d2] }
  | _ => none }
def FnExactExitOfWrongFalsely : Prop := fnExactExitOfRow.holds Try.pinned (OpenSpec.ofChange fnExactExitOfWrong)

/-- 'laws.FnExactFaultAt': WHATEVER THE INPUT: true; the input reads as it did. -/
def fnExactFaultAtSpec : ChangeSpec := { name := "fnExactFaultAt", fn := fun _ => fun
  | [d1, d2] => { results := [.lit (.bool true)], args := [d1, d2] }
  | _ => none }
def fnExactFaultAtRow : OpenClaim := { program := "ytfnaikopogojbaa", sum := "d1e536f52db6c336f2d7e4108a058ea2759f7995f39156ad3f90a799df68d87a", func := "loop.example/endsoflife/laws.FnExactFaultAt", spec := "fnExactFaultAt", inPlace := ["internal/bytealg.IndexByteString"], unfollowed := true, recurses := true, apart := false }
def FnExactFaultAtSaid : Prop := fnExactFaultAtRow.holds Try.pinned (OpenSpec.ofChange fnExactFaultAtSpec)

/-- ITS FALSE NEIGHBOUR: 'it returns false'. Refute it at one input. -/
def fnExactFaultAtWrong : ChangeSpec := { name := "fnExactFaultAt", fn := fun _ => fun
  | [d1, d2] => { results := [.lit (.bool false)], args := [d1, d2] }
  | _ => none }
def FnExactFaultAtWrongFalsely : Prop := fnExactFaultAtRow.holds Try.pinned (OpenSpec.ofChange fnExactFaultAtWrong)

/-- 'laws.FnExactVisitsOf': WHATEVER THE INPUT: true; the input reads as it did. -/
def fnExactVisitsOfSpec : ChangeSpec := { name := "fnExactVisitsOf", fn := fun _ => fun
  | [d1, d2] => { results := [.lit (.bool true)], args := [d1, d2] }
  | _ => none }
def fnExactVisitsOfRow : OpenClaim := { program := "ytfnaikopogojbaa", sum := "d1e536f52db6c336f2d7e4108a058ea2759f7995f39156ad3f90a799df68d87a", func := "loop.example/endsoflife/laws.FnExactVisitsOf", spec := "fnExactVisitsOf", inPlace := ["internal/bytealg.IndexByteString"], unfollowed := true, recurses := true, apart := false }
def FnExactVisitsOfSaid : Prop := fnExactVisitsOfRow.holds Try.pinned (OpenSpec.ofChange fnExactVisitsOfSpec)

/-- ITS FALSE NEIGHBOUR: 'it returns false'. Refute it at one input. -/
def fnExactVisitsOfWrong : ChangeSpec := { name := "fnExactVisitsOf", fn := fun _ => fun
  | [d1, d2] => { results := [.lit (.bool false)], args := [d1, d2] }
  | _ => none }
def FnExactVisitsOfWrongFalsely : Prop := fnExactVisitsOfRow.holds Try.pinned (OpenSpec.ofChange fnExactVisitsOfWrong)

/-- 'laws.FnExactAllChoices': WHATEVER THE INPUT: true; the input reads as it did. -/
def fnExactAllChoicesSpec : ChangeSpec := { name := "fnExactAllChoices", fn := fun _ => fun
  | [d1, d2] => { results := [.lit (.bool true)], args := [d1, d2] }
  | _ => none }
def fnExactAllChoicesRow : OpenClaim := { program := "ytfnaikopogojbaa", sum := "d1e536f52db6c336f2d7e4108a058ea2759f7995f39156ad3f90a799df68d87a", func := "loop.example/endsoflife/laws.FnExactAllChoices", spec := "fnExactAllChoices", inPlace := ["internal/bytealg.IndexByteString"], unfollowed := true, recurses := true, apart := false }
def FnExactAllChoicesSaid : Prop := fnExactAllChoicesRow.holds Try.pinned (OpenSpec.ofChange fnExactAllChoicesSpec)

/-- ITS FALSE NEIGHBOUR: 'it returns false'. Refute it at one input. -/
def fnExactAllChoicesWrong : ChangeSpec := { name := "fnExactAllChoices", fn := fun _ => fun
  | [d1, d2] => { results := [.lit (.bool false)], args := [d1, d2] }
  | _ => none }
def FnExactAllChoicesWrongFalsely : Prop := fnExactAllChoicesRow.holds Try.pinned (OpenSpec.ofChange fnExactAllChoicesWrong)

/- THE SECOND FORM. 'bulk': how many values and letters a reading holds, each counted each time it is reached (what is shared counts as often as it is met; a slice's spare places count too). A statement '..UptoSaid' is the law's where the arguments, and the package variables that the reading takes, are together of bulk at most 1048576: NARROWER than '..Said'. Prove '..Said' where nothing that the law and all that it calls make is longer than what came in: it says more and counts as full. Else prove '..UptoSaid'. A law counts once. -/
mutual
def uptoBulk {H : Type} : DataW H → Nat
  | .lit (.string bytes) => bytes.length + 1
  | .lit _ => 1
  | .nil => 1
  | .ptr d => uptoBulk d + 1
  | .slice elems spare => uptoBulkAll elems + uptoBulkAll spare + 1
  | .agg parts => uptoBulkAll parts + 1
  | .iface _ d => uptoBulk d + 1
  | .map entries => uptoBulkEntries entries + 1
  | .held _ => 1
def uptoBulkAll {H : Type} : List (DataW H) → Nat
  | [] => 0
  | d :: r => uptoBulk d + uptoBulkAll r
def uptoBulkEntries {H : Type} : List (Lit × DataW H) → Nat
  | [] => 0
  | x :: r => uptoBulkEntry x + uptoBulkEntries r
def uptoBulkEntry {H : Type} : Lit × DataW H → Nat
  | (.string bytes, d) => bytes.length + uptoBulk d + 1
  | (_, d) => uptoBulk d + 1
 end
def uptoSmall : (H : Type) → List (DataW H) → Bool := fun _ ds => decide (uptoBulkAll ds ≤ 1048576)
def OpenSpec.upto (s : _root_.Go.ChangeSpec) : _root_.Go.OpenSpec := { _root_.Go.OpenSpec.ofChange s with cond := some uptoSmall }

/-- 'laws.FnStepsOf', WHERE WHAT IT READS IS OF BULK AT MOST 1048576: true; the input reads as it did. -/
def fnStepsOfUptoRow : OpenClaim := { program := "ytfnaikopogojbaa", sum := "d1e536f52db6c336f2d7e4108a058ea2759f7995f39156ad3f90a799df68d87a", func := "loop.example/endsoflife/laws.FnStepsOf", spec := "fnStepsOf", inPlace := ["internal/bytealg.IndexByteString", "internal/bytealg.IndexString"], unfollowed := true, recurses := true, named := ["internal/bytealg.MaxLen"], apart := false, narrowed := true }
def FnStepsOfUptoSaid : Prop := fnStepsOfUptoRow.holds Try.pinned (OpenSpec.upto fnStepsOfSpec)

/-- 'laws.FnStepAt', WHERE WHAT IT READS IS OF BULK AT MOST 1048576: true; the input reads as it did. -/
def fnStepAtUptoRow : OpenClaim := { program := "ytfnaikopogojbaa", sum := "d1e536f52db6c336f2d7e4108a058ea2759f7995f39156ad3f90a799df68d87a", func := "loop.example/endsoflife/laws.FnStepAt", spec := "fnStepAt", inPlace := ["internal/bytealg.IndexByteString", "internal/bytealg.IndexString"], unfollowed := true, recurses := true, named := ["internal/bytealg.MaxLen"], apart := false, narrowed := true }
def FnStepAtUptoSaid : Prop := fnStepAtUptoRow.holds Try.pinned (OpenSpec.upto fnStepAtSpec)

/-- 'laws.FnVisits', WHERE WHAT IT READS IS OF BULK AT MOST 1048576: true; the input reads as it did. -/
def fnVisitsUptoRow : OpenClaim := { program := "ytfnaikopogojbaa", sum := "d1e536f52db6c336f2d7e4108a058ea2759f7995f39156ad3f90a799df68d87a", func := "loop.example/endsoflife/laws.FnVisits", spec := "fnVisits", inPlace := ["internal/bytealg.IndexByteString"], unfollowed := true, recurses := true, apart := false, narrowed := true }
def FnVisitsUptoSaid : Prop := fnVisitsUptoRow.holds Try.pinned (OpenSpec.upto fnVisitsSpec)

/-- 'laws.FnAllChoices', WHERE WHAT IT READS IS OF BULK AT MOST 1048576: true; the input reads as it did. -/
def fnAllChoicesUptoRow : OpenClaim := { program := "ytfnaikopogojbaa", sum := "d1e536f52db6c336f2d7e4108a058ea2759f7995f39156ad3f90a799df68d87a", func := "loop.example/endsoflife/laws.FnAllChoices", spec := "fnAllChoices", inPlace := ["internal/bytealg.IndexByteString"], unfollowed := true, recurses := true, apart := false, narrowed := true }
def FnAllChoicesUptoSaid : Prop := fnAllChoicesUptoRow.holds Try.pinned (OpenSpec.upto fnAllChoicesSpec)

/-- 'laws.FnExactVarsOf', WHERE WHAT IT READS IS OF BULK AT MOST 1048576: true; the input reads as it did. -/
def fnExactVarsOfUptoRow : OpenClaim := { program := "ytfnaikopogojbaa", sum := "d1e536f52db6c336f2d7e4108a058ea2759f7995f39156ad3f90a799df68d87a", func := "loop.example/endsoflife/laws.FnExactVarsOf", spec := "fnExactVarsOf", inPlace := ["internal/bytealg.IndexByteString"], unfollowed := true, recurses := true, apart := false, narrowed := true }
def FnExactVarsOfUptoSaid : Prop := fnExactVarsOfUptoRow.holds Try.pinned (OpenSpec.upto fnExactVarsOfSpec)

/-- 'laws.FnExactChoicesRight', WHERE WHAT IT READS IS OF BULK AT MOST 1048576: true; the input reads as it did. -/
def fnExactChoicesRightUptoRow : OpenClaim := { program := "ytfnaikopogojbaa", sum := "d1e536f52db6c336f2d7e4108a058ea2759f7995f39156ad3f90a799df68d87a", func := "loop.example/endsoflife/laws.FnExactChoicesRight", spec := "fnExactChoicesRight", inPlace := ["internal/bytealg.IndexByteString"], unfollowed := true, recurses := true, apart := false, narrowed := true }
def FnExactChoicesRightUptoSaid : Prop := fnExactChoicesRightUptoRow.holds Try.pinned (OpenSpec.upto fnExactChoicesRightSpec)

/-- 'laws.FnExactExitOf', WHERE WHAT IT READS IS OF BULK AT MOST 1048576: true; the input reads as it did. -/
def fnExactExitOfUptoRow : OpenClaim := { program := "ytfnaikopogojbaa", sum := "d1e536f52db6c336f2d7e4108a058ea2759f7995f39156ad3f90a799df68d87a", func := "loop.example/endsoflife/laws.FnExactExitOf", spec := "fnExactExitOf", inPlace := ["internal/bytealg.IndexByteString"], unfollowed := true, recurses := true, apart := false, narrowed := true }
def FnExactExitOfUptoSaid : Prop := fnExactExitOfUptoRow.holds Try.pinned (OpenSpec.upto fnExactExitOfSpec)

/-- 'laws.FnExactFaultAt', WHERE WHAT IT READS IS OF BULK AT MOST 1048576: true; the input reads as it did. -/
def fnExactFaultAtUptoRow : OpenClaim := { program := "ytfnaikopogojbaa", sum := "d1e536f52db6c336f2d7e4108a058ea2759f7995f39156ad3f90a799df68d87a", func := "loop.example/endsoflife/laws.FnExactFaultAt", spec := "fnExactFaultAt", inPlace := ["internal/bytealg.IndexByteString"], unfollowed := true, recurses := true, apart := false, narrowed := true }
def FnExactFaultAtUptoSaid : Prop := fnExactFaultAtUptoRow.holds Try.pinned (OpenSpec.upto fnExactFaultAtSpec)

/-- 'laws.FnExactVisitsOf', WHERE WHAT IT READS IS OF BULK AT MOST 1048576: true; the input reads as it did. -/
def fnExactVisitsOfUptoRow : OpenClaim := { program := "ytfnaikopogojbaa", sum := "d1e536f52db6c336f2d7e4108a058ea2759f7995f39156ad3f90a799df68d87a", func := "loop.example/endsoflife/laws.FnExactVisitsOf", spec := "fnExactVisitsOf", inPlace := ["internal/bytealg.IndexByteString"], unfollowed := true, recurses := true, apart := false, narrowed := true }
def FnExactVisitsOfUptoSaid : Prop := fnExactVisitsOfUptoRow.holds Try.pinned (OpenSpec.upto fnExactVisitsOfSpec)

/-- 'laws.FnExactAllChoices', WHERE WHAT IT READS IS OF BULK AT MOST 1048576: true; the input reads as it did. -/
def fnExactAllChoicesUptoRow : OpenClaim := { program := "ytfnaikopogojbaa", sum := "d1e536f52db6c336f2d7e4108a058ea2759f7995f39156ad3f90a799df68d87a", func := "loop.example/endsoflife/laws.FnExactAllChoices", spec := "fnExactAllChoices", inPlace := ["internal/bytealg.IndexByteString"], unfollowed := true, recurses := true, apart := false, narrowed := true }
def FnExactAllChoicesUptoSaid : Prop := fnExactAllChoicesUptoRow.holds Try.pinned (OpenSpec.upto fnExactAllChoicesSpec)

end Rows
end Go.Proofs.Ytfnaikopogojbaa
