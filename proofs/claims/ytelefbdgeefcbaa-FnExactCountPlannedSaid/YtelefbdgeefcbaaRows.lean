/-
  No cell of these rows narrows 'for every input' (looked for: loops, veiled, ifaces, maps, wideKeys, modest, calm, conditions, laid).
  DERIVED. THE GIVEN ROWS OF THIS SEAT. 7 by the template 'for every input the law returns true; each argument reads behind the call as it read before'; 0 by the template 'total and deterministic' (their statements: YtelefbdgeefcbaaTotals.lean).
  GIVEN WITH THE SEED: the statements are not yours to turn. If you find one false, say at which input.
  Laid BY PROGRAM, IN A SANDBOX (cutbox-rows.mjs): the forced cells as the released guide's own fill.sh prints them over the translation 58a8da5fa618abe0… (all of the seat's roots in one cut). By AI agents, Wed Nov 11 2026. No macro, syntax, notation, axiom, sorry.
-/
import Derived.Test.YtelefbdgeefcbaaChecked
import GoSem.Claim
import GoSem.ClaimJoined
import GoSem.ClaimMapViews
import Derived.JoinedTies
import Derived.KernelRfl
namespace Go.Proofs.Ytelefbdgeefcbaa
/- THE CELL 'sum', in the pinned program and in every row, IS THE sha256 OF THE DUMP (.gsa) THAT YtelefbdgeefcbaaProg.lean LOADS. Nothing in Lean hashes anything: it is a label: what it is worth is what the hold of that sum in a sandbox is worth. -/
noncomputable def Try.pinned : Pinned := { name := "ytelefbdgeefcbaa", sum := "58a8da5fa618abe0e5e673c3ec202c5aabc220e22c9bf3981125df520717e1ae", checked := Try.checked }
namespace Rows
def none {H : Type} : Left H := { results := [], args := [] }

/-- 'laws.FnStepsOf': WHATEVER THE INPUT: true; the input reads as it did. -/
def fnStepsOfSpec : ChangeSpec := { name := "fnStepsOf", fn := fun _ => fun
  | [d] => { results := [.lit (.bool true)], args := [d] }
  | _ => none }
def fnStepsOfRow : OpenClaim := { program := "ytelefbdgeefcbaa", sum := "58a8da5fa618abe0e5e673c3ec202c5aabc220e22c9bf3981125df520717e1ae", func := "loop.example/endsoflife/laws.FnStepsOf", spec := "fnStepsOf", inPlace := ["internal/bytealg.IndexByteString", "internal/bytealg.IndexString"], unfollowed := true, recurses := true, named := ["internal/bytealg.MaxLen"], apart := false }
def FnStepsOfSaid : Prop := fnStepsOfRow.holds Try.pinned (OpenSpec.ofChange fnStepsOfSpec)

/-- ITS FALSE NEIGHBOUR: 'it returns false'. Refute it at one input. -/
def fnStepsOfWrong : ChangeSpec := { name := "fnStepsOf", fn := fun _ => fun
  | [d] => { results := [.lit (.bool false)], args := [d] }
  | _ => none }
def FnStepsOfWrongFalsely : Prop := fnStepsOfRow.holds Try.pinned (OpenSpec.ofChange fnStepsOfWrong)

/-- 'laws.FnExactPointsOf': WHATEVER THE INPUT: true; the input reads as it did. -/
def fnExactPointsOfSpec : ChangeSpec := { name := "fnExactPointsOf", fn := fun _ => fun
  | [d] => { results := [.lit (.bool true)], args := [d] }
  | _ => none }
def fnExactPointsOfRow : OpenClaim := { program := "ytelefbdgeefcbaa", sum := "58a8da5fa618abe0e5e673c3ec202c5aabc220e22c9bf3981125df520717e1ae", func := "loop.example/endsoflife/laws.FnExactPointsOf", spec := "fnExactPointsOf", inPlace := ["internal/bytealg.IndexByteString"], unfollowed := true, recurses := true, apart := false }
def FnExactPointsOfSaid : Prop := fnExactPointsOfRow.holds Try.pinned (OpenSpec.ofChange fnExactPointsOfSpec)

/-- ITS FALSE NEIGHBOUR: 'it returns false'. Refute it at one input. -/
def fnExactPointsOfWrong : ChangeSpec := { name := "fnExactPointsOf", fn := fun _ => fun
  | [d] => { results := [.lit (.bool false)], args := [d] }
  | _ => none }
def FnExactPointsOfWrongFalsely : Prop := fnExactPointsOfRow.holds Try.pinned (OpenSpec.ofChange fnExactPointsOfWrong)

/-- 'laws.FnExactPlanAt': WHATEVER THE INPUT: true; the input reads as it did. -/
def fnExactPlanAtSpec : ChangeSpec := { name := "fnExactPlanAt", fn := fun _ => fun
  | [d1, d2] => { results := [.lit (.bool true)], args := [d1, d2] }
  | _ => none }
def fnExactPlanAtRow : OpenClaim := { program := "ytelefbdgeefcbaa", sum := "58a8da5fa618abe0e5e673c3ec202c5aabc220e22c9bf3981125df520717e1ae", func := "loop.example/endsoflife/laws.FnExactPlanAt", spec := "fnExactPlanAt", inPlace := ["internal/bytealg.IndexByteString"], unfollowed := true, recurses := true, apart := false }
def FnExactPlanAtSaid : Prop := fnExactPlanAtRow.holds Try.pinned (OpenSpec.ofChange fnExactPlanAtSpec)

/-- ITS FALSE NEIGHBOUR: 'it returns false'. Refute it at one input. -/
def fnExactPlanAtWrong : ChangeSpec := { name := "fnExactPlanAt", fn := fun _ => fun
  | [d1, d2] => { results := [.lit (.bool false)], args := [d1, d2] }
  | _ => none }
def FnExactPlanAtWrongFalsely : Prop := fnExactPlanAtRow.holds Try.pinned (OpenSpec.ofChange fnExactPlanAtWrong)

/-- 'laws.FnExactPlansOf': WHATEVER THE INPUT: true; the input reads as it did. -/
def fnExactPlansOfSpec : ChangeSpec := { name := "fnExactPlansOf", fn := fun _ => fun
  | [d] => { results := [.lit (.bool true)], args := [d] }
  | _ => none }
def fnExactPlansOfRow : OpenClaim := { program := "ytelefbdgeefcbaa", sum := "58a8da5fa618abe0e5e673c3ec202c5aabc220e22c9bf3981125df520717e1ae", func := "loop.example/endsoflife/laws.FnExactPlansOf", spec := "fnExactPlansOf", inPlace := ["internal/bytealg.IndexByteString"], unfollowed := true, recurses := true, apart := false }
def FnExactPlansOfSaid : Prop := fnExactPlansOfRow.holds Try.pinned (OpenSpec.ofChange fnExactPlansOfSpec)

/-- ITS FALSE NEIGHBOUR: 'it returns false'. Refute it at one input. -/
def fnExactPlansOfWrong : ChangeSpec := { name := "fnExactPlansOf", fn := fun _ => fun
  | [d] => { results := [.lit (.bool false)], args := [d] }
  | _ => none }
def FnExactPlansOfWrongFalsely : Prop := fnExactPlansOfRow.holds Try.pinned (OpenSpec.ofChange fnExactPlansOfWrong)

/-- 'laws.FnExactFlagsOf': WHATEVER THE INPUT: true; the input reads as it did. -/
def fnExactFlagsOfSpec : ChangeSpec := { name := "fnExactFlagsOf", fn := fun _ => fun
  | [d] => { results := [.lit (.bool true)], args := [d] }
  | _ => none }
def fnExactFlagsOfRow : OpenClaim := { program := "ytelefbdgeefcbaa", sum := "58a8da5fa618abe0e5e673c3ec202c5aabc220e22c9bf3981125df520717e1ae", func := "loop.example/endsoflife/laws.FnExactFlagsOf", spec := "fnExactFlagsOf", inPlace := ["internal/bytealg.IndexByteString"], unfollowed := true, recurses := true, apart := false }
def FnExactFlagsOfSaid : Prop := fnExactFlagsOfRow.holds Try.pinned (OpenSpec.ofChange fnExactFlagsOfSpec)

/-- ITS FALSE NEIGHBOUR: 'it returns false'. Refute it at one input. -/
def fnExactFlagsOfWrong : ChangeSpec := { name := "fnExactFlagsOf", fn := fun _ => fun
  | [d] => { results := [.lit (.bool false)], args := [d] }
  | _ => none }
def FnExactFlagsOfWrongFalsely : Prop := fnExactFlagsOfRow.holds Try.pinned (OpenSpec.ofChange fnExactFlagsOfWrong)

/-- 'laws.FnExactIsWritten': WHATEVER THE INPUT: true; the input reads as it did. -/
def fnExactIsWrittenSpec : ChangeSpec := { name := "fnExactIsWritten", fn := fun _ => fun
  | [d] => { results := [.lit (.bool true)], args := [d] }
  | _ => none }
def fnExactIsWrittenRow : OpenClaim := { program := "ytelefbdgeefcbaa", sum := "58a8da5fa618abe0e5e673c3ec202c5aabc220e22c9bf3981125df520717e1ae", func := "loop.example/endsoflife/laws.FnExactIsWritten", spec := "fnExactIsWritten", inPlace := ["internal/bytealg.IndexByteString"], unfollowed := true, recurses := true, apart := false }
def FnExactIsWrittenSaid : Prop := fnExactIsWrittenRow.holds Try.pinned (OpenSpec.ofChange fnExactIsWrittenSpec)

/-- ITS FALSE NEIGHBOUR: 'it returns false'. Refute it at one input. -/
def fnExactIsWrittenWrong : ChangeSpec := { name := "fnExactIsWritten", fn := fun _ => fun
  | [d] => { results := [.lit (.bool false)], args := [d] }
  | _ => none }
def FnExactIsWrittenWrongFalsely : Prop := fnExactIsWrittenRow.holds Try.pinned (OpenSpec.ofChange fnExactIsWrittenWrong)

/-- 'laws.FnExactCountPlanned': WHATEVER THE INPUT: true; the input reads as it did. -/
def fnExactCountPlannedSpec : ChangeSpec := { name := "fnExactCountPlanned", fn := fun _ => fun
  | [d] => { results := [.lit (.bool true)], args := [d] }
  | _ => none }
def fnExactCountPlannedRow : OpenClaim := { program := "ytelefbdgeefcbaa", sum := "58a8da5fa618abe0e5e673c3ec202c5aabc220e22c9bf3981125df520717e1ae", func := "loop.example/endsoflife/laws.FnExactCountPlanned", spec := "fnExactCountPlanned", inPlace := ["internal/bytealg.IndexByteString", "internal/bytealg.CountString", "internal/bytealg.IndexString"], unfollowed := true, recurses := true, named := ["internal/bytealg.MaxLen"], apart := false }
def FnExactCountPlannedSaid : Prop := fnExactCountPlannedRow.holds Try.pinned (OpenSpec.ofChange fnExactCountPlannedSpec)

/-- ITS FALSE NEIGHBOUR: 'it returns false'. Refute it at one input. -/
def fnExactCountPlannedWrong : ChangeSpec := { name := "fnExactCountPlanned", fn := fun _ => fun
  | [d] => { results := [.lit (.bool false)], args := [d] }
  | _ => none }
def FnExactCountPlannedWrongFalsely : Prop := fnExactCountPlannedRow.holds Try.pinned (OpenSpec.ofChange fnExactCountPlannedWrong)

/- THE SECOND FORM. 'bulk': how many values and letters a reading holds, each counted each time it is reached (what is shared counts as often as it is met; a slice's spare places count too). A statement '..UptoSaid' is the law's where the arguments, and the package variables that the reading takes, are together of bulk at most 1048576: NARROWER than '..Said'. Prove '..Said' where nothing that the law and all that it calls make is longer than what came in: it says more and counts as full. Else prove '..UptoSaid'. A law counts once. -/
mutual
def uptoBulk {H : Type} : DataW H → Nat
  | .lit (.string bytes) => bytes.length + 1
  | .lit _ => 1
  | .nil => 1
  | .ptr d => uptoBulk d + 1
  | .slice elems spare => uptoBulkAll elems + uptoBulkAll spare + 1
  | .agg parts => uptoBulkAll parts + 1
  | .iface _ d => uptoBulk d + 1
  | .map entries => uptoBulkEntries entries + 1
  | .held _ => 1
def uptoBulkAll {H : Type} : List (DataW H) → Nat
  | [] => 0
  | d :: r => uptoBulk d + uptoBulkAll r
def uptoBulkEntries {H : Type} : List (Lit × DataW H) → Nat
  | [] => 0
  | x :: r => uptoBulkEntry x + uptoBulkEntries r
def uptoBulkEntry {H : Type} : Lit × DataW H → Nat
  | (.string bytes, d) => bytes.length + uptoBulk d + 1
  | (_, d) => uptoBulk d + 1
 end
def uptoSmall : (H : Type) → List (DataW H) → Bool := fun _ ds => decide (uptoBulkAll ds ≤ 1048576)
def OpenSpec.upto (s : _root_.Go.ChangeSpec) : _root_.Go.OpenSpec := { _root_.Go.OpenSpec.ofChange s with cond := some uptoSmall }

/-- 'laws.FnStepsOf', WHERE WHAT IT READS IS OF BULK AT MOST 1048576: true; the input reads as it did. -/
def fnStepsOfUptoRow : OpenClaim := { program := "ytelefbdgeefcbaa", sum := "58a8da5fa618abe0e5e673c3ec202c5aabc220e22c9bf3981125df520717e1ae", func := "loop.example/endsoflife/laws.FnStepsOf", spec := "fnStepsOf", inPlace := ["internal/bytealg.IndexByteString", "internal/bytealg.IndexString"], unfollowed := true, recurses := true, named := ["internal/bytealg.MaxLen"], apart := false, narrowed := true }
def FnStepsOfUptoSaid : Prop := fnStepsOfUptoRow.holds Try.pinned (OpenSpec.upto fnStepsOfSpec)

/-- 'laws.FnExactPointsOf', WHERE WHAT IT READS IS OF BULK AT MOST 1048576: true; the input reads as it did. -/
def fnExactPointsOfUptoRow : OpenClaim := { program := "ytelefbdgeefcbaa", sum := "58a8da5fa618abe0e5e673c3ec202c5aabc220e22c9bf3981125df520717e1ae", func := "loop.example/endsoflife/laws.FnExactPointsOf", spec := "fnExactPointsOf", inPlace := ["internal/bytealg.IndexByteString"], unfollowed := true, recurses := true, apart := false, narrowed := true }
def FnExactPointsOfUptoSaid : Prop := fnExactPointsOfUptoRow.holds Try.pinned (OpenSpec.upto fnExactPointsOfSpec)

/-- 'laws.FnExactPlanAt', WHERE WHAT IT READS IS OF BULK AT MOST 1048576: true; the input reads as it did. -/
def fnExactPlanAtUptoRow : OpenClaim := { program := "ytelefbdgeefcbaa", sum := "58a8da5fa618abe0e5e673c3ec202c5aabc220e22c9bf3981125df520717e1ae", func := "loop.example/endsoflife/laws.FnExactPlanAt", spec := "fnExactPlanAt", inPlace := ["internal/bytealg.IndexByteString"], unfollowed := true, recurses := true, apart := false, narrowed := true }
def FnExactPlanAtUptoSaid : Prop := fnExactPlanAtUptoRow.holds Try.pinned (OpenSpec.upto fnExactPlanAtSpec)

/-- 'laws.FnExactPlansOf', WHERE WHAT IT READS IS OF BULK AT MOST 1048576: true; the input reads as it did. -/
def fnExactPlansOfUptoRow : OpenClaim := { program := "ytelefbdgeefcbaa", sum := "58a8da5fa618abe0e5e673c3ec202c5aabc220e22c9bf3981125df520717e1ae", func := "loop.example/endsoflife/laws.FnExactPlansOf", spec := "fnExactPlansOf", inPlace := ["internal/bytealg.IndexByteString"], unfollowed := true, recurses := true, apart := false, narrowed := true }
def FnExactPlansOfUptoSaid : Prop := fnExactPlansOfUptoRow.holds Try.pinned (OpenSpec.upto fnExactPlansOfSpec)

/-- 'laws.FnExactFlagsOf', WHERE WHAT IT READS IS OF BULK AT MOST 1048576: true; the input reads as it did. -/
def fnExactFlagsOfUptoRow : OpenClaim := { program := "ytelefbdgeefcbaa", sum := "58a8da5fa618abe0e5e673c3ec202c5aabc220e22c9bf3981125df520717e1ae", func := "loop.example/endsoflife/laws.FnExactFlagsOf", spec := "fnExactFlagsOf", inPlace := ["internal/bytealg.IndexByteString"], unfollowed := true, recurses := true, apart := false, narrowed := true }
def FnExactFlagsOfUptoSaid : Prop := fnExactFlagsOfUptoRow.holds Try.pinned (OpenSpec.upto fnExactFlagsOfSpec)

/-- 'laws.FnExactIsWritten', WHERE WHAT IT READS IS OF BULK AT MOST 1048576: true; the input reads as it did. -/
def fnExactIsWrittenUptoRow : OpenClaim := { program := "ytelefbdgeefcbaa", sum := "58a8da5fa618abe0e5e673c3ec202c5aabc220e22c9bf3981125df520717e1ae", func := "loop.example/endsoflife/laws.FnExactIsWritten", spec := "fnExactIsWritten", inPlace := ["internal/bytealg.IndexByteString"], unfollowed := true, recurses := true, apart := false, narrowed := true }
def FnExactIsWrittenUptoSaid : Prop := fnExactIsWrittenUptoRow.holds Try.pinned (OpenSpec.upto fnExactIsWrittenSpec)

/-- 'laws.FnExactCountPlanned', WHERE WHAT IT READS IS OF BULK AT MOST 1048576: true; the input reads as it did. -/
def fnExactCountPlannedUptoRow : OpenClaim := { program := "ytelefbdgeefcbaa", sum := "58a8da5fa618abe0e5e673c3ec202c5aabc220e22c9bf3981125df520717e1ae", func := "loop.example/endsoflife/laws.FnExactCountPlanned", spec := "fnExactCountPlanned", inPlace := ["internal/bytealg.IndexByteString", "internal/bytealg.CountString", "internal/bytealg.IndexString"], unfollowed := true, recurses := true, named := ["internal/bytealg.MaxLen"], apart := false, narrowed := true }
def FnExactCountPlannedUptoSaid : Prop := fnExactCountPlannedUptoRow.holds Try.pinned (OpenSpec.upto fnExactCountPlannedSpec)

end Rows
end Go.Proofs.Ytelefbdgeefcbaa
