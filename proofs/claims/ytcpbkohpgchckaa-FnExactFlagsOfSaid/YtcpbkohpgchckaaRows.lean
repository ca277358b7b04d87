/-
  No cell of these rows narrows 'for every input' (looked for: loops, veiled, ifaces, maps, wideKeys, modest, calm, conditions, laid).
  DERIVED. THE GIVEN ROWS OF THIS SEAT. 6 by the template 'for every input the law returns true; each argument reads behind the call as it read before'; 0 by the template 'total and deterministic' (their statements: YtcpbkohpgchckaaTotals.lean).
  GIVEN WITH THE SEED: the statements are not yours to turn. If you find one false, say at which input.
  Laid BY PROGRAM, IN A SANDBOX (cutbox-rows.mjs): the forced cells as the released guide's own fill.sh prints them over the translation 855074b3d6d9c1a3… (all of the seat's roots in one cut). By AI agents, Wed Nov 11 2026. No macro, syntax, notation, axiom, sorry.
-/
import Derived.Test.YtcpbkohpgchckaaChecked
import GoSem.Claim
import GoSem.ClaimJoined
import GoSem.ClaimMapViews
import Derived.JoinedTies
import Derived.KernelRfl
namespace Go.Proofs.Ytcpbkohpgchckaa
/- THE CELL 'sum', in the pinned program and in every row, IS THE sha256 OF THE DUMP (.gsa) THAT YtcpbkohpgchckaaProg.lean LOADS. Nothing in Lean hashes anything: it is a label: what it is worth is what the hold of that sum in a sandbox is worth. -/
noncomputable def Try.pinned : Pinned := { name := "ytcpbkohpgchckaa", sum := "855074b3d6d9c1a371da81ece54686c1a67ac112828dc68fdaf2dff50572f390", checked := Try.checked }
namespace Rows
def none {H : Type} : Left H := { results := [], args := [] }

/-- 'laws.FnStepsOf': WHATEVER THE INPUT: true; the input reads as it did. -/
def fnStepsOfSpec : ChangeSpec := { name := "fnStepsOf", fn := fun _ => fun
  | [d] => { results := [.lit (.bool true)], args := [d] }
  | _ => none }
def fnStepsOfRow : OpenClaim := { program := "ytcpbkohpgchckaa", sum := "855074b3d6d9c1a371da81ece54686c1a67ac112828dc68fdaf2dff50572f390", func := "loop.example/endsoflife/laws.FnStepsOf", spec := "fnStepsOf", inPlace := ["internal/bytealg.IndexByteString", "internal/bytealg.IndexString"], unfollowed := true, recurses := true, named := ["internal/bytealg.MaxLen"], apart := false }
def FnStepsOfSaid : Prop := fnStepsOfRow.holds Try.pinned (OpenSpec.ofChange fnStepsOfSpec)

/-- ITS FALSE NEIGHBOUR: 'it returns false'. Refute it at one input. -/
def fnStepsOfWrong : ChangeSpec := { name := "fnStepsOf", fn := fun _ => fun
  | [d] => { results := [.lit (.bool false)], args := [d] }
  | _ => none }
def FnStepsOfWrongFalsely : Prop := fnStepsOfRow.holds Try.pinned (OpenSpec.ofChange fnStepsOfWrong)

/-- 'laws.FnExactFlagsOf': WHATEVER THE INPUT: true; the input reads as it did. -/
def fnExactFlagsOfSpec : ChangeSpec := { name := "fnExactFlagsOf", fn := fun _ => fun
  | [d] => { results := [.lit (.bool true)], args := [d] }
  | _ => none }
def fnExactFlagsOfRow : OpenClaim := { program := "ytcpbkohpgchckaa", sum := "855074b3d6d9c1a371da81ece54686c1a67ac112828dc68fdaf2dff50572f390", func := "loop.example/endsoflife/laws.FnExactFlagsOf", spec := "fnExactFlagsOf", inPlace := ["internal/bytealg.IndexByteString"], unfollowed := true, recurses := true, apart := false }
def FnExactFlagsOfSaid : Prop := fnExactFlagsOfRow.holds Try.pinned (OpenSpec.ofChange fnExactFlagsOfSpec)

/-- ITS FALSE NEIGHBOUR: 'it returns false'. Refute it at one input. -/
def fnExactFlagsOfWrong : ChangeSpec := { name := "fnExactFlagsOf", fn := fun _ => fun
  | [d] => { results := [.lit (.bool false)], args := [d] }
  | _ => none }
def FnExactFlagsOfWrongFalsely : Prop := fnExactFlagsOfRow.holds Try.pinned (OpenSpec.ofChange fnExactFlagsOfWrong)

/-- 'laws.FnExactExitsOf': WHATEVER THE INPUT: true; the input reads as it did. -/
def fnExactExitsOfSpec : ChangeSpec := { name := "fnExactExitsOf", fn := fun _ => fun
  | [d] => { results := [.lit (.bool true)], args := [d] }
  | _ => none }
def fnExactExitsOfRow : OpenClaim := { program := "ytcpbkohpgchckaa", sum := "855074b3d6d9c1a371da81ece54686c1a67ac112828dc68fdaf2dff50572f390", func := "loop.example/endsoflife/laws.FnExactExitsOf", spec := "fnExactExitsOf", inPlace := ["internal/bytealg.IndexByteString"], unfollowed := true, recurses := true, apart := false }
def FnExactExitsOfSaid : Prop := fnExactExitsOfRow.holds Try.pinned (OpenSpec.ofChange fnExactExitsOfSpec)

/-- ITS FALSE NEIGHBOUR: 'it returns false'. Refute it at one input. -/
def fnExactExitsOfWrong : ChangeSpec := { name := "fnExactExitsOf", fn := fun _ => fun
  | [d] => { results := [.lit (.bool false)], args := [d] }
  | _ => none }
def FnExactExitsOfWrongFalsely : Prop := fnExactExitsOfRow.holds Try.pinned (OpenSpec.ofChange fnExactExitsOfWrong)

/-- 'laws.FnExactCleanupOf': WHATEVER THE INPUT: true; the input reads as it did. -/
def fnExactCleanupOfSpec : ChangeSpec := { name := "fnExactCleanupOf", fn := fun _ => fun
  | [d1, d2] => { results := [.lit (.bool true)], args := [d1, d2] }
  | _ => none }
def fnExactCleanupOfRow : OpenClaim := { program := "ytcpbkohpgchckaa", sum := "855074b3d6d9c1a371da81ece54686c1a67ac112828dc68fdaf2dff50572f390", func := "loop.example/endsoflife/laws.FnExactCleanupOf", spec := "fnExactCleanupOf", inPlace := ["internal/bytealg.IndexByteString"], unfollowed := true, recurses := true, apart := false }
def FnExactCleanupOfSaid : Prop := fnExactCleanupOfRow.holds Try.pinned (OpenSpec.ofChange fnExactCleanupOfSpec)

/-- ITS FALSE NEIGHBOUR: 'it returns false'. Refute it at one input. -/
def fnExactCleanupOfWrong : ChangeSpec := { name := "fnExactCleanupOf", fn := fun _ => fun
  | [d1, d2] => { results := [.lit (.bool false)], args := [d1, d2] }
  | _ => none }
def FnExactCleanupOfWrongFalsely : Prop := fnExactCleanupOfRow.holds Try.pinned (OpenSpec.ofChange fnExactCleanupOfWrong)

/-- 'laws.FnExactCountAlone': WHATEVER THE INPUT: true; the input reads as it did. -/
def fnExactCountAloneSpec : ChangeSpec := { name := "fnExactCountAlone", fn := fun _ => fun
  | [d] => { results := [.lit (.bool true)], args := [d] }
  | _ => none }
def fnExactCountAloneRow : OpenClaim := { program := "ytcpbkohpgchckaa", sum := "855074b3d6d9c1a371da81ece54686c1a67ac112828dc68fdaf2dff50572f390", func := "loop.example/endsoflife/laws.FnExactCountAlone", spec := "fnExactCountAlone", inPlace := ["internal/bytealg.IndexByteString"], unfollowed := true, recurses := true, apart := false }
def FnExactCountAloneSaid : Prop := fnExactCountAloneRow.holds Try.pinned (OpenSpec.ofChange fnExactCountAloneSpec)

/-- ITS FALSE NEIGHBOUR: 'it returns false'. Refute it at one input. -/
def fnExactCountAloneWrong : ChangeSpec := { name := "fnExactCountAlone", fn := fun _ => fun
  | [d] => { results := [.lit (.bool false)], args := [d] }
  | _ => none }
def FnExactCountAloneWrongFalsely : Prop := fnExactCountAloneRow.holds Try.pinned (OpenSpec.ofChange fnExactCountAloneWrong)

/-- 'laws.FnExactCommonTail': WHATEVER THE INPUT: true; the input reads as it did. -/
def fnExactCommonTailSpec : ChangeSpec := { name := "fnExactCommonTail", fn := fun _ => fun
  | [d1, d2, d3] => { results := [.lit (.bool true)], args := [d1, d2, d3] }
  | _ => none }
def fnExactCommonTailRow : OpenClaim := { program := "ytcpbkohpgchckaa", sum := "855074b3d6d9c1a371da81ece54686c1a67ac112828dc68fdaf2dff50572f390", func := "loop.example/endsoflife/laws.FnExactCommonTail", spec := "fnExactCommonTail", inPlace := ["internal/bytealg.IndexByteString"], unfollowed := true, recurses := true, apart := false }
def FnExactCommonTailSaid : Prop := fnExactCommonTailRow.holds Try.pinned (OpenSpec.ofChange fnExactCommonTailSpec)

/-- ITS FALSE NEIGHBOUR: 'it returns false'. Refute it at one input. -/
def fnExactCommonTailWrong : ChangeSpec := { name := "fnExactCommonTail", fn := fun _ => fun
  | [d1, d2, d3] => { results := [.lit (.bool false)], args := [d1, d2, d3] }
  | _ => none }
def FnExactCommonTailWrongFalsely : Prop := fnExactCommonTailRow.holds Try.pinned (OpenSpec.ofChange fnExactCommonTailWrong)

/- THE SECOND FORM. 'bulk': how many values and letters a reading holds, each counted each time it is reached (what is shared counts as often as it is met; a slice's spare places count too). A statement '..UptoSaid' is the law's where the arguments, and the package variables that the reading takes, are together of bulk at most 1048576: NARROWER than '..Said'. Prove '..Said' where nothing that the law and all that it calls make is longer than what came in: it says more and counts as full. Else prove '..UptoSaid'. A law counts once. -/
mutual
def uptoBulk {H : Type} : DataW H → Nat
  | .lit (.string bytes) => bytes.length + 1
  | .lit _ => 1
  | .nil => 1
  | .ptr d => uptoBulk d + 1
  | .slice elems spare => uptoBulkAll elems + uptoBulkAll spare + 1
  | .agg parts => uptoBulkAll parts + 1
  | .iface _ d => uptoBulk d + 1
  | .map entries => uptoBulkEntries entries + 1
  | .held _ => 1
def uptoBulkAll {H : Type} : List (DataW H) → Nat
  | [] => 0
  | d :: r => uptoBulk d + uptoBulkAll r
def uptoBulkEntries {H : Type} : List (Lit × DataW H) → Nat
  | [] => 0
  | x :: r => uptoBulkEntry x + uptoBulkEntries r
def uptoBulkEntry {H : Type} : Lit × DataW H → Nat
  | (.string bytes, d) => bytes.length + uptoBulk d + 1
  | (_, d) => uptoBulk d + 1
 end
def uptoSmall : (H : Type) → List (DataW H) → Bool := fun _ ds => decide (uptoBulkAll ds ≤ 1048576)
def OpenSpec.upto (s : _root_.Go.ChangeSpec) : _root_.Go.OpenSpec := { _root_.Go.OpenSpec.ofChange s with cond := some uptoSmall }

/-- 'laws.FnStepsOf', WHERE WHAT IT READS IS OF BULK AT MOST 1048576: true; the input reads as it did. -/
def fnStepsOfUptoRow : OpenClaim := { program := "ytcpbkohpgchckaa", sum := "855074b3d6d9c1a371da81ece54686c1a67ac112828dc68fdaf2dff50572f390", func := "loop.example/endsoflife/laws.FnStepsOf", spec := "fnStepsOf", inPlace := ["internal/bytealg.IndexByteString", "internal/bytealg.IndexString"], unfollowed := true, recurses := true, named := ["internal/bytealg.MaxLen"], apart := false, narrowed := true }
def FnStepsOfUptoSaid : Prop := fnStepsOfUptoRow.holds Try.pinned (OpenSpec.upto fnStepsOfSpec)

/-- 'laws.FnExactFlagsOf', WHERE WHAT IT READS IS OF BULK AT MOST 1048576: true; the input reads as it did. -/
def fnExactFlagsOfUptoRow : OpenClaim := { program := "ytcpbkohpgchckaa", sum := "855074b3d6d9c1a371da81ece54686c1a67ac112828dc68fdaf2dff50572f390", func := "loop.example/endsoflife/laws.FnExactFlagsOf", spec := "fnExactFlagsOf", inPlace := ["internal/bytealg.IndexByteString"], unfollowed := true, recurses := true, apart := false, narrowed := true }
def FnExactFlagsOfUptoSaid : Prop := fnExactFlagsOfUptoRow.holds Try.pinned (OpenSpec.upto fnExactFlagsOfSpec)

/-- 'laws.FnExactExitsOf', WHERE WHAT IT READS IS OF BULK AT MOST 1048576: true; the input reads as it did. -/
def fnExactExitsOfUptoRow : OpenClaim := { program := "ytcpbkohpgchckaa", sum := "855074b3d6d9c1a371da81ece54686c1a67ac112828dc68fdaf2dff50572f390", func := "loop.example/endsoflife/laws.FnExactExitsOf", spec := "fnExactExitsOf", inPlace := ["internal/bytealg.IndexByteString"], unfollowed := true, recurses := true, apart := false, narrowed := true }
def FnExactExitsOfUptoSaid : Prop := fnExactExitsOfUptoRow.holds Try.pinned (OpenSpec.upto fnExactExitsOfSpec)

/-- 'laws.FnExactCleanupOf', WHERE WHAT IT READS IS OF BULK AT MOST 1048576: true; the input reads as it did. -/
def fnExactCleanupOfUptoRow : OpenClaim := { program := "ytcpbkohpgchckaa", sum := "855074b3d6d9c1a371da81ece54686c1a67ac112828dc68fdaf2dff50572f390", func := "loop.example/endsoflife/laws.FnExactCleanupOf", spec := "fnExactCleanupOf", inPlace := ["internal/bytealg.IndexByteString"], unfollowed := true, recurses := true, apart := false, narrowed := true }
def FnExactCleanupOfUptoSaid : Prop := fnExactCleanupOfUptoRow.holds Try.pinned (OpenSpec.upto fnExactCleanupOfSpec)

/-- 'laws.FnExactCountAlone', WHERE WHAT IT READS IS OF BULK AT MOST 1048576: true; the input reads as it did. -/
def fnExactCountAloneUptoRow : OpenClaim := { program := "ytcpbkohpgchckaa", sum := "855074b3d6d9c1a371da81ece54686c1a67ac112828dc68fdaf2dff50572f390", func := "loop.example/endsoflife/laws.FnExactCountAlone", spec := "fnExactCountAlone", inPlace := ["internal/bytealg.IndexByteString"], unfollowed := true, recurses := true, apart := false, narrowed := true }
def FnExactCountAloneUptoSaid : Prop := fnExactCountAloneUptoRow.holds Try.pinned (OpenSpec.upto fnExactCountAloneSpec)

/-- 'laws.FnExactCommonTail', WHERE WHAT IT READS IS OF BULK AT MOST 1048576: true; the input reads as it did. -/
def fnExactCommonTailUptoRow : OpenClaim := { program := "ytcpbkohpgchckaa", sum := "855074b3d6d9c1a371da81ece54686c1a67ac112828dc68fdaf2dff50572f390", func := "loop.example/endsoflife/laws.FnExactCommonTail", spec := "fnExactCommonTail", inPlace := ["internal/bytealg.IndexByteString"], unfollowed := true, recurses := true, apart := false, narrowed := true }
def FnExactCommonTailUptoSaid : Prop := fnExactCommonTailUptoRow.holds Try.pinned (OpenSpec.upto fnExactCommonTailSpec)

end Rows
end Go.Proofs.Ytcpbkohpgchckaa
