/-
  No cell of these rows narrows 'for every input' (looked for: loops, veiled, ifaces, maps, wideKeys, modest, calm, conditions, laid).
  DERIVED. THE GIVEN ROWS OF THIS SEAT. 6 by the template 'for every input the law returns true; each argument reads behind the call as it read before'; 0 by the template 'total and deterministic' (their statements: YtlilkmemgomnjaaTotals.lean).
  GIVEN WITH THE SEED: the statements are not yours to turn. If you find one false, say at which input.
  Laid BY PROGRAM, IN A SANDBOX (cutbox-rows.mjs): the forced cells as the released guide's own fill.sh prints them over the translation e985d6509f29471c… (all of the seat's roots in one cut). By AI agents, Wed Nov 11 2026. No macro, syntax, notation, axiom, sorry.
-/
import Derived.Test.YtlilkmemgomnjaaChecked
import GoSem.Claim
import GoSem.ClaimJoined
import GoSem.ClaimMapViews
import Derived.JoinedTies
import Derived.KernelRfl
namespace Go.Proofs.Ytlilkmemgomnjaa
/- THE CELL 'sum', in the pinned program and in every row, IS THE sha256 OF THE DUMP (.gsa) THAT YtlilkmemgomnjaaProg.lean LOADS. Nothing in Lean hashes anything: it is a label: what it is worth is what the hold of that sum in a sandbox is worth. -/
noncomputable def Try.pinned : Pinned := { name := "ytlilkmemgomnjaa", sum := "e985d6509f29471c361eb942779b8dbbd82e9c9da07fdda81d24ccf2087f6631", checked := Try.checked }
namespace Rows
def none {H : Type} : Left H := { results := [], args := [] }

/-- 'laws.FnStepsOf': WHATEVER THE INPUT: true; the input reads as it did. -/
def fnStepsOfSpec : ChangeSpec := { name := "fnStepsOf", fn := fun _ => fun
  | [d] => { results := [.lit (.bool true)], args := [d] }
  | _ => none }
def fnStepsOfRow : OpenClaim := { program := "ytlilkmemgomnjaa", sum := "e985d6509f29471c361eb942779b8dbbd82e9c9da07fdda81d24ccf2087f6631", func := "loop.example/endsoflife/laws.FnStepsOf", spec := "fnStepsOf", inPlace := ["internal/bytealg.IndexByteString", "internal/bytealg.IndexString"], unfollowed := true, recurses := true, named := ["internal/bytealg.MaxLen"], apart := false }
def FnStepsOfSaid : Prop := fnStepsOfRow.holds Try.pinned (OpenSpec.ofChange fnStepsOfSpec)

/-- ITS FALSE NEIGHBOUR: 'it returns false'. Refute it at one input. -/
def fnStepsOfWrong : ChangeSpec := { name := "fnStepsOf", fn := fun _ => fun
  | [d] => { results := [.lit (.bool false)], args := [d] }
  | _ => none }
def FnStepsOfWrongFalsely : Prop := fnStepsOfRow.holds Try.pinned (OpenSpec.ofChange fnStepsOfWrong)

/-- 'laws.FnExactMayHold': WHATEVER THE INPUT: true; the input reads as it did. -/
def fnExactMayHoldSpec : ChangeSpec := { name := "fnExactMayHold", fn := fun _ => fun
  | [d1, d2] => { results := [.lit (.bool true)], args := [d1, d2] }
  | _ => none }
def fnExactMayHoldRow : OpenClaim := { program := "ytlilkmemgomnjaa", sum := "e985d6509f29471c361eb942779b8dbbd82e9c9da07fdda81d24ccf2087f6631", func := "loop.example/endsoflife/laws.FnExactMayHold", spec := "fnExactMayHold", inPlace := ["internal/bytealg.IndexByteString"], unfollowed := true, recurses := true, apart := false }
def FnExactMayHoldSaid : Prop := fnExactMayHoldRow.holds Try.pinned (OpenSpec.ofChange fnExactMayHoldSpec)

/-- ITS FALSE NEIGHBOUR: 'it returns false'. Refute it at one input. -/
def fnExactMayHoldWrong : ChangeSpec := { name := "fnExactMayHold", fn := fun _ => fun
  | [d1, d2] => { results := [.lit (.bool false)], args := [d1, d2] }
  | _ => none }
def FnExactMayHoldWrongFalsely : Prop := fnExactMayHoldRow.holds Try.pinned (OpenSpec.ofChange fnExactMayHoldWrong)

/-- 'laws.FnExactMustHold': WHATEVER THE INPUT: true; the input reads as it did. -/
def fnExactMustHoldSpec : ChangeSpec := { name := "fnExactMustHold", fn := fun _ => fun
  | [d1, d2] => { results := [.lit (.bool true)], args := [d1, d2] }
  | _ => none }
def fnExactMustHoldRow : OpenClaim := { program := "ytlilkmemgomnjaa", sum := "e985d6509f29471c361eb942779b8dbbd82e9c9da07fdda81d24ccf2087f6631", func := "loop.example/endsoflife/laws.FnExactMustHold", spec := "fnExactMustHold", inPlace := ["internal/bytealg.IndexByteString"], unfollowed := true, recurses := true, apart := false }
def FnExactMustHoldSaid : Prop := fnExactMustHoldRow.holds Try.pinned (OpenSpec.ofChange fnExactMustHoldSpec)

/-- ITS FALSE NEIGHBOUR: 'it returns false'. Refute it at one input. -/
def fnExactMustHoldWrong : ChangeSpec := { name := "fnExactMustHold", fn := fun _ => fun
  | [d1, d2] => { results := [.lit (.bool false)], args := [d1, d2] }
  | _ => none }
def FnExactMustHoldWrongFalsely : Prop := fnExactMustHoldRow.holds Try.pinned (OpenSpec.ofChange fnExactMustHoldWrong)

/-- 'laws.FnExactIsReached': WHATEVER THE INPUT: true; the input reads as it did. -/
def fnExactIsReachedSpec : ChangeSpec := { name := "fnExactIsReached", fn := fun _ => fun
  | [d1, d2] => { results := [.lit (.bool true)], args := [d1, d2] }
  | _ => none }
def fnExactIsReachedRow : OpenClaim := { program := "ytlilkmemgomnjaa", sum := "e985d6509f29471c361eb942779b8dbbd82e9c9da07fdda81d24ccf2087f6631", func := "loop.example/endsoflife/laws.FnExactIsReached", spec := "fnExactIsReached", inPlace := ["internal/bytealg.IndexByteString"], unfollowed := true, recurses := true, apart := false }
def FnExactIsReachedSaid : Prop := fnExactIsReachedRow.holds Try.pinned (OpenSpec.ofChange fnExactIsReachedSpec)

/-- ITS FALSE NEIGHBOUR: 'it returns false'. Refute it at one input. -/
def fnExactIsReachedWrong : ChangeSpec := { name := "fnExactIsReached", fn := fun _ => fun
  | [d1, d2] => { results := [.lit (.bool false)], args := [d1, d2] }
  | _ => none }
def FnExactIsReachedWrongFalsely : Prop := fnExactIsReachedRow.holds Try.pinned (OpenSpec.ofChange fnExactIsReachedWrong)

/-- 'laws.FnExactCanEnd': WHATEVER THE INPUT: true; the input reads as it did. -/
def fnExactCanEndSpec : ChangeSpec := { name := "fnExactCanEnd", fn := fun _ => fun
  | [d] => { results := [.lit (.bool true)], args := [d] }
  | _ => none }
def fnExactCanEndRow : OpenClaim := { program := "ytlilkmemgomnjaa", sum := "e985d6509f29471c361eb942779b8dbbd82e9c9da07fdda81d24ccf2087f6631", func := "loop.example/endsoflife/laws.FnExactCanEnd", spec := "fnExactCanEnd", inPlace := ["internal/bytealg.IndexByteString"], unfollowed := true, recurses := true, apart := false }
def FnExactCanEndSaid : Prop := fnExactCanEndRow.holds Try.pinned (OpenSpec.ofChange fnExactCanEndSpec)

/-- ITS FALSE NEIGHBOUR: 'it returns false'. Refute it at one input. -/
def fnExactCanEndWrong : ChangeSpec := { name := "fnExactCanEnd", fn := fun _ => fun
  | [d] => { results := [.lit (.bool false)], args := [d] }
  | _ => none }
def FnExactCanEndWrongFalsely : Prop := fnExactCanEndRow.holds Try.pinned (OpenSpec.ofChange fnExactCanEndWrong)

/-- 'laws.FnExactUnsureAt': WHATEVER THE INPUT: true; the input reads as it did. -/
def fnExactUnsureAtSpec : ChangeSpec := { name := "fnExactUnsureAt", fn := fun _ => fun
  | [d1, d2] => { results := [.lit (.bool true)], args := [d1, d2] }
  | _ => none }
def fnExactUnsureAtRow : OpenClaim := { program := "ytlilkmemgomnjaa", sum := "e985d6509f29471c361eb942779b8dbbd82e9c9da07fdda81d24ccf2087f6631", func := "loop.example/endsoflife/laws.FnExactUnsureAt", spec := "fnExactUnsureAt", inPlace := ["internal/bytealg.IndexByteString"], unfollowed := true, recurses := true, apart := false }
def FnExactUnsureAtSaid : Prop := fnExactUnsureAtRow.holds Try.pinned (OpenSpec.ofChange fnExactUnsureAtSpec)

/-- ITS FALSE NEIGHBOUR: 'it returns false'. Refute it at one input. -/
def fnExactUnsureAtWrong : ChangeSpec := { name := "fnExactUnsureAt", fn := fun _ => fun
  | [d1, d2] => { results := [.lit (.bool false)], args := [d1, d2] }
  | _ => none }
def FnExactUnsureAtWrongFalsely : Prop := fnExactUnsureAtRow.holds Try.pinned (OpenSpec.ofChange fnExactUnsureAtWrong)

/- THE SECOND FORM. 'bulk': how many values and letters a reading holds, each counted each time it is reached (what is shared counts as often as it is met; a slice's spare places count too). A statement '..UptoSaid' is the law's where the arguments, and the package variables that the reading takes, are together of bulk at most 1048576: NARROWER than '..Said'. Prove '..Said' where nothing that the law and all that it calls make is longer than what came in: it says more and counts as full. Else prove '..UptoSaid'. A law counts once. -/
mutual
def uptoBulk {H : Type} : DataW H → Nat
  | .lit (.string bytes) => bytes.length + 1
  | .lit _ => 1
  | .nil => 1
  | .ptr d => uptoBulk d + 1
  | .slice elems spare => uptoBulkAll elems + uptoBulkAll spare + 1
  | .agg parts => uptoBulkAll parts + 1
  | .iface _ d => uptoBulk d + 1
  | .map entries => uptoBulkEntries entries + 1
  | .held _ => 1
def uptoBulkAll {H : Type} : List (DataW H) → Nat
  | [] => 0
  | d :: r => uptoBulk d + uptoBulkAll r
def uptoBulkEntries {H : Type} : List (Lit × DataW H) → Nat
  | [] => 0
  | x :: r => uptoBulkEntry x + uptoBulkEntries r
def uptoBulkEntry {H : Type} : Lit × DataW H → Nat
  | (.string bytes, d) => bytes.length + uptoBulk d + 1
  | (_, d) => uptoBulk d + 1
 end
def uptoSmall : (H : Type) → List (DataW H) → Bool := fun _ ds => decide (uptoBulkAll ds ≤ 1048576)
def OpenSpec.upto (s : _root_.Go.ChangeSpec) : _root_.Go.OpenSpec := { _root_.Go.OpenSpec.ofChange s with cond := some uptoSmall }

/-- 'laws.FnStepsOf', WHERE WHAT IT READS IS OF BULK AT MOST 1048576: true; the input reads as it did. -/
def fnStepsOfUptoRow : OpenClaim := { program := "ytlilkmemgomnjaa", sum := "e985d6509f29471c361eb942779b8dbbd82e9c9da07fdda81d24ccf2087f6631", func := "loop.example/endsoflife/laws.FnStepsOf", spec := "fnStepsOf", inPlace := ["internal/bytealg.IndexByteString", "internal/bytealg.IndexString"], unfollowed := true, recurses := true, named := ["internal/bytealg.MaxLen"], apart := false, narrowed := true }
def FnStepsOfUptoSaid : Prop := fnStepsOfUptoRow.holds Try.pinned (OpenSpec.upto fnStepsOfSpec)

/-- 'laws.FnExactMayHold', WHERE WHAT IT READS IS OF BULK AT MOST 1048576: true; the input reads as it did. -/
def fnExactMayHoldUptoRow : OpenClaim := { program := "ytlilkmemgomnjaa", sum := "e985d6509f29471c361eb942779b8dbbd82e9c9da07fdda81d24ccf2087f6631", func := "loop.example/endsoflife/laws.FnExactMayHold", spec := "fnExactMayHold", inPlace := ["internal/bytealg.IndexByteString"], unfollowed := true, recurses := true, apart := false, narrowed := true }
def FnExactMayHoldUptoSaid : Prop := fnExactMayHoldUptoRow.holds Try.pinned (OpenSpec.upto fnExactMayHoldSpec)

/-- 'laws.FnExactMustHold', WHERE WHAT IT READS IS OF BULK AT MOST 1048576: true; the input reads as it did. -/
def fnExactMustHoldUptoRow : OpenClaim := { program := "ytlilkmemgomnjaa", sum := "e985d6509f29471c361eb942779b8dbbd82e9c9da07fdda81d24ccf2087f6631", func := "loop.example/endsoflife/laws.FnExactMustHold", spec := "fnExactMustHold", inPlace := ["internal/bytealg.IndexByteString"], unfollowed := true, recurses := true, apart := false, narrowed := true }
def FnExactMustHoldUptoSaid : Prop := fnExactMustHoldUptoRow.holds Try.pinned (OpenSpec.upto fnExactMustHoldSpec)

/-- 'laws.FnExactIsReached', WHERE WHAT IT READS IS OF BULK AT MOST 1048576: true; the input reads as it did. -/
def fnExactIsReachedUptoRow : OpenClaim := { program := "ytlilkmemgomnjaa", sum := "e985d6509f29471c361eb942779b8dbbd82e9c9da07fdda81d24ccf2087f6631", func := "loop.example/endsoflife/laws.FnExactIsReached", spec := "fnExactIsReached", inPlace := ["internal/bytealg.IndexByteString"], unfollowed := true, recurses := true, apart := false, narrowed := true }
def FnExactIsReachedUptoSaid : Prop := fnExactIsReachedUptoRow.holds Try.pinned (OpenSpec.upto fnExactIsReachedSpec)

/-- 'laws.FnExactCanEnd', WHERE WHAT IT READS IS OF BULK AT MOST 1048576: true; the input reads as it did. -/
def fnExactCanEndUptoRow : OpenClaim := { program := "ytlilkmemgomnjaa", sum := "e985d6509f29471c361eb942779b8dbbd82e9c9da07fdda81d24ccf2087f6631", func := "loop.example/endsoflife/laws.FnExactCanEnd", spec := "fnExactCanEnd", inPlace := ["internal/bytealg.IndexByteString"], unfollowed := true, recurses := true, apart := false, narrowed := true }
def FnExactCanEndUptoSaid : Prop := fnExactCanEndUptoRow.holds Try.pinned (OpenSpec.upto fnExactCanEndSpec)

/-- 'laws.FnExactUnsureAt', WHERE WHAT IT READS IS OF BULK AT MOST 1048576: true; the input reads as it did. -/
def fnExactUnsureAtUptoRow : OpenClaim := { program := "ytlilkmemgomnjaa", sum := "e985d6509f29471c361eb942779b8dbbd82e9c9da07fdda81d24ccf2087f6631", func := "loop.example/endsoflife/laws.FnExactUnsureAt", spec := "fnExactUnsureAt", inPlace := ["internal/bytealg.IndexByteString"], unfollowed := true, recurses := true, apart := false, narrowed := true }
def FnExactUnsureAtUptoSaid : Prop := fnExactUnsureAtUptoRow.holds Try.pinned (OpenSpec.upto fnExactUnsureAtSpec)

end Rows
end Go.Proofs.Ytlilkmemgomnjaa
