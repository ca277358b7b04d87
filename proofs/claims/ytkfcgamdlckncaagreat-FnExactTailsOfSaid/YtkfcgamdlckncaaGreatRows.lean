/-
  No cell of these rows narrows 'for every input' (looked for: loops, veiled, ifaces, maps, wideKeys, modest, calm, conditions, laid).
  DERIVED. THE GIVEN ROWS OF THIS SEAT. 3 by the template 'for every input the law returns true; each argument reads behind the call as it read before'; 0 by the template 'total and deterministic' (their statements: YtkfcgamdlckncaaGreatTotals.lean).
  GIVEN WITH THE SEED: the statements are not yours to turn. If you find one false, say at which input.
  Laid BY PROGRAM, IN A SANDBOX (cutbox-rows.mjs): the forced cells as the released guide's own fill.sh prints them over the translation 205750f7ac28b7cd… (all of the seat's roots in one cut). By AI agents, Wed Nov 11 2026. No macro, syntax, notation, axiom, sorry.
-/
import Derived.Test.YtkfcgamdlckncaaGreatChecked
import GoSem.Claim
import GoSem.ClaimJoined
import GoSem.ClaimMapViews
import Derived.JoinedTies
import Derived.KernelRfl
namespace Go.Proofs.YtkfcgamdlckncaaGreat
/- THE CELL 'sum', in the pinned program and in every row, IS THE sha256 OF THE DUMP (.gsa) THAT YtkfcgamdlckncaaGreatProg.lean LOADS. Nothing in Lean hashes anything: it is a label: what it is worth is what the hold of that sum in a sandbox is worth. -/
noncomputable def Tryz.pinned : Pinned := { name := "ytkfcgamdlckncaagreat", sum := "205750f7ac28b7cd2603fdc9fe715c980e62a4e7868398d25bb761af7ee64798", checked := Tryz.checked }
namespace Rows
def none {H : Type} : Left H := { results := [], args := [] }

/-- 'laws.FnExactTailsOf': WHATEVER THE INPUT: true; the input reads as it did. -/
def fnExactTailsOfSpec : ChangeSpec := { name := "fnExactTailsOf", fn := fun _ => fun
  | [d] => { results := [.lit (.bool true)], args := [d] }
  | _ => none }
def fnExactTailsOfRow : OpenClaim := { program := "ytkfcgamdlckncaagreat", sum := "205750f7ac28b7cd2603fdc9fe715c980e62a4e7868398d25bb761af7ee64798", func := "loop.example/endsoflife/laws.FnExactTailsOf", spec := "fnExactTailsOf", inPlace := ["internal/bytealg.IndexByteString"], unfollowed := true, recurses := true, apart := false }
def FnExactTailsOfSaid : Prop := fnExactTailsOfRow.holds Tryz.pinned (OpenSpec.ofChange fnExactTailsOfSpec)

/-- ITS FALSE NEIGHBOUR: 'it returns false'. Refute it at one input. -/
def fnExactTailsOfWrong : ChangeSpec := { name := "fnExactTailsOf", fn := fun _ => fun
  | [d] => { results := [.lit (.bool false)], args := [d] }
  | _ => none }
def FnExactTailsOfWrongFalsely : Prop := fnExactTailsOfRow.holds Tryz.pinned (OpenSpec.ofChange fnExactTailsOfWrong)

/-- 'laws.FnExactCountShared': WHATEVER THE INPUT: true; the input reads as it did. -/
def fnExactCountSharedSpec : ChangeSpec := { name := "fnExactCountShared", fn := fun _ => fun
  | [d] => { results := [.lit (.bool true)], args := [d] }
  | _ => none }
def fnExactCountSharedRow : OpenClaim := { program := "ytkfcgamdlckncaagreat", sum := "205750f7ac28b7cd2603fdc9fe715c980e62a4e7868398d25bb761af7ee64798", func := "loop.example/endsoflife/laws.FnExactCountShared", spec := "fnExactCountShared", inPlace := ["internal/bytealg.IndexByteString"], unfollowed := true, recurses := true, apart := false }
def FnExactCountSharedSaid : Prop := fnExactCountSharedRow.holds Tryz.pinned (OpenSpec.ofChange fnExactCountSharedSpec)

/-- ITS FALSE NEIGHBOUR: 'it returns false'. Refute it at one input. -/
def fnExactCountSharedWrong : ChangeSpec := { name := "fnExactCountShared", fn := fun _ => fun
  | [d] => { results := [.lit (.bool false)], args := [d] }
  | _ => none }
def FnExactCountSharedWrongFalsely : Prop := fnExactCountSharedRow.holds Tryz.pinned (OpenSpec.ofChange fnExactCountSharedWrong)

/-- 'laws.FnExactEntryOf': WHATEVER THE INPUT: true; the input reads as it did. -/
def fnExactEntryOfSpec : ChangeSpec := { name := "fnExactEntryOf", fn := fun _ => fun
  | [d1, d2] => { results := [.lit (.bool true)], args := [d1, d2] }
  | _ => none }
def fnExactEntryOfRow : OpenClaim := { program := "ytkfcgamdlckncaagreat", sum := "205750f7ac28b7cd2603fdc9fe715c980e62a4e7868398d25bb761af7ee64798", func := "loop.example/endsoflife/laws.FnExactEntryOf", spec := "fnExactEntryOf", inPlace := ["internal/bytealg.IndexByteString"], unfollowed := true, recurses := true, apart := false }
def FnExactEntryOfSaid : Prop := fnExactEntryOfRow.holds Tryz.pinned (OpenSpec.ofChange fnExactEntryOfSpec)

/-- ITS FALSE NEIGHBOUR: 'it returns false'. Refute it at one input. -/
def fnExactEntryOfWrong : ChangeSpec := { name := "fnExactEntryOf", fn := fun _ => fun
  | [d1, d2] => { results := [.lit (.bool false)], args := [d1, d2] }
  | _ => none }
def FnExactEntryOfWrongFalsely : Prop := fnExactEntryOfRow.holds Tryz.pinned (OpenSpec.ofChange fnExactEntryOfWrong)

/- THE SECOND FORM. 'bulk': how many values and letters a reading holds, each counted each time it is reached (what is shared counts as often as it is met; a slice's spare places count too). A statement '..UptoSaid' is the law's where the arguments, and the package variables that the reading takes, are together of bulk at most 1048576: NARROWER than '..Said'. Prove '..Said' where nothing that the law and all that it calls make is longer than what came in: it says more and counts as full. Else prove '..UptoSaid'. A law counts once. -/
mutual
def uptoBulk {H : Type} : DataW H → Nat
  | .lit (.string bytes) => bytes.length + 1
  | .lit _ => 1
  | .nil => 1
  | .ptr d => uptoBulk d + 1
  | .slice elems spare => uptoBulkAll elems + uptoBulkAll spare + 1
  | .agg parts => uptoBulkAll parts + 1
  | .iface _ d => uptoBulk d + 1
  | .map entries => uptoBulkEntries entries + 1
  | .held _ => 1
def uptoBulkAll {H : Type} : List (DataW H) → Nat
  | [] => 0
  | d :: r => uptoBulk d + uptoBulkAll r
def uptoBulkEntries {H : Type} : List (Lit × DataW H) → Nat
  | [] => 0
  | x :: r => uptoBulkEntry x + uptoBulkEntries r
def uptoBulkEntry {H : Type} : Lit × DataW H → Nat
  | (.string bytes, d) => bytes.length + uptoBulk d + 1
  | (_, d) => uptoBulk d + 1
 end
def uptoSmall : (H : Type) → List (DataW H) → Bool := fun _ ds => decide (uptoBulkAll ds ≤ 1048576)
def OpenSpec.upto (s : _root_.Go.ChangeSpec) : _root_.Go.OpenSpec := { _root_.Go.OpenSpec.ofChange s with cond := some uptoSmall }

/-- 'laws.FnExactTailsOf', WHERE WHAT IT READS IS OF BULK AT MOST 1048576: true; the input reads as it did. -/
def fnExactTailsOfUptoRow : OpenClaim := { program := "ytkfcgamdlckncaagreat", sum := "205750f7ac28b7cd2603fdc9fe715c980e62a4e7868398d25bb761af7ee64798", func := "loop.example/endsoflife/laws.FnExactTailsOf", spec := "fnExactTailsOf", inPlace := ["internal/bytealg.IndexByteString"], unfollowed := true, recurses := true, apart := false, narrowed := true }
def FnExactTailsOfUptoSaid : Prop := fnExactTailsOfUptoRow.holds Tryz.pinned (OpenSpec.upto fnExactTailsOfSpec)

/-- 'laws.FnExactCountShared', WHERE WHAT IT READS IS OF BULK AT MOST 1048576: true; the input reads as it did. -/
def fnExactCountSharedUptoRow : OpenClaim := { program := "ytkfcgamdlckncaagreat", sum := "205750f7ac28b7cd2603fdc9fe715c980e62a4e7868398d25bb761af7ee64798", func := "loop.example/endsoflife/laws.FnExactCountShared", spec := "fnExactCountShared", inPlace := ["internal/bytealg.IndexByteString"], unfollowed := true, recurses := true, apart := false, narrowed := true }
def FnExactCountSharedUptoSaid : Prop := fnExactCountSharedUptoRow.holds Tryz.pinned (OpenSpec.upto fnExactCountSharedSpec)

/-- 'laws.FnExactEntryOf', WHERE WHAT IT READS IS OF BULK AT MOST 1048576: true; the input reads as it did. -/
def fnExactEntryOfUptoRow : OpenClaim := { program := "ytkfcgamdlckncaagreat", sum := "205750f7ac28b7cd2603fdc9fe715c980e62a4e7868398d25bb761af7ee64798", func := "loop.example/endsoflife/laws.FnExactEntryOf", spec := "fnExactEntryOf", inPlace := ["internal/bytealg.IndexByteString"], unfollowed := true, recurses := true, apart := false, narrowed := true }
def FnExactEntryOfUptoSaid : Prop := fnExactEntryOfUptoRow.holds Tryz.pinned (OpenSpec.upto fnExactEntryOfSpec)

end Rows
end Go.Proofs.YtkfcgamdlckncaaGreat
