/-
  What the faces of a run tell. Nothing of the translation is imported.
-/
import Derived.Test.YtcohmhgmocdbfaaPureW
namespace Go.Proofs.Ytcohmhgmocdbfaa

def rightP (s ch : ByteArray) : Bool := match runP s ch with | none => false | some o => o.right
def exitP (s ch : ByteArray) : Int := match runP s ch with | none => 0 | some o => if o.right then o.exit else 0
def faultP (s ch : ByteArray) : Int := match runP s ch with | none => -1 | some o => if o.right then o.faultAt else -1

end Go.Proofs.Ytcohmhgmocdbfaa
