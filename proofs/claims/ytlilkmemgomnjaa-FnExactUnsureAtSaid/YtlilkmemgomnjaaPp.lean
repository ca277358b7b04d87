/-
  What is known at a point of a program, as the faces tell it. Nothing of the translation is imported.
-/
import Derived.Test.YtlilkmemgomnjaaPn
namespace Go.Proofs.Ytlilkmemgomnjaa
set_option linter.unusedVariables false
set_option linter.unusedSimpArgs false

/-- What is known at a point, if it is one and reached. -/
def seenK (o : Option Kn) : Option Kn := match o with | none => none | some k => if k = Kn.no then none else some k
def knownP (s : ByteArray) (at_ : Int) : Option Kn := match progP s with | none => none | some x => seenK (noteI (notesP x) at_)
def mayT (r : Option Kn) : ByteArray := match r with | none => ⟨#[]⟩ | some k => ⟨(lets k.may).toArray⟩
def mustT (r : Option Kn) : ByteArray := match r with | none => ⟨#[]⟩ | some k => ⟨(lets k.must).toArray⟩
def unsureT (r : Option Kn) : ByteArray := match r with | none => ⟨#[]⟩ | some k => ⟨(lets (strike k.may k.must)).toArray⟩
def canEndP (s : ByteArray) : Bool := (knownP s ((s.size : Int) - 1)).isSome

theorem noteI_wf {x : Nd} (hx : x.Sp) {a : Int} {k : Kn} (h : noteI (notesP x) a = some k) : k.Wf := by
  unfold noteI at h
  split at h
  · exact Nd.note_wf x _ _ _ hx wf_start h
  · cases h

theorem seen_some {o : Option Kn} {k : Kn} (h : seenK o = some k) : o = some k ∧ k ≠ Kn.no := by
  unfold seenK at h
  split at h
  · cases h
  · split at h
    · cases h
    · rename_i hn
      cases h
      exact ⟨rfl, hn⟩

end Go.Proofs.Ytlilkmemgomnjaa
