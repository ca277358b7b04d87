/-
  The first choices of a run with a fault. Nothing of the translation is imported.
-/
import Derived.Test.YtcohmhgmocdbfaaPe
import Derived.Test.YtcohmhgmocdbfaaPc
namespace Go.Proofs.Ytcohmhgmocdbfaa
set_option linter.unusedVariables false
set_option linter.unusedSimpArgs false

def showP (s : ByteArray) : Option (List UInt8) := ((allP s 6).getD []).find? (fun c => exitP s ⟨c.toArray⟩ == 4)
def showT (r : Option (List UInt8)) : ByteArray := match r with | none => ⟨#[]⟩ | some c => ⟨c.toArray⟩

theorem exit_with {s : ByteArray} {x : Nd} {c : List UInt8} (hp : progP s = some x) (hc : (x.with c).right = true) (hl : c.length ≤ 6) : exitP s ⟨c.toArray⟩ = (x.with c).exit := by
  have hsz : ¬ 20 < (⟨c.toArray⟩ : ByteArray).size := by simp [ByteArray.size]; omega
  unfold exitP runP
  rw [hp]
  simp only
  rw [if_neg hsz]
  show (if (x.with c.toArray.toList).right = true then (x.with c.toArray.toList).exit else 0) = _
  rw [List.toList_toArray, if_pos hc]

theorem all_six {s : ByteArray} {x : Nd} (hp : progP s = some x) : (allP s 6).getD [] = x.rights (x.upTo 6) := by
  unfold allP
  rw [hp]
  rfl
theorem all_none6 {s : ByteArray} (hp : progP s = none) : (allP s 6).getD [] = [] := by
  unfold allP
  rw [hp]
  rfl

theorem show_none {s : ByteArray} (h : ∀ c ∈ (allP s 6).getD [], (exitP s ⟨c.toArray⟩ == 4) = false) : showP s = none := by
  unfold showP
  rw [List.find?_eq_none]
  intro c hc; rw [h c hc]; simp
theorem show_some {s : ByteArray} {pre post : List (List UInt8)} {c : List UInt8} (hl : (allP s 6).getD [] = pre ++ [c] ++ post) (h : ∀ c ∈ pre, (exitP s ⟨c.toArray⟩ == 4) = false) (hc : (exitP s ⟨c.toArray⟩ == 4) = true) : showP s = some c := by
  unfold showP
  rw [hl, List.append_assoc, List.find?_append, List.find?_eq_none.2 (fun q hq => by rw [h q hq]; simp)]
  simp [hc]

end Go.Proofs.Ytcohmhgmocdbfaa
