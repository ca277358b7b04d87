/-
  How AllChoices ends; how many choices there are.
-/
import Derived.Test.YtcohmhgmocdbfaaKv
namespace Go.Proofs.Ytcohmhgmocdbfaa
set_option linter.unusedVariables false
set_option linter.unusedSimpArgs false
open Go.RowKit

/-- How AllChoices ends: a row of its own. -/
def AllPost (w : World) (res : Option (List (List UInt8))) (e : Ending) (w' : World) : Prop :=
  ∃ v l, e = .returned (.tuple #[v, .bool res.isSome]) ∧ Row w' (fromB w.heap.size) 9 1 v l.length (strsC l) ∧ Keeps noB w w' ∧ l.length ≤ 1000 ∧ l = res.getD [] ∧ ∀ c ∈ l, c.length ≤ 6

theorem rights_few (x : Nd) (n : Nat) (hn : n ≤ 6) : (x.rights (x.upTo n)).length ≤ 1000 ∧ ∀ c ∈ x.rights (x.upTo n), c.length ≤ 6 := by
  constructor
  · have h1 := List.length_filter_le (fun c => (x.with c).right) (x.upTo n)
    have h2 := levels_len x (n + 1) 0
    have h3 : 2 ^ (0 + (n + 1)) ≤ 2 ^ 7 := Nat.pow_le_pow_right (by omega) (by omega)
    have h4 : (x.upTo n).length = (x.levels 0 (n + 1)).length := rfl
    unfold Nd.rights
    omega
  · intro c hc
    have := (levels_mem x (n + 1) 0 c (List.mem_filter.1 hc).1).1
    omega

end Go.Proofs.Ytcohmhgmocdbfaa
