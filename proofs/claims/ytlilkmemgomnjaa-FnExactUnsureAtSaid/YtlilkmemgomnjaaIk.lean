/-
  Walks of the program: of which type a step behind its interface is, the values' and the leavings'; the steps of a body.
-/
import Derived.Test.YtlilkmemgomnjaaIj
namespace Go.Proofs.Ytlilkmemgomnjaa
set_option linter.unusedVariables false
set_option linter.unusedSimpArgs false
open Go.RowKit

theorem isVV (p : Value) (w : World) : (Instr.typeAssert (.iface 159 p) 46 159 true).run Try.prog w = .ok (.tuple #[p, .bool true]) w := by kernel_rfl
theorem isLV (p : Value) (w : World) : (Instr.typeAssert (.iface 161 p) 46 159 true).run Try.prog w = .ok (.tuple #[.pointer none, .bool false]) w := by kernel_rfl
theorem isLL (p : Value) (w : World) : (Instr.typeAssert (.iface 161 p) 46 161 true).run Try.prog w = .ok (.tuple #[p, .bool true]) w := by kernel_rfl
theorem isBV (p : Value) (w : World) : (Instr.typeAssert (.iface 68 p) 46 159 true).run Try.prog w = .ok (.tuple #[.pointer none, .bool false]) w := by kernel_rfl
theorem isBL (p : Value) (w : World) : (Instr.typeAssert (.iface 68 p) 46 161 true).run Try.prog w = .ok (.tuple #[.pointer none, .bool false]) w := by kernel_rfl
theorem isOV (p : Value) (w : World) : (Instr.typeAssert (.iface 69 p) 46 159 true).run Try.prog w = .ok (.tuple #[.pointer none, .bool false]) w := by kernel_rfl
theorem isOL (p : Value) (w : World) : (Instr.typeAssert (.iface 69 p) 46 161 true).run Try.prog w = .ok (.tuple #[.pointer none, .bool false]) w := by kernel_rfl
theorem isSV (p : Value) (w : World) : (Instr.typeAssert (.iface 57 p) 46 159 true).run Try.prog w = .ok (.tuple #[.pointer none, .bool false]) w := by kernel_rfl
theorem isSL (p : Value) (w : World) : (Instr.typeAssert (.iface 57 p) 46 161 true).run Try.prog w = .ok (.tuple #[.pointer none, .bool false]) w := by kernel_rfl

theorem RepIL.nth {w : World} {ok : Nat → Prop} : ∀ {x : Nds} {vs : List Value}, RepIL w ok x vs → vs.length = x.list.length ∧ ∀ (i : Nat) (z : Nd), x.list[i]? = some z → ∃ v : Value, vs[i]? = some v ∧ RepI w ok z v
  | .nil, vs, h => by simp only [RepIL] at h; subst h; exact ⟨rfl, fun i z e => by simp [Nds.list] at e⟩
  | .cons x r, vs, h => by
    simp only [RepIL] at h
    obtain ⟨v, vr, rfl, h1, h2⟩ := h
    obtain ⟨l, hn⟩ := RepIL.nth h2
    refine ⟨by simp [Nds.list, l], fun i z e => ?_⟩
    cases i with
    | zero => simp [Nds.list] at e; subst e; exact ⟨v, rfl, h1⟩
    | succ i => simp [Nds.list] at e; simpa using hn i z e

end Go.Proofs.Ytlilkmemgomnjaa
