/-
  A letter as a text (for a seat that lacks chapter 3).
-/
import Derived.Test.YtmdpnhkdbkclgaaPk
import Derived.Test.YtmdpnhkdbkclgaaMemW
import Derived.Test.YtmdpnhkdbkclgaaProg
import Derived.WalkKit
namespace Go.Proofs.Ytmdpnhkdbkclgaa
set_option linter.unusedVariables false
set_option linter.unusedSimpArgs false
open Go.RowKit

theorem six_ltr {v : UInt8} (h : ltr v) : v = 97 ∨ v = 98 ∨ v = 99 ∨ v = 100 ∨ v = 101 ∨ v = 102 := by
  obtain ⟨h1, h2⟩ := h
  have h3 : v.toNat = 97 ∨ v.toNat = 98 ∨ v.toNat = 99 ∨ v.toNat = 100 ∨ v.toNat = 101 ∨ v.toNat = 102 := by omega
  rcases h3 with h3 | h3 | h3 | h3 | h3 | h3
  · exact .inl (UInt8.toNat_inj.mp h3)
  · exact .inr (.inl (UInt8.toNat_inj.mp h3))
  · exact .inr (.inr (.inl (UInt8.toNat_inj.mp h3)))
  · exact .inr (.inr (.inr (.inl (UInt8.toNat_inj.mp h3))))
  · exact .inr (.inr (.inr (.inr (.inl (UInt8.toNat_inj.mp h3)))))
  · exact .inr (.inr (.inr (.inr (.inr (UInt8.toNat_inj.mp h3)))))

/-- A letter as a text. -/
theorem conv_ltr (w : World) {v : UInt8} (h : ltr v) : (convert 5 9 (.int .u8 (v.toNat : Int))).run Try.prog w = .ok (str [v]) w := by
  rcases six_ltr h with rfl | rfl | rfl | rfl | rfl | rfl <;>
    simp [convert, go_sem, run_underlying Try.underlying5, run_underlying Try.underlying9] <;> rfl

end Go.Proofs.Ytmdpnhkdbkclgaa
