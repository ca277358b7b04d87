/-
  The model's EarlyEvents, but for the text.
-/
import Derived.Test.YthgocacabadflaaDoorRqa
import Derived.Test.YthgocacabadflaaDoorSh
namespace Go.Proofs.YthgocacabadflaaDoor
set_option linter.unusedVariables false
set_option linter.unusedSimpArgs false
open Go.RowKit

def earlyU (l : List Ev) (i : Nat) : List Ev := (List.range i).flatMap (earlyAt l)
theorem earlyU_next (l : List Ev) (i : Nat) : earlyU l (i + 1) = earlyU l i ++ earlyAt l i := by
  unfold earlyU; rw [List.range_succ, List.flatMap_append]; simp
theorem earlyAt_len (l : List Ev) (i : Nat) : (earlyAt l i).length ≤ 2 := by
  unfold earlyAt
  split
  · simp
  · split
    · simp
    · split
      · simp
      · split <;> simp
theorem earlyU_len (l : List Ev) : ∀ i, (earlyU l i).length ≤ 2 * i
  | 0 => by simp [earlyU]
  | i + 1 => by
    have := earlyU_len l i
    have := earlyAt_len l i
    rw [earlyU_next, List.length_append]; omega

theorem ERow.app {w w2 w4 : World} {ao : Option Addr} {co n : Nat} {L : List Ev} {k : UInt8} {v : Int} {v' : Value} {B : Nat} {w0 : World} (hn : n = L.length) (hv : 0 ≤ v)
    (hq : Keeps noB w w2) (hfr : ∀ g, (Value.slice ao n co).ownBlock = some g → g = B ∨ w0.heap.size ≤ g) (hsz : w0.heap.size ≤ w.heap.size) (hBw : B < w0.heap.size)
    (hown : w4.ownsRow 0 39 2 v' (n + 1) (evC L ++ [.int .u8 (k.toNat : Int), .int .i64 v]))
    (hgrow : w2.grownBy w4 (Value.slice ao n co).ownBlock) (hf : Fresh w2 (.slice ao n co) v') :
    ERow w4 v' (L ++ [⟨k, v.toNat⟩]) ∧ (∀ g, v'.ownBlock = some g → g = B ∨ w0.heap.size ≤ g) ∧ Keeps (fun g => g = B ∨ w0.heap.size ≤ g) w w4 := by
  have qa : Keeps (fun g => (Value.slice ao n co).ownBlock = some g) w w4 := (hq.mono (fun _ e => e.elim)).grown hgrow (fun g hg => .inl hg)
  refine ⟨?_, fun g hg => ?_, qa.mono (fun g hg => hfr g hg)⟩
  · unfold ERow
    rw [List.length_append, evC_snoc, ← hn, show ((v.toNat : Nat) : Int) = v by omega]
    exact hown
  · rcases hf with h | h
    · exact hfr g (h ▸ hg)
    · have := h g hg; have := hq.size; omega

end Go.Proofs.YthgocacabadflaaDoor
