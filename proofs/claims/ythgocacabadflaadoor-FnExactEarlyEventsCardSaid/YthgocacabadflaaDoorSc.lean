/-
  The model's l7Text: the text of events.
-/
import Derived.Test.YthgocacabadflaaDoorSb
import Derived.Test.YthgocacabadflaaDoorSv
import Derived.Deep.RegionWith
namespace Go.Proofs.YthgocacabadflaaDoor
set_option linter.unusedVariables false
set_option linter.unusedSimpArgs false
open Go.RowKit
open Go.Lib (decDigits)

/-- The word of an event, and the text of events without the dash. -/
def wordE (e : Ev) : List UInt8 := e.k :: decDigits e.n
def textE : List Ev → List UInt8
  | [] => []
  | e :: r => if r = [] then wordE e else wordE e ++ 32 :: textE r
theorem textE_snoc : ∀ (l : List Ev) (e : Ev), textE (l ++ [e]) = (if l = [] then [] else textE l ++ [32]) ++ wordE e
  | [], e => by simp [textE]
  | x :: r, e => by
    have ih := textE_snoc r e
    show (if r ++ [e] = [] then wordE x else wordE x ++ 32 :: textE (r ++ [e])) = _
    rw [if_neg (by simp), ih]
    by_cases hr : r = []
    · subst hr; simp [textE]
    · simp [textE, hr]
theorem wordE_len {e : Ev} (h : e.n < 1000) : (wordE e).length ≤ 4 := by
  have := Go.Proofs.YthgocacabadflaaDoor.dec_len h
  unfold wordE; simp; omega
theorem textE_len : ∀ (l : List Ev), (∀ e ∈ l, e.n < 1000) → (textE l).length ≤ 5 * l.length
  | [], _ => by simp [textE]
  | e :: r, h => by
    have ih := textE_len r (fun x hx => h x (by simp [hx]))
    have hw := wordE_len (h e (by simp))
    unfold textE
    split
    · simp; omega
    · simp; omega
theorem textE_ne {l : List Ev} (h : l ≠ []) : textE l ≠ [] := by
  cases l with
  | nil => exact absurd rfl h
  | cons e r =>
    unfold textE wordE
    split <;> simp

end Go.Proofs.YthgocacabadflaaDoor
