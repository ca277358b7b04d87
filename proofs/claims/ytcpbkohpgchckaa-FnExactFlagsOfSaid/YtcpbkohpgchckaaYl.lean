/-
  FlagsOf, the pure side: the variables that need a flag.
-/
import Derived.Test.YtcpbkohpgchckaaYk
namespace Go.Proofs.Ytcpbkohpgchckaa
set_option linter.unusedVariables false
set_option linter.unusedSimpArgs false

/-- The letters behind a ~ in a plan's text. -/
def tilB : List UInt8 → List UInt8
  | a :: b :: r => (if a = 126 then [b] else []) ++ tilB r
  | _ => []
theorem tilB_pairs : ∀ ps : List (Bool × UInt8), tilB (ps.flatMap pairB) = tildes ps
  | [] => rfl
  | p :: r => by
    have ih := tilB_pairs r
    rw [List.flatMap_cons]
    show tilB ((if p.1 then (45 : UInt8) else 126) :: p.2 :: r.flatMap pairB) = _
    unfold tilB
    rw [ih]
    unfold tildes
    cases h : p.1 <;> simp [h]

/-- The letters that a step ~ asks a flag for: the plan for its variables at its own start. -/
def stepFl (x m : Nd) : List UInt8 := if m.kind = 126 then tilB (planK (knownJ x m.beg) m.vars) else []
def plansFl (x : Nd) (l : List Pt) : List UInt8 := l.flatMap (fun p => tilB (planK (knownJ x p.1) p.2))
theorem plansFl_snoc (x : Nd) (l : List Pt) (p : Pt) : plansFl x (l ++ [p]) = plansFl x l ++ tilB (planK (knownJ x p.1) p.2) := by
  unfold plansFl; simp
theorem plansFl_same (x : Nd) : (plansL x).flatMap (fun p => tilB p.2) = plansFl x x.pts := by
  unfold plansL plansFl
  generalize x.pts = l
  induction l with
  | nil => rfl
  | cons p r ih =>
    rw [List.map_cons, List.flatMap_cons, ← ih]
    cases h : planK (knownJ x p.1) p.2 with
    | nil => simp [h, tilB]
    | cons a t => simp [h]
def flagsL (x : Nd) : List UInt8 := plansFl x x.pts ++ x.pre.list.flatMap (stepFl x)
def flagsP (s : ByteArray) : Option (List UInt8) := match progP s with | none => none | some x => some (sortedOf (flagsL x))

theorem tilB_plan_one (k : Kn) (v : UInt8) (hv : ltr v) : tilB (planK k [v]) = if hasV k.may v = true ∧ hasV k.must v = false then [v] else [] := by
  unfold planK
  by_cases hk : k = Kn.no
  · subst hk
    rcases six_letters hv with rfl | rfl | rfl | rfl | rfl | rfl <;> decide
  · rw [if_neg hk]
    cases h1 : hasV k.must v <;> cases h2 : hasV k.may v <;> simp [h1, h2, tilB]
theorem stepFl_one (x m : Nd) (v : UInt8) (hv : ltr v) (hk : m.kind = 126) (hm : m.vars = [v]) : stepFl x m = if hasV (knownJ x m.beg).may v = true ∧ hasV (knownJ x m.beg).must v = false then [v] else [] := by
  unfold stepFl
  rw [if_pos hk, hm]
  exact tilB_plan_one _ _ hv
theorem stepFl_other (x m : Nd) (hk : m.kind ≠ 126) : stepFl x m = [] := by unfold stepFl; rw [if_neg hk]

end Go.Proofs.Ytcpbkohpgchckaa
