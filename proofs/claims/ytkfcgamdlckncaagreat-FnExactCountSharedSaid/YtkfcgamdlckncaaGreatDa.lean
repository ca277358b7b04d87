/-
  Cleaning up, plainly: the exits of a program and their cleanups. Nothing is walked here.
-/
import Derived.Test.YtkfcgamdlckncaaGreatPyW
namespace Go.Proofs.YtkfcgamdlckncaaGreat
set_option linter.unusedVariables false
set_option linter.unusedSimpArgs false
open Go.RowKit

/-- A step that returns or fails. -/
def leavesN (z : Nd) : Bool := z.kind == 94 || z.kind == 33
/-- .. that is reached. -/
def exitOk (x z : Nd) : Bool := leavesN z && liveK (knownJ x z.beg)
/-- Its cleanup. -/
def planZ (x z : Nd) : List UInt8 := planK (knownJ x z.beg) z.scope
def exitsU (x : Nd) (l : List Nd) : List Pt := (l.filter (exitOk x)).map (fun z => (z.beg, planZ x z))
theorem exitsU_app (x : Nd) (l m : List Nd) : exitsU x (l ++ m) = exitsU x l ++ exitsU x m := by unfold exitsU; rw [List.filter_append, List.map_append]
theorem exitsU_one (x z : Nd) : exitsU x [z] = if exitOk x z = true then [(z.beg, planZ x z)] else [] := by
  unfold exitsU
  cases h : exitOk x z <;> simp [h]
theorem exitsU_len (x : Nd) (l : List Nd) : (exitsU x l).length ≤ l.length := by
  unfold exitsU; rw [List.length_map]; exact List.length_filter_le _ _
/-- The exits of a program, in order. -/
def exitsL (x : Nd) : List Pt := exitsU x x.pre.list
def exitsP (s : ByteArray) : Option (List Pt) := match progP s with | none => none | some x => some (exitsL x)

theorem exits_preD (x : Nd) (d : Nat) : exitsU x ((x.preD d).map Prod.fst) = exitsL x := by rw [Nd.preD_fst]; rfl

theorem mem_pre {x : Nd} {p : PN} {d : Nat} (h : p ∈ x.preD d) : p.1 ∈ x.pre.list := by
  rw [← Nd.preD_fst x d]; exact List.mem_map_of_mem h

theorem exits_few {s : ByteArray} {x : Nd} (hp : progP s = some x) : (exitsL x).length ≤ 80 := by
  have h1 := exitsU_len x x.pre.list
  have h2 := progP_few hp
  rw [Nds.list_len] at h1
  unfold exitsL
  omega

/-- What is good to know of a step of a program. -/
structure StepFit (x z : Nd) : Prop where
  noted : notesP x z.beg = some (knownJ x z.beg)
  wf : (knownJ x z.beg).Wf
  beg : z.beg ≤ 80
  sp : z.Sp
  fit : z.Fit
  vars : ∀ v ∈ z.vars, ltr v
  uns : ∀ v ∈ unsaidN z, ltr v
  unsl : (unsaidN z).length ≤ 80
  leave : leavesN z = true → unsaidN z = z.scope

theorem step_fit {s : ByteArray} {x z : Nd} (hp : progP s = some x) (hz : z ∈ x.pre.list) : StepFit x z := by
  obtain ⟨g1, g2⟩ := pre_fs x.pre.len x rfl (progP_sp hp) (progP_fit hp) z hz
  have hm : (z.beg, unsaidN z) ∈ x.pts := (Nd.pts_own x _).2 ⟨z, hz, by simp [ownPts]⟩
  have h1 := pts_P hp hm
  have h2 := progP_pts hp _ hm
  refine ⟨h1.1, h1.2, h2.2.2, g1, g2, vars_ltr g1 g2, h2.1, h2.2.1, fun h => ?_⟩
  unfold leavesN at h
  rw [Bool.or_eq_true, beq_iff_eq, beq_iff_eq] at h
  unfold unsaidN
  rw [if_neg (by rcases h with h | h <;> rw [h] <;> decide), if_pos h]

theorem planZ_eq {x z : Nd} (h : StepFit x z) (hl : leavesN z = true) : planZ x z = planK (knownJ x z.beg) (unsaidN z) := by unfold planZ; rw [h.leave hl]

/-- A text of steps of two bytes. -/
def Pairs (c : List UInt8) : Prop := c.length % 2 = 0
theorem planK_pairs (k : Kn) (vs : List UInt8) : Pairs (planK k vs) := by
  unfold planK Pairs
  split
  · rfl
  · have : ∀ l : List UInt8, (l.flatMap (fun v => if hasV k.must v then [45, v] else if hasV k.may v then [126, v] else [])).length % 2 = 0 := by
      intro l
      induction l with
      | nil => rfl
      | cons a r ih =>
        rw [List.flatMap_cons, List.length_append]
        have : (if hasV k.must a then [45, a] else if hasV k.may a then [126, a] else ([] : List UInt8)).length % 2 = 0 := by
          cases hasV k.must a <;> cases hasV k.may a <;> simp
        omega
    exact this vs.reverse

theorem exits_fit {s : ByteArray} {x : Nd} (hp : progP s = some x) {q : Pt} (hq : q ∈ exitsL x) : q.1 ≤ 80 ∧ q.2.length ≤ 160 ∧ Pairs q.2 := by
  unfold exitsL exitsU at hq
  obtain ⟨z, hz, rfl⟩ := List.mem_map.1 hq
  obtain ⟨hz, ho⟩ := List.mem_filter.1 hz
  have h := step_fit hp hz
  unfold exitOk at ho
  rw [Bool.and_eq_true] at ho
  have e := planZ_eq h ho.1
  refine ⟨h.beg, ?_, planK_pairs _ _⟩
  show (planZ x z).length ≤ 160
  rw [e]
  have := planK_len (knownJ x z.beg) (unsaidN z)
  have := h.unsl
  omega

/-- The cleanup of the exit that begins at a byte. -/
def cleanupP (s : ByteArray) (at_ : Int) : Option (List UInt8) := match progP s with
  | none => none
  | some x => ((exitsL x).find? (fun q => (q.1 : Int) == at_)).map Prod.snd

/-- How many steps all cleanups have. -/
def aloneU (l : List Pt) : Nat := (l.map (fun q => q.2.length / 2)).sum
theorem aloneU_snoc (l : List Pt) (q : Pt) : aloneU (l ++ [q]) = aloneU l + q.2.length / 2 := by unfold aloneU; rw [List.map_append, List.sum_append]; simp
def aloneP (s : ByteArray) : Int := match progP s with | none => -1 | some x => (aloneU (exitsL x) : Int)

theorem aloneU_le : ∀ (l : List Pt), (∀ q ∈ l, q.2.length ≤ 160) → aloneU l ≤ 80 * l.length
  | [], _ => Nat.le_refl _
  | q :: r, h => by
    have h1 := aloneU_le r (fun q hq => h q (List.mem_cons_of_mem _ hq))
    have h2 := h q (List.mem_cons_self ..)
    have e : aloneU (q :: r) = q.2.length / 2 + aloneU r := by unfold aloneU; rfl
    rw [e, List.length_cons]
    omega

end Go.Proofs.YtkfcgamdlckncaaGreat
