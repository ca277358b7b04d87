/-
  The grammar reads on: where it answers, it has gone on, and not past the text's end.
-/
import Derived.Test.YtaaphpcbiibpcaaPure
namespace Go.Proofs.Ytaaphpcbiibpcaa
set_option linter.unusedVariables false
set_option linter.unusedSimpArgs false

theorem declP_len (s : ByteArray) : ∀ (n : Nat) (ar out : List UInt8) (k : Nat) (vs : List UInt8) (k2 : Nat), declP s n ar out k = some (vs, k2) → k2 ≤ s.size ∧ vs.length + k + 1 = out.length + k2 ∧ out.length ≤ vs.length
  | 0, ar, out, k, vs, k2, h => by simp [declP] at h
  | n + 1, ar, out, k, vs, k2, h => by
    rw [declP] at h
    cases hc : at? s k with
    | none => rw [hc] at h; cases h
    | some c =>
      rw [hc] at h
      have hk := at?_lt hc
      simp only at h
      split at h
      · simp only [Option.some.injEq, Prod.mk.injEq] at h
        obtain ⟨rfl, rfl⟩ := h
        exact ⟨by omega, by omega, Nat.le_refl _⟩
      · split at h
        · have := declP_len s n ar (out ++ [c]) (k + 1) vs k2 h
          simp only [List.length_append, List.length_cons, List.length_nil] at this
          omega
        · cases h

theorem isP_some {s : ByteArray} {c : UInt8} {k k1 : Nat} (h : isP s c k = some k1) : at? s k = some c ∧ k1 = k + 1 ∧ k < s.size := by
  unfold isP at h
  split at h
  · rename_i hc; exact ⟨hc, (Option.some.inj h).symm, at?_lt hc⟩
  · cases h

theorem isP_none {s : ByteArray} {c : UInt8} {k : Nat} (h : isP s c k = none) : at? s k ≠ some c := by
  unfold isP at h
  split at h
  · cases h
  · assumption

/-- Progress of all four readers at one number. -/
structure Goes (s : ByteArray) (n : Nat) : Prop where
  step : ∀ ar d k x k2, stepP s n ar d k = some (x, k2) → k < k2 ∧ k2 ≤ s.size
  scope : ∀ ar d k x k2, scopeP s n ar d k = some (x, k2) → k + 1 < k2 ∧ k2 ≤ s.size
  brack : ∀ ar d k x k2, brackP s n ar d k = some (x, k2) → k < k2 ∧ k2 ≤ s.size
  steps : ∀ ar d e k x k2, stepsP s n ar d e k = some (x, k2) → k < k2 ∧ k2 ≤ s.size

theorem goes (s : ByteArray) : ∀ n, Goes s n
  | 0 => ⟨fun _ _ _ _ _ h => by simp [stepP] at h, fun _ _ _ _ _ h => by simp [scopeP] at h, fun _ _ _ _ _ h => by simp [brackP] at h, fun _ _ _ _ _ _ h => by simp [stepsP] at h⟩
  | n + 1 => by
    have ih := goes s n
    constructor
    · intro ar d k x k2 h
      rw [stepP] at h
      cases hc : at? s k with
      | none => rw [hc] at h; cases h
      | some c =>
        have hk := at?_lt hc
        simp only [hc] at h
        split at h
        · split at h
          · cases h
          · rename_i v k1 hv
            have := varP_some hv
            simp only [Option.some.injEq, Prod.mk.injEq] at h
            omega
        split at h
        · split at h
          · cases h
          · rename_i v u k1 hv
            obtain ⟨k0, h1, h2, _⟩ := moveP_some hv
            have := varP_some h1
            have := varP_some h2
            simp only [Option.some.injEq, Prod.mk.injEq] at h
            omega
        split at h
        · simp only [Option.some.injEq, Prod.mk.injEq] at h
          omega
        split at h
        · split at h
          · cases h
          · rename_i x1 k1 h1
            split at h
            · cases h
            · rename_i x2 k2' h2
              have := ih.brack _ _ _ _ _ h1
              have := ih.brack _ _ _ _ _ h2
              simp only [Option.some.injEq, Prod.mk.injEq] at h
              omega
        split at h
        · split at h
          · cases h
          · rename_i x1 k1 h1
            have := ih.brack _ _ _ _ _ h1
            simp only [Option.some.injEq, Prod.mk.injEq] at h
            omega
        split at h
        · have := ih.scope _ _ _ _ _ h
          omega
        · cases h
    · intro ar d k x k2 h
      rw [scopeP] at h
      split at h
      · cases h
      · split at h
        · cases h
        · rename_i vs k1 h1
          split at h
          · cases h
          · rename_i x1 k2' h2
            have := declP_len _ _ _ _ _ _ _ h1
            have := ih.steps _ _ _ _ _ _ h2
            simp only [Option.some.injEq, Prod.mk.injEq] at h
            simp only [List.length_nil] at *
            omega
    · intro ar d k x k2 h
      rw [brackP] at h
      split at h
      · cases h
      · rename_i k1 h1
        have := isP_some h1
        have := ih.steps _ _ _ _ _ _ h
        omega
    · intro ar d e k x k2 h
      rw [stepsP] at h
      split at h
      · rename_i hc
        have := at?_lt hc
        simp only [Option.some.injEq, Prod.mk.injEq] at h
        omega
      · split at h
        · cases h
        · rename_i x1 k1 h1
          split at h
          · cases h
          · rename_i r k2' h2
            have := ih.step _ _ _ _ _ h1
            have := ih.steps _ _ _ _ _ _ h2
            simp only [Option.some.injEq, Prod.mk.injEq] at h
            omega

/-- Lists of nodes. -/
def Nds.app : Nds → Nds → Nds
  | .nil, y => y
  | .cons x r, y => .cons x (r.app y)
def Nds.len : Nds → Nat
  | .nil => 0
  | .cons _ r => r.len + 1

theorem Nds.app_nil : ∀ x : Nds, x.app .nil = x
  | .nil => rfl
  | .cons x r => by rw [Nds.app, Nds.app_nil r]
theorem Nds.app_app : ∀ x y z : Nds, (x.app y).app z = x.app (y.app z)
  | .nil, _, _ => rfl
  | .cons x r, y, z => by rw [Nds.app, Nds.app, Nds.app, Nds.app_app r]
theorem Nds.len_app : ∀ x y : Nds, (x.app y).len = x.len + y.len
  | .nil, y => by simp [Nds.app, Nds.len]
  | .cons x r, y => by simp only [Nds.app, Nds.len, Nds.len_app r y]; omega

/-- What was read, ahead of what is read still. -/
def joinP (pre : Nds) : Option (Nds × Nat) → Option (Nds × Nat)
  | none => none
  | some (r, k) => some (pre.app r, k)

theorem joinP_step (s : ByteArray) (n : Nat) (ar : List UInt8) (d : Nat) (e : UInt8) (k : Nat) (pre : Nds) :
    (at? s k = some e ∧ joinP pre (stepsP s (n + 1) ar d e k) = some (pre, k + 1)) ∨
    (at? s k ≠ some e ∧ stepP s n ar d k = none ∧ joinP pre (stepsP s (n + 1) ar d e k) = none) ∨
    (∃ x k1, at? s k ≠ some e ∧ stepP s n ar d k = some (x, k1) ∧ joinP pre (stepsP s (n + 1) ar d e k) = joinP (pre.app (.cons x .nil)) (stepsP s n ar d e k1)) := by
  by_cases h : at? s k = some e
  · exact .inl ⟨h, by rw [stepsP, if_pos h]; simp [joinP, Nds.app_nil]⟩
  · refine .inr ?_
    rw [stepsP, if_neg h]
    cases hs : stepP s n ar d k with
    | none => exact .inl ⟨h, rfl, rfl⟩
    | some p =>
      obtain ⟨x, k1⟩ := p
      refine .inr ⟨x, k1, h, rfl, ?_⟩
      simp only
      cases hr : stepsP s n ar d e k1 with
      | none => rfl
      | some q => obtain ⟨r, k2⟩ := q; simp [joinP, Nds.app_app, Nds.app]

end Go.Proofs.Ytaaphpcbiibpcaa
