/-
  The nodes of a tree in the order in which they begin; and how many there are at most. Nothing of the translation is imported.
-/
import Derived.Test.YtaaphpcbiibpcaaPureB
namespace Go.Proofs.Ytaaphpcbiibpcaa
set_option linter.unusedVariables false
set_option linter.unusedSimpArgs false

mutual
/-- A step and all steps within it, in the order in which they begin. -/
def Nd.pre : Nd → Nds
  | .mk c k e vs ar bs => .cons (.mk c k e vs ar bs) bs.pre
def Nds.pre : Nds → Nds
  | .nil => .nil
  | .cons x r => x.pre.app r.pre
def Bds.pre : Bds → Nds
  | .nil => .nil
  | .cons x r => x.pre.app r.pre
end

/-- No reader reads more steps than bytes. -/
structure Few (s : ByteArray) (n : Nat) : Prop where
  step : ∀ ar d k x k2, stepP s n ar d k = some (x, k2) → x.pre.len + k ≤ k2
  scope : ∀ ar d k x k2, scopeP s n ar d k = some (x, k2) → x.pre.len + k ≤ k2
  brack : ∀ ar d k x k2, brackP s n ar d k = some (x, k2) → x.pre.len + k + 1 ≤ k2
  steps : ∀ ar d e k x k2, stepsP s n ar d e k = some (x, k2) → x.pre.len + k ≤ k2

theorem few (s : ByteArray) : ∀ n, Few s n
  | 0 => ⟨fun _ _ _ _ _ h => by simp [stepP] at h, fun _ _ _ _ _ h => by simp [scopeP] at h, fun _ _ _ _ _ h => by simp [brackP] at h, fun _ _ _ _ _ _ h => by simp [stepsP] at h⟩
  | n + 1 => by
    have ih := few s n
    constructor
    · intro ar d k x k2 h
      rw [stepP] at h
      cases hc : at? s k with
      | none => rw [hc] at h; cases h
      | some c =>
        simp only [hc] at h
        split at h
        · split at h
          · cases h
          · rename_i v k1 hv
            have := varP_some hv
            simp only [Option.some.injEq, Prod.mk.injEq] at h
            obtain ⟨rfl, rfl⟩ := h
            simp only [Nd.pre, Bds.pre, Nds.len]
            omega
        split at h
        · split at h
          · cases h
          · rename_i v u k1 hv
            obtain ⟨k0, h1, h2, _⟩ := moveP_some hv
            have := varP_some h1
            have := varP_some h2
            simp only [Option.some.injEq, Prod.mk.injEq] at h
            obtain ⟨rfl, rfl⟩ := h
            simp only [Nd.pre, Bds.pre, Nds.len]
            omega
        split at h
        · simp only [Option.some.injEq, Prod.mk.injEq] at h
          obtain ⟨rfl, rfl⟩ := h
          simp only [Nd.pre, Bds.pre, Nds.len]
          omega
        split at h
        · split at h
          · cases h
          · rename_i x1 k1 h1
            split at h
            · cases h
            · rename_i x2 k2' h2
              have := ih.brack _ _ _ _ _ h1
              have := ih.brack _ _ _ _ _ h2
              simp only [Option.some.injEq, Prod.mk.injEq] at h
              obtain ⟨rfl, rfl⟩ := h
              simp only [Nd.pre, Bds.pre, Nds.len, Nds.len_app]
              omega
        split at h
        · split at h
          · cases h
          · rename_i x1 k1 h1
            have := ih.brack _ _ _ _ _ h1
            simp only [Option.some.injEq, Prod.mk.injEq] at h
            obtain ⟨rfl, rfl⟩ := h
            simp only [Nd.pre, Bds.pre, Nds.len, Nds.len_app]
            omega
        split at h
        · exact ih.scope _ _ _ _ _ h
        · cases h
    · intro ar d k x k2 h
      rw [scopeP] at h
      split at h
      · cases h
      · split at h
        · cases h
        · rename_i vs k1 h1
          split at h
          · cases h
          · rename_i x1 k2' h2
            have := declP_len _ _ _ _ _ _ _ h1
            have := ih.steps _ _ _ _ _ _ h2
            simp only [Option.some.injEq, Prod.mk.injEq] at h
            obtain ⟨rfl, rfl⟩ := h
            simp only [Nd.pre, Bds.pre, Nds.len, Nds.len_app, List.length_nil] at *
            omega
    · intro ar d k x k2 h
      rw [brackP] at h
      split at h
      · cases h
      · rename_i k1 h1
        have := isP_some h1
        have := ih.steps _ _ _ _ _ _ h
        omega
    · intro ar d e k x k2 h
      rw [stepsP] at h
      split at h
      · simp only [Option.some.injEq, Prod.mk.injEq] at h
        obtain ⟨rfl, rfl⟩ := h
        simp only [Nds.pre, Nds.len]
        omega
      · split at h
        · cases h
        · rename_i x1 k1 h1
          split at h
          · cases h
          · rename_i r k2' h2
            have := ih.step _ _ _ _ _ h1
            have := ih.steps _ _ _ _ _ _ h2
            simp only [Option.some.injEq, Prod.mk.injEq] at h
            obtain ⟨rfl, rfl⟩ := h
            simp only [Nds.pre, Nds.len_app]
            omega

theorem progP_few {s : ByteArray} {x : Nd} (h : progP s = some x) : x.pre.len ≤ s.size ∧ s.size ≤ 80 := by
  unfold progP at h
  split at h
  · cases h
  · split at h
    · split at h
      · cases h
      · rename_i y k hy
        split at h
        · rename_i hk
          have e := Option.some.inj h
          subst e
          have := (few s (8 * s.size + 8)).scope _ _ _ _ _ hy
          omega
        · cases h
    · cases h

end Go.Proofs.Ytaaphpcbiibpcaa
