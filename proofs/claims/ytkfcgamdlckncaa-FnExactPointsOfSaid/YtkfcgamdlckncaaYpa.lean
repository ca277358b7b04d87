/-
  What is noted of a tree is a point of it.
-/
import Derived.Test.YtkfcgamdlckncaaPyW
namespace Go.Proofs.Ytkfcgamdlckncaa
set_option linter.unusedVariables false
set_option linter.unusedSimpArgs false
open Go.RowKit

/-! ### what is noted is a point -/
theorem head_pt (c : UInt8) (b e : Nat) (vs ar : List UInt8) (bs : Bds) : ∃ p ∈ (Nd.mk c b e vs ar bs).pts, p.1 = b := ⟨_, by rw [Nd.pts]; exact List.mem_cons_self .., rfl⟩
mutual
theorem Nd.note_pts : ∀ (x : Nd) (k : Kn) (j : Nat), x.Fit → (Nd.note x k j).isSome = true → ∃ p ∈ x.pts, p.1 = j
  | .mk c b e vs ar .nil, k, j, hf, h => by
    simp only [Nd.note, point_isSome, decide_eq_true_eq] at h
    rw [h]; exact head_pt _ _ _ _ _ _
  | .mk c b e vs ar (.cons x .nil), k, j, hf, h => by
    simp only [Nd.Fit] at hf
    simp only [Nd.note] at h
    have hin : ∀ k, (Nds.note x k j).isSome = true → ∃ p ∈ (Nd.mk c b e vs ar (.cons x .nil)).pts, p.1 = j := fun k hk => by
      obtain ⟨p, hp, e⟩ := Nds.note_pts x k j hf.2 hk
      exact ⟨p, by simp only [Nd.pts, Bds.pts, List.append_nil, List.mem_cons, List.mem_append]; exact .inr (.inl hp), e⟩
    split at h
    · simp only [over_isSome, point_isSome, Bool.or_eq_true, decide_eq_true_eq] at h
      rcases h with h | h
      · exact hin _ h
      · rw [h]; exact head_pt _ _ _ _ _ _
    · rename_i hc
      simp only [over_isSome, point_isSome, Bool.or_eq_true, decide_eq_true_eq] at h
      rcases h with h | h | h
      · have h123 : c = 123 := by
          rcases hf.1 with ⟨h1, _⟩ | h1
          · exact absurd h1 hc
          · exact h1
        exact ⟨(e - 1, vs), by rw [Nd.pts, if_pos h123]; simp, h.symm⟩
      · exact hin _ h
      · rw [h]; exact head_pt _ _ _ _ _ _
  | .mk c b e vs ar (.cons x (.cons y .nil)), k, j, hf, h => by
    simp only [Nd.Fit] at hf
    simp only [Nd.note, over_isSome, point_isSome, Bool.or_eq_true, decide_eq_true_eq] at h
    rcases h with h | h | h
    · obtain ⟨p, hp, e⟩ := Nds.note_pts y k j hf.2.2.2 h
      exact ⟨p, by simp only [Nd.pts, Bds.pts, List.append_nil, List.mem_cons, List.mem_append]; exact .inr (.inl (.inr hp)), e⟩
    · obtain ⟨p, hp, e⟩ := Nds.note_pts x k j hf.2.2.1 h
      exact ⟨p, by simp only [Nd.pts, Bds.pts, List.append_nil, List.mem_cons, List.mem_append]; exact .inr (.inl (.inl hp)), e⟩
    · rw [h]; exact head_pt _ _ _ _ _ _
  | .mk c b e vs ar (.cons x (.cons y (.cons u r))), k, j, hf, h => by simp only [Nd.Fit] at hf
theorem Nds.note_pts : ∀ (x : Nds) (k : Kn) (j : Nat), x.Fit → (Nds.note x k j).isSome = true → ∃ p ∈ x.pts, p.1 = j
  | .nil, k, j, _, h => by simp [Nds.note, blank] at h
  | .cons x r, k, j, hf, h => by
    simp only [Nds.Fit] at hf
    simp only [Nds.note, over_isSome, Bool.or_eq_true] at h
    rcases h with h | h
    · obtain ⟨p, hp, e⟩ := Nds.note_pts r _ j hf.2 h
      exact ⟨p, by simp only [Nds.pts, List.mem_append]; exact .inr hp, e⟩
    · obtain ⟨p, hp, e⟩ := Nd.note_pts x _ j hf.1 h
      exact ⟨p, by simp only [Nds.pts, List.mem_append]; exact .inl hp, e⟩
end

end Go.Proofs.Ytkfcgamdlckncaa
