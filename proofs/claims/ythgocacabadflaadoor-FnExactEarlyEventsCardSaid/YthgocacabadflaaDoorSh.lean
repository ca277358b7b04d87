/-
  At the last use of a value stands an event that uses it.
-/
import Derived.Test.YthgocacabadflaaDoorRa
namespace Go.Proofs.YthgocacabadflaaDoor
set_option linter.unusedVariables false
set_option linter.unusedSimpArgs false

theorem used_at {l : List Ev} (hg : Good l) : ∀ (i : Nat) (f : Lf), (livesL l)[i]? = some f → ∃ e : Ev, l[f.u.toNat]? = some e ∧ e.k ≠ 45 ∧ e.n = i + 1 := by
  induction hg with
  | nil => intro i f h; simp [livesL, livesFrom] at h
  | @snoc l e hg hf ih =>
    have old : ∀ (i : Nat) (f : Lf), (livesL l)[i]? = some f → ∃ e2 : Ev, (l ++ [e])[f.u.toNat]? = some e2 ∧ e2.k ≠ 45 ∧ e2.n = i + 1 := fun i f h => by
      obtain ⟨e2, h1, h2, h3⟩ := ih i f h
      exact ⟨e2, by rw [List.getElem?_append_left (List.getElem?_eq_some_iff.1 h1).1]; exact h1, h2, h3⟩
    intro i f h
    rw [livesL_snoc] at h
    unfold lifeStep at h
    by_cases h43 : e.k = 43
    · rw [if_pos h43] at h
      by_cases hi : i < (livesL l).length
      · rw [List.getElem?_append_left hi] at h; exact old i f h
      · rw [List.getElem?_append_right (by omega)] at h
        have hz := (List.getElem?_eq_some_iff.1 h).1
        simp at hz
        rw [show i - (livesL l).length = 0 by omega] at h
        have := Option.some.inj (show some (⟨l.length, l.length, -1⟩ : Lf) = some f from h)
        subst this
        refine ⟨e, ?_, by rw [h43]; decide, ?_⟩
        · show (l ++ [e])[(l.length : Int).toNat]? = some e
          simp
        · rcases hf with ⟨_, hn⟩ | ⟨hk, _⟩
          · rw [hn, ← hg.says.made]; omega
          · rw [h43] at hk; exact absurd hk (by decide)
    · rw [if_neg h43] at h
      have hin : 1 ≤ e.n := by
        rcases hf with ⟨hk, _⟩ | ⟨_, hn⟩
        · exact absurd hk h43
        · exact ((hg.says.alive e.n).1 hn).1
      by_cases h46 : e.k = 46
      · rw [if_pos h46] at h
        by_cases hi : e.n - 1 = i
        · rw [hi, mod_eq] at h
          cases hc : (livesL l)[i]? with
          | none => rw [hc] at h; cases h
          | some g =>
            rw [hc] at h
            have := Option.some.inj h
            subst this
            refine ⟨e, ?_, by rw [h46]; decide, by omega⟩
            show (l ++ [e])[(l.length : Int).toNat]? = some e
            simp
        · rw [mod_ne hi] at h; exact old i f h
      · rw [if_neg h46] at h
        by_cases hi : e.n - 1 = i
        · rw [hi, mod_eq] at h
          cases hc : (livesL l)[i]? with
          | none => rw [hc] at h; cases h
          | some g =>
            rw [hc] at h
            have := Option.some.inj h
            subst this
            exact old i g hc
        · rw [mod_ne hi] at h; exact old i f h

/-- No two values are used last at the same event. -/
theorem used_one {l : List Ev} (hg : Good l) {i j : Nat} {f g : Lf} (hi : (livesL l)[i]? = some f) (hj : (livesL l)[j]? = some g) (h : f.u = g.u) : i = j := by
  obtain ⟨e1, a1, _, a3⟩ := used_at hg i f hi
  obtain ⟨e2, b1, _, b3⟩ := used_at hg j g hj
  rw [h, b1] at a1
  rw [← Option.some.inj a1, b3] at a3
  omega

/-- The events with each destroyed value destroyed right behind its last use. -/
def earlyAt (l : List Ev) (i : Nat) : List Ev :=
  match l[i]? with
  | none => []
  | some e => if e.k = 45 then [] else e :: (match (livesL l)[e.n - 1]? with | none => [] | some f => if f.u = (i : Int) ∧ 0 ≤ f.d then [⟨45, e.n⟩] else [])
def earlyL (l : List Ev) : List Ev := (List.range l.length).flatMap (earlyAt l)

end Go.Proofs.YthgocacabadflaaDoor
