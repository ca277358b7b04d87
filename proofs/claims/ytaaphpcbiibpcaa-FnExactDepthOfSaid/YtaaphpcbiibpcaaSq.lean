/-
  The model's reader: step and body joined in one induction.
-/
import Derived.Test.YtaaphpcbiibpcaaSd
import Derived.Test.YtaaphpcbiibpcaaSda
import Derived.Test.YtaaphpcbiibpcaaSe
import Derived.Test.YtaaphpcbiibpcaaSi
import Derived.Test.YtaaphpcbiibpcaaSj
import Derived.Test.YtaaphpcbiibpcaaSk
import Derived.Test.YtaaphpcbiibpcaaSm
import Derived.Test.YtaaphpcbiibpcaaSn
import Derived.Test.YtaaphpcbiibpcaaSo
import Derived.Test.YtaaphpcbiibpcaaSp
namespace Go.Proofs.Ytaaphpcbiibpcaa
set_option linter.unusedVariables false
set_option linter.unusedSimpArgs false
open Go.RowKit

theorem sstep_ok (n : Nat) (ih : ∀ m, m < n → SBodyOk m) : SStepOk n := by
  intro b s k d ar w h hs hk har hd hn
  have har' : ar.size ≤ 80 := by omega
  have hc := at?_some hk
  generalize s[k] = c at hc
  cases n with
  | zero => omega
  | succ n =>
  rw [stepP, hc]
  simp only
  split
  · rename_i h1
    cases hv : varP s ar.data.toList (k + 1) with
    | none =>
      rcases h1 with rfl | rfl | rfl | rfl
      · exact sstep_useno43 b s k d ar w h hs har' hc hv
      · exact sstep_useno46 b s k d ar w h hs har' hc hv
      · exact sstep_useno45 b s k d ar w h hs har' hc hv
      · exact sstep_useno126 b s k d ar w h hs har' hc hv
    | some p =>
      obtain ⟨v, k1⟩ := p
      rcases h1 with rfl | rfl | rfl | rfl
      · exact sstep_use43 b s k d ar w h hs har' hc v k1 hv
      · exact sstep_use46 b s k d ar w h hs har' hc v k1 hv
      · exact sstep_use45 b s k d ar w h hs har' hc v k1 hv
      · exact sstep_use126 b s k d ar w h hs har' hc v k1 hv
  split
  · rename_i h1 h2
    subst h2
    cases hv : moveP s ar.data.toList (k + 1) with
    | none => exact sstep_moveno b s k d ar w h hs har' hc hv
    | some p => obtain ⟨v, u, k2⟩ := p; exact sstep_move b s k d ar w h hs har' hc v u k2 hv
  split
  · rename_i h1 h2 h3
    rcases h3 with rfl | rfl
    · exact sstep_leave94 b s k d ar w h hs hc
    · exact sstep_leave33 b s k d ar w h hs hc
  split
  · rename_i h1 h2 h3 h4
    subst h4
    cases n with
    | zero => omega
    | succ n =>
    have hb := ih n (by omega)
    rw [brackP]
    cases hi : isP s 91 (k + 1) with
    | none => exact sstep_branchno4 sbody_bad b s k d ar w h hs hc (isP_none hi)
    | some k1 =>
      obtain ⟨hc1, rfl, _⟩ := isP_some hi
      simp only
      cases hx : stepsP s n ar.data.toList d 93 (k + 1 + 1) with
      | none => exact sstep_branchno3 n hb sbody_bad b s k d ar w h hs hc har hd (by omega) hc1 hx
      | some p =>
        obtain ⟨x, k2⟩ := p
        simp only
        rw [brackP]
        cases hj : isP s 91 k2 with
        | none => exact sstep_branchno1 n hb sbody_bad b s k d ar w h hs hc har hd (by omega) hc1 x k2 hx (isP_none hj)
        | some k3 =>
          obtain ⟨hc2, rfl, _⟩ := isP_some hj
          simp only
          cases hy : stepsP s n ar.data.toList d 93 (k2 + 1) with
          | none => exact sstep_branchno2 n hb b s k d ar w h hs hc har hd (by omega) hc1 x k2 hx hc2 hy
          | some p =>
            obtain ⟨y, k4⟩ := p
            exact sstep_branch n hb b s k d ar w h hs hc har hd (by omega) hc1 x k2 hx hc2 y k4 hy
  split
  · rename_i h1 h2 h3 h4 h5
    subst h5
    cases n with
    | zero => omega
    | succ n =>
    have hb := ih n (by omega)
    rw [brackP]
    cases hi : isP s 91 (k + 1) with
    | none => exact sstep_loopno1 sbody_bad b s k d ar w h hs hc (isP_none hi)
    | some k1 =>
      obtain ⟨hc1, rfl, _⟩ := isP_some hi
      simp only
      cases hx : stepsP s n ar.data.toList d 93 (k + 1 + 1) with
      | none => exact sstep_loopno2 n hb b s k d ar w h hs hc har hd (by omega) hc1 hx
      | some p =>
        obtain ⟨x, k2⟩ := p
        exact sstep_loop n hb b s k d ar w h hs hc har hd (by omega) hc1 x k2 hx
  split
  · rename_i h1 h2 h3 h4 h5 h6
    subst h6
    cases n with
    | zero => omega
    | succ n =>
    have hb := ih n (by omega)
    rw [scopeP]
    by_cases h4' : 4 ≤ d
    · rw [if_pos h4']
      exact sstep_scopeno1 sbody_bad b s k d ar w h hs hc har (by omega)
    · rw [if_neg h4']
      cases hv : declP s (s.size + 1) ar.data.toList [] (k + 1) with
      | none => exact sstep_scopeno2 sbody_bad b s k d ar w h hs hc har (by omega) hv
      | some p =>
        obtain ⟨vs, k1⟩ := p
        simp only
        cases hx : stepsP s n (ar.data.toList ++ vs) (d + 1) 125 k1 with
        | none => exact sstep_scopeno3 n hb b s k d ar w h hs hc har (by omega) (by omega) vs k1 hv hx
        | some p =>
          obtain ⟨x, k2⟩ := p
          exact sstep_scope n hb b s k d ar w h hs hc har (by omega) (by omega) vs k1 hv x k2 hx
  · rename_i h1 h2 h3 h4 h5 h6
    exact sstep_bad b s k d ar w h hs c hc h1 h2 h3 h4 h5 h6

theorem all_sok (n : Nat) : SStepOk n ∧ SBodyOk n := by
  induction n using Nat.strongRecOn with
  | _ n ih => exact ⟨sstep_ok n (fun m hm => (ih m hm).2), sbody_ok n (fun m hm => (ih m hm).1)⟩

end Go.Proofs.Ytaaphpcbiibpcaa
