/-
  Walks of the model's holder: within, a loop.
-/
import Derived.Test.YtlilkmemgomnjaaVw
namespace Go.Proofs.Ytlilkmemgomnjaa
set_option linter.unusedVariables false
set_option linter.unusedSimpArgs false
open Go.RowKit

/-- What the loop holds: how often at most it goes round still; where it ends; what is noted at its end. -/
def LpRel (w : World) (own : Nat → Prop) (h : Nat) (nd : Array Value) (x : Nds) (K : Kn) (MF : Notes) (g : Nat) (wr : World) : Prop :=
  ∃ (kt : Kn) (own1 : Nat → Prop) (l1 : AL) (va1 vs1 : Value), kt.Wf ∧ 13 ≤ g + kt.w ∧ loopK (fun t => Nds.know x t) g kt = K ∧ Notes.both (lookL l1) (Nds.note x K) = MF ∧ WiSt w wr own own1 h l1 va1 vs1 nd kt

/-- A round: it is the last one, or one fewer is to come. -/
theorem loop_round {x : Nds} {lo hi : Nat} (hsp : x.Sp lo hi) {kt K : Kn} {g : Nat} (hk : kt.Wf) (hg : 13 ≤ g + kt.w) (h : loopK (fun t => Nds.know x t) g kt = K) :
    (kt.join (Nds.know x kt) = kt → kt = K) ∧ (kt.join (Nds.know x kt) ≠ kt → ∃ m, g = m + 1 ∧ 13 ≤ m + (kt.join (Nds.know x kt)).w ∧ loopK (fun t => Nds.know x t) m (kt.join (Nds.know x kt)) = K) := by
  have hw := w_le kt
  obtain ⟨m, rfl⟩ : ∃ m, g = m + 1 := ⟨g - 1, by omega⟩
  rw [loopK] at h
  constructor
  · intro e; rw [if_pos e] at h; exact h
  · intro e
    rw [if_neg e] at h
    have hs := (Nds.steady x lo hi hsp).wf kt hk
    have := w_lt hk (wf_join hk hs) (le_join_left kt _) (fun e2 => e e2.symm)
    exact ⟨m, rfl, by omega, h⟩
/-- What a round notes. -/
theorem loop_notes {x : Nds} {lo hi : Nat} (hsp : x.Sp lo hi) {kt K : Kn} {g : Nat} (hk : kt.Wf) (hK : K.Wf) (h : loopK (fun t => Nds.know x t) g kt = K) {M MF : Notes} (hM : Notes.both M (Nds.note x K) = MF) : Notes.both (Notes.both M (Nds.note x kt)) (Nds.note x K) = MF := by
  have hle : kt.le K := by rw [← h]; exact loop_ge g kt
  rw [both_grow (Nds.note_mono x lo hi kt K hsp hk hK hle)]
  exact hM

end Go.Proofs.Ytlilkmemgomnjaa
