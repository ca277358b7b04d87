/-
  Walks of the model: CountSteps whatever the arguments; IsStraight; l1Depth, DepthOf.
-/
import Derived.Test.YtjpmeecdndnknaaEeW
namespace Go.Proofs.Ytjpmeecdndnknaa
set_option linter.unusedVariables false
set_option linter.unusedSimpArgs false
open Go.RowKit

def countP (s kind : ByteArray) : Int :=
  match progP s with
  | none => -1
  | some x =>
    if kind.size = 1 then
      match at? kind 0 with
      | some c => if c ∈ kinds.data.toList then (countK c x.pre.list : Int) else -1
      | none => -1
    else -1

theorem scount_any (s kind : ByteArray) (hs : s.size ≤ 1048576) (w : World) : Calls Try.prog 18 #[.string s, .string kind] w (CountPostS w (countP s kind)) := by
  unfold countP
  cases hp : progP s with
  | none => exact scount_none s kind hs hp w
  | some x =>
    simp only
    by_cases hk : kind.size = 1
    · rw [if_pos hk]
      have hlt : 0 < kind.size := by omega
      rw [at?_some hlt]
      simp only
      by_cases hm : kind[0] ∈ kinds.data.toList
      · rw [if_pos hm]; exact scount_good s kind hs x hp hk _ (at?_some hlt) hm w
      · rw [if_neg hm]; exact scount_kind s kind hs x hp hk _ (at?_some hlt) hm w
    · rw [if_neg hk]; exact scount_size s kind hs x hp hk w

/-- No branch and no loop. -/
def straightP (s : ByteArray) : Bool := countP s ⟨#[63]⟩ == 0 && countP s ⟨#[42]⟩ == 0

set_option maxHeartbeats 2000000 in
theorem sstraight_any (s : ByteArray) (hs : s.size ≤ 1048576) (w : World) : Calls Try.prog 14 #[.string s] w (fun e w' => e = .returned (.bool (straightP s)) ∧ Keeps noB w w') := by
  have H1 := Lib.hid (fun w => scount_any s ⟨#[63]⟩ hs w)
  have H2 := Lib.hid (fun w => scount_any s ⟨#[42]⟩ hs w)
  unfold straightP
  generalize countP s ⟨#[63]⟩ = n1 at *
  generalize countP s ⟨#[42]⟩ = n2 at *
  by_cases h : n1 = 0
  · subst h
    go_enter Try.func14, Try.ntmps14
    go_wp2_with fail
    refine (H1.out _).mono ?_
    rintro e w1 ⟨rfl, q1⟩
    go_wp2_with fail
    refine (H2.out _).mono ?_
    rintro e w2 ⟨rfl, q2⟩
    go_wp2_with fail
    go_ret
    exact ⟨by simp, q1.trans q2⟩
  · have hb : (n1 == 0) = false := by rw [beq_eq_false_iff_ne]; exact h
    clear h
    go_enter Try.func14, Try.ntmps14
    go_wp2_with fail
    refine (H1.out _).mono ?_
    rintro e w1 ⟨rfl, q1⟩
    go_wp2_with fail
    go_ret
    exact ⟨by rw [hb]; rfl, q1⟩

end Go.Proofs.Ytjpmeecdndnknaa
