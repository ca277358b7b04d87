/-
  The program's IsReached; what is known is well formed.
-/
import Derived.Test.YthpjkickpodmcaaVra
namespace Go.Proofs.Ythpjkickpodmcaa
set_option linter.unusedVariables false
set_option linter.unusedSimpArgs false
open Go.RowKit

theorem knownP_wf {s : ByteArray} {a : Int} {k : Kn} (h : knownP s a = some k) : k.Wf := by
  unfold knownP at h
  cases hp : progP s with
  | none => rw [hp] at h; cases h
  | some x =>
    rw [hp] at h
    exact noteI_wf (progP_sp hp) (seen_some h).1

theorem knO_wf {s : ByteArray} {a : Int} : (knO (knownP s a)).may < 64 ∧ (knO (knownP s a)).must < 64 := by
  cases h : knownP s a with
  | none => exact ⟨by decide, by decide⟩
  | some k => exact ⟨(knownP_wf h).may, (knownP_wf h).must⟩

theorem mayT_eq (r : Option Kn) : Value.string (mayT r) = str (lets (knO r).may) := by
  cases r with
  | none => rfl
  | some k => rfl
theorem mustT_eq (r : Option Kn) : Value.string (mustT r) = str (lets (knO r).must) := by
  cases r with
  | none => rfl
  | some k => rfl
theorem unsureT_eq (r : Option Kn) : Value.string (unsureT r) = str (lets (strike (knO r).may (knO r).must)) := by
  cases r with
  | none => rfl
  | some k => rfl

set_option maxRecDepth 100000 in
set_option maxHeartbeats 4000000 in
theorem isReachedF_any (s : ByteArray) (hs : s.size ≤ 1048576) (at_ : Int) (ha : (Lit.int .i64 at_).wf = true) (w : World) : Calls Try.prog 31 #[.string s, .int .i64 at_] w (fun e w' => e = .returned (.bool (knownP s at_).isSome) ∧ Keeps noB w w') := by
  have HK : Hid (∀ w, Calls Try.prog 49 #[.string s, .int .i64 at_] w (fun e w' => ∃ a b, e = .returned (.tuple #[.agg #[.int .u8 a, .int .u8 b], .bool (knownP s at_).isSome]) ∧ Keeps noB w w')) :=
    fun w => (knownAt_any s hs at_ ha w).mono (fun e w' h => ⟨_, _, h.1, h.2⟩)
  clear hs ha
  generalize (knownP s at_).isSome = bv at *
  go_enter Try.func31, Try.ntmps31
  go_wp2_with (go_at_call 49; refine (HK.out _).mono ?_; rintro e1 w1 ⟨a, b, rfl, q1⟩)
  go_ret
  exact ⟨rfl, q1.alloc _⟩

end Go.Proofs.Ythpjkickpodmcaa
