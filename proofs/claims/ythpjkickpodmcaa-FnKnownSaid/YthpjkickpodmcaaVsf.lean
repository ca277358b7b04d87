/-
  The model's faces of what is known: MayHold, MustHold, IsReached, CanEnd.
-/
import Derived.Test.YthpjkickpodmcaaVs
namespace Go.Proofs.Ythpjkickpodmcaa
set_option linter.unusedVariables false
set_option linter.unusedSimpArgs false
open Go.RowKit

theorem resMayS (W : World) (x : ByteArray) (v : Bool) (tmps : Array Value) (h1 : tmps.getD 4 undef = .string x) (h2 : tmps.getD 5 undef = .bool v) : (results Try.f28 tmps).run Try.prog W = .ok (.tuple #[.string x, .bool v]) W := by
  have h1' : tmps[4]?.getD undef = .string x := by simpa using h1
  have h2' : tmps[5]?.getD undef = .bool v := by simpa using h2
  simp [results, Try.results28, go_sem, h1', h2']
theorem resMustS (W : World) (x : ByteArray) (v : Bool) (tmps : Array Value) (h1 : tmps.getD 4 undef = .string x) (h2 : tmps.getD 5 undef = .bool v) : (results Try.f29 tmps).run Try.prog W = .ok (.tuple #[.string x, .bool v]) W := by
  have h1' : tmps[4]?.getD undef = .string x := by simpa using h1
  have h2' : tmps[5]?.getD undef = .bool v := by simpa using h2
  simp [results, Try.results29, go_sem, h1', h2']

set_option maxHeartbeats 1000000 in
theorem smayHold_any (s : ByteArray) (hs : s.size ≤ 1048576) (at_ : Int) (w : World) : Calls Try.prog 28 #[.string s, .int .i64 at_] w (fun e w' => e = .returned (.tuple #[.string (mayT (knownP s at_)), .bool (knownP s at_).isSome]) ∧ Keeps noB w w') := by
  have HC := Lib.hid (fun w => slat_any s hs at_ w)
  rw [may_at, some_at]
  rw [stV_eq] at HC
  generalize (atK s at_).getD Kn.no = r at *
  generalize (atK s at_).isSome = bv at *
  generalize mayB r = a0 at *
  generalize mustB r = b0 at *
  generalize liveK r = c0 at *
  cases bv
  all_goals
    go_enter Try.func28, Try.ntmps28
    go_wp2_with (go_at_call 52; refine (HC.out _).mono ?_; rintro e1 w1 ⟨rfl, q1⟩)
    go_quiet (fail)
    all_goals
      go_wp2_with fail
      exact bodyPost_ret (resMayS _ _ _ _ rfl rfl) rfl ⟨rfl, (q1.alloc _).drewN _⟩

set_option maxHeartbeats 1000000 in
theorem smustHold_any (s : ByteArray) (hs : s.size ≤ 1048576) (at_ : Int) (w : World) : Calls Try.prog 29 #[.string s, .int .i64 at_] w (fun e w' => e = .returned (.tuple #[.string (mustT (knownP s at_)), .bool (knownP s at_).isSome]) ∧ Keeps noB w w') := by
  have HC := Lib.hid (fun w => slat_any s hs at_ w)
  rw [must_at, some_at]
  rw [stV_eq] at HC
  generalize (atK s at_).getD Kn.no = r at *
  generalize (atK s at_).isSome = bv at *
  generalize mayB r = a0 at *
  generalize mustB r = b0 at *
  generalize liveK r = c0 at *
  cases bv
  all_goals
    go_enter Try.func29, Try.ntmps29
    go_wp2_with (go_at_call 52; refine (HC.out _).mono ?_; rintro e1 w1 ⟨rfl, q1⟩)
    go_quiet (fail)
    all_goals
      go_wp2_with fail
      exact bodyPost_ret (resMustS _ _ _ _ rfl rfl) rfl ⟨rfl, (q1.alloc _).drewN _⟩

set_option maxHeartbeats 1000000 in
theorem sisReached_any (s : ByteArray) (hs : s.size ≤ 1048576) (at_ : Int) (w : World) : Calls Try.prog 32 #[.string s, .int .i64 at_] w (fun e w' => e = .returned (.bool (knownP s at_).isSome) ∧ Keeps noB w w') := by
  have HC := Lib.hid (fun w => slat_any s hs at_ w)
  rw [some_at]
  rw [stV_eq] at HC
  generalize (atK s at_).getD Kn.no = r at *
  generalize (atK s at_).isSome = bv at *
  generalize mayB r = a0 at *
  generalize mustB r = b0 at *
  generalize liveK r = c0 at *
  cases bv
  all_goals
    go_enter Try.func32, Try.ntmps32
    go_wp2_with (go_at_call 52; refine (HC.out _).mono ?_; rintro e1 w1 ⟨rfl, q1⟩)
    go_ret
    exact ⟨rfl, q1.alloc _⟩

end Go.Proofs.Ythpjkickpodmcaa
