/-
  slices.SortFunc at no lives: nothing turns.
-/
import Derived.Test.YthgocacabadflaaDoorRb
import Derived.Test.YthgocacabadflaaDoorShelf
namespace Go.Proofs.YthgocacabadflaaDoor
set_option linter.unusedVariables false
set_option linter.unusedSimpArgs false
open Go.RowKit

theorem ins_nil (p : Option Addr) (cp : Nat) (c : Value) (w : World) : Calls Tryd.prog 83 #[.slice p 0 cp, .int .i64 0, .int .i64 0, c] w fun e w' => e = .returned (.tuple #[]) ∧ w' = w := by
  go_enter Tryd.func83, Tryd.ntmps83
  go_wp2_with fail
  go_loop [8] (fun vi => vi = .int .i64 1) (fun _ => 0)
  case atStart => rfl
  case round =>
    obtain rfl := hrel
    go_wp2_with fail
    first | go_end0 | go_ret2
    exact ⟨rfl, rfl⟩

theorem pdq_nil (p : Option Addr) (cp : Nat) (c : Value) (n : Int) (w : World) : Calls Tryd.prog 73 #[.slice p 0 cp, .int .i64 0, .int .i64 0, .int .i64 n, c] w fun e w' => e = .returned (.tuple #[]) ∧ w' = w := by
  have HI := Lib.hid (fun w => ins_nil p cp c w)
  go_enter Tryd.func73, Tryd.ntmps73
  go_wp2_with fail
  go_loop [1, 2] (fun v1 v2 => v1 = .int .i64 0 ∧ v2 = .int .i64 0) (fun _ _ => 0)
  case atStart => exact ⟨rfl, rfl⟩
  case round =>
    obtain ⟨rfl, rfl⟩ := hrel
    go_wp2_with (go_at_call 83; refine (HI.out _).mono ?_; rintro e w' ⟨rfl, rfl⟩)
    first | go_end0 | go_ret2 | refine bodyPost_ret (results_none rfl _ _ _) rfl ?_
    exact ⟨rfl, rfl⟩

theorem sort_nil (p : Option Addr) (cp : Nat) (c : Value) (w : World) : Calls Tryd.prog 60 #[.slice p 0 cp, c] w fun e w' => e = .returned (.tuple #[]) ∧ w' = w := by
  have HB := Lib.hid (fun w => Tryd.bits_Len 0 w (by omega) (by omega))
  have HP := Lib.hid (fun n w => pdq_nil p cp c n w)
  go_enter Tryd.func60, Tryd.ntmps60
  go_wp2_with (first | (go_at_call 74; refine (HB.out _).mono ?_; rintro e w' ⟨rfl, rfl⟩) | (go_at_call 73; refine (HP.out _ _).mono ?_; rintro e w' ⟨rfl, rfl⟩))
  first | go_end0 | go_ret2 | refine bodyPost_ret (results_none rfl _ _ _) rfl ?_
  exact ⟨rfl, rfl⟩

end Go.Proofs.YthgocacabadflaaDoor
