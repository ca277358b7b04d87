/-
  The program's faces of what is known: MayHold, MustHold, IsReached, UnsureAt, CanEnd.
-/
import Derived.Test.YthpjkickpodmcaaVfa
import Derived.Test.YthpjkickpodmcaaVrW
namespace Go.Proofs.Ythpjkickpodmcaa
set_option linter.unusedVariables false
set_option linter.unusedSimpArgs false
open Go.RowKit

theorem resMayHold (W : World) (x : ByteArray) (v : Bool) (tmps : Array Value) (h1 : tmps.getD 4 undef = .string x) (h2 : tmps.getD 5 undef = .bool v) : (results Try.f25 tmps).run Try.prog W = .ok (.tuple #[.string x, .bool v]) W := by
  have h1' : tmps[4]?.getD undef = .string x := by simpa using h1
  have h2' : tmps[5]?.getD undef = .bool v := by simpa using h2
  simp [results, Try.results25, go_sem, h1', h2']

set_option maxRecDepth 100000 in
set_option maxHeartbeats 4000000 in
theorem mayHold_any (s : ByteArray) (hs : s.size ≤ 1048576) (at_ : Int) (ha : (Lit.int .i64 at_).wf = true) (w : World) : Calls Try.prog 25 #[.string s, .int .i64 at_] w (fun e w' => e = .returned (.tuple #[.string (mayT (knownP s at_)), .bool (knownP s at_).isSome]) ∧ Keeps noB w w') := by
  have HK := Lib.hid (fun w => knownAt_any s hs at_ ha w)
  have HN := Lib.hid (fun w => namesK_any _ (knO_wf (s := s) (a := at_)).1 w)
  rw [mayT_eq]
  clear hs ha
  generalize knownP s at_ = r at *
  unfold KnownPost at HK
  generalize knO r = k at *
  generalize r.isSome = bv at *
  generalize lets k.may = lm at *
  obtain ⟨km, ku⟩ := k
  unfold knV str at *
  simp only at *
  generalize (⟨lm.toArray⟩ : ByteArray) = tx at *
  go_enter Try.func25, Try.ntmps25
  go_wp2_with (first
    | (go_at_call 49; refine (HK.out _).mono ?_; rintro e1 w1 ⟨rfl, q1⟩)
    | (go_at_call 50; refine (HN.out _).mono ?_; rintro e2 w2 ⟨rfl, q2⟩))
  exact bodyPost_ret (resMayHold _ _ _ _ rfl rfl) rfl ⟨rfl, (q1.alloc _).trans q2⟩

theorem resMustHold (W : World) (x : ByteArray) (v : Bool) (tmps : Array Value) (h1 : tmps.getD 4 undef = .string x) (h2 : tmps.getD 5 undef = .bool v) : (results Try.f26 tmps).run Try.prog W = .ok (.tuple #[.string x, .bool v]) W := by
  have h1' : tmps[4]?.getD undef = .string x := by simpa using h1
  have h2' : tmps[5]?.getD undef = .bool v := by simpa using h2
  simp [results, Try.results26, go_sem, h1', h2']

set_option maxRecDepth 100000 in
set_option maxHeartbeats 4000000 in
theorem mustHold_any (s : ByteArray) (hs : s.size ≤ 1048576) (at_ : Int) (ha : (Lit.int .i64 at_).wf = true) (w : World) : Calls Try.prog 26 #[.string s, .int .i64 at_] w (fun e w' => e = .returned (.tuple #[.string (mustT (knownP s at_)), .bool (knownP s at_).isSome]) ∧ Keeps noB w w') := by
  have HK := Lib.hid (fun w => knownAt_any s hs at_ ha w)
  have HN := Lib.hid (fun w => namesK_any _ (knO_wf (s := s) (a := at_)).2 w)
  rw [mustT_eq]
  clear hs ha
  generalize knownP s at_ = r at *
  unfold KnownPost at HK
  generalize knO r = k at *
  generalize r.isSome = bv at *
  generalize lets k.must = lm at *
  obtain ⟨km, ku⟩ := k
  unfold knV str at *
  simp only at *
  generalize (⟨lm.toArray⟩ : ByteArray) = tx at *
  go_enter Try.func26, Try.ntmps26
  go_wp2_with (first
    | (go_at_call 49; refine (HK.out _).mono ?_; rintro e1 w1 ⟨rfl, q1⟩)
    | (go_at_call 50; refine (HN.out _).mono ?_; rintro e2 w2 ⟨rfl, q2⟩))
  exact bodyPost_ret (resMustHold _ _ _ _ rfl rfl) rfl ⟨rfl, (q1.alloc _).trans q2⟩

theorem resUnsureAt (W : World) (x : ByteArray) (v : Bool) (tmps : Array Value) (h1 : tmps.getD 4 undef = .string x) (h2 : tmps.getD 5 undef = .bool v) : (results Try.f27 tmps).run Try.prog W = .ok (.tuple #[.string x, .bool v]) W := by
  have h1' : tmps[4]?.getD undef = .string x := by simpa using h1
  have h2' : tmps[5]?.getD undef = .bool v := by simpa using h2
  simp [results, Try.results27, go_sem, h1', h2']

set_option maxRecDepth 100000 in
set_option maxHeartbeats 4000000 in
theorem unsureAt_any (s : ByteArray) (hs : s.size ≤ 1048576) (at_ : Int) (ha : (Lit.int .i64 at_).wf = true) (w : World) : Calls Try.prog 27 #[.string s, .int .i64 at_] w (fun e w' => e = .returned (.tuple #[.string (unsureT (knownP s at_)), .bool (knownP s at_).isSome]) ∧ Keeps noB w w') := by
  have HK := Lib.hid (fun w => knownAt_any s hs at_ ha w)
  have HN := Lib.hid (fun w => namesK_any _ (strike_lt (knO (knownP s at_)).must (knO_wf (s := s) (a := at_)).1) w)
  have HW := Lib.hid (fun w => without_any (knO_wf (s := s) (a := at_)).1 (knO_wf (s := s) (a := at_)).2 w)
  rw [unsureT_eq]
  clear hs ha
  generalize knownP s at_ = r at *
  unfold KnownPost at HK
  generalize knO r = k at *
  generalize r.isSome = bv at *
  generalize lets (strike k.may k.must) = lm at *
  generalize strike k.may k.must = sm at *
  obtain ⟨km, ku⟩ := k
  unfold knV str at *
  simp only at *
  generalize (⟨lm.toArray⟩ : ByteArray) = tx at *
  go_enter Try.func27, Try.ntmps27
  go_wp2_with (first
    | (go_at_call 49; refine (HK.out _).mono ?_; rintro e1 w1 ⟨rfl, q1⟩)
    | (go_at_call 51; refine (HW.out _).mono ?_; rintro e3 w3 ⟨rfl, rfl⟩)
    | (go_at_call 50; refine (HN.out _).mono ?_; rintro e2 w2 ⟨rfl, q2⟩))
  exact bodyPost_ret (resUnsureAt _ _ _ _ rfl rfl) rfl ⟨rfl, (q1.alloc _).trans q2⟩

end Go.Proofs.Ythpjkickpodmcaa
