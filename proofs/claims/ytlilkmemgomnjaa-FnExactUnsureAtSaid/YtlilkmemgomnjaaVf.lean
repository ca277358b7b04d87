/-
  The program's faces of what is known: MayHold, MustHold, IsReached, UnsureAt, CanEnd.
-/
import Derived.Test.YtlilkmemgomnjaaVr
namespace Go.Proofs.Ytlilkmemgomnjaa
set_option linter.unusedVariables false
set_option linter.unusedSimpArgs false
open Go.RowKit

theorem knownP_wf {s : ByteArray} {a : Int} {k : Kn} (h : knownP s a = some k) : k.Wf := by
  unfold knownP at h
  cases hp : progP s with
  | none => rw [hp] at h; cases h
  | some x =>
    rw [hp] at h
    exact noteI_wf (progP_sp hp) (seen_some h).1

theorem knO_wf {s : ByteArray} {a : Int} : (knO (knownP s a)).may < 64 ∧ (knO (knownP s a)).must < 64 := by
  cases h : knownP s a with
  | none => exact ⟨by decide, by decide⟩
  | some k => exact ⟨(knownP_wf h).may, (knownP_wf h).must⟩

theorem mayT_eq (r : Option Kn) : Value.string (mayT r) = str (lets (knO r).may) := by
  cases r with
  | none => rfl
  | some k => rfl
theorem mustT_eq (r : Option Kn) : Value.string (mustT r) = str (lets (knO r).must) := by
  cases r with
  | none => rfl
  | some k => rfl
theorem unsureT_eq (r : Option Kn) : Value.string (unsureT r) = str (lets (strike (knO r).may (knO r).must)) := by
  cases r with
  | none => rfl
  | some k => rfl

theorem resMayHold (W : World) (x : ByteArray) (v : Bool) (tmps : Array Value) (h1 : tmps.getD 4 undef = .string x) (h2 : tmps.getD 5 undef = .bool v) : (results Try.f29 tmps).run Try.prog W = .ok (.tuple #[.string x, .bool v]) W := by
  have h1' : tmps[4]?.getD undef = .string x := by simpa using h1
  have h2' : tmps[5]?.getD undef = .bool v := by simpa using h2
  simp [results, Try.results29, go_sem, h1', h2']

set_option maxRecDepth 100000 in
set_option maxHeartbeats 4000000 in
theorem mayHold_any (s : ByteArray) (hs : s.size ≤ 1048576) (at_ : Int) (ha : (Lit.int .i64 at_).wf = true) (w : World) : Calls Try.prog 29 #[.string s, .int .i64 at_] w (fun e w' => e = .returned (.tuple #[.string (mayT (knownP s at_)), .bool (knownP s at_).isSome]) ∧ Keeps noB w w') := by
  have HK := Lib.hid (fun w => knownAt_any s hs at_ ha w)
  have HN := Lib.hid (fun w => namesK_any _ (knO_wf (s := s) (a := at_)).1 w)
  rw [mayT_eq]
  clear hs ha
  generalize knownP s at_ = r at *
  unfold KnownPost at HK
  generalize knO r = k at *
  generalize r.isSome = bv at *
  generalize lets k.may = lm at *
  obtain ⟨km, ku⟩ := k
  unfold knV str at *
  simp only at *
  generalize (⟨lm.toArray⟩ : ByteArray) = tx at *
  go_enter Try.func29, Try.ntmps29
  go_wp2_with (first
    | (go_at_call 54; refine (HK.out _).mono ?_; rintro e1 w1 ⟨rfl, q1⟩)
    | (go_at_call 55; refine (HN.out _).mono ?_; rintro e2 w2 ⟨rfl, q2⟩))
  exact bodyPost_ret (resMayHold _ _ _ _ rfl rfl) rfl ⟨rfl, (q1.alloc _).trans q2⟩

theorem resMustHold (W : World) (x : ByteArray) (v : Bool) (tmps : Array Value) (h1 : tmps.getD 4 undef = .string x) (h2 : tmps.getD 5 undef = .bool v) : (results Try.f31 tmps).run Try.prog W = .ok (.tuple #[.string x, .bool v]) W := by
  have h1' : tmps[4]?.getD undef = .string x := by simpa using h1
  have h2' : tmps[5]?.getD undef = .bool v := by simpa using h2
  simp [results, Try.results31, go_sem, h1', h2']

set_option maxRecDepth 100000 in
set_option maxHeartbeats 4000000 in
theorem mustHold_any (s : ByteArray) (hs : s.size ≤ 1048576) (at_ : Int) (ha : (Lit.int .i64 at_).wf = true) (w : World) : Calls Try.prog 31 #[.string s, .int .i64 at_] w (fun e w' => e = .returned (.tuple #[.string (mustT (knownP s at_)), .bool (knownP s at_).isSome]) ∧ Keeps noB w w') := by
  have HK := Lib.hid (fun w => knownAt_any s hs at_ ha w)
  have HN := Lib.hid (fun w => namesK_any _ (knO_wf (s := s) (a := at_)).2 w)
  rw [mustT_eq]
  clear hs ha
  generalize knownP s at_ = r at *
  unfold KnownPost at HK
  generalize knO r = k at *
  generalize r.isSome = bv at *
  generalize lets k.must = lm at *
  obtain ⟨km, ku⟩ := k
  unfold knV str at *
  simp only at *
  generalize (⟨lm.toArray⟩ : ByteArray) = tx at *
  go_enter Try.func31, Try.ntmps31
  go_wp2_with (first
    | (go_at_call 54; refine (HK.out _).mono ?_; rintro e1 w1 ⟨rfl, q1⟩)
    | (go_at_call 55; refine (HN.out _).mono ?_; rintro e2 w2 ⟨rfl, q2⟩))
  exact bodyPost_ret (resMustHold _ _ _ _ rfl rfl) rfl ⟨rfl, (q1.alloc _).trans q2⟩

theorem resUnsureAt (W : World) (x : ByteArray) (v : Bool) (tmps : Array Value) (h1 : tmps.getD 4 undef = .string x) (h2 : tmps.getD 5 undef = .bool v) : (results Try.f37 tmps).run Try.prog W = .ok (.tuple #[.string x, .bool v]) W := by
  have h1' : tmps[4]?.getD undef = .string x := by simpa using h1
  have h2' : tmps[5]?.getD undef = .bool v := by simpa using h2
  simp [results, Try.results37, go_sem, h1', h2']

set_option maxRecDepth 100000 in
set_option maxHeartbeats 4000000 in
theorem unsureAt_any (s : ByteArray) (hs : s.size ≤ 1048576) (at_ : Int) (ha : (Lit.int .i64 at_).wf = true) (w : World) : Calls Try.prog 37 #[.string s, .int .i64 at_] w (fun e w' => e = .returned (.tuple #[.string (unsureT (knownP s at_)), .bool (knownP s at_).isSome]) ∧ Keeps noB w w') := by
  have HK := Lib.hid (fun w => knownAt_any s hs at_ ha w)
  have HN := Lib.hid (fun w => namesK_any _ (strike_lt (knO (knownP s at_)).must (knO_wf (s := s) (a := at_)).1) w)
  have HW := Lib.hid (fun w => without_any (knO_wf (s := s) (a := at_)).1 (knO_wf (s := s) (a := at_)).2 w)
  rw [unsureT_eq]
  clear hs ha
  generalize knownP s at_ = r at *
  unfold KnownPost at HK
  generalize knO r = k at *
  generalize r.isSome = bv at *
  generalize lets (strike k.may k.must) = lm at *
  generalize strike k.may k.must = sm at *
  obtain ⟨km, ku⟩ := k
  unfold knV str at *
  simp only at *
  generalize (⟨lm.toArray⟩ : ByteArray) = tx at *
  go_enter Try.func37, Try.ntmps37
  go_wp2_with (first
    | (go_at_call 54; refine (HK.out _).mono ?_; rintro e1 w1 ⟨rfl, q1⟩)
    | (go_at_call 57; refine (HW.out _).mono ?_; rintro e3 w3 ⟨rfl, rfl⟩)
    | (go_at_call 55; refine (HN.out _).mono ?_; rintro e2 w2 ⟨rfl, q2⟩))
  exact bodyPost_ret (resUnsureAt _ _ _ _ rfl rfl) rfl ⟨rfl, (q1.alloc _).trans q2⟩

set_option maxRecDepth 100000 in
set_option maxHeartbeats 4000000 in
theorem isReachedF_any (s : ByteArray) (hs : s.size ≤ 1048576) (at_ : Int) (ha : (Lit.int .i64 at_).wf = true) (w : World) : Calls Try.prog 33 #[.string s, .int .i64 at_] w (fun e w' => e = .returned (.bool (knownP s at_).isSome) ∧ Keeps noB w w') := by
  have HK : Hid (∀ w, Calls Try.prog 54 #[.string s, .int .i64 at_] w (fun e w' => ∃ a b, e = .returned (.tuple #[.agg #[.int .u8 a, .int .u8 b], .bool (knownP s at_).isSome]) ∧ Keeps noB w w')) :=
    fun w => (knownAt_any s hs at_ ha w).mono (fun e w' h => ⟨_, _, h.1, h.2⟩)
  clear hs ha
  generalize (knownP s at_).isSome = bv at *
  go_enter Try.func33, Try.ntmps33
  go_wp2_with (go_at_call 54; refine (HK.out _).mono ?_; rintro e1 w1 ⟨a, b, rfl, q1⟩)
  go_ret
  exact ⟨rfl, q1.alloc _⟩

set_option maxRecDepth 100000 in
set_option maxHeartbeats 4000000 in
theorem canEnd_any (s : ByteArray) (hs : s.size ≤ 1048576) (w : World) : Calls Try.prog 35 #[.string s] w (fun e w' => e = .returned (.bool (canEndP s)) ∧ Keeps noB w w') := by
  have HK := Lib.hid (fun w => isReachedF_any s hs ((s.size : Int) - 1) (by simp [Lit.wf, IntKind.min, IntKind.max, IntKind.signed, IntKind.bits]; omega) w)
  have h0 : (s.size : Int) ≤ 1048576 := by omega
  unfold canEndP
  generalize (knownP s ((s.size : Int) - 1)).isSome = bv at *
  clear hs
  go_enter Try.func35, Try.ntmps35
  go_wp2_with (go_at_call 33; refine (HK.out _).mono ?_; rintro e1 w1 ⟨rfl, q1⟩)
  go_ret
  exact ⟨rfl, q1⟩

end Go.Proofs.Ytlilkmemgomnjaa
