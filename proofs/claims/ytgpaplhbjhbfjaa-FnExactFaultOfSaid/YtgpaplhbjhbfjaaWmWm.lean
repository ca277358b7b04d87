/-
  Walks of the model: InScope, StepAt.
  The model's NeedOf.
-/
import Derived.Test.YtgpaplhbjhbfjaaEeWm
import Derived.Test.YtgpaplhbjhbfjaaJem
import Derived.Test.YtgpaplhbjhbfjaaWnWm
namespace Go.Proofs.Ytgpaplhbjhbfjaa
set_option linter.unusedVariables false
set_option linter.unusedSimpArgs false
open Go.RowKit Go.Shelf

theorem atP_eq (s : ByteArray) (at_ : Int) : atP s at_ = (placeP s at_).map Prod.fst := by
  unfold atP placeP
  cases progP s with
  | none => rfl
  | some x =>
    show x.pre.list.find? _ = ((x.preD 0).find? _).map Prod.fst
    rw [← Nd.preD_fst x 0, List.find?_map]
    rfl

theorem resScopeS (W : World) (x : ByteArray) (v : Bool) (tmps : Array Value) (h1 : tmps.getD 4 undef = .string x) (h2 : tmps.getD 5 undef = .bool v) : (results Try.f27 tmps).run Try.prog W = .ok (.tuple #[.string x, .bool v]) W := by
  have h1' : tmps[4]?.getD undef = .string x := by simpa using h1
  have h2' : tmps[5]?.getD undef = .bool v := by simpa using h2
  simp [results, Try.results27, go_sem, h1', h2']

theorem resStepS (W : World) (x : ByteArray) (v : Bool) (tmps : Array Value) (h1 : tmps.getD 4 undef = .string x) (h2 : tmps.getD 5 undef = .bool v) : (results Try.f26 tmps).run Try.prog W = .ok (.tuple #[.string x, .bool v]) W := by
  have h1' : tmps[4]?.getD undef = .string x := by simpa using h1
  have h2' : tmps[5]?.getD undef = .bool v := by simpa using h2
  simp [results, Try.results26, go_sem, h1', h2']

set_option maxHeartbeats 1000000 in
theorem sinScope_any (s : ByteArray) (hs : s.size ≤ 1048576) (at_ : Int) (w : World) : Calls Try.prog 27 #[.string s, .int .i64 at_] w (InScopePost w ((placeP s at_).map Prod.fst)) := by
  have HC := Lib.hid (sat_any s hs at_ w)
  rw [atP_eq] at HC
  generalize (placeP s at_).map Prod.fst = res at *
  go_enter Try.func27, Try.ntmps27
  go_wp2_with fail
  refine HC.out.mono ?_
  rintro e w1 ⟨h, q⟩
  cases res with
  | none =>
    obtain ⟨x0, x1, x2, x3, x4, x5, x6, x7, rfl⟩ := h
    have hnv : nodeV x0 x1 x2 x3 x4 x5 x6 x7 = .agg #[.int .u8 x0, .int .i64 x1, .int .i64 x2, .string x3, .slice x4 x5 x6, .string x7] := rfl
    go_wp2_with fail
    refine bodyPost_ret (resScopeS _ _ _ _ rfl rfl) rfl ?_
    exact ⟨rfl, q.alloc _⟩
  | some z =>
    obtain ⟨a, n, m, rfl⟩ := h
    have hnv : nodeV z.kind.toNat z.beg z.fin ⟨z.vars.toArray⟩ a n m ⟨z.scope.toArray⟩ = .agg #[.int .u8 z.kind.toNat, .int .i64 z.beg, .int .i64 z.fin, .string ⟨z.vars.toArray⟩, .slice a n m, .string ⟨z.scope.toArray⟩] := rfl
    go_wp2_with fail
    refine bodyPost_ret (resScopeS _ _ _ _ rfl rfl) rfl ?_
    exact ⟨rfl, q.alloc _⟩

theorem atP_good {s : ByteArray} {at_ : Int} {z : Nd} (h : (placeP s at_).map Prod.fst = some z) : (z.beg : Int) ≤ (z.fin : Int) ∧ (z.fin : Int) ≤ (s.size : Int) := by
  cases hp : placeP s at_ with
  | none => rw [hp] at h; cases h
  | some p =>
    rw [hp] at h
    have e := Option.some.inj h
    subst e
    obtain ⟨hg, _⟩ := placeP_good hp
    have := hg.lt
    have := hg.le
    omega

set_option maxHeartbeats 1000000 in
theorem sstepAt_any (s : ByteArray) (hs : s.size ≤ 1048576) (at_ : Int) (w : World) : Calls Try.prog 26 #[.string s, .int .i64 at_] w (StepAtPost s w ((placeP s at_).map Prod.fst)) := by
  have HC := Lib.hid (sat_any s hs at_ w)
  have HG := Lib.hid (fun z => atP_good (s := s) (at_ := at_) (z := z))
  rw [atP_eq] at HC
  generalize (placeP s at_).map Prod.fst = res at *
  go_enter Try.func26, Try.ntmps26
  go_wp2_with fail
  refine HC.out.mono ?_
  rintro e w1 ⟨h, q⟩
  cases res with
  | none =>
    obtain ⟨x0, x1, x2, x3, x4, x5, x6, x7, rfl⟩ := h
    have hnv : nodeV x0 x1 x2 x3 x4 x5 x6 x7 = .agg #[.int .u8 x0, .int .i64 x1, .int .i64 x2, .string x3, .slice x4 x5 x6, .string x7] := rfl
    go_wp2_with fail
    refine bodyPost_ret (resStepS _ _ _ _ rfl rfl) rfl ?_
    exact ⟨rfl, q.alloc _⟩
  | some z =>
    obtain ⟨a, n, m, rfl⟩ := h
    obtain ⟨hlt, hle⟩ := HG.out z rfl
    have hlt' : z.beg ≤ z.fin := by omega
    have hle' : z.fin ≤ s.size := by omega
    have hnv : nodeV z.kind.toNat z.beg z.fin ⟨z.vars.toArray⟩ a n m ⟨z.scope.toArray⟩ = .agg #[.int .u8 z.kind.toNat, .int .i64 z.beg, .int .i64 z.fin, .string ⟨z.vars.toArray⟩, .slice a n m, .string ⟨z.scope.toArray⟩] := rfl
    go_wp2_with fail
    refine bodyPost_ret (resStepS _ (s.extract z.beg z.fin) true _ rfl rfl) rfl ?_
    exact ⟨rfl, q.alloc _⟩

end Go.Proofs.Ytgpaplhbjhbfjaa

namespace Go.Proofs.Ytgpaplhbjhbfjaa
set_option linter.unusedVariables false
set_option linter.unusedSimpArgs false
open Go.RowKit

/-- What a step's kind and variables have to do with what it needs. -/
theorem need_kinds {z : Nd} (hf : z.Fit) : (z.kind = 61 ∧ ∃ t u, z.vars = [t, u] ∧ needK z = some u) ∨ (z.kind = 46 ∧ ∃ t, z.vars = [t] ∧ needK z = some t) ∨ (z.kind = 45 ∧ ∃ t, z.vars = [t] ∧ needK z = some t) ∨ ((z.kind = 43 ∨ z.kind = 126 ∨ z.kind = 94 ∨ z.kind = 33 ∨ z.kind = 42 ∨ z.kind = 123 ∨ z.kind = 63) ∧ needK z = none) := by
  obtain ⟨c, b, e, vs, ar, bs⟩ := z
  unfold needK
  simp only [Nd.kind, Nd.vars]
  cases bs with
  | nil =>
    simp only [Nd.Fit] at hf
    rcases hf with ⟨rfl | rfl | rfl | rfl, v, rfl, _⟩ | ⟨rfl, v, u, rfl, _, _⟩ | ⟨rfl | rfl, rfl⟩ <;> simp
  | cons x r =>
    cases r with
    | nil =>
      simp only [Nd.Fit] at hf
      rcases hf.1 with ⟨rfl, rfl⟩ | rfl <;> simp
    | cons y r =>
      cases r with
      | nil => simp only [Nd.Fit] at hf; rw [hf.1]; simp
      | cons u r => simp only [Nd.Fit] at hf

set_option maxRecDepth 100000 in
set_option maxHeartbeats 4000000 in
theorem sneed_any (c k e : Int) (vs : ByteArray) (a : Option Addr) (n m : Nat) (ar : ByteArray) (r : ByteArray) (w : World)
    (h : (c = 61 ∧ vs.size = 2 ∧ r = vs.extract 1 2) ∨ (c = 46 ∧ r = vs) ∨ (c = 45 ∧ r = vs) ∨ ((c = 43 ∨ c = 126 ∨ c = 94 ∨ c = 33 ∨ c = 42 ∨ c = 123 ∨ c = 63) ∧ r = ⟨#[]⟩)) :
    Calls Try.prog 84 #[.agg #[.int .u8 c, .int .i64 k, .int .i64 e, .string vs, .slice a n m, .string ar]] w (fun e w' => e = .returned (.string r) ∧ Keeps noB w w') := by
  rcases h with ⟨rfl, hs, rfl⟩ | ⟨rfl, rfl⟩ | ⟨rfl, rfl⟩ | ⟨rfl | rfl | rfl | rfl | rfl | rfl | rfl, rfl⟩
  · have h1 : (1 : Int) ≤ (vs.size : Int) := by omega
    have h2 : (vs.size : Int) = 2 := by omega
    go_enter Try.func84, Try.ntmps84
    go_wp2_with fail
    go_ret
    exact ⟨rfl, (Keeps.refl _ _).alloc _⟩
  all_goals
    go_enter Try.func84, Try.ntmps84
    go_wp2_with fail
    go_ret
    exact ⟨rfl, (Keeps.refl _ _).alloc _⟩

theorem need_text {z : Nd} (hf : z.Fit) : ∀ (a : Option Addr) (n m : Nat) (w : World), Calls Try.prog 84 #[.agg #[.int .u8 z.kind.toNat, .int .i64 z.beg, .int .i64 z.fin, .string ⟨z.vars.toArray⟩, .slice a n m, .string ⟨z.scope.toArray⟩]] w (fun e w' => e = .returned (.string (needT (needK z))) ∧ Keeps noB w w') := by
  intro a n m w
  apply sneed_any
  rcases need_kinds hf with ⟨h1, t, u, h2, h3⟩ | ⟨h1, t, h2, h3⟩ | ⟨h1, t, h2, h3⟩ | ⟨h1, h3⟩
  · rw [h1, h2, h3]; exact .inl ⟨rfl, rfl, by simp only [needT]; rfl⟩
  · rw [h1, h2, h3]; exact .inr (.inl ⟨rfl, rfl⟩)
  · rw [h1, h2, h3]; exact .inr (.inr (.inl ⟨rfl, rfl⟩))
  · rw [h3]
    refine .inr (.inr (.inr ⟨?_, rfl⟩))
    rcases h1 with h1 | h1 | h1 | h1 | h1 | h1 | h1 <;> rw [h1] <;> simp

end Go.Proofs.Ytgpaplhbjhbfjaa
