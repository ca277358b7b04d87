/-
  Walks of the model: InScope, StepAt.
-/
import Derived.Test.YtjpmeecdndnknaaEeW
import Derived.Test.YtjpmeecdndnknaaJe
namespace Go.Proofs.Ytjpmeecdndnknaa
set_option linter.unusedVariables false
set_option linter.unusedSimpArgs false
open Go.RowKit Go.Shelf

theorem atP_eq (s : ByteArray) (at_ : Int) : atP s at_ = (placeP s at_).map Prod.fst := by
  unfold atP placeP
  cases progP s with
  | none => rfl
  | some x =>
    show x.pre.list.find? _ = ((x.preD 0).find? _).map Prod.fst
    rw [← Nd.preD_fst x 0, List.find?_map]
    rfl

theorem resScopeS (W : World) (x : ByteArray) (v : Bool) (tmps : Array Value) (h1 : tmps.getD 4 undef = .string x) (h2 : tmps.getD 5 undef = .bool v) : (results Try.f22 tmps).run Try.prog W = .ok (.tuple #[.string x, .bool v]) W := by
  have h1' : tmps[4]?.getD undef = .string x := by simpa using h1
  have h2' : tmps[5]?.getD undef = .bool v := by simpa using h2
  simp [results, Try.results22, go_sem, h1', h2']

theorem resStepS (W : World) (x : ByteArray) (v : Bool) (tmps : Array Value) (h1 : tmps.getD 4 undef = .string x) (h2 : tmps.getD 5 undef = .bool v) : (results Try.f21 tmps).run Try.prog W = .ok (.tuple #[.string x, .bool v]) W := by
  have h1' : tmps[4]?.getD undef = .string x := by simpa using h1
  have h2' : tmps[5]?.getD undef = .bool v := by simpa using h2
  simp [results, Try.results21, go_sem, h1', h2']

set_option maxHeartbeats 1000000 in
theorem sinScope_any (s : ByteArray) (hs : s.size ≤ 1048576) (at_ : Int) (w : World) : Calls Try.prog 22 #[.string s, .int .i64 at_] w (InScopePost w ((placeP s at_).map Prod.fst)) := by
  have HC := Lib.hid (sat_any s hs at_ w)
  rw [atP_eq] at HC
  generalize (placeP s at_).map Prod.fst = res at *
  go_enter Try.func22, Try.ntmps22
  go_wp2_with fail
  refine HC.out.mono ?_
  rintro e w1 ⟨h, q⟩
  cases res with
  | none =>
    obtain ⟨x0, x1, x2, x3, x4, x5, x6, x7, rfl⟩ := h
    have hnv : nodeV x0 x1 x2 x3 x4 x5 x6 x7 = .agg #[.int .u8 x0, .int .i64 x1, .int .i64 x2, .string x3, .slice x4 x5 x6, .string x7] := rfl
    go_wp2_with fail
    refine bodyPost_ret (resScopeS _ _ _ _ rfl rfl) rfl ?_
    exact ⟨rfl, q.alloc _⟩
  | some z =>
    obtain ⟨a, n, m, rfl⟩ := h
    have hnv : nodeV z.kind.toNat z.beg z.fin ⟨z.vars.toArray⟩ a n m ⟨z.scope.toArray⟩ = .agg #[.int .u8 z.kind.toNat, .int .i64 z.beg, .int .i64 z.fin, .string ⟨z.vars.toArray⟩, .slice a n m, .string ⟨z.scope.toArray⟩] := rfl
    go_wp2_with fail
    refine bodyPost_ret (resScopeS _ _ _ _ rfl rfl) rfl ?_
    exact ⟨rfl, q.alloc _⟩

theorem atP_good {s : ByteArray} {at_ : Int} {z : Nd} (h : (placeP s at_).map Prod.fst = some z) : (z.beg : Int) ≤ (z.fin : Int) ∧ (z.fin : Int) ≤ (s.size : Int) := by
  cases hp : placeP s at_ with
  | none => rw [hp] at h; cases h
  | some p =>
    rw [hp] at h
    have e := Option.some.inj h
    subst e
    obtain ⟨hg, _⟩ := placeP_good hp
    have := hg.lt
    have := hg.le
    omega

set_option maxHeartbeats 1000000 in
theorem sstepAt_any (s : ByteArray) (hs : s.size ≤ 1048576) (at_ : Int) (w : World) : Calls Try.prog 21 #[.string s, .int .i64 at_] w (StepAtPost s w ((placeP s at_).map Prod.fst)) := by
  have HC := Lib.hid (sat_any s hs at_ w)
  have HG := Lib.hid (fun z => atP_good (s := s) (at_ := at_) (z := z))
  rw [atP_eq] at HC
  generalize (placeP s at_).map Prod.fst = res at *
  go_enter Try.func21, Try.ntmps21
  go_wp2_with fail
  refine HC.out.mono ?_
  rintro e w1 ⟨h, q⟩
  cases res with
  | none =>
    obtain ⟨x0, x1, x2, x3, x4, x5, x6, x7, rfl⟩ := h
    have hnv : nodeV x0 x1 x2 x3 x4 x5 x6 x7 = .agg #[.int .u8 x0, .int .i64 x1, .int .i64 x2, .string x3, .slice x4 x5 x6, .string x7] := rfl
    go_wp2_with fail
    refine bodyPost_ret (resStepS _ _ _ _ rfl rfl) rfl ?_
    exact ⟨rfl, q.alloc _⟩
  | some z =>
    obtain ⟨a, n, m, rfl⟩ := h
    obtain ⟨hlt, hle⟩ := HG.out z rfl
    have hlt' : z.beg ≤ z.fin := by omega
    have hle' : z.fin ≤ s.size := by omega
    have hnv : nodeV z.kind.toNat z.beg z.fin ⟨z.vars.toArray⟩ a n m ⟨z.scope.toArray⟩ = .agg #[.int .u8 z.kind.toNat, .int .i64 z.beg, .int .i64 z.fin, .string ⟨z.vars.toArray⟩, .slice a n m, .string ⟨z.scope.toArray⟩] := rfl
    go_wp2_with fail
    refine bodyPost_ret (resStepS _ (s.extract z.beg z.fin) true _ rfl rfl) rfl ?_
    exact ⟨rfl, q.alloc _⟩

end Go.Proofs.Ytjpmeecdndnknaa
