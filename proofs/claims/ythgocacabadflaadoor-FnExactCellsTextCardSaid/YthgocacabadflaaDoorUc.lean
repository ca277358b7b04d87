/-
  A method whose receiver is no pointer, called through an interface that holds a pointer: what is there is read.
-/
import Derived.Test.YthgocacabadflaaDoorMm
import Derived.WalkKit
import Derived.ChangeKeysEq
namespace Go.Proofs.YthgocacabadflaaDoor
set_option linter.unusedVariables false
set_option linter.unusedSimpArgs false
open Go.RowKit

theorem chk_some {P : Program} (xt : TypeId) (a : Addr) (s m : String) (W : World) : (Builtin.ssaWrapNilChk_ #[xt] xt #[.pointer (some a), strVal s, strVal m]).run P W = .ok (.pointer (some a)) W := rfl
theorem und_run {P : Program} {t : TypeId} {d : TypeDesc} (h : P.underlying t = some d) (W : World) : (underlying t).run P W = .ok d W := by
  unfold underlying
  simp [go_sem, h]
theorem recv_ptr {P : Program} {t e : TypeId} (a : Addr) (W : World) (v : Value) (s : String) (hu : P.underlying t = some (.pointer e)) (hl : (loadVar e a).run P W = .ok v W) : (receiverAt t (.val (.pointer (some a))) false (some s)).run P W = .ok v W := by
  unfold receiverAt
  rw [Sem.run_bind, und_run hu, Result.andThen_ok]
  simp only [Place.get, Sem.run_bind, Sem.run_pure, Result.andThen_ok, chk_some, asAddr]
  exact hl
/-- Has the type a method of this name, of its own: that function, with its receiver by pointer or not? -/
def hasM (P : Program) (t : TypeId) (name : String) (f : FuncId) (b : Bool) : Bool :=
  match P.info? t with
  | none => false
  | some i => match i.methods.find? (fun m => m.name == name) with
    | none => false
    | some m => m.path.isEmpty && (match m.func with | none => false | some (g, c) => g == f && c == b)
theorem meth_ptr {P : Program} {t e : TypeId} {name : String} {f : FuncId} {fuel : Nat} (a : Addr) (W : World) (v : Value) (hm : hasM P t name f false = true) (hu : P.underlying t = some (.pointer e)) (hl : (loadVar e a).run P W = .ok v W) : (method (fuel + 1) t (.pointer (some a)) name).run P W = .ok (f, v) W := by
  unfold hasM at hm
  cases hi : P.info? t with
  | none => rw [hi] at hm; cases hm
  | some i =>
    rw [hi] at hm
    dsimp only at hm
    cases hf : i.methods.find? (fun m => m.name == name) with
    | none => rw [hf] at hm; cases hm
    | some m =>
      rw [hf] at hm
      dsimp only at hm
      rw [Bool.and_eq_true] at hm
      obtain ⟨h1, h2⟩ := hm
      have hp : m.path = #[] := by simpa using h1
      cases hg : m.func with
      | none => rw [hg] at h2; cases h2
      | some p =>
        rw [hg] at h2
        obtain ⟨g, c⟩ := p
        simp only [Bool.and_eq_true, beq_iff_eq] at h2
        obtain ⟨rfl, rfl⟩ := h2
        unfold method
        simp only [Sem.run_bind, run_typeInfo W hi, Result.andThen_ok, hf, hp, hg]
        show ((receiverAt t (.val (.pointer (some a))) false (some _)).run P W).andThen _ = _
        rw [recv_ptr a W v _ hu hl]
        rfl
theorem load_one {P : Program} {t : TypeId} {a : Addr} {W : World} {v : Value} (hg : ∀ w, (isAgg t).run P w = .ok false w) (h : W.cell? a = some v) : (loadVar t a).run P W = .ok v W := by
  unfold loadVar
  simp [go_sem, hg, h]
theorem meth_at {P : Program} {t e : TypeId} {name : String} {f : FuncId} {a : Addr} {W : World} {v : Value} (hm : hasM P t name f false = true) (hu : P.underlying t = some (.pointer e)) (hg : ∀ w, (isAgg e).run P w = .ok false w) (h : W.cell? a = some v) (hn : 0 < P.types.size + Made.depth) :
    (method (P.types.size + Made.depth) t (.pointer (some a)) name).run P W = .ok (f, v) W := by
  obtain ⟨n, hn⟩ : ∃ n, P.types.size + Made.depth = n + 1 := ⟨_, (Nat.sub_add_cancel hn).symm⟩
  rw [hn]
  exact meth_ptr a W v hm hu (load_one hg h)

end Go.Proofs.YthgocacabadflaaDoor
