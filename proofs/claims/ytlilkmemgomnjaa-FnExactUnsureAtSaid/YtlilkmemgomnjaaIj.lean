/-
  Walks of the program: what a step says of itself through its interface.
-/
import Derived.Test.YtlilkmemgomnjaaIt
import Derived.Test.YtlilkmemgomnjaaProg
import Derived.WalkKit
import Derived.Lib.Hide
namespace Go.Proofs.Ytlilkmemgomnjaa
set_option linter.unusedVariables false
set_option linter.unusedSimpArgs false
open Go.RowKit

/-- The cells of a step with variables. -/
def ValIs (W : World) (z : Nd) (g : Nat) : Prop :=
  ∃ c t u, z.kind = c ∧ W.cell? ⟨g, 2, none⟩ = some (.int .u8 (c.toNat : Int)) ∧ W.cell? ⟨g, 3, none⟩ = some (.int .u8 (t.toNat : Int)) ∧ W.cell? ⟨g, 4, none⟩ = some (.int .u8 (u.toNat : Int)) ∧ (((c = 43 ∨ c = 46 ∨ c = 45 ∨ c = 126) ∧ z.vars = [t]) ∨ (c = 61 ∧ z.vars = [t, u]))
theorem ValIs.moved {W W' : World} {z : Nd} {g : Nat} (h : ValIs W z g) (e : ∀ j, W'.cell? ⟨g, j, none⟩ = W.cell? ⟨g, j, none⟩) : ValIs W' z g := by
  obtain ⟨c, t, u, h0, h1, h2, h3, h4⟩ := h
  exact ⟨c, t, u, h0, (e 2).trans h1, (e 3).trans h2, (e 4).trans h3, h4⟩
/-- Of which type a step is, by its kind. -/
def TyIs (z : Nd) (ty : TypeId) : Prop :=
  ty = 159 ∨ (ty = 161 ∧ (z.kind = 94 ∨ z.kind = 33)) ∨ (ty = 69 ∧ z.kind = 42) ∨ (ty = 57 ∧ z.kind = 123) ∨ (ty = 68 ∧ z.kind = 63)

/-- What a step's methods and its first cells answer. -/
structure StepIs (W : World) (z : Nd) (ty : TypeId) (g : Nat) : Prop where
  beg : ∀ W', (callMethod (.iface ty (.pointer (some ⟨g, 0, none⟩))) "loop.example/endsoflife/impl.begin" #[]).run Try.prog W' = .ok (.enter 159 #[.pointer (some ⟨g, 0, none⟩)]) W'
  fin : ∀ W', (callMethod (.iface ty (.pointer (some ⟨g, 0, none⟩))) "loop.example/endsoflife/impl.end" #[]).run Try.prog W' = .ok (.enter 141 #[.pointer (some ⟨g, 0, none⟩)]) W'
  c0 : W.cell? ⟨g, 0, none⟩ = some (.int .i64 (z.beg : Int))
  c1 : W.cell? ⟨g, 1, none⟩ = some (.int .i64 (z.fin : Int))
  tys : TyIs z ty
  val : ty = 159 → ValIs W z g

theorem StepIs.keeps {W W' : World} {z : Nd} {ty : TypeId} {g : Nat} {may : Nat → Prop} (h : StepIs W z ty g) (q : Keeps may W W') (hl : g < W.heap.size) (hm : ¬ may g) : StepIs W' z ty g :=
  ⟨h.beg, h.fin, (q.cell (p := ⟨g, 0, none⟩) hl hm).trans h.c0, (q.cell (p := ⟨g, 1, none⟩) hl hm).trans h.c1, h.tys, fun e => (h.val e).moved (fun j => q.cell (p := ⟨g, j, none⟩) hl hm)⟩

theorem begin_any (g : Nat) (k : Int) (w : World) (hc : w.cell? ⟨g, 0, none⟩ = some (.int .i64 k)) : Calls Try.prog 159 #[.pointer (some ⟨g, 0, none⟩)] w (fun e w' => e = .returned (.int .i64 k) ∧ w' = w) := by
  go_enter Try.func159, Try.ntmps159
  go_wp2
  go_ret
  exact ⟨rfl, rfl⟩

theorem end_any (g : Nat) (k : Int) (w : World) (hc : w.cell? ⟨g, 1, none⟩ = some (.int .i64 k)) : Calls Try.prog 141 #[.pointer (some ⟨g, 0, none⟩)] w (fun e w' => e = .returned (.int .i64 k) ∧ w' = w) := by
  go_enter Try.func141, Try.ntmps141
  go_wp2
  go_ret
  exact ⟨rfl, rfl⟩

theorem begV (g : Nat) (W' : World) : (callMethod (.iface 159 (.pointer (some ⟨g, 0, none⟩))) "loop.example/endsoflife/impl.begin" #[]).run Try.prog W' = .ok (.enter 159 #[.pointer (some ⟨g, 0, none⟩)]) W' := by kernel_rfl
theorem begL (g : Nat) (W' : World) : (callMethod (.iface 161 (.pointer (some ⟨g, 0, none⟩))) "loop.example/endsoflife/impl.begin" #[]).run Try.prog W' = .ok (.enter 159 #[.pointer (some ⟨g, 0, none⟩)]) W' := by kernel_rfl
theorem begB (g : Nat) (W' : World) : (callMethod (.iface 68 (.pointer (some ⟨g, 0, none⟩))) "loop.example/endsoflife/impl.begin" #[]).run Try.prog W' = .ok (.enter 159 #[.pointer (some ⟨g, 0, none⟩)]) W' := by kernel_rfl
theorem begO (g : Nat) (W' : World) : (callMethod (.iface 69 (.pointer (some ⟨g, 0, none⟩))) "loop.example/endsoflife/impl.begin" #[]).run Try.prog W' = .ok (.enter 159 #[.pointer (some ⟨g, 0, none⟩)]) W' := by kernel_rfl
theorem begS (g : Nat) (W' : World) : (callMethod (.iface 57 (.pointer (some ⟨g, 0, none⟩))) "loop.example/endsoflife/impl.begin" #[]).run Try.prog W' = .ok (.enter 159 #[.pointer (some ⟨g, 0, none⟩)]) W' := by kernel_rfl
theorem finV (g : Nat) (W' : World) : (callMethod (.iface 159 (.pointer (some ⟨g, 0, none⟩))) "loop.example/endsoflife/impl.end" #[]).run Try.prog W' = .ok (.enter 141 #[.pointer (some ⟨g, 0, none⟩)]) W' := by kernel_rfl
theorem finL (g : Nat) (W' : World) : (callMethod (.iface 161 (.pointer (some ⟨g, 0, none⟩))) "loop.example/endsoflife/impl.end" #[]).run Try.prog W' = .ok (.enter 141 #[.pointer (some ⟨g, 0, none⟩)]) W' := by kernel_rfl
theorem finB (g : Nat) (W' : World) : (callMethod (.iface 68 (.pointer (some ⟨g, 0, none⟩))) "loop.example/endsoflife/impl.end" #[]).run Try.prog W' = .ok (.enter 141 #[.pointer (some ⟨g, 0, none⟩)]) W' := by kernel_rfl
theorem finO (g : Nat) (W' : World) : (callMethod (.iface 69 (.pointer (some ⟨g, 0, none⟩))) "loop.example/endsoflife/impl.end" #[]).run Try.prog W' = .ok (.enter 141 #[.pointer (some ⟨g, 0, none⟩)]) W' := by kernel_rfl
theorem finS (g : Nat) (W' : World) : (callMethod (.iface 57 (.pointer (some ⟨g, 0, none⟩))) "loop.example/endsoflife/impl.end" #[]).run Try.prog W' = .ok (.enter 141 #[.pointer (some ⟨g, 0, none⟩)]) W' := by kernel_rfl

/-- Of which type a step is. -/
def TypeIs (W : World) (z : Nd) (ty : TypeId) (g : Nat) : Prop :=
  (ty = 159 ∧ (z.kind = 43 ∨ z.kind = 46 ∨ z.kind = 45 ∨ z.kind = 126 ∨ z.kind = 61)) ∨ (ty = 161 ∧ (z.kind = 94 ∨ z.kind = 33)) ∨ (ty = 69 ∧ z.kind = 42) ∨
  (ty = 57 ∧ z.kind = 123 ∧ W.cell? ⟨g, 2, none⟩ = some (str z.vars)) ∨ (ty = 68 ∧ z.kind = 63)

theorem rep_step : ∀ (z : Nd) (w : World) (ok : Nat → Prop) (ty : TypeId) (g : Nat), RepI w ok z (.iface ty (ptr g)) → StepIs w z ty g ∧ TypeIs w z ty g ∧ ok g ∧ g < w.heap.size
  | .mk c k e vs _ .nil, w, ok, ty, g, h => by
    simp only [RepI] at h
    obtain ⟨g', hg, h1⟩ := h
    rcases h1 with ⟨hc, t, h1, h2, h3⟩ | ⟨hc, t, u, h1, h2, h3⟩ | ⟨hc, h1, h2, h3⟩
    all_goals
      obtain ⟨rfl, rfl⟩ : ty = _ ∧ g = g' := by simpa [ptr] using h2
      have r0 := h3.cell 0
      have r1 := h3.cell 1
      simp [i64] at r0 r1
    · have hv1 : vs = [t] := h1
      exact ⟨⟨begV g, finV g, r0, r1, .inl rfl, fun _ => ⟨c, t, 0, rfl, (h3.cell 2).trans rfl, (h3.cell 3).trans rfl, (h3.cell 4).trans rfl, .inl ⟨hc, h1⟩⟩⟩, .inl ⟨rfl, by rcases hc with h | h | h | h <;> simp [Nd.kind, h]⟩, hg, h3.lt⟩
    · exact ⟨⟨begV g, finV g, r0, r1, .inl rfl, fun _ => ⟨c, t, u, rfl, (h3.cell 2).trans rfl, (h3.cell 3).trans rfl, (h3.cell 4).trans rfl, .inr ⟨hc, h1⟩⟩⟩, .inl ⟨rfl, by simp [Nd.kind, hc]⟩, hg, h3.lt⟩
    · exact ⟨⟨begL g, finL g, r0, r1, .inr (.inl ⟨rfl, by simpa [Nd.kind] using hc⟩), fun e => absurd e (by decide)⟩, .inr (.inl ⟨rfl, by simpa [Nd.kind] using hc⟩), hg, h3.lt⟩
  | .mk c k e vs _ (.cons x .nil), w, ok, ty, g, h => by
    simp only [RepI] at h
    obtain ⟨vx, n, xs, ⟨g', hg, h1⟩, _⟩ := h
    rcases h1 with ⟨hc, h1, h2, h3⟩ | ⟨hc, h2, h3⟩
    all_goals
      obtain ⟨rfl, rfl⟩ : ty = _ ∧ g = g' := by simpa [ptr] using h2
      have r0 := h3.cell 0
      have r1 := h3.cell 1
      simp [i64] at r0 r1
    · exact ⟨⟨begO g, finO g, r0, r1, .inr (.inr (.inl ⟨rfl, hc⟩)), fun e => absurd e (by decide)⟩, .inr (.inr (.inl ⟨rfl, hc⟩)), hg, h3.lt⟩
    · exact ⟨⟨begS g, finS g, r0, r1, .inr (.inr (.inr (.inl ⟨rfl, hc⟩))), fun e => absurd e (by decide)⟩, .inr (.inr (.inr (.inl ⟨rfl, hc, by have r2 := h3.cell 2; exact r2⟩))), hg, h3.lt⟩
  | .mk c k e vs _ (.cons x (.cons y .nil)), w, ok, ty, g, h => by
    simp only [RepI] at h
    obtain ⟨vx, vy, n, xs, m, ys, ⟨g', hg, hc, h1, h2, h3⟩, _⟩ := h
    obtain ⟨rfl, rfl⟩ : ty = _ ∧ g = g' := by simpa [ptr] using h2
    have r0 := h3.cell 0
    have r1 := h3.cell 1
    simp [i64] at r0 r1
    exact ⟨⟨begB g, finB g, r0, r1, .inr (.inr (.inr (.inr ⟨rfl, hc⟩))), fun e => absurd e (by decide)⟩, .inr (.inr (.inr (.inr ⟨rfl, hc⟩))), hg, h3.lt⟩
  | .mk _ _ _ _ _ (.cons _ (.cons _ (.cons _ _))), _, _, _, _, h => by simp only [RepI] at h

/-! ### Of which type a step behind its interface is. -/
theorem isVB (p : Value) (w : World) : (Instr.typeAssert (.iface 159 p) 46 68 true).run Try.prog w = .ok (.tuple #[.pointer none, .bool false]) w := by kernel_rfl
theorem isVO (p : Value) (w : World) : (Instr.typeAssert (.iface 159 p) 46 69 true).run Try.prog w = .ok (.tuple #[.pointer none, .bool false]) w := by kernel_rfl
theorem isVS (p : Value) (w : World) : (Instr.typeAssert (.iface 159 p) 46 57 true).run Try.prog w = .ok (.tuple #[.pointer none, .bool false]) w := by kernel_rfl
theorem isLB (p : Value) (w : World) : (Instr.typeAssert (.iface 161 p) 46 68 true).run Try.prog w = .ok (.tuple #[.pointer none, .bool false]) w := by kernel_rfl
theorem isLO (p : Value) (w : World) : (Instr.typeAssert (.iface 161 p) 46 69 true).run Try.prog w = .ok (.tuple #[.pointer none, .bool false]) w := by kernel_rfl
theorem isLS (p : Value) (w : World) : (Instr.typeAssert (.iface 161 p) 46 57 true).run Try.prog w = .ok (.tuple #[.pointer none, .bool false]) w := by kernel_rfl
theorem isBB (p : Value) (w : World) : (Instr.typeAssert (.iface 68 p) 46 68 true).run Try.prog w = .ok (.tuple #[p, .bool true]) w := by kernel_rfl
theorem isBO (p : Value) (w : World) : (Instr.typeAssert (.iface 68 p) 46 69 true).run Try.prog w = .ok (.tuple #[.pointer none, .bool false]) w := by kernel_rfl
theorem isBS (p : Value) (w : World) : (Instr.typeAssert (.iface 68 p) 46 57 true).run Try.prog w = .ok (.tuple #[.pointer none, .bool false]) w := by kernel_rfl
theorem isOB (p : Value) (w : World) : (Instr.typeAssert (.iface 69 p) 46 68 true).run Try.prog w = .ok (.tuple #[.pointer none, .bool false]) w := by kernel_rfl
theorem isOO (p : Value) (w : World) : (Instr.typeAssert (.iface 69 p) 46 69 true).run Try.prog w = .ok (.tuple #[p, .bool true]) w := by kernel_rfl
theorem isOS (p : Value) (w : World) : (Instr.typeAssert (.iface 69 p) 46 57 true).run Try.prog w = .ok (.tuple #[.pointer none, .bool false]) w := by kernel_rfl
theorem isSB (p : Value) (w : World) : (Instr.typeAssert (.iface 57 p) 46 68 true).run Try.prog w = .ok (.tuple #[.pointer none, .bool false]) w := by kernel_rfl
theorem isSO (p : Value) (w : World) : (Instr.typeAssert (.iface 57 p) 46 69 true).run Try.prog w = .ok (.tuple #[.pointer none, .bool false]) w := by kernel_rfl
theorem isSS (p : Value) (w : World) : (Instr.typeAssert (.iface 57 p) 46 57 true).run Try.prog w = .ok (.tuple #[p, .bool true]) w := by kernel_rfl

end Go.Proofs.Ytlilkmemgomnjaa
