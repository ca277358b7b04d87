/-
  Places: what the program's iterator over the steps of a program yields.
  Walks of the program: what a step says of itself through its interface.
  Walks of the program: of which type a step behind its interface is, the values' and the leavings'; the steps of a body.
-/
import Derived.Test.YtkfcgamdlckncaaGreatMemW
import Derived.Test.YtkfcgamdlckncaaGreatRf
import Derived.Test.YtkfcgamdlckncaaGreatPureW
import Derived.Test.YtkfcgamdlckncaaGreatProg
import Derived.WalkKit
import Derived.Lib.Hide
namespace Go.Proofs.YtkfcgamdlckncaaGreat
set_option linter.unusedVariables false
set_option linter.unusedSimpArgs false
open Go.RowKit

/-- A place: a step behind its interface, the variables around it and how many scopes these are of. -/
def placeV (v : Value) (ar : List UInt8) (d : Nat) : Value := .agg #[v, str ar, i64 d]

/-- What is handed to the loops over places. -/
def encP (w : World) (ok : Nat → Prop) (p : PN) (args : Array Value) : Prop := ∃ v, args = #[placeV v p.1.scope p.2] ∧ RepI w ok p.1 v

/-- The blocks that 'ok' names lie as they lay. -/
def SameOn (ok : Nat → Prop) (w W : World) : Prop := ∀ k, ok k → k < w.heap.size → W.heap[k]? = w.heap[k]?

theorem SameOn.refl (ok : Nat → Prop) (w : World) : SameOn ok w w := fun _ _ _ => rfl
theorem SameOn.keeps {ok may : Nat → Prop} {w A B : World} (h : SameOn ok w A) (q : Keeps may A B) (hs : w.heap.size ≤ A.heap.size) (hm : ∀ k, ok k → ¬ may k) : SameOn ok w B :=
  fun k hk hl => (q.block k (by omega) (hm k hk)).trans (h k hk hl)

theorem Hands.of_same {ok : Nat → Prop} {w W : World} (h : SameOn ok w W) (hok : ∀ g, ok g → g < w.heap.size) : Hands w W ok ok where
  blk := fun g cs t hg hb => ⟨(h g hg (hok g hg)).trans hb, hg⟩
  row := fun e size v n xs hr => by
    obtain ⟨⟨h1, h2⟩, h3⟩ := hr
    refine ⟨⟨h1, ?_⟩, h3⟩
    rcases h2 with h2 | ⟨g, cap, cur, rfl, hg, hh, r⟩
    · exact .inl h2
    · have hkg := h3 g rfl
      exact .inr ⟨g, cap, cur, rfl, hg, (h g hkg (hok g hkg)).trans hh, r⟩

theorem Hands.back {ok : Nat → Prop} {w W : World} (h : SameOn ok w W) (hok : ∀ g, ok g → g < w.heap.size) : Hands W w ok ok where
  blk := fun g cs t hg hb => ⟨(h g hg (hok g hg)).symm.trans hb, hg⟩
  row := fun e size v n xs hr => by
    obtain ⟨⟨h1, h2⟩, h3⟩ := hr
    refine ⟨⟨h1, ?_⟩, h3⟩
    rcases h2 with h2 | ⟨g, cap, cur, rfl, hg, hh, r⟩
    · exact .inl h2
    · have hkg := h3 g rfl
      exact .inr ⟨g, cap, cur, rfl, hg, (h g hkg (hok g hkg)).symm.trans hh, r⟩

/-- Some steps, each behind its interface. -/
def KidsI (w : World) (ok : Nat → Prop) : List Nd → List Value → Prop
  | [], us => us = []
  | z :: r, us => ∃ u us', us = u :: us' ∧ RepI w ok z u ∧ KidsI w ok r us'

theorem KidsI.of_repIL {w : World} {ok : Nat → Prop} : ∀ {x : Nds} {us : List Value}, RepIL w ok x us → KidsI w ok x.list us
  | .nil, us, h => by simp only [RepIL] at h; exact h
  | .cons z r, us, h => by
    simp only [RepIL] at h
    obtain ⟨v, vr, rfl, h1, h2⟩ := h
    exact ⟨v, vr, rfl, h1, KidsI.of_repIL h2⟩

theorem KidsI.app {w : World} {ok : Nat → Prop} : ∀ {l m : List Nd} {us vs : List Value}, KidsI w ok l us → KidsI w ok m vs → KidsI w ok (l ++ m) (us ++ vs)
  | [], m, us, vs, h, h2 => by simp only [KidsI] at h; subst h; exact h2
  | z :: r, m, us, vs, h, h2 => by
    simp only [KidsI] at h
    obtain ⟨u, us', rfl, h1, h⟩ := h
    exact ⟨u, us' ++ vs, rfl, h1, KidsI.app h h2⟩

theorem KidsI.len {w : World} {ok : Nat → Prop} : ∀ {l : List Nd} {us : List Value}, KidsI w ok l us → us.length = l.length
  | [], us, h => by simp only [KidsI] at h; subst h; rfl
  | z :: r, us, h => by
    simp only [KidsI] at h
    obtain ⟨u, us', rfl, _, h⟩ := h
    simp [KidsI.len h]

theorem KidsI.get {w : World} {ok : Nat → Prop} : ∀ {l : List Nd} {us : List Value} {pre : List Nd} {z : Nd} {post : List Nd}, KidsI w ok l us → l = pre ++ z :: post → ∃ u, RepI w ok z u ∧ us[pre.length]? = some u
  | [], _, pre, z, post, _, e => by simp at e
  | y :: r, us, [], z, post, h, e => by
    simp only [KidsI] at h
    obtain ⟨u', us', rfl, h1, h⟩ := h
    simp only [List.nil_append, List.cons.injEq] at e
    obtain ⟨rfl, rfl⟩ := e
    exact ⟨u', h1, rfl⟩
  | y :: r, us, p :: pre, z, post, h, e => by
    simp only [KidsI] at h
    obtain ⟨u', us', rfl, h1, h⟩ := h
    simp only [List.cons_append, List.cons.injEq] at e
    obtain ⟨u, g1, g2⟩ := KidsI.get h e.2
    exact ⟨u, g1, by simpa using g2⟩

/-- The cells of the places of some steps. -/
def PlacesAt (w : World) (ok : Nat → Prop) (d : Nat) : List Nd → List Value → Prop
  | [], cs => cs = []
  | z :: r, cs => ∃ u cs', cs = u :: str z.scope :: i64 d :: cs' ∧ RepI w ok z u ∧ PlacesAt w ok d r cs'

theorem PlacesAt.len {w : World} {ok : Nat → Prop} {d : Nat} : ∀ {l : List Nd} {cs : List Value}, PlacesAt w ok d l cs → cs.length = 3 * l.length
  | [], cs, h => by simp only [PlacesAt] at h; subst h; rfl
  | z :: r, cs, h => by
    simp only [PlacesAt] at h
    obtain ⟨u, cs', rfl, _, h⟩ := h
    have := PlacesAt.len h
    simp [this]; omega

theorem PlacesAt.hands {w W : World} {ok ok' : Nat → Prop} (hh : Hands w W ok ok') {d : Nat} : ∀ {l : List Nd} {cs : List Value}, PlacesAt w ok d l cs → PlacesAt W ok' d l cs
  | [], cs, h => h
  | z :: r, cs, h => by
    simp only [PlacesAt] at h ⊢
    obtain ⟨u, cs', rfl, h1, h⟩ := h
    exact ⟨u, cs', rfl, hh.repI _ _ h1, PlacesAt.hands hh h⟩

theorem PlacesAt.snoc {w : World} {ok : Nat → Prop} {d : Nat} {z : Nd} {u : Value} : ∀ {l : List Nd} {cs : List Value}, PlacesAt w ok d l cs → RepI w ok z u → PlacesAt w ok d (l ++ [z]) (cs ++ [u, str z.scope, i64 d])
  | [], cs, h, hz => by simp only [PlacesAt] at h; subst h; exact ⟨u, [], rfl, hz, rfl⟩
  | y :: r, cs, h, hz => by
    simp only [PlacesAt] at h
    obtain ⟨u', cs', rfl, h1, h⟩ := h
    exact ⟨u', _, rfl, h1, PlacesAt.snoc h hz⟩

/-- The i-th place. -/
theorem PlacesAt.get {w : World} {ok : Nat → Prop} {d : Nat} : ∀ {l : List Nd} {cs : List Value} {pre : List Nd} {z : Nd} {post : List Nd}, PlacesAt w ok d l cs → l = pre ++ z :: post →
    ∃ u, RepI w ok z u ∧ cs[pre.length * 3]? = some u ∧ cs[pre.length * 3 + 1]? = some (str z.scope) ∧ cs[pre.length * 3 + 2]? = some (i64 d)
  | [], _, pre, z, post, _, e => by simp at e
  | y :: r, cs, [], z, post, h, e => by
    simp only [PlacesAt] at h
    obtain ⟨u', cs', rfl, h1, h⟩ := h
    simp only [List.nil_append, List.cons.injEq] at e
    obtain ⟨rfl, rfl⟩ := e
    exact ⟨u', h1, rfl, rfl, rfl⟩
  | y :: r, cs, p :: pre, z, post, h, e => by
    simp only [PlacesAt] at h
    obtain ⟨u', cs', rfl, h1, h⟩ := h
    simp only [List.cons_append, List.cons.injEq] at e
    obtain ⟨u, g1, g2, g3, g4⟩ := PlacesAt.get h e.2
    refine ⟨u, g1, ?_, ?_, ?_⟩
    · rw [List.length_cons, Nat.succ_mul]; simpa using g2
    · rw [List.length_cons, Nat.succ_mul]; simpa using g3
    · rw [List.length_cons, Nat.succ_mul]; simpa using g4

/-- A step stands behind an interface. -/
theorem rep_iface : (∀ (x : Nd) (w : World) (ok : Nat → Prop) (v : Value), RepI w ok x v → ∃ t g, v = .iface t (ptr g))
  | .mk c k e vs _ .nil, w, ok, v, h => by
    simp only [RepI] at h
    obtain ⟨g, _, h1⟩ := h
    rcases h1 with ⟨_, t, _, rfl, _⟩ | ⟨_, t, u, _, rfl, _⟩ | ⟨_, _, rfl, _⟩ <;> exact ⟨_, _, rfl⟩
  | .mk c k e vs _ (.cons x .nil), w, ok, v, h => by
    simp only [RepI] at h
    obtain ⟨vx, n, xs, ⟨g, _, h1⟩, _⟩ := h
    rcases h1 with ⟨_, _, rfl, _⟩ | ⟨_, rfl, _⟩ <;> exact ⟨_, _, rfl⟩
  | .mk c k e vs _ (.cons x (.cons y .nil)), w, ok, v, h => by
    simp only [RepI] at h
    obtain ⟨vx, vy, n, xs, m, ys, ⟨g, _, _, _, rfl, _⟩, _⟩ := h
    exact ⟨_, _, rfl⟩
  | .mk _ _ _ _ _ (.cons _ (.cons _ (.cons _ _))), _, _, _, h => by simp only [RepI] at h

theorem rep_oneCell {w : World} {ok : Nat → Prop} {x : Nd} {v : Value} (h : RepI w ok x v) : v.oneCell' = true := by
  obtain ⟨t, g, rfl⟩ := rep_iface x w ok v h
  rfl

theorem KidsI.one {w : World} {ok : Nat → Prop} : ∀ {l : List Nd} {us : List Value}, KidsI w ok l us → ∀ u ∈ us, u.oneCell' = true
  | [], us, h, u, hu => by simp only [KidsI] at h; subst h; cases hu
  | z :: r, us, h, u, hu => by
    simp only [KidsI] at h
    obtain ⟨u', us', rfl, h1, h⟩ := h
    rcases List.mem_cons.1 hu with rfl | hu
    · exact rep_oneCell h1
    · exact KidsI.one h u hu

theorem row_shape {w : World} {ok : Nat → Prop} {e : TypeId} {size : Nat} {v : Value} {n : Nat} {xs : List Value} (h : Row w ok e size v n xs) : ∃ a c, v = .slice a n c := by
  rcases h.1.2 with ⟨rfl, rfl⟩ | ⟨g, cap, cur, rfl, _⟩
  · exact ⟨_, _, rfl⟩
  · exact ⟨_, _, rfl⟩

/-- A row with an element is written out, and its cells read so. -/
theorem row_get {w : World} {ok : Nat → Prop} {e : TypeId} {size : Nat} {v : Value} {n : Nat} {xs : List Value} (h : Row w ok e size v n xs) (hn : 0 < n) :
    ∃ g c, v = .slice (some ⟨g, 0, none⟩) n c ∧ ok g ∧ g < w.heap.size ∧ ∀ j u, xs[j]? = some u → w.cell? ⟨g, j, none⟩ = some u := by
  obtain ⟨h1, h2⟩ := h
  have hc : ∀ g, v.ownBlock = some g → ∀ j u, xs[j]? = some u → w.cell? ((⟨g, 0, none⟩ : Addr).add j) = some u := fun g hg => h1.cells hg
  rcases h1.2 with ⟨rfl, rfl⟩ | ⟨g, cap, cur, rfl, _⟩
  · omega
  · refine ⟨g, cap, rfl, h2 g rfl, (h1.lt g rfl).2, fun j u hj => ?_⟩
    have := hc g rfl j u hj
    have hadd : (⟨g, 0, none⟩ : Addr).add j = ⟨g, j, none⟩ := by unfold Addr.add; split <;> simp_all
    rw [hadd] at this
    exact this

end Go.Proofs.YtkfcgamdlckncaaGreat

namespace Go.Proofs.YtkfcgamdlckncaaGreat
set_option linter.unusedVariables false
set_option linter.unusedSimpArgs false
open Go.RowKit

/-- The cells of a step with variables. -/
def ValIs (W : World) (z : Nd) (g : Nat) : Prop :=
  ∃ c t u, z.kind = c ∧ W.cell? ⟨g, 2, none⟩ = some (.int .u8 (c.toNat : Int)) ∧ W.cell? ⟨g, 3, none⟩ = some (.int .u8 (t.toNat : Int)) ∧ W.cell? ⟨g, 4, none⟩ = some (.int .u8 (u.toNat : Int)) ∧ (((c = 43 ∨ c = 46 ∨ c = 45 ∨ c = 126) ∧ z.vars = [t]) ∨ (c = 61 ∧ z.vars = [t, u]))
theorem ValIs.moved {W W' : World} {z : Nd} {g : Nat} (h : ValIs W z g) (e : ∀ j, W'.cell? ⟨g, j, none⟩ = W.cell? ⟨g, j, none⟩) : ValIs W' z g := by
  obtain ⟨c, t, u, h0, h1, h2, h3, h4⟩ := h
  exact ⟨c, t, u, h0, (e 2).trans h1, (e 3).trans h2, (e 4).trans h3, h4⟩
/-- Of which type a step is, by its kind. -/
def TyIs (z : Nd) (ty : TypeId) : Prop :=
  ty = 141 ∨ (ty = 107 ∧ (z.kind = 94 ∨ z.kind = 33)) ∨ (ty = 150 ∧ z.kind = 42) ∨ (ty = 64 ∧ z.kind = 123) ∨ (ty = 145 ∧ z.kind = 63)

/-- What a step's methods and its first cells answer. -/
structure StepIs (W : World) (z : Nd) (ty : TypeId) (g : Nat) : Prop where
  beg : ∀ W', (callMethod (.iface ty (.pointer (some ⟨g, 0, none⟩))) "loop.example/endsoflife/impl.begin" #[]).run Tryz.prog W' = .ok (.enter 141 #[.pointer (some ⟨g, 0, none⟩)]) W'
  fin : ∀ W', (callMethod (.iface ty (.pointer (some ⟨g, 0, none⟩))) "loop.example/endsoflife/impl.end" #[]).run Tryz.prog W' = .ok (.enter 97 #[.pointer (some ⟨g, 0, none⟩)]) W'
  c0 : W.cell? ⟨g, 0, none⟩ = some (.int .i64 (z.beg : Int))
  c1 : W.cell? ⟨g, 1, none⟩ = some (.int .i64 (z.fin : Int))
  tys : TyIs z ty
  val : ty = 141 → ValIs W z g

theorem StepIs.keeps {W W' : World} {z : Nd} {ty : TypeId} {g : Nat} {may : Nat → Prop} (h : StepIs W z ty g) (q : Keeps may W W') (hl : g < W.heap.size) (hm : ¬ may g) : StepIs W' z ty g :=
  ⟨h.beg, h.fin, (q.cell (p := ⟨g, 0, none⟩) hl hm).trans h.c0, (q.cell (p := ⟨g, 1, none⟩) hl hm).trans h.c1, h.tys, fun e => (h.val e).moved (fun j => q.cell (p := ⟨g, j, none⟩) hl hm)⟩

theorem begin_any (g : Nat) (k : Int) (w : World) (hc : w.cell? ⟨g, 0, none⟩ = some (.int .i64 k)) : Calls Tryz.prog 141 #[.pointer (some ⟨g, 0, none⟩)] w (fun e w' => e = .returned (.int .i64 k) ∧ w' = w) := by
  go_enter Tryz.func141, Tryz.ntmps141
  go_wp2
  go_ret
  exact ⟨rfl, rfl⟩

theorem end_any (g : Nat) (k : Int) (w : World) (hc : w.cell? ⟨g, 1, none⟩ = some (.int .i64 k)) : Calls Tryz.prog 97 #[.pointer (some ⟨g, 0, none⟩)] w (fun e w' => e = .returned (.int .i64 k) ∧ w' = w) := by
  go_enter Tryz.func97, Tryz.ntmps97
  go_wp2
  go_ret
  exact ⟨rfl, rfl⟩

theorem begV (g : Nat) (W' : World) : (callMethod (.iface 141 (.pointer (some ⟨g, 0, none⟩))) "loop.example/endsoflife/impl.begin" #[]).run Tryz.prog W' = .ok (.enter 141 #[.pointer (some ⟨g, 0, none⟩)]) W' := by kernel_rfl
theorem begL (g : Nat) (W' : World) : (callMethod (.iface 107 (.pointer (some ⟨g, 0, none⟩))) "loop.example/endsoflife/impl.begin" #[]).run Tryz.prog W' = .ok (.enter 141 #[.pointer (some ⟨g, 0, none⟩)]) W' := by kernel_rfl
theorem begB (g : Nat) (W' : World) : (callMethod (.iface 145 (.pointer (some ⟨g, 0, none⟩))) "loop.example/endsoflife/impl.begin" #[]).run Tryz.prog W' = .ok (.enter 141 #[.pointer (some ⟨g, 0, none⟩)]) W' := by kernel_rfl
theorem begO (g : Nat) (W' : World) : (callMethod (.iface 150 (.pointer (some ⟨g, 0, none⟩))) "loop.example/endsoflife/impl.begin" #[]).run Tryz.prog W' = .ok (.enter 141 #[.pointer (some ⟨g, 0, none⟩)]) W' := by kernel_rfl
theorem begS (g : Nat) (W' : World) : (callMethod (.iface 64 (.pointer (some ⟨g, 0, none⟩))) "loop.example/endsoflife/impl.begin" #[]).run Tryz.prog W' = .ok (.enter 141 #[.pointer (some ⟨g, 0, none⟩)]) W' := by kernel_rfl
theorem finV (g : Nat) (W' : World) : (callMethod (.iface 141 (.pointer (some ⟨g, 0, none⟩))) "loop.example/endsoflife/impl.end" #[]).run Tryz.prog W' = .ok (.enter 97 #[.pointer (some ⟨g, 0, none⟩)]) W' := by kernel_rfl
theorem finL (g : Nat) (W' : World) : (callMethod (.iface 107 (.pointer (some ⟨g, 0, none⟩))) "loop.example/endsoflife/impl.end" #[]).run Tryz.prog W' = .ok (.enter 97 #[.pointer (some ⟨g, 0, none⟩)]) W' := by kernel_rfl
theorem finB (g : Nat) (W' : World) : (callMethod (.iface 145 (.pointer (some ⟨g, 0, none⟩))) "loop.example/endsoflife/impl.end" #[]).run Tryz.prog W' = .ok (.enter 97 #[.pointer (some ⟨g, 0, none⟩)]) W' := by kernel_rfl
theorem finO (g : Nat) (W' : World) : (callMethod (.iface 150 (.pointer (some ⟨g, 0, none⟩))) "loop.example/endsoflife/impl.end" #[]).run Tryz.prog W' = .ok (.enter 97 #[.pointer (some ⟨g, 0, none⟩)]) W' := by kernel_rfl
theorem finS (g : Nat) (W' : World) : (callMethod (.iface 64 (.pointer (some ⟨g, 0, none⟩))) "loop.example/endsoflife/impl.end" #[]).run Tryz.prog W' = .ok (.enter 97 #[.pointer (some ⟨g, 0, none⟩)]) W' := by kernel_rfl

/-- Of which type a step is. -/
def TypeIs (W : World) (z : Nd) (ty : TypeId) (g : Nat) : Prop :=
  (ty = 141 ∧ (z.kind = 43 ∨ z.kind = 46 ∨ z.kind = 45 ∨ z.kind = 126 ∨ z.kind = 61)) ∨ (ty = 107 ∧ (z.kind = 94 ∨ z.kind = 33)) ∨ (ty = 150 ∧ z.kind = 42) ∨
  (ty = 64 ∧ z.kind = 123 ∧ W.cell? ⟨g, 2, none⟩ = some (str z.vars)) ∨ (ty = 145 ∧ z.kind = 63)

theorem rep_step : ∀ (z : Nd) (w : World) (ok : Nat → Prop) (ty : TypeId) (g : Nat), RepI w ok z (.iface ty (ptr g)) → StepIs w z ty g ∧ TypeIs w z ty g ∧ ok g ∧ g < w.heap.size
  | .mk c k e vs _ .nil, w, ok, ty, g, h => by
    simp only [RepI] at h
    obtain ⟨g', hg, h1⟩ := h
    rcases h1 with ⟨hc, t, h1, h2, h3⟩ | ⟨hc, t, u, h1, h2, h3⟩ | ⟨hc, h1, h2, h3⟩
    all_goals
      obtain ⟨rfl, rfl⟩ : ty = _ ∧ g = g' := by simpa [ptr] using h2
      have r0 := h3.cell 0
      have r1 := h3.cell 1
      simp [i64] at r0 r1
    · have hv1 : vs = [t] := h1
      exact ⟨⟨begV g, finV g, r0, r1, .inl rfl, fun _ => ⟨c, t, 0, rfl, (h3.cell 2).trans rfl, (h3.cell 3).trans rfl, (h3.cell 4).trans rfl, .inl ⟨hc, h1⟩⟩⟩, .inl ⟨rfl, by rcases hc with h | h | h | h <;> simp [Nd.kind, h]⟩, hg, h3.lt⟩
    · exact ⟨⟨begV g, finV g, r0, r1, .inl rfl, fun _ => ⟨c, t, u, rfl, (h3.cell 2).trans rfl, (h3.cell 3).trans rfl, (h3.cell 4).trans rfl, .inr ⟨hc, h1⟩⟩⟩, .inl ⟨rfl, by simp [Nd.kind, hc]⟩, hg, h3.lt⟩
    · exact ⟨⟨begL g, finL g, r0, r1, .inr (.inl ⟨rfl, by simpa [Nd.kind] using hc⟩), fun e => absurd e (by decide)⟩, .inr (.inl ⟨rfl, by simpa [Nd.kind] using hc⟩), hg, h3.lt⟩
  | .mk c k e vs _ (.cons x .nil), w, ok, ty, g, h => by
    simp only [RepI] at h
    obtain ⟨vx, n, xs, ⟨g', hg, h1⟩, _⟩ := h
    rcases h1 with ⟨hc, h1, h2, h3⟩ | ⟨hc, h2, h3⟩
    all_goals
      obtain ⟨rfl, rfl⟩ : ty = _ ∧ g = g' := by simpa [ptr] using h2
      have r0 := h3.cell 0
      have r1 := h3.cell 1
      simp [i64] at r0 r1
    · exact ⟨⟨begO g, finO g, r0, r1, .inr (.inr (.inl ⟨rfl, hc⟩)), fun e => absurd e (by decide)⟩, .inr (.inr (.inl ⟨rfl, hc⟩)), hg, h3.lt⟩
    · exact ⟨⟨begS g, finS g, r0, r1, .inr (.inr (.inr (.inl ⟨rfl, hc⟩))), fun e => absurd e (by decide)⟩, .inr (.inr (.inr (.inl ⟨rfl, hc, by have r2 := h3.cell 2; exact r2⟩))), hg, h3.lt⟩
  | .mk c k e vs _ (.cons x (.cons y .nil)), w, ok, ty, g, h => by
    simp only [RepI] at h
    obtain ⟨vx, vy, n, xs, m, ys, ⟨g', hg, hc, h1, h2, h3⟩, _⟩ := h
    obtain ⟨rfl, rfl⟩ : ty = _ ∧ g = g' := by simpa [ptr] using h2
    have r0 := h3.cell 0
    have r1 := h3.cell 1
    simp [i64] at r0 r1
    exact ⟨⟨begB g, finB g, r0, r1, .inr (.inr (.inr (.inr ⟨rfl, hc⟩))), fun e => absurd e (by decide)⟩, .inr (.inr (.inr (.inr ⟨rfl, hc⟩))), hg, h3.lt⟩
  | .mk _ _ _ _ _ (.cons _ (.cons _ (.cons _ _))), _, _, _, _, h => by simp only [RepI] at h

/-! ### Of which type a step behind its interface is. -/
theorem isVB (p : Value) (w : World) : (Instr.typeAssert (.iface 141 p) 104 145 true).run Tryz.prog w = .ok (.tuple #[.pointer none, .bool false]) w := by kernel_rfl
theorem isVO (p : Value) (w : World) : (Instr.typeAssert (.iface 141 p) 104 150 true).run Tryz.prog w = .ok (.tuple #[.pointer none, .bool false]) w := by kernel_rfl
theorem isVS (p : Value) (w : World) : (Instr.typeAssert (.iface 141 p) 104 64 true).run Tryz.prog w = .ok (.tuple #[.pointer none, .bool false]) w := by kernel_rfl
theorem isLB (p : Value) (w : World) : (Instr.typeAssert (.iface 107 p) 104 145 true).run Tryz.prog w = .ok (.tuple #[.pointer none, .bool false]) w := by kernel_rfl
theorem isLO (p : Value) (w : World) : (Instr.typeAssert (.iface 107 p) 104 150 true).run Tryz.prog w = .ok (.tuple #[.pointer none, .bool false]) w := by kernel_rfl
theorem isLS (p : Value) (w : World) : (Instr.typeAssert (.iface 107 p) 104 64 true).run Tryz.prog w = .ok (.tuple #[.pointer none, .bool false]) w := by kernel_rfl
theorem isBB (p : Value) (w : World) : (Instr.typeAssert (.iface 145 p) 104 145 true).run Tryz.prog w = .ok (.tuple #[p, .bool true]) w := by kernel_rfl
theorem isBO (p : Value) (w : World) : (Instr.typeAssert (.iface 145 p) 104 150 true).run Tryz.prog w = .ok (.tuple #[.pointer none, .bool false]) w := by kernel_rfl
theorem isBS (p : Value) (w : World) : (Instr.typeAssert (.iface 145 p) 104 64 true).run Tryz.prog w = .ok (.tuple #[.pointer none, .bool false]) w := by kernel_rfl
theorem isOB (p : Value) (w : World) : (Instr.typeAssert (.iface 150 p) 104 145 true).run Tryz.prog w = .ok (.tuple #[.pointer none, .bool false]) w := by kernel_rfl
theorem isOO (p : Value) (w : World) : (Instr.typeAssert (.iface 150 p) 104 150 true).run Tryz.prog w = .ok (.tuple #[p, .bool true]) w := by kernel_rfl
theorem isOS (p : Value) (w : World) : (Instr.typeAssert (.iface 150 p) 104 64 true).run Tryz.prog w = .ok (.tuple #[.pointer none, .bool false]) w := by kernel_rfl
theorem isSB (p : Value) (w : World) : (Instr.typeAssert (.iface 64 p) 104 145 true).run Tryz.prog w = .ok (.tuple #[.pointer none, .bool false]) w := by kernel_rfl
theorem isSO (p : Value) (w : World) : (Instr.typeAssert (.iface 64 p) 104 150 true).run Tryz.prog w = .ok (.tuple #[.pointer none, .bool false]) w := by kernel_rfl
theorem isSS (p : Value) (w : World) : (Instr.typeAssert (.iface 64 p) 104 64 true).run Tryz.prog w = .ok (.tuple #[p, .bool true]) w := by kernel_rfl

end Go.Proofs.YtkfcgamdlckncaaGreat

namespace Go.Proofs.YtkfcgamdlckncaaGreat
set_option linter.unusedVariables false
set_option linter.unusedSimpArgs false
open Go.RowKit

theorem isVV (p : Value) (w : World) : (Instr.typeAssert (.iface 141 p) 104 141 true).run Tryz.prog w = .ok (.tuple #[p, .bool true]) w := by kernel_rfl
theorem isLV (p : Value) (w : World) : (Instr.typeAssert (.iface 107 p) 104 141 true).run Tryz.prog w = .ok (.tuple #[.pointer none, .bool false]) w := by kernel_rfl
theorem isLL (p : Value) (w : World) : (Instr.typeAssert (.iface 107 p) 104 107 true).run Tryz.prog w = .ok (.tuple #[p, .bool true]) w := by kernel_rfl
theorem isBV (p : Value) (w : World) : (Instr.typeAssert (.iface 145 p) 104 141 true).run Tryz.prog w = .ok (.tuple #[.pointer none, .bool false]) w := by kernel_rfl
theorem isBL (p : Value) (w : World) : (Instr.typeAssert (.iface 145 p) 104 107 true).run Tryz.prog w = .ok (.tuple #[.pointer none, .bool false]) w := by kernel_rfl
theorem isOV (p : Value) (w : World) : (Instr.typeAssert (.iface 150 p) 104 141 true).run Tryz.prog w = .ok (.tuple #[.pointer none, .bool false]) w := by kernel_rfl
theorem isOL (p : Value) (w : World) : (Instr.typeAssert (.iface 150 p) 104 107 true).run Tryz.prog w = .ok (.tuple #[.pointer none, .bool false]) w := by kernel_rfl
theorem isSV (p : Value) (w : World) : (Instr.typeAssert (.iface 64 p) 104 141 true).run Tryz.prog w = .ok (.tuple #[.pointer none, .bool false]) w := by kernel_rfl
theorem isSL (p : Value) (w : World) : (Instr.typeAssert (.iface 64 p) 104 107 true).run Tryz.prog w = .ok (.tuple #[.pointer none, .bool false]) w := by kernel_rfl

theorem RepIL.nth {w : World} {ok : Nat → Prop} : ∀ {x : Nds} {vs : List Value}, RepIL w ok x vs → vs.length = x.list.length ∧ ∀ (i : Nat) (z : Nd), x.list[i]? = some z → ∃ v : Value, vs[i]? = some v ∧ RepI w ok z v
  | .nil, vs, h => by simp only [RepIL] at h; subst h; exact ⟨rfl, fun i z e => by simp [Nds.list] at e⟩
  | .cons x r, vs, h => by
    simp only [RepIL] at h
    obtain ⟨v, vr, rfl, h1, h2⟩ := h
    obtain ⟨l, hn⟩ := RepIL.nth h2
    refine ⟨by simp [Nds.list, l], fun i z e => ?_⟩
    cases i with
    | zero => simp [Nds.list] at e; subst e; exact ⟨v, rfl, h1⟩
    | succ i => simp [Nds.list] at e; simpa using hn i z e

end Go.Proofs.YtkfcgamdlckncaaGreat
