/-
  The letters in steps, and a step set down at another scope: plain.
-/
import Derived.Test.YtccpmhjffcceeaaDa
import Derived.Test.YtccpmhjffcceeaaIjW
namespace Go.Proofs.Ytccpmhjffcceeaa
set_option linter.unusedVariables false
set_option linter.unusedSimpArgs false
open Go.RowKit

/-- The letters that stand in a step itself. -/
def lettersN (z : Nd) : List UInt8 := if z.kind = 123 then [] else z.vars
/-- .. in some steps. -/
def usedLs (l : List Nd) : List UInt8 := l.flatMap lettersN

mutual
/-- A step set down at another scope. -/
def Nd.resc (sc : List UInt8) : Nd → Nd
  | .mk c k e vs _ bs => .mk c k e vs sc (bs.resc (sc ++ vs))
def Nds.resc (sc : List UInt8) : Nds → Nds
  | .nil => .nil
  | .cons x r => .cons (x.resc sc) (r.resc sc)
def Bds.resc (sc : List UInt8) : Bds → Bds
  | .nil => .nil
  | .cons x r => .cons (x.resc sc) (r.resc sc)
end

theorem inD_le {c : UInt8} {d d' : Nat} (h : d' ≤ d) : inD c d' ≤ inD c d := by unfold inD; split <;> omega

mutual
theorem Nd.resc_ok {s : ByteArray} : ∀ (x : Nd) (sc : List UInt8) (d d' : Nat), x.Ok s d → d' ≤ d → sc.length ≤ x.scope.length → (x.resc sc).Ok s d'
  | .mk c k e vs ar bs, sc, d, d', h, hd, hl => by
    simp only [Nd.Ok, Nd.resc, Nd.scope] at *
    obtain ⟨h1, h2, h3, h4, h5, h6, h7, h8, h9⟩ := h
    have := inD_le (c := c) hd
    refine ⟨h1, h2, h3, by omega, by omega, by omega, by omega, ?_, Bds.resc_ok bs _ _ _ _ h9 this (by simp only [List.length_append]; omega)⟩
    rcases h8 with h | h | h
    · exact .inl h
    · rw [h]; exact .inr (.inl rfl)
    · exact .inr (.inr h)
theorem Nds.resc_ok {s : ByteArray} : ∀ (x : Nds) (sc ar : List UInt8) (d d' : Nat), x.Ok s ar d → d' ≤ d → sc.length ≤ ar.length → (x.resc sc).Ok s sc d'
  | .nil, _, _, _, _, _, _, _ => by simp only [Nds.resc, Nds.Ok]
  | .cons x r, sc, ar, d, d', h, hd, hl => by
    simp only [Nds.Ok, Nds.resc] at *
    obtain ⟨h1, h2, h3⟩ := h
    refine ⟨?_, Nd.resc_ok x sc d d' h2 hd (by rw [h1]; exact hl), Nds.resc_ok r sc ar d d' h3 hd hl⟩
    cases x; rfl
theorem Bds.resc_ok {s : ByteArray} : ∀ (x : Bds) (sc ar : List UInt8) (d d' : Nat), x.Ok s ar d → d' ≤ d → sc.length ≤ ar.length → (x.resc sc).Ok s sc d'
  | .nil, _, _, _, _, _, _, _ => by simp only [Bds.resc, Bds.Ok]
  | .cons x r, sc, ar, d, d', h, hd, hl => by
    simp only [Bds.Ok, Bds.resc] at *
    exact ⟨Nds.resc_ok x sc ar d d' h.1 hd hl, Bds.resc_ok r sc ar d d' h.2 hd hl⟩
end

mutual
theorem Nd.resc_rep {w : World} {ok : Nat → Prop} : ∀ (x : Nd) (sc : List UInt8) (v : Value), RepI w ok x v → RepI w ok (x.resc sc) v
  | .mk c k e vs ar .nil, sc, v, h => by simpa only [Nd.resc, Bds.resc, RepI] using h
  | .mk c k e vs ar (.cons y .nil), sc, v, h => by
    simp only [Nd.resc, Bds.resc, RepI] at *
    obtain ⟨vx, n, xs, h1, h2, h3⟩ := h
    exact ⟨vx, n, xs, h1, h2, Nds.resc_rep y _ _ h3⟩
  | .mk c k e vs ar (.cons y (.cons u .nil)), sc, v, h => by
    simp only [Nd.resc, Bds.resc, RepI] at *
    obtain ⟨vx, vy, n, xs, m, ys, h1, ⟨h2, h3⟩, h4, h5⟩ := h
    exact ⟨vx, vy, n, xs, m, ys, h1, ⟨h2, Nds.resc_rep y _ _ h3⟩, h4, Nds.resc_rep u _ _ h5⟩
  | .mk _ _ _ _ _ (.cons _ (.cons _ (.cons _ _))), sc, v, h => by simp only [RepI] at h
theorem Nds.resc_rep {w : World} {ok : Nat → Prop} : ∀ (x : Nds) (sc : List UInt8) (vs : List Value), RepIL w ok x vs → RepIL w ok (x.resc sc) vs
  | .nil, sc, vs, h => by simpa only [Nds.resc, RepIL] using h
  | .cons x r, sc, vs, h => by
    simp only [Nds.resc, RepIL] at *
    obtain ⟨v, vr, h1, h2, h3⟩ := h
    exact ⟨v, vr, h1, Nd.resc_rep x sc v h2, Nds.resc_rep r sc vr h3⟩
end

/-- What a step is but for its scope. -/
def bareN (z : Nd) : UInt8 × List UInt8 := (z.kind, z.vars)

mutual
theorem Nd.resc_pre : ∀ (x : Nd) (sc : List UInt8), (x.resc sc).pre.list.map bareN = x.pre.list.map bareN
  | .mk c k e vs ar bs, sc => by
    simp only [Nd.resc, Nd.pre, Nds.list, List.map_cons, Bds.resc_pre bs]
    rfl
theorem Nds.resc_pre : ∀ (x : Nds) (sc : List UInt8), (x.resc sc).pre.list.map bareN = x.pre.list.map bareN
  | .nil, _ => rfl
  | .cons x r, sc => by simp only [Nds.resc, Nds.pre, Nds.list_app, List.map_append, Nd.resc_pre x, Nds.resc_pre r]
theorem Bds.resc_pre : ∀ (x : Bds) (sc : List UInt8), (x.resc sc).pre.list.map bareN = x.pre.list.map bareN
  | .nil, _ => rfl
  | .cons x r, sc => by simp only [Bds.resc, Bds.pre, Nds.list_app, List.map_append, Nds.resc_pre x, Bds.resc_pre r]
end

theorem usedLs_bare (l : List Nd) : usedLs l = (l.map bareN).flatMap (fun p => if p.1 = 123 then [] else p.2) := by
  unfold usedLs
  rw [List.flatMap_map]
  rfl

theorem resc_used (x : Nd) (sc : List UInt8) : usedLs (x.resc sc).pre.list = usedLs x.pre.list := by
  rw [usedLs_bare, usedLs_bare, Nd.resc_pre]

/-- A step that is not a value step has no letters but a scope's. -/
def Bare (p : UInt8 × List UInt8) : Prop := ((p.1 = 94 ∨ p.1 = 33 ∨ p.1 = 42 ∨ p.1 = 63) → p.2 = []) ∧ ∀ v ∈ p.2, ltr v

theorem fit_bare {z : Nd} (h : z.Fit) (hv : ∀ v ∈ z.vars, ltr v) : Bare (bareN z) := by
  refine ⟨fun hk => ?_, hv⟩
  obtain ⟨c, k, e, vs, ar, bs⟩ := z
  simp only [bareN, Nd.kind, Nd.vars] at *
  cases bs with
  | nil =>
    simp only [Nd.Fit] at h
    rcases h with ⟨h, _⟩ | ⟨h, _⟩ | ⟨_, h⟩
    · rcases hk with rfl | rfl | rfl | rfl <;> rcases h with h | h | h | h <;> exact absurd h (by decide)
    · rcases hk with rfl | rfl | rfl | rfl <;> exact absurd h (by decide)
    · exact h
  | cons y r =>
    cases r with
    | nil =>
      simp only [Nd.Fit] at h
      rcases h.1 with h | h
      · exact h.2
      · rcases hk with rfl | rfl | rfl | rfl <;> exact absurd h (by decide)
    | cons u r2 =>
      cases r2 with
      | nil => simp only [Nd.Fit] at h; exact h.2.1
      | cons _ _ => simp only [Nd.Fit] at h

theorem prog_bare {s : ByteArray} {x z q : Nd} (hp : progP s = some x) (hz : z ∈ x.pre.list) (hq : q ∈ z.pre.list) (hsub : q ∈ x.pre.list) : Bare (bareN q) :=
  fit_bare (step_fit hp hsub).fit (step_fit hp hsub).vars

theorem usedLs_ltr {l : List Nd} (h : ∀ q ∈ l, Bare (bareN q)) : ∀ v ∈ usedLs l, ltr v := by
  intro v hv
  obtain ⟨q, hq, hv⟩ := List.mem_flatMap.1 hv
  unfold lettersN at hv
  split at hv
  · cases hv
  · exact (h q hq).2 v hv

theorem bitsV_app (a b : List UInt8) : bitsV (a ++ b) = bitsV a ||| bitsV b := by
  unfold bitsV
  rw [List.foldl_append, bitsV_fold]
  rfl

theorem usedLs_snoc (l : List Nd) (q : Nd) : bitsV (usedLs (l ++ [q])) = bitsV (usedLs l) ||| bitsV (lettersN q) := by
  unfold usedLs
  rw [List.flatMap_append, bitsV_app]
  simp

end Go.Proofs.Ytccpmhjffcceeaa
