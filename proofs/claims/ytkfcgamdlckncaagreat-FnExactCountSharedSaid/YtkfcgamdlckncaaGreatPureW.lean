/-
  The grammar of programs as plain functions: nothing of the translation is imported.
  The grammar reads on: where it answers, it has gone on, and not past the text's end.
  The nodes of a tree in the order in which they begin; and how many there are at most. Nothing of the translation is imported.
  The steps of a tree with the number of scopes around each; what every step of a program is good for. Nothing of the translation is imported.
  Runs of programs as plain functions of a tree. Nothing of the translation is imported.
  What a run holds lies in the scope; the text of events; names of what is held. Nothing of the translation is imported.
-/
import Derived.Lib.ItoaNum
namespace Go.Proofs.YtkfcgamdlckncaaGreat
set_option linter.unusedVariables false
set_option linter.unusedSimpArgs false

/-- A byte of a text. -/
def at? (s : ByteArray) (k : Nat) : Option UInt8 := if h : k < s.size then some (s[k]) else none

theorem at?_some {s : ByteArray} {k : Nat} (h : k < s.size) : at? s k = some s[k] := by simp [at?, h]
theorem at?_none {s : ByteArray} {k : Nat} (h : s.size ≤ k) : at? s k = none := by simp [at?, Nat.not_lt.2 h]
theorem at?_lt {s : ByteArray} {k : Nat} {c : UInt8} (h : at? s k = some c) : k < s.size := by
  unfold at? at h; split at h; assumption; cases h
theorem at?_get {s : ByteArray} {k : Nat} {c : UInt8} (h : at? s k = some c) (hk : k < s.size) : s[k] = c := by
  rw [at?_some hk] at h; exact Option.some.inj h

mutual
/-- A step: its kind, where it begins and ends, its variables, the variables around it, what stands within it. -/
inductive Nd where
  | mk (kind : UInt8) (beg fin : Nat) (vars scope : List UInt8) (bodies : Bds)
inductive Nds where
  | nil
  | cons (x : Nd) (r : Nds)
inductive Bds where
  | nil
  | cons (x : Nds) (r : Bds)
end

/-- A variable out of 'ar' at byte k. -/
def varP (s : ByteArray) (ar : List UInt8) (k : Nat) : Option (UInt8 × Nat) :=
  match at? s k with
  | none => none
  | some c => if c ∈ ar then some (c, k + 1) else none

/-- The two variables of a move. -/
def moveP (s : ByteArray) (ar : List UInt8) (k : Nat) : Option (UInt8 × UInt8 × Nat) :=
  match varP s ar k with
  | none => none
  | some (v, k1) =>
    match varP s ar k1 with
    | none => none
    | some (u, k2) => if v = u then none else some (v, u, k2)

theorem varP_some {s : ByteArray} {ar : List UInt8} {k : Nat} {v : UInt8} {k1 : Nat} (h : varP s ar k = some (v, k1)) : k1 = k + 1 ∧ k < s.size ∧ v ∈ ar := by
  unfold varP at h
  split at h
  · cases h
  · rename_i c hc
    split at h
    · rename_i hm
      simp only [Option.some.injEq, Prod.mk.injEq] at h
      exact ⟨h.2.symm, at?_lt hc, h.1 ▸ hm⟩
    · cases h

theorem moveP_some {s : ByteArray} {ar : List UInt8} {k : Nat} {v u : UInt8} {k2 : Nat} (h : moveP s ar k = some (v, u, k2)) : ∃ k1, varP s ar k = some (v, k1) ∧ varP s ar k1 = some (u, k2) ∧ v ≠ u := by
  unfold moveP at h
  split at h
  · cases h
  · rename_i v' k1 h1
    split at h
    · cases h
    · rename_i u' k2' h2
      split at h
      · cases h
      · rename_i hne
        simp only [Option.some.injEq, Prod.mk.injEq] at h
        obtain ⟨rfl, rfl, rfl⟩ := h
        exact ⟨k1, h1, h2, hne⟩

theorem moveP_none {s : ByteArray} {ar : List UInt8} {k : Nat} (h : moveP s ar k = none) : varP s ar k = none ∨ (∃ v k1, varP s ar k = some (v, k1) ∧ varP s ar k1 = none) ∨ (∃ v k1 k2, varP s ar k = some (v, k1) ∧ varP s ar k1 = some (v, k2)) := by
  unfold moveP at h
  split at h
  · rename_i h1; exact .inl h1
  · rename_i v k1 h1
    split at h
    · rename_i h2; exact .inr (.inl ⟨v, k1, h1, h2⟩)
    · rename_i u k2 h2
      split at h
      · rename_i he; subst he; exact .inr (.inr ⟨v, k1, k2, h1, h2⟩)
      · cases h

/-- The variables that a scope declares, and the colon behind them. -/
def declP (s : ByteArray) : Nat → List UInt8 → List UInt8 → Nat → Option (List UInt8 × Nat)
  | 0, _, _, _ => none
  | n + 1, ar, out, k =>
    match at? s k with
    | none => none
    | some c =>
      if c = 58 ∧ out ≠ [] then some (out, k + 1)
      else if 97 ≤ c ∧ c ≤ 102 ∧ c ∉ ar ++ out then declP s n ar (out ++ [c]) (k + 1)
      else none

/-- The byte c at k. -/
def isP (s : ByteArray) (c : UInt8) (k : Nat) : Option Nat := if at? s k = some c then some (k + 1) else none

mutual
def stepP (s : ByteArray) : Nat → List UInt8 → Nat → Nat → Option (Nd × Nat)
  | 0, _, _, _ => none
  | n + 1, ar, d, k =>
    match at? s k with
    | none => none
    | some c =>
      if c = 43 ∨ c = 46 ∨ c = 45 ∨ c = 126 then
        match varP s ar (k + 1) with
        | none => none
        | some (v, k1) => some (.mk c k k1 [v] ar .nil, k1)
      else if c = 61 then
        match moveP s ar (k + 1) with
        | none => none
        | some (v, u, k2) => some (.mk c k k2 [v, u] ar .nil, k2)
      else if c = 94 ∨ c = 33 then some (.mk c k (k + 1) [] ar .nil, k + 1)
      else if c = 63 then
        match brackP s n ar d (k + 1) with
        | none => none
        | some (x, k1) =>
          match brackP s n ar d k1 with
          | none => none
          | some (y, k2) => some (.mk c k k2 [] ar (.cons x (.cons y .nil)), k2)
      else if c = 42 then
        match brackP s n ar d (k + 1) with
        | none => none
        | some (x, k1) => some (.mk c k k1 [] ar (.cons x .nil), k1)
      else if c = 123 then scopeP s n ar d k
      else none
/-- A scope, its opening brace at k. -/
def scopeP (s : ByteArray) : Nat → List UInt8 → Nat → Nat → Option (Nd × Nat)
  | 0, _, _, _ => none
  | n + 1, ar, d, k =>
    if 4 ≤ d then none
    else
      match declP s (s.size + 1) ar [] (k + 1) with
      | none => none
      | some (vs, k1) =>
        match stepsP s n (ar ++ vs) (d + 1) 125 k1 with
        | none => none
        | some (x, k2) => some (.mk 123 k k2 vs ar (.cons x .nil), k2)
/-- An opening bracket, steps, a closing one. -/
def brackP (s : ByteArray) : Nat → List UInt8 → Nat → Nat → Option (Nds × Nat)
  | 0, _, _, _ => none
  | n + 1, ar, d, k =>
    match isP s 91 k with
    | none => none
    | some k1 => stepsP s n ar d 93 k1
/-- Steps up to a closing byte. -/
def stepsP (s : ByteArray) : Nat → List UInt8 → Nat → UInt8 → Nat → Option (Nds × Nat)
  | 0, _, _, _, _ => none
  | n + 1, ar, d, e, k =>
    if at? s k = some e then some (.nil, k + 1)
    else
      match stepP s n ar d k with
      | none => none
      | some (x, k1) =>
        match stepsP s n ar d e k1 with
        | none => none
        | some (r, k2) => some (.cons x r, k2)
end

/-- A program. -/
def progP (s : ByteArray) : Option Nd :=
  if s.size > 80 then none
  else if at? s 0 = some 123 then
    match scopeP s (8 * s.size + 8) [] 0 0 with
    | none => none
    | some (x, k) => if k = s.size then some x else none
  else none

end Go.Proofs.YtkfcgamdlckncaaGreat

namespace Go.Proofs.YtkfcgamdlckncaaGreat
set_option linter.unusedVariables false
set_option linter.unusedSimpArgs false

theorem declP_len (s : ByteArray) : ∀ (n : Nat) (ar out : List UInt8) (k : Nat) (vs : List UInt8) (k2 : Nat), declP s n ar out k = some (vs, k2) → k2 ≤ s.size ∧ vs.length + k + 1 = out.length + k2 ∧ out.length ≤ vs.length
  | 0, ar, out, k, vs, k2, h => by simp [declP] at h
  | n + 1, ar, out, k, vs, k2, h => by
    rw [declP] at h
    cases hc : at? s k with
    | none => rw [hc] at h; cases h
    | some c =>
      rw [hc] at h
      have hk := at?_lt hc
      simp only at h
      split at h
      · simp only [Option.some.injEq, Prod.mk.injEq] at h
        obtain ⟨rfl, rfl⟩ := h
        exact ⟨by omega, by omega, Nat.le_refl _⟩
      · split at h
        · have := declP_len s n ar (out ++ [c]) (k + 1) vs k2 h
          simp only [List.length_append, List.length_cons, List.length_nil] at this
          omega
        · cases h

theorem isP_some {s : ByteArray} {c : UInt8} {k k1 : Nat} (h : isP s c k = some k1) : at? s k = some c ∧ k1 = k + 1 ∧ k < s.size := by
  unfold isP at h
  split at h
  · rename_i hc; exact ⟨hc, (Option.some.inj h).symm, at?_lt hc⟩
  · cases h

theorem isP_none {s : ByteArray} {c : UInt8} {k : Nat} (h : isP s c k = none) : at? s k ≠ some c := by
  unfold isP at h
  split at h
  · cases h
  · assumption

/-- Progress of all four readers at one number. -/
structure Goes (s : ByteArray) (n : Nat) : Prop where
  step : ∀ ar d k x k2, stepP s n ar d k = some (x, k2) → k < k2 ∧ k2 ≤ s.size
  scope : ∀ ar d k x k2, scopeP s n ar d k = some (x, k2) → k + 1 < k2 ∧ k2 ≤ s.size
  brack : ∀ ar d k x k2, brackP s n ar d k = some (x, k2) → k < k2 ∧ k2 ≤ s.size
  steps : ∀ ar d e k x k2, stepsP s n ar d e k = some (x, k2) → k < k2 ∧ k2 ≤ s.size

theorem goes (s : ByteArray) : ∀ n, Goes s n
  | 0 => ⟨fun _ _ _ _ _ h => by simp [stepP] at h, fun _ _ _ _ _ h => by simp [scopeP] at h, fun _ _ _ _ _ h => by simp [brackP] at h, fun _ _ _ _ _ _ h => by simp [stepsP] at h⟩
  | n + 1 => by
    have ih := goes s n
    constructor
    · intro ar d k x k2 h
      rw [stepP] at h
      cases hc : at? s k with
      | none => rw [hc] at h; cases h
      | some c =>
        have hk := at?_lt hc
        simp only [hc] at h
        split at h
        · split at h
          · cases h
          · rename_i v k1 hv
            have := varP_some hv
            simp only [Option.some.injEq, Prod.mk.injEq] at h
            omega
        split at h
        · split at h
          · cases h
          · rename_i v u k1 hv
            obtain ⟨k0, h1, h2, _⟩ := moveP_some hv
            have := varP_some h1
            have := varP_some h2
            simp only [Option.some.injEq, Prod.mk.injEq] at h
            omega
        split at h
        · simp only [Option.some.injEq, Prod.mk.injEq] at h
          omega
        split at h
        · split at h
          · cases h
          · rename_i x1 k1 h1
            split at h
            · cases h
            · rename_i x2 k2' h2
              have := ih.brack _ _ _ _ _ h1
              have := ih.brack _ _ _ _ _ h2
              simp only [Option.some.injEq, Prod.mk.injEq] at h
              omega
        split at h
        · split at h
          · cases h
          · rename_i x1 k1 h1
            have := ih.brack _ _ _ _ _ h1
            simp only [Option.some.injEq, Prod.mk.injEq] at h
            omega
        split at h
        · have := ih.scope _ _ _ _ _ h
          omega
        · cases h
    · intro ar d k x k2 h
      rw [scopeP] at h
      split at h
      · cases h
      · split at h
        · cases h
        · rename_i vs k1 h1
          split at h
          · cases h
          · rename_i x1 k2' h2
            have := declP_len _ _ _ _ _ _ _ h1
            have := ih.steps _ _ _ _ _ _ h2
            simp only [Option.some.injEq, Prod.mk.injEq] at h
            simp only [List.length_nil] at *
            omega
    · intro ar d k x k2 h
      rw [brackP] at h
      split at h
      · cases h
      · rename_i k1 h1
        have := isP_some h1
        have := ih.steps _ _ _ _ _ _ h
        omega
    · intro ar d e k x k2 h
      rw [stepsP] at h
      split at h
      · rename_i hc
        have := at?_lt hc
        simp only [Option.some.injEq, Prod.mk.injEq] at h
        omega
      · split at h
        · cases h
        · rename_i x1 k1 h1
          split at h
          · cases h
          · rename_i r k2' h2
            have := ih.step _ _ _ _ _ h1
            have := ih.steps _ _ _ _ _ _ h2
            simp only [Option.some.injEq, Prod.mk.injEq] at h
            omega

/-- Lists of nodes. -/
def Nds.app : Nds → Nds → Nds
  | .nil, y => y
  | .cons x r, y => .cons x (r.app y)
def Nds.len : Nds → Nat
  | .nil => 0
  | .cons _ r => r.len + 1

theorem Nds.app_nil : ∀ x : Nds, x.app .nil = x
  | .nil => rfl
  | .cons x r => by rw [Nds.app, Nds.app_nil r]
theorem Nds.app_app : ∀ x y z : Nds, (x.app y).app z = x.app (y.app z)
  | .nil, _, _ => rfl
  | .cons x r, y, z => by rw [Nds.app, Nds.app, Nds.app, Nds.app_app r]
theorem Nds.len_app : ∀ x y : Nds, (x.app y).len = x.len + y.len
  | .nil, y => by simp [Nds.app, Nds.len]
  | .cons x r, y => by simp only [Nds.app, Nds.len, Nds.len_app r y]; omega

/-- What was read, ahead of what is read still. -/
def joinP (pre : Nds) : Option (Nds × Nat) → Option (Nds × Nat)
  | none => none
  | some (r, k) => some (pre.app r, k)

theorem joinP_step (s : ByteArray) (n : Nat) (ar : List UInt8) (d : Nat) (e : UInt8) (k : Nat) (pre : Nds) :
    (at? s k = some e ∧ joinP pre (stepsP s (n + 1) ar d e k) = some (pre, k + 1)) ∨
    (at? s k ≠ some e ∧ stepP s n ar d k = none ∧ joinP pre (stepsP s (n + 1) ar d e k) = none) ∨
    (∃ x k1, at? s k ≠ some e ∧ stepP s n ar d k = some (x, k1) ∧ joinP pre (stepsP s (n + 1) ar d e k) = joinP (pre.app (.cons x .nil)) (stepsP s n ar d e k1)) := by
  by_cases h : at? s k = some e
  · exact .inl ⟨h, by rw [stepsP, if_pos h]; simp [joinP, Nds.app_nil]⟩
  · refine .inr ?_
    rw [stepsP, if_neg h]
    cases hs : stepP s n ar d k with
    | none => exact .inl ⟨h, rfl, rfl⟩
    | some p =>
      obtain ⟨x, k1⟩ := p
      refine .inr ⟨x, k1, h, rfl, ?_⟩
      simp only
      cases hr : stepsP s n ar d e k1 with
      | none => rfl
      | some q => obtain ⟨r, k2⟩ := q; simp [joinP, Nds.app_app, Nds.app]

end Go.Proofs.YtkfcgamdlckncaaGreat

namespace Go.Proofs.YtkfcgamdlckncaaGreat
set_option linter.unusedVariables false
set_option linter.unusedSimpArgs false

mutual
/-- A step and all steps within it, in the order in which they begin. -/
def Nd.pre : Nd → Nds
  | .mk c k e vs ar bs => .cons (.mk c k e vs ar bs) bs.pre
def Nds.pre : Nds → Nds
  | .nil => .nil
  | .cons x r => x.pre.app r.pre
def Bds.pre : Bds → Nds
  | .nil => .nil
  | .cons x r => x.pre.app r.pre
end

/-- No reader reads more steps than bytes. -/
structure Few (s : ByteArray) (n : Nat) : Prop where
  step : ∀ ar d k x k2, stepP s n ar d k = some (x, k2) → x.pre.len + k ≤ k2
  scope : ∀ ar d k x k2, scopeP s n ar d k = some (x, k2) → x.pre.len + k ≤ k2
  brack : ∀ ar d k x k2, brackP s n ar d k = some (x, k2) → x.pre.len + k + 1 ≤ k2
  steps : ∀ ar d e k x k2, stepsP s n ar d e k = some (x, k2) → x.pre.len + k ≤ k2

theorem few (s : ByteArray) : ∀ n, Few s n
  | 0 => ⟨fun _ _ _ _ _ h => by simp [stepP] at h, fun _ _ _ _ _ h => by simp [scopeP] at h, fun _ _ _ _ _ h => by simp [brackP] at h, fun _ _ _ _ _ _ h => by simp [stepsP] at h⟩
  | n + 1 => by
    have ih := few s n
    constructor
    · intro ar d k x k2 h
      rw [stepP] at h
      cases hc : at? s k with
      | none => rw [hc] at h; cases h
      | some c =>
        simp only [hc] at h
        split at h
        · split at h
          · cases h
          · rename_i v k1 hv
            have := varP_some hv
            simp only [Option.some.injEq, Prod.mk.injEq] at h
            obtain ⟨rfl, rfl⟩ := h
            simp only [Nd.pre, Bds.pre, Nds.len]
            omega
        split at h
        · split at h
          · cases h
          · rename_i v u k1 hv
            obtain ⟨k0, h1, h2, _⟩ := moveP_some hv
            have := varP_some h1
            have := varP_some h2
            simp only [Option.some.injEq, Prod.mk.injEq] at h
            obtain ⟨rfl, rfl⟩ := h
            simp only [Nd.pre, Bds.pre, Nds.len]
            omega
        split at h
        · simp only [Option.some.injEq, Prod.mk.injEq] at h
          obtain ⟨rfl, rfl⟩ := h
          simp only [Nd.pre, Bds.pre, Nds.len]
          omega
        split at h
        · split at h
          · cases h
          · rename_i x1 k1 h1
            split at h
            · cases h
            · rename_i x2 k2' h2
              have := ih.brack _ _ _ _ _ h1
              have := ih.brack _ _ _ _ _ h2
              simp only [Option.some.injEq, Prod.mk.injEq] at h
              obtain ⟨rfl, rfl⟩ := h
              simp only [Nd.pre, Bds.pre, Nds.len, Nds.len_app]
              omega
        split at h
        · split at h
          · cases h
          · rename_i x1 k1 h1
            have := ih.brack _ _ _ _ _ h1
            simp only [Option.some.injEq, Prod.mk.injEq] at h
            obtain ⟨rfl, rfl⟩ := h
            simp only [Nd.pre, Bds.pre, Nds.len, Nds.len_app]
            omega
        split at h
        · exact ih.scope _ _ _ _ _ h
        · cases h
    · intro ar d k x k2 h
      rw [scopeP] at h
      split at h
      · cases h
      · split at h
        · cases h
        · rename_i vs k1 h1
          split at h
          · cases h
          · rename_i x1 k2' h2
            have := declP_len _ _ _ _ _ _ _ h1
            have := ih.steps _ _ _ _ _ _ h2
            simp only [Option.some.injEq, Prod.mk.injEq] at h
            obtain ⟨rfl, rfl⟩ := h
            simp only [Nd.pre, Bds.pre, Nds.len, Nds.len_app, List.length_nil] at *
            omega
    · intro ar d k x k2 h
      rw [brackP] at h
      split at h
      · cases h
      · rename_i k1 h1
        have := isP_some h1
        have := ih.steps _ _ _ _ _ _ h
        omega
    · intro ar d e k x k2 h
      rw [stepsP] at h
      split at h
      · simp only [Option.some.injEq, Prod.mk.injEq] at h
        obtain ⟨rfl, rfl⟩ := h
        simp only [Nds.pre, Nds.len]
        omega
      · split at h
        · cases h
        · rename_i x1 k1 h1
          split at h
          · cases h
          · rename_i r k2' h2
            have := ih.step _ _ _ _ _ h1
            have := ih.steps _ _ _ _ _ _ h2
            simp only [Option.some.injEq, Prod.mk.injEq] at h
            obtain ⟨rfl, rfl⟩ := h
            simp only [Nds.pre, Nds.len_app]
            omega

theorem progP_few {s : ByteArray} {x : Nd} (h : progP s = some x) : x.pre.len ≤ s.size ∧ s.size ≤ 80 := by
  unfold progP at h
  split at h
  · cases h
  · split at h
    · split at h
      · cases h
      · rename_i y k hy
        split at h
        · rename_i hk
          have e := Option.some.inj h
          subst e
          have := (few s (8 * s.size + 8)).scope _ _ _ _ _ hy
          omega
        · cases h
    · cases h

end Go.Proofs.YtkfcgamdlckncaaGreat

namespace Go.Proofs.YtkfcgamdlckncaaGreat
set_option linter.unusedVariables false
set_option linter.unusedSimpArgs false

def Nd.beg : Nd → Nat | .mk _ k _ _ _ _ => k
def Nd.kind : Nd → UInt8 | .mk c _ _ _ _ _ => c
def Nd.fin : Nd → Nat | .mk _ _ e _ _ _ => e
def Nd.vars : Nd → List UInt8 | .mk _ _ _ vs _ _ => vs
def Nd.scope : Nd → List UInt8 | .mk _ _ _ _ ar _ => ar
def Nd.bodies : Nd → Bds | .mk _ _ _ _ _ bs => bs
def Nds.list : Nds → List Nd | .nil => [] | .cons x r => x :: r.list
theorem Nds.list_app : ∀ x y : Nds, (x.app y).list = x.list ++ y.list
  | .nil, _ => rfl
  | .cons x r, y => by simp [Nds.app, Nds.list, Nds.list_app r y]
theorem Nds.list_len : ∀ x : Nds, x.list.length = x.len
  | .nil => rfl
  | .cons x r => by simp [Nds.list, Nds.len, Nds.list_len r]

/-- A step and the number of scopes around it. -/
abbrev PN := Nd × Nat

/-- How many scopes are around what stands in a step of kind c. -/
def inD (c : UInt8) (d : Nat) : Nat := if c = 123 then d + 1 else d

mutual
def Nd.preD : Nd → Nat → List PN
  | .mk c k e vs ar bs, d => (.mk c k e vs ar bs, d) :: bs.preD (inD c d)
def Nds.preD : Nds → Nat → List PN
  | .nil, _ => []
  | .cons x r, d => x.preD d ++ r.preD d
def Bds.preD : Bds → Nat → List PN
  | .nil, _ => []
  | .cons x r, d => x.preD d ++ r.preD d
end

mutual
theorem Nd.preD_fst : ∀ (x : Nd) (d : Nat), (x.preD d).map Prod.fst = x.pre.list
  | .mk c k e vs ar bs, d => by simp [Nd.preD, Nd.pre, Nds.list, Bds.preD_fst bs]
theorem Nds.preD_fst : ∀ (x : Nds) (d : Nat), (x.preD d).map Prod.fst = x.pre.list
  | .nil, _ => rfl
  | .cons x r, d => by simp [Nds.preD, Nds.pre, Nds.list_app, Nd.preD_fst x, Nds.preD_fst r]
theorem Bds.preD_fst : ∀ (x : Bds) (d : Nat), (x.preD d).map Prod.fst = x.pre.list
  | .nil, _ => rfl
  | .cons x r, d => by simp [Bds.preD, Bds.pre, Nds.list_app, Nds.preD_fst x, Bds.preD_fst r]
end

theorem Nd.preD_len (x : Nd) (d : Nat) : (x.preD d).length = x.pre.len := by
  rw [← Nds.list_len, ← Nd.preD_fst x d, List.length_map]

/-- The steps of all bodies. -/
def Bds.kids : Bds → List Nd
  | .nil => []
  | .cons x r => x.list ++ r.kids

theorem Nds.preD_eq : ∀ (x : Nds) (d : Nat), x.preD d = x.list.flatMap (fun z => z.preD d)
  | .nil, _ => rfl
  | .cons x r, d => by simp [Nds.preD, Nds.list, Nds.preD_eq r]
theorem Bds.preD_eq : ∀ (x : Bds) (d : Nat), x.preD d = x.kids.flatMap (fun z => z.preD d)
  | .nil, _ => rfl
  | .cons x r, d => by simp [Bds.preD, Bds.kids, Nds.preD_eq x, Bds.preD_eq r]
theorem Nd.preD_eq (x : Nd) (d : Nat) : x.preD d = (x, d) :: x.bodies.kids.flatMap (fun z => z.preD (inD x.kind d)) := by
  cases x; simp [Nd.preD, Nd.bodies, Nd.kind, Bds.preD_eq]

theorem flat_len (d : Nat) : ∀ l : List Nd, l.length ≤ (l.flatMap (fun z => z.preD d)).length
  | [] => Nat.le_refl _
  | z :: r => by
    have := flat_len d r
    cases z with
    | mk c k e vs ar bs =>
      simp only [List.flatMap_cons, List.length_append, Nd.preD, List.length_cons]; omega
theorem flat_mem (d : Nat) {z : Nd} : ∀ {l : List Nd}, z ∈ l → (z.preD d).length ≤ (l.flatMap (fun z => z.preD d)).length
  | y :: r, h => by
    rcases List.mem_cons.1 h with rfl | h
    · simp
    · have := flat_mem d h
      simp only [List.flatMap_cons, List.length_append]; omega
theorem kid_small {x z : Nd} (hz : z ∈ x.bodies.kids) : z.pre.len < x.pre.len := by
  have h := congrArg List.length (Nd.preD_eq x 0)
  have h2 := flat_mem (inD x.kind 0) hz
  rw [Nd.preD_len] at h h2
  simp only [List.length_cons] at h
  omega
theorem kids_len (x : Nd) : x.bodies.kids.length < x.pre.len := by
  have h := congrArg List.length (Nd.preD_eq x 0)
  have h2 := flat_len (inD x.kind 0) x.bodies.kids
  rw [Nd.preD_len] at h
  simp only [List.length_cons] at h
  omega

mutual
/-- What every step of a program is good for: d scopes are around it. -/
def Nd.Ok (s : ByteArray) : Nd → Nat → Prop
  | .mk c k e vs ar bs, d => at? s k = some c ∧ k < e ∧ e ≤ s.size ∧ ar.length + vs.length ≤ e ∧ ar.length ≤ k ∧ d ≤ 4 ∧ inD c d ≤ 4 ∧ (c = 123 ∨ bs = .nil ∨ vs = []) ∧ bs.Ok s (ar ++ vs) (inD c d)
def Nds.Ok (s : ByteArray) : Nds → List UInt8 → Nat → Prop
  | .nil, _, _ => True
  | .cons x r, sc, d => x.scope = sc ∧ x.Ok s d ∧ r.Ok s sc d
def Bds.Ok (s : ByteArray) : Bds → List UInt8 → Nat → Prop
  | .nil, _, _ => True
  | .cons x r, sc, d => x.Ok s sc d ∧ r.Ok s sc d
end

theorem Nds.Ok.mem {s : ByteArray} {sc : List UInt8} {d : Nat} : ∀ {x : Nds}, x.Ok s sc d → ∀ z ∈ x.list, z.scope = sc ∧ z.Ok s d
  | .nil, _, z, hz => by cases hz
  | .cons x r, h, z, hz => by
    simp only [Nds.Ok] at h
    rcases List.mem_cons.1 hz with rfl | hz
    · exact ⟨h.1, h.2.1⟩
    · exact Nds.Ok.mem h.2.2 z hz
theorem Bds.Ok.mem {s : ByteArray} {sc : List UInt8} {d : Nat} : ∀ {x : Bds}, x.Ok s sc d → ∀ z ∈ x.kids, z.scope = sc ∧ z.Ok s d
  | .nil, _, z, hz => by cases hz
  | .cons x r, h, z, hz => by
    simp only [Bds.Ok] at h
    rcases List.mem_append.1 hz with hz | hz
    · exact Nds.Ok.mem h.1 z hz
    · exact Bds.Ok.mem h.2 z hz

mutual
theorem Nd.Ok.all {s : ByteArray} : ∀ (x : Nd) (d : Nat), x.Ok s d → ∀ p ∈ x.preD d, p.1.Ok s p.2
  | .mk c k e vs ar bs, d, h, p, hp => by
    simp only [Nd.preD, List.mem_cons] at hp
    rcases hp with rfl | hp
    · exact h
    · simp only [Nd.Ok] at h
      exact Bds.Ok.all bs _ _ h.2.2.2.2.2.2.2.2 p hp
theorem Nds.Ok.all {s : ByteArray} : ∀ (x : Nds) (sc : List UInt8) (d : Nat), x.Ok s sc d → ∀ p ∈ x.preD d, p.1.Ok s p.2
  | .nil, _, _, _, p, hp => by simp [Nds.preD] at hp
  | .cons x r, sc, d, h, p, hp => by
    simp only [Nds.Ok] at h
    simp only [Nds.preD, List.mem_append] at hp
    rcases hp with hp | hp
    · exact Nd.Ok.all x d h.2.1 p hp
    · exact Nds.Ok.all r sc d h.2.2 p hp
theorem Bds.Ok.all {s : ByteArray} : ∀ (x : Bds) (sc : List UInt8) (d : Nat), x.Ok s sc d → ∀ p ∈ x.preD d, p.1.Ok s p.2
  | .nil, _, _, _, p, hp => by simp [Bds.preD] at hp
  | .cons x r, sc, d, h, p, hp => by
    simp only [Bds.Ok] at h
    simp only [Bds.preD, List.mem_append] at hp
    rcases hp with hp | hp
    · exact Nds.Ok.all x sc d h.1 p hp
    · exact Bds.Ok.all r sc d h.2 p hp
end

/-- Every reader reads steps that are so. -/
structure Reads (s : ByteArray) (n : Nat) : Prop where
  step : ∀ ar d k x k2, ar.length ≤ k → d ≤ 4 → stepP s n ar d k = some (x, k2) → x.scope = ar ∧ x.Ok s d ∧ x.beg = k ∧ x.fin = k2 ∧ k < k2 ∧ k2 ≤ s.size
  scope : ∀ ar d k x k2, ar.length ≤ k → d ≤ 4 → at? s k = some 123 → scopeP s n ar d k = some (x, k2) → x.scope = ar ∧ x.Ok s d ∧ x.beg = k ∧ x.fin = k2 ∧ k < k2 ∧ k2 ≤ s.size
  brack : ∀ ar d k x k2, ar.length ≤ k → d ≤ 4 → brackP s n ar d k = some (x, k2) → x.Ok s ar d ∧ k < k2 ∧ k2 ≤ s.size
  steps : ∀ ar d e k x k2, ar.length ≤ k → d ≤ 4 → stepsP s n ar d e k = some (x, k2) → x.Ok s ar d ∧ k < k2 ∧ k2 ≤ s.size

theorem reads (s : ByteArray) : ∀ n, Reads s n
  | 0 => ⟨fun _ _ _ _ _ _ _ h => by simp [stepP] at h, fun _ _ _ _ _ _ _ _ h => by simp [scopeP] at h, fun _ _ _ _ _ _ _ h => by simp [brackP] at h, fun _ _ _ _ _ _ _ _ h => by simp [stepsP] at h⟩
  | n + 1 => by
    have ih := reads s n
    constructor
    · intro ar d k x k2 ha hd h
      rw [stepP] at h
      cases hc : at? s k with
      | none => rw [hc] at h; cases h
      | some c =>
        simp only [hc] at h
        split at h
        · rename_i hcc
          have hin : inD c d = d := by unfold inD; rw [if_neg]; rintro rfl; simp at hcc
          split at h
          · cases h
          · rename_i v k1 hv
            obtain ⟨rfl, hlt, _⟩ := varP_some hv
            simp only [Option.some.injEq, Prod.mk.injEq] at h
            obtain ⟨rfl, rfl⟩ := h
            simp only [Nd.scope, Nd.Ok, Nd.beg, Nd.fin, Bds.Ok, hin, hc, List.length_cons, List.length_nil, and_true, true_and, true_or, or_true]
            omega
        split at h
        · rename_i hcc
          have hin : inD c d = d := by unfold inD; rw [if_neg]; rintro rfl; simp at hcc
          split at h
          · cases h
          · rename_i v u k1 hv
            obtain ⟨k0, h1, h2, _⟩ := moveP_some hv
            obtain ⟨rfl, hlt, _⟩ := varP_some h1
            obtain ⟨rfl, hlt2, _⟩ := varP_some h2
            simp only [Option.some.injEq, Prod.mk.injEq] at h
            obtain ⟨rfl, rfl⟩ := h
            simp only [Nd.scope, Nd.Ok, Nd.beg, Nd.fin, Bds.Ok, hin, hc, List.length_cons, List.length_nil, and_true, true_and, true_or, or_true]
            omega
        split at h
        · rename_i hcc
          have hin : inD c d = d := by unfold inD; rw [if_neg]; rintro rfl; simp at hcc
          have hlt := at?_lt hc
          simp only [Option.some.injEq, Prod.mk.injEq] at h
          obtain ⟨rfl, rfl⟩ := h
          simp only [Nd.scope, Nd.Ok, Nd.beg, Nd.fin, Bds.Ok, hin, hc, List.length_nil, and_true, true_and, or_true]
          omega
        split at h
        · rename_i hcc
          have hin : inD c d = d := by unfold inD; rw [if_neg]; rintro rfl; simp at hcc
          split at h
          · cases h
          · rename_i x1 k1 h1
            split at h
            · cases h
            · rename_i x2 k2' h2
              have i1 := ih.brack _ _ _ _ _ (by omega) hd h1
              have i2 := ih.brack _ _ _ _ _ (by omega) hd h2
              simp only [Option.some.injEq, Prod.mk.injEq] at h
              obtain ⟨rfl, rfl⟩ := h
              simp only [Nd.scope, Nd.Ok, Nd.beg, Nd.fin, Bds.Ok, hin, hc, List.length_nil, List.append_nil, i1.1, i2.1, and_true, true_and, or_true]
              omega
        split at h
        · rename_i hcc
          have hin : inD c d = d := by unfold inD; rw [if_neg]; rintro rfl; simp at hcc
          split at h
          · cases h
          · rename_i x1 k1 h1
            have i1 := ih.brack _ _ _ _ _ (by omega) hd h1
            simp only [Option.some.injEq, Prod.mk.injEq] at h
            obtain ⟨rfl, rfl⟩ := h
            simp only [Nd.scope, Nd.Ok, Nd.beg, Nd.fin, Bds.Ok, hin, hc, List.length_nil, List.append_nil, i1.1, and_true, true_and, or_true]
            omega
        split at h
        · rename_i hcc
          subst hcc
          exact ih.scope _ _ _ _ _ ha hd hc h
        · cases h
    · intro ar d k x k2 ha hd hc h
      rw [scopeP] at h
      split at h
      · cases h
      · rename_i hd4
        have hin : inD 123 d = d + 1 := by unfold inD; rw [if_pos rfl]
        split at h
        · cases h
        · rename_i vs k1 h1
          have hdl := declP_len _ _ _ _ _ _ _ h1
          simp only [List.length_nil] at hdl
          split at h
          · cases h
          · rename_i x1 k2' h2
            have i2 := ih.steps _ _ _ _ _ _ (by simp; omega) (by omega) h2
            simp only [Option.some.injEq, Prod.mk.injEq] at h
            obtain ⟨rfl, rfl⟩ := h
            simp only [Nd.scope, Nd.Ok, Nd.beg, Nd.fin, Bds.Ok, hin, hc, i2.1, and_true, true_and, true_or]
            omega
    · intro ar d k x k2 ha hd h
      rw [brackP] at h
      split at h
      · cases h
      · rename_i k1 h1
        obtain ⟨_, rfl, _⟩ := isP_some h1
        have i1 := ih.steps _ _ _ _ _ _ (by omega) hd h
        exact ⟨i1.1, by omega, i1.2.2⟩
    · intro ar d e k x k2 ha hd h
      rw [stepsP] at h
      split at h
      · rename_i hc
        have := at?_lt hc
        simp only [Option.some.injEq, Prod.mk.injEq] at h
        obtain ⟨rfl, rfl⟩ := h
        simp only [Nds.Ok, true_and]
        omega
      · split at h
        · cases h
        · rename_i x1 k1 h1
          have i1 := ih.step _ _ _ _ _ ha hd h1
          split at h
          · cases h
          · rename_i r k2' h2
            have i2 := ih.steps _ _ _ _ _ _ (by omega) hd h2
            simp only [Option.some.injEq, Prod.mk.injEq] at h
            obtain ⟨rfl, rfl⟩ := h
            exact ⟨⟨i1.1, i1.2.1, i2.1⟩, by omega, i2.2.2⟩

theorem progP_ok {s : ByteArray} {x : Nd} (h : progP s = some x) : x.scope = [] ∧ x.Ok s 0 ∧ x.kind = 123 ∧ x.beg = 0 ∧ x.fin = s.size ∧ s.size ≤ 80 := by
  unfold progP at h
  split at h
  · cases h
  · rename_i hs
    split at h
    · rename_i hc
      split at h
      · cases h
      · rename_i y k hy
        split at h
        · rename_i hk
          have e := Option.some.inj h
          subst e
          obtain ⟨h1, h2, h3, h4, _⟩ := (reads s (8 * s.size + 8)).scope _ _ _ _ _ (by simp) (by omega) hc hy
          refine ⟨h1, h2, ?_, h3, by rw [h4, hk], by omega⟩
          cases y with
          | mk c k' e' vs ar bs =>
            simp only [Nd.Ok] at h2
            simp only [Nd.beg] at h3
            subst h3
            have := h2.1
            rw [hc] at this
            exact (Option.some.inj this).symm
        · cases h
    · cases h

/-- A step that stands in a tree of program s. -/
structure Good (s : ByteArray) (x : Nd) (d : Nat) : Prop where
  kind : at? s x.beg = some x.kind
  lt : x.beg < x.fin
  le : x.fin ≤ s.size
  room : x.scope.length + x.vars.length ≤ x.fin
  deep : inD x.kind d ≤ 4
  shal : d ≤ 4
  vars : x.kind = 123 ∨ x.bodies = .nil ∨ x.vars = []
  kids : ∀ z ∈ x.bodies.kids, z.scope = x.scope ++ x.vars ∧ z.Ok s (inD x.kind d)

theorem Nd.Ok.good {s : ByteArray} {x : Nd} {d : Nat} (h : x.Ok s d) : Good s x d := by
  cases x with
  | mk c k e vs ar bs =>
    simp only [Nd.Ok] at h
    obtain ⟨h1, h2, h3, h4, h5, h6, h7, h8, h9⟩ := h
    exact ⟨h1, h2, h3, h4, h7, h6, h8, fun z hz => Bds.Ok.mem h9 z hz⟩

end Go.Proofs.YtkfcgamdlckncaaGreat

namespace Go.Proofs.YtkfcgamdlckncaaGreat
set_option linter.unusedVariables false
set_option linter.unusedSimpArgs false

/-- What a run has come to: choices that are left, the number of the value that each variable holds (0: none), how many were made, events, and where it came by with what variables held there. -/
structure St where
  ch : List UInt8
  val : UInt8 → Nat
  made : Nat
  ev : List (UInt8 × Nat)
  vis : List (Nat × (UInt8 → Nat))

/-- Why a run does not go on. -/
inductive Why where
  | ret
  | fail
  | fault (at_ : Nat)
  | stuck (branch : Bool)

inductive Out where
  | go (s : St)
  | stop (y : Why) (s : St)

def St.put (s : St) (v : UInt8) (k : Nat) : St := { s with val := fun u => if u = v then k else s.val u }
def St.happen (s : St) (c : UInt8) (k : Nat) : St := { s with ev := s.ev ++ [(c, k)] }
def St.comeBy (s : St) (k : Nat) : St := { s with vis := s.vis ++ [(k, s.val)] }
def St.destroy (s : St) (v : UInt8) : St := if s.val v = 0 then s else (s.put v 0).happen 45 (s.val v)
/-- From the last variable to the first one. -/
def St.destroyAll (s : St) : List UInt8 → St
  | [] => s
  | v :: r => (s.destroyAll r).destroy v
def St.make (s : St) (v : UInt8) : St := { (s.put v (s.made + 1)).happen 43 (s.made + 1) with made := s.made + 1 }
def St.move (s : St) (v u : UInt8) : St := (s.put v (s.val u)).put u 0
/-- The next choice, one of two. -/
def St.choose (s : St) (a b : UInt8) : Option (UInt8 × St) :=
  match s.ch with
  | [] => none
  | c :: r => if c = a ∨ c = b then some (c, { s with ch := r }) else none

/-- A step with one variable. -/
def St.one (s : St) (k : Nat) (c v : UInt8) : Out :=
  if c = 43 then .go ((s.destroy v).make v)
  else if c = 46 then (if s.val v = 0 then .stop (.fault k) s else .go (s.happen 46 (s.val v)))
  else if c = 45 then (if s.val v = 0 then .stop (.fault k) s else .go (s.destroy v))
  else .go (s.destroy v)
/-- A step with two variables. -/
def St.two (s : St) (k : Nat) (v u : UInt8) : Out :=
  if (s.destroy v).val u = 0 then .stop (.fault k) (s.destroy v) else .go ((s.destroy v).move v u)

/-- A loop: as long as it is chosen to. -/
def loopRun (body : St → Out) : Nat → St → Out
  | 0, s => .stop (.stuck false) s
  | n + 1, s =>
    match s.choose 101 109 with
    | none => .stop (.stuck false) s
    | some (c, s') =>
      if c = 109 then
        match body s' with
        | .go s2 => loopRun body n s2
        | .stop y s2 => .stop y s2
      else .go s'

def Out.andThen (o : Out) (f : St → Out) : Out := match o with | .go s => f s | .stop y s => .stop y s

mutual
def Nd.run : Nd → St → Out
  | .mk c k e vs ar .nil, s =>
    if c = 94 then .stop .ret ((s.comeBy k).destroyAll ar)
    else if c = 33 then .stop .fail ((s.comeBy k).destroyAll ar)
    else match vs with
      | [v] => (s.comeBy k).one k c v
      | [v, u] => (s.comeBy k).two k v u
      | _ => .go (s.comeBy k)
  | .mk c k e vs ar (.cons x .nil), s =>
    if c = 42 then loopRun (fun t => Nds.run x t) ((s.comeBy k).ch.length + 1) (s.comeBy k)
    else (Nds.run x (s.comeBy k)).andThen (fun t => .go ((t.comeBy (e - 1)).destroyAll vs))
  | .mk c k e vs ar (.cons x (.cons y _)), s =>
    match (s.comeBy k).choose 108 114 with
    | none => .stop (.stuck true) (s.comeBy k)
    | some (c', s') => if c' = 108 then Nds.run x s' else Nds.run y s'
def Nds.run : Nds → St → Out
  | .nil, s => .go s
  | .cons x r, s => (Nd.run x s).andThen (fun t => Nds.run r t)
end

def St.start (ch : List UInt8) : St := ⟨ch, fun _ => 0, 0, [], []⟩

def Out.st : Out → St
  | .go s => s
  | .stop _ s => s
/-- ExitNone, ExitEnd, ExitReturn, ExitFail, ExitFault. -/
def Out.exit : Out → Int
  | .go _ => 1
  | .stop .ret _ => 2
  | .stop .fail _ => 3
  | .stop (.fault _) _ => 4
  | .stop (.stuck _) _ => 0
def Out.faultAt : Out → Int
  | .stop (.fault k) _ => k
  | _ => -1
def Out.right (o : Out) : Bool := o.exit != 0 && o.st.ch.isEmpty

/-- A run of a text with choices, if the text is a program and the choices are not too many. -/
def runP (s ch : ByteArray) : Option Out :=
  match progP s with
  | none => none
  | some x => if 20 < ch.size then none else some (x.run (St.start ch.data.toList))

/-- What a run adds: choices are used up, and of everything no more than so many comes. -/
structure Adds (n : Nat) (s t : St) : Prop where
  ch : t.ch.length ≤ s.ch.length
  vis : t.vis.length + 2 * (n * t.ch.length) ≤ s.vis.length + 2 * n + 2 * (n * s.ch.length)
  ev : t.ev.length + 100 * s.vis.length ≤ s.ev.length + 100 * t.vis.length
  made : t.made + s.vis.length ≤ s.made + t.vis.length

/-- Nothing but events comes. -/
structure Evs (k : Nat) (s t : St) : Prop where
  ch : t.ch = s.ch
  vis : t.vis = s.vis
  made : t.made = s.made
  ev : t.ev.length ≤ s.ev.length + k

theorem Evs.refl (s : St) : Evs 0 s s := ⟨rfl, rfl, rfl, Nat.le_refl _⟩
theorem Evs.trans {a b : Nat} {s t u : St} (h : Evs a s t) (k : Evs b t u) : Evs (a + b) s u :=
  ⟨k.ch.trans h.ch, k.vis.trans h.vis, k.made.trans h.made, by have := h.ev; have := k.ev; omega⟩
theorem Evs.mono {a b : Nat} {s t : St} (h : Evs a s t) (hl : a ≤ b) : Evs b s t := ⟨h.ch, h.vis, h.made, by have := h.ev; omega⟩
theorem evs_destroy (s : St) (v : UInt8) : Evs 1 s (s.destroy v) := by
  unfold St.destroy
  split
  · exact (Evs.refl s).mono (by omega)
  · exact ⟨rfl, rfl, rfl, by simp [St.happen, St.put]⟩
theorem evs_destroyAll (s : St) : ∀ l : List UInt8, Evs l.length s (s.destroyAll l)
  | [] => Evs.refl s
  | v :: r => (evs_destroyAll s r).trans (evs_destroy _ v)

/-- A step that comes by, and then at most 99 events and one new value. -/
theorem adds_leaf {s t : St} {k : Nat} (hc : t.ch = s.ch) (hv : t.vis.length = s.vis.length + 1) (he : t.ev.length ≤ s.ev.length + 100) (hm : t.made ≤ s.made + 1) : Adds 1 s t :=
  ⟨by rw [hc]; exact Nat.le_refl _, by rw [hc, hv]; omega, by rw [hv]; omega, by rw [hv]; omega⟩

theorem Evs.leaf {s t : St} {k n : Nat} (h : Evs n (s.comeBy k) t) (hn : n ≤ 100) : Adds 1 s t :=
  adds_leaf (k := k) h.ch (by rw [h.vis]; simp [St.comeBy]) (by have := h.ev; simp [St.comeBy] at this; omega) (by rw [h.made]; simp [St.comeBy])

theorem one_adds (s : St) (k : Nat) (c v : UInt8) : Adds 1 s ((s.comeBy k).one k c v).st := by
  unfold St.one
  split
  · have h := evs_destroy (s.comeBy k) v
    refine adds_leaf (k := k) ?_ ?_ ?_ ?_
    · simp [Out.st, St.make, St.happen, St.put]; exact h.ch
    · simp [Out.st, St.make, St.happen, St.put]; rw [h.vis]; simp [St.comeBy]
    · simp [Out.st, St.make, St.happen, St.put]; have := h.ev; have e : (s.comeBy k).ev.length = s.ev.length := rfl; omega
    · simp [Out.st, St.make, St.happen, St.put]; rw [h.made]; simp [St.comeBy]
  split
  · split
    · exact ((Evs.refl (s.comeBy k)).leaf (by omega))
    · exact Evs.leaf (t := (s.comeBy k).happen 46 ((s.comeBy k).val v)) (n := 1) ⟨rfl, rfl, rfl, by simp [St.happen]⟩ (by omega)
  split
  · split
    · exact ((Evs.refl (s.comeBy k)).leaf (by omega))
    · exact (evs_destroy _ v).leaf (by omega)
  · exact (evs_destroy _ v).leaf (by omega)

theorem two_adds (s : St) (k : Nat) (v u : UInt8) : Adds 1 s ((s.comeBy k).two k v u).st := by
  unfold St.two
  split
  · exact (evs_destroy _ v).leaf (by omega)
  · have h := evs_destroy (s.comeBy k) v
    exact Evs.leaf (t := ((s.comeBy k).destroy v).move v u) (n := 1) ⟨h.ch, h.vis, h.made, h.ev⟩ (by omega)

theorem Adds.seq {n m : Nat} {s t u : St} (h : Adds n s t) (k : Adds m t u) : Adds (n + m) s u := by
  have h1 := h.vis
  have h2 := k.vis
  have c1 := Nat.mul_le_mul_left n k.ch
  have c2 := Nat.mul_le_mul_left m h.ch
  refine ⟨Nat.le_trans k.ch h.ch, ?_, by have := h.ev; have := k.ev; omega, by have := h.made; have := k.made; omega⟩
  rw [Nat.add_mul, Nat.add_mul]
  omega

theorem Adds.more {n m : Nat} {s t : St} (h : Adds n s t) (hm : n ≤ m) : Adds m s t := by
  obtain ⟨d, rfl⟩ := Nat.exists_eq_add_of_le hm
  have h1 := h.vis
  have c2 := Nat.mul_le_mul_left d h.ch
  refine ⟨h.ch, ?_, h.ev, h.made⟩
  rw [Nat.add_mul, Nat.add_mul]
  omega

theorem choose_some {s s' : St} {a b c : UInt8} (h : s.choose a b = some (c, s')) : s.ch = c :: s'.ch ∧ (c = a ∨ c = b) ∧ s' = { s with ch := s'.ch } := by
  unfold St.choose at h
  cases hc : s.ch with
  | nil => rw [hc] at h; cases h
  | cons x r =>
    rw [hc] at h
    simp only at h
    split at h
    · rename_i hx
      simp only [Option.some.injEq, Prod.mk.injEq] at h
      obtain ⟨rfl, rfl⟩ := h
      exact ⟨rfl, hx, rfl⟩
    · cases h

/-- What the rounds of a loop add. -/
structure Loops (n : Nat) (s t : St) : Prop where
  ch : t.ch.length ≤ s.ch.length
  vis : t.vis.length + 2 * (n * t.ch.length) ≤ s.vis.length + 2 * (n * s.ch.length)
  ev : t.ev.length + 100 * s.vis.length ≤ s.ev.length + 100 * t.vis.length
  made : t.made + s.vis.length ≤ s.made + t.vis.length

theorem Loops.refl (n : Nat) (s : St) : Loops n s s := ⟨Nat.le_refl _, Nat.le_refl _, Nat.le_refl _, Nat.le_refl _⟩

theorem loop_adds {body : St → Out} {n : Nat} (hb : ∀ s, Adds n s (body s).st) : ∀ (k : Nat) (s : St), Loops n s (loopRun body k s).st
  | 0, s => Loops.refl n s
  | k + 1, s => by
    unfold loopRun
    cases hc : s.choose 101 109 with
    | none => exact Loops.refl n s
    | some p =>
      obtain ⟨c, s'⟩ := p
      obtain ⟨h1, h2, h3⟩ := choose_some hc
      have hl : s.ch.length = s'.ch.length + 1 := by rw [h1]; simp
      have e1 : s'.vis = s.vis := by rw [h3]
      have e2 : s'.ev = s.ev := by rw [h3]
      have e3 : s'.made = s.made := by rw [h3]
      have hm : n * s.ch.length = n * s'.ch.length + n := by rw [hl, Nat.mul_succ]
      simp only
      split
      · have hbs := hb s'
        cases hbo : body s' with
        | go s2 =>
          rw [hbo] at hbs
          show Loops n s (loopRun body k s2).st
          have ih := loop_adds hb k s2
          simp only [Out.st] at hbs
          have a1 := hbs.vis
          have a2 := hbs.ev
          have a3 := hbs.made
          rw [e1] at a1 a2 a3
          rw [e2] at a2
          rw [e3] at a3
          exact ⟨by have := ih.ch; have := hbs.ch; omega, by have := ih.vis; omega, by have := ih.ev; omega, by have := ih.made; omega⟩
        | stop y s2 =>
          rw [hbo] at hbs
          simp only [Out.st] at hbs ⊢
          have a1 := hbs.vis
          have a2 := hbs.ev
          have a3 := hbs.made
          rw [e1] at a1 a2 a3
          rw [e2] at a2
          rw [e3] at a3
          exact ⟨by have := hbs.ch; omega, by omega, a2, a3⟩
      · simp only [Out.st]
        exact ⟨by omega, by rw [e1]; omega, by rw [e1, e2]; exact Nat.le_refl _, by rw [e1, e3]; exact Nat.le_refl _⟩

theorem andThen_adds {n m : Nat} {s : St} {o : Out} {f : St → Out} (h : Adds n s o.st) (k : ∀ t, Adds m t (f t).st) : Adds (n + m) s (o.andThen f).st := by
  cases o with
  | go t => exact Adds.seq h (k t)
  | stop y t => exact h.more (by omega)

theorem comeBy_adds (s : St) (k : Nat) : s.vis.length + 1 = (s.comeBy k).vis.length ∧ (s.comeBy k).ch = s.ch ∧ (s.comeBy k).ev = s.ev ∧ (s.comeBy k).made = s.made := by simp [St.comeBy]

mutual
theorem Nd.adds {b : ByteArray} (hb : b.size ≤ 80) : ∀ (x : Nd) (d : Nat) (s : St), x.Ok b d → Adds x.pre.len s (x.run s).st
  | .mk c k e vs ar .nil, d, s, hx => by
    have hg := hx.good
    have hroom := hg.room
    have hle := hg.le
    simp only [Nd.scope, Nd.vars, Nd.fin] at hroom hle
    have e1 : (Nd.mk c k e vs ar .nil).pre.len = 1 := rfl
    rw [e1]
    have h1 : Adds 1 s ((s.comeBy k).destroyAll ar) := (evs_destroyAll (s.comeBy k) ar).leaf (by omega)
    have h2 : Adds 1 s (s.comeBy k) := (Evs.refl (s.comeBy k)).leaf (by omega)
    rcases vs with _ | ⟨v, _ | ⟨u, _ | ⟨z, r⟩⟩⟩
    all_goals
      simp only [Nd.run]
      split
      · exact h1
      split
      · exact h1
    · exact h2
    · exact one_adds s k c v
    · exact two_adds s k v u
    · exact h2
  | .mk c k e vs ar (.cons x .nil), d, s, hx => by
    have hg := hx.good
    have hroom := hg.room
    have hle := hg.le
    simp only [Nd.scope, Nd.vars, Nd.fin] at hroom hle
    have hx' := hx
    simp only [Nd.Ok, Bds.Ok] at hx'
    have hxx := hx'.2.2.2.2.2.2.2.2.1
    have e1 : (Nd.mk c k e vs ar (.cons x .nil)).pre.len = x.pre.len + 1 := by simp [Nd.pre, Bds.pre, Nds.len, Nds.len_app]
    obtain ⟨c1, c2, c3, c4⟩ := comeBy_adds s k
    rw [e1, Nd.run]
    split
    · have hl := loop_adds (n := x.pre.len) (fun t => Nds.adds hb x _ _ t hxx) ((s.comeBy k).ch.length + 1) (s.comeBy k)
      generalize (loopRun (fun t => Nds.run x t) ((s.comeBy k).ch.length + 1) (s.comeBy k)).st = t at hl ⊢
      have h1 := hl.vis
      have h2 := hl.ev
      have h3 := hl.made
      have h4 := hl.ch
      rw [c2] at h1 h4
      rw [c3] at h2
      rw [c4] at h3
      refine ⟨h4, ?_, by omega, by omega⟩
      rw [Nat.add_mul, Nat.add_mul]
      omega
    · have hs := Nds.adds hb x _ _ (s.comeBy k) hxx
      cases ho : Nds.run x (s.comeBy k) with
      | go t =>
        rw [ho] at hs
        simp only [Out.st] at hs
        have hd := evs_destroyAll (t.comeBy (e - 1)) vs
        obtain ⟨d1, d2, d3, d4⟩ := comeBy_adds t (e - 1)
        have h1 := hs.vis
        have h2 := hs.ev
        have h3 := hs.made
        have h4 := hs.ch
        have h5 := hd.ev
        simp only [Out.andThen, Out.st]
        rw [c2] at h1 h4
        rw [c3] at h2
        rw [c4] at h3
        rw [d3] at h5
        refine ⟨by rw [hd.ch, d2]; exact h4, ?_, ?_, ?_⟩
        · rw [hd.ch, hd.vis, d2, ← d1, Nat.add_mul, Nat.add_mul]; omega
        · rw [hd.vis, ← d1]; omega
        · rw [hd.made, hd.vis, d4, ← d1]; omega
      | stop y t =>
        rw [ho] at hs
        simp only [Out.andThen, Out.st] at hs ⊢
        have h1 := hs.vis
        have h2 := hs.ev
        have h3 := hs.made
        have h4 := hs.ch
        rw [c2] at h1 h4
        rw [c3] at h2
        rw [c4] at h3
        refine ⟨h4, ?_, by omega, by omega⟩
        rw [Nat.add_mul, Nat.add_mul]; omega
  | .mk c k e vs ar (.cons x (.cons y r)), d, s, hx => by
    have hx' := hx
    simp only [Nd.Ok, Bds.Ok] at hx'
    have hxx := hx'.2.2.2.2.2.2.2.2.1
    have hyy := hx'.2.2.2.2.2.2.2.2.2.1
    have e1 : (Nd.mk c k e vs ar (.cons x (.cons y r))).pre.len = x.pre.len + (y.pre.len + r.pre.len) + 1 := by simp [Nd.pre, Bds.pre, Nds.len, Nds.len_app]
    obtain ⟨c1, c2, c3, c4⟩ := comeBy_adds s k
    rw [e1, Nd.run]
    cases hc : (s.comeBy k).choose 108 114 with
    | none => exact (((Evs.refl (s.comeBy k)).leaf (by omega)).more (by omega))
    | some p =>
      obtain ⟨c', s'⟩ := p
      obtain ⟨h1, _, h3⟩ := choose_some hc
      have hl : s.ch.length = s'.ch.length + 1 := by rw [← c2, h1]; simp
      have f1 : s'.vis = (s.comeBy k).vis := by rw [h3]
      have f2 : s'.ev = s.ev := by rw [h3]; exact c3
      have f3 : s'.made = s.made := by rw [h3]; exact c4
      have hst : Adds 1 s s' := ⟨by omega, by rw [f1, ← c1]; omega, by rw [f1, f2, ← c1]; omega, by rw [f1, f3, ← c1]; omega⟩
      simp only
      split
      · have := hst.seq (Nds.adds hb x _ _ s' hxx); exact this.more (by omega)
      · have := hst.seq (Nds.adds hb y _ _ s' hyy); exact this.more (by omega)
theorem Nds.adds {b : ByteArray} (hb : b.size ≤ 80) : ∀ (x : Nds) (sc : List UInt8) (d : Nat) (s : St), x.Ok b sc d → Adds x.pre.len s (Nds.run x s).st
  | .nil, sc, d, s, hx => by rw [Nds.run]; exact ⟨Nat.le_refl _, by simp [Nds.pre, Nds.len, Out.st], Nat.le_refl _, Nat.le_refl _⟩
  | .cons x r, sc, d, s, hx => by
    simp only [Nds.Ok] at hx
    have e1 : (Nds.cons x r).pre.len = x.pre.len + r.pre.len := by simp [Nds.pre, Nds.len_app]
    rw [e1, Nds.run]
    exact andThen_adds (Nd.adds hb x d s hx.2.1) (fun t => Nds.adds hb r sc d t hx.2.2)
end

end Go.Proofs.YtkfcgamdlckncaaGreat

namespace Go.Proofs.YtkfcgamdlckncaaGreat
set_option linter.unusedVariables false
set_option linter.unusedSimpArgs false

/-- What a run holds lies in the scope. -/
def Held (s : St) (sc : List UInt8) : Prop := ∀ v, s.val v ≠ 0 → v ∈ sc

mutual
/-- Steps of a program are of these kinds, and what stands in them is in their scope. -/
def Nd.Fit : Nd → Prop
  | .mk c k e vs ar .nil => ((c = 43 ∨ c = 46 ∨ c = 45 ∨ c = 126) ∧ ∃ v, vs = [v] ∧ v ∈ ar) ∨ (c = 61 ∧ ∃ v u, vs = [v, u] ∧ v ∈ ar ∧ u ∈ ar) ∨ ((c = 94 ∨ c = 33) ∧ vs = [])
  | .mk c k e vs ar (.cons x .nil) => ((c = 42 ∧ vs = []) ∨ c = 123) ∧ x.Fit
  | .mk c k e vs ar (.cons x (.cons y .nil)) => c = 63 ∧ vs = [] ∧ x.Fit ∧ y.Fit
  | .mk _ _ _ _ _ (.cons _ (.cons _ (.cons _ _))) => False
def Nds.Fit : Nds → Prop
  | .nil => True
  | .cons x r => x.Fit ∧ r.Fit
end

structure ReadsFit (s : ByteArray) (n : Nat) : Prop where
  step : ∀ ar d k x k2, stepP s n ar d k = some (x, k2) → x.Fit
  scope : ∀ ar d k x k2, scopeP s n ar d k = some (x, k2) → x.Fit
  brack : ∀ ar d k x k2, brackP s n ar d k = some (x, k2) → x.Fit
  steps : ∀ ar d e k x k2, stepsP s n ar d e k = some (x, k2) → x.Fit

theorem readsFit (s : ByteArray) : ∀ n, ReadsFit s n
  | 0 => ⟨fun _ _ _ _ _ h => by simp [stepP] at h, fun _ _ _ _ _ h => by simp [scopeP] at h, fun _ _ _ _ _ h => by simp [brackP] at h, fun _ _ _ _ _ _ h => by simp [stepsP] at h⟩
  | n + 1 => by
    have ih := readsFit s n
    constructor
    · intro ar d k x k2 h
      rw [stepP] at h
      cases hc : at? s k with
      | none => rw [hc] at h; cases h
      | some c =>
        simp only [hc] at h
        split at h
        · rename_i hcc
          split at h
          · cases h
          · rename_i v k1 hv
            obtain ⟨_, _, hm⟩ := varP_some hv
            simp only [Option.some.injEq, Prod.mk.injEq] at h
            rw [← h.1]
            simp only [Nd.Fit]
            exact .inl ⟨hcc, v, rfl, hm⟩
        split at h
        · rename_i hcc
          split at h
          · cases h
          · rename_i v u k1 hv
            obtain ⟨k0, h1, h2, _⟩ := moveP_some hv
            obtain ⟨_, _, hm1⟩ := varP_some h1
            obtain ⟨_, _, hm2⟩ := varP_some h2
            simp only [Option.some.injEq, Prod.mk.injEq] at h
            rw [← h.1]
            simp only [Nd.Fit]
            exact .inr (.inl ⟨hcc, v, u, rfl, hm1, hm2⟩)
        split at h
        · rename_i hcc
          simp only [Option.some.injEq, Prod.mk.injEq] at h
          rw [← h.1]
          simp only [Nd.Fit]
          exact .inr (.inr ⟨hcc, trivial⟩)
        split at h
        · rename_i hcc
          split at h
          · cases h
          · rename_i x1 k1 h1
            split at h
            · cases h
            · rename_i x2 k2' h2
              have i1 := ih.brack _ _ _ _ _ h1
              have i2 := ih.brack _ _ _ _ _ h2
              simp only [Option.some.injEq, Prod.mk.injEq] at h
              rw [← h.1]
              simp only [Nd.Fit]
              exact ⟨hcc, trivial, i1, i2⟩
        split at h
        · rename_i hcc
          split at h
          · cases h
          · rename_i x1 k1 h1
            have i1 := ih.brack _ _ _ _ _ h1
            simp only [Option.some.injEq, Prod.mk.injEq] at h
            rw [← h.1]
            simp only [Nd.Fit]
            exact ⟨.inl ⟨hcc, trivial⟩, i1⟩
        split at h
        · exact ih.scope _ _ _ _ _ h
        · cases h
    · intro ar d k x k2 h
      rw [scopeP] at h
      split at h
      · cases h
      · split at h
        · cases h
        · split at h
          · cases h
          · rename_i x1 k2' h2
            have i2 := ih.steps _ _ _ _ _ _ h2
            simp only [Option.some.injEq, Prod.mk.injEq] at h
            rw [← h.1]
            simp only [Nd.Fit]
            exact ⟨.inr trivial, i2⟩
    · intro ar d k x k2 h
      rw [brackP] at h
      split at h
      · cases h
      · exact ih.steps _ _ _ _ _ _ h
    · intro ar d e k x k2 h
      rw [stepsP] at h
      split at h
      · simp only [Option.some.injEq, Prod.mk.injEq] at h
        rw [← h.1]
        trivial
      · split at h
        · cases h
        · rename_i x1 k1 h1
          have i1 := ih.step _ _ _ _ _ h1
          split at h
          · cases h
          · rename_i r k2' h2
            have i2 := ih.steps _ _ _ _ _ _ h2
            simp only [Option.some.injEq, Prod.mk.injEq] at h
            rw [← h.1]
            exact ⟨i1, i2⟩

theorem progP_fit {s : ByteArray} {x : Nd} (h : progP s = some x) : x.Fit := by
  unfold progP at h
  split at h
  · cases h
  · split at h
    · split at h
      · cases h
      · rename_i y k hy
        split at h
        · have e := Option.some.inj h
          rw [← e]
          exact (readsFit s (8 * s.size + 8)).scope _ _ _ _ _ hy
        · cases h
    · cases h

theorem Held.of_val {s t : St} {sc : List UInt8} (h : Held s sc) (e : ∀ v, t.val v ≠ 0 → s.val v ≠ 0) : Held t sc := fun v hv => h v (e v hv)
theorem Held.more {s : St} {sc sc' : List UInt8} (h : Held s sc) (e : ∀ v ∈ sc, v ∈ sc') : Held s sc' := fun v hv => e v (h v hv)

theorem destroy_val (s : St) (v u : UInt8) : (s.destroy v).val u = if u = v then 0 else s.val u := by
  unfold St.destroy
  split
  · rename_i h
    split
    · rename_i e; subst e; exact h
    · rfl
  · rfl

theorem destroyAll_val (s : St) : ∀ (l : List UInt8) (u : UInt8), (s.destroyAll l).val u = if u ∈ l then 0 else s.val u
  | [], u => by simp [St.destroyAll]
  | v :: r, u => by
    rw [St.destroyAll, destroy_val, destroyAll_val s r u]
    by_cases h : u = v
    · simp [h]
    · by_cases h2 : u ∈ r
      · simp [h, h2]
      · simp [h, h2]

theorem Held.destroy {s : St} {sc : List UInt8} (h : Held s sc) (v : UInt8) : Held (s.destroy v) sc := by
  intro u hu
  rw [destroy_val] at hu
  split at hu
  · exact absurd rfl hu
  · exact h u hu

theorem Held.one {s t : St} {sc : List UInt8} {k : Nat} {c v : UInt8} (h : Held s sc) (hv : v ∈ sc) (e : s.one k c v = .go t) : Held t sc := by
  unfold St.one at e
  split at e
  · injection e with e
    subst e
    intro u hu
    by_cases huv : u = v
    · subst huv; exact hv
    · have : ((s.destroy v).make v).val u = (s.destroy v).val u := by simp [St.make, St.happen, St.put, huv]
      rw [this] at hu
      exact h.destroy v u hu
  split at e
  · split at e
    · cases e
    · injection e with e; subst e; exact fun u hu => h u hu
  split at e
  · split at e
    · cases e
    · injection e with e; subst e; exact h.destroy v
  · injection e with e; subst e; exact h.destroy v

theorem Held.two {s t : St} {sc : List UInt8} {k : Nat} {v u : UInt8} (h : Held s sc) (hv : v ∈ sc) (e : s.two k v u = .go t) : Held t sc := by
  unfold St.two at e
  split at e
  · cases e
  · injection e with e
    subst e
    intro z hz
    by_cases hzv : z = v
    · subst hzv; exact hv
    · refine h.destroy v z ?_
      simp only [St.move, St.put, if_neg hzv] at hz
      split at hz
      · exact absurd rfl hz
      · try rw [if_neg hzv] at hz
        exact hz

theorem Held.loop {body : St → Out} {sc : List UInt8} (hb : ∀ s t, Held s sc → body s = .go t → Held t sc) : ∀ (n : Nat) (s t : St), Held s sc → loopRun body n s = .go t → Held t sc
  | 0, s, t, _, e => by simp [loopRun] at e
  | n + 1, s, t, h, e => by
    rw [loopRun] at e
    cases hc : s.choose 101 109 with
    | none => rw [hc] at e; cases e
    | some p =>
      obtain ⟨c, s'⟩ := p
      rw [hc] at e
      simp only at e
      obtain ⟨_, _, h3⟩ := choose_some hc
      have hs' : Held s' sc := by rw [h3]; exact h
      split at e
      · cases hb2 : body s' with
        | stop y t2 => rw [hb2] at e; cases e
        | go t2 =>
          rw [hb2] at e
          exact Held.loop hb n t2 t (hb _ _ hs' hb2) e
      · injection e with e
        subst e
        exact hs'

mutual
theorem Nd.held {b : ByteArray} : ∀ (x : Nd) (d : Nat) (s t : St), x.Ok b d → x.Fit → Held s x.scope → x.run s = .go t → Held t x.scope
  | .mk c k e vs ar .nil, d, s, t, ho, hx, h, hr => by
    simp only [Nd.Fit] at hx
    simp only [Nd.scope] at h ⊢
    have h1 : Held (s.comeBy k) ar := h
    rcases hx with ⟨hc, v, rfl, hv⟩ | ⟨rfl, v, u, rfl, hv, hu⟩ | ⟨hc, rfl⟩
    · rw [Nd.run, if_neg (by rcases hc with h | h | h | h <;> rw [h] <;> decide), if_neg (by rcases hc with h | h | h | h <;> rw [h] <;> decide)] at hr
      exact h1.one hv hr
    · exact h1.two hv hr
    · rcases hc with rfl | rfl <;> cases hr
  | .mk c k e vs ar (.cons x .nil), d, s, t, ho, hx, h, hr => by
    simp only [Nd.Fit] at hx
    simp only [Nd.scope] at h ⊢
    simp only [Nd.Ok, Bds.Ok] at ho
    have hox := ho.2.2.2.2.2.2.2.2.1
    have h1 : Held (s.comeBy k) ar := h
    obtain ⟨hc, hxx⟩ := hx
    rcases hc with ⟨rfl, rfl⟩ | rfl
    · rw [List.append_nil] at hox
      exact Held.loop (fun s t => Nds.held x ar _ s t hox hxx) _ _ _ h1 hr
    · have hr' : (Nds.run x (s.comeBy k)).andThen (fun t => .go ((t.comeBy (e - 1)).destroyAll vs)) = .go t := hr
      cases hb : Nds.run x (s.comeBy k) with
      | stop y t2 => rw [hb] at hr'; cases hr'
      | go t2 =>
        rw [hb] at hr'
        have ih := Nds.held x (ar ++ vs) _ _ t2 hox hxx (h1.more (fun v hv => List.mem_append_left _ hv)) hb
        simp only [Out.andThen] at hr'
        injection hr' with hr'
        subst hr'
        intro u hu
        rw [destroyAll_val] at hu
        split at hu
        · exact absurd rfl hu
        · rename_i hn
          rcases List.mem_append.1 (ih u hu) with h | h
          · exact h
          · exact absurd h hn
  | .mk c k e vs ar (.cons x (.cons y .nil)), d, s, t, ho, hx, h, hr => by
    simp only [Nd.Fit] at hx
    simp only [Nd.Ok, Bds.Ok] at ho
    have hox := ho.2.2.2.2.2.2.2.2.1
    have hoy := ho.2.2.2.2.2.2.2.2.2.1
    obtain ⟨rfl, rfl, hxx, hyy⟩ := hx
    rw [List.append_nil] at hox hoy
    simp only [Nd.scope] at h ⊢
    have h1 : Held (s.comeBy k) ar := h
    rw [Nd.run] at hr
    cases hc : (s.comeBy k).choose 108 114 with
    | none => rw [hc] at hr; cases hr
    | some p =>
      obtain ⟨c', s'⟩ := p
      rw [hc] at hr
      simp only at hr
      obtain ⟨_, _, h3⟩ := choose_some hc
      have hs' : Held s' ar := by rw [h3]; exact h1
      split at hr
      · exact Nds.held x ar _ _ _ hox hxx hs' hr
      · exact Nds.held y ar _ _ _ hoy hyy hs' hr
  | .mk _ _ _ _ _ (.cons _ (.cons _ (.cons _ _))), d, s, t, ho, hx, h, hr => by simp only [Nd.Fit] at hx
theorem Nds.held {b : ByteArray} : ∀ (x : Nds) (sc : List UInt8) (d : Nat) (s t : St), x.Ok b sc d → x.Fit → Held s sc → Nds.run x s = .go t → Held t sc
  | .nil, sc, d, s, t, ho, hx, h, hr => by
    rw [Nds.run] at hr
    injection hr with hr
    subst hr
    exact h
  | .cons x r, sc, d, s, t, ho, hx, h, hr => by
    simp only [Nds.Ok] at ho
    simp only [Nds.Fit] at hx
    rw [Nds.run] at hr
    cases hb : x.run s with
    | stop y t2 => rw [hb] at hr; cases hr
    | go t2 =>
      rw [hb] at hr
      have ih := Nd.held x d s t2 ho.2.1 hx.1 (by rw [ho.1]; exact h) hb
      rw [ho.1] at ih
      exact Nds.held r sc d t2 t ho.2.2 hx.2 ih hr
end

/-! ### Names. -/
def abc : List UInt8 := [97, 98, 99, 100, 101, 102]
/-- The variables that hold a value, in order. -/
def namesOf (f : UInt8 → Nat) : List UInt8 := abc.filter (fun v => f v != 0)
/-- The letters of a text, each once and in order. -/
def sortedOf (l : List UInt8) : List UInt8 := abc.filter (fun v => l.contains v)
/-- What of a scope holds a value. -/
def heldIn (f : UInt8 → Nat) (sc : List UInt8) : List UInt8 := sc.filter (fun v => f v != 0)

theorem names_eq {s : St} {sc : List UInt8} (h : Held s sc) : sortedOf (heldIn s.val sc) = namesOf s.val := by
  unfold sortedOf namesOf
  refine List.filter_congr (fun v _ => ?_)
  rw [Bool.eq_iff_iff]
  simp only [List.contains_iff_mem, heldIn, List.mem_filter, bne_iff_ne, ne_eq]
  exact ⟨fun h => h.2, fun h2 => ⟨h v h2, h2⟩⟩

/-! ### The text of events. -/
def evWord (p : UInt8 × Nat) : List UInt8 := p.1 :: Lib.decDigits p.2
def addWord (t w : List UInt8) : List UInt8 := (if t = [] then [] else t ++ [32]) ++ w
def evText (l : List (UInt8 × Nat)) : List UInt8 := l.foldl (fun t p => addWord t (evWord p)) []
theorem evText_snoc (l : List (UInt8 × Nat)) (p : UInt8 × Nat) : evText (l ++ [p]) = addWord (evText l) (evWord p) := by
  unfold evText; rw [List.foldl_append]; rfl

/-- A step behind where it comes by. -/
def Nd.act : Nd → St → Out
  | .mk c k e vs ar .nil, t =>
    if c = 94 then .stop .ret (t.destroyAll ar)
    else if c = 33 then .stop .fail (t.destroyAll ar)
    else match vs with
      | [v] => t.one k c v
      | [v, u] => t.two k v u
      | _ => .go t
  | .mk c k e vs ar (.cons x .nil), t =>
    if c = 42 then loopRun (fun t => Nds.run x t) (t.ch.length + 1) t
    else (Nds.run x t).andThen (fun t => .go ((t.comeBy (e - 1)).destroyAll vs))
  | .mk c k e vs ar (.cons x (.cons y _)), t =>
    match t.choose 108 114 with
    | none => .stop (.stuck true) t
    | some (c', s') => if c' = 108 then Nds.run x s' else Nds.run y s'

theorem Nd.run_act (x : Nd) (s : St) : x.run s = x.act (s.comeBy x.beg) := by
  rcases x with ⟨c, k, e, vs, ar, _ | ⟨x, _ | ⟨y, r⟩⟩⟩
  · rcases vs with _ | ⟨v, _ | ⟨u, _ | ⟨z, l⟩⟩⟩ <;> rfl
  · rfl
  · rfl

end Go.Proofs.YtkfcgamdlckncaaGreat
