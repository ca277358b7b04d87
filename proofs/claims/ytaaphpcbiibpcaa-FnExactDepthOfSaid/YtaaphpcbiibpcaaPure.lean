/-
  The grammar of programs as plain functions: nothing of the translation is imported.
-/
namespace Go.Proofs.Ytaaphpcbiibpcaa
set_option linter.unusedVariables false
set_option linter.unusedSimpArgs false

/-- A byte of a text. -/
def at? (s : ByteArray) (k : Nat) : Option UInt8 := if h : k < s.size then some (s[k]) else none

theorem at?_some {s : ByteArray} {k : Nat} (h : k < s.size) : at? s k = some s[k] := by simp [at?, h]
theorem at?_none {s : ByteArray} {k : Nat} (h : s.size ≤ k) : at? s k = none := by simp [at?, Nat.not_lt.2 h]
theorem at?_lt {s : ByteArray} {k : Nat} {c : UInt8} (h : at? s k = some c) : k < s.size := by
  unfold at? at h; split at h; assumption; cases h
theorem at?_get {s : ByteArray} {k : Nat} {c : UInt8} (h : at? s k = some c) (hk : k < s.size) : s[k] = c := by
  rw [at?_some hk] at h; exact Option.some.inj h

mutual
/-- A step: its kind, where it begins and ends, its variables, the variables around it, what stands within it. -/
inductive Nd where
  | mk (kind : UInt8) (beg fin : Nat) (vars scope : List UInt8) (bodies : Bds)
inductive Nds where
  | nil
  | cons (x : Nd) (r : Nds)
inductive Bds where
  | nil
  | cons (x : Nds) (r : Bds)
end

/-- A variable out of 'ar' at byte k. -/
def varP (s : ByteArray) (ar : List UInt8) (k : Nat) : Option (UInt8 × Nat) :=
  match at? s k with
  | none => none
  | some c => if c ∈ ar then some (c, k + 1) else none

/-- The two variables of a move. -/
def moveP (s : ByteArray) (ar : List UInt8) (k : Nat) : Option (UInt8 × UInt8 × Nat) :=
  match varP s ar k with
  | none => none
  | some (v, k1) =>
    match varP s ar k1 with
    | none => none
    | some (u, k2) => if v = u then none else some (v, u, k2)

theorem varP_some {s : ByteArray} {ar : List UInt8} {k : Nat} {v : UInt8} {k1 : Nat} (h : varP s ar k = some (v, k1)) : k1 = k + 1 ∧ k < s.size ∧ v ∈ ar := by
  unfold varP at h
  split at h
  · cases h
  · rename_i c hc
    split at h
    · rename_i hm
      simp only [Option.some.injEq, Prod.mk.injEq] at h
      exact ⟨h.2.symm, at?_lt hc, h.1 ▸ hm⟩
    · cases h

theorem moveP_some {s : ByteArray} {ar : List UInt8} {k : Nat} {v u : UInt8} {k2 : Nat} (h : moveP s ar k = some (v, u, k2)) : ∃ k1, varP s ar k = some (v, k1) ∧ varP s ar k1 = some (u, k2) ∧ v ≠ u := by
  unfold moveP at h
  split at h
  · cases h
  · rename_i v' k1 h1
    split at h
    · cases h
    · rename_i u' k2' h2
      split at h
      · cases h
      · rename_i hne
        simp only [Option.some.injEq, Prod.mk.injEq] at h
        obtain ⟨rfl, rfl, rfl⟩ := h
        exact ⟨k1, h1, h2, hne⟩

theorem moveP_none {s : ByteArray} {ar : List UInt8} {k : Nat} (h : moveP s ar k = none) : varP s ar k = none ∨ (∃ v k1, varP s ar k = some (v, k1) ∧ varP s ar k1 = none) ∨ (∃ v k1 k2, varP s ar k = some (v, k1) ∧ varP s ar k1 = some (v, k2)) := by
  unfold moveP at h
  split at h
  · rename_i h1; exact .inl h1
  · rename_i v k1 h1
    split at h
    · rename_i h2; exact .inr (.inl ⟨v, k1, h1, h2⟩)
    · rename_i u k2 h2
      split at h
      · rename_i he; subst he; exact .inr (.inr ⟨v, k1, k2, h1, h2⟩)
      · cases h

/-- The variables that a scope declares, and the colon behind them. -/
def declP (s : ByteArray) : Nat → List UInt8 → List UInt8 → Nat → Option (List UInt8 × Nat)
  | 0, _, _, _ => none
  | n + 1, ar, out, k =>
    match at? s k with
    | none => none
    | some c =>
      if c = 58 ∧ out ≠ [] then some (out, k + 1)
      else if 97 ≤ c ∧ c ≤ 102 ∧ c ∉ ar ++ out then declP s n ar (out ++ [c]) (k + 1)
      else none

/-- The byte c at k. -/
def isP (s : ByteArray) (c : UInt8) (k : Nat) : Option Nat := if at? s k = some c then some (k + 1) else none

mutual
def stepP (s : ByteArray) : Nat → List UInt8 → Nat → Nat → Option (Nd × Nat)
  | 0, _, _, _ => none
  | n + 1, ar, d, k =>
    match at? s k with
    | none => none
    | some c =>
      if c = 43 ∨ c = 46 ∨ c = 45 ∨ c = 126 then
        match varP s ar (k + 1) with
        | none => none
        | some (v, k1) => some (.mk c k k1 [v] ar .nil, k1)
      else if c = 61 then
        match moveP s ar (k + 1) with
        | none => none
        | some (v, u, k2) => some (.mk c k k2 [v, u] ar .nil, k2)
      else if c = 94 ∨ c = 33 then some (.mk c k (k + 1) [] ar .nil, k + 1)
      else if c = 63 then
        match brackP s n ar d (k + 1) with
        | none => none
        | some (x, k1) =>
          match brackP s n ar d k1 with
          | none => none
          | some (y, k2) => some (.mk c k k2 [] ar (.cons x (.cons y .nil)), k2)
      else if c = 42 then
        match brackP s n ar d (k + 1) with
        | none => none
        | some (x, k1) => some (.mk c k k1 [] ar (.cons x .nil), k1)
      else if c = 123 then scopeP s n ar d k
      else none
/-- A scope, its opening brace at k. -/
def scopeP (s : ByteArray) : Nat → List UInt8 → Nat → Nat → Option (Nd × Nat)
  | 0, _, _, _ => none
  | n + 1, ar, d, k =>
    if 4 ≤ d then none
    else
      match declP s (s.size + 1) ar [] (k + 1) with
      | none => none
      | some (vs, k1) =>
        match stepsP s n (ar ++ vs) (d + 1) 125 k1 with
        | none => none
        | some (x, k2) => some (.mk 123 k k2 vs ar (.cons x .nil), k2)
/-- An opening bracket, steps, a closing one. -/
def brackP (s : ByteArray) : Nat → List UInt8 → Nat → Nat → Option (Nds × Nat)
  | 0, _, _, _ => none
  | n + 1, ar, d, k =>
    match isP s 91 k with
    | none => none
    | some k1 => stepsP s n ar d 93 k1
/-- Steps up to a closing byte. -/
def stepsP (s : ByteArray) : Nat → List UInt8 → Nat → UInt8 → Nat → Option (Nds × Nat)
  | 0, _, _, _, _ => none
  | n + 1, ar, d, e, k =>
    if at? s k = some e then some (.nil, k + 1)
    else
      match stepP s n ar d k with
      | none => none
      | some (x, k1) =>
        match stepsP s n ar d e k1 with
        | none => none
        | some (r, k2) => some (.cons x r, k2)
end

/-- A program. -/
def progP (s : ByteArray) : Option Nd :=
  if s.size > 80 then none
  else if at? s 0 = some 123 then
    match scopeP s (8 * s.size + 8) [] 0 0 with
    | none => none
    | some (x, k) => if k = s.size then some x else none
  else none

end Go.Proofs.Ytaaphpcbiibpcaa
