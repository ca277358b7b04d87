/-
  The steps of a tree with the number of scopes around each; what every step of a program is good for. Nothing of the translation is imported.
-/
import Derived.Test.YtaaphpcbiibpcaaEa
namespace Go.Proofs.Ytaaphpcbiibpcaa
set_option linter.unusedVariables false
set_option linter.unusedSimpArgs false

def Nd.beg : Nd → Nat | .mk _ k _ _ _ _ => k
def Nd.kind : Nd → UInt8 | .mk c _ _ _ _ _ => c
def Nd.fin : Nd → Nat | .mk _ _ e _ _ _ => e
def Nd.vars : Nd → List UInt8 | .mk _ _ _ vs _ _ => vs
def Nd.scope : Nd → List UInt8 | .mk _ _ _ _ ar _ => ar
def Nd.bodies : Nd → Bds | .mk _ _ _ _ _ bs => bs
def Nds.list : Nds → List Nd | .nil => [] | .cons x r => x :: r.list
theorem Nds.list_app : ∀ x y : Nds, (x.app y).list = x.list ++ y.list
  | .nil, _ => rfl
  | .cons x r, y => by simp [Nds.app, Nds.list, Nds.list_app r y]
theorem Nds.list_len : ∀ x : Nds, x.list.length = x.len
  | .nil => rfl
  | .cons x r => by simp [Nds.list, Nds.len, Nds.list_len r]

/-- A step and the number of scopes around it. -/
abbrev PN := Nd × Nat

/-- How many scopes are around what stands in a step of kind c. -/
def inD (c : UInt8) (d : Nat) : Nat := if c = 123 then d + 1 else d

mutual
def Nd.preD : Nd → Nat → List PN
  | .mk c k e vs ar bs, d => (.mk c k e vs ar bs, d) :: bs.preD (inD c d)
def Nds.preD : Nds → Nat → List PN
  | .nil, _ => []
  | .cons x r, d => x.preD d ++ r.preD d
def Bds.preD : Bds → Nat → List PN
  | .nil, _ => []
  | .cons x r, d => x.preD d ++ r.preD d
end

mutual
theorem Nd.preD_fst : ∀ (x : Nd) (d : Nat), (x.preD d).map Prod.fst = x.pre.list
  | .mk c k e vs ar bs, d => by simp [Nd.preD, Nd.pre, Nds.list, Bds.preD_fst bs]
theorem Nds.preD_fst : ∀ (x : Nds) (d : Nat), (x.preD d).map Prod.fst = x.pre.list
  | .nil, _ => rfl
  | .cons x r, d => by simp [Nds.preD, Nds.pre, Nds.list_app, Nd.preD_fst x, Nds.preD_fst r]
theorem Bds.preD_fst : ∀ (x : Bds) (d : Nat), (x.preD d).map Prod.fst = x.pre.list
  | .nil, _ => rfl
  | .cons x r, d => by simp [Bds.preD, Bds.pre, Nds.list_app, Nds.preD_fst x, Bds.preD_fst r]
end

theorem Nd.preD_len (x : Nd) (d : Nat) : (x.preD d).length = x.pre.len := by
  rw [← Nds.list_len, ← Nd.preD_fst x d, List.length_map]

/-- The steps of all bodies. -/
def Bds.kids : Bds → List Nd
  | .nil => []
  | .cons x r => x.list ++ r.kids

theorem Nds.preD_eq : ∀ (x : Nds) (d : Nat), x.preD d = x.list.flatMap (fun z => z.preD d)
  | .nil, _ => rfl
  | .cons x r, d => by simp [Nds.preD, Nds.list, Nds.preD_eq r]
theorem Bds.preD_eq : ∀ (x : Bds) (d : Nat), x.preD d = x.kids.flatMap (fun z => z.preD d)
  | .nil, _ => rfl
  | .cons x r, d => by simp [Bds.preD, Bds.kids, Nds.preD_eq x, Bds.preD_eq r]
theorem Nd.preD_eq (x : Nd) (d : Nat) : x.preD d = (x, d) :: x.bodies.kids.flatMap (fun z => z.preD (inD x.kind d)) := by
  cases x; simp [Nd.preD, Nd.bodies, Nd.kind, Bds.preD_eq]

theorem flat_len (d : Nat) : ∀ l : List Nd, l.length ≤ (l.flatMap (fun z => z.preD d)).length
  | [] => Nat.le_refl _
  | z :: r => by
    have := flat_len d r
    cases z with
    | mk c k e vs ar bs =>
      simp only [List.flatMap_cons, List.length_append, Nd.preD, List.length_cons]; omega
theorem flat_mem (d : Nat) {z : Nd} : ∀ {l : List Nd}, z ∈ l → (z.preD d).length ≤ (l.flatMap (fun z => z.preD d)).length
  | y :: r, h => by
    rcases List.mem_cons.1 h with rfl | h
    · simp
    · have := flat_mem d h
      simp only [List.flatMap_cons, List.length_append]; omega
theorem kid_small {x z : Nd} (hz : z ∈ x.bodies.kids) : z.pre.len < x.pre.len := by
  have h := congrArg List.length (Nd.preD_eq x 0)
  have h2 := flat_mem (inD x.kind 0) hz
  rw [Nd.preD_len] at h h2
  simp only [List.length_cons] at h
  omega
theorem kids_len (x : Nd) : x.bodies.kids.length < x.pre.len := by
  have h := congrArg List.length (Nd.preD_eq x 0)
  have h2 := flat_len (inD x.kind 0) x.bodies.kids
  rw [Nd.preD_len] at h
  simp only [List.length_cons] at h
  omega

mutual
/-- What every step of a program is good for: d scopes are around it. -/
def Nd.Ok (s : ByteArray) : Nd → Nat → Prop
  | .mk c k e vs ar bs, d => at? s k = some c ∧ k < e ∧ e ≤ s.size ∧ ar.length + vs.length ≤ e ∧ ar.length ≤ k ∧ d ≤ 4 ∧ inD c d ≤ 4 ∧ (c = 123 ∨ bs = .nil ∨ vs = []) ∧ bs.Ok s (ar ++ vs) (inD c d)
def Nds.Ok (s : ByteArray) : Nds → List UInt8 → Nat → Prop
  | .nil, _, _ => True
  | .cons x r, sc, d => x.scope = sc ∧ x.Ok s d ∧ r.Ok s sc d
def Bds.Ok (s : ByteArray) : Bds → List UInt8 → Nat → Prop
  | .nil, _, _ => True
  | .cons x r, sc, d => x.Ok s sc d ∧ r.Ok s sc d
end

theorem Nds.Ok.mem {s : ByteArray} {sc : List UInt8} {d : Nat} : ∀ {x : Nds}, x.Ok s sc d → ∀ z ∈ x.list, z.scope = sc ∧ z.Ok s d
  | .nil, _, z, hz => by cases hz
  | .cons x r, h, z, hz => by
    simp only [Nds.Ok] at h
    rcases List.mem_cons.1 hz with rfl | hz
    · exact ⟨h.1, h.2.1⟩
    · exact Nds.Ok.mem h.2.2 z hz
theorem Bds.Ok.mem {s : ByteArray} {sc : List UInt8} {d : Nat} : ∀ {x : Bds}, x.Ok s sc d → ∀ z ∈ x.kids, z.scope = sc ∧ z.Ok s d
  | .nil, _, z, hz => by cases hz
  | .cons x r, h, z, hz => by
    simp only [Bds.Ok] at h
    rcases List.mem_append.1 hz with hz | hz
    · exact Nds.Ok.mem h.1 z hz
    · exact Bds.Ok.mem h.2 z hz

mutual
theorem Nd.Ok.all {s : ByteArray} : ∀ (x : Nd) (d : Nat), x.Ok s d → ∀ p ∈ x.preD d, p.1.Ok s p.2
  | .mk c k e vs ar bs, d, h, p, hp => by
    simp only [Nd.preD, List.mem_cons] at hp
    rcases hp with rfl | hp
    · exact h
    · simp only [Nd.Ok] at h
      exact Bds.Ok.all bs _ _ h.2.2.2.2.2.2.2.2 p hp
theorem Nds.Ok.all {s : ByteArray} : ∀ (x : Nds) (sc : List UInt8) (d : Nat), x.Ok s sc d → ∀ p ∈ x.preD d, p.1.Ok s p.2
  | .nil, _, _, _, p, hp => by simp [Nds.preD] at hp
  | .cons x r, sc, d, h, p, hp => by
    simp only [Nds.Ok] at h
    simp only [Nds.preD, List.mem_append] at hp
    rcases hp with hp | hp
    · exact Nd.Ok.all x d h.2.1 p hp
    · exact Nds.Ok.all r sc d h.2.2 p hp
theorem Bds.Ok.all {s : ByteArray} : ∀ (x : Bds) (sc : List UInt8) (d : Nat), x.Ok s sc d → ∀ p ∈ x.preD d, p.1.Ok s p.2
  | .nil, _, _, _, p, hp => by simp [Bds.preD] at hp
  | .cons x r, sc, d, h, p, hp => by
    simp only [Bds.Ok] at h
    simp only [Bds.preD, List.mem_append] at hp
    rcases hp with hp | hp
    · exact Nds.Ok.all x sc d h.1 p hp
    · exact Bds.Ok.all r sc d h.2 p hp
end

/-- Every reader reads steps that are so. -/
structure Reads (s : ByteArray) (n : Nat) : Prop where
  step : ∀ ar d k x k2, ar.length ≤ k → d ≤ 4 → stepP s n ar d k = some (x, k2) → x.scope = ar ∧ x.Ok s d ∧ x.beg = k ∧ x.fin = k2 ∧ k < k2 ∧ k2 ≤ s.size
  scope : ∀ ar d k x k2, ar.length ≤ k → d ≤ 4 → at? s k = some 123 → scopeP s n ar d k = some (x, k2) → x.scope = ar ∧ x.Ok s d ∧ x.beg = k ∧ x.fin = k2 ∧ k < k2 ∧ k2 ≤ s.size
  brack : ∀ ar d k x k2, ar.length ≤ k → d ≤ 4 → brackP s n ar d k = some (x, k2) → x.Ok s ar d ∧ k < k2 ∧ k2 ≤ s.size
  steps : ∀ ar d e k x k2, ar.length ≤ k → d ≤ 4 → stepsP s n ar d e k = some (x, k2) → x.Ok s ar d ∧ k < k2 ∧ k2 ≤ s.size

theorem reads (s : ByteArray) : ∀ n, Reads s n
  | 0 => ⟨fun _ _ _ _ _ _ _ h => by simp [stepP] at h, fun _ _ _ _ _ _ _ _ h => by simp [scopeP] at h, fun _ _ _ _ _ _ _ h => by simp [brackP] at h, fun _ _ _ _ _ _ _ _ h => by simp [stepsP] at h⟩
  | n + 1 => by
    have ih := reads s n
    constructor
    · intro ar d k x k2 ha hd h
      rw [stepP] at h
      cases hc : at? s k with
      | none => rw [hc] at h; cases h
      | some c =>
        simp only [hc] at h
        split at h
        · rename_i hcc
          have hin : inD c d = d := by unfold inD; rw [if_neg]; rintro rfl; simp at hcc
          split at h
          · cases h
          · rename_i v k1 hv
            obtain ⟨rfl, hlt, _⟩ := varP_some hv
            simp only [Option.some.injEq, Prod.mk.injEq] at h
            obtain ⟨rfl, rfl⟩ := h
            simp only [Nd.scope, Nd.Ok, Nd.beg, Nd.fin, Bds.Ok, hin, hc, List.length_cons, List.length_nil, and_true, true_and, true_or, or_true]
            omega
        split at h
        · rename_i hcc
          have hin : inD c d = d := by unfold inD; rw [if_neg]; rintro rfl; simp at hcc
          split at h
          · cases h
          · rename_i v u k1 hv
            obtain ⟨k0, h1, h2, _⟩ := moveP_some hv
            obtain ⟨rfl, hlt, _⟩ := varP_some h1
            obtain ⟨rfl, hlt2, _⟩ := varP_some h2
            simp only [Option.some.injEq, Prod.mk.injEq] at h
            obtain ⟨rfl, rfl⟩ := h
            simp only [Nd.scope, Nd.Ok, Nd.beg, Nd.fin, Bds.Ok, hin, hc, List.length_cons, List.length_nil, and_true, true_and, true_or, or_true]
            omega
        split at h
        · rename_i hcc
          have hin : inD c d = d := by unfold inD; rw [if_neg]; rintro rfl; simp at hcc
          have hlt := at?_lt hc
          simp only [Option.some.injEq, Prod.mk.injEq] at h
          obtain ⟨rfl, rfl⟩ := h
          simp only [Nd.scope, Nd.Ok, Nd.beg, Nd.fin, Bds.Ok, hin, hc, List.length_nil, and_true, true_and, or_true]
          omega
        split at h
        · rename_i hcc
          have hin : inD c d = d := by unfold inD; rw [if_neg]; rintro rfl; simp at hcc
          split at h
          · cases h
          · rename_i x1 k1 h1
            split at h
            · cases h
            · rename_i x2 k2' h2
              have i1 := ih.brack _ _ _ _ _ (by omega) hd h1
              have i2 := ih.brack _ _ _ _ _ (by omega) hd h2
              simp only [Option.some.injEq, Prod.mk.injEq] at h
              obtain ⟨rfl, rfl⟩ := h
              simp only [Nd.scope, Nd.Ok, Nd.beg, Nd.fin, Bds.Ok, hin, hc, List.length_nil, List.append_nil, i1.1, i2.1, and_true, true_and, or_true]
              omega
        split at h
        · rename_i hcc
          have hin : inD c d = d := by unfold inD; rw [if_neg]; rintro rfl; simp at hcc
          split at h
          · cases h
          · rename_i x1 k1 h1
            have i1 := ih.brack _ _ _ _ _ (by omega) hd h1
            simp only [Option.some.injEq, Prod.mk.injEq] at h
            obtain ⟨rfl, rfl⟩ := h
            simp only [Nd.scope, Nd.Ok, Nd.beg, Nd.fin, Bds.Ok, hin, hc, List.length_nil, List.append_nil, i1.1, and_true, true_and, or_true]
            omega
        split at h
        · rename_i hcc
          subst hcc
          exact ih.scope _ _ _ _ _ ha hd hc h
        · cases h
    · intro ar d k x k2 ha hd hc h
      rw [scopeP] at h
      split at h
      · cases h
      · rename_i hd4
        have hin : inD 123 d = d + 1 := by unfold inD; rw [if_pos rfl]
        split at h
        · cases h
        · rename_i vs k1 h1
          have hdl := declP_len _ _ _ _ _ _ _ h1
          simp only [List.length_nil] at hdl
          split at h
          · cases h
          · rename_i x1 k2' h2
            have i2 := ih.steps _ _ _ _ _ _ (by simp; omega) (by omega) h2
            simp only [Option.some.injEq, Prod.mk.injEq] at h
            obtain ⟨rfl, rfl⟩ := h
            simp only [Nd.scope, Nd.Ok, Nd.beg, Nd.fin, Bds.Ok, hin, hc, i2.1, and_true, true_and, true_or]
            omega
    · intro ar d k x k2 ha hd h
      rw [brackP] at h
      split at h
      · cases h
      · rename_i k1 h1
        obtain ⟨_, rfl, _⟩ := isP_some h1
        have i1 := ih.steps _ _ _ _ _ _ (by omega) hd h
        exact ⟨i1.1, by omega, i1.2.2⟩
    · intro ar d e k x k2 ha hd h
      rw [stepsP] at h
      split at h
      · rename_i hc
        have := at?_lt hc
        simp only [Option.some.injEq, Prod.mk.injEq] at h
        obtain ⟨rfl, rfl⟩ := h
        simp only [Nds.Ok, true_and]
        omega
      · split at h
        · cases h
        · rename_i x1 k1 h1
          have i1 := ih.step _ _ _ _ _ ha hd h1
          split at h
          · cases h
          · rename_i r k2' h2
            have i2 := ih.steps _ _ _ _ _ _ (by omega) hd h2
            simp only [Option.some.injEq, Prod.mk.injEq] at h
            obtain ⟨rfl, rfl⟩ := h
            exact ⟨⟨i1.1, i1.2.1, i2.1⟩, by omega, i2.2.2⟩

theorem progP_ok {s : ByteArray} {x : Nd} (h : progP s = some x) : x.scope = [] ∧ x.Ok s 0 ∧ x.kind = 123 ∧ x.beg = 0 ∧ x.fin = s.size ∧ s.size ≤ 80 := by
  unfold progP at h
  split at h
  · cases h
  · rename_i hs
    split at h
    · rename_i hc
      split at h
      · cases h
      · rename_i y k hy
        split at h
        · rename_i hk
          have e := Option.some.inj h
          subst e
          obtain ⟨h1, h2, h3, h4, _⟩ := (reads s (8 * s.size + 8)).scope _ _ _ _ _ (by simp) (by omega) hc hy
          refine ⟨h1, h2, ?_, h3, by rw [h4, hk], by omega⟩
          cases y with
          | mk c k' e' vs ar bs =>
            simp only [Nd.Ok] at h2
            simp only [Nd.beg] at h3
            subst h3
            have := h2.1
            rw [hc] at this
            exact (Option.some.inj this).symm
        · cases h
    · cases h

/-- A step that stands in a tree of program s. -/
structure Good (s : ByteArray) (x : Nd) (d : Nat) : Prop where
  kind : at? s x.beg = some x.kind
  lt : x.beg < x.fin
  le : x.fin ≤ s.size
  room : x.scope.length + x.vars.length ≤ x.fin
  deep : inD x.kind d ≤ 4
  shal : d ≤ 4
  vars : x.kind = 123 ∨ x.bodies = .nil ∨ x.vars = []
  kids : ∀ z ∈ x.bodies.kids, z.scope = x.scope ++ x.vars ∧ z.Ok s (inD x.kind d)

theorem Nd.Ok.good {s : ByteArray} {x : Nd} {d : Nat} (h : x.Ok s d) : Good s x d := by
  cases x with
  | mk c k e vs ar bs =>
    simp only [Nd.Ok] at h
    obtain ⟨h1, h2, h3, h4, h5, h6, h7, h8, h9⟩ := h
    exact ⟨h1, h2, h3, h4, h7, h6, h8, fun z hz => Bds.Ok.mem h9 z hz⟩

end Go.Proofs.Ytaaphpcbiibpcaa
