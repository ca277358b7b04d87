/-
  A program that is written anew by a visitor, as a plain function of its tree; and its own text. Nothing of the translation is imported.
  The grammar of a program's tree: what stands where. Nothing of the translation is imported.
-/
import Derived.Test.YtkfcgamdlckncaaPkW
namespace Go.Proofs.Ytkfcgamdlckncaa
set_option linter.unusedVariables false
set_option linter.unusedSimpArgs false

/-- What a visitor tells of steps. -/
structure Vis where
  keeps : Nd → Bool
  ahead : Nd → List UInt8
  value : Nd → List UInt8
  decls : Nd → List UInt8
  ends : Nd → List UInt8

mutual
/-- What becomes of a step by a visitor. -/
def Nd.wr (V : Vis) : Nd → List UInt8
  | .mk c k e vs ar .nil => if V.keeps (.mk c k e vs ar .nil) then V.ahead (.mk c k e vs ar .nil) ++ (if c = 94 ∨ c = 33 then [c] else V.value (.mk c k e vs ar .nil)) else []
  | .mk c k e vs ar (.cons y .nil) =>
    if V.keeps (.mk c k e vs ar (.cons y .nil)) then V.ahead (.mk c k e vs ar (.cons y .nil)) ++
      (if c = 42 then [42] ++ ([91] ++ Nds.wr V y ++ [93])
       else if V.decls (.mk c k e vs ar (.cons y .nil)) = [] then Nds.wr V y
       else ([123] ++ V.decls (.mk c k e vs ar (.cons y .nil)) ++ [58]) ++ Nds.wr V y ++ (V.ends (.mk c k e vs ar (.cons y .nil)) ++ [125]))
    else []
  | .mk c k e vs ar (.cons y (.cons z .nil)) =>
    if V.keeps (.mk c k e vs ar (.cons y (.cons z .nil))) then V.ahead (.mk c k e vs ar (.cons y (.cons z .nil))) ++ ([63] ++ ([91] ++ Nds.wr V y ++ [93]) ++ ([91] ++ Nds.wr V z ++ [93])) else []
  | .mk _ _ _ _ _ (.cons _ (.cons _ (.cons _ _))) => []
def Nds.wr (V : Vis) : Nds → List UInt8
  | .nil => []
  | .cons x r => Nd.wr V x ++ Nds.wr V r
end

/-- What a visitor tells of a step is short. -/
structure ShortAt (V : Vis) (z : Nd) : Prop where
  ahead : (V.ahead z).length ≤ 200
  value : (V.value z).length ≤ 200
  decls : (V.decls z).length ≤ 200
  ends : (V.ends z).length ≤ 200

mutual
theorem Nd.wr_len (V : Vis) : ∀ (x : Nd), (∀ z ∈ x.pre.list, ShortAt V z) → (x.wr V).length ≤ 1000 * x.pre.len
  | .mk c k e vs ar .nil, h => by
    have h0 := h (.mk c k e vs ar .nil) (by simp [Nd.pre, Nds.list])
    have := h0.ahead; have := h0.value
    simp only [Nd.pre, Bds.pre, Nds.len, Nd.wr]
    split
    · split
      · rw [List.length_append]; simp only [List.length_cons, List.length_nil]; omega
      · rw [List.length_append]; omega
    · simp
  | .mk c k e vs ar (.cons y .nil), h => by
    have h0 := h (.mk c k e vs ar (.cons y .nil)) (by simp [Nd.pre, Nds.list])
    have hy := Nds.wr_len V y (fun z hz => h z (by simp only [Nd.pre, Bds.pre, Nds.list, Nds.list_app]; simp [hz]))
    have := h0.ahead; have := h0.decls; have := h0.ends
    simp only [Nd.pre, Bds.pre, Nds.len, Nds.len_app, Nd.wr]
    split
    · split
      · simp only [List.length_append, List.length_cons, List.length_nil]; omega
      · split
        · simp only [List.length_append]; omega
        · simp only [List.length_append, List.length_cons, List.length_nil]; omega
    · simp
  | .mk c k e vs ar (.cons y (.cons u .nil)), h => by
    have h0 := h (.mk c k e vs ar (.cons y (.cons u .nil))) (by simp [Nd.pre, Nds.list])
    have hy := Nds.wr_len V y (fun z hz => h z (by simp only [Nd.pre, Bds.pre, Nds.list, Nds.list_app]; simp [hz]))
    have hu := Nds.wr_len V u (fun z hz => h z (by simp only [Nd.pre, Bds.pre, Nds.list, Nds.list_app]; simp [hz]))
    have := h0.ahead
    simp only [Nd.pre, Bds.pre, Nds.len, Nds.len_app, Nd.wr]
    split
    · simp only [List.length_append, List.length_cons, List.length_nil]; omega
    · simp
  | .mk _ _ _ _ _ (.cons _ (.cons _ (.cons _ _))), h => by simp [Nd.wr]
theorem Nds.wr_len (V : Vis) : ∀ (x : Nds), (∀ z ∈ x.pre.list, ShortAt V z) → (Nds.wr V x).length ≤ 1000 * x.pre.len
  | .nil, h => by simp [Nds.wr]
  | .cons x r, h => by
    have h1 := Nd.wr_len V x (fun z hz => h z (by simp only [Nds.pre, Nds.list_app]; simp [hz]))
    have h2 := Nds.wr_len V r (fun z hz => h z (by simp only [Nds.pre, Nds.list_app]; simp [hz]))
    simp only [Nds.pre, Nds.len_app, Nds.wr, List.length_append]
    omega
end

/-- The text of some steps. -/
def wrL (V : Vis) (l : List Nd) : List UInt8 := l.flatMap (fun z => z.wr V)
theorem wrL_nds (V : Vis) : ∀ x : Nds, wrL V x.list = Nds.wr V x
  | .nil => rfl
  | .cons x r => by
    have := wrL_nds V r
    unfold wrL at *
    simp only [Nds.list, List.flatMap_cons, Nds.wr, this]

/-- What a visitor tells that leaves all as it is. -/
def Nd.keepVis : Vis where
  keeps := fun _ => true
  ahead := fun _ => []
  value := fun z => z.kind :: z.vars
  decls := fun z => z.vars
  ends := fun _ => []

mutual
/-- Two visitors that tell the same. -/
theorem Nd.wr_same {V U : Vis} : ∀ (x : Nd), (∀ z ∈ x.pre.list, V.keeps z = U.keeps z ∧ V.ahead z = U.ahead z ∧ V.value z = U.value z ∧ V.decls z = U.decls z ∧ V.ends z = U.ends z) → x.wr V = x.wr U
  | .mk c k e vs ar .nil, h => by
    obtain ⟨h1, h2, h3, h4, h5⟩ := h (.mk c k e vs ar .nil) (by simp [Nd.pre, Nds.list])
    simp only [Nd.wr, h1, h2, h3]
  | .mk c k e vs ar (.cons y .nil), h => by
    obtain ⟨h1, h2, h3, h4, h5⟩ := h (.mk c k e vs ar (.cons y .nil)) (by simp [Nd.pre, Nds.list])
    have hy := Nds.wr_same (V := V) (U := U) y (fun z hz => h z (by simp only [Nd.pre, Bds.pre, Nds.list, Nds.list_app]; simp [hz]))
    simp only [Nd.wr, h1, h2, h3, h4, h5, hy]
  | .mk c k e vs ar (.cons y (.cons u .nil)), h => by
    obtain ⟨h1, h2, h3, h4, h5⟩ := h (.mk c k e vs ar (.cons y (.cons u .nil))) (by simp [Nd.pre, Nds.list])
    have hy := Nds.wr_same (V := V) (U := U) y (fun z hz => h z (by simp only [Nd.pre, Bds.pre, Nds.list, Nds.list_app]; simp [hz]))
    have hu := Nds.wr_same (V := V) (U := U) u (fun z hz => h z (by simp only [Nd.pre, Bds.pre, Nds.list, Nds.list_app]; simp [hz]))
    simp only [Nd.wr, h1, h2, hy, hu]
  | .mk _ _ _ _ _ (.cons _ (.cons _ (.cons _ _))), h => by simp only [Nd.wr]
theorem Nds.wr_same {V U : Vis} : ∀ (x : Nds), (∀ z ∈ x.pre.list, V.keeps z = U.keeps z ∧ V.ahead z = U.ahead z ∧ V.value z = U.value z ∧ V.decls z = U.decls z ∧ V.ends z = U.ends z) → Nds.wr V x = Nds.wr U x
  | .nil, h => by simp only [Nds.wr]
  | .cons x r, h => by
    have h1 := Nd.wr_same (V := V) (U := U) x (fun z hz => h z (by simp only [Nds.pre, Nds.list_app]; simp [hz]))
    have h2 := Nds.wr_same (V := V) (U := U) r (fun z hz => h z (by simp only [Nds.pre, Nds.list_app]; simp [hz]))
    simp only [Nds.wr, h1, h2]
end

end Go.Proofs.Ytkfcgamdlckncaa

namespace Go.Proofs.Ytkfcgamdlckncaa
set_option linter.unusedVariables false
set_option linter.unusedSimpArgs false

/-- What a scope may declare. -/
structure DeclG (ar vs : List UInt8) : Prop where
  some : vs ≠ []
  each : ∀ v ∈ vs, ltr v ∧ v ∉ ar
  once : vs.Nodup

mutual
/-- A step where ar is declared, within d scopes. -/
def Nd.Gr : Nd → List UInt8 → Nat → Prop
  | .mk c k e vs sc .nil, ar, d => sc = ar ∧ (((c = 43 ∨ c = 46 ∨ c = 45 ∨ c = 126) ∧ ∃ v, vs = [v] ∧ v ∈ ar) ∨ (c = 61 ∧ ∃ v u, vs = [v, u] ∧ v ∈ ar ∧ u ∈ ar ∧ v ≠ u) ∨ ((c = 94 ∨ c = 33) ∧ vs = []))
  | .mk c k e vs sc (.cons x .nil), ar, d => sc = ar ∧ ((c = 42 ∧ vs = [] ∧ Nds.Gr x ar d) ∨ (c = 123 ∧ d < 4 ∧ DeclG ar vs ∧ Nds.Gr x (ar ++ vs) (d + 1)))
  | .mk c k e vs sc (.cons x (.cons y .nil)), ar, d => sc = ar ∧ c = 63 ∧ vs = [] ∧ Nds.Gr x ar d ∧ Nds.Gr y ar d
  | .mk _ _ _ _ _ (.cons _ (.cons _ (.cons _ _))), _, _ => False
def Nds.Gr : Nds → List UInt8 → Nat → Prop
  | .nil, _, _ => True
  | .cons x r, ar, d => Nd.Gr x ar d ∧ Nds.Gr r ar d
end

theorem ltr_of {c : UInt8} (h1 : 97 ≤ c) (h2 : c ≤ 102) : ltr c := ⟨UInt8.le_iff_toNat_le.1 h1, UInt8.le_iff_toNat_le.1 h2⟩

theorem declP_gr (s : ByteArray) : ∀ (n : Nat) (ar out : List UInt8) (k : Nat) (vs : List UInt8) (k2 : Nat), declP s n ar out k = some (vs, k2) → (∀ v ∈ out, ltr v ∧ v ∉ ar) → out.Nodup → DeclG ar vs
  | 0, ar, out, k, vs, k2, h, _, _ => by simp [declP] at h
  | n + 1, ar, out, k, vs, k2, h, h1, h2 => by
    rw [declP] at h
    cases hc : at? s k with
    | none => rw [hc] at h; cases h
    | some c =>
      rw [hc] at h
      simp only at h
      split at h
      · rename_i hcc
        simp only [Option.some.injEq, Prod.mk.injEq] at h
        obtain ⟨rfl, rfl⟩ := h
        exact ⟨hcc.2, h1, h2⟩
      · split at h
        · rename_i hcc
          obtain ⟨ha, hb, hm⟩ := hcc
          rw [List.mem_append, not_or] at hm
          refine declP_gr s n ar (out ++ [c]) (k + 1) vs k2 h (fun v hv => ?_) ?_
          · rcases List.mem_append.1 hv with hv | hv
            · exact h1 v hv
            · rw [List.mem_singleton] at hv; rw [hv]; exact ⟨ltr_of ha hb, hm.1⟩
          · rw [List.nodup_append]
            refine ⟨h2, by simp, fun a ha b hb e => ?_⟩
            rw [List.mem_singleton] at hb
            rw [hb] at e
            exact hm.2 (e ▸ ha)
        · cases h

structure ReadsGr (s : ByteArray) (n : Nat) : Prop where
  step : ∀ ar d k x k2, stepP s n ar d k = some (x, k2) → x.Gr ar d
  scope : ∀ ar d k x k2, scopeP s n ar d k = some (x, k2) → x.Gr ar d
  brack : ∀ ar d k x k2, brackP s n ar d k = some (x, k2) → x.Gr ar d
  steps : ∀ ar d e k x k2, stepsP s n ar d e k = some (x, k2) → x.Gr ar d

theorem readsGr (s : ByteArray) : ∀ n, ReadsGr s n
  | 0 => ⟨fun _ _ _ _ _ h => by simp [stepP] at h, fun _ _ _ _ _ h => by simp [scopeP] at h, fun _ _ _ _ _ h => by simp [brackP] at h, fun _ _ _ _ _ _ h => by simp [stepsP] at h⟩
  | n + 1 => by
    have ih := readsGr s n
    constructor
    · intro ar d k x k2 h
      rw [stepP] at h
      cases hc : at? s k with
      | none => rw [hc] at h; cases h
      | some c =>
        simp only [hc] at h
        split at h
        · rename_i hcc
          split at h
          · cases h
          · rename_i v k1 hv
            obtain ⟨_, _, hm⟩ := varP_some hv
            simp only [Option.some.injEq, Prod.mk.injEq] at h
            rw [← h.1]
            simp only [Nd.Gr]
            exact ⟨trivial, .inl ⟨hcc, v, rfl, hm⟩⟩
        split at h
        · rename_i hcc
          split at h
          · cases h
          · rename_i v u k1 hv
            obtain ⟨k0, h1, h2, hne⟩ := moveP_some hv
            obtain ⟨_, _, hm1⟩ := varP_some h1
            obtain ⟨_, _, hm2⟩ := varP_some h2
            simp only [Option.some.injEq, Prod.mk.injEq] at h
            rw [← h.1]
            simp only [Nd.Gr]
            exact ⟨trivial, .inr (.inl ⟨hcc, v, u, rfl, hm1, hm2, hne⟩)⟩
        split at h
        · rename_i hcc
          simp only [Option.some.injEq, Prod.mk.injEq] at h
          rw [← h.1]
          simp only [Nd.Gr]
          exact ⟨trivial, .inr (.inr ⟨hcc, trivial⟩)⟩
        split at h
        · rename_i hcc
          split at h
          · cases h
          · rename_i x1 k1 h1
            split at h
            · cases h
            · rename_i x2 k2' h2
              have i1 := ih.brack _ _ _ _ _ h1
              have i2 := ih.brack _ _ _ _ _ h2
              simp only [Option.some.injEq, Prod.mk.injEq] at h
              rw [← h.1]
              simp only [Nd.Gr]
              exact ⟨trivial, hcc, trivial, i1, i2⟩
        split at h
        · rename_i hcc
          split at h
          · cases h
          · rename_i x1 k1 h1
            have i1 := ih.brack _ _ _ _ _ h1
            simp only [Option.some.injEq, Prod.mk.injEq] at h
            rw [← h.1]
            simp only [Nd.Gr]
            exact ⟨trivial, .inl ⟨hcc, trivial, i1⟩⟩
        split at h
        · exact ih.scope _ _ _ _ _ h
        · cases h
    · intro ar d k x k2 h
      rw [scopeP] at h
      split at h
      · cases h
      · rename_i hd
        split at h
        · cases h
        · rename_i vs k1 h1
          split at h
          · cases h
          · rename_i x1 k2' h2
            have i1 := declP_gr s _ _ _ _ _ _ h1 (fun v hv => by cases hv) List.nodup_nil
            have i2 := ih.steps _ _ _ _ _ _ h2
            simp only [Option.some.injEq, Prod.mk.injEq] at h
            rw [← h.1]
            simp only [Nd.Gr]
            exact ⟨trivial, .inr ⟨trivial, by omega, i1, i2⟩⟩
    · intro ar d k x k2 h
      rw [brackP] at h
      split at h
      · cases h
      · exact ih.steps _ _ _ _ _ _ h
    · intro ar d e k x k2 h
      rw [stepsP] at h
      split at h
      · simp only [Option.some.injEq, Prod.mk.injEq] at h
        rw [← h.1]
        simp only [Nds.Gr]
      · split at h
        · cases h
        · rename_i x1 k1 h1
          have i1 := ih.step _ _ _ _ _ h1
          split at h
          · cases h
          · rename_i r k2' h2
            have i2 := ih.steps _ _ _ _ _ _ h2
            simp only [Option.some.injEq, Prod.mk.injEq] at h
            rw [← h.1]
            exact ⟨i1, i2⟩

theorem progP_gr {s : ByteArray} {x : Nd} (h : progP s = some x) : x.Gr [] 0 := by
  unfold progP at h
  split at h
  · cases h
  · split at h
    · split at h
      · cases h
      · rename_i y k hy
        split at h
        · have e := Option.some.inj h
          rw [← e]
          exact (readsGr s (8 * s.size + 8)).scope _ _ _ _ _ hy
        · cases h
    · cases h

mutual
/-- Every scope declares something. -/
theorem Nd.Gr.decl : ∀ (x : Nd) (ar : List UInt8) (d : Nat), x.Gr ar d → ∀ z ∈ x.pre.list, z.kind = 123 → z.vars ≠ []
  | .mk c k e vs sc .nil, ar, d, h, z, hz, hk => by
    simp only [Nd.pre, Bds.pre, Nds.list, List.mem_singleton] at hz
    subst hz
    simp only [Nd.Gr] at h
    simp only [Nd.kind] at hk
    rcases h.2 with ⟨h, _⟩ | ⟨h, _⟩ | ⟨h, _⟩ <;> rw [hk] at h <;> exact absurd h (by decide)
  | .mk c k e vs sc (.cons y .nil), ar, d, h, z, hz, hk => by
    simp only [Nd.Gr] at h
    simp only [Nd.pre, Bds.pre, Nds.list, Nds.list_app, List.append_nil, List.mem_cons] at hz
    rcases hz with rfl | hz
    · rcases h.2 with ⟨h, _⟩ | ⟨_, _, h, _⟩
      · simp only [Nd.kind] at hk; rw [hk] at h; exact absurd h (by decide)
      · exact h.some
    · rcases h.2 with ⟨_, _, h⟩ | ⟨_, _, _, h⟩
      · exact Nds.Gr.decl y _ _ h z hz hk
      · exact Nds.Gr.decl y _ _ h z hz hk
  | .mk c k e vs sc (.cons y (.cons u .nil)), ar, d, h, z, hz, hk => by
    simp only [Nd.Gr] at h
    simp only [Nd.pre, Bds.pre, Nds.list, Nds.list_app, List.append_nil, List.mem_cons, List.mem_append] at hz
    rcases hz with rfl | hz | hz
    · simp only [Nd.kind] at hk; rw [hk] at h; exact absurd h.2.1 (by decide)
    · exact Nds.Gr.decl y _ _ h.2.2.2.1 z hz hk
    · exact Nds.Gr.decl u _ _ h.2.2.2.2 z hz hk
  | .mk _ _ _ _ _ (.cons _ (.cons _ (.cons _ _))), ar, d, h, z, hz, hk => by simp only [Nd.Gr] at h
theorem Nds.Gr.decl : ∀ (x : Nds) (ar : List UInt8) (d : Nat), x.Gr ar d → ∀ z ∈ x.pre.list, z.kind = 123 → z.vars ≠ []
  | .nil, ar, d, h, z, hz, hk => by simp [Nds.pre, Nds.list] at hz
  | .cons x r, ar, d, h, z, hz, hk => by
    simp only [Nds.Gr] at h
    simp only [Nds.pre, Nds.list_app, List.mem_append] at hz
    rcases hz with hz | hz
    · exact Nd.Gr.decl x _ _ h.1 z hz hk
    · exact Nds.Gr.decl r _ _ h.2 z hz hk
end

end Go.Proofs.Ytkfcgamdlckncaa
