/-
  What is destroyed unsaid where, as plain functions of a program's tree: its points in ascending order, the variables there, their plans. Nothing is walked here.
-/
import Derived.Test.YtelefbdgeefcbaaPkW
namespace Go.Proofs.Ytelefbdgeefcbaa
set_option linter.unusedVariables false
set_option linter.unusedSimpArgs false

/-- What is destroyed of variables, from the last one to the first one, by what is known. -/
def planK (k : Kn) (vs : List UInt8) : List UInt8 := if k = Kn.no then [] else vs.reverse.flatMap (fun v => if hasV k.must v then [45, v] else if hasV k.may v then [126, v] else [])

/-- The variables whose values a step destroys unsaid ahead of all else that it does. -/
def unsaidN (z : Nd) : List UInt8 := if z.kind = 43 ∨ z.kind = 61 then z.vars.take 1 else if z.kind = 94 ∨ z.kind = 33 then z.scope else []

abbrev Pt := Nat × List UInt8

mutual
/-- The points of a step and of what is within it, in ascending order, and the variables whose values are destroyed unsaid there. -/
def Nd.pts : Nd → List Pt
  | .mk c b e vs ar bs => (b, unsaidN (.mk c b e vs ar bs)) :: (bs.pts ++ if c = 123 then [(e - 1, vs)] else [])
def Nds.pts : Nds → List Pt
  | .nil => []
  | .cons x r => x.pts ++ r.pts
def Bds.pts : Bds → List Pt
  | .nil => []
  | .cons x r => x.pts ++ r.pts
end

/-- A step without bodies is no scope. -/
theorem fit_nil {c : UInt8} {b e : Nat} {vs ar : List UInt8} (h : (Nd.mk c b e vs ar .nil).Fit) : c ≠ 123 := by
  simp only [Nd.Fit] at h
  rcases h with ⟨rfl | rfl | rfl | rfl, _⟩ | ⟨rfl, _⟩ | ⟨rfl | rfl, _⟩ <;> decide

mutual
theorem Nd.pts_in : ∀ (x : Nd), x.Sp → x.Fit → ∀ p ∈ x.pts, x.beg ≤ p.1 ∧ p.1 < x.fin
  | .mk c b e vs ar .nil, h, hf, p, hp => by
    have hc := fit_nil hf
    simp only [Nd.Sp] at h
    simp [Nd.pts, Bds.pts, hc] at hp
    rw [hp]; simp only [Nd.beg, Nd.fin]; omega
  | .mk c b e vs ar (.cons x .nil), h, hf, p, hp => by
    simp only [Nd.Sp] at h
    simp only [Nd.Fit] at hf
    simp only [Nd.pts, Bds.pts, List.append_nil, List.mem_cons, List.mem_append] at hp
    simp only [Nd.beg, Nd.fin]
    rcases hp with rfl | hp | hp
    · simp only; omega
    · have := Nds.pts_in x _ _ h.2.2 hf.2 p hp; omega
    · split at hp
      · simp at hp; rw [hp]; simp only; omega
      · cases hp
  | .mk c b e vs ar (.cons x (.cons y .nil)), h, hf, p, hp => by
    simp only [Nd.Sp] at h
    simp only [Nd.Fit] at hf
    obtain ⟨m, h1, h2, h3, h4, h5⟩ := h
    obtain ⟨rfl, _, hfx, hfy⟩ := hf
    simp [Nd.pts, Bds.pts] at hp
    simp only [Nd.beg, Nd.fin]
    rcases hp with rfl | hp | hp
    · simp only; omega
    · have := Nds.pts_in x _ _ h4 hfx p hp; omega
    · have := Nds.pts_in y _ _ h5 hfy p hp
      have := h4.le
      omega
  | .mk c b e vs ar (.cons x (.cons y (.cons u r))), h, hf, p, hp => by simp only [Nd.Fit] at hf
theorem Nds.pts_in : ∀ (x : Nds) (lo hi : Nat), x.Sp lo hi → x.Fit → ∀ p ∈ x.pts, lo ≤ p.1 ∧ p.1 < hi
  | .nil, _, _, _, _, p, hp => by simp [Nds.pts] at hp
  | .cons x r, lo, hi, h, hf, p, hp => by
    simp only [Nds.Sp] at h
    simp only [Nds.Fit] at hf
    simp only [Nds.pts, List.mem_append] at hp
    have h1 := h.2.1.lt
    have h2 := h.2.2.le
    rcases hp with hp | hp
    · have := Nd.pts_in x h.2.1 hf.1 p hp; omega
    · have := Nds.pts_in r _ _ h.2.2 hf.2 p hp; omega
end

mutual
theorem Nd.pts_asc : ∀ (x : Nd), x.Sp → x.Fit → x.pts.Pairwise (fun p q => p.1 < q.1)
  | .mk c b e vs ar .nil, h, hf => by
    have hc := fit_nil hf
    simp [Nd.pts, Bds.pts, hc]
  | .mk c b e vs ar (.cons x .nil), h, hf => by
    simp only [Nd.Sp] at h
    simp only [Nd.Fit] at hf
    simp only [Nd.pts, Bds.pts, List.append_nil]
    have hi := Nds.pts_in x _ _ h.2.2 hf.2
    refine List.pairwise_cons.2 ⟨fun p hp => ?_, List.pairwise_append.2 ⟨Nds.pts_asc x _ _ h.2.2 hf.2, ?_, fun p hp q hq => ?_⟩⟩
    · rcases List.mem_append.1 hp with hp | hp
      · have := hi p hp; simp only; omega
      · split at hp
        · simp at hp; rw [hp]; simp only; omega
        · cases hp
    · split <;> simp
    · split at hq
      · simp at hq; rw [hq]; have := hi p hp; simp only; omega
      · cases hq
  | .mk c b e vs ar (.cons x (.cons y .nil)), h, hf => by
    simp only [Nd.Sp] at h
    simp only [Nd.Fit] at hf
    obtain ⟨m, h1, h2, h3, h4, h5⟩ := h
    obtain ⟨rfl, _, hfx, hfy⟩ := hf
    have e : (Nd.mk 63 b e vs ar (.cons x (.cons y .nil))).pts = (b, unsaidN (.mk 63 b e vs ar (.cons x (.cons y .nil)))) :: (x.pts ++ y.pts) := by
      simp [Nd.pts, Bds.pts]
    rw [e]
    have hx := Nds.pts_in x _ _ h4 hfx
    have hy := Nds.pts_in y _ _ h5 hfy
    refine List.pairwise_cons.2 ⟨fun p hp => ?_, List.pairwise_append.2 ⟨Nds.pts_asc x _ _ h4 hfx, Nds.pts_asc y _ _ h5 hfy, fun p hp q hq => ?_⟩⟩
    · rcases List.mem_append.1 hp with hp | hp
      · have := hx p hp; simp only; omega
      · have := hy p hp; simp only; omega
    · have := hx p hp; have := hy q hq; omega
  | .mk c b e vs ar (.cons x (.cons y (.cons u r))), h, hf => by simp only [Nd.Fit] at hf
theorem Nds.pts_asc : ∀ (x : Nds) (lo hi : Nat), x.Sp lo hi → x.Fit → x.pts.Pairwise (fun p q => p.1 < q.1)
  | .nil, _, _, _, _ => by simp [Nds.pts]
  | .cons x r, lo, hi, h, hf => by
    simp only [Nds.Sp] at h
    simp only [Nds.Fit] at hf
    simp only [Nds.pts]
    refine List.pairwise_append.2 ⟨Nd.pts_asc x h.2.1 hf.1, Nds.pts_asc r _ _ h.2.2 hf.2, fun p hp q hq => ?_⟩
    have h1 := Nd.pts_in x h.2.1 hf.1 p hp
    have h2 := Nds.pts_in r _ _ h.2.2 hf.2 q hq
    omega
end

mutual
theorem Nd.pts_noted : ∀ (x : Nd) (k : Kn), x.Fit → ∀ p ∈ x.pts, (Nd.note x k p.1).isSome = true
  | .mk c b e vs ar .nil, k, hf, p, hp => by
    have hc := fit_nil hf
    simp [Nd.pts, Bds.pts, hc] at hp
    rw [hp]; simp [Nd.note, point_isSome]
  | .mk c b e vs ar (.cons x .nil), k, hf, p, hp => by
    simp only [Nd.Fit] at hf
    simp only [Nd.pts, Bds.pts, List.append_nil, List.mem_cons, List.mem_append] at hp
    simp only [Nd.note]
    rcases hp with rfl | hp | hp
    · split <;> simp [over_isSome, point_isSome]
    · have h1 := fun k => Nds.pts_noted x k hf.2 p hp
      split <;> simp [over_isSome, h1]
    · split at hp
      · rename_i hc
        simp at hp
        rw [if_neg (by rw [hc]; decide), hp]; simp [over_isSome, point_isSome]
      · cases hp
  | .mk c b e vs ar (.cons x (.cons y .nil)), k, hf, p, hp => by
    simp only [Nd.Fit] at hf
    obtain ⟨rfl, _, hfx, hfy⟩ := hf
    simp [Nd.pts, Bds.pts] at hp
    simp only [Nd.note]
    rcases hp with rfl | hp | hp
    · simp [over_isSome, point_isSome]
    · simp [over_isSome, Nds.pts_noted x k hfx p hp]
    · simp [over_isSome, Nds.pts_noted y k hfy p hp]
  | .mk c b e vs ar (.cons x (.cons y (.cons u r))), k, hf, p, hp => by simp only [Nd.Fit] at hf
theorem Nds.pts_noted : ∀ (x : Nds) (k : Kn), x.Fit → ∀ p ∈ x.pts, (Nds.note x k p.1).isSome = true
  | .nil, _, _, p, hp => by simp [Nds.pts] at hp
  | .cons x r, k, hf, p, hp => by
    simp only [Nds.Fit] at hf
    simp only [Nds.pts, List.mem_append] at hp
    simp only [Nds.note, over_isSome]
    rcases hp with hp | hp
    · simp [Nd.pts_noted x k hf.1 p hp]
    · simp [Nds.pts_noted r _ hf.2 p hp]
end

/-- What is known at a place of a program. -/
def knownJ (x : Nd) (j : Nat) : Kn := (notesP x j).getD Kn.no

theorem pts_P {s : ByteArray} {x : Nd} (hp : progP s = some x) {p : Pt} (hm : p ∈ x.pts) : notesP x p.1 = some (knownJ x p.1) ∧ (knownJ x p.1).Wf := by
  have h := Nd.pts_noted x ⟨0, 0⟩ (progP_fit hp) p hm
  have e : notesP x p.1 = some (knownJ x p.1) := by
    unfold knownJ notesP
    cases hn : Nd.note x ⟨0, 0⟩ p.1 with
    | none => rw [hn] at h; cases h
    | some k => rfl
  exact ⟨e, Nd.note_wf x _ _ _ (progP_sp hp) wf_start e⟩

/-- The points whose plan is not empty, and their plans. -/
def plansL (x : Nd) : List Pt := (x.pts.map (fun p => (p.1, planK (knownJ x p.1) p.2))).filter (fun p => !p.2.isEmpty)

/-- PlanAt. -/
def planAtP (s : ByteArray) (at_ : Int) : Option (List UInt8) := match progP s with
  | none => none
  | some x => match x.pts.find? (fun p => (p.1 : Int) == at_) with
    | none => none
    | some p => if knownJ x p.1 = Kn.no then none else some (planK (knownJ x p.1) p.2)
/-- PlansOf. -/
def plansP (s : ByteArray) : Option (List Nat) := match progP s with | none => none | some x => some ((plansL x).map Prod.fst)
/-- IsWritten. -/
def writtenP (s : ByteArray) : Bool := match progP s with | none => false | some x => (plansL x).isEmpty

end Go.Proofs.Ytelefbdgeefcbaa
