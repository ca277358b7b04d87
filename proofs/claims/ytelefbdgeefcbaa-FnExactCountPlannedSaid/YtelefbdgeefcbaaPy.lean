/-
  What the model's walk over all steps finds for a point: the last of what the steps tell of it is the point's own. Nothing is walked here.
-/
import Derived.Test.YtelefbdgeefcbaaPr
namespace Go.Proofs.Ytelefbdgeefcbaa
set_option linter.unusedVariables false
set_option linter.unusedSimpArgs false

/-- What a step tells of a place: its plan ahead, or that ahead of its end. -/
def tellK (k : Kn) (at_ : Nat) (acc : List UInt8) (m : Nd) : List UInt8 :=
  if m.beg = at_ then planK k (unsaidN m) else if m.kind = 123 ∧ m.fin - 1 = at_ then planK k m.vars else acc
/-- What the last of some steps tells. -/
def lastK (k : Kn) (at_ : Nat) (l : List Nd) : List UInt8 := l.foldl (tellK k at_) []
theorem lastK_snoc (k : Kn) (at_ : Nat) (l : List Nd) (m : Nd) : lastK k at_ (l ++ [m]) = tellK k at_ (lastK k at_ l) m := by
  unfold lastK; rw [List.foldl_append]; rfl

theorem foldl_hit {α β : Type} (f : β → α → β) (V : β) (hit : α → Prop) : ∀ (l : List α) (acc : β), (∀ m ∈ l, ∀ acc, f acc m = V ∨ (¬ hit m ∧ f acc m = acc)) → (acc = V ∨ ∃ m ∈ l, hit m) → l.foldl f acc = V
  | [], acc, _, h => by
    rcases h with h | ⟨m, hm, _⟩
    · exact h
    · cases hm
  | m :: r, acc, hf, h => by
    rw [List.foldl_cons]
    refine foldl_hit f V hit r _ (fun m' hm' => hf m' (List.mem_cons_of_mem _ hm')) ?_
    rcases hf m (by simp) acc with e | ⟨hn, e⟩
    · exact .inl e
    · rcases h with h | ⟨m', hm', hh⟩
      · exact .inl (e.trans h)
      · rcases List.mem_cons.1 hm' with rfl | hm'
        · exact absurd hh hn
        · exact .inr ⟨m', hm', hh⟩

theorem asc_one : ∀ {l : List Pt}, l.Pairwise (fun p q => p.1 < q.1) → ∀ {p q : Pt}, p ∈ l → q ∈ l → p.1 = q.1 → p = q
  | [], _, p, q, hp, _, _ => by cases hp
  | a :: r, h, p, q, hp, hq, e => by
    have g := List.pairwise_cons.1 h
    rcases List.mem_cons.1 hp with e1 | hp
    · rcases List.mem_cons.1 hq with e2 | hq
      · exact e1.trans e2.symm
      · have := g.1 q hq; rw [← e1] at this; omega
    · rcases List.mem_cons.1 hq with e2 | hq
      · have := g.1 p hp; rw [← e2] at this; omega
      · exact asc_one g.2 hp hq e

/-- What a step tells of its own. -/
def ownPts (m : Nd) : List Pt := (m.beg, unsaidN m) :: (if m.kind = 123 then [(m.fin - 1, m.vars)] else [])

mutual
theorem Nd.pts_own : ∀ (x : Nd) (p : Pt), p ∈ x.pts ↔ ∃ m ∈ x.pre.list, p ∈ ownPts m
  | .mk c b e vs ar bs, p => by
    have h := Bds.pts_own bs p
    have e1 : (Nd.mk c b e vs ar bs).pre.list = .mk c b e vs ar bs :: bs.pre.list := rfl
    rw [e1]
    simp only [Nd.pts, List.mem_cons, List.mem_append, h, ownPts, Nd.beg, Nd.kind, Nd.fin, Nd.vars, exists_eq_or_imp]
    constructor
    · rintro (h1 | h1 | h1)
      · exact .inl (.inl h1)
      · exact .inr h1
      · exact .inl (.inr h1)
    · rintro ((h1 | h1) | h1)
      · exact .inl h1
      · exact .inr (.inr h1)
      · exact .inr (.inl h1)
theorem Nds.pts_own : ∀ (x : Nds) (p : Pt), p ∈ x.pts ↔ ∃ m ∈ x.pre.list, p ∈ ownPts m
  | .nil, p => by simp [Nds.pts, Nds.pre, Nds.list]
  | .cons x r, p => by
    have h1 := Nd.pts_own x p
    have h2 := Nds.pts_own r p
    simp only [Nds.pts, Nds.pre, Nds.list_app, List.mem_append, h1, h2]
    constructor
    · rintro (⟨m, hm, h⟩ | ⟨m, hm, h⟩)
      · exact ⟨m, .inl hm, h⟩
      · exact ⟨m, .inr hm, h⟩
    · rintro ⟨m, hm | hm, h⟩
      · exact .inl ⟨m, hm, h⟩
      · exact .inr ⟨m, hm, h⟩
theorem Bds.pts_own : ∀ (x : Bds) (p : Pt), p ∈ x.pts ↔ ∃ m ∈ x.pre.list, p ∈ ownPts m
  | .nil, p => by simp [Bds.pts, Bds.pre, Nds.list]
  | .cons x r, p => by
    have h1 := Nds.pts_own x p
    have h2 := Bds.pts_own r p
    simp only [Bds.pts, Bds.pre, Nds.list_app, List.mem_append, h1, h2]
    constructor
    · rintro (⟨m, hm, h⟩ | ⟨m, hm, h⟩)
      · exact ⟨m, .inl hm, h⟩
      · exact ⟨m, .inr hm, h⟩
    · rintro ⟨m, hm | hm, h⟩
      · exact .inl ⟨m, hm, h⟩
      · exact .inr ⟨m, hm, h⟩
end

theorem lastK_pts {x : Nd} (hs : x.Sp) (hf : x.Fit) (k : Kn) {p : Pt} (hp : p ∈ x.pts) : lastK k p.1 x.pre.list = planK k p.2 := by
  have ha := Nd.pts_asc x hs hf
  unfold lastK
  refine foldl_hit _ _ (fun m => m.beg = p.1 ∨ (m.kind = 123 ∧ m.fin - 1 = p.1)) _ _ (fun m hm acc => ?_) (.inr ?_)
  · unfold tellK
    by_cases h1 : m.beg = p.1
    · rw [if_pos h1]
      have hq : ((m.beg, unsaidN m) : Pt) ∈ x.pts := (Nd.pts_own x _).2 ⟨m, hm, by simp [ownPts]⟩
      have := asc_one ha hq hp h1
      exact .inl (by rw [← this])
    · rw [if_neg h1]
      by_cases h2 : m.kind = 123 ∧ m.fin - 1 = p.1
      · rw [if_pos h2]
        have hq : ((m.fin - 1, m.vars) : Pt) ∈ x.pts := (Nd.pts_own x _).2 ⟨m, hm, by simp [ownPts, h2.1]⟩
        have := asc_one ha hq hp h2.2
        exact .inl (by rw [← this])
      · rw [if_neg h2]
        exact .inr ⟨fun h => h.elim h1 h2, rfl⟩
  · obtain ⟨m, hm, h⟩ := (Nd.pts_own x p).1 hp
    refine ⟨m, hm, ?_⟩
    unfold ownPts at h
    rcases List.mem_cons.1 h with rfl | h
    · exact .inl rfl
    · split at h
      · rename_i hc
        simp at h
        exact .inr ⟨hc, by rw [h]⟩
      · cases h

/-! ### the steps of a step's bodies -/
theorem Nds.pts_list : ∀ x : Nds, x.pts = x.list.flatMap Nd.pts
  | .nil => rfl
  | .cons x r => by simp [Nds.pts, Nds.list, Nds.pts_list r]
theorem Bds.pts_kids : ∀ x : Bds, x.pts = x.kids.flatMap Nd.pts
  | .nil => rfl
  | .cons x r => by simp [Bds.pts, Bds.kids, Nds.pts_list x, Bds.pts_kids r]
/-- What comes last of a step. -/
def lastPt (x : Nd) : List Pt := if x.kind = 123 then [(x.fin - 1, x.vars)] else []
theorem Nd.pts_eq (x : Nd) : x.pts = (x.beg, unsaidN x) :: (x.bodies.kids.flatMap Nd.pts ++ lastPt x) := by
  obtain ⟨c, b, e, vs, ar, bs⟩ := x
  rw [Nd.pts, Bds.pts_kids]
  rfl

theorem Nds.fs_list : ∀ (x : Nds) (lo hi : Nat), x.Sp lo hi → x.Fit → ∀ z ∈ x.list, z.Sp ∧ z.Fit
  | .nil, _, _, _, _, z, hz => by simp [Nds.list] at hz
  | .cons x r, lo, hi, h, hf, z, hz => by
    simp only [Nds.Sp] at h
    simp only [Nds.Fit] at hf
    simp only [Nds.list, List.mem_cons] at hz
    rcases hz with rfl | hz
    · exact ⟨h.2.1, hf.1⟩
    · exact Nds.fs_list r _ _ h.2.2 hf.2 z hz
theorem kids_fs {x z : Nd} (h : x.Sp) (hf : x.Fit) (hz : z ∈ x.bodies.kids) : z.Sp ∧ z.Fit := by
  obtain ⟨c, b, e, vs, ar, bs⟩ := x
  match bs, h, hf, hz with
  | .nil, h, hf, hz => simp [Nd.bodies, Bds.kids] at hz
  | .cons y .nil, h, hf, hz =>
    simp only [Nd.Sp] at h
    simp only [Nd.Fit] at hf
    simp only [Nd.bodies, Bds.kids, List.append_nil] at hz
    exact Nds.fs_list y _ _ h.2.2 hf.2 z hz
  | .cons y (.cons u .nil), h, hf, hz =>
    simp only [Nd.Sp] at h
    simp only [Nd.Fit] at hf
    obtain ⟨m, _, _, _, h4, h5⟩ := h
    simp only [Nd.bodies, Bds.kids, List.append_nil, List.mem_append] at hz
    rcases hz with hz | hz
    · exact Nds.fs_list y _ _ h4 hf.2.2.1 z hz
    · exact Nds.fs_list u _ _ h5 hf.2.2.2 z hz
  | .cons y (.cons u (.cons q r)), h, hf, hz => simp only [Nd.Fit] at hf
theorem vars_ltr {x : Nd} (h : x.Sp) (hf : x.Fit) : ∀ v ∈ x.vars, ltr v := by
  obtain ⟨c, b, e, vs, ar, bs⟩ := x
  match bs, h, hf with
  | .nil, h, hf => simp only [Nd.Sp] at h; exact h.2
  | .cons y .nil, h, hf => simp only [Nd.Sp] at h; exact h.1
  | .cons y (.cons u .nil), h, hf =>
    simp only [Nd.Fit] at hf
    intro v hv
    have hv : v ∈ vs := hv
    rw [hf.2.1] at hv; cases hv
  | .cons y (.cons u (.cons q r)), h, hf => simp only [Nd.Fit] at hf

end Go.Proofs.Ytelefbdgeefcbaa
