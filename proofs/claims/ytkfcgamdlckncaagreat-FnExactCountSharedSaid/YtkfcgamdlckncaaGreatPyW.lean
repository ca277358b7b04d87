/-
  What is destroyed unsaid where, as plain functions of a program's tree: its points in ascending order, the variables there, their plans. Nothing is walked here.
  The points of a program as the model finds them: where steps begin, and where scopes end put in one by one. Nothing is walked here.
  What the model's walk over all steps finds for a point: the last of what the steps tell of it is the point's own. Nothing is walked here.
  Plain facts on what is told of points: letters, few of them, at places within the text; the length of a plan.
-/
import Derived.Test.YtkfcgamdlckncaaGreatPkW
namespace Go.Proofs.YtkfcgamdlckncaaGreat
set_option linter.unusedVariables false
set_option linter.unusedSimpArgs false

/-- What is destroyed of variables, from the last one to the first one, by what is known. -/
def planK (k : Kn) (vs : List UInt8) : List UInt8 := if k = Kn.no then [] else vs.reverse.flatMap (fun v => if hasV k.must v then [45, v] else if hasV k.may v then [126, v] else [])

/-- The variables whose values a step destroys unsaid ahead of all else that it does. -/
def unsaidN (z : Nd) : List UInt8 := if z.kind = 43 ∨ z.kind = 61 then z.vars.take 1 else if z.kind = 94 ∨ z.kind = 33 then z.scope else []

abbrev Pt := Nat × List UInt8

mutual
/-- The points of a step and of what is within it, in ascending order, and the variables whose values are destroyed unsaid there. -/
def Nd.pts : Nd → List Pt
  | .mk c b e vs ar bs => (b, unsaidN (.mk c b e vs ar bs)) :: (bs.pts ++ if c = 123 then [(e - 1, vs)] else [])
def Nds.pts : Nds → List Pt
  | .nil => []
  | .cons x r => x.pts ++ r.pts
def Bds.pts : Bds → List Pt
  | .nil => []
  | .cons x r => x.pts ++ r.pts
end

/-- A step without bodies is no scope. -/
theorem fit_nil {c : UInt8} {b e : Nat} {vs ar : List UInt8} (h : (Nd.mk c b e vs ar .nil).Fit) : c ≠ 123 := by
  simp only [Nd.Fit] at h
  rcases h with ⟨rfl | rfl | rfl | rfl, _⟩ | ⟨rfl, _⟩ | ⟨rfl | rfl, _⟩ <;> decide

mutual
theorem Nd.pts_in : ∀ (x : Nd), x.Sp → x.Fit → ∀ p ∈ x.pts, x.beg ≤ p.1 ∧ p.1 < x.fin
  | .mk c b e vs ar .nil, h, hf, p, hp => by
    have hc := fit_nil hf
    simp only [Nd.Sp] at h
    simp [Nd.pts, Bds.pts, hc] at hp
    rw [hp]; simp only [Nd.beg, Nd.fin]; omega
  | .mk c b e vs ar (.cons x .nil), h, hf, p, hp => by
    simp only [Nd.Sp] at h
    simp only [Nd.Fit] at hf
    simp only [Nd.pts, Bds.pts, List.append_nil, List.mem_cons, List.mem_append] at hp
    simp only [Nd.beg, Nd.fin]
    rcases hp with rfl | hp | hp
    · simp only; omega
    · have := Nds.pts_in x _ _ h.2.2 hf.2 p hp; omega
    · split at hp
      · simp at hp; rw [hp]; simp only; omega
      · cases hp
  | .mk c b e vs ar (.cons x (.cons y .nil)), h, hf, p, hp => by
    simp only [Nd.Sp] at h
    simp only [Nd.Fit] at hf
    obtain ⟨m, h1, h2, h3, h4, h5⟩ := h
    obtain ⟨rfl, _, hfx, hfy⟩ := hf
    simp [Nd.pts, Bds.pts] at hp
    simp only [Nd.beg, Nd.fin]
    rcases hp with rfl | hp | hp
    · simp only; omega
    · have := Nds.pts_in x _ _ h4 hfx p hp; omega
    · have := Nds.pts_in y _ _ h5 hfy p hp
      have := h4.le
      omega
  | .mk c b e vs ar (.cons x (.cons y (.cons u r))), h, hf, p, hp => by simp only [Nd.Fit] at hf
theorem Nds.pts_in : ∀ (x : Nds) (lo hi : Nat), x.Sp lo hi → x.Fit → ∀ p ∈ x.pts, lo ≤ p.1 ∧ p.1 < hi
  | .nil, _, _, _, _, p, hp => by simp [Nds.pts] at hp
  | .cons x r, lo, hi, h, hf, p, hp => by
    simp only [Nds.Sp] at h
    simp only [Nds.Fit] at hf
    simp only [Nds.pts, List.mem_append] at hp
    have h1 := h.2.1.lt
    have h2 := h.2.2.le
    rcases hp with hp | hp
    · have := Nd.pts_in x h.2.1 hf.1 p hp; omega
    · have := Nds.pts_in r _ _ h.2.2 hf.2 p hp; omega
end

mutual
theorem Nd.pts_asc : ∀ (x : Nd), x.Sp → x.Fit → x.pts.Pairwise (fun p q => p.1 < q.1)
  | .mk c b e vs ar .nil, h, hf => by
    have hc := fit_nil hf
    simp [Nd.pts, Bds.pts, hc]
  | .mk c b e vs ar (.cons x .nil), h, hf => by
    simp only [Nd.Sp] at h
    simp only [Nd.Fit] at hf
    simp only [Nd.pts, Bds.pts, List.append_nil]
    have hi := Nds.pts_in x _ _ h.2.2 hf.2
    refine List.pairwise_cons.2 ⟨fun p hp => ?_, List.pairwise_append.2 ⟨Nds.pts_asc x _ _ h.2.2 hf.2, ?_, fun p hp q hq => ?_⟩⟩
    · rcases List.mem_append.1 hp with hp | hp
      · have := hi p hp; simp only; omega
      · split at hp
        · simp at hp; rw [hp]; simp only; omega
        · cases hp
    · split <;> simp
    · split at hq
      · simp at hq; rw [hq]; have := hi p hp; simp only; omega
      · cases hq
  | .mk c b e vs ar (.cons x (.cons y .nil)), h, hf => by
    simp only [Nd.Sp] at h
    simp only [Nd.Fit] at hf
    obtain ⟨m, h1, h2, h3, h4, h5⟩ := h
    obtain ⟨rfl, _, hfx, hfy⟩ := hf
    have e : (Nd.mk 63 b e vs ar (.cons x (.cons y .nil))).pts = (b, unsaidN (.mk 63 b e vs ar (.cons x (.cons y .nil)))) :: (x.pts ++ y.pts) := by
      simp [Nd.pts, Bds.pts]
    rw [e]
    have hx := Nds.pts_in x _ _ h4 hfx
    have hy := Nds.pts_in y _ _ h5 hfy
    refine List.pairwise_cons.2 ⟨fun p hp => ?_, List.pairwise_append.2 ⟨Nds.pts_asc x _ _ h4 hfx, Nds.pts_asc y _ _ h5 hfy, fun p hp q hq => ?_⟩⟩
    · rcases List.mem_append.1 hp with hp | hp
      · have := hx p hp; simp only; omega
      · have := hy p hp; simp only; omega
    · have := hx p hp; have := hy q hq; omega
  | .mk c b e vs ar (.cons x (.cons y (.cons u r))), h, hf => by simp only [Nd.Fit] at hf
theorem Nds.pts_asc : ∀ (x : Nds) (lo hi : Nat), x.Sp lo hi → x.Fit → x.pts.Pairwise (fun p q => p.1 < q.1)
  | .nil, _, _, _, _ => by simp [Nds.pts]
  | .cons x r, lo, hi, h, hf => by
    simp only [Nds.Sp] at h
    simp only [Nds.Fit] at hf
    simp only [Nds.pts]
    refine List.pairwise_append.2 ⟨Nd.pts_asc x h.2.1 hf.1, Nds.pts_asc r _ _ h.2.2 hf.2, fun p hp q hq => ?_⟩
    have h1 := Nd.pts_in x h.2.1 hf.1 p hp
    have h2 := Nds.pts_in r _ _ h.2.2 hf.2 q hq
    omega
end

mutual
theorem Nd.pts_noted : ∀ (x : Nd) (k : Kn), x.Fit → ∀ p ∈ x.pts, (Nd.note x k p.1).isSome = true
  | .mk c b e vs ar .nil, k, hf, p, hp => by
    have hc := fit_nil hf
    simp [Nd.pts, Bds.pts, hc] at hp
    rw [hp]; simp [Nd.note, point_isSome]
  | .mk c b e vs ar (.cons x .nil), k, hf, p, hp => by
    simp only [Nd.Fit] at hf
    simp only [Nd.pts, Bds.pts, List.append_nil, List.mem_cons, List.mem_append] at hp
    simp only [Nd.note]
    rcases hp with rfl | hp | hp
    · split <;> simp [over_isSome, point_isSome]
    · have h1 := fun k => Nds.pts_noted x k hf.2 p hp
      split <;> simp [over_isSome, h1]
    · split at hp
      · rename_i hc
        simp at hp
        rw [if_neg (by rw [hc]; decide), hp]; simp [over_isSome, point_isSome]
      · cases hp
  | .mk c b e vs ar (.cons x (.cons y .nil)), k, hf, p, hp => by
    simp only [Nd.Fit] at hf
    obtain ⟨rfl, _, hfx, hfy⟩ := hf
    simp [Nd.pts, Bds.pts] at hp
    simp only [Nd.note]
    rcases hp with rfl | hp | hp
    · simp [over_isSome, point_isSome]
    · simp [over_isSome, Nds.pts_noted x k hfx p hp]
    · simp [over_isSome, Nds.pts_noted y k hfy p hp]
  | .mk c b e vs ar (.cons x (.cons y (.cons u r))), k, hf, p, hp => by simp only [Nd.Fit] at hf
theorem Nds.pts_noted : ∀ (x : Nds) (k : Kn), x.Fit → ∀ p ∈ x.pts, (Nds.note x k p.1).isSome = true
  | .nil, _, _, p, hp => by simp [Nds.pts] at hp
  | .cons x r, k, hf, p, hp => by
    simp only [Nds.Fit] at hf
    simp only [Nds.pts, List.mem_append] at hp
    simp only [Nds.note, over_isSome]
    rcases hp with hp | hp
    · simp [Nd.pts_noted x k hf.1 p hp]
    · simp [Nds.pts_noted r _ hf.2 p hp]
end

/-- What is known at a place of a program. -/
def knownJ (x : Nd) (j : Nat) : Kn := (notesP x j).getD Kn.no

theorem pts_P {s : ByteArray} {x : Nd} (hp : progP s = some x) {p : Pt} (hm : p ∈ x.pts) : notesP x p.1 = some (knownJ x p.1) ∧ (knownJ x p.1).Wf := by
  have h := Nd.pts_noted x ⟨0, 0⟩ (progP_fit hp) p hm
  have e : notesP x p.1 = some (knownJ x p.1) := by
    unfold knownJ notesP
    cases hn : Nd.note x ⟨0, 0⟩ p.1 with
    | none => rw [hn] at h; cases h
    | some k => rfl
  exact ⟨e, Nd.note_wf x _ _ _ (progP_sp hp) wf_start e⟩

/-- The points whose plan is not empty, and their plans. -/
def plansL (x : Nd) : List Pt := (x.pts.map (fun p => (p.1, planK (knownJ x p.1) p.2))).filter (fun p => !p.2.isEmpty)

/-- PlanAt. -/
def planAtP (s : ByteArray) (at_ : Int) : Option (List UInt8) := match progP s with
  | none => none
  | some x => match x.pts.find? (fun p => (p.1 : Int) == at_) with
    | none => none
    | some p => if knownJ x p.1 = Kn.no then none else some (planK (knownJ x p.1) p.2)
/-- PlansOf. -/
def plansP (s : ByteArray) : Option (List Nat) := match progP s with | none => none | some x => some ((plansL x).map Prod.fst)
/-- IsWritten. -/
def writtenP (s : ByteArray) : Bool := match progP s with | none => false | some x => (plansL x).isEmpty

end Go.Proofs.YtkfcgamdlckncaaGreat

namespace Go.Proofs.YtkfcgamdlckncaaGreat
set_option linter.unusedVariables false
set_option linter.unusedSimpArgs false

def begsL (l : List Nd) : List Nat := l.map Nd.beg
def endsL (l : List Nd) : List Nat := (l.filter (fun z => z.kind == 123)).map (fun z => z.fin - 1)

theorem begsL_app (a b : List Nd) : begsL (a ++ b) = begsL a ++ begsL b := by unfold begsL; rw [List.map_append]
theorem endsL_app (a b : List Nd) : endsL (a ++ b) = endsL a ++ endsL b := by unfold endsL; rw [List.filter_append, List.map_append]

theorem perm_two {a b c d p q : List Nat} (h1 : p.Perm (a ++ b)) (h2 : q.Perm (c ++ d)) : (p ++ q).Perm ((a ++ c) ++ (b ++ d)) := by
  refine (h1.append h2).trans ?_
  rw [List.append_assoc, List.append_assoc]
  refine List.Perm.append_left a ?_
  rw [← List.append_assoc, ← List.append_assoc]
  exact List.Perm.append_right d List.perm_append_comm

mutual
theorem Nd.pts_perm : ∀ x : Nd, (x.pts.map Prod.fst).Perm (begsL x.pre.list ++ endsL x.pre.list)
  | .mk c b e vs ar bs => by
    have h := Bds.pts_perm bs
    have e1 : (Nd.mk c b e vs ar bs).pre.list = .mk c b e vs ar bs :: bs.pre.list := rfl
    have e2 : ((Nd.mk c b e vs ar bs).pts).map Prod.fst = b :: (bs.pts.map Prod.fst ++ if c = 123 then [e - 1] else []) := by
      simp only [Nd.pts, List.map_cons, List.map_append]
      split <;> rfl
    have e3 : begsL (.mk c b e vs ar bs :: bs.pre.list) = b :: begsL bs.pre.list := rfl
    have e4 : endsL (.mk c b e vs ar bs :: bs.pre.list) = (if c = 123 then [e - 1] else []) ++ endsL bs.pre.list := by
      unfold endsL
      by_cases hc : c = 123
      · rw [if_pos hc, List.filter_cons, if_pos (by simp [Nd.kind, hc])]; rfl
      · rw [if_neg hc, List.filter_cons, if_neg (by simp [Nd.kind, hc])]; rfl
    rw [e1, e2, e3, e4, List.cons_append]
    refine List.Perm.cons b ?_
    generalize (if c = 123 then [e - 1] else []) = E
    refine (h.append_right E).trans ?_
    rw [List.append_assoc]
    exact List.Perm.append_left _ List.perm_append_comm
theorem Nds.pts_perm : ∀ x : Nds, (x.pts.map Prod.fst).Perm (begsL x.pre.list ++ endsL x.pre.list)
  | .nil => by simp [Nds.pts, Nds.pre, Nds.list, begsL, endsL]
  | .cons x r => by
    have h1 := Nd.pts_perm x
    have h2 := Nds.pts_perm r
    simp only [Nds.pts, Nds.pre, Nds.list_app, List.map_append, begsL_app, endsL_app]
    exact perm_two h1 h2
theorem Bds.pts_perm : ∀ x : Bds, (x.pts.map Prod.fst).Perm (begsL x.pre.list ++ endsL x.pre.list)
  | .nil => by simp [Bds.pts, Bds.pre, Nds.list, begsL, endsL]
  | .cons x r => by
    have h1 := Nds.pts_perm x
    have h2 := Bds.pts_perm r
    simp only [Bds.pts, Bds.pre, Nds.list_app, List.map_append, begsL_app, endsL_app]
    exact perm_two h1 h2
end

abbrev Asc (l : List Nat) : Prop := l.Pairwise (· < ·)

theorem pts_ascN {x : Nd} (h : x.Sp) (hf : x.Fit) : Asc (x.pts.map Prod.fst) := by
  unfold Asc
  rw [List.pairwise_map]
  exact Nd.pts_asc x h hf

theorem asc_ext : ∀ {l1 l2 : List Nat}, Asc l1 → Asc l2 → (∀ a, a ∈ l1 ↔ a ∈ l2) → l1 = l2
  | [], [], _, _, _ => rfl
  | [], b :: r, _, _, h => absurd ((h b).2 (by simp)) (by simp)
  | a :: r, [], _, _, h => absurd ((h a).1 (by simp)) (by simp)
  | a :: r, b :: s, h1, h2, h => by
    have g1 := List.pairwise_cons.1 h1
    have g2 := List.pairwise_cons.1 h2
    have e : a = b := by
      have m1 : a ∈ b :: s := (h a).1 (by simp)
      have m2 : b ∈ a :: r := (h b).2 (by simp)
      rcases List.mem_cons.1 m1 with e | m1
      · exact e
      · rcases List.mem_cons.1 m2 with e | m2
        · exact e.symm
        · have := g1.1 b m2; have := g2.1 a m1; omega
    subst e
    rw [asc_ext g1.2 g2.2 (fun u => ⟨fun hu => ?_, fun hu => ?_⟩)]
    · rcases List.mem_cons.1 ((h u).1 (List.mem_cons_of_mem _ hu)) with e | m
      · have := g1.1 u hu; omega
      · exact m
    · rcases List.mem_cons.1 ((h u).2 (List.mem_cons_of_mem _ hu)) with e | m
      · have := g2.1 u hu; omega
      · exact m

/-- Where a number is put in: behind all that are no greater. -/
def insN (e : Nat) (l : List Nat) : List Nat := l.filter (fun a => decide (a ≤ e)) ++ e :: l.filter (fun a => decide (e < a))

theorem insN_asc {e : Nat} {l : List Nat} (h : Asc l) (hn : e ∉ l) : Asc (insN e l) ∧ ∀ a, a ∈ insN e l ↔ a = e ∨ a ∈ l := by
  unfold insN
  refine ⟨List.pairwise_append.2 ⟨h.filter _, List.pairwise_cons.2 ⟨fun a ha => by simpa using (List.mem_filter.1 ha).2, h.filter _⟩, fun a ha b hb => ?_⟩, fun a => ?_⟩
  · have h1 : a ≤ e := by simpa using (List.mem_filter.1 ha).2
    have h2 : a ≠ e := fun e2 => hn (e2 ▸ (List.mem_filter.1 ha).1)
    rcases List.mem_cons.1 hb with rfl | hb
    · omega
    · have : e < b := by simpa using (List.mem_filter.1 hb).2
      omega
  · simp only [List.mem_append, List.mem_cons, List.mem_filter, decide_eq_true_eq]
    constructor
    · rintro (⟨h1, _⟩ | rfl | ⟨h1, _⟩)
      · exact .inr h1
      · exact .inl rfl
      · exact .inr h1
    · rintro (rfl | h1)
      · exact .inr (.inl rfl)
      · rcases Nat.lt_or_ge e a with h2 | h2
        · exact .inr (.inr ⟨h1, h2⟩)
        · exact .inl ⟨h1, h2⟩

/-- Cut where the walk stops: what is in front is no greater, what is behind is greater. -/
theorem insN_cut {e : Nat} {l : List Nat} (h : Asc l) {k : Nat} (hk : k ≤ l.length) (h1 : ∀ i (hi : i < l.length), k ≤ i → e < l[i]) (h2 : k = 0 ∨ ∃ v, l[k - 1]? = some v ∧ v ≤ e) : l.take k ++ e :: l.drop k = insN e l := by
  have ht : ∀ a ∈ l.take k, a ≤ e := by
    intro a ha
    rcases h2 with h2 | ⟨v, hv, hve⟩
    · rw [h2] at ha; simp at ha
    · obtain ⟨i, hi, hia⟩ := List.mem_iff_getElem.1 ha
      rw [List.getElem_take] at hia
      have hik : i < k := by simp at hi; omega
      have hil : i < l.length := by omega
      obtain ⟨hkl, hvk⟩ := List.getElem?_eq_some_iff.1 hv
      rcases Nat.lt_or_ge i (k - 1) with hlt | hge
      · have := List.pairwise_iff_getElem.1 h i (k - 1) hil hkl hlt
        omega
      · have e1 : i = k - 1 := by omega
        subst e1
        omega
  have hd : ∀ a ∈ l.drop k, e < a := by
    intro a ha
    obtain ⟨i, hi, hia⟩ := List.mem_iff_getElem.1 ha
    rw [List.getElem_drop] at hia
    rw [← hia]
    exact h1 (k + i) (by simp at hi; omega) (by omega)
  have e1 : l.filter (fun a => decide (a ≤ e)) = l.take k := by
    conv => lhs; rw [← List.take_append_drop k l]
    rw [List.filter_append, List.filter_eq_self.2 (fun a ha => by simpa using ht a ha), List.filter_eq_nil_iff.2 (fun a ha => by have := hd a ha; simp; omega), List.append_nil]
  have e2 : l.filter (fun a => decide (e < a)) = l.drop k := by
    conv => lhs; rw [← List.take_append_drop k l]
    rw [List.filter_append, List.filter_eq_nil_iff.2 (fun a ha => by have := ht a ha; simp; omega), List.filter_eq_self.2 (fun a ha => by simpa using hd a ha), List.nil_append]
  unfold insN
  rw [e1, e2]

theorem fold_asc : ∀ (es l : List Nat), Asc l → (l ++ es).Nodup → Asc (es.foldl (fun l e => insN e l) l) ∧ ∀ a, a ∈ es.foldl (fun l e => insN e l) l ↔ a ∈ l ∨ a ∈ es
  | [], l, h, _ => ⟨h, fun a => by simp⟩
  | e :: es, l, h, hn => by
    have hn2 := List.nodup_append.1 hn
    have hel : e ∉ l := fun hm => hn2.2.2 e hm e (by simp) rfl
    obtain ⟨g1, g2⟩ := insN_asc h hel
    have hnd : (insN e l ++ es).Nodup := by
      refine List.nodup_append.2 ⟨?_, (List.nodup_cons.1 hn2.2.1).2, fun a ha b hb => ?_⟩
      · exact g1.imp (fun hlt => by omega)
      · rcases (g2 a).1 ha with rfl | ha
        · intro e2; subst e2; exact (List.nodup_cons.1 hn2.2.1).1 hb
        · exact hn2.2.2 a ha b (by simp [hb])
    obtain ⟨f1, f2⟩ := fold_asc es (insN e l) g1 hnd
    refine ⟨f1, fun a => ?_⟩
    rw [List.foldl_cons]
    rw [f2 a, g2 a]
    simp only [List.mem_cons]
    constructor
    · rintro ((h | h) | h)
      · exact .inr (.inl h)
      · exact .inl h
      · exact .inr (.inr h)
    · rintro (h | h | h)
      · exact .inl (.inr h)
      · exact .inl (.inl h)
      · exact .inr h

mutual
theorem Nd.begs_sub : ∀ x : Nd, (begsL x.pre.list).Sublist (x.pts.map Prod.fst)
  | .mk c b e vs ar bs => by
    have h := Bds.begs_sub bs
    have e1 : (Nd.mk c b e vs ar bs).pre.list = .mk c b e vs ar bs :: bs.pre.list := rfl
    have e2 : ((Nd.mk c b e vs ar bs).pts).map Prod.fst = b :: (bs.pts.map Prod.fst ++ if c = 123 then [e - 1] else []) := by
      simp only [Nd.pts, List.map_cons, List.map_append]
      split <;> rfl
    have e3 : begsL (.mk c b e vs ar bs :: bs.pre.list) = b :: begsL bs.pre.list := rfl
    rw [e1, e2, e3]
    exact (h.trans (List.sublist_append_left _ _)).cons_cons b
theorem Nds.begs_sub : ∀ x : Nds, (begsL x.pre.list).Sublist (x.pts.map Prod.fst)
  | .nil => by simp [Nds.pts, Nds.pre, Nds.list, begsL]
  | .cons x r => by
    simp only [Nds.pts, Nds.pre, Nds.list_app, List.map_append, begsL_app]
    exact (Nd.begs_sub x).append (Nds.begs_sub r)
theorem Bds.begs_sub : ∀ x : Bds, (begsL x.pre.list).Sublist (x.pts.map Prod.fst)
  | .nil => by simp [Bds.pts, Bds.pre, Nds.list, begsL]
  | .cons x r => by
    simp only [Bds.pts, Bds.pre, Nds.list_app, List.map_append, begsL_app]
    exact (Nds.begs_sub x).append (Bds.begs_sub r)
end

/-- What the model finds is what the tree tells. -/
theorem points_eq {s : ByteArray} {x : Nd} (hp : progP s = some x) : (endsL x.pre.list).foldl (fun l e => insN e l) (begsL x.pre.list) = x.pts.map Prod.fst := by
  have hA := pts_ascN (progP_sp hp) (progP_fit hp)
  have hP := Nd.pts_perm x
  have hN : (begsL x.pre.list ++ endsL x.pre.list).Nodup := hP.nodup_iff.1 (hA.imp (fun hlt => by omega))
  have hB : Asc (begsL x.pre.list) := hA.sublist (Nd.begs_sub x)
  obtain ⟨f1, f2⟩ := fold_asc (endsL x.pre.list) (begsL x.pre.list) hB hN
  refine asc_ext f1 hA (fun a => ?_)
  rw [f2 a, hP.mem_iff, List.mem_append]

end Go.Proofs.YtkfcgamdlckncaaGreat

namespace Go.Proofs.YtkfcgamdlckncaaGreat
set_option linter.unusedVariables false
set_option linter.unusedSimpArgs false

/-- What a step tells of a place: its plan ahead, or that ahead of its end. -/
def tellK (k : Kn) (at_ : Nat) (acc : List UInt8) (m : Nd) : List UInt8 :=
  if m.beg = at_ then planK k (unsaidN m) else if m.kind = 123 ∧ m.fin - 1 = at_ then planK k m.vars else acc
/-- What the last of some steps tells. -/
def lastK (k : Kn) (at_ : Nat) (l : List Nd) : List UInt8 := l.foldl (tellK k at_) []
theorem lastK_snoc (k : Kn) (at_ : Nat) (l : List Nd) (m : Nd) : lastK k at_ (l ++ [m]) = tellK k at_ (lastK k at_ l) m := by
  unfold lastK; rw [List.foldl_append]; rfl

theorem foldl_hit {α β : Type} (f : β → α → β) (V : β) (hit : α → Prop) : ∀ (l : List α) (acc : β), (∀ m ∈ l, ∀ acc, f acc m = V ∨ (¬ hit m ∧ f acc m = acc)) → (acc = V ∨ ∃ m ∈ l, hit m) → l.foldl f acc = V
  | [], acc, _, h => by
    rcases h with h | ⟨m, hm, _⟩
    · exact h
    · cases hm
  | m :: r, acc, hf, h => by
    rw [List.foldl_cons]
    refine foldl_hit f V hit r _ (fun m' hm' => hf m' (List.mem_cons_of_mem _ hm')) ?_
    rcases hf m (by simp) acc with e | ⟨hn, e⟩
    · exact .inl e
    · rcases h with h | ⟨m', hm', hh⟩
      · exact .inl (e.trans h)
      · rcases List.mem_cons.1 hm' with rfl | hm'
        · exact absurd hh hn
        · exact .inr ⟨m', hm', hh⟩

theorem asc_one : ∀ {l : List Pt}, l.Pairwise (fun p q => p.1 < q.1) → ∀ {p q : Pt}, p ∈ l → q ∈ l → p.1 = q.1 → p = q
  | [], _, p, q, hp, _, _ => by cases hp
  | a :: r, h, p, q, hp, hq, e => by
    have g := List.pairwise_cons.1 h
    rcases List.mem_cons.1 hp with e1 | hp
    · rcases List.mem_cons.1 hq with e2 | hq
      · exact e1.trans e2.symm
      · have := g.1 q hq; rw [← e1] at this; omega
    · rcases List.mem_cons.1 hq with e2 | hq
      · have := g.1 p hp; rw [← e2] at this; omega
      · exact asc_one g.2 hp hq e

/-- What a step tells of its own. -/
def ownPts (m : Nd) : List Pt := (m.beg, unsaidN m) :: (if m.kind = 123 then [(m.fin - 1, m.vars)] else [])

mutual
theorem Nd.pts_own : ∀ (x : Nd) (p : Pt), p ∈ x.pts ↔ ∃ m ∈ x.pre.list, p ∈ ownPts m
  | .mk c b e vs ar bs, p => by
    have h := Bds.pts_own bs p
    have e1 : (Nd.mk c b e vs ar bs).pre.list = .mk c b e vs ar bs :: bs.pre.list := rfl
    rw [e1]
    simp only [Nd.pts, List.mem_cons, List.mem_append, h, ownPts, Nd.beg, Nd.kind, Nd.fin, Nd.vars, exists_eq_or_imp]
    constructor
    · rintro (h1 | h1 | h1)
      · exact .inl (.inl h1)
      · exact .inr h1
      · exact .inl (.inr h1)
    · rintro ((h1 | h1) | h1)
      · exact .inl h1
      · exact .inr (.inr h1)
      · exact .inr (.inl h1)
theorem Nds.pts_own : ∀ (x : Nds) (p : Pt), p ∈ x.pts ↔ ∃ m ∈ x.pre.list, p ∈ ownPts m
  | .nil, p => by simp [Nds.pts, Nds.pre, Nds.list]
  | .cons x r, p => by
    have h1 := Nd.pts_own x p
    have h2 := Nds.pts_own r p
    simp only [Nds.pts, Nds.pre, Nds.list_app, List.mem_append, h1, h2]
    constructor
    · rintro (⟨m, hm, h⟩ | ⟨m, hm, h⟩)
      · exact ⟨m, .inl hm, h⟩
      · exact ⟨m, .inr hm, h⟩
    · rintro ⟨m, hm | hm, h⟩
      · exact .inl ⟨m, hm, h⟩
      · exact .inr ⟨m, hm, h⟩
theorem Bds.pts_own : ∀ (x : Bds) (p : Pt), p ∈ x.pts ↔ ∃ m ∈ x.pre.list, p ∈ ownPts m
  | .nil, p => by simp [Bds.pts, Bds.pre, Nds.list]
  | .cons x r, p => by
    have h1 := Nds.pts_own x p
    have h2 := Bds.pts_own r p
    simp only [Bds.pts, Bds.pre, Nds.list_app, List.mem_append, h1, h2]
    constructor
    · rintro (⟨m, hm, h⟩ | ⟨m, hm, h⟩)
      · exact ⟨m, .inl hm, h⟩
      · exact ⟨m, .inr hm, h⟩
    · rintro ⟨m, hm | hm, h⟩
      · exact .inl ⟨m, hm, h⟩
      · exact .inr ⟨m, hm, h⟩
end

theorem lastK_pts {x : Nd} (hs : x.Sp) (hf : x.Fit) (k : Kn) {p : Pt} (hp : p ∈ x.pts) : lastK k p.1 x.pre.list = planK k p.2 := by
  have ha := Nd.pts_asc x hs hf
  unfold lastK
  refine foldl_hit _ _ (fun m => m.beg = p.1 ∨ (m.kind = 123 ∧ m.fin - 1 = p.1)) _ _ (fun m hm acc => ?_) (.inr ?_)
  · unfold tellK
    by_cases h1 : m.beg = p.1
    · rw [if_pos h1]
      have hq : ((m.beg, unsaidN m) : Pt) ∈ x.pts := (Nd.pts_own x _).2 ⟨m, hm, by simp [ownPts]⟩
      have := asc_one ha hq hp h1
      exact .inl (by rw [← this])
    · rw [if_neg h1]
      by_cases h2 : m.kind = 123 ∧ m.fin - 1 = p.1
      · rw [if_pos h2]
        have hq : ((m.fin - 1, m.vars) : Pt) ∈ x.pts := (Nd.pts_own x _).2 ⟨m, hm, by simp [ownPts, h2.1]⟩
        have := asc_one ha hq hp h2.2
        exact .inl (by rw [← this])
      · rw [if_neg h2]
        exact .inr ⟨fun h => h.elim h1 h2, rfl⟩
  · obtain ⟨m, hm, h⟩ := (Nd.pts_own x p).1 hp
    refine ⟨m, hm, ?_⟩
    unfold ownPts at h
    rcases List.mem_cons.1 h with rfl | h
    · exact .inl rfl
    · split at h
      · rename_i hc
        simp at h
        exact .inr ⟨hc, by rw [h]⟩
      · cases h

/-! ### the steps of a step's bodies -/
theorem Nds.pts_list : ∀ x : Nds, x.pts = x.list.flatMap Nd.pts
  | .nil => rfl
  | .cons x r => by simp [Nds.pts, Nds.list, Nds.pts_list r]
theorem Bds.pts_kids : ∀ x : Bds, x.pts = x.kids.flatMap Nd.pts
  | .nil => rfl
  | .cons x r => by simp [Bds.pts, Bds.kids, Nds.pts_list x, Bds.pts_kids r]
/-- What comes last of a step. -/
def lastPt (x : Nd) : List Pt := if x.kind = 123 then [(x.fin - 1, x.vars)] else []
theorem Nd.pts_eq (x : Nd) : x.pts = (x.beg, unsaidN x) :: (x.bodies.kids.flatMap Nd.pts ++ lastPt x) := by
  obtain ⟨c, b, e, vs, ar, bs⟩ := x
  rw [Nd.pts, Bds.pts_kids]
  rfl

theorem Nds.fs_list : ∀ (x : Nds) (lo hi : Nat), x.Sp lo hi → x.Fit → ∀ z ∈ x.list, z.Sp ∧ z.Fit
  | .nil, _, _, _, _, z, hz => by simp [Nds.list] at hz
  | .cons x r, lo, hi, h, hf, z, hz => by
    simp only [Nds.Sp] at h
    simp only [Nds.Fit] at hf
    simp only [Nds.list, List.mem_cons] at hz
    rcases hz with rfl | hz
    · exact ⟨h.2.1, hf.1⟩
    · exact Nds.fs_list r _ _ h.2.2 hf.2 z hz
theorem kids_fs {x z : Nd} (h : x.Sp) (hf : x.Fit) (hz : z ∈ x.bodies.kids) : z.Sp ∧ z.Fit := by
  obtain ⟨c, b, e, vs, ar, bs⟩ := x
  match bs, h, hf, hz with
  | .nil, h, hf, hz => simp [Nd.bodies, Bds.kids] at hz
  | .cons y .nil, h, hf, hz =>
    simp only [Nd.Sp] at h
    simp only [Nd.Fit] at hf
    simp only [Nd.bodies, Bds.kids, List.append_nil] at hz
    exact Nds.fs_list y _ _ h.2.2 hf.2 z hz
  | .cons y (.cons u .nil), h, hf, hz =>
    simp only [Nd.Sp] at h
    simp only [Nd.Fit] at hf
    obtain ⟨m, _, _, _, h4, h5⟩ := h
    simp only [Nd.bodies, Bds.kids, List.append_nil, List.mem_append] at hz
    rcases hz with hz | hz
    · exact Nds.fs_list y _ _ h4 hf.2.2.1 z hz
    · exact Nds.fs_list u _ _ h5 hf.2.2.2 z hz
  | .cons y (.cons u (.cons q r)), h, hf, hz => simp only [Nd.Fit] at hf
theorem vars_ltr {x : Nd} (h : x.Sp) (hf : x.Fit) : ∀ v ∈ x.vars, ltr v := by
  obtain ⟨c, b, e, vs, ar, bs⟩ := x
  match bs, h, hf with
  | .nil, h, hf => simp only [Nd.Sp] at h; exact h.2
  | .cons y .nil, h, hf => simp only [Nd.Sp] at h; exact h.1
  | .cons y (.cons u .nil), h, hf =>
    simp only [Nd.Fit] at hf
    intro v hv
    have hv : v ∈ vs := hv
    rw [hf.2.1] at hv; cases hv
  | .cons y (.cons u (.cons q r)), h, hf => simp only [Nd.Fit] at hf

end Go.Proofs.YtkfcgamdlckncaaGreat

namespace Go.Proofs.YtkfcgamdlckncaaGreat
set_option linter.unusedVariables false
set_option linter.unusedSimpArgs false
open Go.RowKit

/-! ### what is told of points -/
theorem pts_ok {s : ByteArray} (N : Nat) : ∀ (x : Nd) (d : Nat), x.pre.len = N → x.Ok s d → x.Sp → x.Fit → (∀ v ∈ x.scope, ltr v) → ∀ p ∈ x.pts, (∀ v ∈ p.2, ltr v) ∧ p.2.length ≤ s.size := by
  refine Nat.strongRecOn N (fun N ih => ?_)
  intro x d hN hx hs hf hl p hp
  have hv := vars_ltr hs hf
  have hg := hx.good
  have hroom := hg.room
  have hle := hg.le
  rw [Nd.pts_eq] at hp
  rcases List.mem_cons.1 hp with rfl | hp
  · unfold unsaidN
    simp only
    split
    · refine ⟨fun v h => hv v (List.mem_of_mem_take h), ?_⟩
      rw [List.length_take]; omega
    · split
      · exact ⟨hl, by omega⟩
      · exact ⟨fun v h => (by cases h), Nat.zero_le _⟩
  · rcases List.mem_append.1 hp with hp | hp
    · obtain ⟨z, hz, hp⟩ := List.mem_flatMap.1 hp
      obtain ⟨h1, h2⟩ := hg.kids z hz
      obtain ⟨h3, h4⟩ := kids_fs hs hf hz
      have := kid_small hz
      exact ih z.pre.len (by omega) z _ rfl h2 h3 h4 (fun v h => by
        rw [h1] at h
        rcases List.mem_append.1 h with h | h
        · exact hl v h
        · exact hv v h) p hp
    · unfold lastPt at hp
      split at hp
      · simp at hp
        rw [hp]
        exact ⟨hv, by simp only; omega⟩
      · cases hp

theorem progP_pts {s : ByteArray} {x : Nd} (hp : progP s = some x) : ∀ p ∈ x.pts, (∀ v ∈ p.2, ltr v) ∧ p.2.length ≤ 80 ∧ p.1 ≤ 80 := by
  intro p hm
  obtain ⟨h1, h2, _, _, _, h6⟩ := progP_ok hp
  have h := pts_ok x.pre.len x 0 rfl h2 (progP_sp hp) (progP_fit hp) (by rw [h1]; intro v hv; cases hv) p hm
  have hi := Nd.pts_in x (progP_sp hp) (progP_fit hp) p hm
  have := h2.good.le
  exact ⟨h.1, by omega, by omega⟩

theorem planK_len (k : Kn) (vs : List UInt8) : (planK k vs).length ≤ 2 * vs.length := by
  unfold planK
  split
  · exact Nat.zero_le _
  · have : ∀ l : List UInt8, (l.flatMap (fun v => if hasV k.must v then [45, v] else if hasV k.may v then [126, v] else [])).length ≤ 2 * l.length := by
      intro l
      induction l with
      | nil => exact Nat.le_refl _
      | cons a r ih =>
        rw [List.flatMap_cons, List.length_append, List.length_cons]
        have : (if hasV k.must a then [45, a] else if hasV k.may a then [126, a] else ([] : List UInt8)).length ≤ 2 := by
          split
          · exact Nat.le_refl _
          · split
            · exact Nat.le_refl _
            · exact Nat.zero_le _
        omega
    have h := this vs.reverse
    rwa [List.length_reverse] at h

theorem noteI_nat (M : Notes) (k : Nat) : noteI M (k : Int) = M k := by
  unfold noteI
  rw [if_pos (by omega)]
  rfl

/-- Every step within a step is as good. -/
theorem pre_fs (N : Nat) : ∀ (x : Nd), x.pre.len = N → x.Sp → x.Fit → ∀ z ∈ x.pre.list, z.Sp ∧ z.Fit := by
  refine Nat.strongRecOn N (fun N ih => ?_)
  intro x hN hs hf z hz
  rw [← Nd.preD_fst x 0] at hz
  obtain ⟨p, hp, rfl⟩ := List.mem_map.1 hz
  rw [Nd.preD_eq] at hp
  rcases List.mem_cons.1 hp with rfl | hp
  · exact ⟨hs, hf⟩
  · obtain ⟨y, hy, hp⟩ := List.mem_flatMap.1 hp
    obtain ⟨h3, h4⟩ := kids_fs hs hf hy
    have := kid_small hy
    exact ih y.pre.len (by omega) y rfl h3 h4 p.1 (by rw [← Nd.preD_fst y (inD x.kind 0)]; exact List.mem_map_of_mem hp)

theorem asc_len : ∀ (l : List Nat) (lo hi : Nat), Asc l → (∀ a ∈ l, lo ≤ a ∧ a < hi) → l.length ≤ hi - lo
  | [], _, _, _, _ => Nat.zero_le _
  | a :: r, lo, hi, h, hb => by
    have g := List.pairwise_cons.1 h
    have := asc_len r (a + 1) hi g.2 (fun b hm => ⟨g.1 b hm, (hb b (by simp [hm])).2⟩)
    have := hb a (by simp)
    simp only [List.length_cons]
    omega

end Go.Proofs.YtkfcgamdlckncaaGreat
