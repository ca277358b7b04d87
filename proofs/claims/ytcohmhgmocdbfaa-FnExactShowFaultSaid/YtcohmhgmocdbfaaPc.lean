/-
  Runs with a choice more; all choices of runs, level by level and as a queue.
-/
import Derived.Test.YtcohmhgmocdbfaaKcW
namespace Go.Proofs.Ytcohmhgmocdbfaa
set_option linter.unusedVariables false
set_option linter.unusedSimpArgs false
open Go.RowKit

def St.push (s : St) (d : UInt8) : St := { s with ch := s.ch ++ [d] }

/-- What a run with one choice more has to do with the run. -/
def Ext (d : UInt8) (o o' : Out) : Prop :=
  match o with
  | .go t => o' = .go (t.push d)
  | .stop (.stuck br) t => t.ch = [] → (d = firstOf br ∨ d = otherOf br) → o'.st.ch = []
  | .stop y t => o' = .stop y (t.push d)

/-- Choices are used up, and a choice more is used behind the others. -/
structure More (f : St → Out) : Prop where
  less : ∀ s, (f s).st.ch.length ≤ s.ch.length
  ext : ∀ d s, Ext d (f s) (f (s.push d))

theorem none_of_len {s t : St} (h : t.ch.length ≤ s.ch.length) (hs : s.ch = []) : t.ch = [] := by
  rw [hs] at h
  exact List.length_eq_zero_iff.1 (Nat.le_zero.1 h)

theorem destroy_push (s : St) (d v : UInt8) : (s.push d).destroy v = (s.destroy v).push d := by
  unfold St.destroy
  show (if s.val v = 0 then _ else _) = _
  split <;> rfl

theorem destroyAll_push (s : St) (d : UInt8) : ∀ l : List UInt8, (s.push d).destroyAll l = (s.destroyAll l).push d
  | [] => rfl
  | v :: r => by
    show ((s.push d).destroyAll r).destroy v = ((s.destroyAll r).destroy v).push d
    rw [destroyAll_push s d r, destroy_push]

theorem More.seq {f g : St → Out} (hf : More f) (hg : More g) : More (fun s => (f s).andThen g) := by
  constructor
  · intro s
    have h := hf.less s
    show ((f s).andThen g).st.ch.length ≤ _
    cases ho : f s with
    | go t => rw [ho] at h; exact Nat.le_trans (hg.less t) h
    | stop y t => rw [ho] at h; exact h
  · intro d s
    have h := hf.ext d s
    show Ext d ((f s).andThen g) ((f (s.push d)).andThen g)
    cases ho : f s with
    | go t =>
      rw [ho] at h
      have h' : f (s.push d) = .go (t.push d) := h
      rw [h']
      exact hg.ext d t
    | stop y t =>
      rw [ho] at h
      cases y with
      | stuck br =>
        intro h1 h2
        have h3 : (f (s.push d)).st.ch = [] := h h1 h2
        show ((f (s.push d)).andThen g).st.ch = []
        cases ho' : f (s.push d) with
        | go u =>
          rw [ho'] at h3
          exact none_of_len (hg.less u) h3
        | stop y' u => rw [ho'] at h3; exact h3
      | ret => rw [show f (s.push d) = _ from h]; rfl
      | fail => rw [show f (s.push d) = _ from h]; rfl
      | fault k => rw [show f (s.push d) = _ from h]; rfl

theorem More.go (f : St → St) (h1 : ∀ s, (f s).ch = s.ch) (h2 : ∀ s d, f (s.push d) = (f s).push d) : More (fun s => .go (f s)) :=
  ⟨fun s => by show (f s).ch.length ≤ _; rw [h1]; exact Nat.le_refl _, fun d s => by show Out.go (f (s.push d)) = .go _; rw [h2]⟩

theorem one_more (k : Nat) (c v : UInt8) : More (fun s => (s.comeBy k).one k c v) := by
  have hd : ∀ s : St, ((s.comeBy k).destroy v).ch = s.ch := fun s => (evs_destroy (s.comeBy k) v).ch
  have hp : ∀ (s : St) d, ((s.push d).comeBy k).destroy v = ((s.comeBy k).destroy v).push d := fun s d => destroy_push (s.comeBy k) d v
  unfold St.one
  by_cases h1 : c = 43
  · simp only [if_pos h1]
    exact More.go _ (fun s => hd s) (fun s d => by rw [hp]; rfl)
  by_cases h2 : c = 46
  · simp only [if_neg h1, if_pos h2]
    constructor
    · intro s
      show Nat.le (Out.st (ite _ _ _)).ch.length _
      split <;> exact Nat.le_refl _
    · intro d s
      by_cases h0 : (s.comeBy k).val v = 0
      · have h0' : ((s.push d).comeBy k).val v = 0 := h0
        simp only [h0, h0', if_true]
        rfl
      · have h0' : ¬ ((s.push d).comeBy k).val v = 0 := h0
        simp only [h0, h0', if_false]
        rfl
  by_cases h3 : c = 45
  · simp only [if_neg h1, if_neg h2, if_pos h3]
    constructor
    · intro s
      show Nat.le (Out.st (ite _ _ _)).ch.length _
      split
      · exact Nat.le_refl _
      · show ((s.comeBy k).destroy v).ch.length ≤ _; rw [hd]; exact Nat.le_refl _
    · intro d s
      by_cases h0 : (s.comeBy k).val v = 0
      · have h0' : ((s.push d).comeBy k).val v = 0 := h0
        simp only [h0, h0', if_true]
        rfl
      · have h0' : ¬ ((s.push d).comeBy k).val v = 0 := h0
        simp only [h0, h0', if_false]
        show Out.go _ = Out.go _
        rw [hp]
  · simp only [if_neg h1, if_neg h2, if_neg h3]
    exact More.go _ (fun s => hd s) (fun s d => hp s d)

theorem two_more (k : Nat) (v u : UInt8) : More (fun s => (s.comeBy k).two k v u) := by
  have hd : ∀ s : St, ((s.comeBy k).destroy v).ch = s.ch := fun s => (evs_destroy (s.comeBy k) v).ch
  have hp : ∀ (s : St) d, ((s.push d).comeBy k).destroy v = ((s.comeBy k).destroy v).push d := fun s d => destroy_push (s.comeBy k) d v
  unfold St.two
  constructor
  · intro s
    show Nat.le (Out.st (ite _ _ _)).ch.length _
    split
    · show ((s.comeBy k).destroy v).ch.length ≤ _; rw [hd]; exact Nat.le_refl _
    · show ((s.comeBy k).destroy v).ch.length ≤ _; rw [hd]; exact Nat.le_refl _
  · intro d s
    by_cases h0 : ((s.comeBy k).destroy v).val u = 0
    · have h0' : (((s.push d).comeBy k).destroy v).val u = 0 := by rw [hp]; exact h0
      simp only [h0, h0', if_true]
      show Out.stop _ _ = Out.stop _ _
      rw [hp]
    · have h0' : ¬ (((s.push d).comeBy k).destroy v).val u = 0 := by rw [hp]; exact h0
      simp only [h0, h0', if_false]
      show Out.go _ = Out.go _
      rw [hp]
      rfl

theorem loop_less {body : St → Out} (hb : More body) : ∀ (n : Nat) (s : St), (loopRun body n s).st.ch.length ≤ s.ch.length
  | 0, s => Nat.le_refl _
  | n + 1, s => by
    unfold loopRun
    cases hc : s.choose 101 109 with
    | none => exact Nat.le_refl _
    | some p =>
      obtain ⟨c, s'⟩ := p
      obtain ⟨h1, h2, h3⟩ := choose_some hc
      have hl : s.ch.length = s'.ch.length + 1 := by rw [h1]; simp
      have hbs := hb.less s'
      simp only
      split
      · cases hbo : body s' with
        | go s2 =>
          rw [hbo] at hbs
          have ih := loop_less hb n s2
          show (loopRun body n s2).st.ch.length ≤ _
          simp only [Out.st] at hbs
          omega
        | stop y s2 =>
          rw [hbo] at hbs
          simp only [Out.st] at hbs ⊢
          omega
      · simp only [Out.st]
        omega

theorem loop_ext {body : St → Out} (hb : More body) (d : UInt8) : ∀ (n : Nat) (s : St), s.ch.length < n → Ext d (loopRun body n s) (loopRun body (n + 1) (s.push d))
  | 0, s, h => by omega
  | n + 1, s, h => by
    cases hch : s.ch with
    | nil =>
      have e1 : s.choose 101 109 = none := by unfold St.choose; rw [hch]
      have e2 : loopRun body (n + 1) s = .stop (.stuck false) s := by unfold loopRun; rw [e1]
      rw [e2]
      intro _ hd
      have hd2 : d = 101 ∨ d = 109 := hd
      have e3 : (s.push d).choose 101 109 = some (d, { s with ch := [] }) := by unfold St.choose St.push; simp only [hch, List.nil_append]; rw [if_pos hd2]
      have e4 : (loopRun body (n + 1 + 1) (s.push d)).st.ch.length ≤ 0 := by
        rw [loopRun, e3]
        simp only
        split
        · have hbs := hb.less { s with ch := [] }
          cases hbo : body { s with ch := [] } with
          | go s2 =>
            rw [hbo] at hbs
            exact Nat.le_trans (loop_less hb (n + 1) s2) hbs
          | stop y s2 => rw [hbo] at hbs; exact hbs
        · exact Nat.le_refl _
      exact List.length_eq_zero_iff.1 (Nat.le_zero.1 e4)
    | cons c r =>
      by_cases hcc : c = 101 ∨ c = 109
      · have e1 : s.choose 101 109 = some (c, { s with ch := r }) := by unfold St.choose; rw [hch]; simp only; rw [if_pos hcc]
        have e2 : (s.push d).choose 101 109 = some (c, St.push { s with ch := r } d) := by unfold St.choose St.push; simp only [hch, List.cons_append]; rw [if_pos hcc]
        unfold loopRun
        rw [e1, e2]
        simp only
        by_cases h109 : c = 109
        · rw [if_pos h109, if_pos h109]
          have hx := hb.ext d { s with ch := r }
          have hl := hb.less { s with ch := r }
          cases hbo : body { s with ch := r } with
          | go s2 =>
            rw [hbo] at hx hl
            rw [show body (St.push { s with ch := r } d) = .go (s2.push d) from hx]
            simp only
            refine loop_ext hb d n s2 ?_
            have h3 : s2.ch.length ≤ r.length := hl
            rw [hch] at h
            simp at h
            omega
          | stop y s2 =>
            rw [hbo] at hx
            cases y with
            | stuck br =>
              intro h1 h2
              have h3 : (body (St.push { s with ch := r } d)).st.ch = [] := hx h1 h2
              cases ho' : body (St.push { s with ch := r } d) with
              | go u =>
                rw [ho'] at h3
                exact none_of_len (loop_less hb (n + 1) u) h3
              | stop y' u => rw [ho'] at h3; exact h3
            | ret => rw [show body (St.push { s with ch := r } d) = _ from hx]; rfl
            | fail => rw [show body (St.push { s with ch := r } d) = _ from hx]; rfl
            | fault k => rw [show body (St.push { s with ch := r } d) = _ from hx]; rfl
        · rw [if_neg h109, if_neg h109]
          rfl
      · have e1 : s.choose 101 109 = none := by unfold St.choose; rw [hch]; simp only; rw [if_neg hcc]
        have e2 : loopRun body (n + 1) s = .stop (.stuck false) s := by unfold loopRun; rw [e1]
        rw [e2]
        intro h1
        rw [hch] at h1
        cases h1

theorem choose_ext (s : St) (d : UInt8) {f g : St → Out} (hf : More f) (hg : More g) :
    Ext d (match s.choose 108 114 with | none => .stop (.stuck true) s | some (c', s') => if c' = 108 then f s' else g s')
      (match (s.push d).choose 108 114 with | none => .stop (.stuck true) (s.push d) | some (c', s') => if c' = 108 then f s' else g s') := by
  cases hch : s.ch with
  | nil =>
    have e1 : s.choose 108 114 = none := by unfold St.choose; rw [hch]
    rw [e1]
    intro _ hd
    have hd2 : d = 108 ∨ d = 114 := hd
    have e3 : (s.push d).choose 108 114 = some (d, { s with ch := [] }) := by unfold St.choose St.push; simp only [hch, List.nil_append]; rw [if_pos hd2]
    rw [e3]
    simp only
    split
    · exact none_of_len (hf.less { s with ch := [] }) rfl
    · exact none_of_len (hg.less { s with ch := [] }) rfl
  | cons c r =>
    by_cases hcc : c = 108 ∨ c = 114
    · have e1 : s.choose 108 114 = some (c, { s with ch := r }) := by unfold St.choose; rw [hch]; simp only; rw [if_pos hcc]
      have e2 : (s.push d).choose 108 114 = some (c, St.push { s with ch := r } d) := by unfold St.choose St.push; simp only [hch, List.cons_append]; rw [if_pos hcc]
      rw [e1, e2]
      simp only
      split
      · exact hf.ext d _
      · exact hg.ext d _
    · have e1 : s.choose 108 114 = none := by unfold St.choose; rw [hch]; simp only; rw [if_neg hcc]
      rw [e1]
      intro h1
      rw [hch] at h1
      cases h1

mutual
theorem Nd.more : ∀ x : Nd, More x.run
  | .mk c k e vs ar .nil => by
    have hr : (Nd.mk c k e vs ar .nil).run = fun s => if c = 94 then .stop .ret ((s.comeBy k).destroyAll ar)
      else if c = 33 then .stop .fail ((s.comeBy k).destroyAll ar)
      else match vs with
        | [v] => (s.comeBy k).one k c v
        | [v, u] => (s.comeBy k).two k v u
        | _ => .go (s.comeBy k) := by
      funext s
      match vs with
      | [] => rw [Nd.run] <;> simp
      | [v] => rw [Nd.run]
      | [v, u] => rw [Nd.run]
      | v :: u :: z :: r => rw [Nd.run] <;> simp
    rw [hr]
    have hl : ∀ s : St, ((s.comeBy k).destroyAll ar).ch.length ≤ s.ch.length := fun s => by rw [(evs_destroyAll (s.comeBy k) ar).ch]; exact Nat.le_refl _
    by_cases h1 : c = 94
    · simp only [if_pos h1]
      exact ⟨hl, fun d s => by show Out.stop _ _ = Out.stop _ _; rw [← destroyAll_push]; rfl⟩
    by_cases h2 : c = 33
    · simp only [if_neg h1, if_pos h2]
      exact ⟨hl, fun d s => by show Out.stop _ _ = Out.stop _ _; rw [← destroyAll_push]; rfl⟩
    simp only [if_neg h1, if_neg h2]
    match vs with
    | [] => exact More.go _ (fun s => rfl) (fun s d => rfl)
    | [v] => exact one_more k c v
    | [v, u] => exact two_more k v u
    | v :: u :: z :: r => exact More.go _ (fun s => rfl) (fun s d => rfl)
  | .mk c k e vs ar (.cons x .nil) => by
    have hx := Nds.more x
    have hc : More (fun s : St => .go (s.comeBy k)) := More.go _ (fun s => rfl) (fun s d => rfl)
    by_cases h1 : c = 42
    · refine ⟨fun s => ?_, fun d s => ?_⟩
      · rw [Nd.run, if_pos h1]
        exact loop_less hx _ (s.comeBy k)
      · rw [Nd.run, if_pos h1, Nd.run, if_pos h1]
        have e : ((s.push d).comeBy k).ch.length + 1 = (s.comeBy k).ch.length + 1 + 1 := by simp [St.push, St.comeBy]
        rw [e]
        exact loop_ext hx d _ (s.comeBy k) (by omega)
    · have hr : (Nd.mk c k e vs ar (.cons x .nil)).run = fun s => (((Out.go (s.comeBy k)).andThen x.run).andThen (fun t => .go ((t.comeBy (e - 1)).destroyAll vs))) := by
        funext s; rw [Nd.run, if_neg h1]; rfl
      rw [hr]
      refine More.seq (More.seq hc hx) (More.go _ (fun s => (evs_destroyAll _ vs).ch) (fun s d => ?_))
      rw [← destroyAll_push]
      rfl
  | .mk c k e vs ar (.cons x (.cons y z)) => by
    have hx := Nds.more x
    have hy := Nds.more y
    refine ⟨fun s => ?_, fun d s => ?_⟩
    · rw [Nd.run]
      cases hc : (s.comeBy k).choose 108 114 with
      | none => exact Nat.le_refl _
      | some p =>
        obtain ⟨c', s'⟩ := p
        obtain ⟨h1, h2, h3⟩ := choose_some hc
        have hl : s.ch.length = s'.ch.length + 1 := by have := congrArg List.length h1; simpa [St.comeBy] using this
        simp only
        split
        · have := hx.less s'; omega
        · have := hy.less s'; omega
    · rw [Nd.run, Nd.run]
      exact choose_ext (s.comeBy k) d hx hy
theorem Nds.more : ∀ x : Nds, More x.run
  | .nil => by
    have hr : (Nds.nil).run = fun s => .go s := by funext s; rw [Nds.run]
    rw [hr]
    exact More.go _ (fun s => rfl) (fun s d => rfl)
  | .cons x r => by
    have hr : (Nds.cons x r).run = fun s => (x.run s).andThen r.run := by funext s; rw [Nds.run]
    rw [hr]
    exact More.seq (Nd.more x) (Nds.more r)
end

/-! ### All choices. -/
/-- What may be chosen where a run stands. -/
def Out.asks : Out → List UInt8
  | .stop (.stuck br) _ => [firstOf br, otherOf br]
  | _ => []

def Nd.with (x : Nd) (c : List UInt8) : Out := x.run (St.start c)

/-- No choice is left where a run asks for one. -/
def Nd.Fine (x : Nd) (c : List UInt8) : Prop := (x.with c).asks ≠ [] → (x.with c).st.ch = []

theorem fine_nil (x : Nd) : x.Fine [] := fun _ => none_of_len ((Nd.more x).less (St.start [])) rfl

theorem fine_snoc {x : Nd} {c : List UInt8} {d : UInt8} (h : x.Fine c) (hd : d ∈ (x.with c).asks) : x.Fine (c ++ [d]) := by
  have hne : (x.with c).asks ≠ [] := fun e => by rw [e] at hd; cases hd
  have h1 := h hne
  have h2 := (Nd.more x).ext d (St.start c)
  intro _
  show ((x.run (St.start (c ++ [d]))).st).ch = []
  have e : St.start (c ++ [d]) = (St.start c).push d := rfl
  rw [e]
  unfold Nd.with at *
  cases ho : x.run (St.start c) with
  | go t => rw [ho] at hd; cases hd
  | stop y t =>
    rw [ho] at h2 hd h1
    cases y with
    | stuck br => exact h2 h1 (by simpa [Out.asks] using hd)
    | ret => cases hd
    | fail => cases hd
    | fault k => cases hd

/-- The choices that are longer by one. -/
def Nd.longer (x : Nd) (c : List UInt8) : List (List UInt8) := (x.with c).asks.map (fun d => c ++ [d])

def Nd.level (x : Nd) : Nat → List (List UInt8)
  | 0 => [[]]
  | k + 1 => (x.level k).flatMap x.longer

/-- All levels from k on, m of them. -/
def Nd.levels (x : Nd) (k : Nat) : Nat → List (List UInt8)
  | 0 => []
  | m + 1 => x.level k ++ x.levels (k + 1) m

theorem asks_two (o : Out) : o.asks.length ≤ 2 := by
  cases o with
  | go t => simp [Out.asks]
  | stop y t => cases y <;> simp [Out.asks]

theorem level_len (x : Nd) : ∀ k, (x.level k).length ≤ 2 ^ k
  | 0 => by simp [Nd.level]
  | k + 1 => by
    have ih := level_len x k
    have h : ∀ l : List (List UInt8), (l.flatMap x.longer).length ≤ 2 * l.length := by
      intro l
      induction l with
      | nil => simp
      | cons c r ih =>
        have := asks_two (x.with c)
        simp [List.flatMap_cons, Nd.longer] at *
        omega
    have := h (x.level k)
    show ((x.level k).flatMap x.longer).length ≤ _
    rw [Nat.pow_succ]
    omega

theorem level_mem (x : Nd) : ∀ k, ∀ c ∈ x.level k, c.length = k ∧ x.Fine c
  | 0, c, hc => by
    simp [Nd.level] at hc
    subst hc
    exact ⟨rfl, fine_nil x⟩
  | k + 1, c, hc => by
    obtain ⟨b, hb, hc⟩ := List.mem_flatMap.1 hc
    obtain ⟨h1, h2⟩ := level_mem x k b hb
    obtain ⟨d, hd, rfl⟩ := List.mem_map.1 hc
    exact ⟨by simp [h1], fine_snoc h2 hd⟩

/-- All choices of no more than n bytes, right or not yet. -/
def Nd.upTo (x : Nd) (n : Nat) : List (List UInt8) := x.levels 0 (n + 1)
def Nd.rights (x : Nd) (l : List (List UInt8)) : List (List UInt8) := l.filter (fun c => (x.with c).right)

theorem levels_len (x : Nd) : ∀ m k, (x.levels k m).length + 2 ^ k ≤ 2 ^ (k + m)
  | 0, k => by simp [Nd.levels]
  | m + 1, k => by
    have h1 := level_len x k
    have h2 := levels_len x m (k + 1)
    rw [show k + 1 + m = k + (m + 1) by omega, Nat.pow_succ 2 k] at h2
    simp only [Nd.levels, List.length_append]
    omega

theorem levels_mem (x : Nd) : ∀ m k, ∀ c ∈ x.levels k m, c.length < k + m ∧ x.Fine c
  | 0, k, c, hc => by cases hc
  | m + 1, k, c, hc => by
    rcases List.mem_append.1 hc with h | h
    · obtain ⟨h1, h2⟩ := level_mem x k c h
      exact ⟨by omega, h2⟩
    · obtain ⟨h1, h2⟩ := levels_mem x m (k + 1) c h
      exact ⟨by omega, h2⟩

/-- What a queue puts in behind c. -/
def Nd.next (x : Nd) (n : Nat) (c : List UInt8) : List (List UInt8) := if c.length < n then x.longer c else []

/-- A queue that holds 'todo' takes out 'all', one by one. -/
inductive Queue (x : Nd) (n : Nat) : List (List UInt8) → List (List UInt8) → Prop where
  | nil : Queue x n [] []
  | cons (c : List UInt8) (t r : List (List UInt8)) : Queue x n (t ++ x.next n c) r → Queue x n (c :: t) (c :: r)

theorem queue_level {x : Nd} {n : Nat} : ∀ (cur next r : List (List UInt8)), Queue x n (next ++ cur.flatMap (x.next n)) r → Queue x n (cur ++ next) (cur ++ r)
  | [], next, r, h => by simpa using h
  | c :: cs, next, r, h => by
    refine .cons c _ _ ?_
    have := queue_level cs (next ++ x.next n c) r (by simpa [List.append_assoc] using h)
    show Queue x n ((cs ++ next) ++ x.next n c) (cs ++ r)
    rwa [List.append_assoc]

theorem flat_next (x : Nd) (n k : Nat) : (x.level k).flatMap (x.next n) = if k < n then x.level (k + 1) else [] := by
  have h : ∀ l : List (List UInt8), (∀ c ∈ l, c.length = k) → l.flatMap (x.next n) = if k < n then l.flatMap x.longer else [] := by
    intro l
    induction l with
    | nil => intro _; simp
    | cons c r ih =>
      intro hl
      rw [List.flatMap_cons, ih (fun b hb => hl b (List.mem_cons_of_mem _ hb))]
      have hc : c.length = k := hl c (List.mem_cons_self ..)
      unfold Nd.next
      rw [hc]
      split
      · rfl
      · rfl
  exact h _ (fun c hc => (level_mem x k c hc).1)

theorem queue_levels (x : Nd) (n : Nat) : ∀ (m k : Nat), k + m = n → Queue x n (x.level k) (x.levels k (m + 1))
  | 0, k, h => by
    have := queue_level (x := x) (n := n) (x.level k) [] [] (by rw [flat_next, if_neg (by omega)]; exact .nil)
    simpa [Nd.levels] using this
  | m + 1, k, h => by
    have ih := queue_levels x n m (k + 1) (by omega)
    have := queue_level (x := x) (n := n) (x.level k) [] (x.levels (k + 1) (m + 1)) (by rw [flat_next, if_pos (by omega)]; simpa using ih)
    rw [List.append_nil] at this
    exact this

theorem queue_all (x : Nd) (n : Nat) : Queue x n [[]] (x.upTo n) := queue_levels x n n 0 (by omega)

/-- All choices of runs of a text, of no more than n bytes. -/
def allP (s : ByteArray) (n : Int) : Option (List (List UInt8)) :=
  match progP s with
  | none => none
  | some x => if 0 ≤ n ∧ n ≤ 6 then some (x.rights (x.upTo n.toNat)) else none

end Go.Proofs.Ytcohmhgmocdbfaa
