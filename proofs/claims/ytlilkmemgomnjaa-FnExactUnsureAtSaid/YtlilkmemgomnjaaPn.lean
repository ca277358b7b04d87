/-
  Notes as a list of places and what is known there, as the model keeps them. Nothing of the translation is imported.
-/
import Derived.Test.YtlilkmemgomnjaaPm
import Derived.Test.YtlilkmemgomnjaaVa
namespace Go.Proofs.Ytlilkmemgomnjaa
set_option linter.unusedVariables false
set_option linter.unusedSimpArgs false

abbrev AL := List (Nat × Kn)
def lookL : AL → Notes
  | [], _ => none
  | (i, k) :: r, j => if j = i then some k else lookL r j
def putL : AL → Nat → Kn → AL
  | [], i, s => [(i, s)]
  | (j, t) :: r, i, s => if j = i then (j, t.join s) :: r else (j, t) :: putL r i s
def keysL (l : AL) : List Nat := l.map Prod.fst

theorem lookL_put : ∀ (l : AL) (i : Nat) (s : Kn), lookL (putL l i s) = Notes.both (lookL l) (point i s)
  | [], i, s => by
    funext j
    simp only [putL, lookL, Notes.both, point]
  | (p, t) :: r, i, s => by
    funext j
    have ih := congrFun (lookL_put r i s) j
    unfold putL
    by_cases hp : p = i
    · subst hp
      rw [if_pos rfl]
      simp only [lookL, Notes.both, point]
      by_cases hj : j = p
      · simp only [hj, if_true]
      · simp only [hj, if_false]
        cases lookL r j <;> rfl
    · rw [if_neg hp]
      simp only [lookL]
      by_cases hj : j = p
      · subst hj
        simp only [if_true, Notes.both, point, hp, if_false, lookL]
      · simp only [hj, if_false]
        rw [ih]
        simp only [Notes.both, lookL, hj, if_false]

theorem putL_at : ∀ (pre : AL) {i : Nat} (t s : Kn) (r : AL), i ∉ keysL pre → putL (pre ++ (i, t) :: r) i s = pre ++ (i, t.join s) :: r
  | [], i, t, s, r, _ => by simp [putL]
  | (p, u) :: q, i, t, s, r, h => by
    have h1 : ¬ p = i := fun e => h (by simp [keysL, e])
    have h2 : i ∉ keysL q := fun e => h (by simp [keysL] at e ⊢; exact .inr e)
    simp only [List.cons_append, putL, h1, if_false]
    rw [putL_at q t s r h2]
theorem putL_new : ∀ (l : AL) {i : Nat} (s : Kn), i ∉ keysL l → putL l i s = l ++ [(i, s)]
  | [], i, s, _ => rfl
  | (p, u) :: q, i, s, h => by
    have h1 : ¬ p = i := fun e => h (by simp [keysL, e])
    have h2 : i ∉ keysL q := fun e => h (by simp [keysL] at e ⊢; exact .inr e)
    simp only [List.cons_append, putL, h1, if_false]
    rw [putL_new q s h2]
theorem lookL_at : ∀ (pre : AL) {i : Nat} (t : Kn) (r : AL), i ∉ keysL pre → lookL (pre ++ (i, t) :: r) i = some t
  | [], i, t, r, _ => by simp [lookL]
  | (p, u) :: q, i, t, r, h => by
    have h1 : ¬ i = p := fun e => h (by simp [keysL, e])
    have h2 : i ∉ keysL q := fun e => h (by simp [keysL] at e ⊢; exact .inr e)
    simp only [List.cons_append, lookL, h1, if_false]
    exact lookL_at q t r h2
theorem lookL_none : ∀ (l : AL) {i : Nat}, i ∉ keysL l → lookL l i = none
  | [], i, _ => rfl
  | (p, u) :: q, i, h => by
    have h1 : ¬ i = p := fun e => h (by simp [keysL, e])
    have h2 : i ∉ keysL q := fun e => h (by simp [keysL] at e ⊢; exact .inr e)
    simp only [lookL, h1, if_false]
    exact lookL_none q h2

/-- What such a list is good for. -/
structure AOk (l : AL) : Prop where
  nodup : (keysL l).Nodup
  lt : ∀ p ∈ l, p.1 < 81 ∧ p.2.Wf

theorem AOk.few {l : AL} (h : AOk l) : l.length ≤ 81 := by
  have := few_nat 81 (keysL l) h.nodup (by
    intro x hx
    obtain ⟨p, hp, rfl⟩ := List.mem_map.1 hx
    exact (h.lt p hp).1)
  simpa [keysL] using this
theorem AOk.nil : AOk [] := ⟨List.nodup_nil, fun p hp => by cases hp⟩

theorem keysL_split {l : AL} {i : Nat} (h : i ∈ keysL l) : ∃ pre t r, l = pre ++ (i, t) :: r ∧ i ∉ keysL pre := by
  induction l with
  | nil => simp [keysL] at h
  | cons p q ih =>
    obtain ⟨j, t⟩ := p
    by_cases e : j = i
    · subst e; exact ⟨[], t, q, rfl, by simp [keysL]⟩
    · have h2 : i ∈ keysL q := by
        simp only [keysL, List.map_cons, List.mem_cons] at h
        rcases h with h | h
        · exact absurd h.symm e
        · exact h
      obtain ⟨pre, u, r, rfl, hp⟩ := ih h2
      refine ⟨(j, t) :: pre, u, r, rfl, ?_⟩
      simp only [keysL, List.map_cons, List.mem_cons, not_or]
      exact ⟨fun e' => e e'.symm, hp⟩

theorem AOk.put {l : AL} (h : AOk l) {i : Nat} (hi : i < 81) {s : Kn} (hs : s.Wf) : AOk (putL l i s) := by
  by_cases hm : i ∈ keysL l
  · obtain ⟨pre, t, r, rfl, hp⟩ := keysL_split hm
    rw [putL_at pre t s r hp]
    refine ⟨?_, ?_⟩
    · have := h.nodup
      simpa [keysL] using this
    · intro p hpm
      have hlt := h.lt
      rcases List.mem_append.1 hpm with h1 | h1
      · exact hlt p (List.mem_append_left _ h1)
      · rcases List.mem_cons.1 h1 with h1 | h1
        · have ht := hlt (i, t) (by simp)
          rw [h1]; exact ⟨ht.1, wf_join ht.2 hs⟩
        · exact hlt p (by simp [h1])
  · rw [putL_new l s hm]
    refine ⟨?_, ?_⟩
    · unfold keysL at *
      rw [List.map_append, List.nodup_append]
      refine ⟨h.nodup, by simp, ?_⟩
      intro a ha b hb
      simp at hb
      subst hb
      intro e; subst e; exact hm ha
    · intro p hpm
      rcases List.mem_append.1 hpm with h1 | h1
      · exact h.lt p h1
      · rw [List.mem_singleton.1 h1]; exact ⟨hi, hs⟩

/-! ### what is known, as the model's values -/
def mayL (k : Kn) : List UInt8 := lets k.may
def mustL (k : Kn) : List UInt8 := if k = Kn.no then [] else lets k.must
def liveK (k : Kn) : Bool := decide (k ≠ Kn.no)

theorem mayL_no : mayL Kn.no = [] := by decide
theorem mustL_live {k : Kn} (h : k ≠ Kn.no) : mustL k = lets k.must := by simp [mustL, h]
theorem mustL_no : mustL Kn.no = [] := by simp [mustL]
theorem liveK_no : liveK Kn.no = false := by decide
theorem liveK_yes {k : Kn} (h : k ≠ Kn.no) : liveK k = true := by simp [liveK, h]
theorem mayL_len (k : Kn) : (mayL k).length ≤ 6 := lets_len _
theorem mustL_len (k : Kn) : (mustL k).length ≤ 6 := by unfold mustL; split; simp; exact lets_len _

theorem stK_inj {a b : Kn} (ha : a.Wf) (hb : b.Wf) (h1 : mayL a = mayL b) (h2 : mustL a = mustL b) (h3 : liveK a = liveK b) : a = b := by
  by_cases ea : a = Kn.no
  · subst ea
    rw [liveK_no] at h3
    by_cases eb : b = Kn.no
    · exact eb.symm
    · rw [liveK_yes eb] at h3; cases h3
  · by_cases eb : b = Kn.no
    · subst eb; rw [liveK_yes ea, liveK_no] at h3; cases h3
    · rw [mustL_live ea, mustL_live eb] at h2
      have e1 := lets_inj ha.may hb.may h1
      have e2 := lets_inj ha.must hb.must h2
      cases a; cases b; simp only at e1 e2; rw [e1, e2]

end Go.Proofs.Ytlilkmemgomnjaa
