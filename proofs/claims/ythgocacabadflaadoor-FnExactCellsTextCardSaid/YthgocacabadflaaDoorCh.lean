/-
  What lies in a cell is the value that is alive and has it.
-/
import Derived.Test.YthgocacabadflaaDoorCf
namespace Go.Proofs.YthgocacabadflaaDoor
set_option linter.unusedVariables false
set_option linter.unusedSimpArgs false
open Go.RowKit
open Go.Lib (decDigits)

theorem alive_bnd {l : List Ev} (hg : Good l) {n : Nat} (h : n ∈ aliveL l) : 1 ≤ n ∧ n ≤ madeN l := by
  obtain ⟨h1, f, h2, _⟩ := (hg.says.alive n).1 h
  have := (List.getElem?_eq_some_iff.1 h2).1
  rw [hg.says.made] at this
  omega
theorem nth_app {L M : List Nat} {k : Nat} (h : k < L.length) : nth (L ++ M) k = nth L k := by unfold nth; simp [List.getD, List.getElem?_append_left h]
theorem nth_last {L : List Nat} {c : Nat} : nth (L ++ [c]) L.length = c := by unfold nth; simp [List.getD]

theorem insS_iff {pick : List Nat → Nat} (hp : Picks pick) {l : List Ev} (hg : Good l) : ∀ c m, m ≠ 0 → (insS pick l c = m ↔ (m ∈ aliveL l ∧ nth (cellsS pick l).O (m - 1) = c)) := by
  induction hg with
  | nil => intro c m hm; exact ⟨fun h => absurd h.symm hm, fun h => by have := h.1; simp [aliveL] at this⟩
  | @snoc l e hg hf ih =>
    intro c m hm
    have hc := cinv hp hg
    have hlen := hc.len
    rcases hf with ⟨hk, hn⟩ | ⟨hk, hnA⟩
    · rw [insS_plus hk, cells_plus hk, aliveL_snoc]
      have ha : aliveStep (aliveL l) e = aliveL l ++ [e.n] := by unfold aliveStep; rw [if_pos hk]
      rw [ha]
      dsimp only
      have hlast : nth ((cellsS pick l).O ++ [pick (cellsS pick l).T]) (e.n - 1) = pick (cellsS pick l).T := by
        rw [hn, Nat.add_sub_cancel, ← hlen]; exact nth_last
      have hold : ∀ m, m ∈ aliveL l → nth ((cellsS pick l).O ++ [pick (cellsS pick l).T]) (m - 1) = nth (cellsS pick l).O (m - 1) := fun m h => by
        have := alive_bnd hg h
        exact nth_app (by omega)
      by_cases hcp : c = pick (cellsS pick l).T
      · rw [if_pos hcp]
        constructor
        · intro h
          rw [← h]
          exact ⟨by simp, by rw [hlast, hcp]⟩
        · rintro ⟨h1, h2⟩
          rcases List.mem_append.1 h1 with h1 | h1
          · rw [hold m h1] at h2
            have := (hc.cell hg h1).2.2
            rw [h2, hcp] at this
            exact absurd this (hp.out _)
          · exact (List.mem_singleton.1 h1).symm
      · rw [if_neg hcp, ih c m hm]
        constructor
        · rintro ⟨h1, h2⟩
          exact ⟨List.mem_append.2 (.inl h1), by rw [hold m h1]; exact h2⟩
        · rintro ⟨h1, h2⟩
          rcases List.mem_append.1 h1 with h1 | h1
          · rw [hold m h1] at h2
            exact ⟨h1, h2⟩
          · have := List.mem_singleton.1 h1
            rw [this, hlast] at h2
            exact absurd h2.symm hcp
    · have h43 : ¬ e.k = 43 := by rcases hk with h | h <;> (rw [h]; decide)
      by_cases h45 : e.k = 45
      · rw [insS_minus h43 h45, cells_minus h43 h45, aliveL_snoc]
        have ha : aliveStep (aliveL l) e = (aliveL l).filter (fun m => decide (m ≠ e.n)) := by unfold aliveStep; rw [if_neg h43, if_pos h45]
        rw [ha]
        dsimp only
        have hinj : ∀ m, m ∈ aliveL l → nth (cellsS pick l).O (m - 1) = nth (cellsS pick l).O (e.n - 1) → m = e.n := fun m h1 h2 => by
          have hnd := hc.nd
          rw [hc.tak] at hnd
          exact nodup_inj hnd m h1 e.n hnA h2
        by_cases hcq : c = nth (cellsS pick l).O (e.n - 1)
        · rw [if_pos hcq]
          refine ⟨fun h => absurd h.symm hm, ?_⟩
          rintro ⟨h1, h2⟩
          obtain ⟨h1, h3⟩ := List.mem_filter.1 h1
          exact absurd (hinj m h1 (by rw [h2, hcq])) (of_decide_eq_true h3)
        · rw [if_neg hcq, ih c m hm]
          constructor
          · rintro ⟨h1, h2⟩
            exact ⟨List.mem_filter.2 ⟨h1, decide_eq_true (fun e => hcq (by rw [← h2, e]))⟩, h2⟩
          · rintro ⟨h1, h2⟩
            exact ⟨(List.mem_filter.1 h1).1, h2⟩
      · rw [insS_dot h43 h45, cells_dot h43 h45, aliveL_snoc]
        have ha : aliveStep (aliveL l) e = aliveL l := by unfold aliveStep; rw [if_neg h43, if_neg h45]
        rw [ha]
        exact ih c m hm

/-- The cells that values got stay. -/
theorem cells_grow1 (pick : List Nat → Nat) (l : List Ev) (e : Ev) : ∃ M, (cellsS pick (l ++ [e])).O = (cellsS pick l).O ++ M := by
  by_cases hk : e.k = 43
  · exact ⟨[pick (cellsS pick l).T], by rw [cells_plus hk]⟩
  · by_cases h45 : e.k = 45
    · exact ⟨[], by rw [cells_minus hk h45]; simp⟩
    · exact ⟨[], by rw [cells_dot hk h45]; simp⟩
theorem cells_grow (pick : List Nat → Nat) : ∀ (r l : List Ev), ∃ M, (cellsS pick (l ++ r)).O = (cellsS pick l).O ++ M
  | [], l => ⟨[], by simp⟩
  | e :: r, l => by
    obtain ⟨M, hM⟩ := cells_grow pick r (l ++ [e])
    obtain ⟨X, hX⟩ := cells_grow1 pick l e
    exact ⟨X ++ M, by rw [show l ++ e :: r = (l ++ [e]) ++ r by simp, hM, hX, List.append_assoc]⟩

/-- The model's search for what a cell has. -/
def valC (O : List Nat) (c : Nat) (A : List Nat) : List UInt8 := A.foldl (fun v n => if nth O (n - 1) = c then decDigits n else v) [46]
theorem valC_snoc (O : List Nat) (c : Nat) (A : List Nat) (n : Nat) : valC O c (A ++ [n]) = if nth O (n - 1) = c then decDigits n else valC O c A := by unfold valC; simp
theorem fold_no (O : List Nat) (c : Nat) : ∀ (A : List Nat) (v : List UInt8), (∀ n ∈ A, nth O (n - 1) ≠ c) → A.foldl (fun v n => if nth O (n - 1) = c then decDigits n else v) v = v
  | [], v, _ => rfl
  | a :: r, v, h => by
    rw [List.foldl_cons, if_neg (h a (by simp))]
    exact fold_no O c r v (fun n hn => h n (by simp [hn]))
theorem fold_one (O : List Nat) (c m : Nat) (hm : nth O (m - 1) = c) : ∀ (A : List Nat) (v : List UInt8), (∀ n ∈ A, nth O (n - 1) = c → n = m) → m ∈ A → A.foldl (fun v n => if nth O (n - 1) = c then decDigits n else v) v = decDigits m
  | [], v, _, h => by cases h
  | a :: r, v, h, hmem => by
    rw [List.foldl_cons]
    by_cases hr : m ∈ r
    · exact fold_one O c m hm r _ (fun n hn => h n (by simp [hn])) hr
    · have ha : m = a := by
        rcases List.mem_cons.1 hmem with e | e
        · exact e
        · exact absurd e hr
      subst ha
      rw [if_pos hm]
      exact fold_no O c r _ (fun n hn e => hr (by rw [← h n (by simp [hn]) e]; exact hn))

theorem valC_is {pick : List Nat → Nat} (hp : Picks pick) {l : List Ev} (hg : Good l) (k c : Nat) : valC (cellsS pick l).O c (aliveL (l.take k)) = cellW (insS pick (l.take k) c) := by
  have hgk := hg.take k
  have hlen := (cinv hp hgk).len
  obtain ⟨M, hM⟩ := cells_grow pick (l.drop k) (l.take k)
  rw [List.take_append_drop] at hM
  have hO : ∀ n, n ∈ aliveL (l.take k) → nth (cellsS pick l).O (n - 1) = nth (cellsS pick (l.take k)).O (n - 1) := fun n h => by
    have := alive_bnd hgk h
    rw [hM]
    exact nth_app (by omega)
  have hiff := insS_iff hp hgk c
  unfold valC cellW
  by_cases h0 : insS pick (l.take k) c = 0
  · rw [if_pos h0]
    refine fold_no _ _ _ _ (fun n hn e => ?_)
    rw [hO n hn] at e
    have hb := alive_bnd hgk hn
    have := (hiff n (by omega)).2 ⟨hn, e⟩
    omega
  · rw [if_neg h0]
    obtain ⟨h1, h2⟩ := (hiff _ h0).1 rfl
    refine fold_one _ _ _ (by rw [hO _ h1]; exact h2) _ _ (fun n hn e => ?_) h1
    rw [hO n hn] at e
    have hb := alive_bnd hgk hn
    exact ((hiff n (by omega)).2 ⟨hn, e⟩).symm

end Go.Proofs.YthgocacabadflaaDoor
