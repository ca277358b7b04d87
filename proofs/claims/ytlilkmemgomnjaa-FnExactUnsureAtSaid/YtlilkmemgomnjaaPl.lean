/-
  What is known of variables: it only grows with what is known ahead; loops come to an end; the notes of steps lie apart. Nothing of the translation is imported.
-/
import Derived.Test.YtlilkmemgomnjaaPk
namespace Go.Proofs.Ytlilkmemgomnjaa
set_option linter.unusedVariables false
set_option linter.unusedSimpArgs false

/-- How far a state has come: it can't come further than 12. -/
def bitN (s i : Nat) : Nat := (s.testBit i).toNat
def sumN (s : Nat) : Nat := bitN s 0 + bitN s 1 + bitN s 2 + bitN s 3 + bitN s 4 + bitN s 5
def Kn.w (k : Kn) : Nat := sumN k.may + (6 - sumN k.must)

theorem bitN_le (s i : Nat) : bitN s i ≤ 1 := by unfold bitN; cases s.testBit i <;> simp
theorem sumN_le (s : Nat) : sumN s ≤ 6 := by
  unfold sumN
  have := bitN_le s 0; have := bitN_le s 1; have := bitN_le s 2; have := bitN_le s 3; have := bitN_le s 4; have := bitN_le s 5
  omega
theorem w_le (k : Kn) : k.w ≤ 12 := by
  unfold Kn.w
  have := sumN_le k.may
  omega

theorem bitN_mono {a b i : Nat} (h : a.testBit i = true → b.testBit i = true) : bitN a i ≤ bitN b i := by
  unfold bitN
  cases e : a.testBit i
  · simp
  · rw [h e]; exact Nat.le_refl _
theorem bitN_inj {a b i : Nat} (h : bitN a i = bitN b i) : a.testBit i = b.testBit i := by
  unfold bitN at h
  cases e : a.testBit i <;> cases e' : b.testBit i <;> simp [e, e'] at h <;> rfl

theorem six_ext {a b : Nat} (ha : a < 64) (hb : b < 64) (h : ∀ i, i < 6 → a.testBit i = b.testBit i) : a = b := by
  refine Nat.eq_of_testBit_eq fun i => ?_
  by_cases hi : i < 6
  · exact h i hi
  · rw [lt64.1 ha i (by omega), lt64.1 hb i (by omega)]

theorem sumN_eq {a b : Nat} (ha : a < 64) (hb : b < 64) (h : ∀ i, a.testBit i = true → b.testBit i = true) : sumN a ≤ sumN b ∧ (sumN a = sumN b → a = b) := by
  have h0 := bitN_mono (h 0); have h1 := bitN_mono (h 1); have h2 := bitN_mono (h 2)
  have h3 := bitN_mono (h 3); have h4 := bitN_mono (h 4); have h5 := bitN_mono (h 5)
  unfold sumN
  refine ⟨by omega, fun e => six_ext ha hb fun i hi => bitN_inj ?_⟩
  rcases (by omega : i = 0 ∨ i = 1 ∨ i = 2 ∨ i = 3 ∨ i = 4 ∨ i = 5) with rfl | rfl | rfl | rfl | rfl | rfl <;> omega

theorem w_lt {a b : Kn} (ha : a.Wf) (hb : b.Wf) (h : a.le b) (hne : a ≠ b) : a.w < b.w := by
  obtain ⟨h1, h2⟩ := Kn.le_iff.1 h
  obtain ⟨l1, e1⟩ := sumN_eq ha.may hb.may h1
  obtain ⟨l2, e2⟩ := sumN_eq hb.must ha.must h2
  have l3 := sumN_le a.must
  unfold Kn.w
  rcases Nat.lt_or_ge (sumN a.may + (6 - sumN a.must)) (sumN b.may + (6 - sumN b.must)) with hl | hl
  · exact hl
  · refine absurd ?_ hne
    cases a; cases b
    simp only [Kn.mk.injEq] at *
    exact ⟨e1 (by omega), (e2 (by omega)).symm⟩

/-- What a loop's body is good for. -/
structure Steady (f : Kn → Kn) : Prop where
  wf : ∀ k, k.Wf → (f k).Wf
  mono : ∀ a b, a.Wf → b.Wf → a.le b → (f a).le (f b)

theorem loop_wf {f : Kn → Kn} (hf : Steady f) : ∀ (n : Nat) (k : Kn), k.Wf → (loopK f n k).Wf
  | 0, k, h => h
  | n + 1, k, h => by
    rw [loopK]; split
    · exact h
    · exact loop_wf hf n _ (wf_join h (hf.wf k h))

theorem loop_ge {f : Kn → Kn} : ∀ (n : Nat) (k : Kn), k.le (loopK f n k)
  | 0, k => Kn.le.refl k
  | n + 1, k => by
    rw [loopK]; split
    · exact Kn.le.refl k
    · exact (le_join_left k (f k)).trans (loop_ge n _)

theorem loop_fix {f : Kn → Kn} (hf : Steady f) : ∀ (n : Nat) (k : Kn), k.Wf → 13 ≤ n + k.w → (loopK f n k).join (f (loopK f n k)) = loopK f n k
  | 0, k, h, hn => by have := w_le k; omega
  | n + 1, k, h, hn => by
    rw [loopK]; split
    · assumption
    · rename_i hne
      have hw := wf_join h (hf.wf k h)
      have := w_lt h hw (le_join_left k (f k)) (fun e => hne e.symm)
      exact loop_fix hf n _ hw (by omega)

theorem loop_least {f : Kn → Kn} (hf : Steady f) {c : Kn} (hc : c.Wf) (hfc : (f c).le c) : ∀ (n : Nat) (k : Kn), k.Wf → k.le c → (loopK f n k).le c
  | 0, k, h, hk => hk
  | n + 1, k, h, hk => by
    rw [loopK]; split
    · exact hk
    · exact loop_least hf hc hfc n _ (wf_join h (hf.wf k h)) (join_le hk ((hf.mono k c h hc hk).trans hfc))

theorem loop_mono {f : Kn → Kn} (hf : Steady f) {a b : Kn} (ha : a.Wf) (hb : b.Wf) (h : a.le b) : (loopK f 13 a).le (loopK f 13 b) := by
  have e := loop_fix hf 13 b hb (by omega)
  refine loop_least hf (loop_wf hf 13 b hb) ?_ 13 a ha (h.trans (loop_ge 13 b))
  show (f _).join _ = _
  rw [join_comm]; exact e

theorem ltr_bit {v : UInt8} (h : ltr v) : bitV v < 64 := bitV_lt h

theorem valK_wf {c : UInt8} {vs : List UInt8} (hv : ∀ v ∈ vs, ltr v) {k : Kn} (h : k.Wf) : (valK c vs k).Wf := by
  unfold valK
  split
  · rename_i v
    have hb := bitV_lt (hv v (by simp))
    split
    · exact wf_changed h hb
    split
    · exact wf_changed (wf_needs h v) hb
    split
    · exact wf_changed (wf_needs h v) (by omega)
    · exact wf_changed h (by omega)
  · rename_i v u
    exact wf_changed (wf_needs h u) (bitV_lt (hv v (by simp)))
  · exact h

theorem valK_mono {c : UInt8} {vs : List UInt8} (hv : ∀ v ∈ vs, ltr v) {a b : Kn} (ha : a.Wf) (hb : b.Wf) (h : a.le b) : (valK c vs a).le (valK c vs b) := by
  unfold valK
  split
  · rename_i v
    have hl := bitV_lt (hv v (by simp))
    split
    · exact changed_mono ha hb h hl
    split
    · exact changed_mono (wf_needs ha v) (wf_needs hb v) (needs_mono ha hb h v) hl
    split
    · exact changed_mono (wf_needs ha v) (wf_needs hb v) (needs_mono ha hb h v) (by omega)
    · exact changed_mono ha hb h (by omega)
  · rename_i v u
    exact changed_mono (wf_needs ha u) (wf_needs hb u) (needs_mono ha hb h u) (bitV_lt (hv v (by simp)))
  · exact h

mutual
theorem Nd.steady : ∀ (x : Nd), x.Sp → Steady x.know
  | .mk c b e vs ar .nil, h => by
    simp only [Nd.Sp] at h
    refine ⟨fun k hk => ?_, fun p q hp hq hl => ?_⟩
    · simp only [Nd.know]; split
      · exact wf_no
      · exact valK_wf h.2 hk
    · simp only [Nd.know]; split
      · exact Kn.le.refl _
      · exact valK_mono h.2 hp hq hl
  | .mk c b e vs ar (.cons x .nil), h => by
    simp only [Nd.Sp] at h
    have hx := Nds.steady x _ _ h.2.2
    refine ⟨fun k hk => ?_, fun p q hp hq hl => ?_⟩
    · simp only [Nd.know]; split
      · exact loop_wf hx 13 k hk
      · exact wf_changed (hx.wf k hk) (by omega)
    · simp only [Nd.know]; split
      · exact loop_mono hx hp hq hl
      · exact changed_mono (hx.wf p hp) (hx.wf q hq) (hx.mono p q hp hq hl) (by omega)
  | .mk c b e vs ar (.cons x (.cons y z)), h => by
    simp only [Nd.Sp] at h
    obtain ⟨m, h1, h2, h3, h4, h5⟩ := h
    have hx := Nds.steady x _ _ h4
    have hy := Nds.steady y _ _ h5
    refine ⟨fun k hk => ?_, fun p q hp hq hl => ?_⟩
    · simp only [Nd.know]; exact wf_join (hx.wf k hk) (hy.wf k hk)
    · simp only [Nd.know]; exact join_mono (hx.mono p q hp hq hl) (hy.mono p q hp hq hl)
theorem Nds.steady : ∀ (x : Nds) (lo hi : Nat), x.Sp lo hi → Steady (Nds.know x)
  | .nil, lo, hi, h => ⟨fun k hk => by simpa only [Nds.know] using hk, fun p q _ _ hl => by simpa only [Nds.know] using hl⟩
  | .cons x r, lo, hi, h => by
    simp only [Nds.Sp] at h
    have hx := Nd.steady x h.2.1
    have hr := Nds.steady r _ _ h.2.2
    refine ⟨fun k hk => ?_, fun p q hp hq hl => ?_⟩
    · simp only [Nds.know]; exact hr.wf _ (hx.wf k hk)
    · simp only [Nds.know]; exact hr.mono _ _ (hx.wf p hp) (hx.wf q hq) (hx.mono p q hp hq hl)
end

/-! ### notes -/
theorem over_none {a b : Notes} {j : Nat} (h : a j = none) : a.over b j = b j := by simp [Notes.over, h]
theorem over_some {a b : Notes} {j : Nat} {k : Kn} (h : a j = some k) : a.over b j = some k := by simp [Notes.over, h]
theorem over_isSome (a b : Notes) (j : Nat) : (a.over b j).isSome = ((a j).isSome || (b j).isSome) := by
  unfold Notes.over; cases h : a j <;> simp
theorem over_cases {a b : Notes} {j : Nat} {k : Kn} (h : a.over b j = some k) : a j = some k ∨ (a j = none ∧ b j = some k) := by
  unfold Notes.over at h
  cases e : a j with
  | none => rw [e] at h; exact .inr ⟨rfl, h⟩
  | some t => rw [e] at h; exact .inl h
theorem point_isSome (i : Nat) (k : Kn) (j : Nat) : (point i k j).isSome = decide (j = i) := by
  unfold point; split <;> simp [*]

mutual
theorem Nd.note_dom : ∀ (x : Nd) (k k' : Kn) (j : Nat), (Nd.note x k j).isSome = (Nd.note x k' j).isSome
  | .mk c b e vs ar .nil, k, k', j => by simp only [Nd.note, point_isSome]
  | .mk c b e vs ar (.cons x .nil), k, k', j => by
    simp only [Nd.note]
    split
    · simp only [over_isSome, point_isSome]; rw [Nds.note_dom x _ (loopK (fun t => Nds.know x t) 13 k') j]
    · simp only [over_isSome, point_isSome]; rw [Nds.note_dom x k k' j]
  | .mk c b e vs ar (.cons x (.cons y z)), k, k', j => by
    simp only [Nd.note, over_isSome, point_isSome]
    rw [Nds.note_dom x k k' j, Nds.note_dom y k k' j]
theorem Nds.note_dom : ∀ (x : Nds) (k k' : Kn) (j : Nat), (Nds.note x k j).isSome = (Nds.note x k' j).isSome
  | .nil, k, k', j => by simp only [Nds.note]
  | .cons x r, k, k', j => by
    simp only [Nds.note, over_isSome]
    rw [Nd.note_dom x k k' j, Nds.note_dom r _ (Nd.know x k') j]
end

theorem point_some {i j : Nat} {k t : Kn} (h : point i k j = some t) : j = i ∧ t = k := by
  unfold point at h; split at h
  · rename_i e; exact ⟨e, (Option.some.inj h).symm⟩
  · cases h

theorem Nd.Sp.lt : ∀ {x : Nd}, x.Sp → x.beg < x.fin
  | .mk c b e vs ar .nil, h => by simp only [Nd.Sp, Nd.beg, Nd.fin] at *; exact h.1
  | .mk c b e vs ar (.cons x .nil), h => by simp only [Nd.Sp, Nd.beg, Nd.fin] at *; omega
  | .mk c b e vs ar (.cons x (.cons y z)), h => by simp only [Nd.Sp, Nd.beg, Nd.fin] at *; obtain ⟨m, h⟩ := h; omega
theorem Nds.Sp.le : ∀ {x : Nds} {lo hi : Nat}, x.Sp lo hi → lo ≤ hi
  | .nil, _, _, h => by simpa only [Nds.Sp] using h
  | .cons x r, _, _, h => by
    simp only [Nds.Sp] at h
    have := h.2.1.lt
    have := h.2.2.le
    omega

mutual
theorem Nd.note_in : ∀ (x : Nd) (k t : Kn) (j : Nat), x.Sp → Nd.note x k j = some t → x.beg ≤ j ∧ j < x.fin
  | .mk c b e vs ar .nil, k, t, j, h, hn => by
    simp only [Nd.Sp] at h
    simp only [Nd.note] at hn
    have := (point_some hn).1
    simp only [Nd.beg, Nd.fin]; omega
  | .mk c b e vs ar (.cons x .nil), k, t, j, h, hn => by
    simp only [Nd.Sp] at h
    simp only [Nd.note] at hn
    simp only [Nd.beg, Nd.fin]
    have hle := h.2.2.le
    split at hn
    · rcases over_cases hn with h1 | ⟨_, h1⟩
      · have := Nds.note_in x _ _ _ _ _ h.2.2 h1; omega
      · have := (point_some h1).1; omega
    · rcases over_cases hn with h1 | ⟨_, h1⟩
      · have := (point_some h1).1; omega
      · rcases over_cases h1 with h1 | ⟨_, h1⟩
        · have := Nds.note_in x _ _ _ _ _ h.2.2 h1; omega
        · have := (point_some h1).1; omega
  | .mk c b e vs ar (.cons x (.cons y z)), k, t, j, h, hn => by
    simp only [Nd.Sp] at h
    obtain ⟨m, h1, h2, h3, h4, h5⟩ := h
    simp only [Nd.note] at hn
    simp only [Nd.beg, Nd.fin]
    rcases over_cases hn with h6 | ⟨_, h6⟩
    · have := Nds.note_in y _ _ _ _ _ h5 h6; omega
    · rcases over_cases h6 with h6 | ⟨_, h6⟩
      · have := Nds.note_in x _ _ _ _ _ h4 h6; omega
      · have := (point_some h6).1; omega
theorem Nds.note_in : ∀ (x : Nds) (lo hi : Nat) (k t : Kn) (j : Nat), x.Sp lo hi → Nds.note x k j = some t → lo ≤ j ∧ j < hi
  | .nil, lo, hi, k, t, j, h, hn => by simp [Nds.note, blank] at hn
  | .cons x r, lo, hi, k, t, j, h, hn => by
    simp only [Nds.Sp] at h
    simp only [Nds.note] at hn
    have h1 := h.2.1.lt
    have h2 := h.2.2.le
    rcases over_cases hn with h6 | ⟨_, h6⟩
    · have := Nds.note_in r _ _ _ _ _ h.2.2 h6; omega
    · have := Nd.note_in x _ _ _ h.2.1 h6; omega
end

mutual
theorem Nd.note_wf : ∀ (x : Nd) (k t : Kn) (j : Nat), x.Sp → k.Wf → Nd.note x k j = some t → t.Wf
  | .mk c b e vs ar .nil, k, t, j, h, hk, hn => by
    simp only [Nd.note] at hn
    rw [(point_some hn).2]; exact hk
  | .mk c b e vs ar (.cons x .nil), k, t, j, h, hk, hn => by
    simp only [Nd.Sp] at h
    simp only [Nd.note] at hn
    have hx := Nds.steady x _ _ h.2.2
    split at hn
    · rcases over_cases hn with h1 | ⟨_, h1⟩
      · exact Nds.note_wf x _ _ _ _ _ h.2.2 (loop_wf hx 13 k hk) h1
      · rw [(point_some h1).2]; exact hk
    · rcases over_cases hn with h1 | ⟨_, h1⟩
      · rw [(point_some h1).2]; exact hx.wf k hk
      · rcases over_cases h1 with h1 | ⟨_, h1⟩
        · exact Nds.note_wf x _ _ _ _ _ h.2.2 hk h1
        · rw [(point_some h1).2]; exact hk
  | .mk c b e vs ar (.cons x (.cons y z)), k, t, j, h, hk, hn => by
    simp only [Nd.Sp] at h
    obtain ⟨m, h1, h2, h3, h4, h5⟩ := h
    simp only [Nd.note] at hn
    rcases over_cases hn with h6 | ⟨_, h6⟩
    · exact Nds.note_wf y _ _ _ _ _ h5 hk h6
    · rcases over_cases h6 with h6 | ⟨_, h6⟩
      · exact Nds.note_wf x _ _ _ _ _ h4 hk h6
      · rw [(point_some h6).2]; exact hk
theorem Nds.note_wf : ∀ (x : Nds) (lo hi : Nat) (k t : Kn) (j : Nat), x.Sp lo hi → k.Wf → Nds.note x k j = some t → t.Wf
  | .nil, lo, hi, k, t, j, h, hk, hn => by simp [Nds.note, blank] at hn
  | .cons x r, lo, hi, k, t, j, h, hk, hn => by
    simp only [Nds.Sp] at h
    simp only [Nds.note] at hn
    rcases over_cases hn with h6 | ⟨_, h6⟩
    · exact Nds.note_wf r _ _ _ _ _ h.2.2 ((Nd.steady x h.2.1).wf k hk) h6
    · exact Nd.note_wf x _ _ _ h.2.1 hk h6
end

/-- Notes that only grow. -/
def Notes.le (a b : Notes) : Prop := ∀ j t, a j = some t → ∃ u, b j = some u ∧ t.le u
theorem Notes.le.over {a b c d : Notes} (h : a.le c) (k : b.le d) (hd : ∀ j, (a j).isSome = (c j).isSome) : (a.over b).le (c.over d) := by
  intro j t e
  rcases over_cases e with e | ⟨e0, e⟩
  · obtain ⟨u, e1, e2⟩ := h j t e
    exact ⟨u, over_some e1, e2⟩
  · obtain ⟨u, e1, e2⟩ := k j t e
    have := hd j
    rw [e0] at this
    have hc : c j = none := by cases hcj : c j with | none => rfl | some z => rw [hcj] at this; cases this
    exact ⟨u, (over_none hc).trans e1, e2⟩
theorem point_le {i : Nat} {a b : Kn} (h : a.le b) : Notes.le (point i a) (point i b) := by
  intro j t e
  obtain ⟨rfl, rfl⟩ := point_some e
  exact ⟨b, by simp [point], h⟩

mutual
theorem Nd.note_mono : ∀ (x : Nd) (p q : Kn), x.Sp → p.Wf → q.Wf → p.le q → Notes.le (Nd.note x p) (Nd.note x q)
  | .mk c b e vs ar .nil, p, q, h, hp, hq, hl => by
    simp only [Nd.note]; exact point_le hl
  | .mk c b e vs ar (.cons x .nil), p, q, h, hp, hq, hl => by
    simp only [Nd.Sp] at h
    have hx := Nds.steady x _ _ h.2.2
    simp only [Nd.note]
    split
    · exact (Nds.note_mono x _ _ _ _ h.2.2 (loop_wf hx 13 p hp) (loop_wf hx 13 q hq) (loop_mono hx hp hq hl)).over (point_le hl) (Nds.note_dom x _ _)
    · exact (point_le (hx.mono p q hp hq hl)).over ((Nds.note_mono x _ _ _ _ h.2.2 hp hq hl).over (point_le hl) (Nds.note_dom x _ _)) (fun j => by simp only [point_isSome])
  | .mk c b e vs ar (.cons x (.cons y z)), p, q, h, hp, hq, hl => by
    simp only [Nd.Sp] at h
    obtain ⟨m, h1, h2, h3, h4, h5⟩ := h
    simp only [Nd.note]
    exact (Nds.note_mono y _ _ _ _ h5 hp hq hl).over ((Nds.note_mono x _ _ _ _ h4 hp hq hl).over (point_le hl) (Nds.note_dom x _ _)) (Nds.note_dom y _ _)
theorem Nds.note_mono : ∀ (x : Nds) (lo hi : Nat) (p q : Kn), x.Sp lo hi → p.Wf → q.Wf → p.le q → Notes.le (Nds.note x p) (Nds.note x q)
  | .nil, lo, hi, p, q, h, hp, hq, hl => by simp only [Nds.note]; intro j t e; cases e
  | .cons x r, lo, hi, p, q, h, hp, hq, hl => by
    simp only [Nds.Sp] at h
    have hx := Nd.steady x h.2.1
    simp only [Nds.note]
    exact (Nds.note_mono r _ _ _ _ h.2.2 (hx.wf p hp) (hx.wf q hq) (hx.mono p q hp hq hl)).over (Nd.note_mono x p q h.2.1 hp hq hl) (Nds.note_dom r _ _)
end

/-- Notes joined point by point (as the model notes). -/
def Notes.both (a b : Notes) : Notes := fun j => match a j, b j with | none, y => y | x, none => x | some x, some y => some (x.join y)
theorem both_blank_left (a : Notes) : Notes.both blank a = a := by funext j; simp [Notes.both, blank]
theorem both_apart {m a b : Notes} (h : ∀ j, a j = none ∨ b j = none) : Notes.both (Notes.both m b) a = Notes.both m (a.over b) := by
  funext j
  unfold Notes.both Notes.over
  rcases h j with h | h
  · rw [h]; cases m j <;> cases b j <;> rfl
  · rw [h]; cases m j <;> cases a j <;> rfl
/-- What is noted again, further on: only the last one counts. -/
theorem both_grow {m a b : Notes} (h : a.le b) : Notes.both (Notes.both m a) b = Notes.both m b := by
  funext j
  unfold Notes.both
  cases ha : a j with
  | none => cases m j <;> cases b j <;> rfl
  | some t =>
    obtain ⟨u, e1, e2⟩ := h j t ha
    rw [e1]
    cases m j with
    | none => show some (t.join u) = some u; rw [e2]
    | some v => show some ((v.join t).join u) = some (v.join u); rw [join_assoc, e2]
theorem over_again {m a b : Notes} (h : ∀ j, (a j).isSome = (b j).isSome) : b.over (a.over m) = b.over m := by
  funext j
  unfold Notes.over
  have := h j
  cases hb : b j with
  | some t => rfl
  | none => rw [hb] at this; cases ha : a j with | none => rfl | some z => rw [ha] at this; cases this
theorem over_assoc (a b c : Notes) : (a.over b).over c = a.over (b.over c) := by
  funext j; unfold Notes.over; cases a j <;> rfl
theorem over_blank (a : Notes) : a.over blank = a := by
  funext j; unfold Notes.over blank; cases a j <;> rfl

/-- The steps of a list lie apart, and the parts of a step. -/
theorem list_apart {x : Nd} {r : Nds} {lo hi : Nat} (h : (Nds.cons x r).Sp lo hi) (k k' : Kn) (j : Nat) : Nds.note r k' j = none ∨ Nd.note x k j = none := by
  simp only [Nds.Sp] at h
  cases e : Nds.note r k' j with
  | none => exact .inl rfl
  | some t =>
    refine .inr ?_
    cases e' : Nd.note x k j with
    | none => rfl
    | some u =>
      have := Nds.note_in r _ _ _ _ _ h.2.2 e
      have := Nd.note_in x _ _ _ h.2.1 e'
      omega
theorem body_apart {x : Nds} {lo hi i : Nat} (h : x.Sp lo hi) (hi' : i < lo ∨ hi ≤ i) (k k' : Kn) (j : Nat) : Nds.note x k j = none ∨ point i k' j = none := by
  cases e : Nds.note x k j with
  | none => exact .inl rfl
  | some t =>
    refine .inr ?_
    have := Nds.note_in x _ _ _ _ _ h e
    unfold point; rw [if_neg (by omega)]
theorem two_apart {x y : Nds} {a m e : Nat} (hx : x.Sp a m) (hy : y.Sp m e) (k k' : Kn) (j : Nat) : Nds.note y k j = none ∨ Nds.note x k' j = none := by
  cases e1 : Nds.note y k j with
  | none => exact .inl rfl
  | some t =>
    refine .inr ?_
    cases e2 : Nds.note x k' j with
    | none => rfl
    | some u =>
      have := Nds.note_in x _ _ _ _ _ hx e2
      have := Nds.note_in y _ _ _ _ _ hy e1
      omega

/-- What is known at all points of a program. -/
def notesP (x : Nd) : Notes := Nd.note x ⟨0, 0⟩

end Go.Proofs.Ytlilkmemgomnjaa
