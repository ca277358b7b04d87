/-
  Plans, pure: how many there are, what is told of a place, plans as pairs.
-/
import Derived.Test.YtcpbkohpgchckaaYe
namespace Go.Proofs.Ytcpbkohpgchckaa
set_option linter.unusedVariables false
set_option linter.unusedSimpArgs false
open Go.RowKit Go.Shelf

attribute [local go_sem] Oper.semAt_some

theorem asc_len : ∀ (l : List Nat) (lo hi : Nat), Asc l → (∀ a ∈ l, lo ≤ a ∧ a < hi) → l.length ≤ hi - lo
  | [], _, _, _, _ => Nat.zero_le _
  | a :: r, lo, hi, h, hb => by
    have g := List.pairwise_cons.1 h
    have := asc_len r (a + 1) hi g.2 (fun b hm => ⟨g.1 b hm, (hb b (by simp [hm])).2⟩)
    have := hb a (by simp)
    simp only [List.length_cons]
    omega

theorem pts_few {s : ByteArray} {x : Nd} (hp : progP s = some x) : x.pts.length ≤ 81 := by
  have h := asc_len (x.pts.map Prod.fst) 0 81 (pts_ascN (progP_sp hp) (progP_fit hp)) (fun a ha => by
    obtain ⟨p, hm, rfl⟩ := List.mem_map.1 ha
    have := (progP_pts hp p hm).2.2; omega)
  rw [List.length_map] at h
  omega
theorem plansL_few {s : ByteArray} {x : Nd} (hp : progP s = some x) : (plansL x).length ≤ 81 := by
  refine Nat.le_trans (List.length_filter_le _ _) ?_
  rw [List.length_map]
  exact pts_few hp


/-! ### what is noted is a point -/
theorem head_pt (c : UInt8) (b e : Nat) (vs ar : List UInt8) (bs : Bds) : ∃ p ∈ (Nd.mk c b e vs ar bs).pts, p.1 = b := ⟨_, by rw [Nd.pts]; exact List.mem_cons_self .., rfl⟩
mutual
theorem Nd.note_pts : ∀ (x : Nd) (k : Kn) (j : Nat), x.Fit → (Nd.note x k j).isSome = true → ∃ p ∈ x.pts, p.1 = j
  | .mk c b e vs ar .nil, k, j, hf, h => by
    simp only [Nd.note, point_isSome, decide_eq_true_eq] at h
    rw [h]; exact head_pt _ _ _ _ _ _
  | .mk c b e vs ar (.cons x .nil), k, j, hf, h => by
    simp only [Nd.Fit] at hf
    simp only [Nd.note] at h
    have hin : ∀ k, (Nds.note x k j).isSome = true → ∃ p ∈ (Nd.mk c b e vs ar (.cons x .nil)).pts, p.1 = j := fun k hk => by
      obtain ⟨p, hp, e⟩ := Nds.note_pts x k j hf.2 hk
      exact ⟨p, by simp only [Nd.pts, Bds.pts, List.append_nil, List.mem_cons, List.mem_append]; exact .inr (.inl hp), e⟩
    split at h
    · simp only [over_isSome, point_isSome, Bool.or_eq_true, decide_eq_true_eq] at h
      rcases h with h | h
      · exact hin _ h
      · rw [h]; exact head_pt _ _ _ _ _ _
    · rename_i hc
      simp only [over_isSome, point_isSome, Bool.or_eq_true, decide_eq_true_eq] at h
      rcases h with h | h | h
      · have h123 : c = 123 := by
          rcases hf.1 with ⟨h1, _⟩ | h1
          · exact absurd h1 hc
          · exact h1
        exact ⟨(e - 1, vs), by rw [Nd.pts, if_pos h123]; simp, h.symm⟩
      · exact hin _ h
      · rw [h]; exact head_pt _ _ _ _ _ _
  | .mk c b e vs ar (.cons x (.cons y .nil)), k, j, hf, h => by
    simp only [Nd.Fit] at hf
    simp only [Nd.note, over_isSome, point_isSome, Bool.or_eq_true, decide_eq_true_eq] at h
    rcases h with h | h | h
    · obtain ⟨p, hp, e⟩ := Nds.note_pts y k j hf.2.2.2 h
      exact ⟨p, by simp only [Nd.pts, Bds.pts, List.append_nil, List.mem_cons, List.mem_append]; exact .inr (.inl (.inr hp)), e⟩
    · obtain ⟨p, hp, e⟩ := Nds.note_pts x k j hf.2.2.1 h
      exact ⟨p, by simp only [Nd.pts, Bds.pts, List.append_nil, List.mem_cons, List.mem_append]; exact .inr (.inl (.inl hp)), e⟩
    · rw [h]; exact head_pt _ _ _ _ _ _
  | .mk c b e vs ar (.cons x (.cons y (.cons u r))), k, j, hf, h => by simp only [Nd.Fit] at hf
theorem Nds.note_pts : ∀ (x : Nds) (k : Kn) (j : Nat), x.Fit → (Nds.note x k j).isSome = true → ∃ p ∈ x.pts, p.1 = j
  | .nil, k, j, _, h => by simp [Nds.note, blank] at h
  | .cons x r, k, j, hf, h => by
    simp only [Nds.Fit] at hf
    simp only [Nds.note, over_isSome, Bool.or_eq_true] at h
    rcases h with h | h
    · obtain ⟨p, hp, e⟩ := Nds.note_pts r _ j hf.2 h
      exact ⟨p, by simp only [Nds.pts, List.mem_append]; exact .inr hp, e⟩
    · obtain ⟨p, hp, e⟩ := Nd.note_pts x _ j hf.1 h
      exact ⟨p, by simp only [Nds.pts, List.mem_append]; exact .inl hp, e⟩
end

/-- The place of a point is reached exactly if a plan is told of it. -/
theorem plan_reached {s : ByteArray} {x : Nd} (hp : progP s = some x) (at_ : Int) : (knownP s at_).isSome = (planAtP s at_).isSome := by
  unfold knownP planAtP
  rw [hp]
  simp only
  cases hf : x.pts.find? (fun p => (p.1 : Int) == at_) with
  | none =>
    simp only
    have h0 := List.find?_eq_none.1 hf
    cases hn : noteI (notesP x) at_ with
    | none => rfl
    | some k =>
      exfalso
      unfold noteI at hn
      split at hn
      · rename_i hpos
        obtain ⟨p, hm, e⟩ := Nd.note_pts x ⟨0, 0⟩ at_.toNat (progP_fit hp) (by show (notesP x at_.toNat).isSome = true; rw [hn]; rfl)
        refine h0 p hm ?_
        rw [e]; simp; omega
      · cases hn
  | some p =>
    simp only
    have hm := List.mem_of_find?_eq_some hf
    have he := List.find?_some hf
    simp only [beq_iff_eq] at he
    rw [← he, noteI_nat, (pts_P hp hm).1]
    by_cases hk : knownJ x p.1 = Kn.no
    · rw [if_pos hk]; simp [seenK, hk]
    · rw [if_neg hk]; simp [seenK, hk]

theorem mem_plansL {x : Nd} {q : Pt} : q ∈ plansL x ↔ ∃ p ∈ x.pts, q = (p.1, planK (knownJ x p.1) p.2) ∧ q.2 ≠ [] := by
  unfold plansL
  simp only [List.mem_filter, List.mem_map, Bool.not_eq_true', List.isEmpty_eq_false_iff]
  constructor
  · rintro ⟨⟨p, hm, rfl⟩, h⟩; exact ⟨p, hm, rfl, h⟩
  · rintro ⟨p, hm, rfl, h⟩; exact ⟨⟨p, hm, rfl⟩, h⟩

/-- None of some points is at a place. -/
def noAt (at_ : Int) (l : List Pt) : Prop := ∀ q ∈ l, ((q.1 : Int) == at_) = false

/-- What a plan is that is told of a place, by what the iterator yields. -/
theorem plan_by {s : ByteArray} {x : Nd} (hp : progP s = some x) {at_ : Int} {pl : List UInt8} (h : planAtP s at_ = some pl) :
    (∀ q ∈ plansL x, ((q.1 : Int) == at_) = true → q.2 = pl) ∧ (noAt at_ (plansL x) → pl = []) := by
  unfold planAtP at h
  rw [hp] at h
  simp only at h
  cases hf : x.pts.find? (fun p => (p.1 : Int) == at_) with
  | none => rw [hf] at h; cases h
  | some p =>
    rw [hf] at h
    simp only at h
    have hm := List.mem_of_find?_eq_some hf
    have he := List.find?_some hf
    by_cases hk : knownJ x p.1 = Kn.no
    · rw [if_pos hk] at h; cases h
    · rw [if_neg hk] at h
      injection h with h
      refine ⟨fun q hq hqa => ?_, fun hno => ?_⟩
      · obtain ⟨p2, hm2, rfl, _⟩ := mem_plansL.1 hq
        simp only [beq_iff_eq] at he hqa
        have := asc_one (Nd.pts_asc x (progP_sp hp) (progP_fit hp)) hm hm2 (by omega)
        rw [← this, h]
      · cases hpl : pl with
        | nil => rfl
        | cons c r =>
          have hq : (p.1, planK (knownJ x p.1) p.2) ∈ plansL x := mem_plansL.2 ⟨p, hm, rfl, by rw [h, hpl]; simp⟩
          have := hno _ hq
          rw [this] at he; cases he


/-! ### how often a byte stands in plans -/
def cntL (c : UInt8) (l : List Pt) : Nat := (l.map (fun p => p.2.count c)).sum
theorem cntL_snoc (c : UInt8) (l : List Pt) (p : Pt) : cntL c (l ++ [p]) = cntL c l + p.2.count c := by unfold cntL; rw [List.map_append, List.sum_append]; simp
def cntU (x : Nd) (c : UInt8) (l : List Pt) : Nat := (l.map (fun p => (planK (knownJ x p.1) p.2).count c)).sum
theorem cntU_snoc (x : Nd) (c : UInt8) (l : List Pt) (p : Pt) : cntU x c (l ++ [p]) = cntU x c l + (planK (knownJ x p.1) p.2).count c := by unfold cntU; rw [List.map_append, List.sum_append]; simp
theorem cnt_same (x : Nd) (c : UInt8) : cntL c (plansL x) = cntU x c x.pts := by
  unfold cntL cntU plansL
  generalize x.pts = l
  induction l with
  | nil => rfl
  | cons p r ih =>
    rw [List.map_cons, List.map_cons, List.filter_cons]
    cases h : planK (knownJ x p.1) p.2 with
    | nil => simpa using ih
    | cons a s => simpa using ih

theorem sum_le {α : Type} (f : α → Nat) (m : Nat) : ∀ l : List α, (∀ a ∈ l, f a ≤ m) → (l.map f).sum ≤ m * l.length
  | [], _ => Nat.zero_le _
  | a :: r, h => by
    have h1 := sum_le f m r (fun b hb => h b (List.mem_cons_of_mem _ hb))
    have h2 := h a (by simp)
    rw [List.map_cons, List.sum_cons, List.length_cons, Nat.mul_succ]
    omega

theorem plans_small {s : ByteArray} {x : Nd} (hp : progP s = some x) : ∀ q ∈ plansL x, q.2.length ≤ 160 := by
  intro q hq
  obtain ⟨p, hm, rfl, _⟩ := mem_plansL.1 hq
  have h1 := planK_len (knownJ x p.1) p.2
  have h2 := (progP_pts hp p hm).2.1
  simp only
  omega

theorem cntL_le {s : ByteArray} {x : Nd} (hp : progP s = some x) {pre post : List Pt} (h : plansL x = pre ++ post) (c : UInt8) : cntL c pre ≤ 12960 := by
  have h1 := sum_le (fun p : Pt => p.2.count c) 160 pre (fun q hq => Nat.le_trans List.count_le_length (plans_small hp q (by rw [h]; exact List.mem_append_left _ hq)))
  have h2 := plansL_few hp
  rw [h, List.length_append] at h2
  unfold cntL
  omega
theorem cntU_le {s : ByteArray} {x : Nd} (hp : progP s = some x) {pre post : List Pt} (h : x.pts = pre ++ post) (c : UInt8) : cntU x c pre ≤ 12960 := by
  have h1 := sum_le (fun p : Pt => (planK (knownJ x p.1) p.2).count c) 160 pre (fun q hq => by
    have h3 := planK_len (knownJ x q.1) q.2
    have h4 := (progP_pts hp q (by rw [h]; exact List.mem_append_left _ hq)).2.1
    exact Nat.le_trans List.count_le_length (by omega))
  have h2 := pts_few hp
  rw [h, List.length_append] at h2
  unfold cntU
  omega

/-- How many values are destroyed unsaid for sure, and maybe. -/
def countedP (s : ByteArray) : Option (Nat × Nat) := match progP s with | none => none | some x => some (cntL 45 (plansL x), cntL 126 (plansL x))

/-! ### plans as pairs -/
def pairB (p : Bool × UInt8) : List UInt8 := [if p.1 then 45 else 126, p.2]
theorem pairs_part (k : Kn) : ∀ l : List UInt8, (∀ v ∈ l, ltr v) → ∃ ps : List (Bool × UInt8), l.flatMap (partK k) = ps.flatMap pairB ∧ (∀ p ∈ ps, ltr p.2) ∧ ps.length ≤ l.length
  | [], _ => ⟨[], rfl, fun p h => (by cases h), Nat.le_refl _⟩
  | v :: r, h => by
    obtain ⟨ps, h1, h2, h3⟩ := pairs_part k r (fun u hu => h u (List.mem_cons_of_mem _ hu))
    have hv := h v (by simp)
    rw [List.flatMap_cons, h1]
    unfold partK
    split
    · exact ⟨(true, v) :: ps, by rw [List.flatMap_cons]; rfl, fun p hp => by rcases List.mem_cons.1 hp with rfl | hp; exact hv; exact h2 p hp, by simp; omega⟩
    · split
      · exact ⟨(false, v) :: ps, by rw [List.flatMap_cons]; rfl, fun p hp => by rcases List.mem_cons.1 hp with rfl | hp; exact hv; exact h2 p hp, by simp; omega⟩
      · exact ⟨ps, rfl, h2, by simp; omega⟩
theorem pairs_plan (k : Kn) (vs : List UInt8) (hv : ∀ v ∈ vs, ltr v) : ∃ ps : List (Bool × UInt8), planK k vs = ps.flatMap pairB ∧ (∀ p ∈ ps, ltr p.2) ∧ ps.length ≤ vs.length := by
  by_cases h : k = Kn.no
  · exact ⟨[], by unfold planK; rw [if_pos h]; rfl, fun p hp => (by cases hp), Nat.zero_le _⟩
  · rw [planK_part h]
    obtain ⟨ps, h1, h2, h3⟩ := pairs_part k vs.reverse (fun v h => hv v (List.mem_reverse.1 h))
    exact ⟨ps, h1, h2, by rw [List.length_reverse] at h3; exact h3⟩
theorem pairs_len : ∀ ps : List (Bool × UInt8), (ps.flatMap pairB).length = 2 * ps.length
  | [] => rfl
  | p :: r => by rw [List.flatMap_cons, List.length_append, pairs_len r, List.length_cons]; simp [pairB]; omega
theorem pairs_get : ∀ (d r : List (Bool × UInt8)) (p : Bool × UInt8), ((d ++ p :: r).flatMap pairB)[2 * d.length]? = some (if p.1 then 45 else 126)
  | [], r, p => by simp [pairB]
  | q :: d, r, p => by
    have h := pairs_get d r p
    rw [List.cons_append, List.flatMap_cons, List.getElem?_append_right (by simp [pairB]; omega)]
    have e : 2 * (q :: d).length - (pairB q).length = 2 * d.length := by simp [pairB]; omega
    rw [e]; exact h
theorem ltr_ne {v : UInt8} (h : ltr v) : v ≠ 45 ∧ v ≠ 126 := by
  obtain ⟨h1, h2⟩ := h
  refine ⟨fun e => ?_, fun e => ?_⟩ <;> (rw [e] at h1 h2; revert h1 h2; decide)
theorem pairs_count : ∀ ps : List (Bool × UInt8), (∀ p ∈ ps, ltr p.2) → (ps.flatMap pairB).count 45 = ps.countP (fun p => p.1) ∧ (ps.flatMap pairB).count 126 = ps.countP (fun p => !p.1)
  | [], _ => ⟨rfl, rfl⟩
  | p :: r, h => by
    obtain ⟨h1, h2⟩ := pairs_count r (fun q hq => h q (List.mem_cons_of_mem _ hq))
    obtain ⟨n1, n2⟩ := ltr_ne (h p (by simp))
    rw [List.flatMap_cons, List.count_append, List.count_append, h1, h2, List.countP_cons, List.countP_cons]
    obtain ⟨b, v⟩ := p
    have n1 : v ≠ 45 := n1
    have n2 : v ≠ 126 := n2
    cases b with
    | true => simp [pairB, List.count_cons, n1, n2]; omega
    | false => simp [pairB, List.count_cons, n1, n2]; omega


end Go.Proofs.Ytcpbkohpgchckaa
