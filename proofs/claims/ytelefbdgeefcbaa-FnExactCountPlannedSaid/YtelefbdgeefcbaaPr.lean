/-
  The points of a program as the model finds them: where steps begin, and where scopes end put in one by one. Nothing is walked here.
-/
import Derived.Test.YtelefbdgeefcbaaPq
namespace Go.Proofs.Ytelefbdgeefcbaa
set_option linter.unusedVariables false
set_option linter.unusedSimpArgs false

def begsL (l : List Nd) : List Nat := l.map Nd.beg
def endsL (l : List Nd) : List Nat := (l.filter (fun z => z.kind == 123)).map (fun z => z.fin - 1)

theorem begsL_app (a b : List Nd) : begsL (a ++ b) = begsL a ++ begsL b := by unfold begsL; rw [List.map_append]
theorem endsL_app (a b : List Nd) : endsL (a ++ b) = endsL a ++ endsL b := by unfold endsL; rw [List.filter_append, List.map_append]

theorem perm_two {a b c d p q : List Nat} (h1 : p.Perm (a ++ b)) (h2 : q.Perm (c ++ d)) : (p ++ q).Perm ((a ++ c) ++ (b ++ d)) := by
  refine (h1.append h2).trans ?_
  rw [List.append_assoc, List.append_assoc]
  refine List.Perm.append_left a ?_
  rw [← List.append_assoc, ← List.append_assoc]
  exact List.Perm.append_right d List.perm_append_comm

mutual
theorem Nd.pts_perm : ∀ x : Nd, (x.pts.map Prod.fst).Perm (begsL x.pre.list ++ endsL x.pre.list)
  | .mk c b e vs ar bs => by
    have h := Bds.pts_perm bs
    have e1 : (Nd.mk c b e vs ar bs).pre.list = .mk c b e vs ar bs :: bs.pre.list := rfl
    have e2 : ((Nd.mk c b e vs ar bs).pts).map Prod.fst = b :: (bs.pts.map Prod.fst ++ if c = 123 then [e - 1] else []) := by
      simp only [Nd.pts, List.map_cons, List.map_append]
      split <;> rfl
    have e3 : begsL (.mk c b e vs ar bs :: bs.pre.list) = b :: begsL bs.pre.list := rfl
    have e4 : endsL (.mk c b e vs ar bs :: bs.pre.list) = (if c = 123 then [e - 1] else []) ++ endsL bs.pre.list := by
      unfold endsL
      by_cases hc : c = 123
      · rw [if_pos hc, List.filter_cons, if_pos (by simp [Nd.kind, hc])]; rfl
      · rw [if_neg hc, List.filter_cons, if_neg (by simp [Nd.kind, hc])]; rfl
    rw [e1, e2, e3, e4, List.cons_append]
    refine List.Perm.cons b ?_
    generalize (if c = 123 then [e - 1] else []) = E
    refine (h.append_right E).trans ?_
    rw [List.append_assoc]
    exact List.Perm.append_left _ List.perm_append_comm
theorem Nds.pts_perm : ∀ x : Nds, (x.pts.map Prod.fst).Perm (begsL x.pre.list ++ endsL x.pre.list)
  | .nil => by simp [Nds.pts, Nds.pre, Nds.list, begsL, endsL]
  | .cons x r => by
    have h1 := Nd.pts_perm x
    have h2 := Nds.pts_perm r
    simp only [Nds.pts, Nds.pre, Nds.list_app, List.map_append, begsL_app, endsL_app]
    exact perm_two h1 h2
theorem Bds.pts_perm : ∀ x : Bds, (x.pts.map Prod.fst).Perm (begsL x.pre.list ++ endsL x.pre.list)
  | .nil => by simp [Bds.pts, Bds.pre, Nds.list, begsL, endsL]
  | .cons x r => by
    have h1 := Nds.pts_perm x
    have h2 := Bds.pts_perm r
    simp only [Bds.pts, Bds.pre, Nds.list_app, List.map_append, begsL_app, endsL_app]
    exact perm_two h1 h2
end

abbrev Asc (l : List Nat) : Prop := l.Pairwise (· < ·)

theorem pts_ascN {x : Nd} (h : x.Sp) (hf : x.Fit) : Asc (x.pts.map Prod.fst) := by
  unfold Asc
  rw [List.pairwise_map]
  exact Nd.pts_asc x h hf

theorem asc_ext : ∀ {l1 l2 : List Nat}, Asc l1 → Asc l2 → (∀ a, a ∈ l1 ↔ a ∈ l2) → l1 = l2
  | [], [], _, _, _ => rfl
  | [], b :: r, _, _, h => absurd ((h b).2 (by simp)) (by simp)
  | a :: r, [], _, _, h => absurd ((h a).1 (by simp)) (by simp)
  | a :: r, b :: s, h1, h2, h => by
    have g1 := List.pairwise_cons.1 h1
    have g2 := List.pairwise_cons.1 h2
    have e : a = b := by
      have m1 : a ∈ b :: s := (h a).1 (by simp)
      have m2 : b ∈ a :: r := (h b).2 (by simp)
      rcases List.mem_cons.1 m1 with e | m1
      · exact e
      · rcases List.mem_cons.1 m2 with e | m2
        · exact e.symm
        · have := g1.1 b m2; have := g2.1 a m1; omega
    subst e
    rw [asc_ext g1.2 g2.2 (fun u => ⟨fun hu => ?_, fun hu => ?_⟩)]
    · rcases List.mem_cons.1 ((h u).1 (List.mem_cons_of_mem _ hu)) with e | m
      · have := g1.1 u hu; omega
      · exact m
    · rcases List.mem_cons.1 ((h u).2 (List.mem_cons_of_mem _ hu)) with e | m
      · have := g2.1 u hu; omega
      · exact m

/-- Where a number is put in: behind all that are no greater. -/
def insN (e : Nat) (l : List Nat) : List Nat := l.filter (fun a => decide (a ≤ e)) ++ e :: l.filter (fun a => decide (e < a))

theorem insN_asc {e : Nat} {l : List Nat} (h : Asc l) (hn : e ∉ l) : Asc (insN e l) ∧ ∀ a, a ∈ insN e l ↔ a = e ∨ a ∈ l := by
  unfold insN
  refine ⟨List.pairwise_append.2 ⟨h.filter _, List.pairwise_cons.2 ⟨fun a ha => by simpa using (List.mem_filter.1 ha).2, h.filter _⟩, fun a ha b hb => ?_⟩, fun a => ?_⟩
  · have h1 : a ≤ e := by simpa using (List.mem_filter.1 ha).2
    have h2 : a ≠ e := fun e2 => hn (e2 ▸ (List.mem_filter.1 ha).1)
    rcases List.mem_cons.1 hb with rfl | hb
    · omega
    · have : e < b := by simpa using (List.mem_filter.1 hb).2
      omega
  · simp only [List.mem_append, List.mem_cons, List.mem_filter, decide_eq_true_eq]
    constructor
    · rintro (⟨h1, _⟩ | rfl | ⟨h1, _⟩)
      · exact .inr h1
      · exact .inl rfl
      · exact .inr h1
    · rintro (rfl | h1)
      · exact .inr (.inl rfl)
      · rcases Nat.lt_or_ge e a with h2 | h2
        · exact .inr (.inr ⟨h1, h2⟩)
        · exact .inl ⟨h1, h2⟩

/-- Cut where the walk stops: what is in front is no greater, what is behind is greater. -/
theorem insN_cut {e : Nat} {l : List Nat} (h : Asc l) {k : Nat} (hk : k ≤ l.length) (h1 : ∀ i (hi : i < l.length), k ≤ i → e < l[i]) (h2 : k = 0 ∨ ∃ v, l[k - 1]? = some v ∧ v ≤ e) : l.take k ++ e :: l.drop k = insN e l := by
  have ht : ∀ a ∈ l.take k, a ≤ e := by
    intro a ha
    rcases h2 with h2 | ⟨v, hv, hve⟩
    · rw [h2] at ha; simp at ha
    · obtain ⟨i, hi, hia⟩ := List.mem_iff_getElem.1 ha
      rw [List.getElem_take] at hia
      have hik : i < k := by simp at hi; omega
      have hil : i < l.length := by omega
      obtain ⟨hkl, hvk⟩ := List.getElem?_eq_some_iff.1 hv
      rcases Nat.lt_or_ge i (k - 1) with hlt | hge
      · have := List.pairwise_iff_getElem.1 h i (k - 1) hil hkl hlt
        omega
      · have e1 : i = k - 1 := by omega
        subst e1
        omega
  have hd : ∀ a ∈ l.drop k, e < a := by
    intro a ha
    obtain ⟨i, hi, hia⟩ := List.mem_iff_getElem.1 ha
    rw [List.getElem_drop] at hia
    rw [← hia]
    exact h1 (k + i) (by simp at hi; omega) (by omega)
  have e1 : l.filter (fun a => decide (a ≤ e)) = l.take k := by
    conv => lhs; rw [← List.take_append_drop k l]
    rw [List.filter_append, List.filter_eq_self.2 (fun a ha => by simpa using ht a ha), List.filter_eq_nil_iff.2 (fun a ha => by have := hd a ha; simp; omega), List.append_nil]
  have e2 : l.filter (fun a => decide (e < a)) = l.drop k := by
    conv => lhs; rw [← List.take_append_drop k l]
    rw [List.filter_append, List.filter_eq_nil_iff.2 (fun a ha => by have := ht a ha; simp; omega), List.filter_eq_self.2 (fun a ha => by simpa using hd a ha), List.nil_append]
  unfold insN
  rw [e1, e2]

theorem fold_asc : ∀ (es l : List Nat), Asc l → (l ++ es).Nodup → Asc (es.foldl (fun l e => insN e l) l) ∧ ∀ a, a ∈ es.foldl (fun l e => insN e l) l ↔ a ∈ l ∨ a ∈ es
  | [], l, h, _ => ⟨h, fun a => by simp⟩
  | e :: es, l, h, hn => by
    have hn2 := List.nodup_append.1 hn
    have hel : e ∉ l := fun hm => hn2.2.2 e hm e (by simp) rfl
    obtain ⟨g1, g2⟩ := insN_asc h hel
    have hnd : (insN e l ++ es).Nodup := by
      refine List.nodup_append.2 ⟨?_, (List.nodup_cons.1 hn2.2.1).2, fun a ha b hb => ?_⟩
      · exact g1.imp (fun hlt => by omega)
      · rcases (g2 a).1 ha with rfl | ha
        · intro e2; subst e2; exact (List.nodup_cons.1 hn2.2.1).1 hb
        · exact hn2.2.2 a ha b (by simp [hb])
    obtain ⟨f1, f2⟩ := fold_asc es (insN e l) g1 hnd
    refine ⟨f1, fun a => ?_⟩
    rw [List.foldl_cons]
    rw [f2 a, g2 a]
    simp only [List.mem_cons]
    constructor
    · rintro ((h | h) | h)
      · exact .inr (.inl h)
      · exact .inl h
      · exact .inr (.inr h)
    · rintro (h | h | h)
      · exact .inl (.inr h)
      · exact .inl (.inl h)
      · exact .inr h

mutual
theorem Nd.begs_sub : ∀ x : Nd, (begsL x.pre.list).Sublist (x.pts.map Prod.fst)
  | .mk c b e vs ar bs => by
    have h := Bds.begs_sub bs
    have e1 : (Nd.mk c b e vs ar bs).pre.list = .mk c b e vs ar bs :: bs.pre.list := rfl
    have e2 : ((Nd.mk c b e vs ar bs).pts).map Prod.fst = b :: (bs.pts.map Prod.fst ++ if c = 123 then [e - 1] else []) := by
      simp only [Nd.pts, List.map_cons, List.map_append]
      split <;> rfl
    have e3 : begsL (.mk c b e vs ar bs :: bs.pre.list) = b :: begsL bs.pre.list := rfl
    rw [e1, e2, e3]
    exact (h.trans (List.sublist_append_left _ _)).cons_cons b
theorem Nds.begs_sub : ∀ x : Nds, (begsL x.pre.list).Sublist (x.pts.map Prod.fst)
  | .nil => by simp [Nds.pts, Nds.pre, Nds.list, begsL]
  | .cons x r => by
    simp only [Nds.pts, Nds.pre, Nds.list_app, List.map_append, begsL_app]
    exact (Nd.begs_sub x).append (Nds.begs_sub r)
theorem Bds.begs_sub : ∀ x : Bds, (begsL x.pre.list).Sublist (x.pts.map Prod.fst)
  | .nil => by simp [Bds.pts, Bds.pre, Nds.list, begsL]
  | .cons x r => by
    simp only [Bds.pts, Bds.pre, Nds.list_app, List.map_append, begsL_app]
    exact (Nds.begs_sub x).append (Bds.begs_sub r)
end

/-- What the model finds is what the tree tells. -/
theorem points_eq {s : ByteArray} {x : Nd} (hp : progP s = some x) : (endsL x.pre.list).foldl (fun l e => insN e l) (begsL x.pre.list) = x.pts.map Prod.fst := by
  have hA := pts_ascN (progP_sp hp) (progP_fit hp)
  have hP := Nd.pts_perm x
  have hN : (begsL x.pre.list ++ endsL x.pre.list).Nodup := hP.nodup_iff.1 (hA.imp (fun hlt => by omega))
  have hB : Asc (begsL x.pre.list) := hA.sublist (Nd.begs_sub x)
  obtain ⟨f1, f2⟩ := fold_asc (endsL x.pre.list) (begsL x.pre.list) hB hN
  refine asc_ext f1 hA (fun a => ?_)
  rw [f2 a, hP.mem_iff, List.mem_append]

end Go.Proofs.Ytelefbdgeefcbaa
