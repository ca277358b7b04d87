/-
  l10Used at every step of a program; what both sides say of a scope's letters.
-/
import Derived.Test.YtccpmhjffcceeaaLk
import Derived.Test.YtccpmhjffcceeaaLi
namespace Go.Proofs.Ytccpmhjffcceeaa
set_option linter.unusedVariables false
set_option linter.unusedSimpArgs false
open Go.RowKit

theorem flat_filter_len (P : UInt8 → Bool) (l : List Nds) : (l.flatMap (fun y => (Nds.lu y).filter P)).length ≤ (l.map (fun y => (Nds.lu y).length)).sum := by
  induction l with
  | nil => simp
  | cons y r ih =>
    have := List.length_filter_le P (Nds.lu y)
    simp only [List.flatMap_cons, List.length_append, List.map_cons, List.sum_cons]
    omega

mutual
theorem Nd.lu_len : ∀ (x : Nd), (∀ z ∈ x.pre.list, z.vars.length ≤ 100) → x.lu.length ≤ 100 * x.pre.len
  | .mk c k e vs ar bs, h => by
    have h1 := h (.mk c k e vs ar bs) (by simp [Nd.pre, Nds.list])
    have h2 := Bds.lu_len (fun v => decide (c ≠ 123) || decide (v ∉ vs)) bs (fun z hz => h z (by simp only [Nd.pre, Nds.list]; simp [hz]))
    simp only [Nd.vars] at h1
    simp only [Nd.lu, Nd.pre, Nds.len, List.length_append]
    split
    · simp only [List.length_nil]; omega
    · omega
theorem Nds.lu_len : ∀ (x : Nds), (∀ z ∈ x.pre.list, z.vars.length ≤ 100) → x.lu.length ≤ 100 * x.pre.len
  | .nil, _ => by simp [Nds.lu]
  | .cons x r, h => by
    have h1 := Nd.lu_len x (fun z hz => h z (by simp only [Nds.pre, Nds.list_app]; simp [hz]))
    have h2 := Nds.lu_len r (fun z hz => h z (by simp only [Nds.pre, Nds.list_app]; simp [hz]))
    simp only [Nds.lu, Nds.pre, Nds.len_app, List.length_append]
    omega
theorem Bds.lu_len (P : UInt8 → Bool) : ∀ (x : Bds), (∀ z ∈ x.pre.list, z.vars.length ≤ 100) → (x.lu P).length ≤ 100 * x.pre.len
  | .nil, _ => by simp [Bds.lu]
  | .cons x r, h => by
    have h1 := Nds.lu_len x (fun z hz => h z (by simp only [Bds.pre, Nds.list_app]; simp [hz]))
    have h2 := Bds.lu_len P r (fun z hz => h z (by simp only [Bds.pre, Nds.list_app]; simp [hz]))
    have := List.length_filter_le P x.lu
    simp only [Bds.lu, Bds.pre, Nds.len_app, List.length_append]
    omega
end

theorem list_preU : ∀ y : Nds, y.list.length ≤ y.pre.len
  | .nil => Nat.le_refl _
  | .cons x r => by
    have h1 : 1 ≤ x.pre.len := by cases x; simp only [Nd.pre, Nds.len]; omega
    have h2 := list_preU r
    simp only [Nds.list, List.length_cons, Nds.pre, Nds.len_app]
    omega

/-- What l10Used wants of a step. -/
def UseOk (w0 : World) (ok : Nat → Prop) (z : Nd) : Prop := (∀ b ∈ z.bodies.lists, UsedC w0 ok b ∧ (Nds.lu b).length ≤ 100000) ∧ z.bodies.lists.length ≤ 10 ∧ z.vars.length ≤ 200

theorem usedC_of {w0 : World} {ok : Nat → Prop} (hok : ∀ i, ok i → i < w0.heap.size) {y : Nds} (hs : ∀ z ∈ y.list, UseOk w0 ok z) (hv : ∀ z ∈ y.pre.list, z.vars.length ≤ 100) (hl : y.pre.len ≤ 200) : UsedC w0 ok y ∧ (Nds.lu y).length ≤ 100000 := by
  have h1 := Nds.lu_len y hv
  have h2 := list_preU y
  exact ⟨sused_any w0 ok y hs (by omega) (by omega) hok, by omega⟩

mutual
theorem Nd.usedS {w0 : World} {ok : Nat → Prop} (hok : ∀ i, ok i → i < w0.heap.size) : ∀ (x : Nd), x.Fit → (∀ z ∈ x.pre.list, z.vars.length ≤ 100) → x.pre.len ≤ 200 → UseOk w0 ok x
  | .mk c k e vs ar .nil, hf, hv, hl => by
    have h1 := hv (.mk c k e vs ar .nil) (by simp [Nd.pre, Nds.list])
    refine ⟨fun b hb => by simp [Nd.bodies, Bds.lists] at hb, by simp [Nd.bodies, Bds.lists], by omega⟩
  | .mk c k e vs ar (.cons y .nil), hf, hv, hl => by
    have h1 := hv (.mk c k e vs ar (.cons y .nil)) (by simp [Nd.pre, Nds.list])
    simp only [Nd.Fit] at hf
    have hvy : ∀ z ∈ y.pre.list, z.vars.length ≤ 100 := fun z hz => hv z (by simp only [Nd.pre, Bds.pre, Nds.list, Nds.list_app]; simp [hz])
    have hly : y.pre.len ≤ 200 := by simp only [Nd.pre, Bds.pre, Nds.len, Nds.len_app] at hl; omega
    have hy := usedC_of hok (Nds.usedS hok y hf.2 hvy hly) hvy hly
    refine ⟨fun b hb => ?_, by simp [Nd.bodies, Bds.lists], by omega⟩
    simp only [Nd.bodies, Bds.lists, List.mem_singleton] at hb
    subst hb
    exact hy
  | .mk c k e vs ar (.cons y (.cons u .nil)), hf, hv, hl => by
    have h1 := hv (.mk c k e vs ar (.cons y (.cons u .nil))) (by simp [Nd.pre, Nds.list])
    simp only [Nd.Fit] at hf
    have hvy : ∀ z ∈ y.pre.list, z.vars.length ≤ 100 := fun z hz => hv z (by simp only [Nd.pre, Bds.pre, Nds.list, Nds.list_app]; simp [hz])
    have hvu : ∀ z ∈ u.pre.list, z.vars.length ≤ 100 := fun z hz => hv z (by simp only [Nd.pre, Bds.pre, Nds.list, Nds.list_app]; simp [hz])
    have hly : y.pre.len ≤ 200 := by simp only [Nd.pre, Bds.pre, Nds.len, Nds.len_app] at hl; omega
    have hlu : u.pre.len ≤ 200 := by simp only [Nd.pre, Bds.pre, Nds.len, Nds.len_app] at hl; omega
    have hy := usedC_of hok (Nds.usedS hok y hf.2.2.1 hvy hly) hvy hly
    have hu := usedC_of hok (Nds.usedS hok u hf.2.2.2 hvu hlu) hvu hlu
    refine ⟨fun b hb => ?_, by simp [Nd.bodies, Bds.lists], by omega⟩
    simp only [Nd.bodies, Bds.lists, List.mem_cons, List.not_mem_nil, or_false] at hb
    rcases hb with rfl | rfl
    · exact hy
    · exact hu
  | .mk _ _ _ _ _ (.cons _ (.cons _ (.cons _ _))), hf, hv, hl => by simp only [Nd.Fit] at hf
theorem Nds.usedS {w0 : World} {ok : Nat → Prop} (hok : ∀ i, ok i → i < w0.heap.size) : ∀ (x : Nds), x.Fit → (∀ z ∈ x.pre.list, z.vars.length ≤ 100) → x.pre.len ≤ 200 → ∀ z ∈ x.list, UseOk w0 ok z
  | .nil, hf, hv, hl => fun z hz => by cases hz
  | .cons x r, hf, hv, hl => by
    simp only [Nds.Fit] at hf
    have h1 := Nd.usedS hok x hf.1 (fun z hz => hv z (by simp only [Nds.pre, Nds.list_app]; simp [hz])) (by simp only [Nds.pre, Nds.len_app] at hl; omega)
    have h2 := Nds.usedS hok r hf.2 (fun z hz => hv z (by simp only [Nds.pre, Nds.list_app]; simp [hz])) (by simp only [Nds.pre, Nds.len_app] at hl; omega)
    intro z hz
    rcases List.mem_cons.1 hz with e | hz
    · rw [e]; exact h1
    · exact h2 z hz
end

/-! ### of a letter that is declared around them, both sides say the same -/
theorem usedLs_app (a b : List Nd) : usedLs (a ++ b) = usedLs a ++ usedLs b := by unfold usedLs; rw [List.flatMap_append]
theorem usedLs_cons (x : Nd) (l : List Nd) : usedLs (x :: l) = lettersN x ++ usedLs l := rfl

mutual
theorem Nd.lu_used : ∀ (x : Nd) (ar : List UInt8) (d : Nat), x.Gr ar d → ∀ v ∈ ar, (v ∈ x.lu ↔ v ∈ usedLs x.pre.list)
  | .mk c k e vs sc .nil, ar, d, h, v, hv => by
    simp only [Nd.lu, Bds.lu, Nd.pre, Bds.pre, Nds.list, usedLs_cons, lettersN, Nd.kind, Nd.vars, List.append_nil]
    by_cases hc : c = 123 <;> simp [hc, usedLs]
  | .mk c k e vs sc (.cons y .nil), ar, d, h, v, hv => by
    simp only [Nd.Gr] at h
    simp only [Nd.lu, Bds.lu, Nd.pre, Bds.pre, Nds.list, Nds.list_app, usedLs_cons, usedLs_app, lettersN, Nd.kind, Nd.vars, List.append_nil, List.mem_append, List.mem_filter]
    rcases h.2 with ⟨hc, hvs, hy⟩ | ⟨hc, _, hd, hy⟩
    · have := Nds.lu_used y _ _ hy v hv
      subst hc
      rw [hvs]
      simp [this, usedLs]
    · have := Nds.lu_used y _ _ hy v (List.mem_append_left _ hv)
      have hn : v ∉ vs := fun h => (hd.each v h).2 hv
      subst hc
      simp [this, hn, usedLs]
  | .mk c k e vs sc (.cons y (.cons u .nil)), ar, d, h, v, hv => by
    simp only [Nd.Gr] at h
    obtain ⟨_, hc, hvs, hy, hu⟩ := h
    have h1 := Nds.lu_used y _ _ hy v hv
    have h2 := Nds.lu_used u _ _ hu v hv
    simp only [Nd.lu, Bds.lu, Nd.pre, Bds.pre, Nds.list, Nds.list_app, usedLs_cons, usedLs_app, lettersN, Nd.kind, Nd.vars, List.append_nil, List.mem_append, List.mem_filter]
    subst hc
    rw [hvs]
    simp [h1, h2, usedLs]
  | .mk _ _ _ _ _ (.cons _ (.cons _ (.cons _ _))), ar, d, h, v, hv => by simp only [Nd.Gr] at h
theorem Nds.lu_used : ∀ (x : Nds) (ar : List UInt8) (d : Nat), x.Gr ar d → ∀ v ∈ ar, (v ∈ x.lu ↔ v ∈ usedLs x.pre.list)
  | .nil, ar, d, h, v, hv => by simp [Nds.lu, Nds.pre, Nds.list, usedLs]
  | .cons x r, ar, d, h, v, hv => by
    simp only [Nds.Gr] at h
    have h1 := Nd.lu_used x _ _ h.1 v hv
    have h2 := Nds.lu_used r _ _ h.2 v hv
    simp only [Nds.lu, Nds.pre, Nds.list_app, usedLs_app, List.mem_append, h1, h2]
end

/-- The letters that a scope declares and that the model finds in none of its steps. -/
def luN : Nd → List UInt8
  | .mk c k e vs ar (.cons y .nil) => if c = 123 then vs.filter (fun v => decide (v ∉ Nds.lu y)) else []
  | _ => []

theorem hasV_bits {l : List UInt8} (h : ∀ v ∈ l, ltr v) {v : UInt8} (hv : ltr v) : hasV (bitsV l) v = true ↔ v ∈ l := by
  induction l with
  | nil => simp [bitsV, hasV]
  | cons u r ih =>
    have h1 := ih (fun x hx => h x (by simp [hx]))
    have h2 := hasV_bit (h u (by simp)) hv
    rw [bitsV_cons]
    unfold hasV at *
    rw [Nat.testBit_or, Bool.or_eq_true, h1, h2]
    simp

theorem unuN_ne {z : Nd} (h : z.kind ≠ 123) : unuN z = 0 := by unfold unuN; rw [if_neg h]
theorem unuN_scope {z : Nd} (h : z.kind = 123) : unuN z = strike (bitsV z.vars) (bitsV (usedLs z.pre.list)) := by unfold unuN; rw [if_pos h]

theorem luN_has {x : Nd} {ar : List UInt8} {d : Nat} (hg : x.Gr ar d) (hb : ∀ q ∈ x.pre.list, Bare (bareN q)) {v : UInt8} (hv : ltr v) : v ∈ luN x ↔ hasV (unuN x) v = true := by
  have h0 : hasV 0 v = false := by unfold hasV; simp
  obtain ⟨c, k, e, vs, sc, bs⟩ := x
  have hbx := hb (.mk c k e vs sc bs) (by simp [Nd.pre, Nds.list])
  cases bs with
  | nil =>
    simp only [Nd.Gr] at hg
    have hc : c ≠ 123 := by rcases hg.2 with ⟨h | h | h | h, _⟩ | ⟨h, _⟩ | ⟨h | h, _⟩ <;> rw [h] <;> decide
    rw [unuN_ne (show (Nd.mk c k e vs sc .nil).kind ≠ 123 from hc), h0]; simp [luN, hc]
  | cons y r =>
    cases r with
    | nil =>
      by_cases hc : c = 123
      · have hk : (Nd.mk c k e vs sc (.cons y .nil)).kind = 123 := hc
        simp only [Nd.Gr] at hg
        have hgy : DeclG ar vs ∧ y.Gr (ar ++ vs) (d + 1) := by
          rcases hg.2 with ⟨h, _⟩ | ⟨_, _, h1, h2⟩
          · exact absurd (h.symm.trans hc) (by decide)
          · exact ⟨h1, h2⟩
        rw [unuN_scope hk, hasV_strike hv, Bool.and_eq_true, hasV_bits (show ∀ v ∈ (Nd.mk c k e vs sc (.cons y .nil)).vars, ltr v from hbx.2) hv, Bool.not_eq_true']
        simp only [luN, Nd.vars, if_pos hc, List.mem_filter, decide_eq_true_eq]
        have e : usedLs (Nd.pre (.mk c k e vs sc (.cons y .nil))).list = usedLs y.pre.list := by
          have h1 : lettersN (.mk c k e vs sc (.cons y .nil)) = [] := by unfold lettersN; rw [if_pos hk]
          simp only [Nd.pre, Bds.pre, Nds.list, Nds.list_app, usedLs_cons, h1, List.nil_append, List.append_nil]
        have hl := usedLs_ltr hb
        rw [e] at hl ⊢
        constructor
        · rintro ⟨h1, h2⟩
          refine ⟨h1, ?_⟩
          rw [← Bool.not_eq_true, hasV_bits hl hv]
          exact fun h => h2 ((Nds.lu_used y _ _ hgy.2 v (List.mem_append_right _ h1)).2 h)
        · rintro ⟨h1, h2⟩
          refine ⟨h1, fun h => ?_⟩
          rw [← Bool.not_eq_true, hasV_bits hl hv] at h2
          exact h2 ((Nds.lu_used y _ _ hgy.2 v (List.mem_append_right _ h1)).1 h)
      · rw [unuN_ne (show (Nd.mk c k e vs sc (.cons y .nil)).kind ≠ 123 from hc), h0]; simp [luN, hc]
    | cons u r2 =>
      cases r2 with
      | nil =>
        simp only [Nd.Gr] at hg
        have hc : c ≠ 123 := by rw [hg.2.1]; decide
        rw [unuN_ne (show (Nd.mk c k e vs sc (.cons y (.cons u .nil))).kind ≠ 123 from hc), h0]; simp [luN, hc]
      | cons _ _ => simp only [Nd.Gr] at hg

mutual
theorem Nd.gr_sub : ∀ (x : Nd) (ar : List UInt8) (d : Nat), x.Gr ar d → ∀ z ∈ x.pre.list, ∃ ar' d', z.Gr ar' d'
  | .mk c k e vs sc .nil, ar, d, h, z, hz => by
    simp only [Nd.pre, Bds.pre, Nds.list, List.mem_singleton] at hz
    subst hz; exact ⟨_, _, h⟩
  | .mk c k e vs sc (.cons y .nil), ar, d, h, z, hz => by
    simp only [Nd.pre, Bds.pre, Nds.list, Nds.list_app, List.append_nil, List.mem_cons] at hz
    rcases hz with rfl | hz
    · exact ⟨_, _, h⟩
    · simp only [Nd.Gr] at h
      rcases h.2 with ⟨_, _, h⟩ | ⟨_, _, _, h⟩
      · exact Nds.gr_sub y _ _ h z hz
      · exact Nds.gr_sub y _ _ h z hz
  | .mk c k e vs sc (.cons y (.cons u .nil)), ar, d, h, z, hz => by
    simp only [Nd.pre, Bds.pre, Nds.list, Nds.list_app, List.append_nil, List.mem_cons, List.mem_append] at hz
    rcases hz with rfl | hz | hz
    · exact ⟨_, _, h⟩
    · simp only [Nd.Gr] at h; exact Nds.gr_sub y _ _ h.2.2.2.1 z hz
    · simp only [Nd.Gr] at h; exact Nds.gr_sub u _ _ h.2.2.2.2 z hz
  | .mk _ _ _ _ _ (.cons _ (.cons _ (.cons _ _))), ar, d, h, z, hz => by simp only [Nd.Gr] at h
theorem Nds.gr_sub : ∀ (x : Nds) (ar : List UInt8) (d : Nat), x.Gr ar d → ∀ z ∈ x.pre.list, ∃ ar' d', z.Gr ar' d'
  | .nil, ar, d, h, z, hz => by simp [Nds.pre, Nds.list] at hz
  | .cons x r, ar, d, h, z, hz => by
    simp only [Nds.Gr] at h
    simp only [Nds.pre, Nds.list_app, List.mem_append] at hz
    rcases hz with hz | hz
    · exact Nd.gr_sub x _ _ h.1 z hz
    · exact Nds.gr_sub r _ _ h.2 z hz
end

theorem hasV_fold (v : UInt8) : ∀ (l : List Nat) (a : Nat), hasV (l.foldl (· ||| ·) a) v = true ↔ hasV a v = true ∨ ∃ b ∈ l, hasV b v = true
  | [], a => by simp
  | b :: r, a => by
    rw [List.foldl_cons, hasV_fold v r, hasV_or, Bool.or_eq_true]
    simp [or_assoc]

/-- Both sides name the same letters. -/
theorem unused_eq {s : ByteArray} {x : Nd} (hp : progP s = some x) : sortedOf (x.pre.list.flatMap luN) = lets (unuK x.pre.list) := by
  unfold sortedOf lets
  refine filter_abc (fun v hv => ?_)
  have hb : ∀ z ∈ x.pre.list, ∀ q ∈ z.pre.list, Bare (bareN q) := fun z hz q hq => by
    have h1 := (Nd.pre_sub x z hz).1 q hq
    exact fit_bare (step_fit hp h1).fit (step_fit hp h1).vars
  have e : (x.pre.list.flatMap luN).contains v = true ↔ hasV (unuK x.pre.list) v = true := by
    rw [List.contains_iff_mem, List.mem_flatMap]
    unfold unuK
    rw [hasV_fold]
    have h0 : hasV 0 v = false := by unfold hasV; simp
    rw [h0]
    constructor
    · rintro ⟨z, hz, h⟩
      obtain ⟨ar, d, hg⟩ := Nd.gr_sub x _ _ (progP_gr hp) z hz
      exact .inr ⟨_, List.mem_map.2 ⟨z, hz, rfl⟩, (luN_has hg (hb z hz) hv).1 h⟩
    · rintro (h | ⟨b, hm, h⟩)
      · cases h
      · obtain ⟨z, hz, rfl⟩ := List.mem_map.1 hm
        obtain ⟨ar, d, hg⟩ := Nd.gr_sub x _ _ (progP_gr hp) z hz
        exact ⟨z, hz, (luN_has hg (hb z hz) hv).2 h⟩
  exact Bool.eq_iff_iff.2 e

end Go.Proofs.Ytccpmhjffcceeaa
