/-
  A tree of orders whose last operation may leave the class, in a round or not.
-/
import Derived.Test.YtccpmhjffcceeaaWqfW
namespace Go.Proofs.Ytccpmhjffcceeaa
set_option linter.unusedVariables false
set_option linter.unusedSimpArgs false
open Go.RowKit

def Ord.isFin : Ord → Bool
  | .fin => true
  | _ => false

section
variable {F : Fence} {n : Nat} {P : Program} {ops : Array Oper} {Q : Exit → Act → World → Prop} {md : Region.Mode} {S : World → Prop}

/-- The operations in the orders of a tree; behind z the class may be left. -/
def wpOrdZ (F : Fence) (n : Nat) (P : Program) (ops : Array Oper) (Q : Exit → Act → World → Prop) (S : World → Prop) (z : Nat) : Ord → Act → World → Prop
  | .fin, a, w => Q .normal a w
  | .read i r, a, w => ∃ o v, ops[i]? = some o ∧ YieldsIf P ops S o v a ∧ wpOrdZ F n P ops Q S z r (a.put o.dst v) w
  | .loud i r, a, w => wpOne F n P ops Q i (fun a' w' => (i ≠ z → S w') ∧ wpOrdZ F n P ops Q S z r a' w') a w
  | .fork i r j q, a, w => wpOne F n P ops Q i (fun a' w' => (i ≠ z → S w') ∧ wpOrdZ F n P ops Q S z r a' w') a w ∧ wpOne F n P ops Q j (fun a' w' => (j ≠ z → S w') ∧ wpOrdZ F n P ops Q S z q a' w') a w

def ordZB (md : Region.Mode) (ops : Array Oper) (z : Nat) : Ord → Array Bool → Bool
  | .fin, listed => (Region.ready md ops listed).isEmpty
  | .read i r, listed => (Region.ready md ops listed).contains i && Region.free md ops listed i && waitsB md ops z i && ordZB md ops z r (listed.setIfInBounds i true)
  | .loud i r, listed => decide (Region.ready md ops listed = [i]) && (decide (i ≠ z) || r.isFin) && ordZB md ops z r (listed.setIfInBounds i true)
  | .fork i r j q, listed => decide (Region.ready md ops listed = [i, j]) && decide (r.ht = q.ht) && decide (i ≠ z) && decide (j ≠ z) && ordZB md ops z r (listed.setIfInBounds i true) && ordZB md ops z q (listed.setIfInBounds j true)

theorem wpAnyHIn_ordZ {z : Nat} (hro : F.round = none) (hF : ∀ f, F.fn f) (hs : Region.noSelect ops = true) (hQ : ∀ c a a' w, Q (.panic c) a w → Q (.panic c) a' w) : ∀ (l : Ord) (listed : Array Bool) (a : Act) (w : World),
    (l.isFin = false → S w) → ordZB md ops z l listed = true → wpOrdZ F n P ops Q S z l a w → wpAnyHIn F n P md ops Q S z l.ht listed a w
  | .fin, listed, a, w, _, hB, h => ⟨by simpa [ordZB] using hB, h⟩
  | .read i r, listed, a, w, hS, hB, h => by
    obtain ⟨o, v, ho, hy, hr⟩ := h
    simp only [ordZB, Bool.and_eq_true] at hB
    obtain ⟨⟨⟨h1, h2⟩, h4⟩, h3⟩ := hB
    exact wpAnyHIn_first h4 hro hF ho (Region.noSelect_spec hs) (fun c a w => hQ c _ _ w) r.ht listed a w (Region.free_spec ho h2) (by simpa using h1) hy (hS rfl)
      (wpAnyHIn_ordZ hro hF hs hQ r _ _ w (fun _ => hS rfl) h3 hr)
  | .loud i r, listed, a, w, hS, hB, h => by
    simp only [ordZB, Bool.and_eq_true, Bool.or_eq_true, decide_eq_true_eq] at hB
    obtain ⟨⟨h1, h2⟩, h3⟩ := hB
    refine ⟨fun h0 => (by rw [h1] at h0; cases h0), fun j hj => ?_⟩
    rw [h1, List.mem_singleton] at hj
    subst hj
    refine wpOpIn_mono (fun a' w' h' => ⟨h'.1, wpAnyHIn_ordZ hro hF hs hQ r _ a' w' (fun hr => ?_) h3 h'.2⟩) (wpOpIn_one hro h)
    rcases h2 with h2 | h2
    · exact h'.1 h2
    · rw [h2] at hr; cases hr
  | .fork i r j q, listed, a, w, hS, hB, h => by
    simp only [ordZB, Bool.and_eq_true, decide_eq_true_eq] at hB
    obtain ⟨⟨⟨⟨⟨h1, h2⟩, hi⟩, hj⟩, h3⟩, h4⟩ := hB
    refine ⟨fun h0 => (by rw [h1] at h0; cases h0), fun k hk => ?_⟩
    rw [h1] at hk
    rcases List.mem_cons.1 hk with e | hk
    · subst e
      exact wpOpIn_mono (fun a' w' h' => ⟨h'.1, wpAnyHIn_ordZ hro hF hs hQ r _ a' w' (fun _ => h'.1 hi) h3 h'.2⟩) (wpOpIn_one hro h.1)
    · rw [List.mem_singleton] at hk
      subst hk
      refine wpOpIn_mono (fun a' w' h' => ⟨h'.1, ?_⟩) (wpOpIn_one hro h.2)
      have := wpAnyHIn_ordZ hro hF hs hQ q _ a' w' (fun _ => h'.1 hj) h4 h'.2
      rw [← h2] at this
      exact this
end

theorem wpIn_region_ordZ_round {F : Fence} {n : Nat} {P : Program} {Q : Exit → Act → World → Prop} {id : Nat} {a : Act} {w : World} {l : List Oper} {L : Nat} (S : World → Prop) (z : Nat) (t : Ord) (hro : F.round = none) (hF : ∀ f, F.fn f) (hd : noDefer l.toArray = true) (hs : Region.noSelect l.toArray = true)
    (hm : P.follows .mixedOrders = true) (hlen : t.ht = l.length) (hB : ordZB .any l.toArray z t (Array.replicate l.length false) = true) (hQ : ∀ c a a' w, Q (.panic c) a w → Q (.panic c) a' w) (hS : S { w with drawn := w.drawn + 1 })
    (h : wpOrdZ F n P l.toArray Q S z t a { w with drawn := w.drawn + 1 }) : (Code.region id l.toArray true).wpIn (F.inRound L) n P Q a w := by
  refine wpIn_region_any hm (wpAnyIn_round L hro hd _ _ _ _ (wpAnyIn_of_held (S := S) (z := z) _ _ _ _ ?_))
  have := wpAnyHIn_ordZ (md := .any) (z := z) hro hF hs hQ t (Array.replicate l.length false) a _ (fun _ => hS) hB h
  rw [hlen] at this
  simpa using this

/-! ### the moves -/
theorem ordZ_read {F : Fence} {n : Nat} {P : Program} {ops : Array Oper} {Q : Exit → Act → World → Prop} {S : World → Prop} {z i : Nat} {r : Ord} {a : Act} {w : World} {o : Oper} (v : Value) (hi : ops[i]? = some o) (hg : Region.wanted o (yielded ops a.tmps) = true) (hv : ∀ W, S W → (execOp a.eval o).run P W = .ok (.value v) W)
    (hk : ∀ K : Act → Prop, (∀ a, wpOrdZ F n P ops Q S z r a w → K a) → K (a.put o.dst v)) : wpOrdZ F n P ops Q S z (.read i r) a w :=
  ⟨o, v, hi, .inl ⟨hg, hv⟩, hk _ (fun _ h => h)⟩
theorem ordZ_loud {F : Fence} {n : Nat} {P : Program} {ops : Array Oper} {Q : Exit → Act → World → Prop} {S : World → Prop} {z i : Nat} {r : Ord} {a : Act} {w : World} {o : Oper} (hi : ops[i]? = some o)
    (hk : ∀ K : Act → World → Prop, (∀ a w, S w → wpOrdZ F n P ops Q S z r a w → K a w) → wpListIn F n P ops (fun e a' w' => match e with | .normal => K a' w' | e => Q e a' w') [o] a w) : wpOrdZ F n P ops Q S z (.loud i r) a w :=
  ⟨o, hi, hk (fun a' w' => (i ≠ z → S w') ∧ wpOrdZ F n P ops Q S z r a' w') (fun _ _ h1 h2 => ⟨fun _ => h1, h2⟩)⟩
theorem ordZ_last {F : Fence} {n : Nat} {P : Program} {ops : Array Oper} {Q : Exit → Act → World → Prop} {S : World → Prop} {z : Nat} {a : Act} {w : World} {o : Oper} (hi : ops[z]? = some o)
    (hk : ∀ K : Act → World → Prop, (∀ a w, Q .normal a w → K a w) → wpListIn F n P ops (fun e a' w' => match e with | .normal => K a' w' | e => Q e a' w') [o] a w) : wpOrdZ F n P ops Q S z (.loud z .fin) a w :=
  ⟨o, hi, hk (fun a' w' => (z ≠ z → S w') ∧ wpOrdZ F n P ops Q S z .fin a' w') (fun _ _ h => ⟨fun e => absurd rfl e, h⟩)⟩
theorem ordZ_fork {F : Fence} {n : Nat} {P : Program} {ops : Array Oper} {Q : Exit → Act → World → Prop} {S : World → Prop} {z i j : Nat} {r q : Ord} {a : Act} {w : World} (h1 : wpOrdZ F n P ops Q S z (.loud i r) a w) (h2 : wpOrdZ F n P ops Q S z (.loud j q) a w) : wpOrdZ F n P ops Q S z (.fork i r j q) a w := ⟨h1, h2⟩

end Go.Proofs.Ytccpmhjffcceeaa
