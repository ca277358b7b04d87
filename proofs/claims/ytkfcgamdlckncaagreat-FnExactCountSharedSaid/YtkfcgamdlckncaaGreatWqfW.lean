/-
  A region that draws its order, within a round of a range over a function or in a plain frame inside a fence that lets all through: operations that only read may be taken first wherever they stand, in whatever world of a class; between them the others, each where it alone may come up.
  A region that draws its order, in a plain frame inside a fence that lets all through: a tree of orders. Operations that only read may be taken first; of the others one comes up alone, or one of two.
-/
import Derived.OrdersHeld
import Derived.Test.YtkfcgamdlckncaaGreatRtW
namespace Go.Proofs.YtkfcgamdlckncaaGreat
set_option linter.unusedVariables false
set_option linter.unusedSimpArgs false
open Go.RowKit

section
variable {F : Fence} {n : Nat} {P : Program} {ops : Array Oper} {Q : Exit → Act → World → Prop} {md : Region.Mode} {S : World → Prop}

theorem held_wpOpIn {i : Nat} {o : Oper} {v : Value} {a : Act} (hro : F.round = none) (hF : ∀ f, F.fn f) (hi : ops[i]? = some o) (hy : YieldsIf P ops S o v a)
    {K : Act → World → Prop} {w : World} (hS : S w) (h : K (a.put o.dst v) w) : wpOpIn F n P ops Q i K a w := by
  unfold Go.wpOpIn
  simp only [hi]
  rcases hy with ⟨hw, hv⟩ | ⟨hw, rfl⟩
  · simp only [hw, if_true, Oper.wpIn, hro, Oper.semAt_none, hv w hS, Oper.uponIn]; exact ⟨fun f _ => hF f, h⟩
  · simp only [hw, Bool.false_eq_true, if_false]; exact ⟨fun f _ => hF f, h⟩

theorem wpOpIn_putIf {j : Nat} {oi oj : Oper} {v : Value} (hro : F.round = none) (hF : ∀ f, F.fn f) (hj : ops[j]? = some oj) (hap : oi.apart ops oj = true)
    (hsi : ∀ cs b, oi.op ≠ .select cs b) (hsj : ∀ cs b, oj.op ≠ .select cs b)
    (hQ : ∀ c a w, Q (.panic c) (a.put oi.dst v) w → Q (.panic c) a w) {K : Act → World → Prop} {a : Act} {w : World}
    (hy : YieldsIf P ops S oi v a) (h : wpOpIn F n P ops Q j K (a.put oi.dst v) w) :
    wpOpIn F n P ops Q j (fun a' w' => YieldsIf P ops S oi v a' ∧ K (a'.put oi.dst v) w') a w := by
  obtain ⟨h1, h2, h3⟩ := Oper.apart_spec hap
  have keep : ∀ (a : Act), YieldsIf P ops S oi v a → ∀ u, YieldsIf P ops S oi v (a.put oj.dst u) := fun a hy u =>
    hy.of_same (execOp_put oi hsi a oj.dst u h3) (wanted_put oi a oj.dst u h3)
  have keepD : ∀ d, YieldsIf P ops S oi v { a with defers := d :: a.defers } := fun d => hy.of_same rfl rfl
  unfold wpOpIn at *
  simp only [hj] at *
  rw [wanted_put oj a oi.dst v h1] at h
  split
  · rename_i hw
    simp only [hw, if_true] at h
    unfold Oper.wpIn at *
    refine ⟨fun f _ => hF f, ?_⟩
    have h := h.2
    rw [hro, Oper.semAt_none, execOp_put oj hsj a oi.dst v h1] at h
    rw [hro, Oper.semAt_none]
    generalize (execOp a.eval oj).run P w = r at *
    cases r with
    | ok x w' =>
      cases x <;> simp only [Oper.uponIn] at h ⊢
      case value u => exact ⟨keep a hy u, by rw [← Act.put_comm a v u h2]; exact h⟩
      case skip => exact ⟨keep a hy _, by rw [← Act.put_comm a v undef h2]; exact h⟩
      case defer d =>
        refine ⟨keep _ (keepD d) _, ?_⟩
        rw [← Act.put_comm _ v undef h2, ← Act.put_defers]
        exact h
      case enter f args =>
        refine ⟨h.1, CallsIn.mono h.2 fun e w'' he => ?_⟩
        cases e with
        | returned u => exact ⟨keep a hy u, by rw [← Act.put_comm a v u h2]; exact he⟩
        | panicked c => exact hQ _ _ _ he
        | outgrown => exact he
      case row row args => exact ⟨h.1, RowsIn.mono h.2 fun u w'' he => ⟨keep a hy u, by rw [← Act.put_comm a v u h2]; exact he⟩⟩
      case round l f tmps assign body =>
        refine ⟨h.1, RoundIn.mono h.2 fun e w'' he => ?_⟩
        cases e with
        | returned u => exact ⟨keep a hy u, by rw [← Act.put_comm a v u h2]; exact he⟩
        | panicked c => exact hQ _ _ _ he
        | outgrown => exact he
    | halt x w' =>
      cases x <;> simp only [Oper.uponIn] at h ⊢
      case panic u => exact hQ _ _ _ h
  · rename_i hw
    simp only [hw] at h
    exact ⟨fun f _ => hF f, keep a hy _, by rw [← Act.put_comm a v undef h2]; exact h.2⟩

/-- Does operation z wait for operation i, there being a z? -/
def waitsB (md : Region.Mode) (ops : Array Oper) (z i : Nat) : Bool := match ops[z]? with | none => true | some o => o.after.any fun e => Region.binds md e && decide (e.on = i)

/-- Whatever order is picked from here on, and the world is of the class behind every operation but z. -/
def wpAnyHIn (F : Fence) (n : Nat) (P : Program) (md : Region.Mode) (ops : Array Oper) (Q : Exit → Act → World → Prop) (S : World → Prop) (z : Nat) : Nat → Array Bool → Act → World → Prop
  | 0, listed, a, w => Region.ready md ops listed = [] ∧ Q .normal a w
  | fuel + 1, listed, a, w =>
    (Region.ready md ops listed = [] → Q .normal a w) ∧
    ∀ i ∈ Region.ready md ops listed, wpOpIn F n P ops Q i (fun a' w' => (i ≠ z → S w') ∧ wpAnyHIn F n P md ops Q S z fuel (listed.setIfInBounds i true) a' w') a w

theorem wpAnyIn_of_held {z : Nat} : ∀ (fuel : Nat) (listed : Array Bool) (a : Act) (w : World), wpAnyHIn F n P md ops Q S z fuel listed a w → wpAnyIn F n P md ops Q fuel listed a w
  | 0, _, _, _, h => h
  | fuel + 1, _, _, _, h => ⟨h.1, fun i hi => wpOpIn_mono (fun a' w' h' => wpAnyIn_of_held fuel _ a' w' h'.2) (h.2 i hi)⟩

theorem wpAnyHIn_first {z : Nat} {i : Nat} {oi : Oper} {v : Value} (hz : waitsB md ops z i = true) (hro : F.round = none) (hF : ∀ f, F.fn f) (hi : ops[i]? = some oi) (hsel : ∀ (j : Nat) (o : Oper) cs b, ops[j]? = some o → o.op ≠ .select cs b)
    (hQ : ∀ c a w, Q (.panic c) (a.put oi.dst v) w → Q (.panic c) a w) :
    ∀ (fuel : Nat) (listed : Array Bool) (a : Act) (w : World),
      (∀ j oj, ops[j]? = some oj → j ≠ i → listed.getD j true = false → (∀ e ∈ oj.after, Region.binds md e = true → e.on ≠ i) → oi.apart ops oj = true) →
      i ∈ Region.ready md ops listed → YieldsIf P ops S oi v a → S w →
      wpAnyHIn F n P md ops Q S z fuel (listed.setIfInBounds i true) (a.put oi.dst v) w → wpAnyHIn F n P md ops Q S z (fuel + 1) listed a w := by
  intro fuel
  induction fuel with
  | zero =>
    intro listed a w _ hr hy hS H
    refine ⟨fun h => (by rw [h] at hr; cases hr), fun j hj => ?_⟩
    by_cases hji : j = i
    · subst hji; exact held_wpOpIn hro hF hi hy hS ⟨fun _ => hS, H⟩
    · have := ready_mono hj hji
      rw [H.1] at this
      cases this
  | succ fuel ih =>
    intro listed a w hfree hr hy hS H
    refine ⟨fun h => (by rw [h] at hr; cases hr), fun j hj => ?_⟩
    by_cases hji : j = i
    · subst hji; exact held_wpOpIn hro hF hi hy hS ⟨fun _ => hS, H⟩
    · have h1 := H.2 j (ready_mono hj hji)
      obtain ⟨hjun, oj, hoj, hall⟩ := mem_ready.1 hj
      have hnot : ∀ e ∈ oj.after, Region.binds md e = true → e.on ≠ i := fun e he hb heq => by
        have h1 := hall e he hb
        have h0 := (mem_ready.1 hr).1
        rw [heq] at h1
        rcases Nat.lt_or_ge i listed.size with h' | h'
        · simp [h'] at h0 h1; rw [h0] at h1; cases h1
        · simp [Array.getElem?_eq_none h'] at h1
      have hjz : j ≠ z := fun e => by
        subst e
        unfold waitsB at hz
        rw [hoj] at hz
        rw [Array.any_eq_true'] at hz
        obtain ⟨e, he, h3⟩ := hz
        rw [Bool.and_eq_true, decide_eq_true_eq] at h3
        exact hnot e he h3.1 h3.2
      have h2 := wpOpIn_putIf hro hF hoj (hfree j oj hoj hji hjun hnot) (fun cs b => hsel i oi cs b hi) (fun cs b => hsel j oj cs b hoj) hQ hy h1
      have hfree' : ∀ k ok, ops[k]? = some ok → k ≠ i → (listed.setIfInBounds j true).getD k true = false →
          (∀ e ∈ ok.after, Region.binds md e = true → e.on ≠ i) → oi.apart ops ok = true := fun k ok hk hki hun hno => by
        refine hfree k ok hk hki ?_ hno
        by_cases hjk : j = k
        · subst hjk; exact hjun
        · rw [getD_set_ne true hjk] at hun; exact hun
      refine wpOpIn_mono (fun a' w' h3 => ⟨h3.2.1, ih (listed.setIfInBounds j true) a' w' hfree' (ready_mono hr (Ne.symm hji)) h3.1 (h3.2.1 hjz) ?_⟩) h2
      rw [Array.setIfInBounds_comm _ _ hji]
      exact h3.2.2

/-- The operations in an order of one's own: with 'true' one that only reads, with 'false' one that comes up alone. -/
def wpSeqH (F : Fence) (n : Nat) (P : Program) (ops : Array Oper) (Q : Exit → Act → World → Prop) (S : World → Prop) (z : Nat) : List (Nat × Bool) → Act → World → Prop
  | [], a, w => Q .normal a w
  | (i, true) :: r, a, w => ∃ o v, ops[i]? = some o ∧ YieldsIf P ops S o v a ∧ wpSeqH F n P ops Q S z r (a.put o.dst v) w
  | (i, false) :: r, a, w => ∃ o, ops[i]? = some o ∧ wpListIn F n P ops (fun e a' w' => match e with | .normal => (i ≠ z → S w') ∧ wpSeqH F n P ops Q S z r a' w' | e => Q e a' w') [o] a w

def seqTB (md : Region.Mode) (ops : Array Oper) (z : Nat) : List (Nat × Bool) → Array Bool → Bool
  | [], listed => (Region.ready md ops listed).isEmpty
  | (i, true) :: r, listed => (Region.ready md ops listed).contains i && Region.free md ops listed i && waitsB md ops z i && seqTB md ops z r (listed.setIfInBounds i true)
  | (i, false) :: r, listed => decide (Region.ready md ops listed = [i]) && (decide (i ≠ z) || r.isEmpty) && seqTB md ops z r (listed.setIfInBounds i true)

theorem wpAnyHIn_seq {z : Nat} (hro : F.round = none) (hF : ∀ f, F.fn f) (hs : Region.noSelect ops = true) (hd : noDefer ops = true) (hQ : ∀ c a a' w, Q (.panic c) a w → Q (.panic c) a' w) : ∀ (l : List (Nat × Bool)) (listed : Array Bool) (a : Act) (w : World),
    (l ≠ [] → S w) → seqTB md ops z l listed = true → wpSeqH F n P ops Q S z l a w → wpAnyHIn F n P md ops Q S z l.length listed a w
  | [], listed, a, w, _, hB, h => ⟨by simpa [seqTB] using hB, h⟩
  | (i, true) :: r, listed, a, w, hS, hB, h => by
    obtain ⟨o, v, ho, hy, hr⟩ := h
    simp only [seqTB, Bool.and_eq_true] at hB
    obtain ⟨⟨⟨h1, h2⟩, h4⟩, h3⟩ := hB
    exact wpAnyHIn_first h4 hro hF ho (Region.noSelect_spec hs) (fun c a w => hQ c _ _ w) r.length listed a w (Region.free_spec ho h2) (by simpa using h1) hy (hS (by simp))
      (wpAnyHIn_seq hro hF hs hd hQ r _ _ w (fun _ => hS (by simp)) h3 hr)
  | (i, false) :: r, listed, a, w, hS, hB, h => by
    obtain ⟨o, ho, hr⟩ := h
    simp only [seqTB, Bool.and_eq_true, Bool.or_eq_true, decide_eq_true_eq, List.isEmpty_iff] at hB
    obtain ⟨⟨h1, h4⟩, h3⟩ := hB
    refine ⟨fun h0 => (by rw [h1] at h0; cases h0), fun j hj => ?_⟩
    rw [h1, List.mem_singleton] at hj
    subst hj
    unfold wpOpIn
    simp only [ho]
    simp only [wpListIn] at hr
    have hmono : ∀ a' w', ((j ≠ z → S w') ∧ wpSeqH F n P ops Q S z r a' w') → (j ≠ z → S w') ∧ wpAnyHIn F n P md ops Q S z r.length (listed.setIfInBounds j true) a' w' := fun a' w' h' => ⟨h'.1, wpAnyHIn_seq hro hF hs hd hQ r _ a' w' (fun hne => h'.1 (h4.resolve_right hne)) h3 h'.2⟩
    split
    · rename_i hw
      rw [if_pos hw] at hr
      unfold Oper.wpIn at hr ⊢
      refine ⟨hr.1, ?_⟩
      have hr := hr.2
      rw [hro, Oper.semAt_none] at hr ⊢
      generalize (execOp a.eval o).run P w = res at *
      cases res with
      | ok x w' =>
        cases x <;> simp only [Oper.uponIn] at hr ⊢
        case value u => exact hmono _ _ hr
        case skip => exact hmono _ _ hr
        case defer d => exact hmono _ _ hr
        case enter f args => exact ⟨hr.1, CallsIn.mono hr.2 fun e w'' he => by
          cases e with
          | returned u => exact hmono _ _ he
          | panicked c => exact he
          | outgrown => exact he⟩
        case row row args => exact ⟨hr.1, RowsIn.mono hr.2 fun u w'' he => hmono _ _ he⟩
        case round l f tmps assign body => exact ⟨hr.1, RoundIn.mono hr.2 fun e w'' he => by
          cases e with
          | returned u => exact hmono _ _ he
          | panicked c => exact he
          | outgrown => exact he⟩
      | halt x w' => cases x <;> simp only [Oper.uponIn] at hr ⊢ <;> exact hr
    · rename_i hw
      rw [if_neg hw] at hr
      exact ⟨hr.1, hmono _ _ hr.2⟩

theorem wpIn_region_seqZ {id : Nat} {a : Act} {w : World} {l : List Oper} (S : World → Prop) (z : Nat) (sq : List (Nat × Bool)) (hro : F.round = none) (hF : ∀ f, F.fn f) (hd : noDefer l.toArray = true) (hs : Region.noSelect l.toArray = true)
    (hm : P.follows .mixedOrders = true) (hlen : sq.length = l.length) (hB : seqTB .any l.toArray z sq (Array.replicate l.length false) = true) (hQ : ∀ c a a' w, Q (.panic c) a w → Q (.panic c) a' w) (hS : S { w with drawn := w.drawn + 1 })
    (h : wpSeqH F n P l.toArray Q S z sq a { w with drawn := w.drawn + 1 }) : (Code.region id l.toArray true).wpIn F n P Q a w := by
  refine wpIn_region_any hm (wpAnyIn_of_held (S := S) (z := z) _ _ _ _ ?_)
  have := wpAnyHIn_seq (md := .any) (z := z) hro hF hs hd hQ sq (Array.replicate l.length false) a _ (fun _ => hS) hB h
  rw [hlen] at this
  simpa using this

theorem wpIn_region_seqZ_round {id : Nat} {a : Act} {w : World} {l : List Oper} {L : Nat} (S : World → Prop) (z : Nat) (sq : List (Nat × Bool)) (hro : F.round = none) (hF : ∀ f, F.fn f) (hd : noDefer l.toArray = true) (hs : Region.noSelect l.toArray = true)
    (hm : P.follows .mixedOrders = true) (hlen : sq.length = l.length) (hB : seqTB .any l.toArray z sq (Array.replicate l.length false) = true) (hQ : ∀ c a a' w, Q (.panic c) a w → Q (.panic c) a' w) (hS : S { w with drawn := w.drawn + 1 })
    (h : wpSeqH F n P l.toArray Q S z sq a { w with drawn := w.drawn + 1 }) : (Code.region id l.toArray true).wpIn (F.inRound L) n P Q a w := by
  refine wpIn_region_any hm (wpAnyIn_round L hro hd _ _ _ _ (wpAnyIn_of_held (S := S) (z := z) _ _ _ _ ?_))
  have := wpAnyHIn_seq (md := .any) (z := z) hro hF hs hd hQ sq (Array.replicate l.length false) a _ (fun _ => hS) hB h
  rw [hlen] at this
  simpa using this

theorem wpIn_region_seqH {id : Nat} {a : Act} {w : World} {l : List Oper} (S : World → Prop) (sq : List (Nat × Bool)) (hro : F.round = none) (hF : ∀ f, F.fn f) (hd : noDefer l.toArray = true) (hs : Region.noSelect l.toArray = true)
    (hm : P.follows .mixedOrders = true) (hlen : sq.length = l.length) (hB : seqTB .any l.toArray l.length sq (Array.replicate l.length false) = true) (hQ : ∀ c a a' w, Q (.panic c) a w → Q (.panic c) a' w) (hS : S { w with drawn := w.drawn + 1 })
    (h : wpSeqH F n P l.toArray Q S l.length sq a { w with drawn := w.drawn + 1 }) : (Code.region id l.toArray true).wpIn F n P Q a w := wpIn_region_seqZ S l.length sq hro hF hd hs hm hlen hB hQ hS h
theorem wpIn_region_seqH_round {id : Nat} {a : Act} {w : World} {l : List Oper} {L : Nat} (S : World → Prop) (sq : List (Nat × Bool)) (hro : F.round = none) (hF : ∀ f, F.fn f) (hd : noDefer l.toArray = true) (hs : Region.noSelect l.toArray = true)
    (hm : P.follows .mixedOrders = true) (hlen : sq.length = l.length) (hB : seqTB .any l.toArray l.length sq (Array.replicate l.length false) = true) (hQ : ∀ c a a' w, Q (.panic c) a w → Q (.panic c) a' w) (hS : S { w with drawn := w.drawn + 1 })
    (h : wpSeqH F n P l.toArray Q S l.length sq a { w with drawn := w.drawn + 1 }) : (Code.region id l.toArray true).wpIn (F.inRound L) n P Q a w := wpIn_region_seqZ_round S l.length sq hro hF hd hs hm hlen hB hQ hS h

/-! ### the moves -/
theorem seqH_take {z i : Nat} {r : List (Nat × Bool)} {a : Act} {w : World} {o : Oper} (v : Value) (hi : ops[i]? = some o) (hg : Region.wanted o (yielded ops a.tmps) = true) (hv : ∀ W, S W → (execOp a.eval o).run P W = .ok (.value v) W)
    (hk : ∀ K : Act → Prop, (∀ a, wpSeqH F n P ops Q S z r a w → K a) → K (a.put o.dst v)) : wpSeqH F n P ops Q S z ((i, true) :: r) a w :=
  ⟨o, v, hi, .inl ⟨hg, hv⟩, hk _ (fun _ h => h)⟩
theorem seqH_skip {z i : Nat} {r : List (Nat × Bool)} {a : Act} {w : World} {o : Oper} (hi : ops[i]? = some o) (hg : Region.wanted o (yielded ops a.tmps) = false)
    (hk : ∀ K : Act → Prop, (∀ a, wpSeqH F n P ops Q S z r a w → K a) → K (a.put o.dst undef)) : wpSeqH F n P ops Q S z ((i, true) :: r) a w :=
  ⟨o, undef, hi, .inr ⟨hg, rfl⟩, hk _ (fun _ h => h)⟩
theorem seqH_loud {z i : Nat} {r : List (Nat × Bool)} {a : Act} {w : World} {o : Oper} (hi : ops[i]? = some o)
    (hk : ∀ K : Act → World → Prop, (∀ a w, S w → wpSeqH F n P ops Q S z r a w → K a w) → wpListIn F n P ops (fun e a' w' => match e with | .normal => K a' w' | e => Q e a' w') [o] a w) : wpSeqH F n P ops Q S z ((i, false) :: r) a w :=
  ⟨o, hi, hk (fun a' w' => (i ≠ z → S w') ∧ wpSeqH F n P ops Q S z r a' w') (fun _ _ h1 h2 => ⟨fun _ => h1, h2⟩)⟩
/-- .. the last one, behind which the class may be left. -/
theorem seqH_last {z : Nat} {a : Act} {w : World} {o : Oper} (hi : ops[z]? = some o)
    (hk : ∀ K : Act → World → Prop, (∀ a w, Q .normal a w → K a w) → wpListIn F n P ops (fun e a' w' => match e with | .normal => K a' w' | e => Q e a' w') [o] a w) : wpSeqH F n P ops Q S z ((z, false) :: []) a w :=
  ⟨o, hi, hk (fun a' w' => (z ≠ z → S w') ∧ wpSeqH F n P ops Q S z [] a' w') (fun _ _ h => ⟨fun e => absurd rfl e, h⟩)⟩

end

/-- No panic. -/
def noPanic (Q : Exit → Act → World → Prop) : Exit → Act → World → Prop := fun e a w => match e with | .panic _ => False | e => Q e a w

theorem wpIn_region_seqP {F : Fence} {n : Nat} {P : Program} {Q : Exit → Act → World → Prop} {id : Nat} {a : Act} {w : World} {l : List Oper} (S : World → Prop) (sq : List (Nat × Bool)) (hro : F.round = none) (hF : ∀ f, F.fn f) (hd : noDefer l.toArray = true) (hs : Region.noSelect l.toArray = true)
    (hm : P.follows .mixedOrders = true) (hlen : sq.length = l.length) (hB : seqTB .any l.toArray l.length sq (Array.replicate l.length false) = true) (hS : S { w with drawn := w.drawn + 1 })
    (h : wpSeqH F n P l.toArray (noPanic Q) S l.length sq a { w with drawn := w.drawn + 1 }) : (Code.region id l.toArray true).wpIn F n P Q a w := by
  refine wpIn_mono (wpIn_region_seqH S sq hro hF hd hs hm hlen hB (fun _ _ _ _ h => h) hS h) ?_
  intro e a w h
  cases e <;> first | exact h | exact h.elim

end Go.Proofs.YtkfcgamdlckncaaGreat

namespace Go.Proofs.YtkfcgamdlckncaaGreat
set_option linter.unusedVariables false
set_option linter.unusedSimpArgs false
open Go.RowKit

/-- A tree of orders. -/
inductive Ord where
  | fin
  | read (i : Nat) (r : Ord)
  | loud (i : Nat) (r : Ord)
  | fork (i : Nat) (r : Ord) (j : Nat) (q : Ord)

def Ord.ht : Ord → Nat
  | .fin => 0
  | .read _ r => r.ht + 1
  | .loud _ r => r.ht + 1
  | .fork _ r _ _ => r.ht + 1

section
variable {F : Fence} {n : Nat} {P : Program} {ops : Array Oper} {Q : Exit → Act → World → Prop} {md : Region.Mode} {S : World → Prop}

/-- One operation, and then K. -/
def wpOne (F : Fence) (n : Nat) (P : Program) (ops : Array Oper) (Q : Exit → Act → World → Prop) (i : Nat) (K : Act → World → Prop) (a : Act) (w : World) : Prop :=
  ∃ o, ops[i]? = some o ∧ wpListIn F n P ops (fun e a' w' => match e with | .normal => K a' w' | e => Q e a' w') [o] a w

theorem wpOne_take {i : Nat} {o : Oper} {K : Act → World → Prop} {a : Act} {w : World} (ho : ops[i]? = some o)
    (h : ∀ K' : Act → World → Prop, (∀ a' w', K a' w' → K' a' w') → wpListIn F n P ops (fun e a' w' => match e with | .normal => K' a' w' | e => Q e a' w') [o] a w) : wpOne F n P ops Q i K a w :=
  ⟨o, ho, h K (fun _ _ h => h)⟩

theorem wpOpIn_one (hro : F.round = none) {j : Nat} {K : Act → World → Prop} {a : Act} {w : World} (h : wpOne F n P ops Q j K a w) : wpOpIn F n P ops Q j K a w := by
  obtain ⟨o, ho, hr⟩ := h
  unfold wpOpIn
  simp only [ho]
  simp only [wpListIn] at hr
  split
  · rename_i hw
    rw [if_pos hw] at hr
    unfold Oper.wpIn at hr ⊢
    refine ⟨hr.1, ?_⟩
    have hr := hr.2
    rw [hro, Oper.semAt_none] at hr ⊢
    generalize (execOp a.eval o).run P w = res at *
    cases res with
    | ok x w' =>
      cases x <;> simp only [Oper.uponIn] at hr ⊢
      case value u => exact hr
      case skip => exact hr
      case defer d => exact hr
      case enter f args => exact ⟨hr.1, CallsIn.mono hr.2 fun e w'' he => by
        cases e with
        | returned u => exact he
        | panicked c => exact he
        | outgrown => exact he⟩
      case row row args => exact ⟨hr.1, RowsIn.mono hr.2 fun u w'' he => he⟩
      case round l f tmps assign body => exact ⟨hr.1, RoundIn.mono hr.2 fun e w'' he => by
        cases e with
        | returned u => exact he
        | panicked c => exact he
        | outgrown => exact he⟩
    | halt x w' => cases x <;> simp only [Oper.uponIn] at hr ⊢ <;> exact hr
  · rename_i hw
    rw [if_neg hw] at hr
    exact hr

/-- The operations in the orders of a tree. -/
def wpOrd (F : Fence) (n : Nat) (P : Program) (ops : Array Oper) (Q : Exit → Act → World → Prop) (S : World → Prop) : Ord → Act → World → Prop
  | .fin, a, w => Q .normal a w
  | .read i r, a, w => ∃ o v, ops[i]? = some o ∧ YieldsIf P ops S o v a ∧ wpOrd F n P ops Q S r (a.put o.dst v) w
  | .loud i r, a, w => wpOne F n P ops Q i (fun a' w' => S w' ∧ wpOrd F n P ops Q S r a' w') a w
  | .fork i r j q, a, w => wpOne F n P ops Q i (fun a' w' => S w' ∧ wpOrd F n P ops Q S r a' w') a w ∧ wpOne F n P ops Q j (fun a' w' => S w' ∧ wpOrd F n P ops Q S q a' w') a w

def ordB (md : Region.Mode) (ops : Array Oper) : Ord → Array Bool → Bool
  | .fin, listed => (Region.ready md ops listed).isEmpty
  | .read i r, listed => (Region.ready md ops listed).contains i && Region.free md ops listed i && ordB md ops r (listed.setIfInBounds i true)
  | .loud i r, listed => decide (Region.ready md ops listed = [i]) && ordB md ops r (listed.setIfInBounds i true)
  | .fork i r j q, listed => decide (Region.ready md ops listed = [i, j]) && decide (r.ht = q.ht) && ordB md ops r (listed.setIfInBounds i true) && ordB md ops q (listed.setIfInBounds j true)

theorem waits_past {md : Region.Mode} {ops : Array Oper} {i : Nat} : waitsB md ops ops.size i = true := by
  unfold waitsB
  simp

theorem wpAnyHIn_ord (hro : F.round = none) (hF : ∀ f, F.fn f) (hs : Region.noSelect ops = true) (hQ : ∀ c a a' w, Q (.panic c) a w → Q (.panic c) a' w) : ∀ (l : Ord) (listed : Array Bool) (a : Act) (w : World),
    S w → ordB md ops l listed = true → wpOrd F n P ops Q S l a w → wpAnyHIn F n P md ops Q S ops.size l.ht listed a w
  | .fin, listed, a, w, _, hB, h => ⟨by simpa [ordB] using hB, h⟩
  | .read i r, listed, a, w, hS, hB, h => by
    obtain ⟨o, v, ho, hy, hr⟩ := h
    simp only [ordB, Bool.and_eq_true] at hB
    obtain ⟨⟨h1, h2⟩, h3⟩ := hB
    exact wpAnyHIn_first waits_past hro hF ho (Region.noSelect_spec hs) (fun c a w => hQ c _ _ w) r.ht listed a w (Region.free_spec ho h2) (by simpa using h1) hy hS
      (wpAnyHIn_ord hro hF hs hQ r _ _ w hS h3 hr)
  | .loud i r, listed, a, w, hS, hB, h => by
    simp only [ordB, Bool.and_eq_true, decide_eq_true_eq] at hB
    obtain ⟨h1, h3⟩ := hB
    refine ⟨fun h0 => (by rw [h1] at h0; cases h0), fun j hj => ?_⟩
    rw [h1, List.mem_singleton] at hj
    subst hj
    exact wpOpIn_mono (fun a' w' h' => ⟨fun _ => h'.1, wpAnyHIn_ord hro hF hs hQ r _ a' w' h'.1 h3 h'.2⟩) (wpOpIn_one hro h)
  | .fork i r j q, listed, a, w, hS, hB, h => by
    simp only [ordB, Bool.and_eq_true, decide_eq_true_eq] at hB
    obtain ⟨⟨⟨h1, h2⟩, h3⟩, h4⟩ := hB
    refine ⟨fun h0 => (by rw [h1] at h0; cases h0), fun k hk => ?_⟩
    rw [h1] at hk
    rcases List.mem_cons.1 hk with e | hk
    · subst e
      exact wpOpIn_mono (fun a' w' h' => ⟨fun _ => h'.1, wpAnyHIn_ord hro hF hs hQ r _ a' w' h'.1 h3 h'.2⟩) (wpOpIn_one hro h.1)
    · rw [List.mem_singleton] at hk
      subst hk
      refine wpOpIn_mono (fun a' w' h' => ⟨fun _ => h'.1, ?_⟩) (wpOpIn_one hro h.2)
      have := wpAnyHIn_ord hro hF hs hQ q _ a' w' h'.1 h4 h'.2
      rw [← h2] at this
      exact this
end

theorem wpIn_region_ord {F : Fence} {n : Nat} {P : Program} {Q : Exit → Act → World → Prop} {id : Nat} {a : Act} {w : World} {l : List Oper} (S : World → Prop) (t : Ord) (hro : F.round = none) (hF : ∀ f, F.fn f) (hs : Region.noSelect l.toArray = true)
    (hm : P.follows .mixedOrders = true) (hlen : t.ht = l.length) (hB : ordB .any l.toArray t (Array.replicate l.length false) = true) (hS : S { w with drawn := w.drawn + 1 })
    (h : wpOrd F n P l.toArray (noPanic Q) S t a { w with drawn := w.drawn + 1 }) : (Code.region id l.toArray true).wpIn F n P Q a w := by
  refine wpIn_mono (Q := noPanic Q) ?_ ?_
  · refine wpIn_region_any hm (wpAnyIn_of_held (S := S) (z := l.toArray.size) _ _ _ _ ?_)
    have := wpAnyHIn_ord (md := .any) hro hF hs (fun _ _ _ _ h => h) t (Array.replicate l.length false) a _ hS hB h
    rw [hlen] at this
    simpa using this
  · intro e a w h
    cases e <;> first | exact h | exact h.elim

/-- What follows is told once, of all worlds and frames in which the statement may end. -/
theorem wpIn_meet {F : Fence} {n : Nat} {P : Program} {s : Code} {Q : Exit → Act → World → Prop} {a : Act} {w : World} (R : Act → World → Prop)
    (h : s.wpIn F n P (fun e a' w' => match e with | .normal => R a' w' | e => Q e a' w') a w) (hR : ∀ a' w', R a' w' → Q .normal a' w') : s.wpIn F n P Q a w := by
  refine wpIn_mono h ?_
  intro e a w h
  cases e <;> first | exact hR _ _ h | exact h

/-! ### the moves -/
theorem ord_read {F : Fence} {n : Nat} {P : Program} {ops : Array Oper} {Q : Exit → Act → World → Prop} {S : World → Prop} {i : Nat} {r : Ord} {a : Act} {w : World} {o : Oper} (v : Value) (hi : ops[i]? = some o) (hg : Region.wanted o (yielded ops a.tmps) = true) (hv : ∀ W, S W → (execOp a.eval o).run P W = .ok (.value v) W)
    (hk : ∀ K : Act → Prop, (∀ a, wpOrd F n P ops Q S r a w → K a) → K (a.put o.dst v)) : wpOrd F n P ops Q S (.read i r) a w :=
  ⟨o, v, hi, .inl ⟨hg, hv⟩, hk _ (fun _ h => h)⟩
theorem ord_loud {F : Fence} {n : Nat} {P : Program} {ops : Array Oper} {Q : Exit → Act → World → Prop} {S : World → Prop} {i : Nat} {r : Ord} {a : Act} {w : World} {o : Oper} (hi : ops[i]? = some o)
    (hk : ∀ K : Act → World → Prop, (∀ a w, S w → wpOrd F n P ops Q S r a w → K a w) → wpListIn F n P ops (fun e a' w' => match e with | .normal => K a' w' | e => Q e a' w') [o] a w) : wpOrd F n P ops Q S (.loud i r) a w :=
  ⟨o, hi, hk (fun a' w' => S w' ∧ wpOrd F n P ops Q S r a' w') (fun _ _ h1 h2 => ⟨h1, h2⟩)⟩
theorem ord_fork {F : Fence} {n : Nat} {P : Program} {ops : Array Oper} {Q : Exit → Act → World → Prop} {S : World → Prop} {i j : Nat} {r q : Ord} {a : Act} {w : World} (h1 : wpOrd F n P ops Q S (.loud i r) a w) (h2 : wpOrd F n P ops Q S (.loud j q) a w) : wpOrd F n P ops Q S (.fork i r j q) a w := ⟨h1, h2⟩

end Go.Proofs.YtkfcgamdlckncaaGreat
