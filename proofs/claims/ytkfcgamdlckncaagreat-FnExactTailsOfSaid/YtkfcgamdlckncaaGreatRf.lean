/-
  Ranging over functions, for this seat's walks: the contract of an iterator whose rounds may turn blocks of their own ('IterAt'), and the law of the statement over it ('wp_range').
  'own': the blocks that the rounds' side may turn; an iterator turns none of them, and the rounds turn no other.
-/
import Derived.RangeFuncSeq
import Derived.ControlIn
import Derived.Test.YtkfcgamdlckncaaGreatMemW
namespace Go.Proofs.YtkfcgamdlckncaaGreat
set_option linter.unusedVariables false
set_option linter.unusedSimpArgs false
open Go.RowKit

theorem Keeps.putObj {may : Nat → Prop} {a w : World} (h : Keeps may a w) {l : Nat} (hl : may l ∨ a.heap.size ≤ l) (o : Obj) : Keeps may a (w.putObj l o) :=
  ⟨h.os, h.tape, h.output, by simpa using h.size, fun i hi hm => (World.putObj_heap_other (fun e => by
    subst e; rcases hl with hl | hl
    · exact hm hl
    · omega)).trans (h.block i hi hm)⟩

theorem Keeps.grownBy {w w' : World} (h : Keeps noB w w') : w.grownBy w' none := ⟨h.os, h.tape, h.output, h.size, fun k hk _ => h.block k hk id⟩

/-- What a round's side says abides whatever the iterator does to blocks of its own. -/
def Stab {α : Type} (B : Nat) (J : List α → (Nat → Prop) → World → Prop) : Prop :=
  ∀ pre own W W', J pre own W → Keeps (fun k => B ≤ k ∧ ¬ own k) W W' → J pre own W'

/-- Which blocks are the rounds' own behind a step that began in W. -/
structure Owns (own own' : Nat → Prop) (W W' : World) : Prop where
  more : ∀ k, own' k → own k ∨ W.heap.size ≤ k
  lt : ∀ k, own' k → k < W'.heap.size
  keeps : Keeps own W W'

theorem Owns.refl {own : Nat → Prop} {W : World} (h : ∀ k, own k → k < W.heap.size) : Owns own own W W := ⟨fun _ h => .inl h, h, Keeps.refl _ _⟩

theorem Owns.trans {o1 o2 o3 : Nat → Prop} {A B C : World} (h : Owns o1 o2 A B) (k : Owns o2 o3 B C) : Owns o1 o3 A C :=
  ⟨fun i hi => (k.more i hi).elim (h.more i) (fun e => .inr (Nat.le_trans h.keeps.size e)), k.lt, h.keeps.transNew k.keeps (fun i hi e => (h.more i e).elim id (fun e => by omega))⟩

/-- Ahead of it a step that turns none of what lay. -/
theorem Owns.behind {o1 o2 : Nat → Prop} {A B C : World} (h : Keeps noB A B) (k : Owns o1 o2 B C) : Owns o1 o2 A C :=
  ⟨fun i hi => (k.more i hi).imp id (Nat.le_trans h.size), k.lt, (h.mono (fun _ e => e.elim)).trans k.keeps⟩

/-- Behind it a step that turns new blocks alone, none of them the rounds' own. -/
theorem Owns.ahead {o1 o2 : Nat → Prop} {A B C : World} {may : Nat → Prop} (h : Owns o1 o2 A B) (k : Keeps may B C) (hn : ∀ i, may i → A.heap.size ≤ i) : Owns o1 o2 A C :=
  ⟨h.more, fun i hi => Nat.lt_of_lt_of_le (h.lt i hi) k.size, h.keeps.transNew k (fun i hi e => by have := hn i e; omega)⟩

theorem Owns.stab {α : Type} {o1 : Nat → Prop} {A : World} : Stab (α := α) A.heap.size (fun _ own W => Owns o1 own A W) :=
  fun _ _ _ _ h q => h.ahead q (fun _ e => e.1)

theorem Stab.and {α : Type} {B : Nat} {J J' : List α → (Nat → Prop) → World → Prop} (h : Stab B J) (h' : Stab B J') : Stab B (fun pre own W => J pre own W ∧ J' pre own W) :=
  fun pre own W W' hs q => ⟨h pre own W W' hs.1 q, h' pre own W W' hs.2 q⟩
theorem Stab.mono {α : Type} {B B' : Nat} {J : List α → (Nat → Prop) → World → Prop} (h : Stab B J) (hB : B ≤ B') : Stab B' J :=
  fun pre own W W' hs q => h pre own W W' hs (q.mono (fun _ e => ⟨Nat.le_trans hB e.1, e.2⟩))
theorem Stab.shift {α : Type} {B : Nat} {J : List α → (Nat → Prop) → World → Prop} (h : Stab B J) (p : List α) : Stab B (fun pre own W => J (p ++ pre) own W) := fun pre own W W' hs q => h (p ++ pre) own W W' hs q

/-- How a round ends. -/
def RoundEnds {α : Type} (J Jx : List α → (Nat → Prop) → World → Prop) (pre : List α) (own : Nat → Prop) (W : World) (e : Ending) (W' : World) : Prop :=
  ∃ own', Owns own own' W W' ∧ ((e = .returned (.bool true) ∧ J pre own' W') ∨ (e = .returned (.bool false) ∧ Jx pre own' W'))

/-- How an iterator ends. -/
def IterEnds {α : Type} (J Jx : List α → (Nat → Prop) → World → Prop) (all : List α) (own : Nat → Prop) (W : World) (e : Ending) (W' : World) : Prop :=
  ∃ v own', e = .returned v ∧ Owns own own' W W' ∧ (J all own' W' ∨ ∃ pre post, all = pre ++ post ∧ Jx pre own' W')

/-- What the rounds promise an iterator that yields 'all', one by one. -/
def Rounds {α : Type} (P : Program) (l : Nat) (all : List α) (enc : α → Array Value → Prop) (J Jx : List α → (Nat → Prop) → World → Prop) : Prop :=
  ∀ m pre x post args own W, all = pre ++ x :: post → enc x args → J pre own W → (∀ k, own k → k < W.heap.size) →
    YieldAt Fence.wide m P l args W (RoundEnds J Jx (pre ++ [x]) own W)

/-- AN ITERATOR: function gf with lb captured yields 'all' and returns. 'prot': blocks that the rounds must not turn. -/
def IterAt {α : Type} (P : Program) (gf : FuncId) (lb : Array Value) (all : List α) (enc : α → Array Value → Prop) (prot : Nat → Prop) (W : World) : Prop :=
  ∀ (l : Nat) (J Jx : List α → (Nat → Prop) → World → Prop) (own : Nat → Prop), Stab W.heap.size J → Stab W.heap.size Jx →
    (∀ k, own k → k < W.heap.size) → (∀ k, prot k → ¬ own k) → Rounds P l all enc J Jx → J [] own W →
    ∀ n, CallsIn Fence.wide n P gf (#[.func (.yield l) #[] #[]] ++ lb) W (IterEnds J Jx all own W)

/-- How the body of a round may be left. -/
def BodyEnds {α : Type} (I : List α → (Nat → Prop) → World → Prop) (Ix : Code → List α → (Nat → Prop) → World → Prop) (pre : List α) (own : Nat → Prop) (W : World) : Exit → Act → World → Prop
  | .normal, _, W' => ∃ own', Owns own own' W W' ∧ I pre own' W'
  | .ret, _, W' => ∃ own', Owns own own' W W' ∧ Ix .ret pre own' W'
  | .exit id, _, W' => ∃ own', Owns own own' W W' ∧ Ix (.exit id) pre own' W'
  | .goto t, _, W' => ∃ own', Owns own own' W W' ∧ Ix (.goto t) pre own' W'
  | .panic _, _, _ => False
  | .outgrown, _, _ => False

/-- The mark that an outermost loop leaves among the deferred calls. -/
def mark (D : Nat) : Deferred := { target := .collected D, args := #[] }

/-- Behind the statement: blocks D (the rounds' deferred calls: none) is new, and no round's own. -/
structure Behind (own own' : Nat → Prop) (w W' : World) (D : Nat) : Prop where
  owns : Owns own own' w W'
  new : w.heap.size ≤ D
  free : ¬ own' D
  none : W'.heap[D]? = some (.deferred (some []))

theorem wp_range {α : Type} {F : Fence} (hF : F = Fence.wide) {n : Nat} {P : Program} {g : Operand} {ps : Array Tmp} {assign body : Code} {Q : Exit → Act → World → Prop} {a : Act} {w : World}
    {gf : Nat} {lb : Array Value} {all : List α} {enc : α → Array Value → Prop} {prot : Nat → Prop} {own : Nat → Prop}
    (hg : a.eval g = .func (.func gf) #[] lb) (eg : ∀ args w, (callFunc gf args).run P w = .ok (.enter gf args) w)
    (hiter : ∀ W, Keeps noB w W → IterAt P gf lb all enc prot W)
    (I : List α → (Nat → Prop) → World → Prop) (Ix : Code → List α → (Nat → Prop) → World → Prop) (hI : Stab w.heap.size I) (hIx : ∀ c, Stab w.heap.size (Ix c))
    (hown : ∀ k, own k → k < w.heap.size) (hprot : ∀ k, prot k → ¬ own k ∧ k < w.heap.size) (hps : ∀ x args, enc x args → args.size = ps.size) (h0 : I [] own w)
    (hround : ∀ l m pre x post args own1 W1, all = pre ++ x :: post → enc x args → I pre own1 W1 → (∀ k, own1 k → k < W1.heap.size) → w.heap.size ≤ l → ¬ own1 l → l < W1.heap.size →
      assign.wpIn (F.inRound l) m P (Exit.then (fun a2 W2 => Keeps noB W1 W2 ∧ ∀ W3, Keeps (oneB l) W2 W3 → W3.heap.size = W2.heap.size →
        body.wpIn (F.inRound l) m P (BodyEnds I Ix (pre ++ [x]) own1 W3) a2 W3) (fun _ _ _ => False))
        { tmps := (ps.zip args).foldl (fun t (p, v) => t.setIfInBounds p v) a.tmps, defers := [] } W1)
    (hdone : ∀ D own' W', Behind own own' w W' D → I all own' W' → Q .normal { a with defers := mark D :: a.defers } W')
    (hstop : ∀ D c pre post own' W', Behind own own' w W' D → all = pre ++ post → Ix c pre own' W' → c.wpIn F n P Q { a with defers := mark D :: a.defers } W') :
    (Code.rangeFunc g ps assign body).wpIn F n P Q a w := by
  subst hF
  refine wpIn_rangeFunc ?_
  intro fn hfn
  let rec' : LoopState → Option Code → Loop := fun st pe => { state := st, pending := pe, fn, tmps := a.tmps, params := ps, assign, body, defers := w.heap.size }
  obtain ⟨W1, hW1⟩ : ∃ W1, (w.alloc (.deferred (some []))).alloc (.loop (rec' .ready none)) = W1 := ⟨_, rfl⟩
  have hs1 : W1.heap.size = w.heap.size + 2 := by rw [← hW1]; simp
  have hk1 : Keeps noB w W1 := by rw [← hW1]; exact ((Keeps.refl _ _).alloc _).alloc _
  have hL1 : W1.heap[w.heap.size + 1]? = some (.loop (rec' .ready none)) := by
    rw [← hW1]; have := World.alloc_heap_new (w.alloc (.deferred (some []))) (.loop (rec' .ready none)); rwa [World.size_alloc] at this
  have hD1 : W1.heap[w.heap.size]? = some (.deferred (some [])) := by
    rw [← hW1]; exact (Below.heap_alloc _ _ _ (by simp)).trans (World.alloc_heap_new w _)
  refine ⟨w.heap.size + 1, [mark w.heap.size], W1, { target := .fn (.func gf) lb, args := #[.func (.yield (w.heap.size + 1)) #[] #[]] }, W1, gf,
    #[.func (.yield (w.heap.size + 1)) #[] #[]] ++ lb, W1, ?_, ?_, fun _ _ => trivial, ?_, fun h => by simp [Fence.wide] at h, ?_⟩
  · rw [← hW1]; exact run_enterLoop_outer _ _ _ _ _
  · simp only [resolve, hg]; simp [go_sem]
  · simp [invoke, go_sem, eg]
  obtain ⟨L, hL⟩ : ∃ L, L = w.heap.size + 1 := ⟨_, rfl⟩
  rw [← hL] at hL1 ⊢
  -- the rounds' side, the two blocks of book-keeping beside it
  let Both : LoopState → Option Code → (Nat → Prop) → (Nat → Prop) → World → Prop := fun st pe ownJ own1 W =>
    (∀ k, ownJ k ↔ own1 k ∨ k = L) ∧ (∀ k, own1 k → k < W.heap.size) ∧ ¬ own1 L ∧ ¬ own1 w.heap.size ∧ W.heap[L]? = some (.loop (rec' st pe)) ∧ W.heap[w.heap.size]? = some (.deferred (some [])) ∧ W1.heap.size ≤ W.heap.size
  let J : List α → (Nat → Prop) → World → Prop := fun pre ownJ W => ∃ own1, Both .ready none ownJ own1 W ∧ I pre own1 W
  let Jx : List α → (Nat → Prop) → World → Prop := fun pre ownJ W => ∃ c own1, Both .done (some c) ownJ own1 W ∧ Ix c pre own1 W
  have both_stab : ∀ st pe ownJ own1 W W', Both st pe ownJ own1 W → Keeps (fun k => W1.heap.size ≤ k ∧ ¬ ownJ k) W W' → Both st pe ownJ own1 W' ∧ Keeps (fun k => w.heap.size ≤ k ∧ ¬ own1 k) W W' := by
    rintro st pe ownJ own1 W W' ⟨h1, h2, h3, h4, h5, h6, h7⟩ hk
    have hlt : L < W.heap.size := (Array.getElem?_eq_some_iff.1 h5).1
    refine ⟨⟨h1, fun k hk' => Nat.lt_of_lt_of_le (h2 k hk') hk.size, h3, h4, ?_, ?_, Nat.le_trans h7 hk.size⟩, hk.mono fun k hk' => ⟨by omega, fun e => hk'.2 ((h1 k).2 (.inl e))⟩⟩
    · rw [hk.block L hlt (fun e => e.2 ((h1 L).2 (.inr rfl)))]; exact h5
    · rw [hk.block w.heap.size (by omega) (fun e => by have := e.1; omega)]; exact h6
  have hJ : Stab W1.heap.size J := by
    rintro pre ownJ W W' ⟨own1, hb, hi⟩ hk
    obtain ⟨hb', hk'⟩ := both_stab _ _ _ _ _ _ hb hk
    exact ⟨own1, hb', hI _ _ _ _ hi hk'⟩
  have hJx : Stab W1.heap.size Jx := by
    rintro pre ownJ W W' ⟨c, own1, hb, hi⟩ hk
    obtain ⟨hb', hk'⟩ := both_stab _ _ _ _ _ _ hb hk
    exact ⟨c, own1, hb', hIx c _ _ _ _ hi hk'⟩
  refine (hiter W1 hk1 L J Jx (fun k => own k ∨ k = L) hJ hJx ?_ ?_ ?_ ?_ _).mono ?_
  · rintro k (hk | rfl)
    · have := hown k hk; omega
    · omega
  · rintro k hk (h | rfl)
    · exact (hprot k hk).1 h
    · have := (hprot _ hk).2; omega
  · -- one round
    rintro m pre x post args ownJ W hall henc ⟨own1, ⟨h1, h2, h3, h4, h5, h6, h7⟩, hi⟩ hlt
    have hLlt : L < W.heap.size := (Array.getElem?_eq_some_iff.1 h5).1
    have hy := run_yield (P := P) (args := args) h5 (by rw [hps x args henc])
    refine ⟨fn, _, assign, body, hy, roundIn_of_wpIn hfn (wpIn_mono (hround L m pre x post args own1 W hall henc hi h2 (by omega) h3 hLlt) ?_)⟩
    rintro e a2 W2 hp
    cases e with
    | normal =>
      obtain ⟨hk2, hbody⟩ := hp
      have hL2 : W2.heap[L]? = some (.loop (rec' .ready none)) := (hk2.block L hLlt id).trans h5
      have hL2lt : L < W2.heap.size := (Array.getElem?_eq_some_iff.1 hL2).1
      refine ⟨_, run_beginRound hL2 rfl, wpIn_mono (hbody _ ((Keeps.refl _ _).putObj (.inl (show oneB L L from rfl)) _) (by simp)) ?_⟩
      have hL3 : (W2.putObj L (.loop { rec' .ready none with state := .busy })).heap[L]? = some (.loop { rec' .ready none with state := .busy }) := World.putObj_heap_same hL2lt
      have hD3 : (W2.putObj L (.loop { rec' .ready none with state := .busy })).heap[w.heap.size]? = some (.deferred (some [])) :=
        (World.putObj_heap_other (by omega)).trans ((hk2.block _ (by omega) id).trans h6)
      have hs3 : (W2.putObj L (.loop { rec' .ready none with state := .busy })).heap.size = W2.heap.size := by simp
      have hk23 : Keeps (oneB L) W2 (W2.putObj L (.loop { rec' .ready none with state := .busy })) := (Keeps.refl _ _).putObj (.inl (show oneB L L from rfl)) _
      generalize W2.putObj L (.loop { rec' .ready none with state := .busy }) = W3 at hL3 hD3 hs3 hk23 ⊢
      have fin : ∀ (jump : Option Code) (own2 : Nat → Prop) (W4 : World), Owns own1 own2 W3 W4 →
          ∃ v W5, (Instr.endRound L jump).run P W4 = .ok v W5 ∧ v = .bool jump.isNone ∧ Owns ownJ (fun k => own2 k ∨ k = L) W W5 ∧
            Both (if jump.isNone then .ready else .done) jump (fun k => own2 k ∨ k = L) own2 W5 ∧ Keeps (fun k => w.heap.size ≤ k ∧ ¬ own2 k) W4 W5 := by
        intro jump own2 W4 ho
        have hn2 : ¬ own2 L := fun e => (ho.more L e).elim h3 (fun e => by omega)
        have hn2' : ¬ own2 w.heap.size := fun e => (ho.more _ e).elim h4 (fun e => by have := hk2.size; omega)
        have hL4 : W4.heap[L]? = some (.loop { rec' .ready none with state := .busy }) := (ho.keeps.block L (by omega) h3).trans hL3
        have hD4 : W4.heap[w.heap.size]? = some (.deferred (some [])) := (ho.keeps.block _ (by have := hk2.size; omega) h4).trans hD3
        have hL4lt : L < W4.heap.size := (Array.getElem?_eq_some_iff.1 hL4).1
        refine ⟨_, _, run_endRound jump hL4, rfl, ⟨?_, ?_, ?_⟩, ⟨fun k => Iff.rfl, ?_, hn2, hn2', ?_, ?_, ?_⟩, ?_⟩
        · rintro k (hk | rfl)
          · rcases ho.more k hk with h | h
            · exact .inl ((h1 k).2 (.inl h))
            · exact .inr (by have := hk2.size; omega)
          · exact .inl ((h1 _).2 (.inr rfl))
        · rintro k (hk | rfl)
          · simpa using ho.lt k hk
          · simpa using hL4lt
        · have hL' : ownJ L := (h1 L).2 (.inr rfl)
          refine (((hk2.mono (fun _ e => e.elim)).trans (hk23.mono (fun k e => by rw [show k = L from e]; exact hL'))).trans (ho.keeps.mono (fun k e => (h1 k).2 (.inl e)))).putObj (.inl hL') _
        · intro k hk; simpa using ho.lt k hk
        · rw [World.putObj_heap_same hL4lt]
        · exact (World.putObj_heap_other (by omega)).trans hD4
        · have := ho.keeps.size; have := hk2.size; simp; omega
        · exact (Keeps.refl _ _).putObj (.inl ⟨by omega, hn2⟩) _
      rintro e a3 W4 hp
      cases e with
      | normal =>
        obtain ⟨own2, ho, hi4⟩ := hp
        obtain ⟨v, W5, hr, hv, ho5, hb5, hk5⟩ := fin none own2 W4 ho
        exact ⟨v, W5, hr, _, ho5, .inl ⟨by rw [hv]; rfl, own2, hb5, hI _ _ _ _ hi4 hk5⟩⟩
      | ret =>
        obtain ⟨own2, ho, hi4⟩ := hp
        obtain ⟨v, W5, hr, hv, ho5, hb5, hk5⟩ := fin (some .ret) own2 W4 ho
        exact ⟨v, W5, hr, _, ho5, .inr ⟨by rw [hv]; rfl, _, own2, hb5, hIx _ _ _ _ _ hi4 hk5⟩⟩
      | exit id =>
        obtain ⟨own2, ho, hi4⟩ := hp
        obtain ⟨v, W5, hr, hv, ho5, hb5, hk5⟩ := fin (some (.exit id)) own2 W4 ho
        exact ⟨v, W5, hr, _, ho5, .inr ⟨by rw [hv]; rfl, _, own2, hb5, hIx _ _ _ _ _ hi4 hk5⟩⟩
      | goto t =>
        obtain ⟨own2, ho, hi4⟩ := hp
        obtain ⟨v, W5, hr, hv, ho5, hb5, hk5⟩ := fin (some (.goto t)) own2 W4 ho
        exact ⟨v, W5, hr, _, ho5, .inr ⟨by rw [hv]; rfl, _, own2, hb5, hIx _ _ _ _ _ hi4 hk5⟩⟩
      | panic ch => exact hp.elim
      | outgrown => exact hp.elim
    | exit id => exact hp.elim
    | goto t => exact hp.elim
    | ret => exact hp.elim
    | panic ch => exact hp.elim
    | outgrown => exact hp.elim
  · exact ⟨own, ⟨fun k => Iff.rfl, fun k hk => by have := hown k hk; omega, fun e => by have := hown L e; omega, fun e => by have := hown _ e; omega, hL1, hD1, Nat.le_refl _⟩,
      hI _ _ _ _ h0 (hk1.mono (fun _ e => e.elim))⟩
  · -- behind the iterator
    rintro e W2 ⟨v, ownJ, rfl, ho, hj⟩
    have fin : ∀ st pe own2, Both st pe ownJ own2 W2 → st ≠ .busy →
        (Instr.endLoop L).run P W2 = .ok pe (W2.putObj L (.loop { rec' st pe with state := .exhausted })) ∧ Behind own own2 w (W2.putObj L (.loop { rec' st pe with state := .exhausted })) w.heap.size ∧
          Keeps (fun k => w.heap.size ≤ k ∧ ¬ own2 k) W2 (W2.putObj L (.loop { rec' st pe with state := .exhausted })) := by
      rintro st pe own2 ⟨h1, h2, h3, h4, h5, h6, h7⟩ hst
      refine ⟨run_endLoop h5 hst, ⟨⟨?_, ?_, ?_⟩, Nat.le_refl _, h4, (World.putObj_heap_other (by omega)).trans h6⟩, (Keeps.refl _ _).putObj (.inl ⟨by omega, h3⟩) _⟩
      · intro k hk
        rcases ho.more k ((h1 k).2 (.inl hk)) with (h | rfl) | h
        · exact .inl h
        · exact (h3 hk).elim
        · exact .inr (by omega)
      · intro k hk; simpa using h2 k hk
      · refine ((hk1.mono (fun _ e => e.elim)).transNew ho.keeps ?_).putObj (.inr (by omega)) _
        rintro i hi (h | rfl)
        · exact h
        · omega
    rcases hj with ⟨own2, hb, hi⟩ | ⟨pre, post, hall, c, own2, hb, hi⟩
    · obtain ⟨hr, hbh, hk⟩ := fin _ _ _ hb (by simp)
      exact ⟨none, _, hr, hdone _ _ _ hbh (hI _ _ _ _ hi hk)⟩
    · obtain ⟨hr, hbh, hk⟩ := fin _ _ _ hb (by simp)
      exact ⟨some c, _, hr, hstop _ _ _ _ _ _ hbh hall (hIx _ _ _ _ _ hi hk)⟩

/-- A function leaves: the marks of its loops are taken, one by one. -/
theorem leaves_marks {F : Fence} {P : Program} {n : Nat} {fn : Func} {tmps : Array Value} {R : Ending → World → Prop} : ∀ (Ds : List Nat) (w : World), Ds.Nodup → (∀ D, D ∈ Ds → w.heap[D]? = some (.deferred (some []))) →
    (∀ W', Keeps (fun k => k ∈ Ds) w W' → W'.heap.size = w.heap.size → LeavesIn F n P fn tmps R [] .returning W') → LeavesInM F n P fn tmps R (Ds.map mark) .returning w
  | [], w, _, _, h => h w (Keeps.refl _ _) rfl
  | D :: Ds, w, hn, hd, h => by
    obtain ⟨hn1, hn2⟩ := List.nodup_cons.1 hn
    refine ⟨by simp, .inl ⟨D, _, rfl, run_takeDeferred (hd D (by simp)), ?_⟩⟩
    refine leaves_marks Ds _ hn2 (fun D' hD' => (World.putObj_heap_other (show D' ≠ D from fun e => hn1 (e ▸ hD'))).trans (hd D' (by simp [hD']))) (fun W' hk hs => h W' ?_ (by simpa using hs))
    exact ((Keeps.refl _ _).putObj (.inl (by simp)) _).trans (hk.mono (fun k e => by simp [e]))

end Go.Proofs.YtkfcgamdlckncaaGreat
