/-
  Ranging over functions, where the iterator keeps a state in a block that lay before its own run: as 'IterAt' and 'wp_range', but the iterator may turn whatever lies from 'lo' on and is not the rounds' own.
-/
import Derived.Test.YthgocacabadflaaDoorRg
namespace Go.Proofs.YthgocacabadflaaDoor
set_option linter.unusedVariables false
set_option linter.unusedSimpArgs false
open Go.RowKit

structure OwnsL (lo : Nat) (own own' : Nat → Prop) (W W' : World) : Prop where
  more : ∀ k, own' k → own k ∨ W.heap.size ≤ k
  lt : ∀ k, own' k → k < W'.heap.size
  keeps : Keeps (fun k => own k ∨ lo ≤ k) W W'

theorem Owns.low {lo : Nat} {own own' : Nat → Prop} {W W' : World} (h : Owns own own' W W') : OwnsL lo own own' W W' := ⟨h.more, h.lt, h.keeps.mono (fun _ e => .inl e)⟩
/-- What was let from lo on, where lo is the first world's own end. -/
theorem OwnsL.high {lo : Nat} {own own' : Nat → Prop} {W W' : World} (h : OwnsL lo own own' W W') (hl : W.heap.size ≤ lo) : Owns own own' W W' :=
  ⟨h.more, h.lt, ⟨h.keeps.os, h.keeps.tape, h.keeps.output, h.keeps.size, fun k hk hm => h.keeps.block k hk (fun e => e.elim hm (fun e => by omega))⟩⟩
theorem OwnsL.transR {lo : Nat} {o1 o2 o3 : Nat → Prop} {A B C : World} (h : OwnsL lo o1 o2 A B) (hlo : lo ≤ A.heap.size) (k : Owns o2 o3 B C) : OwnsL lo o1 o3 A C :=
  ⟨fun i hi => (k.more i hi).elim (h.more i) (fun e => .inr (Nat.le_trans h.keeps.size e)), k.lt, h.keeps.transNew k.keeps (fun i hi e => (h.more i e).imp id (fun e => by omega))⟩
theorem OwnsL.ahead {lo : Nat} {o1 o2 : Nat → Prop} {A B C : World} {may : Nat → Prop} (h : OwnsL lo o1 o2 A B) (k : Keeps may B C) (hn : ∀ i, may i → lo ≤ i) : OwnsL lo o1 o2 A C :=
  ⟨h.more, fun i hi => Nat.lt_of_lt_of_le (h.lt i hi) k.size, h.keeps.transNew k (fun i hi e => .inr (hn i e))⟩

/-- How an iterator ends. -/
def IterEndsL {α : Type} (lo : Nat) (J Jx : List α → (Nat → Prop) → World → Prop) (all : List α) (own : Nat → Prop) (W : World) (e : Ending) (W' : World) : Prop :=
  ∃ v own', e = .returned v ∧ OwnsL lo own own' W W' ∧ (J all own' W' ∨ ∃ pre post, all = pre ++ post ∧ Jx pre own' W')

/-- AN ITERATOR with a state of its own from lo on. -/
def IterAtL {α : Type} (P : Program) (lo : Nat) (gf : FuncId) (lb : Array Value) (all : List α) (enc : α → Array Value → Prop) (prot : Nat → Prop) (W : World) : Prop :=
  ∀ (l : Nat) (J Jx : List α → (Nat → Prop) → World → Prop) (own : Nat → Prop), Stab lo J → Stab lo Jx →
    (∀ k, own k → k < W.heap.size) → (∀ k, prot k → ¬ own k) → Rounds P l all enc J Jx → J [] own W →
    ∀ n, CallsIn Fence.wide n P gf (#[.func (.yield l) #[] #[]] ++ lb) W (IterEndsL lo J Jx all own W)

/-- Behind the statement: blocks D (the rounds' deferred calls: none) is new, and no round's own. -/
structure BehindL (lo : Nat) (own own' : Nat → Prop) (w W' : World) (D : Nat) : Prop where
  owns : OwnsL lo own own' w W'
  new : w.heap.size ≤ D
  free : ¬ own' D
  none : W'.heap[D]? = some (.deferred (some []))

theorem wp_rangeL {α : Type} {F : Fence} (hF : F = Fence.wide) {n : Nat} {P : Program} {g : Operand} {ps : Array Tmp} {assign body : Code} {Q : Exit → Act → World → Prop} {a : Act} {w : World}
    {gf : Nat} {lb : Array Value} {all : List α} {enc : α → Array Value → Prop} {prot : Nat → Prop} {own : Nat → Prop} (lo : Nat) (hlo : lo ≤ w.heap.size)
    (hg : a.eval g = .func (.func gf) #[] lb) (eg : ∀ args w, (callFunc gf args).run P w = .ok (.enter gf args) w)
    (hiter : ∀ W, Keeps noB w W → IterAtL P lo gf lb all enc prot W)
    (I : List α → (Nat → Prop) → World → Prop) (Ix : Code → List α → (Nat → Prop) → World → Prop) (hI : Stab lo I) (hIx : ∀ c, Stab lo (Ix c))
    (hown : ∀ k, own k → k < w.heap.size) (hprot : ∀ k, prot k → ¬ own k ∧ k < w.heap.size) (hps : ∀ x args, enc x args → args.size = ps.size) (h0 : I [] own w)
    (hround : ∀ l m pre x post args own1 W1, all = pre ++ x :: post → enc x args → I pre own1 W1 → (∀ k, own1 k → k < W1.heap.size) → w.heap.size ≤ l → ¬ own1 l → l < W1.heap.size →
      assign.wpIn (F.inRound l) m P (Exit.then (fun a2 W2 => Keeps noB W1 W2 ∧ ∀ W3, Keeps (oneB l) W2 W3 → W3.heap.size = W2.heap.size →
        body.wpIn (F.inRound l) m P (BodyEnds I Ix (pre ++ [x]) own1 W3) a2 W3) (fun _ _ _ => False))
        { tmps := (ps.zip args).foldl (fun t (p, v) => t.setIfInBounds p v) a.tmps, defers := [] } W1)
    (hdone : ∀ D own' W', BehindL lo own own' w W' D → I all own' W' → Q .normal { a with defers := mark D :: a.defers } W')
    (hstop : ∀ D c pre post own' W', BehindL lo own own' w W' D → all = pre ++ post → Ix c pre own' W' → c.wpIn F n P Q { a with defers := mark D :: a.defers } W') :
    (Code.rangeFunc g ps assign body).wpIn F n P Q a w := by
  subst hF
  refine wpIn_rangeFunc ?_
  intro fn hfn
  let rec' : LoopState → Option Code → Loop := fun st pe => { state := st, pending := pe, fn, tmps := a.tmps, params := ps, assign, body, defers := w.heap.size }
  obtain ⟨W1, hW1⟩ : ∃ W1, (w.alloc (.deferred (some []))).alloc (.loop (rec' .ready none)) = W1 := ⟨_, rfl⟩
  have hs1 : W1.heap.size = w.heap.size + 2 := by rw [← hW1]; simp
  have hk1 : Keeps noB w W1 := by rw [← hW1]; exact ((Keeps.refl _ _).alloc _).alloc _
  have hL1 : W1.heap[w.heap.size + 1]? = some (.loop (rec' .ready none)) := by
    rw [← hW1]; have := World.alloc_heap_new (w.alloc (.deferred (some []))) (.loop (rec' .ready none)); rwa [World.size_alloc] at this
  have hD1 : W1.heap[w.heap.size]? = some (.deferred (some [])) := by
    rw [← hW1]; exact (Below.heap_alloc _ _ _ (by simp)).trans (World.alloc_heap_new w _)
  refine ⟨w.heap.size + 1, [mark w.heap.size], W1, { target := .fn (.func gf) lb, args := #[.func (.yield (w.heap.size + 1)) #[] #[]] }, W1, gf,
    #[.func (.yield (w.heap.size + 1)) #[] #[]] ++ lb, W1, ?_, ?_, fun _ _ => trivial, ?_, fun h => by simp [Fence.wide] at h, ?_⟩
  · rw [← hW1]; exact run_enterLoop_outer _ _ _ _ _
  · simp only [resolve, hg]; simp [go_sem]
  · simp [invoke, go_sem, eg]
  obtain ⟨L, hL⟩ : ∃ L, L = w.heap.size + 1 := ⟨_, rfl⟩
  rw [← hL] at hL1 ⊢
  -- the rounds' side, the two blocks of book-keeping beside it
  let Both : LoopState → Option Code → (Nat → Prop) → (Nat → Prop) → World → Prop := fun st pe ownJ own1 W =>
    (∀ k, ownJ k ↔ own1 k ∨ k = L ∨ k = w.heap.size) ∧ (∀ k, own1 k → k < W.heap.size) ∧ ¬ own1 L ∧ ¬ own1 w.heap.size ∧ W.heap[L]? = some (.loop (rec' st pe)) ∧ W.heap[w.heap.size]? = some (.deferred (some [])) ∧ W1.heap.size ≤ W.heap.size
  let J : List α → (Nat → Prop) → World → Prop := fun pre ownJ W => ∃ own1, Both .ready none ownJ own1 W ∧ I pre own1 W
  let Jx : List α → (Nat → Prop) → World → Prop := fun pre ownJ W => ∃ c own1, Both .done (some c) ownJ own1 W ∧ Ix c pre own1 W
  have both_stab : ∀ st pe ownJ own1 W W', Both st pe ownJ own1 W → Keeps (fun k => lo ≤ k ∧ ¬ ownJ k) W W' → Both st pe ownJ own1 W' ∧ Keeps (fun k => lo ≤ k ∧ ¬ own1 k) W W' := by
    rintro st pe ownJ own1 W W' ⟨h1, h2, h3, h4, h5, h6, h7⟩ hk
    have hlt : L < W.heap.size := (Array.getElem?_eq_some_iff.1 h5).1
    refine ⟨⟨h1, fun k hk' => Nat.lt_of_lt_of_le (h2 k hk') hk.size, h3, h4, ?_, ?_, Nat.le_trans h7 hk.size⟩, hk.mono fun k hk' => ⟨hk'.1, fun e => hk'.2 ((h1 k).2 (.inl e))⟩⟩
    · rw [hk.block L hlt (fun e => e.2 ((h1 L).2 (.inr (.inl rfl))))]; exact h5
    · rw [hk.block w.heap.size (by omega) (fun e => e.2 ((h1 _).2 (.inr (.inr rfl))))]; exact h6
  have hJ : Stab lo J := by
    rintro pre ownJ W W' ⟨own1, hb, hi⟩ hk
    obtain ⟨hb', hk'⟩ := both_stab _ _ _ _ _ _ hb hk
    exact ⟨own1, hb', hI _ _ _ _ hi hk'⟩
  have hJx : Stab lo Jx := by
    rintro pre ownJ W W' ⟨c, own1, hb, hi⟩ hk
    obtain ⟨hb', hk'⟩ := both_stab _ _ _ _ _ _ hb hk
    exact ⟨c, own1, hb', hIx c _ _ _ _ hi hk'⟩
  refine (hiter W1 hk1 L J Jx (fun k => own k ∨ k = L ∨ k = w.heap.size) hJ hJx ?_ ?_ ?_ ?_ _).mono ?_
  · rintro k (hk | rfl | rfl)
    · have := hown k hk; omega
    · omega
    · omega
  · rintro k hk (h | rfl | rfl)
    · exact (hprot k hk).1 h
    · have := (hprot _ hk).2; omega
    · have := (hprot _ hk).2; omega
  · -- one round
    rintro m pre x post args ownJ W hall henc ⟨own1, ⟨h1, h2, h3, h4, h5, h6, h7⟩, hi⟩ hlt
    have hLlt : L < W.heap.size := (Array.getElem?_eq_some_iff.1 h5).1
    have hy := run_yield (P := P) (args := args) h5 (by rw [hps x args henc])
    refine ⟨fn, _, assign, body, hy, roundIn_of_wpIn hfn (wpIn_mono (hround L m pre x post args own1 W hall henc hi h2 (by omega) h3 hLlt) ?_)⟩
    rintro e a2 W2 hp
    cases e with
    | normal =>
      obtain ⟨hk2, hbody⟩ := hp
      have hL2 : W2.heap[L]? = some (.loop (rec' .ready none)) := (hk2.block L hLlt id).trans h5
      have hL2lt : L < W2.heap.size := (Array.getElem?_eq_some_iff.1 hL2).1
      refine ⟨_, run_beginRound hL2 rfl, wpIn_mono (hbody _ ((Keeps.refl _ _).putObj (.inl (show oneB L L from rfl)) _) (by simp)) ?_⟩
      have hL3 : (W2.putObj L (.loop { rec' .ready none with state := .busy })).heap[L]? = some (.loop { rec' .ready none with state := .busy }) := World.putObj_heap_same hL2lt
      have hD3 : (W2.putObj L (.loop { rec' .ready none with state := .busy })).heap[w.heap.size]? = some (.deferred (some [])) :=
        (World.putObj_heap_other (by omega)).trans ((hk2.block _ (by omega) id).trans h6)
      have hs3 : (W2.putObj L (.loop { rec' .ready none with state := .busy })).heap.size = W2.heap.size := by simp
      have hk23 : Keeps (oneB L) W2 (W2.putObj L (.loop { rec' .ready none with state := .busy })) := (Keeps.refl _ _).putObj (.inl (show oneB L L from rfl)) _
      generalize W2.putObj L (.loop { rec' .ready none with state := .busy }) = W3 at hL3 hD3 hs3 hk23 ⊢
      have fin : ∀ (jump : Option Code) (own2 : Nat → Prop) (W4 : World), Owns own1 own2 W3 W4 →
          ∃ v W5, (Instr.endRound L jump).run P W4 = .ok v W5 ∧ v = .bool jump.isNone ∧ Owns ownJ (fun k => own2 k ∨ k = L ∨ k = w.heap.size) W W5 ∧
            Both (if jump.isNone then .ready else .done) jump (fun k => own2 k ∨ k = L ∨ k = w.heap.size) own2 W5 ∧ Keeps (fun k => lo ≤ k ∧ ¬ own2 k) W4 W5 := by
        intro jump own2 W4 ho
        have hn2 : ¬ own2 L := fun e => (ho.more L e).elim h3 (fun e => by omega)
        have hn2' : ¬ own2 w.heap.size := fun e => (ho.more _ e).elim h4 (fun e => by have := hk2.size; omega)
        have hL4 : W4.heap[L]? = some (.loop { rec' .ready none with state := .busy }) := (ho.keeps.block L (by omega) h3).trans hL3
        have hD4 : W4.heap[w.heap.size]? = some (.deferred (some [])) := (ho.keeps.block _ (by have := hk2.size; omega) h4).trans hD3
        have hL4lt : L < W4.heap.size := (Array.getElem?_eq_some_iff.1 hL4).1
        refine ⟨_, _, run_endRound jump hL4, rfl, ⟨?_, ?_, ?_⟩, ⟨fun k => Iff.rfl, ?_, hn2, hn2', ?_, ?_, ?_⟩, ?_⟩
        · rintro k (hk | rfl | rfl)
          · rcases ho.more k hk with h | h
            · exact .inl ((h1 k).2 (.inl h))
            · exact .inr (by have := hk2.size; omega)
          · exact .inl ((h1 _).2 (.inr (.inl rfl)))
          · exact .inl ((h1 _).2 (.inr (.inr rfl)))
        · rintro k (hk | rfl | rfl)
          · simpa using ho.lt k hk
          · simpa using hL4lt
          · have := ho.keeps.size; have := hk2.size; simp; omega
        · have hL' : ownJ L := (h1 L).2 (.inr (.inl rfl))
          refine (((hk2.mono (fun _ e => e.elim)).trans (hk23.mono (fun k e => by rw [show k = L from e]; exact hL'))).trans (ho.keeps.mono (fun k e => (h1 k).2 (.inl e)))).putObj (.inl hL') _
        · intro k hk; simpa using ho.lt k hk
        · rw [World.putObj_heap_same hL4lt]
        · exact (World.putObj_heap_other (by omega)).trans hD4
        · have := ho.keeps.size; have := hk2.size; simp; omega
        · exact (Keeps.refl _ _).putObj (.inl ⟨by omega, hn2⟩) _
      rintro e a3 W4 hp
      cases e with
      | normal =>
        obtain ⟨own2, ho, hi4⟩ := hp
        obtain ⟨v, W5, hr, hv, ho5, hb5, hk5⟩ := fin none own2 W4 ho
        exact ⟨v, W5, hr, _, ho5, .inl ⟨by rw [hv]; rfl, own2, hb5, hI _ _ _ _ hi4 hk5⟩⟩
      | ret =>
        obtain ⟨own2, ho, hi4⟩ := hp
        obtain ⟨v, W5, hr, hv, ho5, hb5, hk5⟩ := fin (some .ret) own2 W4 ho
        exact ⟨v, W5, hr, _, ho5, .inr ⟨by rw [hv]; rfl, _, own2, hb5, hIx _ _ _ _ _ hi4 hk5⟩⟩
      | exit id =>
        obtain ⟨own2, ho, hi4⟩ := hp
        obtain ⟨v, W5, hr, hv, ho5, hb5, hk5⟩ := fin (some (.exit id)) own2 W4 ho
        exact ⟨v, W5, hr, _, ho5, .inr ⟨by rw [hv]; rfl, _, own2, hb5, hIx _ _ _ _ _ hi4 hk5⟩⟩
      | goto t =>
        obtain ⟨own2, ho, hi4⟩ := hp
        obtain ⟨v, W5, hr, hv, ho5, hb5, hk5⟩ := fin (some (.goto t)) own2 W4 ho
        exact ⟨v, W5, hr, _, ho5, .inr ⟨by rw [hv]; rfl, _, own2, hb5, hIx _ _ _ _ _ hi4 hk5⟩⟩
      | panic ch => exact hp.elim
      | outgrown => exact hp.elim
    | exit id => exact hp.elim
    | goto t => exact hp.elim
    | ret => exact hp.elim
    | panic ch => exact hp.elim
    | outgrown => exact hp.elim
  · exact ⟨own, ⟨fun k => Iff.rfl, fun k hk => by have := hown k hk; omega, fun e => by have := hown L e; omega, fun e => by have := hown _ e; omega, hL1, hD1, Nat.le_refl _⟩,
      hI _ _ _ _ h0 (hk1.mono (fun _ e => e.elim))⟩
  · -- behind the iterator
    rintro e W2 ⟨v, ownJ, rfl, ho, hj⟩
    have fin : ∀ st pe own2, Both st pe ownJ own2 W2 → st ≠ .busy →
        (Instr.endLoop L).run P W2 = .ok pe (W2.putObj L (.loop { rec' st pe with state := .exhausted })) ∧ BehindL lo own own2 w (W2.putObj L (.loop { rec' st pe with state := .exhausted })) w.heap.size ∧
          Keeps (fun k => lo ≤ k ∧ ¬ own2 k) W2 (W2.putObj L (.loop { rec' st pe with state := .exhausted })) := by
      rintro st pe own2 ⟨h1, h2, h3, h4, h5, h6, h7⟩ hst
      refine ⟨run_endLoop h5 hst, ⟨⟨?_, ?_, ?_⟩, Nat.le_refl _, h4, (World.putObj_heap_other (by omega)).trans h6⟩, (Keeps.refl _ _).putObj (.inl ⟨by omega, h3⟩) _⟩
      · intro k hk
        rcases ho.more k ((h1 k).2 (.inl hk)) with (h | rfl | rfl) | h
        · exact .inl h
        · exact (h3 hk).elim
        · exact (h4 hk).elim
        · exact .inr (by omega)
      · intro k hk; simpa using h2 k hk
      · refine ((hk1.mono (fun _ e => e.elim)).transNew ho.keeps ?_).putObj (.inr (by omega)) _
        rintro i hi ((h | rfl | rfl) | h)
        · exact .inl h
        · omega
        · omega
        · exact .inr h
    rcases hj with ⟨own2, hb, hi⟩ | ⟨pre, post, hall, c, own2, hb, hi⟩
    · obtain ⟨hr, hbh, hk⟩ := fin _ _ _ hb (by simp)
      exact ⟨none, _, hr, hdone _ _ _ hbh (hI _ _ _ _ hi hk)⟩
    · obtain ⟨hr, hbh, hk⟩ := fin _ _ _ hb (by simp)
      exact ⟨some c, _, hr, hstop _ _ _ _ _ _ hbh hall (hIx _ _ _ _ _ hi hk)⟩


end Go.Proofs.YthgocacabadflaaDoor
