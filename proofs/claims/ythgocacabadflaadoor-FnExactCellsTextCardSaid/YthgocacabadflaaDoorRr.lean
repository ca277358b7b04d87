/-
  Ranging over functions where what is yielded lies in memory: as 'IterAt' and 'wp_range', but what a round is handed is told with the world in which it begins.
  What is alive behind each event, plain. copy as a step of a region that draws its order.
-/
import Derived.Test.YthgocacabadflaaDoorRa
import Derived.Laws.CopyOwn
namespace Go.Proofs.YthgocacabadflaaDoor
set_option linter.unusedVariables false
set_option linter.unusedSimpArgs false
open Go.RowKit

/-- What the rounds promise an iterator that yields 'all', one by one. -/
def RoundsW {α : Type} (P : Program) (l : Nat) (all : List α) (enc : α → Array Value → World → Prop) (J Jx : List α → (Nat → Prop) → World → Prop) : Prop :=
  ∀ m pre x post args own W, all = pre ++ x :: post → enc x args W → J pre own W → (∀ k, own k → k < W.heap.size) →
    YieldAt Fence.wide m P l args W (RoundEnds J Jx (pre ++ [x]) own W)

def IterAtW {α : Type} (P : Program) (gf : FuncId) (lb : Array Value) (all : List α) (enc : α → Array Value → World → Prop) (prot : Nat → Prop) (W : World) : Prop :=
  ∀ (l : Nat) (J Jx : List α → (Nat → Prop) → World → Prop) (own : Nat → Prop), Stab W.heap.size J → Stab W.heap.size Jx →
    (∀ k, own k → k < W.heap.size) → (∀ k, prot k → ¬ own k) → RoundsW P l all enc J Jx → J [] own W →
    ∀ n, CallsIn Fence.wide n P gf (#[.func (.yield l) #[] #[]] ++ lb) W (IterEnds J Jx all own W)

theorem wp_rangeW {α : Type} {F : Fence} (hF : F = Fence.wide) {n : Nat} {P : Program} {g : Operand} {ps : Array Tmp} {assign body : Code} {Q : Exit → Act → World → Prop} {a : Act} {w : World}
    {gf : Nat} {lb : Array Value} {all : List α} {enc : α → Array Value → World → Prop} {prot : Nat → Prop} {own : Nat → Prop}
    (hg : a.eval g = .func (.func gf) #[] lb) (eg : ∀ args w, (callFunc gf args).run P w = .ok (.enter gf args) w)
    (hiter : ∀ W, Keeps noB w W → IterAtW P gf lb all enc prot W)
    (I : List α → (Nat → Prop) → World → Prop) (Ix : Code → List α → (Nat → Prop) → World → Prop) (hI : Stab w.heap.size I) (hIx : ∀ c, Stab w.heap.size (Ix c))
    (hown : ∀ k, own k → k < w.heap.size) (hprot : ∀ k, prot k → ¬ own k ∧ k < w.heap.size) (hps : ∀ x args W, enc x args W → args.size = ps.size) (h0 : I [] own w)
    (hround : ∀ l m pre x post args own1 W1, all = pre ++ x :: post → enc x args W1 → I pre own1 W1 → (∀ k, own1 k → k < W1.heap.size) → w.heap.size ≤ l → ¬ own1 l → l < W1.heap.size → (∀ cs t fr, W1.heap[l]? ≠ some (.cells cs t fr)) →
      assign.wpIn (F.inRound l) m P (Exit.then (fun a2 W2 => Keeps noB W1 W2 ∧ ∀ W3, Keeps (oneB l) W2 W3 → W3.heap.size = W2.heap.size →
        body.wpIn (F.inRound l) m P (BodyEnds I Ix (pre ++ [x]) own1 W3) a2 W3) (fun _ _ _ => False))
        { tmps := (ps.zip args).foldl (fun t (p, v) => t.setIfInBounds p v) a.tmps, defers := [] } W1)
    (hdone : ∀ D own' W', Behind own own' w W' D → I all own' W' → Q .normal { a with defers := mark D :: a.defers } W')
    (hstop : ∀ D c pre post own' W', Behind own own' w W' D → all = pre ++ post → Ix c pre own' W' → c.wpIn F n P Q { a with defers := mark D :: a.defers } W') :
    (Code.rangeFunc g ps assign body).wpIn F n P Q a w := by
  subst hF
  refine wpIn_rangeFunc ?_
  intro fn hfn
  let rec' : LoopState → Option Code → Loop := fun st pe => { state := st, pending := pe, fn, tmps := a.tmps, params := ps, assign, body, defers := w.heap.size }
  obtain ⟨W1, hW1⟩ : ∃ W1, (w.alloc (.deferred (some []))).alloc (.loop (rec' .ready none)) = W1 := ⟨_, rfl⟩
  have hs1 : W1.heap.size = w.heap.size + 2 := by rw [← hW1]; simp
  have hk1 : Keeps noB w W1 := by rw [← hW1]; exact ((Keeps.refl _ _).alloc _).alloc _
  have hL1 : W1.heap[w.heap.size + 1]? = some (.loop (rec' .ready none)) := by
    rw [← hW1]; have := World.alloc_heap_new (w.alloc (.deferred (some []))) (.loop (rec' .ready none)); rwa [World.size_alloc] at this
  have hD1 : W1.heap[w.heap.size]? = some (.deferred (some [])) := by
    rw [← hW1]; exact (Below.heap_alloc _ _ _ (by simp)).trans (World.alloc_heap_new w _)
  refine ⟨w.heap.size + 1, [mark w.heap.size], W1, { target := .fn (.func gf) lb, args := #[.func (.yield (w.heap.size + 1)) #[] #[]] }, W1, gf,
    #[.func (.yield (w.heap.size + 1)) #[] #[]] ++ lb, W1, ?_, ?_, fun _ _ => trivial, ?_, fun h => by simp [Fence.wide] at h, ?_⟩
  · rw [← hW1]; exact run_enterLoop_outer _ _ _ _ _
  · simp only [resolve, hg]; simp [go_sem]
  · simp [invoke, go_sem, eg]
  obtain ⟨L, hL⟩ : ∃ L, L = w.heap.size + 1 := ⟨_, rfl⟩
  rw [← hL] at hL1 ⊢
  -- the rounds' side, the two blocks of book-keeping beside it
  let Both : LoopState → Option Code → (Nat → Prop) → (Nat → Prop) → World → Prop := fun st pe ownJ own1 W =>
    (∀ k, ownJ k ↔ own1 k ∨ k = L) ∧ (∀ k, own1 k → k < W.heap.size) ∧ ¬ own1 L ∧ ¬ own1 w.heap.size ∧ W.heap[L]? = some (.loop (rec' st pe)) ∧ W.heap[w.heap.size]? = some (.deferred (some [])) ∧ W1.heap.size ≤ W.heap.size
  let J : List α → (Nat → Prop) → World → Prop := fun pre ownJ W => ∃ own1, Both .ready none ownJ own1 W ∧ I pre own1 W
  let Jx : List α → (Nat → Prop) → World → Prop := fun pre ownJ W => ∃ c own1, Both .done (some c) ownJ own1 W ∧ Ix c pre own1 W
  have both_stab : ∀ st pe ownJ own1 W W', Both st pe ownJ own1 W → Keeps (fun k => W1.heap.size ≤ k ∧ ¬ ownJ k) W W' → Both st pe ownJ own1 W' ∧ Keeps (fun k => w.heap.size ≤ k ∧ ¬ own1 k) W W' := by
    rintro st pe ownJ own1 W W' ⟨h1, h2, h3, h4, h5, h6, h7⟩ hk
    have hlt : L < W.heap.size := (Array.getElem?_eq_some_iff.1 h5).1
    refine ⟨⟨h1, fun k hk' => Nat.lt_of_lt_of_le (h2 k hk') hk.size, h3, h4, ?_, ?_, Nat.le_trans h7 hk.size⟩, hk.mono fun k hk' => ⟨by omega, fun e => hk'.2 ((h1 k).2 (.inl e))⟩⟩
    · rw [hk.block L hlt (fun e => e.2 ((h1 L).2 (.inr rfl)))]; exact h5
    · rw [hk.block w.heap.size (by omega) (fun e => by have := e.1; omega)]; exact h6
  have hJ : Stab W1.heap.size J := by
    rintro pre ownJ W W' ⟨own1, hb, hi⟩ hk
    obtain ⟨hb', hk'⟩ := both_stab _ _ _ _ _ _ hb hk
    exact ⟨own1, hb', hI _ _ _ _ hi hk'⟩
  have hJx : Stab W1.heap.size Jx := by
    rintro pre ownJ W W' ⟨c, own1, hb, hi⟩ hk
    obtain ⟨hb', hk'⟩ := both_stab _ _ _ _ _ _ hb hk
    exact ⟨c, own1, hb', hIx c _ _ _ _ hi hk'⟩
  refine (hiter W1 hk1 L J Jx (fun k => own k ∨ k = L) hJ hJx ?_ ?_ ?_ ?_ _).mono ?_
  · rintro k (hk | rfl)
    · have := hown k hk; omega
    · omega
  · rintro k hk (h | rfl)
    · exact (hprot k hk).1 h
    · have := (hprot _ hk).2; omega
  · -- one round
    rintro m pre x post args ownJ W hall henc ⟨own1, ⟨h1, h2, h3, h4, h5, h6, h7⟩, hi⟩ hlt
    have hLlt : L < W.heap.size := (Array.getElem?_eq_some_iff.1 h5).1
    have hy := run_yield (P := P) (args := args) h5 (by rw [hps x args W henc])
    refine ⟨fn, _, assign, body, hy, roundIn_of_wpIn hfn (wpIn_mono (hround L m pre x post args own1 W hall henc hi h2 (by omega) h3 hLlt (fun cs t fr e => by rw [h5] at e; cases e)) ?_)⟩
    rintro e a2 W2 hp
    cases e with
    | normal =>
      obtain ⟨hk2, hbody⟩ := hp
      have hL2 : W2.heap[L]? = some (.loop (rec' .ready none)) := (hk2.block L hLlt id).trans h5
      have hL2lt : L < W2.heap.size := (Array.getElem?_eq_some_iff.1 hL2).1
      refine ⟨_, run_beginRound hL2 rfl, wpIn_mono (hbody _ ((Keeps.refl _ _).putObj (.inl (show oneB L L from rfl)) _) (by simp)) ?_⟩
      have hL3 : (W2.putObj L (.loop { rec' .ready none with state := .busy })).heap[L]? = some (.loop { rec' .ready none with state := .busy }) := World.putObj_heap_same hL2lt
      have hD3 : (W2.putObj L (.loop { rec' .ready none with state := .busy })).heap[w.heap.size]? = some (.deferred (some [])) :=
        (World.putObj_heap_other (by omega)).trans ((hk2.block _ (by omega) id).trans h6)
      have hs3 : (W2.putObj L (.loop { rec' .ready none with state := .busy })).heap.size = W2.heap.size := by simp
      have hk23 : Keeps (oneB L) W2 (W2.putObj L (.loop { rec' .ready none with state := .busy })) := (Keeps.refl _ _).putObj (.inl (show oneB L L from rfl)) _
      generalize W2.putObj L (.loop { rec' .ready none with state := .busy }) = W3 at hL3 hD3 hs3 hk23 ⊢
      have fin : ∀ (jump : Option Code) (own2 : Nat → Prop) (W4 : World), Owns own1 own2 W3 W4 →
          ∃ v W5, (Instr.endRound L jump).run P W4 = .ok v W5 ∧ v = .bool jump.isNone ∧ Owns ownJ (fun k => own2 k ∨ k = L) W W5 ∧
            Both (if jump.isNone then .ready else .done) jump (fun k => own2 k ∨ k = L) own2 W5 ∧ Keeps (fun k => w.heap.size ≤ k ∧ ¬ own2 k) W4 W5 := by
        intro jump own2 W4 ho
        have hn2 : ¬ own2 L := fun e => (ho.more L e).elim h3 (fun e => by omega)
        have hn2' : ¬ own2 w.heap.size := fun e => (ho.more _ e).elim h4 (fun e => by have := hk2.size; omega)
        have hL4 : W4.heap[L]? = some (.loop { rec' .ready none with state := .busy }) := (ho.keeps.block L (by omega) h3).trans hL3
        have hD4 : W4.heap[w.heap.size]? = some (.deferred (some [])) := (ho.keeps.block _ (by have := hk2.size; omega) h4).trans hD3
        have hL4lt : L < W4.heap.size := (Array.getElem?_eq_some_iff.1 hL4).1
        refine ⟨_, _, run_endRound jump hL4, rfl, ⟨?_, ?_, ?_⟩, ⟨fun k => Iff.rfl, ?_, hn2, hn2', ?_, ?_, ?_⟩, ?_⟩
        · rintro k (hk | rfl)
          · rcases ho.more k hk with h | h
            · exact .inl ((h1 k).2 (.inl h))
            · exact .inr (by have := hk2.size; omega)
          · exact .inl ((h1 _).2 (.inr rfl))
        · rintro k (hk | rfl)
          · simpa using ho.lt k hk
          · simpa using hL4lt
        · have hL' : ownJ L := (h1 L).2 (.inr rfl)
          refine (((hk2.mono (fun _ e => e.elim)).trans (hk23.mono (fun k e => by rw [show k = L from e]; exact hL'))).trans (ho.keeps.mono (fun k e => (h1 k).2 (.inl e)))).putObj (.inl hL') _
        · intro k hk; simpa using ho.lt k hk
        · rw [World.putObj_heap_same hL4lt]
        · exact (World.putObj_heap_other (by omega)).trans hD4
        · have := ho.keeps.size; have := hk2.size; simp; omega
        · exact (Keeps.refl _ _).putObj (.inl ⟨by omega, hn2⟩) _
      rintro e a3 W4 hp
      cases e with
      | normal =>
        obtain ⟨own2, ho, hi4⟩ := hp
        obtain ⟨v, W5, hr, hv, ho5, hb5, hk5⟩ := fin none own2 W4 ho
        exact ⟨v, W5, hr, _, ho5, .inl ⟨by rw [hv]; rfl, own2, hb5, hI _ _ _ _ hi4 hk5⟩⟩
      | ret =>
        obtain ⟨own2, ho, hi4⟩ := hp
        obtain ⟨v, W5, hr, hv, ho5, hb5, hk5⟩ := fin (some .ret) own2 W4 ho
        exact ⟨v, W5, hr, _, ho5, .inr ⟨by rw [hv]; rfl, _, own2, hb5, hIx _ _ _ _ _ hi4 hk5⟩⟩
      | exit id =>
        obtain ⟨own2, ho, hi4⟩ := hp
        obtain ⟨v, W5, hr, hv, ho5, hb5, hk5⟩ := fin (some (.exit id)) own2 W4 ho
        exact ⟨v, W5, hr, _, ho5, .inr ⟨by rw [hv]; rfl, _, own2, hb5, hIx _ _ _ _ _ hi4 hk5⟩⟩
      | goto t =>
        obtain ⟨own2, ho, hi4⟩ := hp
        obtain ⟨v, W5, hr, hv, ho5, hb5, hk5⟩ := fin (some (.goto t)) own2 W4 ho
        exact ⟨v, W5, hr, _, ho5, .inr ⟨by rw [hv]; rfl, _, own2, hb5, hIx _ _ _ _ _ hi4 hk5⟩⟩
      | panic ch => exact hp.elim
      | outgrown => exact hp.elim
    | exit id => exact hp.elim
    | goto t => exact hp.elim
    | ret => exact hp.elim
    | panic ch => exact hp.elim
    | outgrown => exact hp.elim
  · exact ⟨own, ⟨fun k => Iff.rfl, fun k hk => by have := hown k hk; omega, fun e => by have := hown L e; omega, fun e => by have := hown _ e; omega, hL1, hD1, Nat.le_refl _⟩,
      hI _ _ _ _ h0 (hk1.mono (fun _ e => e.elim))⟩
  · -- behind the iterator
    rintro e W2 ⟨v, ownJ, rfl, ho, hj⟩
    have fin : ∀ st pe own2, Both st pe ownJ own2 W2 → st ≠ .busy →
        (Instr.endLoop L).run P W2 = .ok pe (W2.putObj L (.loop { rec' st pe with state := .exhausted })) ∧ Behind own own2 w (W2.putObj L (.loop { rec' st pe with state := .exhausted })) w.heap.size ∧
          Keeps (fun k => w.heap.size ≤ k ∧ ¬ own2 k) W2 (W2.putObj L (.loop { rec' st pe with state := .exhausted })) := by
      rintro st pe own2 ⟨h1, h2, h3, h4, h5, h6, h7⟩ hst
      refine ⟨run_endLoop h5 hst, ⟨⟨?_, ?_, ?_⟩, Nat.le_refl _, h4, (World.putObj_heap_other (by omega)).trans h6⟩, (Keeps.refl _ _).putObj (.inl ⟨by omega, h3⟩) _⟩
      · intro k hk
        rcases ho.more k ((h1 k).2 (.inl hk)) with (h | rfl) | h
        · exact .inl h
        · exact (h3 hk).elim
        · exact .inr (by omega)
      · intro k hk; simpa using h2 k hk
      · refine ((hk1.mono (fun _ e => e.elim)).transNew ho.keeps ?_).putObj (.inr (by omega)) _
        rintro i hi (h | rfl)
        · exact h
        · omega
    rcases hj with ⟨own2, hb, hi⟩ | ⟨pre, post, hall, c, own2, hb, hi⟩
    · obtain ⟨hr, hbh, hk⟩ := fin _ _ _ hb (by simp)
      exact ⟨none, _, hr, hdone _ _ _ hbh (hI _ _ _ _ hi hk)⟩
    · obtain ⟨hr, hbh, hk⟩ := fin _ _ _ hb (by simp)
      exact ⟨some c, _, hr, hstop _ _ _ _ _ _ hbh hall (hIx _ _ _ _ _ hi hk)⟩


/-! ### what is alive behind each event -/
def behindL (l : List Ev) : List (Nat × List Nat) := (List.range l.length).map (fun i => (i, aliveL (l.take (i + 1))))
theorem behindL_len (l : List Ev) : (behindL l).length = l.length := by simp [behindL]
theorem behindL_get {l : List Ev} {i : Nat} (h : i < l.length) : (behindL l)[i]? = some (i, aliveL (l.take (i + 1))) := by simp [behindL, h]
theorem behindL_cut {l : List Ev} {i : Nat} (h : i < l.length) : behindL l = (behindL l).take i ++ (i, aliveL (l.take (i + 1))) :: (behindL l).drop (i + 1) := by
  have hi : i < (behindL l).length := by rw [behindL_len]; exact h
  have e := behindL_get h
  rw [List.getElem?_eq_getElem hi] at e
  rw [← Option.some.inj e, ← List.drop_eq_getElem_cons hi, List.take_append_drop]
theorem behindL_next {l : List Ev} {i : Nat} (h : i < l.length) : (behindL l).take i ++ [(i, aliveL (l.take (i + 1)))] = (behindL l).take (i + 1) := by
  rw [show (behindL l).take (i + 1) = (behindL l).take i ++ (behindL l)[i]?.toList from List.take_add_one, behindL_get h]; rfl
theorem alive_take {l : List Ev} {i : Nat} {e : Ev} (h : l[i]? = some e) : aliveL (l.take (i + 1)) = aliveStep (aliveL (l.take i)) e := by
  rw [List.take_add_one, h]
  show aliveL (l.take i ++ [e]) = _
  rw [aliveL_snoc]

/-- One of them out. -/
theorem out_at : ∀ (A : List Nat) (k n : Nat), A.Pairwise (· < ·) → A[k]? = some n → A.filter (fun m => decide (m ≠ n)) = A.take k ++ A.drop (k + 1)
  | [], k, n, _, h => by simp at h
  | a :: r, 0, n, hp, h => by
    have hp := List.pairwise_cons.1 hp
    have : a = n := by simpa using h
    subst this
    rw [List.filter_cons_of_neg (by simp)]
    show _ = r
    exact List.filter_eq_self.2 (fun b hb => by have := hp.1 b hb; simp; omega)
  | a :: r, k + 1, n, hp, h => by
    have hp := List.pairwise_cons.1 hp
    have h : r[k]? = some n := by simpa using h
    have hm := hp.1 n (List.mem_of_getElem? h)
    rw [List.filter_cons_of_pos (by simp; omega), out_at r k n hp.2 h]
    rfl

/-- copy as one step of a region that draws, into a block that is known whole: no other block turns. -/
theorem step_copy_keeps {P : Program} {ops : Array Oper} {o : Oper} {a : Act} {w : World} {K : Act → World → Prop} {Q : Exit → Act → World → Prop} {E : Prop} (hgd : o.guard = none) (d s : Operand) (dT sT : TypeId)
    (ho : o.op = .call { callee := .builtin .copy, args := #[d, s], argTypes := #[dT, sT] }) (elem : TypeId) (hu : P.underlying dT = some (.slice elem)) (hsz : (P.info? elem).map (·.size) = some 1)
    (dp sp : Option Addr) (dLen dCap sLen sCap : Nat) (hd : a.eval d = .slice dp dLen dCap) (hs : a.eval s = .slice sp sLen sCap)
    (g off : Nat) (cur : List Value) (t : TypeId) (hg : Blk w g cur.toArray t) (cs : List Value) (hn : cs.length = Nat.min sLen dLen)
    (hpos : 0 < cs.length → dp = some ⟨g, off, none⟩ ∧ ∃ ad, sp = some ad ∧ ∀ j v, cs[j]? = some v → w.cell? (ad.add j) = some v)
    (hfit : off + cs.length ≤ cur.length) (h1 : ∀ v ∈ cs, v.oneCell' = true)
    (h : ∀ w', Blk w' g (splice cur off cs).toArray t → Keeps (oneB g) w w' → w'.heap.size = w.heap.size → K (a.put o.dst (goInt cs.length)) w') :
    if Region.wanted o (yielded ops a.tmps) = true then Oper.wp P o a w K Q else E := by
  have hw : Region.wanted o (yielded ops a.tmps) = true := by simp [Region.wanted, hgd]
  rw [if_pos hw]
  by_cases h0 : cs.length = 0
  · obtain rfl : cs = [] := List.eq_nil_of_length_eq_zero h0
    have hrun := run_copy_none (P := P) w dT sT o.type elem dp sp dLen dCap sLen sCap hu hsz (by simpa using hn.symm)
    unfold Oper.wp
    simp [execOp, ho, resolve, invoke, builtin, hd, hs, hrun, Result.andThen]
    exact h w (by simpa [splice] using hg) (Keeps.refl _ _) rfl
  · obtain ⟨rfl, ad, rfl, hsrc⟩ := hpos (by omega)
    have hrun := run_copy_row (P := P) w dT sT o.type elem g off dLen dCap ad sLen sCap cur.toArray t cs hu hsz hg hn hsrc (by simpa using hfit) h1
    unfold Oper.wp
    simp [execOp, ho, resolve, invoke, builtin, hd, hs, hrun, Result.andThen]
    exact h _ (show _ = _ by simpa [splice] using setRow_heap w g _ _ t _ hg) ⟨rfl, rfl, rfl, by simp [World.setRow], fun k _ hk => setRow_other w g k _ (fun e => hk e)⟩ (by simp [World.setRow])

/-- The same as the first step of a list of steps. -/
theorem wpList_copy_keeps {P : Program} {w : World} {ops : Array Oper} {rest : List Oper} {o : Oper} {a : Act} {Q : Exit → Act → World → Prop} (hgd : o.guard = none) (d s : Operand) (dT sT : TypeId)
    (ho : o.op = .call { callee := .builtin .copy, args := #[d, s], argTypes := #[dT, sT] }) (elem : TypeId) (hu : P.underlying dT = some (.slice elem)) (hsz : (P.info? elem).map (·.size) = some 1)
    (dp sp : Option Addr) (dLen dCap sLen sCap : Nat) (hd : a.eval d = .slice dp dLen dCap) (hs : a.eval s = .slice sp sLen sCap)
    (g off : Nat) (cur : List Value) (t : TypeId) (hg : Blk w g cur.toArray t) (cs : List Value) (hn : cs.length = Nat.min sLen dLen)
    (hpos : 0 < cs.length → dp = some ⟨g, off, none⟩ ∧ ∃ ad, sp = some ad ∧ ∀ j v, cs[j]? = some v → w.cell? (ad.add j) = some v)
    (hfit : off + cs.length ≤ cur.length) (h1 : ∀ v ∈ cs, v.oneCell' = true)
    (h : ∀ w', Blk w' g (splice cur off cs).toArray t → Keeps (oneB g) w w' → w'.heap.size = w.heap.size → wpList P ops Q rest (a.put o.dst (goInt cs.length)) w') : wpList P ops Q (o :: rest) a w := by
  by_cases h0 : cs.length = 0
  · obtain rfl : cs = [] := List.eq_nil_of_length_eq_zero h0
    exact wpList_copy_nothing hgd d s dT sT ho elem hu hsz dp sp dLen dCap sLen sCap hd hs (by simpa using hn.symm) (h w (by simpa [splice] using hg) (Keeps.refl _ _) rfl)
  · obtain ⟨rfl, ad, rfl, hsrc⟩ := hpos (by omega)
    refine wpList_copy_own hgd d s dT sT ho elem hu hsz g off dLen dCap ad sLen sCap hd hs cur.toArray t hg cs hn hsrc (by simpa using hfit) h1 ?_
    exact h _ (show _ = _ by simpa [splice] using setRow_heap w g _ _ t _ hg) ⟨rfl, rfl, rfl, by simp [World.setRow], fun k _ hk => setRow_other w g k _ (fun e => hk e)⟩ (by simp [World.setRow])

end Go.Proofs.YthgocacabadflaaDoor
