/-
  A region that draws its order, within a round of a range over a function: where its operations only read and its callees only read, one walk in the text's order serves.
  A region that draws its order, within a round of a range over a function: some operations that only read, and behind all of them a tail in one forced order.
-/
import Derived.Sort.BigQuietIn
import Derived.RangeFuncCalls
import Derived.StillTail
import Derived.OwnWalkIn
namespace Go.Proofs.YtkfcgamdlckncaaGreat
set_option linter.unusedVariables false
set_option linter.unusedSimpArgs false

/-- No operation defers. -/
def noDefer (ops : Array Oper) : Bool := ops.all fun o => match o.op with | .defer _ => false | _ => true

theorem noDefer_get {ops : Array Oper} (h : noDefer ops = true) {i : Nat} {o : Oper} (hi : ops[i]? = some o) : ∀ c, o.op ≠ .defer c := by
  intro c hc
  obtain ⟨hlt, rfl⟩ := Array.getElem?_eq_some_iff.1 hi
  have := (Array.all_eq_true.1 h) i hlt
  rw [hc] at this
  cases this

theorem uponIn_round {F : Fence} {n : Nat} {P : Program} {o : Oper} {a : Act} {K : Act → World → Prop} {Q : Exit → Act → World → Prop} (L : Nat) (r : Result Next) (h : o.uponIn F n P a K Q r) : o.uponIn (F.inRound L) n P a K Q r := by
  unfold Oper.uponIn at *
  split at h <;> first | exact h | (split <;> first | exact h | (exfalso; exact h))

theorem wpIn_oper_round {F : Fence} {n : Nat} {P : Program} {o : Oper} {a : Act} {w : World} {K : Act → World → Prop} {Q : Exit → Act → World → Prop} (L : Nat) (hro : F.round = none) (hd : ∀ c, o.op ≠ .defer c) (h : o.wpIn F n P a w K Q) : o.wpIn (F.inRound L) n P a w K Q := by
  obtain ⟨h1, h2⟩ := h
  refine ⟨h1, ?_⟩
  rw [hro, Oper.semAt_none] at h2
  rw [Fence.inRound_round, Oper.semAt_eq _ _ _ hd]
  exact uponIn_round L _ h2

theorem wpAnyIn_round {F : Fence} {n : Nat} {P : Program} {md : Region.Mode} {ops : Array Oper} {Q : Exit → Act → World → Prop} (L : Nat) (hro : F.round = none) (hd : noDefer ops = true) :
    ∀ (fuel : Nat) (listed : Array Bool) (a : Act) (w : World), wpAnyIn F n P md ops Q fuel listed a w → wpAnyIn (F.inRound L) n P md ops Q fuel listed a w
  | 0, _, _, _, h => h
  | fuel + 1, listed, a, w, h => by
    refine ⟨h.1, fun i hi => ?_⟩
    have h2 := h.2 i hi
    unfold wpOpIn at h2 ⊢
    cases ho : ops[i]? with
    | none => simp only [ho] at h2 ⊢; exact wpAnyIn_round L hro hd fuel _ a w h2
    | some o =>
      simp only [ho] at h2 ⊢
      split
      · rename_i hw
        rw [if_pos hw] at h2
        exact wpIn_oper_round L hro (noDefer_get hd ho) (Oper.wpIn_mono (fun a w => wpAnyIn_round L hro hd fuel _ a w) h2)
      · rename_i hw
        rw [if_neg hw] at h2
        exact ⟨h2.1, wpAnyIn_round L hro hd fuel _ _ _ h2.2⟩

theorem wpIn_region_quiet_round {F : Fence} {n : Nat} {P : Program} {id : Nat} {Q : Exit → Act → World → Prop} {a : Act} {w : World} {l : List Oper} {L : Nat} (hro : F.round = none) (hd : noDefer l.toArray = true)
    (hm : P.follows .mixedOrders = true) (hB : Region.lexB .any l.toArray = true)
    (h : wpQuietIn F n P l.toArray (fun w' => ∃ n, w' = w.drewN n) (fun a' => ∀ w', (∃ n, w' = w.drewN n) → Q .normal a' w') l a) : (Code.region id l.toArray true).wpIn (F.inRound L) n P Q a w := by
  simp only [Region.lexB, Bool.and_eq_true] at hB
  refine wpIn_region_any hm (wpAnyIn_round L hro hd _ _ _ _ (wpAnyIn_of_quiet (C := fun w' => ∃ n, w' = w.drewN n) (Q := fun a' => ∀ w', (∃ n, w' = w.drewN n) → Q .normal a' w') hro (fun _ w' hw' h => h w' hw') _ _ _ _ ⟨1, rfl⟩ ?_))
  have := wpAnyQIn_lex (F := F) (n := n) (C := fun w' => ∃ n, w' = w.drewN n) (md := .any) hB.1 l 0 (Array.replicate l.length false) a (by simp) (by simpa using hB.2) h
  simpa using this

end Go.Proofs.YtkfcgamdlckncaaGreat

namespace Go.Proofs.YtkfcgamdlckncaaGreat
set_option linter.unusedVariables false
set_option linter.unusedSimpArgs false

/-- No operation is guarded. -/
def noGuard (ops : Array Oper) : Bool := ops.all fun o => o.guard.isNone

theorem noGuard_get {ops : Array Oper} (h : noGuard ops = true) {i : Nat} {o : Oper} (hi : ops[i]? = some o) : o.guard = none := by
  obtain ⟨hlt, rfl⟩ := Array.getElem?_eq_some_iff.1 hi
  have := (Array.all_eq_true.1 h) i hlt
  simpa using this

/-- Every list of n truths. -/
def bools : Nat → List (List Bool)
  | 0 => [[]]
  | n + 1 => (bools n).map (true :: ·) ++ (bools n).map (false :: ·)

theorem mem_bools : ∀ l : List Bool, l ∈ bools l.length
  | [] => by simp [bools]
  | b :: r => by
    have := mem_bools r
    cases b <;> simp [bools, this]

/-- While some of the first n operations have not come up, just those may come up that may among these n alone, and some may. -/
def headB (md : Region.Mode) (l : List Oper) (n : Nat) : Bool :=
  (bools n).all fun bs => bs.all id ||
    (decide (Region.ready md l.toArray (bs.toArray ++ Array.replicate (l.length - n) false) = Region.ready md (l.take n).toArray bs.toArray) && !(Region.ready md (l.take n).toArray bs.toArray).isEmpty)

theorem count_set : ∀ (bs : List Bool) (i : Nat), bs[i]? = some false → ((bs.set i true).filter (!·)).length + 1 = (bs.filter (!·)).length
  | [], i, h => by simp at h
  | b :: r, 0, h => by
    simp at h
    subst h
    simp
  | b :: r, i + 1, h => by
    have := count_set r i (by simpa using h)
    cases b <;> simp [List.set] <;> omega

theorem all_of_none : ∀ (bs : List Bool), (bs.filter (!·)).length = 0 → bs = List.replicate bs.length true
  | [], _ => rfl
  | b :: r, h => by
    cases b with
    | true => simp at h; rw [List.length_cons, List.replicate_succ, ← all_of_none r (by simpa using h)]
    | false => simp at h

theorem not_all_of_some : ∀ (bs : List Bool), (bs.filter (!·)).length ≠ 0 → bs.all id = false
  | [], h => by simp at h
  | b :: r, h => by
    cases b with
    | true => simp at h; simp; have := not_all_of_some r (by simpa using h); simpa using this
    | false => simp

theorem wpAnyIn_seq {F : Fence} {n : Nat} {P : Program} {md : Region.Mode} {ops : Array Oper} {Q : Exit → Act → World → Prop} : ∀ (l : List Oper) (k : Nat) (listed : Array Bool) (a : Act) (w : World), (∀ j, l[j]? = ops[k + j]?) →
    Region.seqB md ops l.length k listed = true → wpListIn F n P ops Q l a w → wpAnyIn F n P md ops Q l.length listed a w
  | [], k, listed, a, w, _, hB, h => ⟨by simpa [Region.seqB] using hB, h⟩
  | o :: l, k, listed, a, w, hl, hB, h => by
    have h0 : ops[k]? = some o := (by simpa using hl 0 : some o = ops[k]?).symm
    simp only [List.length_cons, Region.seqB, Bool.and_eq_true, decide_eq_true_eq] at hB
    refine ⟨fun h1 => (by rw [hB.1] at h1; cases h1), fun i hi => ?_⟩
    rw [hB.1, List.mem_singleton] at hi
    subst hi
    refine wpOpIn_mono (K := wpListIn F n P ops Q l) (fun a' w' h' => wpAnyIn_seq l (i + 1) _ a' w' (fun j => ?_) hB.2 h') ?_
    · have := hl (j + 1)
      rw [List.getElem?_cons_succ] at this
      rw [this]; congr 1; omega
    · unfold wpOpIn; simp only [h0]; exact h

theorem wpAnyIn_head {F : Fence} {n : Nat} {P : Program} {md : Region.Mode} {l : List Oper} {C : World → Prop} {Qa : Act → Prop} {Qx : Exit → Act → World → Prop} {L n0 : Nat} (hro : F.round = none) (hd : noDefer l.toArray = true) (hg : noGuard l.toArray = true)
    (hH : headB md l n0 = true) (hn0 : n0 ≤ l.length)
    (htail : ∀ a w, C w → Qa a → wpAnyIn (F.inRound L) n P md l.toArray Qx (l.length - n0) ((List.replicate n0 true).toArray ++ Array.replicate (l.length - n0) false) a w) :
    ∀ (fuel : Nat) (bs : List Bool) (a : Act) (w : World), bs.length = n0 → (bs.filter (!·)).length = fuel → C w → wpAnyQIn F n P md (l.take n0).toArray C Qa fuel bs.toArray a →
      wpAnyIn (F.inRound L) n P md l.toArray Qx (fuel + (l.length - n0)) (bs.toArray ++ Array.replicate (l.length - n0) false) a w
  | 0, bs, a, w, hb, hc, hw, h => by
    rw [Nat.zero_add]
    have e := all_of_none bs hc
    rw [hb] at e
    rw [e]
    exact htail a w hw h.2
  | fuel + 1, bs, a, w, hb, hc, hw, h => by
    rw [show fuel + 1 + (l.length - n0) = (fuel + (l.length - n0)) + 1 by omega]
    have h1 := (List.all_eq_true.1 hH) bs (by rw [← hb]; exact mem_bools bs)
    rw [not_all_of_some bs (by omega), Bool.false_or, Bool.and_eq_true, decide_eq_true_eq] at h1
    obtain ⟨e, hne⟩ := h1
    refine ⟨fun h0 => ?_, fun i hi => ?_⟩
    · rw [e] at h0
      rw [h0] at hne
      cases hne
    · rw [e] at hi
      have hq := h.2 i hi
      obtain ⟨hun, oi, hoi, _⟩ := mem_ready.1 hi
      have hilt : i < n0 := by
        have := (Array.getElem?_eq_some_iff.1 hoi).1
        simp at this; omega
      have hbi : bs[i]? = some false := by
        have hl : i < bs.length := by omega
        rw [List.getElem?_eq_getElem hl]
        simpa [hl] using hun
      have hol : l.toArray[i]? = some oi := by
        rw [List.getElem?_toArray] at hoi ⊢
        rw [List.getElem?_take] at hoi
        rwa [if_pos hilt] at hoi
      have hcs := count_set bs i hbi
      have h2 : wpOpIn F n P (l.take n0).toArray Qx i (fun a' w' => wpAnyIn (F.inRound L) n P md l.toArray Qx (fuel + (l.length - n0)) ((bs.set i true).toArray ++ Array.replicate (l.length - n0) false) a' w') a w :=
        wpOpIn_of_qOpIn hro hw (fun a' w' hw' hk => wpAnyIn_head hro hd hg hH hn0 htail fuel (bs.set i true) a' w' (by simpa using hb) (by omega) hw' (by simpa using hk)) hq
      have e2 : (bs.toArray ++ Array.replicate (l.length - n0) false).setIfInBounds i true = (bs.set i true).toArray ++ Array.replicate (l.length - n0) false := by
        apply Array.ext'
        simp [List.set_append, hb, hilt]
      rw [e2]
      have hgo := noGuard_get hg hol
      unfold wpOpIn at h2 ⊢
      simp only [hoi, hol, Region.wanted, hgo, if_true] at h2 ⊢
      exact wpIn_oper_round L hro (noDefer_get hd hol) h2

theorem wpIn_region_tail_round {F : Fence} {n : Nat} {P : Program} {id : Nat} {Qx : Exit → Act → World → Prop} {a : Act} {w : World} {l : List Oper} {L : Nat} (n0 : Nat) (hro : F.round = none) (hd : noDefer l.toArray = true) (hg : noGuard l.toArray = true)
    (hm : P.follows .mixedOrders = true) (hB : Region.lexB .any (l.take n0).toArray = true) (hH : headB .any l n0 = true)
    (hS : Region.seqB .any l.toArray (l.length - n0) n0 ((List.replicate n0 true).toArray ++ Array.replicate (l.length - n0) false) = true) (hn0 : n0 ≤ l.length)
    (h : wpQuietIn F n P (l.take n0).toArray (fun w' => ∃ n, w' = w.drewN n) (fun a' => ∀ w', (∃ n, w' = w.drewN n) → wpListIn (F.inRound L) n P l.toArray Qx (l.drop n0) a' w') (l.take n0) a) :
    (Code.region id l.toArray true).wpIn (F.inRound L) n P Qx a w := by
  simp only [Region.lexB, Bool.and_eq_true] at hB
  have htl : (l.take n0).length = n0 := by simp; omega
  have h1 := wpAnyQIn_lex (F := F) (n := n) (C := fun w' => ∃ n, w' = w.drewN n) (md := .any) hB.1 (l.take n0) 0 (Array.replicate n0 false) a (by simp) (by have := hB.2; simpa [htl] using this) h
  rw [htl] at h1
  have h2 := wpAnyIn_head (F := F) (n := n) (P := P) (C := fun w' => ∃ n, w' = w.drewN n) (Qa := fun a' => ∀ w', (∃ n, w' = w.drewN n) → wpListIn (F.inRound L) n P l.toArray Qx (l.drop n0) a' w') (L := L) (Qx := Qx) (md := .any) hro hd hg hH hn0 (fun a' w' hw' hq => by
    have h3 := wpAnyIn_seq (md := .any) (F := F.inRound L) (n := n) (P := P) (ops := l.toArray) (Q := Qx) (l.drop n0) n0 ((List.replicate n0 true).toArray ++ Array.replicate (l.length - n0) false) a' w' (fun j => by simp [List.getElem?_drop]) (by rw [List.length_drop]; exact hS) (hq w' hw')
    rwa [List.length_drop] at h3) n0 (List.replicate n0 false) a { w with drawn := w.drawn + 1 } (by simp) (by simp) ⟨1, rfl⟩ (by simpa using h1)
  refine wpIn_region_any hm ?_
  have e3 : (List.replicate n0 false).toArray ++ Array.replicate (l.length - n0) false = Array.replicate l.toArray.size false := by
    apply Array.ext'
    simp [List.replicate_append_replicate, Nat.add_sub_cancel' hn0]
  rw [e3, Nat.add_sub_cancel' hn0] at h2
  simpa using h2

/-- append, where its run is known. -/
theorem wpListIn_append_run {F : Fence} {n : Nat} {P : Program} (w : World) {ops : Array Oper} {rest : List Oper} {o : Oper} {a : Act} {Q : Exit → Act → World → Prop} (hgd : o.guard = none) (s x : Operand) (t tn : TypeId)
    (ho : o.op = .call { callee := .builtin .append, args := #[s, x], argTypes := #[t, tn] }) (vs vx : Value) (hs : a.eval s = vs) (hx : a.eval x = vx)
    (v' : Value) (w' : World) (hr : (Builtin.append_ #[t, tn] o.type #[vs, vx]).run P w = .ok v' w') (h : wpListIn F n P ops Q rest (a.put o.dst v') w') : wpListIn F n P ops Q (o :: rest) a w := by
  refine wpListIn_plain hgd fun K hK => ?_
  unfold Oper.wpIn
  refine ⟨?_, ?_⟩
  · simp [Oper.about, ho, resolve, Target.leads, Sem.run_pure]
  · rw [Oper.semAt_plain F _ _ (by rw [ho]; intro c hc; cases hc)]
    simp [execOp, ho, resolve, invoke, builtin, hs, hx, hr, Result.andThen]
    exact hK _ _ h

/-- append as one step of a region that draws, where its run is known. -/
theorem stepIn_append_run {F : Fence} {n : Nat} {P : Program} {ops : Array Oper} {o : Oper} {a : Act} {w : World} {K : Act → World → Prop} {Q : Exit → Act → World → Prop} {E : Prop} (hgd : o.guard = none) (s x : Operand) (t tn : TypeId)
    (ho : o.op = .call { callee := .builtin .append, args := #[s, x], argTypes := #[t, tn] }) (vs vx : Value) (hs : a.eval s = vs) (hx : a.eval x = vx)
    (v' : Value) (w' : World) (hr : (Builtin.append_ #[t, tn] o.type #[vs, vx]).run P w = .ok v' w') (h : K (a.put o.dst v') w') :
    if Region.wanted o (yielded ops a.tmps) = true then Oper.wpIn F n P o a w K Q else E := by
  have hw : Region.wanted o (yielded ops a.tmps) = true := by simp [Region.wanted, hgd]
  rw [if_pos hw]
  unfold Oper.wpIn
  refine ⟨?_, ?_⟩
  · simp [Oper.about, ho, resolve, Target.leads, Sem.run_pure]
  · rw [Oper.semAt_plain F _ _ (by rw [ho]; intro c hc; cases hc)]
    simp [execOp, ho, resolve, invoke, builtin, hs, hx, hr, Result.andThen]
    exact h

end Go.Proofs.YtkfcgamdlckncaaGreat
