/-
  A region within a round, or in a plain frame, whose tail waits for all the rest, at a class of worlds of one's own.
-/
import Derived.Test.YthgocacabadflaaDoorRtW
import Derived.Test.YthgocacabadflaaDoorMm
namespace Go.Proofs.YthgocacabadflaaDoor
set_option linter.unusedVariables false
set_option linter.unusedSimpArgs false
open Go.RowKit

/-- Whatever has come up, what it waits for has. -/
def closedB (md : Region.Mode) (l : List Oper) (bs : List Bool) : Bool :=
  (List.range bs.length).all fun i => !bs.getD i false || ((l[i]?).map (fun o => o.after.all fun e => !Region.binds md e || bs.getD e.on false)).getD true

/-- As 'headB', but for what can come up alone. -/
def headC (md : Region.Mode) (l : List Oper) (n : Nat) : Bool :=
  (bools n).all fun bs => bs.all id || !closedB md l bs ||
    (decide (Region.ready md l.toArray (bs.toArray ++ Array.replicate (l.length - n) false) = Region.ready md (l.take n).toArray bs.toArray) && !(Region.ready md (l.take n).toArray bs.toArray).isEmpty)

theorem getD_set_true {bs : List Bool} {i j : Nat} (h : bs.getD j false = true) : (bs.set i true).getD j false = true := by
  rw [List.getD_eq_getElem?_getD] at h ⊢
  by_cases e : i = j
  · subst e
    have hl : i < bs.length := by
      rcases Nat.lt_or_ge i bs.length with hl | hl
      · exact hl
      · rw [List.getElem?_eq_none hl] at h; cases h
    rw [List.getElem?_set_self hl]; rfl
  · rw [List.getElem?_set_ne e]; exact h

theorem closedB_set {md : Region.Mode} {l : List Oper} {bs : List Bool} {i : Nat} {o : Oper} (h : closedB md l bs = true) (ho : l[i]? = some o) (ha : ∀ e ∈ o.after, Region.binds md e = true → bs.getD e.on false = true) : closedB md l (bs.set i true) = true := by
  unfold closedB at h ⊢
  rw [List.all_eq_true] at h ⊢
  intro j hj
  rw [List.length_set] at hj
  have hh := h j hj
  by_cases e : i = j
  · subst e
    rw [ho]
    have : (o.after.all fun e => !Region.binds md e || (bs.set i true).getD e.on false) = true := by
      rw [Array.all_eq_true']
      intro e he
      cases hb : Region.binds md e with
      | false => rfl
      | true => simp only [Bool.not_true, Bool.false_or]; exact getD_set_true (ha e he hb)
    simp only [Option.map, Option.getD, this, Bool.or_true]
  · cases hb : bs.getD j false with
    | false =>
      have : (bs.set i true).getD j false = false := by
        rw [List.getD_eq_getElem?_getD] at hb ⊢
        rw [List.getElem?_set_ne e]; exact hb
      rw [this]; rfl
    | true =>
      rw [hb] at hh
      simp only [Bool.not_true, Bool.false_or] at hh
      cases hl : l[j]? with
      | none => simp [Option.map, Option.getD]
      | some oj =>
        rw [hl] at hh
        simp only [Option.map, Option.getD] at hh ⊢
        rw [Array.all_eq_true'] at hh
        have : (oj.after.all fun e => !Region.binds md e || (bs.set i true).getD e.on false) = true := by
          rw [Array.all_eq_true']
          intro e he
          have := hh e he
          cases hbb : Region.binds md e with
          | false => rfl
          | true =>
            rw [hbb] at this
            simp only [Bool.not_true, Bool.false_or] at this ⊢
            exact getD_set_true this
        rw [this, Bool.or_true]

theorem wpAnyIn_headC {F : Fence} {n : Nat} {P : Program} {md : Region.Mode} {l : List Oper} {C : World → Prop} {Qa : Act → Prop} {Qx : Exit → Act → World → Prop} {L n0 : Nat} (hro : F.round = none) (hd : noDefer l.toArray = true) (hg : noGuard l.toArray = true)
    (hH : headC md l n0 = true) (hn0 : n0 ≤ l.length)
    (htail : ∀ a w, C w → Qa a → wpAnyIn (F.inRound L) n P md l.toArray Qx (l.length - n0) ((List.replicate n0 true).toArray ++ Array.replicate (l.length - n0) false) a w) :
    ∀ (fuel : Nat) (bs : List Bool) (a : Act) (w : World), bs.length = n0 → closedB md l bs = true → (bs.filter (!·)).length = fuel → C w → wpAnyQIn F n P md (l.take n0).toArray C Qa fuel bs.toArray a →
      wpAnyIn (F.inRound L) n P md l.toArray Qx (fuel + (l.length - n0)) (bs.toArray ++ Array.replicate (l.length - n0) false) a w
  | 0, bs, a, w, hb, hcl, hc, hw, h => by
    rw [Nat.zero_add]
    have e := all_of_none bs hc
    rw [hb] at e
    rw [e]
    exact htail a w hw h.2
  | fuel + 1, bs, a, w, hb, hcl, hc, hw, h => by
    rw [show fuel + 1 + (l.length - n0) = (fuel + (l.length - n0)) + 1 by omega]
    have h1 := (List.all_eq_true.1 hH) bs (by rw [← hb]; exact mem_bools bs)
    rw [not_all_of_some bs (by omega), hcl, Bool.not_true, Bool.or_false, Bool.false_or, Bool.and_eq_true, decide_eq_true_eq] at h1
    obtain ⟨e, hne⟩ := h1
    refine ⟨fun h0 => ?_, fun i hi => ?_⟩
    · rw [e] at h0
      rw [h0] at hne
      cases hne
    · rw [e] at hi
      have hq := h.2 i hi
      obtain ⟨hun, oi, hoi, haf⟩ := mem_ready.1 hi
      have hilt : i < n0 := by
        have := (Array.getElem?_eq_some_iff.1 hoi).1
        simp at this; omega
      have hbi : bs[i]? = some false := by
        have hl : i < bs.length := by omega
        rw [List.getElem?_eq_getElem hl]
        simpa [hl] using hun
      have hol : l.toArray[i]? = some oi := by
        rw [List.getElem?_toArray] at hoi ⊢
        rw [List.getElem?_take] at hoi
        rwa [if_pos hilt] at hoi
      have hcs := count_set bs i hbi
      have hcl2 : closedB md l (bs.set i true) = true := closedB_set hcl (by rwa [List.getElem?_toArray] at hol) (fun e he hb => by
        have := haf e he hb
        rw [Array.getD_eq_getD_getElem?, List.getElem?_toArray] at this
        rw [List.getD_eq_getElem?_getD]; exact this)
      have h2 : wpOpIn F n P (l.take n0).toArray Qx i (fun a' w' => wpAnyIn (F.inRound L) n P md l.toArray Qx (fuel + (l.length - n0)) ((bs.set i true).toArray ++ Array.replicate (l.length - n0) false) a' w') a w :=
        wpOpIn_of_qOpIn hro hw (fun a' w' hw' hk => wpAnyIn_headC hro hd hg hH hn0 htail fuel (bs.set i true) a' w' (by simpa using hb) hcl2 (by omega) hw' (by simpa using hk)) hq
      have e2 : (bs.toArray ++ Array.replicate (l.length - n0) false).setIfInBounds i true = (bs.set i true).toArray ++ Array.replicate (l.length - n0) false := by
        apply Array.ext'
        simp [List.set_append, hb, hilt]
      rw [e2]
      have hgo := noGuard_get hg hol
      unfold wpOpIn at h2 ⊢
      simp only [hoi, hol, Region.wanted, hgo, if_true] at h2 ⊢
      exact wpIn_oper_round L hro (noDefer_get hd hol) h2

theorem wpIn_region_tail_class {F : Fence} {n : Nat} {P : Program} {id : Nat} {Qx : Exit → Act → World → Prop} {a : Act} {w : World} {l : List Oper} {L : Nat} (C : World → Prop) (n0 : Nat) (hro : F.round = none) (hd : noDefer l.toArray = true) (hg : noGuard l.toArray = true)
    (hm : P.follows .mixedOrders = true) (hB : Region.lexB .any (l.take n0).toArray = true) (hH : headC .any l n0 = true)
    (hS : Region.seqB .any l.toArray (l.length - n0) n0 ((List.replicate n0 true).toArray ++ Array.replicate (l.length - n0) false) = true) (hn0 : n0 ≤ l.length) (hcl : closedB .any l (List.replicate n0 false) = true) (hC : C { w with drawn := w.drawn + 1 })
    (h : wpQuietIn F n P (l.take n0).toArray C (fun a' => ∀ w', C w' → wpListIn (F.inRound L) n P l.toArray Qx (l.drop n0) a' w') (l.take n0) a) :
    (Code.region id l.toArray true).wpIn (F.inRound L) n P Qx a w := by
  simp only [Region.lexB, Bool.and_eq_true] at hB
  have htl : (l.take n0).length = n0 := by simp; omega
  have h1 := wpAnyQIn_lex (F := F) (n := n) (C := C) (md := .any) hB.1 (l.take n0) 0 (Array.replicate n0 false) a (by simp) (by have := hB.2; simpa [htl] using this) h
  rw [htl] at h1
  have h2 := wpAnyIn_headC (F := F) (n := n) (P := P) (C := C) (Qa := fun a' => ∀ w', C w' → wpListIn (F.inRound L) n P l.toArray Qx (l.drop n0) a' w') (L := L) (Qx := Qx) (md := .any) hro hd hg hH hn0 (fun a' w' hw' hq => by
    have h3 := wpAnyIn_seq (md := .any) (F := F.inRound L) (n := n) (P := P) (ops := l.toArray) (Q := Qx) (l.drop n0) n0 ((List.replicate n0 true).toArray ++ Array.replicate (l.length - n0) false) a' w' (fun j => by simp [List.getElem?_drop]) (by rw [List.length_drop]; exact hS) (hq w' hw')
    rwa [List.length_drop] at h3) n0 (List.replicate n0 false) a { w with drawn := w.drawn + 1 } (by simp) hcl (by simp) hC (by simpa using h1)
  refine wpIn_region_any hm ?_
  have e3 : (List.replicate n0 false).toArray ++ Array.replicate (l.length - n0) false = Array.replicate l.toArray.size false := by
    apply Array.ext'
    simp [List.replicate_append_replicate, Nat.add_sub_cancel' hn0]
  rw [e3, Nat.add_sub_cancel' hn0] at h2
  simpa using h2

/-- One quiet operation, its value at hand. -/
theorem quiet_at {F : Fence} {n : Nat} {P : Program} {ops : Array Oper} {C : World → Prop} {Q : Act → Prop} {a : Act} {o : Oper} {rest : List Oper} (v : Value) (ha : o.askedIn F P a C) (hg : o.guard = none) (h : ∀ W, C W → o.quietAtIn F n P a C W v)
    (hk : wpQuietIn F n P ops C Q rest (a.put o.dst v)) : wpQuietIn F n P ops C Q (o :: rest) a := by
  refine ⟨ha, ?_⟩
  rw [if_pos (by simp [Region.wanted, hg])]
  exact ⟨v, h, hk⟩

/-- .. and what follows behind a variable. -/
theorem quiet_on {F : Fence} {n : Nat} {P : Program} {ops : Array Oper} {C : World → Prop} {Q : Act → Prop} {a : Act} {o : Oper} {rest : List Oper} (v : Value) (ha : o.askedIn F P a C) (hg : o.guard = none) (h : ∀ W, C W → o.quietAtIn F n P a C W v)
    (hk : ∀ K : Act → Prop, (∀ a, wpQuietIn F n P ops C Q rest a → K a) → K (a.put o.dst v)) : wpQuietIn F n P ops C Q (o :: rest) a :=
  quiet_at v ha hg h (hk _ (fun _ h => h))

theorem wpAnyIn_headP {F : Fence} {n : Nat} {P : Program} {md : Region.Mode} {l : List Oper} {C : World → Prop} {Qa : Act → Prop} {Qx : Exit → Act → World → Prop} {n0 : Nat} (hro : F.round = none) (hd : noDefer l.toArray = true) (hg : noGuard l.toArray = true)
    (hH : headC md l n0 = true) (hn0 : n0 ≤ l.length)
    (htail : ∀ a w, C w → Qa a → wpAnyIn F n P md l.toArray Qx (l.length - n0) ((List.replicate n0 true).toArray ++ Array.replicate (l.length - n0) false) a w) :
    ∀ (fuel : Nat) (bs : List Bool) (a : Act) (w : World), bs.length = n0 → closedB md l bs = true → (bs.filter (!·)).length = fuel → C w → wpAnyQIn F n P md (l.take n0).toArray C Qa fuel bs.toArray a →
      wpAnyIn F n P md l.toArray Qx (fuel + (l.length - n0)) (bs.toArray ++ Array.replicate (l.length - n0) false) a w
  | 0, bs, a, w, hb, hcl, hc, hw, h => by
    rw [Nat.zero_add]
    have e := all_of_none bs hc
    rw [hb] at e
    rw [e]
    exact htail a w hw h.2
  | fuel + 1, bs, a, w, hb, hcl, hc, hw, h => by
    rw [show fuel + 1 + (l.length - n0) = (fuel + (l.length - n0)) + 1 by omega]
    have h1 := (List.all_eq_true.1 hH) bs (by rw [← hb]; exact mem_bools bs)
    rw [not_all_of_some bs (by omega), hcl, Bool.not_true, Bool.or_false, Bool.false_or, Bool.and_eq_true, decide_eq_true_eq] at h1
    obtain ⟨e, hne⟩ := h1
    refine ⟨fun h0 => ?_, fun i hi => ?_⟩
    · rw [e] at h0
      rw [h0] at hne
      cases hne
    · rw [e] at hi
      have hq := h.2 i hi
      obtain ⟨hun, oi, hoi, haf⟩ := mem_ready.1 hi
      have hilt : i < n0 := by
        have := (Array.getElem?_eq_some_iff.1 hoi).1
        simp at this; omega
      have hbi : bs[i]? = some false := by
        have hl : i < bs.length := by omega
        rw [List.getElem?_eq_getElem hl]
        simpa [hl] using hun
      have hol : l.toArray[i]? = some oi := by
        rw [List.getElem?_toArray] at hoi ⊢
        rw [List.getElem?_take] at hoi
        rwa [if_pos hilt] at hoi
      have hcs := count_set bs i hbi
      have hcl2 : closedB md l (bs.set i true) = true := closedB_set hcl (by rwa [List.getElem?_toArray] at hol) (fun e he hb => by
        have := haf e he hb
        rw [Array.getD_eq_getD_getElem?, List.getElem?_toArray] at this
        rw [List.getD_eq_getElem?_getD]; exact this)
      have h2 : wpOpIn F n P (l.take n0).toArray Qx i (fun a' w' => wpAnyIn F n P md l.toArray Qx (fuel + (l.length - n0)) ((bs.set i true).toArray ++ Array.replicate (l.length - n0) false) a' w') a w :=
        wpOpIn_of_qOpIn hro hw (fun a' w' hw' hk => wpAnyIn_headP hro hd hg hH hn0 htail fuel (bs.set i true) a' w' (by simpa using hb) hcl2 (by omega) hw' (by simpa using hk)) hq
      have e2 : (bs.toArray ++ Array.replicate (l.length - n0) false).setIfInBounds i true = (bs.set i true).toArray ++ Array.replicate (l.length - n0) false := by
        apply Array.ext'
        simp [List.set_append, hb, hilt]
      rw [e2]
      have hgo := noGuard_get hg hol
      unfold wpOpIn at h2 ⊢
      simp only [hoi, hol, Region.wanted, hgo, if_true] at h2 ⊢
      exact h2

theorem wpIn_region_tail_plain {F : Fence} {n : Nat} {P : Program} {id : Nat} {Qx : Exit → Act → World → Prop} {a : Act} {w : World} {l : List Oper} (C : World → Prop) (n0 : Nat) (hro : F.round = none) (hd : noDefer l.toArray = true) (hg : noGuard l.toArray = true)
    (hm : P.follows .mixedOrders = true) (hB : Region.lexB .any (l.take n0).toArray = true) (hH : headC .any l n0 = true)
    (hS : Region.seqB .any l.toArray (l.length - n0) n0 ((List.replicate n0 true).toArray ++ Array.replicate (l.length - n0) false) = true) (hn0 : n0 ≤ l.length) (hcl : closedB .any l (List.replicate n0 false) = true) (hC : C { w with drawn := w.drawn + 1 })
    (h : wpQuietIn F n P (l.take n0).toArray C (fun a' => ∀ w', C w' → wpListIn F n P l.toArray Qx (l.drop n0) a' w') (l.take n0) a) :
    (Code.region id l.toArray true).wpIn F n P Qx a w := by
  simp only [Region.lexB, Bool.and_eq_true] at hB
  have htl : (l.take n0).length = n0 := by simp; omega
  have h1 := wpAnyQIn_lex (F := F) (n := n) (C := C) (md := .any) hB.1 (l.take n0) 0 (Array.replicate n0 false) a (by simp) (by have := hB.2; simpa [htl] using this) h
  rw [htl] at h1
  have h2 := wpAnyIn_headP (F := F) (n := n) (P := P) (C := C) (Qa := fun a' => ∀ w', C w' → wpListIn F n P l.toArray Qx (l.drop n0) a' w') (Qx := Qx) (md := .any) hro hd hg hH hn0 (fun a' w' hw' hq => by
    have h3 := wpAnyIn_seq (md := .any) (F := F) (n := n) (P := P) (ops := l.toArray) (Q := Qx) (l.drop n0) n0 ((List.replicate n0 true).toArray ++ Array.replicate (l.length - n0) false) a' w' (fun j => by simp [List.getElem?_drop]) (by rw [List.length_drop]; exact hS) (hq w' hw')
    rwa [List.length_drop] at h3) n0 (List.replicate n0 false) a { w with drawn := w.drawn + 1 } (by simp) hcl (by simp) hC (by simpa using h1)
  refine wpIn_region_any hm ?_
  have e3 : (List.replicate n0 false).toArray ++ Array.replicate (l.length - n0) false = Array.replicate l.toArray.size false := by
    apply Array.ext'
    simp [List.replicate_append_replicate, Nat.add_sub_cancel' hn0]
  rw [e3, Nat.add_sub_cancel' hn0] at h2
  simpa using h2

end Go.Proofs.YthgocacabadflaaDoor
