/-
  Lists of places that a range over a function gathers in a box; a region within a round whose tail waits for all the rest, at a class of worlds of one's own.
  A region that draws its order, in a plain frame: operations that keep a class of worlds, and behind all of them a tail in one forced order.
-/
import Derived.Test.YtkfcgamdlckncaaGreatRtW
import Derived.Test.YtkfcgamdlckncaaGreatMemW
import Derived.Test.YtkfcgamdlckncaaGreatScW
import Derived.Test.YtkfcgamdlckncaaGreatPkW
import Derived.Test.YtkfcgamdlckncaaGreatIjW
namespace Go.Proofs.YtkfcgamdlckncaaGreat
set_option linter.unusedVariables false
set_option linter.unusedSimpArgs false
open Go.RowKit Go.Shelf

theorem Tryz.infoI3 : (Tryz.prog.info? 3).map (fun i => (i.zero, i.size, i.bytes)) = some (some (.int .i64 0), 1, 8) := by kernel_rfl

/-- A list of places, or none, and whether. -/
def NumsPost (w : World) (res : Option (List Nat)) (e : Ending) (w' : World) : Prop :=
  ∃ v b xs, e = .returned (.tuple #[v, .bool b]) ∧ Row w' (fromB w.heap.size) 3 1 v xs.length xs ∧ Keeps noB w w' ∧ b = res.isSome ∧
    xs = match res with | none => [] | some l => l.map fun k => i64 k

/-- What a loop has gathered in the box N. -/
def ListI (N : Nat) (w2 : World) (l : List Nat) (own : Nat → Prop) (W' : World) : Prop :=
  Owns (oneB N) own w2 W' ∧ own N ∧ ∃ a c, Blk W' N #[.slice a l.length c] 31 ∧ W'.ownsRow 0 3 1 (.slice a l.length c) l.length (l.map fun k => i64 k) ∧ ∀ g, (Value.slice a l.length c).ownBlock = some g → own g ∧ w2.heap.size ≤ g

theorem ListI.stab {N : Nat} {w2 : World} (hN : N < w2.heap.size) {l : List Nat} {own : Nat → Prop} {W W' : World} (h : ListI N w2 l own W) (q : Keeps (fun k => w2.heap.size ≤ k ∧ ¬ own k) W W') : ListI N w2 l own W' := by
  obtain ⟨h1, h2, a, c, h3, h4, h5⟩ := h
  exact ⟨h1.ahead q (fun i e => e.1), h2, a, c, q.blk h3 (fun e => by have := e.1; omega), q.ownsRow h4 (fun g hg hl e => e.2 (h5 g hg).1), h5⟩

theorem ListI.start {N : Nat} {w2 : World} (b : Blk w2 N #[.slice none 0 0] 31) : ListI N w2 [] (oneB N) w2 :=
  ⟨Owns.refl (by rintro k rfl; exact b.lt), rfl, none, 0, b, ⟨rfl, .inl ⟨rfl, rfl⟩⟩, fun g hg => by simp [Value.ownBlock] at hg⟩

/-- One place more. -/
theorem ListI.more {N : Nat} {w2 W3 : World} {l : List Nat} {own1 : Nat → Prop} (hN : N < w2.heap.size) (h : ListI N w2 l own1 W3) (hl : l.length ≤ 200) (b : Nat) :
    ∃ a c, W3.cell? ⟨N, 0, none⟩ = some (.slice a l.length c) ∧ (W3.alloc (.cells #[.int .i64 (b : Int)] 3)).cell? ⟨N, 0, none⟩ = some (.slice a l.length c) ∧
      ∃ a' c' w', (Builtin.append_ #[31, 31] 31 #[.slice a l.length c, .slice (some ⟨W3.heap.size, 0, none⟩) 1 1]).run Tryz.prog (W3.alloc (.cells #[.int .i64 (b : Int)] 3)) = .ok (.slice a' (l.length + 1) c') w' ∧
        w'.frozen? ⟨N, 0, none⟩ = false ∧ w'.cell? ⟨N, 0, none⟩ = some (.slice a l.length c) ∧ ∃ own', Owns own1 own' W3 (w'.setCell ⟨N, 0, none⟩ (.slice a' (l.length + 1) c')) ∧ ListI N w2 (l ++ [b]) own' (w'.setCell ⟨N, 0, none⟩ (.slice a' (l.length + 1) c')) := by
  obtain ⟨k3, hoN, a3, c3, d3, d4, d5⟩ := h
  obtain ⟨i0, hi, hz0, hz1, hz2⟩ := info_parts Tryz.infoI3
  refine ⟨a3, c3, (d3.cell 0).trans rfl, ((d3.alloc _).cell 0).trans rfl, ?_⟩
  have d4' : (W3.alloc (.cells #[.int .i64 (b : Int)] 3)).ownsRow 0 3 1 (.slice a3 l.length c3) l.length (l.map fun k => i64 k) :=
    ((Keeps.refl noB W3).alloc _).ownsRow d4 (fun _ _ _ => id)
  obtain ⟨v', w', hr, ho', hg', hfr⟩ := run_append_fresh (P := Tryz.prog) (W3.alloc (.cells #[.int .i64 (b : Int)] 3)) 31 31 3 i0 (.int .i64 0) 1 8 Tryz.underlying31 hi hz0 hz1 hz2 rfl (by omega)
    (.slice a3 l.length c3) l.length _ d4' ⟨W3.heap.size, 0, none⟩ 1 1 [.int .i64 (b : Int)] rfl (cells_one W3 _ _) (fun u hu => by simp at hu; subst hu; rfl) (by unfold maxLen; omega) (by omega)
  have hNl : N < W3.heap.size := d3.lt
  have hs3 := k3.keeps.size
  have hNw : w'.heap[N]? = W3.heap[N]? := (hg'.block N (by simp; omega) (fun e => by have := (d5 N e.symm).2; omega)).trans (Below.heap_alloc _ _ _ hNl)
  have b4 : Blk w' N #[.slice a3 l.length c3] 31 := hNw.trans d3
  obtain ⟨a', c', rfl⟩ := row_shape (ok := fun _ => True) ⟨ho', fun _ _ => trivial⟩
  refine ⟨a', c', w', hr, b4.free 0, (b4.cell 0).trans rfl, ?_⟩
  have hkA : Keeps own1 W3 w' := ((Keeps.refl _ W3).alloc _).grown hg' (fun k e => .inl (d5 k e).1)
  have hkB : Keeps own1 W3 (w'.setCell ⟨N, 0, none⟩ (.slice a' (l.length + 1) c')) := hkA.setCell (.inl hoN) _
  have hnew : ∀ k, (Value.slice a' (l.length + 1) c').ownBlock = some k → (own1 k ∨ W3.heap.size ≤ k) ∧ w2.heap.size ≤ k := by
    intro k hk
    rcases hfr with e | e
    · have := d5 k (e.symm.trans hk); exact ⟨.inl this.1, this.2⟩
    · have := e k hk; simp at this; exact ⟨.inr (by omega), by omega⟩
  have hk : Owns own1 (fun k => own1 k ∨ (Value.slice a' (l.length + 1) c').ownBlock = some k) W3 (w'.setCell ⟨N, 0, none⟩ (.slice a' (l.length + 1) c')) := by
    refine ⟨fun k e => e.elim .inl (fun e => (hnew k e).1), fun k e => ?_, hkB⟩
    rcases e with e | e
    · exact Nat.lt_of_lt_of_le (k3.lt k e) hkB.size
    · simpa [World.setCell] using (ho'.lt k e).2
  refine ⟨_, hk, k3.trans hk, .inl hoN, a', c', ?_, ?_, ?_⟩
  · have e := b4.set 0 (.slice a' (l.length + 1) c')
    rw [List.length_append]
    simpa using e
  · have e := ((Keeps.refl (oneB N) w').setCell (p := ⟨N, 0, none⟩) (.inl rfl) (.slice a' (l.length + 1) c')).ownsRow ho' (fun k hk hl e => by have : k = N := e; have := (hnew k hk).2; omega)
    rw [List.length_append, List.map_append]
    exact e
  · intro k hk
    rw [List.length_append] at hk
    exact ⟨.inr hk, (hnew k hk).2⟩

/-- What is behind the loop. -/
theorem ListI.post {N D : Nat} {w w2 W' W2 : World} {l : List Nat} {own own' : Nat → Prop} (h : ListI N w2 l own' W') (hb : Behind own own' w2 W' D) (hww : Keeps noB w w2) (hN : w.heap.size ≤ N) (q : Keeps (fun k => k ∈ [D]) W' W2) :
    ∃ a c, W'.cell? ⟨N, 0, none⟩ = some (.slice a l.length c) ∧ NumsPost w (some l) (.returned (.tuple #[.slice a l.length c, .bool true])) W2 := by
  obtain ⟨h3, hoN, a, c, h4, h5, h6⟩ := h
  refine ⟨a, c, (h4.cell 0).trans rfl, ?_⟩
  have hs1 := hww.size
  have hnew := hb.new
  have k2 : Keeps noB w W' := hww.transNew h3.keeps (fun i hi e => by have : i = N := e; omega)
  refine ⟨_, true, l.map (fun k => i64 k), rfl, ⟨?_, fun g hg => ?_⟩, k2.transNew q (fun i hi e => by simp at e; omega), rfl, rfl⟩
  · rw [List.length_map]
    exact q.ownsRow h5 (fun g hg hl e => by simp at e; subst e; exact hb.free (h6 g hg).1)
  · have := (h6 g hg).2; show w.heap.size ≤ g; omega

/-- Whatever has come up, what it waits for has. -/
def closedB (md : Region.Mode) (l : List Oper) (bs : List Bool) : Bool :=
  (List.range bs.length).all fun i => !bs.getD i false || ((l[i]?).map (fun o => o.after.all fun e => !Region.binds md e || bs.getD e.on false)).getD true

/-- As 'headB', but for what can come up alone. -/
def headC (md : Region.Mode) (l : List Oper) (n : Nat) : Bool :=
  (bools n).all fun bs => bs.all id || !closedB md l bs ||
    (decide (Region.ready md l.toArray (bs.toArray ++ Array.replicate (l.length - n) false) = Region.ready md (l.take n).toArray bs.toArray) && !(Region.ready md (l.take n).toArray bs.toArray).isEmpty)

theorem getD_set_true {bs : List Bool} {i j : Nat} (h : bs.getD j false = true) : (bs.set i true).getD j false = true := by
  rw [List.getD_eq_getElem?_getD] at h ⊢
  by_cases e : i = j
  · subst e
    have hl : i < bs.length := by
      rcases Nat.lt_or_ge i bs.length with hl | hl
      · exact hl
      · rw [List.getElem?_eq_none hl] at h; cases h
    rw [List.getElem?_set_self hl]; rfl
  · rw [List.getElem?_set_ne e]; exact h

theorem closedB_set {md : Region.Mode} {l : List Oper} {bs : List Bool} {i : Nat} {o : Oper} (h : closedB md l bs = true) (ho : l[i]? = some o) (ha : ∀ e ∈ o.after, Region.binds md e = true → bs.getD e.on false = true) : closedB md l (bs.set i true) = true := by
  unfold closedB at h ⊢
  rw [List.all_eq_true] at h ⊢
  intro j hj
  rw [List.length_set] at hj
  have hh := h j hj
  by_cases e : i = j
  · subst e
    rw [ho]
    have : (o.after.all fun e => !Region.binds md e || (bs.set i true).getD e.on false) = true := by
      rw [Array.all_eq_true']
      intro e he
      cases hb : Region.binds md e with
      | false => rfl
      | true => simp only [Bool.not_true, Bool.false_or]; exact getD_set_true (ha e he hb)
    simp only [Option.map, Option.getD, this, Bool.or_true]
  · cases hb : bs.getD j false with
    | false =>
      have : (bs.set i true).getD j false = false := by
        rw [List.getD_eq_getElem?_getD] at hb ⊢
        rw [List.getElem?_set_ne e]; exact hb
      rw [this]; rfl
    | true =>
      rw [hb] at hh
      simp only [Bool.not_true, Bool.false_or] at hh
      cases hl : l[j]? with
      | none => simp [Option.map, Option.getD]
      | some oj =>
        rw [hl] at hh
        simp only [Option.map, Option.getD] at hh ⊢
        rw [Array.all_eq_true'] at hh
        have : (oj.after.all fun e => !Region.binds md e || (bs.set i true).getD e.on false) = true := by
          rw [Array.all_eq_true']
          intro e he
          have := hh e he
          cases hbb : Region.binds md e with
          | false => rfl
          | true =>
            rw [hbb] at this
            simp only [Bool.not_true, Bool.false_or] at this ⊢
            exact getD_set_true this
        rw [this, Bool.or_true]

theorem wpAnyIn_headC {F : Fence} {n : Nat} {P : Program} {md : Region.Mode} {l : List Oper} {C : World → Prop} {Qa : Act → Prop} {Qx : Exit → Act → World → Prop} {L n0 : Nat} (hro : F.round = none) (hd : noDefer l.toArray = true) (hg : noGuard l.toArray = true)
    (hH : headC md l n0 = true) (hn0 : n0 ≤ l.length)
    (htail : ∀ a w, C w → Qa a → wpAnyIn (F.inRound L) n P md l.toArray Qx (l.length - n0) ((List.replicate n0 true).toArray ++ Array.replicate (l.length - n0) false) a w) :
    ∀ (fuel : Nat) (bs : List Bool) (a : Act) (w : World), bs.length = n0 → closedB md l bs = true → (bs.filter (!·)).length = fuel → C w → wpAnyQIn F n P md (l.take n0).toArray C Qa fuel bs.toArray a →
      wpAnyIn (F.inRound L) n P md l.toArray Qx (fuel + (l.length - n0)) (bs.toArray ++ Array.replicate (l.length - n0) false) a w
  | 0, bs, a, w, hb, hcl, hc, hw, h => by
    rw [Nat.zero_add]
    have e := all_of_none bs hc
    rw [hb] at e
    rw [e]
    exact htail a w hw h.2
  | fuel + 1, bs, a, w, hb, hcl, hc, hw, h => by
    rw [show fuel + 1 + (l.length - n0) = (fuel + (l.length - n0)) + 1 by omega]
    have h1 := (List.all_eq_true.1 hH) bs (by rw [← hb]; exact mem_bools bs)
    rw [not_all_of_some bs (by omega), hcl, Bool.not_true, Bool.or_false, Bool.false_or, Bool.and_eq_true, decide_eq_true_eq] at h1
    obtain ⟨e, hne⟩ := h1
    refine ⟨fun h0 => ?_, fun i hi => ?_⟩
    · rw [e] at h0
      rw [h0] at hne
      cases hne
    · rw [e] at hi
      have hq := h.2 i hi
      obtain ⟨hun, oi, hoi, haf⟩ := mem_ready.1 hi
      have hilt : i < n0 := by
        have := (Array.getElem?_eq_some_iff.1 hoi).1
        simp at this; omega
      have hbi : bs[i]? = some false := by
        have hl : i < bs.length := by omega
        rw [List.getElem?_eq_getElem hl]
        simpa [hl] using hun
      have hol : l.toArray[i]? = some oi := by
        rw [List.getElem?_toArray] at hoi ⊢
        rw [List.getElem?_take] at hoi
        rwa [if_pos hilt] at hoi
      have hcs := count_set bs i hbi
      have hcl2 : closedB md l (bs.set i true) = true := closedB_set hcl (by rwa [List.getElem?_toArray] at hol) (fun e he hb => by
        have := haf e he hb
        rw [Array.getD_eq_getD_getElem?, List.getElem?_toArray] at this
        rw [List.getD_eq_getElem?_getD]; exact this)
      have h2 : wpOpIn F n P (l.take n0).toArray Qx i (fun a' w' => wpAnyIn (F.inRound L) n P md l.toArray Qx (fuel + (l.length - n0)) ((bs.set i true).toArray ++ Array.replicate (l.length - n0) false) a' w') a w :=
        wpOpIn_of_qOpIn hro hw (fun a' w' hw' hk => wpAnyIn_headC hro hd hg hH hn0 htail fuel (bs.set i true) a' w' (by simpa using hb) hcl2 (by omega) hw' (by simpa using hk)) hq
      have e2 : (bs.toArray ++ Array.replicate (l.length - n0) false).setIfInBounds i true = (bs.set i true).toArray ++ Array.replicate (l.length - n0) false := by
        apply Array.ext'
        simp [List.set_append, hb, hilt]
      rw [e2]
      have hgo := noGuard_get hg hol
      unfold wpOpIn at h2 ⊢
      simp only [hoi, hol, Region.wanted, hgo, if_true] at h2 ⊢
      exact wpIn_oper_round L hro (noDefer_get hd hol) h2

theorem wpIn_region_tail_class {F : Fence} {n : Nat} {P : Program} {id : Nat} {Qx : Exit → Act → World → Prop} {a : Act} {w : World} {l : List Oper} {L : Nat} (C : World → Prop) (n0 : Nat) (hro : F.round = none) (hd : noDefer l.toArray = true) (hg : noGuard l.toArray = true)
    (hm : P.follows .mixedOrders = true) (hB : Region.lexB .any (l.take n0).toArray = true) (hH : headC .any l n0 = true)
    (hS : Region.seqB .any l.toArray (l.length - n0) n0 ((List.replicate n0 true).toArray ++ Array.replicate (l.length - n0) false) = true) (hn0 : n0 ≤ l.length) (hcl : closedB .any l (List.replicate n0 false) = true) (hC : C { w with drawn := w.drawn + 1 })
    (h : wpQuietIn F n P (l.take n0).toArray C (fun a' => ∀ w', C w' → wpListIn (F.inRound L) n P l.toArray Qx (l.drop n0) a' w') (l.take n0) a) :
    (Code.region id l.toArray true).wpIn (F.inRound L) n P Qx a w := by
  simp only [Region.lexB, Bool.and_eq_true] at hB
  have htl : (l.take n0).length = n0 := by simp; omega
  have h1 := wpAnyQIn_lex (F := F) (n := n) (C := C) (md := .any) hB.1 (l.take n0) 0 (Array.replicate n0 false) a (by simp) (by have := hB.2; simpa [htl] using this) h
  rw [htl] at h1
  have h2 := wpAnyIn_headC (F := F) (n := n) (P := P) (C := C) (Qa := fun a' => ∀ w', C w' → wpListIn (F.inRound L) n P l.toArray Qx (l.drop n0) a' w') (L := L) (Qx := Qx) (md := .any) hro hd hg hH hn0 (fun a' w' hw' hq => by
    have h3 := wpAnyIn_seq (md := .any) (F := F.inRound L) (n := n) (P := P) (ops := l.toArray) (Q := Qx) (l.drop n0) n0 ((List.replicate n0 true).toArray ++ Array.replicate (l.length - n0) false) a' w' (fun j => by simp [List.getElem?_drop]) (by rw [List.length_drop]; exact hS) (hq w' hw')
    rwa [List.length_drop] at h3) n0 (List.replicate n0 false) a { w with drawn := w.drawn + 1 } (by simp) hcl (by simp) hC (by simpa using h1)
  refine wpIn_region_any hm ?_
  have e3 : (List.replicate n0 false).toArray ++ Array.replicate (l.length - n0) false = Array.replicate l.toArray.size false := by
    apply Array.ext'
    simp [List.replicate_append_replicate, Nat.add_sub_cancel' hn0]
  rw [e3, Nat.add_sub_cancel' hn0] at h2
  simpa using h2

/-- One quiet operation, its value at hand. -/
theorem quiet_at {F : Fence} {n : Nat} {P : Program} {ops : Array Oper} {C : World → Prop} {Q : Act → Prop} {a : Act} {o : Oper} {rest : List Oper} (v : Value) (ha : o.askedIn F P a C) (hg : o.guard = none) (h : ∀ W, C W → o.quietAtIn F n P a C W v)
    (hk : wpQuietIn F n P ops C Q rest (a.put o.dst v)) : wpQuietIn F n P ops C Q (o :: rest) a := by
  refine ⟨ha, ?_⟩
  rw [if_pos (by simp [Region.wanted, hg])]
  exact ⟨v, h, hk⟩

/-- .. and what follows behind a variable. -/
theorem quiet_on {F : Fence} {n : Nat} {P : Program} {ops : Array Oper} {C : World → Prop} {Q : Act → Prop} {a : Act} {o : Oper} {rest : List Oper} (v : Value) (ha : o.askedIn F P a C) (hg : o.guard = none) (h : ∀ W, C W → o.quietAtIn F n P a C W v)
    (hk : ∀ K : Act → Prop, (∀ a, wpQuietIn F n P ops C Q rest a → K a) → K (a.put o.dst v)) : wpQuietIn F n P ops C Q (o :: rest) a :=
  quiet_at v ha hg h (hk _ (fun _ h => h))

end Go.Proofs.YtkfcgamdlckncaaGreat

namespace Go.Proofs.YtkfcgamdlckncaaGreat
set_option linter.unusedVariables false
set_option linter.unusedSimpArgs false
open Go.RowKit Go.Shelf

theorem wpAnyIn_headP {F : Fence} {n : Nat} {P : Program} {md : Region.Mode} {l : List Oper} {C : World → Prop} {Qa : Act → Prop} {Qx : Exit → Act → World → Prop} {n0 : Nat} (hro : F.round = none) (hd : noDefer l.toArray = true) (hg : noGuard l.toArray = true)
    (hH : headC md l n0 = true) (hn0 : n0 ≤ l.length)
    (htail : ∀ a w, C w → Qa a → wpAnyIn F n P md l.toArray Qx (l.length - n0) ((List.replicate n0 true).toArray ++ Array.replicate (l.length - n0) false) a w) :
    ∀ (fuel : Nat) (bs : List Bool) (a : Act) (w : World), bs.length = n0 → closedB md l bs = true → (bs.filter (!·)).length = fuel → C w → wpAnyQIn F n P md (l.take n0).toArray C Qa fuel bs.toArray a →
      wpAnyIn F n P md l.toArray Qx (fuel + (l.length - n0)) (bs.toArray ++ Array.replicate (l.length - n0) false) a w
  | 0, bs, a, w, hb, hcl, hc, hw, h => by
    rw [Nat.zero_add]
    have e := all_of_none bs hc
    rw [hb] at e
    rw [e]
    exact htail a w hw h.2
  | fuel + 1, bs, a, w, hb, hcl, hc, hw, h => by
    rw [show fuel + 1 + (l.length - n0) = (fuel + (l.length - n0)) + 1 by omega]
    have h1 := (List.all_eq_true.1 hH) bs (by rw [← hb]; exact mem_bools bs)
    rw [not_all_of_some bs (by omega), hcl, Bool.not_true, Bool.or_false, Bool.false_or, Bool.and_eq_true, decide_eq_true_eq] at h1
    obtain ⟨e, hne⟩ := h1
    refine ⟨fun h0 => ?_, fun i hi => ?_⟩
    · rw [e] at h0
      rw [h0] at hne
      cases hne
    · rw [e] at hi
      have hq := h.2 i hi
      obtain ⟨hun, oi, hoi, haf⟩ := mem_ready.1 hi
      have hilt : i < n0 := by
        have := (Array.getElem?_eq_some_iff.1 hoi).1
        simp at this; omega
      have hbi : bs[i]? = some false := by
        have hl : i < bs.length := by omega
        rw [List.getElem?_eq_getElem hl]
        simpa [hl] using hun
      have hol : l.toArray[i]? = some oi := by
        rw [List.getElem?_toArray] at hoi ⊢
        rw [List.getElem?_take] at hoi
        rwa [if_pos hilt] at hoi
      have hcs := count_set bs i hbi
      have hcl2 : closedB md l (bs.set i true) = true := closedB_set hcl (by rwa [List.getElem?_toArray] at hol) (fun e he hb => by
        have := haf e he hb
        rw [Array.getD_eq_getD_getElem?, List.getElem?_toArray] at this
        rw [List.getD_eq_getElem?_getD]; exact this)
      have h2 : wpOpIn F n P (l.take n0).toArray Qx i (fun a' w' => wpAnyIn F n P md l.toArray Qx (fuel + (l.length - n0)) ((bs.set i true).toArray ++ Array.replicate (l.length - n0) false) a' w') a w :=
        wpOpIn_of_qOpIn hro hw (fun a' w' hw' hk => wpAnyIn_headP hro hd hg hH hn0 htail fuel (bs.set i true) a' w' (by simpa using hb) hcl2 (by omega) hw' (by simpa using hk)) hq
      have e2 : (bs.toArray ++ Array.replicate (l.length - n0) false).setIfInBounds i true = (bs.set i true).toArray ++ Array.replicate (l.length - n0) false := by
        apply Array.ext'
        simp [List.set_append, hb, hilt]
      rw [e2]
      have hgo := noGuard_get hg hol
      unfold wpOpIn at h2 ⊢
      simp only [hoi, hol, Region.wanted, hgo, if_true] at h2 ⊢
      exact h2

theorem wpIn_region_tail_plain {F : Fence} {n : Nat} {P : Program} {id : Nat} {Qx : Exit → Act → World → Prop} {a : Act} {w : World} {l : List Oper} (C : World → Prop) (n0 : Nat) (hro : F.round = none) (hd : noDefer l.toArray = true) (hg : noGuard l.toArray = true)
    (hm : P.follows .mixedOrders = true) (hB : Region.lexB .any (l.take n0).toArray = true) (hH : headC .any l n0 = true)
    (hS : Region.seqB .any l.toArray (l.length - n0) n0 ((List.replicate n0 true).toArray ++ Array.replicate (l.length - n0) false) = true) (hn0 : n0 ≤ l.length) (hcl : closedB .any l (List.replicate n0 false) = true) (hC : C { w with drawn := w.drawn + 1 })
    (h : wpQuietIn F n P (l.take n0).toArray C (fun a' => ∀ w', C w' → wpListIn F n P l.toArray Qx (l.drop n0) a' w') (l.take n0) a) :
    (Code.region id l.toArray true).wpIn F n P Qx a w := by
  simp only [Region.lexB, Bool.and_eq_true] at hB
  have htl : (l.take n0).length = n0 := by simp; omega
  have h1 := wpAnyQIn_lex (F := F) (n := n) (C := C) (md := .any) hB.1 (l.take n0) 0 (Array.replicate n0 false) a (by simp) (by have := hB.2; simpa [htl] using this) h
  rw [htl] at h1
  have h2 := wpAnyIn_headP (F := F) (n := n) (P := P) (C := C) (Qa := fun a' => ∀ w', C w' → wpListIn F n P l.toArray Qx (l.drop n0) a' w') (Qx := Qx) (md := .any) hro hd hg hH hn0 (fun a' w' hw' hq => by
    have h3 := wpAnyIn_seq (md := .any) (F := F) (n := n) (P := P) (ops := l.toArray) (Q := Qx) (l.drop n0) n0 ((List.replicate n0 true).toArray ++ Array.replicate (l.length - n0) false) a' w' (fun j => by simp [List.getElem?_drop]) (by rw [List.length_drop]; exact hS) (hq w' hw')
    rwa [List.length_drop] at h3) n0 (List.replicate n0 false) a { w with drawn := w.drawn + 1 } (by simp) hcl (by simp) hC (by simpa using h1)
  refine wpIn_region_any hm ?_
  have e3 : (List.replicate n0 false).toArray ++ Array.replicate (l.length - n0) false = Array.replicate l.toArray.size false := by
    apply Array.ext'
    simp [List.replicate_append_replicate, Nat.add_sub_cancel' hn0]
  rw [e3, Nat.add_sub_cancel' hn0] at h2
  simpa using h2

end Go.Proofs.YtkfcgamdlckncaaGreat
