/-
  The program's fault of a step.
  Lists of places that a range over a function gathers in a box; a region within a round whose tail waits for all the rest, at a class of worlds of one's own.
  The program's faultsOf, and the iterator over where steps begin and their faults that it hands back.
-/
import Derived.Test.YtgpaplhbjhbfjaaWnWm
import Derived.Test.YtgpaplhbjhbfjaaVbm
import Derived.Test.YtgpaplhbjhbfjaaRtWm
import Derived.Test.YtgpaplhbjhbfjaaMemWm
import Derived.Test.YtgpaplhbjhbfjaaScWm
import Derived.Test.YtgpaplhbjhbfjaaVoWm
import Derived.Test.YtgpaplhbjhbfjaaJdWm
namespace Go.Proofs.Ytgpaplhbjhbfjaa
set_option linter.unusedVariables false
set_option linter.unusedSimpArgs false
open Go.RowKit

set_option maxRecDepth 100000 in
set_option maxHeartbeats 4000000 in
theorem faultOfK_any {W : World} {z : Nd} {ty : TypeId} {g : Nat} (h : StepIs W z ty g) (hg : g < W.heap.size) (hlt : ∀ v, needK z = some v → ltr v) (k : Kn) (hk : k.Wf) :
    Calls Try.prog 86 #[.iface ty (.pointer (some ⟨g, 0, none⟩)), knV k] W (fun e w' => e = .returned (.int .i64 (faultK z k : Int)) ∧ Keeps noB W w') := by
  have HN : Hid (∀ W', Keeps noB W W' → Calls Try.prog 116 #[.iface ty (.pointer (some ⟨g, 0, none⟩))] W' (fun e w' => e = .returned (needV (needK z)) ∧ Keeps noB W' w')) := fun W' q => needed_any (h.keeps q hg id)
  have HB : Hid (∀ (a b : Int) (w2 : World), Keeps noB (W.alloc (.cells #[.int .u8 a, .int .u8 b] 100)) w2 → w2.cell? ⟨W.heap.size, 0, none⟩ = some (.int .u8 a) ∧ w2.cell? ⟨W.heap.size, 1, none⟩ = some (.int .u8 b) ∧ Keeps noB W w2) := fun a b w2 q => by
    have n := q.blk (Blk.new W #[.int .u8 a, .int .u8 b] 100) id
    exact ⟨(n.cell 0).trans rfl, (n.cell 1).trans rfl, ((Keeps.refl _ _).alloc _).trans q⟩
  unfold faultK
  by_cases hn : k = Kn.no
  · rw [if_pos hn]
    have HI := Lib.hid (fun w => isReached_no w)
    rw [← hn] at HI
    clear hn hk hlt h
    obtain ⟨km, ku⟩ := k
    unfold knV at *
    simp only at *
    cases hz : needK z with
    | none =>
      rw [hz] at HN
      unfold needV at HN
      simp only at HN
      clear hz
      go_enter Try.func86, Try.ntmps86
      go_wp2_with (first
        | (go_at_call 116; refine (HN.out _ ((Keeps.refl _ _).alloc _)).mono ?_; rintro e1 w1 ⟨rfl, q1⟩; have hb := HB.out _ _ _ q1; have ⟨r0, r1, k1⟩ := hb; have Q1 := Lib.hid q1; have K1 := Lib.hid k1; clear q1 k1 hb)
        | (go_at_call 69; refine (HI.out _).mono ?_; rintro e2 w2 ⟨rfl, q2⟩; have hb := HB.out _ _ _ (Q1.out.trans q2); have ⟨r2, r3, k2⟩ := hb; have K2 := Lib.hid k2; clear q2 k2 hb r0 r1))
      go_ret
      exact ⟨rfl, K2.out⟩
    | some v =>
      rw [hz] at HN
      unfold needV at HN
      simp only at HN
      clear hz
      go_enter Try.func86, Try.ntmps86
      go_wp2_with (first
        | (go_at_call 116; refine (HN.out _ ((Keeps.refl _ _).alloc _)).mono ?_; rintro e1 w1 ⟨rfl, q1⟩; have hb := HB.out _ _ _ q1; have ⟨r0, r1, k1⟩ := hb; have Q1 := Lib.hid q1; have K1 := Lib.hid k1; clear q1 k1 hb)
        | (go_at_call 69; refine (HI.out _).mono ?_; rintro e2 w2 ⟨rfl, q2⟩; have hb := HB.out _ _ _ (Q1.out.trans q2); have ⟨r2, r3, k2⟩ := hb; have K2 := Lib.hid k2; clear q2 k2 hb r0 r1))
      go_ret
      exact ⟨rfl, K2.out⟩
  · rw [if_neg hn]
    have HI := Lib.hid (fun w => isReached_yes hn w)
    clear hn
    cases hz : needK z with
    | none =>
      rw [hz] at HN
      unfold needV at HN
      obtain ⟨km, ku⟩ := k
      unfold knV at *
      simp only at *
      clear hz hlt hk h
      go_enter Try.func86, Try.ntmps86
      go_wp2_with (first
        | (go_at_call 116; refine (HN.out _ ((Keeps.refl _ _).alloc _)).mono ?_; rintro e1 w1 ⟨rfl, q1⟩; have hb := HB.out _ _ _ q1; have ⟨r0, r1, k1⟩ := hb; have Q1 := Lib.hid q1; have K1 := Lib.hid k1; clear q1 k1 hb)
        | (go_at_call 69; refine (HI.out _).mono ?_; rintro e2 w2 ⟨rfl, q2⟩; have hb := HB.out _ _ _ (Q1.out.trans q2); have ⟨r2, r3, k2⟩ := hb; have K2 := Lib.hid k2; clear q2 k2 hb r0 r1))
      go_ret
      exact ⟨rfl, K2.out⟩
    | some v =>
      have hv := hlt v hz
      have HM := Lib.hid (fun w => has_any hk.must hv w)
      have HA := Lib.hid (fun w => has_any hk.may hv w)
      rw [hz] at HN
      unfold needV at HN
      obtain ⟨km, ku⟩ := k
      unfold knV at *
      simp only at *
      clear hz hlt hk h hv
      cases hM : hasV ku v with
      | true =>
        rw [hM] at HM
        clear hM HA
        go_enter Try.func86, Try.ntmps86
        go_wp2_with (first
          | (go_at_call 116; refine (HN.out _ ((Keeps.refl _ _).alloc _)).mono ?_; rintro e1 w1 ⟨rfl, q1⟩; have hb := HB.out _ _ _ q1; have ⟨r0, r1, k1⟩ := hb; have Q1 := Lib.hid q1; have K1 := Lib.hid k1; clear q1 k1 hb)
          | (go_at_call 69; refine (HI.out _).mono ?_; rintro e2 w2 ⟨rfl, q2⟩; have hb := HB.out _ _ _ (Q1.out.trans q2); have ⟨r2, r3, k2⟩ := hb; have K2 := Lib.hid k2; clear q2 k2 hb r0 r1)
          | (go_at_call 117; refine (HM.out _).mono ?_; rintro e3 w3 ⟨rfl, rfl⟩))
        go_ret
        exact ⟨rfl, K2.out⟩
      | false =>
        rw [hM] at HM
        clear hM
        cases hA : hasV km v with
        | true =>
          rw [hA] at HA
          clear hA
          go_enter Try.func86, Try.ntmps86
          go_wp2_with (first
            | (go_at_call 116; refine (HN.out _ ((Keeps.refl _ _).alloc _)).mono ?_; rintro e1 w1 ⟨rfl, q1⟩; have hb := HB.out _ _ _ q1; have ⟨r0, r1, k1⟩ := hb; have Q1 := Lib.hid q1; have K1 := Lib.hid k1; clear q1 k1 hb)
            | (go_at_call 69; refine (HI.out _).mono ?_; rintro e2 w2 ⟨rfl, q2⟩; have hb := HB.out _ _ _ (Q1.out.trans q2); have ⟨r2, r3, k2⟩ := hb; have K2 := Lib.hid k2; clear q2 k2 hb r0 r1)
            | (go_at_call 117; first | (refine (HM.out _).mono ?_; rintro e3 w3 ⟨rfl, rfl⟩; clear HM) | (refine (HA.out _).mono ?_; rintro e3 w3 ⟨rfl, rfl⟩)))
          go_ret
          exact ⟨rfl, K2.out⟩
        | false =>
          rw [hA] at HA
          clear hA
          go_enter Try.func86, Try.ntmps86
          go_wp2_with (first
            | (go_at_call 116; refine (HN.out _ ((Keeps.refl _ _).alloc _)).mono ?_; rintro e1 w1 ⟨rfl, q1⟩; have hb := HB.out _ _ _ q1; have ⟨r0, r1, k1⟩ := hb; have Q1 := Lib.hid q1; have K1 := Lib.hid k1; clear q1 k1 hb)
            | (go_at_call 69; refine (HI.out _).mono ?_; rintro e2 w2 ⟨rfl, q2⟩; have hb := HB.out _ _ _ (Q1.out.trans q2); have ⟨r2, r3, k2⟩ := hb; have K2 := Lib.hid k2; clear q2 k2 hb r0 r1)
            | (go_at_call 117; first | (refine (HM.out _).mono ?_; rintro e3 w3 ⟨rfl, rfl⟩; clear HM) | (refine (HA.out _).mono ?_; rintro e3 w3 ⟨rfl, rfl⟩)))
          go_ret
          exact ⟨rfl, K2.out⟩

end Go.Proofs.Ytgpaplhbjhbfjaa

namespace Go.Proofs.Ytgpaplhbjhbfjaa
set_option linter.unusedVariables false
set_option linter.unusedSimpArgs false
open Go.RowKit Go.Shelf

theorem Try.infoI3 : (Try.prog.info? 3).map (fun i => (i.zero, i.size, i.bytes)) = some (some (.int .i64 0), 1, 8) := by kernel_rfl

/-- A list of places, or none, and whether. -/
def NumsPost (w : World) (res : Option (List Nat)) (e : Ending) (w' : World) : Prop :=
  ∃ v b xs, e = .returned (.tuple #[v, .bool b]) ∧ Row w' (fromB w.heap.size) 3 1 v xs.length xs ∧ Keeps noB w w' ∧ b = res.isSome ∧
    xs = match res with | none => [] | some l => l.map fun k => i64 k

/-- What a loop has gathered in the box N. -/
def ListI (N : Nat) (w2 : World) (l : List Nat) (own : Nat → Prop) (W' : World) : Prop :=
  Owns (oneB N) own w2 W' ∧ own N ∧ ∃ a c, Blk W' N #[.slice a l.length c] 24 ∧ W'.ownsRow 0 3 1 (.slice a l.length c) l.length (l.map fun k => i64 k) ∧ ∀ g, (Value.slice a l.length c).ownBlock = some g → own g ∧ w2.heap.size ≤ g

theorem ListI.stab {N : Nat} {w2 : World} (hN : N < w2.heap.size) {l : List Nat} {own : Nat → Prop} {W W' : World} (h : ListI N w2 l own W) (q : Keeps (fun k => w2.heap.size ≤ k ∧ ¬ own k) W W') : ListI N w2 l own W' := by
  obtain ⟨h1, h2, a, c, h3, h4, h5⟩ := h
  exact ⟨h1.ahead q (fun i e => e.1), h2, a, c, q.blk h3 (fun e => by have := e.1; omega), q.ownsRow h4 (fun g hg hl e => e.2 (h5 g hg).1), h5⟩

theorem ListI.start {N : Nat} {w2 : World} (b : Blk w2 N #[.slice none 0 0] 24) : ListI N w2 [] (oneB N) w2 :=
  ⟨Owns.refl (by rintro k rfl; exact b.lt), rfl, none, 0, b, ⟨rfl, .inl ⟨rfl, rfl⟩⟩, fun g hg => by simp [Value.ownBlock] at hg⟩

/-- One place more. -/
theorem ListI.more {N : Nat} {w2 W3 : World} {l : List Nat} {own1 : Nat → Prop} (hN : N < w2.heap.size) (h : ListI N w2 l own1 W3) (hl : l.length ≤ 200) (b : Nat) :
    ∃ a c, W3.cell? ⟨N, 0, none⟩ = some (.slice a l.length c) ∧ (W3.alloc (.cells #[.int .i64 (b : Int)] 3)).cell? ⟨N, 0, none⟩ = some (.slice a l.length c) ∧
      ∃ a' c' w', (Builtin.append_ #[24, 24] 24 #[.slice a l.length c, .slice (some ⟨W3.heap.size, 0, none⟩) 1 1]).run Try.prog (W3.alloc (.cells #[.int .i64 (b : Int)] 3)) = .ok (.slice a' (l.length + 1) c') w' ∧
        w'.frozen? ⟨N, 0, none⟩ = false ∧ w'.cell? ⟨N, 0, none⟩ = some (.slice a l.length c) ∧ ∃ own', Owns own1 own' W3 (w'.setCell ⟨N, 0, none⟩ (.slice a' (l.length + 1) c')) ∧ ListI N w2 (l ++ [b]) own' (w'.setCell ⟨N, 0, none⟩ (.slice a' (l.length + 1) c')) := by
  obtain ⟨k3, hoN, a3, c3, d3, d4, d5⟩ := h
  obtain ⟨i0, hi, hz0, hz1, hz2⟩ := info_parts Try.infoI3
  refine ⟨a3, c3, (d3.cell 0).trans rfl, ((d3.alloc _).cell 0).trans rfl, ?_⟩
  have d4' : (W3.alloc (.cells #[.int .i64 (b : Int)] 3)).ownsRow 0 3 1 (.slice a3 l.length c3) l.length (l.map fun k => i64 k) :=
    ((Keeps.refl noB W3).alloc _).ownsRow d4 (fun _ _ _ => id)
  obtain ⟨v', w', hr, ho', hg', hfr⟩ := run_append_fresh (P := Try.prog) (W3.alloc (.cells #[.int .i64 (b : Int)] 3)) 24 24 3 i0 (.int .i64 0) 1 8 Try.underlying24 hi hz0 hz1 hz2 rfl (by omega)
    (.slice a3 l.length c3) l.length _ d4' ⟨W3.heap.size, 0, none⟩ 1 1 [.int .i64 (b : Int)] rfl (cells_one W3 _ _) (fun u hu => by simp at hu; subst hu; rfl) (by unfold maxLen; omega) (by omega)
  have hNl : N < W3.heap.size := d3.lt
  have hs3 := k3.keeps.size
  have hNw : w'.heap[N]? = W3.heap[N]? := (hg'.block N (by simp; omega) (fun e => by have := (d5 N e.symm).2; omega)).trans (Below.heap_alloc _ _ _ hNl)
  have b4 : Blk w' N #[.slice a3 l.length c3] 24 := hNw.trans d3
  obtain ⟨a', c', rfl⟩ := row_shape (ok := fun _ => True) ⟨ho', fun _ _ => trivial⟩
  refine ⟨a', c', w', hr, b4.free 0, (b4.cell 0).trans rfl, ?_⟩
  have hkA : Keeps own1 W3 w' := ((Keeps.refl _ W3).alloc _).grown hg' (fun k e => .inl (d5 k e).1)
  have hkB : Keeps own1 W3 (w'.setCell ⟨N, 0, none⟩ (.slice a' (l.length + 1) c')) := hkA.setCell (.inl hoN) _
  have hnew : ∀ k, (Value.slice a' (l.length + 1) c').ownBlock = some k → (own1 k ∨ W3.heap.size ≤ k) ∧ w2.heap.size ≤ k := by
    intro k hk
    rcases hfr with e | e
    · have := d5 k (e.symm.trans hk); exact ⟨.inl this.1, this.2⟩
    · have := e k hk; simp at this; exact ⟨.inr (by omega), by omega⟩
  have hk : Owns own1 (fun k => own1 k ∨ (Value.slice a' (l.length + 1) c').ownBlock = some k) W3 (w'.setCell ⟨N, 0, none⟩ (.slice a' (l.length + 1) c')) := by
    refine ⟨fun k e => e.elim .inl (fun e => (hnew k e).1), fun k e => ?_, hkB⟩
    rcases e with e | e
    · exact Nat.lt_of_lt_of_le (k3.lt k e) hkB.size
    · simpa [World.setCell] using (ho'.lt k e).2
  refine ⟨_, hk, k3.trans hk, .inl hoN, a', c', ?_, ?_, ?_⟩
  · have e := b4.set 0 (.slice a' (l.length + 1) c')
    rw [List.length_append]
    simpa using e
  · have e := ((Keeps.refl (oneB N) w').setCell (p := ⟨N, 0, none⟩) (.inl rfl) (.slice a' (l.length + 1) c')).ownsRow ho' (fun k hk hl e => by have : k = N := e; have := (hnew k hk).2; omega)
    rw [List.length_append, List.map_append]
    exact e
  · intro k hk
    rw [List.length_append] at hk
    exact ⟨.inr hk, (hnew k hk).2⟩

/-- What is behind the loop. -/
theorem ListI.post {N D : Nat} {w w2 W' W2 : World} {l : List Nat} {own own' : Nat → Prop} (h : ListI N w2 l own' W') (hb : Behind own own' w2 W' D) (hww : Keeps noB w w2) (hN : w.heap.size ≤ N) (q : Keeps (fun k => k ∈ [D]) W' W2) :
    ∃ a c, W'.cell? ⟨N, 0, none⟩ = some (.slice a l.length c) ∧ NumsPost w (some l) (.returned (.tuple #[.slice a l.length c, .bool true])) W2 := by
  obtain ⟨h3, hoN, a, c, h4, h5, h6⟩ := h
  refine ⟨a, c, (h4.cell 0).trans rfl, ?_⟩
  have hs1 := hww.size
  have hnew := hb.new
  have k2 : Keeps noB w W' := hww.transNew h3.keeps (fun i hi e => by have : i = N := e; omega)
  refine ⟨_, true, l.map (fun k => i64 k), rfl, ⟨?_, fun g hg => ?_⟩, k2.transNew q (fun i hi e => by simp at e; omega), rfl, rfl⟩
  · rw [List.length_map]
    exact q.ownsRow h5 (fun g hg hl e => by simp at e; subst e; exact hb.free (h6 g hg).1)
  · have := (h6 g hg).2; show w.heap.size ≤ g; omega

/-- DeadSteps. -/
def deadP (s : ByteArray) : Option (List Nat) := match progP s with | none => none | some x => some ((deadL x (x.preD 0)).map (fun p => p.1.beg))

/-- Whatever has come up, what it waits for has. -/
def closedB (md : Region.Mode) (l : List Oper) (bs : List Bool) : Bool :=
  (List.range bs.length).all fun i => !bs.getD i false || ((l[i]?).map (fun o => o.after.all fun e => !Region.binds md e || bs.getD e.on false)).getD true

/-- As 'headB', but for what can come up alone. -/
def headC (md : Region.Mode) (l : List Oper) (n : Nat) : Bool :=
  (bools n).all fun bs => bs.all id || !closedB md l bs ||
    (decide (Region.ready md l.toArray (bs.toArray ++ Array.replicate (l.length - n) false) = Region.ready md (l.take n).toArray bs.toArray) && !(Region.ready md (l.take n).toArray bs.toArray).isEmpty)

theorem getD_set_true {bs : List Bool} {i j : Nat} (h : bs.getD j false = true) : (bs.set i true).getD j false = true := by
  rw [List.getD_eq_getElem?_getD] at h ⊢
  by_cases e : i = j
  · subst e
    have hl : i < bs.length := by
      rcases Nat.lt_or_ge i bs.length with hl | hl
      · exact hl
      · rw [List.getElem?_eq_none hl] at h; cases h
    rw [List.getElem?_set_self hl]; rfl
  · rw [List.getElem?_set_ne e]; exact h

theorem closedB_set {md : Region.Mode} {l : List Oper} {bs : List Bool} {i : Nat} {o : Oper} (h : closedB md l bs = true) (ho : l[i]? = some o) (ha : ∀ e ∈ o.after, Region.binds md e = true → bs.getD e.on false = true) : closedB md l (bs.set i true) = true := by
  unfold closedB at h ⊢
  rw [List.all_eq_true] at h ⊢
  intro j hj
  rw [List.length_set] at hj
  have hh := h j hj
  by_cases e : i = j
  · subst e
    rw [ho]
    have : (o.after.all fun e => !Region.binds md e || (bs.set i true).getD e.on false) = true := by
      rw [Array.all_eq_true']
      intro e he
      cases hb : Region.binds md e with
      | false => rfl
      | true => simp only [Bool.not_true, Bool.false_or]; exact getD_set_true (ha e he hb)
    simp only [Option.map, Option.getD, this, Bool.or_true]
  · cases hb : bs.getD j false with
    | false =>
      have : (bs.set i true).getD j false = false := by
        rw [List.getD_eq_getElem?_getD] at hb ⊢
        rw [List.getElem?_set_ne e]; exact hb
      rw [this]; rfl
    | true =>
      rw [hb] at hh
      simp only [Bool.not_true, Bool.false_or] at hh
      cases hl : l[j]? with
      | none => simp [Option.map, Option.getD]
      | some oj =>
        rw [hl] at hh
        simp only [Option.map, Option.getD] at hh ⊢
        rw [Array.all_eq_true'] at hh
        have : (oj.after.all fun e => !Region.binds md e || (bs.set i true).getD e.on false) = true := by
          rw [Array.all_eq_true']
          intro e he
          have := hh e he
          cases hbb : Region.binds md e with
          | false => rfl
          | true =>
            rw [hbb] at this
            simp only [Bool.not_true, Bool.false_or] at this ⊢
            exact getD_set_true this
        rw [this, Bool.or_true]

theorem wpAnyIn_headC {F : Fence} {n : Nat} {P : Program} {md : Region.Mode} {l : List Oper} {C : World → Prop} {Qa : Act → Prop} {Qx : Exit → Act → World → Prop} {L n0 : Nat} (hro : F.round = none) (hd : noDefer l.toArray = true) (hg : noGuard l.toArray = true)
    (hH : headC md l n0 = true) (hn0 : n0 ≤ l.length)
    (htail : ∀ a w, C w → Qa a → wpAnyIn (F.inRound L) n P md l.toArray Qx (l.length - n0) ((List.replicate n0 true).toArray ++ Array.replicate (l.length - n0) false) a w) :
    ∀ (fuel : Nat) (bs : List Bool) (a : Act) (w : World), bs.length = n0 → closedB md l bs = true → (bs.filter (!·)).length = fuel → C w → wpAnyQIn F n P md (l.take n0).toArray C Qa fuel bs.toArray a →
      wpAnyIn (F.inRound L) n P md l.toArray Qx (fuel + (l.length - n0)) (bs.toArray ++ Array.replicate (l.length - n0) false) a w
  | 0, bs, a, w, hb, hcl, hc, hw, h => by
    rw [Nat.zero_add]
    have e := all_of_none bs hc
    rw [hb] at e
    rw [e]
    exact htail a w hw h.2
  | fuel + 1, bs, a, w, hb, hcl, hc, hw, h => by
    rw [show fuel + 1 + (l.length - n0) = (fuel + (l.length - n0)) + 1 by omega]
    have h1 := (List.all_eq_true.1 hH) bs (by rw [← hb]; exact mem_bools bs)
    rw [not_all_of_some bs (by omega), hcl, Bool.not_true, Bool.or_false, Bool.false_or, Bool.and_eq_true, decide_eq_true_eq] at h1
    obtain ⟨e, hne⟩ := h1
    refine ⟨fun h0 => ?_, fun i hi => ?_⟩
    · rw [e] at h0
      rw [h0] at hne
      cases hne
    · rw [e] at hi
      have hq := h.2 i hi
      obtain ⟨hun, oi, hoi, haf⟩ := mem_ready.1 hi
      have hilt : i < n0 := by
        have := (Array.getElem?_eq_some_iff.1 hoi).1
        simp at this; omega
      have hbi : bs[i]? = some false := by
        have hl : i < bs.length := by omega
        rw [List.getElem?_eq_getElem hl]
        simpa [hl] using hun
      have hol : l.toArray[i]? = some oi := by
        rw [List.getElem?_toArray] at hoi ⊢
        rw [List.getElem?_take] at hoi
        rwa [if_pos hilt] at hoi
      have hcs := count_set bs i hbi
      have hcl2 : closedB md l (bs.set i true) = true := closedB_set hcl (by rwa [List.getElem?_toArray] at hol) (fun e he hb => by
        have := haf e he hb
        rw [Array.getD_eq_getD_getElem?, List.getElem?_toArray] at this
        rw [List.getD_eq_getElem?_getD]; exact this)
      have h2 : wpOpIn F n P (l.take n0).toArray Qx i (fun a' w' => wpAnyIn (F.inRound L) n P md l.toArray Qx (fuel + (l.length - n0)) ((bs.set i true).toArray ++ Array.replicate (l.length - n0) false) a' w') a w :=
        wpOpIn_of_qOpIn hro hw (fun a' w' hw' hk => wpAnyIn_headC hro hd hg hH hn0 htail fuel (bs.set i true) a' w' (by simpa using hb) hcl2 (by omega) hw' (by simpa using hk)) hq
      have e2 : (bs.toArray ++ Array.replicate (l.length - n0) false).setIfInBounds i true = (bs.set i true).toArray ++ Array.replicate (l.length - n0) false := by
        apply Array.ext'
        simp [List.set_append, hb, hilt]
      rw [e2]
      have hgo := noGuard_get hg hol
      unfold wpOpIn at h2 ⊢
      simp only [hoi, hol, Region.wanted, hgo, if_true] at h2 ⊢
      exact wpIn_oper_round L hro (noDefer_get hd hol) h2

theorem wpIn_region_tail_class {F : Fence} {n : Nat} {P : Program} {id : Nat} {Qx : Exit → Act → World → Prop} {a : Act} {w : World} {l : List Oper} {L : Nat} (C : World → Prop) (n0 : Nat) (hro : F.round = none) (hd : noDefer l.toArray = true) (hg : noGuard l.toArray = true)
    (hm : P.follows .mixedOrders = true) (hB : Region.lexB .any (l.take n0).toArray = true) (hH : headC .any l n0 = true)
    (hS : Region.seqB .any l.toArray (l.length - n0) n0 ((List.replicate n0 true).toArray ++ Array.replicate (l.length - n0) false) = true) (hn0 : n0 ≤ l.length) (hcl : closedB .any l (List.replicate n0 false) = true) (hC : C { w with drawn := w.drawn + 1 })
    (h : wpQuietIn F n P (l.take n0).toArray C (fun a' => ∀ w', C w' → wpListIn (F.inRound L) n P l.toArray Qx (l.drop n0) a' w') (l.take n0) a) :
    (Code.region id l.toArray true).wpIn (F.inRound L) n P Qx a w := by
  simp only [Region.lexB, Bool.and_eq_true] at hB
  have htl : (l.take n0).length = n0 := by simp; omega
  have h1 := wpAnyQIn_lex (F := F) (n := n) (C := C) (md := .any) hB.1 (l.take n0) 0 (Array.replicate n0 false) a (by simp) (by have := hB.2; simpa [htl] using this) h
  rw [htl] at h1
  have h2 := wpAnyIn_headC (F := F) (n := n) (P := P) (C := C) (Qa := fun a' => ∀ w', C w' → wpListIn (F.inRound L) n P l.toArray Qx (l.drop n0) a' w') (L := L) (Qx := Qx) (md := .any) hro hd hg hH hn0 (fun a' w' hw' hq => by
    have h3 := wpAnyIn_seq (md := .any) (F := F.inRound L) (n := n) (P := P) (ops := l.toArray) (Q := Qx) (l.drop n0) n0 ((List.replicate n0 true).toArray ++ Array.replicate (l.length - n0) false) a' w' (fun j => by simp [List.getElem?_drop]) (by rw [List.length_drop]; exact hS) (hq w' hw')
    rwa [List.length_drop] at h3) n0 (List.replicate n0 false) a { w with drawn := w.drawn + 1 } (by simp) hcl (by simp) hC (by simpa using h1)
  refine wpIn_region_any hm ?_
  have e3 : (List.replicate n0 false).toArray ++ Array.replicate (l.length - n0) false = Array.replicate l.toArray.size false := by
    apply Array.ext'
    simp [List.replicate_append_replicate, Nat.add_sub_cancel' hn0]
  rw [e3, Nat.add_sub_cancel' hn0] at h2
  simpa using h2

/-- One quiet operation, its value at hand. -/
theorem quiet_at {F : Fence} {n : Nat} {P : Program} {ops : Array Oper} {C : World → Prop} {Q : Act → Prop} {a : Act} {o : Oper} {rest : List Oper} (v : Value) (ha : o.askedIn F P a C) (hg : o.guard = none) (h : ∀ W, C W → o.quietAtIn F n P a C W v)
    (hk : wpQuietIn F n P ops C Q rest (a.put o.dst v)) : wpQuietIn F n P ops C Q (o :: rest) a := by
  refine ⟨ha, ?_⟩
  rw [if_pos (by simp [Region.wanted, hg])]
  exact ⟨v, h, hk⟩

/-- .. and what follows behind a variable. -/
theorem quiet_on {F : Fence} {n : Nat} {P : Program} {ops : Array Oper} {C : World → Prop} {Q : Act → Prop} {a : Act} {o : Oper} {rest : List Oper} (v : Value) (ha : o.askedIn F P a C) (hg : o.guard = none) (h : ∀ W, C W → o.quietAtIn F n P a C W v)
    (hk : ∀ K : Act → Prop, (∀ a, wpQuietIn F n P ops C Q rest a → K a) → K (a.put o.dst v)) : wpQuietIn F n P ops C Q (o :: rest) a :=
  quiet_at v ha hg h (hk _ (fun _ h => h))

end Go.Proofs.Ytgpaplhbjhbfjaa

namespace Go.Proofs.Ytgpaplhbjhbfjaa
set_option linter.unusedVariables false
set_option linter.unusedSimpArgs false
open Go.RowKit Go.Shelf

attribute [local go_sem] Oper.semAt_some

/-- The iterator over the faults of program x, as faultsOf hands it back: its two boxes, R and Q. -/
structure FaultsOk (s : ByteArray) (x : Nd) (b0 R Q : Nat) (w : World) : Prop where
  prog : progP s = some x
  ltR : b0 ≤ R
  ltQ : b0 ≤ Q
  rep : ∃ g m, RepI w (between b0 w) x (.iface 60 (ptr g)) ∧ Blk w R #[.pointer (some ⟨g, 0, none⟩)] 60 ∧ Blk w Q #[.map (some m)] 95 ∧ MapAt Try.prog 3 w m (notesP x) ∧ b0 ≤ m

def FaultsPost (s : ByteArray) (w : World) (res : Option Nd) (e : Ending) (w' : World) : Prop :=
  match res with
  | none => e = .returned (.tuple #[.nilFunc, .bool false]) ∧ Keeps noB w w'
  | some x => ∃ R Q, e = .returned (.tuple #[.func (.func 85) #[] #[ptr R, ptr Q], .bool true]) ∧ FaultsOk s x w.heap.size R Q w' ∧ Keeps noB w w'

theorem resFaults (W : World) (v : Value) (b : Bool) (tmps : Array Value) (h2 : tmps.getD 2 undef = v) (h3 : tmps.getD 3 undef = .bool b) : (results Try.f61 tmps).run Try.prog W = .ok (.tuple #[v, .bool b]) W := by
  have h2' : tmps[2]?.getD undef = v := by simpa using h2
  have h3' : tmps[3]?.getD undef = .bool b := by simpa using h3
  simp [results, Try.results61, go_sem, h2', h3']

set_option maxRecDepth 100000 in
set_option maxHeartbeats 4000000 in
theorem faultsOf_none (s : ByteArray) (hs : s.size ≤ 1048576) (hp : progP s = none) (w : World) : Calls Try.prog 61 #[.string s] w (FaultsPost s w none) := by
  have HR : Hid (∀ w, Calls Try.prog 52 #[.string s] w (ReadPost w none)) := fun w => by
    have := read_any s hs w; rwa [hp] at this
  clear hp
  go_enter Try.func61, Try.ntmps61
  go_wp2_with fail
  refine (HR.out _).mono ?_
  rintro e w1 ⟨rfl, q1⟩
  go_wp2_with fail
  exact bodyPost_ret (resFaults _ _ _ _ rfl rfl) rfl ⟨rfl, q1.alloc _⟩

set_option maxRecDepth 100000 in
set_option maxHeartbeats 4000000 in
theorem faultsOf_some (s : ByteArray) (hs : s.size ≤ 1048576) (x : Nd) (hp : progP s = some x) (w : World) : Calls Try.prog 61 #[.string s] w (FaultsPost s w (some x)) := by
  have HR : Hid (∀ w, Calls Try.prog 52 #[.string s] w (ReadPost w (some x))) := fun w => by
    have := read_any s hs w; rwa [hp] at this
  have HV : Hid (∀ w ok g, RepI w ok x (.iface 60 (ptr g)) → Calls Try.prog 67 #[.pointer (some ⟨g, 0, none⟩)] w (fun e w' => ∃ m, e = .returned (.map (some m)) ∧ MapAt Try.prog 3 w' m (notesP x) ∧ Keeps noB w w' ∧ w.heap.size ≤ m)) := fun w ok g hr => surveyed_any hp w ok g hr
  have HP := Lib.hid hp
  clear hp
  go_enter Try.func61, Try.ntmps61
  go_wp2_with fail
  refine (HR.out _).mono ?_
  rintro e w1 ⟨g, rfl, hr, q1⟩
  have HREP := Lib.hid hr
  have HQ1 := Lib.hid q1
  clear hr q1
  unfold ptr
  have HB1 := Lib.hid (Blk.new w1 #[.pointer (some ⟨g, 0, none⟩)] 60)
  have HK1 : Hid (Keeps noB w1 (w1.alloc (.cells #[.pointer (some ⟨g, 0, none⟩)] 60))) := (Keeps.refl _ _).alloc _
  go_wp2_with fail
  refine (HV.out _ (fromB w.heap.size) _ ((Hands.of_keeps HK1.out (fun _ _ _ => id) (fun k (hk : w.heap.size ≤ k) hl => hk)).repI _ _ HREP.out)).mono ?_
  rintro e w2 ⟨m, rfl, hm, q2, hml⟩
  have HF : Hid (∀ w3, Keeps noB w2 w3 → Blk w3 w2.heap.size #[.map (some m)] 95 → FaultsOk s x w.heap.size w1.heap.size w2.heap.size w3 ∧ Keeps noB w w3) := fun w3 q3 hb3 => by
    have hs1 := HQ1.out.size
    have hsA : (w1.alloc (.cells #[.pointer (some ⟨g, 0, none⟩)] 60)).heap.size = w1.heap.size + 1 := by simp only [World.size_alloc]
    have hs2 := q2.size
    have hs3 := q3.size
    have q13 := (HK1.out.trans q2).trans q3
    refine ⟨⟨HP.out, by omega, by omega, g, m, ?_, (q2.trans q3).blk HB1.out id, hb3, hm.keeps q3 id, by omega⟩, HQ1.out.trans q13⟩
    exact (Hands.of_keeps q13 (fun _ _ _ => id) (fun k (hk : w.heap.size ≤ k) hl => ⟨hk, by omega⟩)).repI _ _ HREP.out
  clear hm q2 hml
  go_wp2_with fail
  exact bodyPost_ret (resFaults _ _ _ _ rfl rfl) rfl ⟨_, _, rfl, HF.out _ ((Keeps.refl _ _).alloc _) (Blk.new _ _ _)⟩

theorem zeroKnF (w : World) : (zeroValue 100).run Try.prog w = .ok (.agg #[.int .u8 0, .int .u8 0]) w := by kernel_rfl

/-- What the iterator yields of a place. -/
def encF (x : Nd) (p : PN) (args : Array Value) : Prop := args = #[.int .i64 (p.1.beg : Int), .int .i64 (faultZ x p.1 : Int)]

set_option maxRecDepth 100000 in
set_option maxHeartbeats 4000000 in
theorem FaultsOk.iterM {s : ByteArray} {x : Nd} {b0 R Q : Nat} {w1 : World} (h : FaultsOk s x b0 R Q w1) {may : Nat → Prop} (hmay : ∀ k, b0 ≤ k → ¬ may k) (W : World) (q : Keeps may w1 W) :
    IterAt Try.prog 85 #[ptr R, ptr Q] (x.preD 0) (encF x) (between b0 w1) W := by
  intro l J Jx own hJ hJx hown hprot hR h0 n
  obtain ⟨F, hF⟩ : ∃ F, F = Fence.wide := ⟨_, rfl⟩
  have hFf : ∀ f, F.fn f := by subst hF; exact fun _ => trivial
  have hdd : ∀ k : Nat, (F.depth.isSome = true → 1 ≤ k) := by subst hF; intro k h; simp [Fence.wide] at h
  have hro : F.round = none := by subst hF; rfl
  have hds : F.depth.isSome = false := by subst hF; rfl
  rw [← hF]
  have HF := Lib.hid hF
  clear hF
  have HW : Hid (∀ n v sv dv w, CallsIn F n Try.prog 68 #[.agg #[v, sv, dv]] w (fun e w' => e = .returned (.func (.func 89) #[] #[ptr w.heap.size]) ∧ w' = w.alloc (.cells #[v, sv, dv] 51))) := fun n v sv dv w => by
    rw [HF.out]; exact callsIn_wide.2 (placesWithin_any v sv dv w)
  obtain ⟨hx1, hx2, _, _, _, hx6⟩ := progP_ok h.prog
  have hfew := (progP_few h.prog).1
  have hfin := hx2.good.le
  have hRl := h.ltR
  have hQl := h.ltQ
  obtain ⟨g, mm, hrep, hbR, hbQ, hm, hmb⟩ := h.rep
  have HN : Hid (∀ p ∈ x.preD 0, notesP x p.1.beg = some (knownZ x p.1) ∧ p.1.beg ≤ 80 ∧ (knownZ x p.1).Wf ∧ ∀ v, needK p.1 = some v → ltr v) := fun p hpm => by
    have h0 := noted_P h.prog (mem_preD hpm)
    have h1 := Nd.note_in x _ _ _ (progP_sp h.prog) h0
    have h2 := Nd.fs_pre x (progP_sp h.prog) (progP_fit h.prog) _ (mem_preD hpm)
    exact ⟨h0, by omega, knownZ_wf h.prog (mem_preD hpm), fun v hv => need_ltr h2.1 h2.2 hv⟩
  have hRlt := hbR.lt
  have hQlt := hbQ.lt
  have hmlt := hm.lt
  have HB := Lib.hid (And.intro hbQ (And.intro hm hrep))
  have hql := q.size
  have r0 := (q.blk hbR (hmay R hRl)).cell 0
  simp at r0
  have bY := (Blk.new W #[.func (.yield l) #[] #[]] 125).alloc (.cells #[.iface 60 (.pointer (some ⟨g, 0, none⟩)), .string ⟨#[]⟩, .int .i64 0] 51)
  have bB := Blk.new (W.alloc (.cells #[.func (.yield l) #[] #[]] 125)) #[.iface 60 (.pointer (some ⟨g, 0, none⟩)), .string ⟨#[]⟩, .int .i64 0] 51
  have hs5 : ((W.alloc (.cells #[.func (.yield l) #[] #[]] 125)).alloc (.cells #[.iface 60 (.pointer (some ⟨g, 0, none⟩)), .string ⟨#[]⟩, .int .i64 0] 51)).heap.size = W.heap.size + 1 + 1 := by simp only [World.size_alloc]
  have q05 : Keeps noB W ((W.alloc (.cells #[.func (.yield l) #[] #[]] 125)).alloc (.cells #[.iface 60 (.pointer (some ⟨g, 0, none⟩)), .string ⟨#[]⟩, .int .i64 0] 51)) := ((Keeps.refl _ _).alloc _).alloc _
  rw [World.size_alloc] at bB
  have r1 : (W.alloc (.cells #[.func (.yield l) #[] #[]] 125)).cell? ⟨R, 0, none⟩ = some (.pointer (some ⟨g, 0, none⟩)) := (((q.blk hbR (hmay R hRl)).alloc _).cell 0).trans rfl
  clear hbR hbQ hm hrep h
  refine callsIn_of_wp_marks Try.func85 rfl (hFf _) ?_ hro
  simp only [Try.ntmps85, List.size_toArray, List.length_cons, List.length_nil, Nat.reduceAdd, Nat.reduceSub, Array.replicate_succ, Array.replicate_zero, List.push_toArray, List.append_toArray, List.nil_append, List.cons_append]
  unfold ptr
  gi_wp2
  refine (HW.out _ _ _ _ _).mono ?_
  rintro e w5 ⟨rfl, rfl⟩
  gi_wp2
  generalize (W.alloc (.cells #[.func (.yield l) #[] #[]] 125)).alloc (.cells #[.iface 60 (.pointer (some ⟨g, 0, none⟩)), .string ⟨#[]⟩, .int .i64 0] 51) = w5 at *
  have q15 := q.trans (q05.mono (fun _ e => e.elim))
  have hbB : Blk w5 (W.heap.size + 1) #[.iface 60 (ptr g), str x.scope, i64 0] 51 := by rw [hx1]; exact bB
  have HS := Lib.hid (And.intro hs5 (And.intro hql (And.intro hQlt (And.intro hmlt (And.intro hQl hmb)))))
  have HQ := Lib.hid (And.intro q15 (And.intro bY q05))
  have HR := Lib.hid hR
  have HJ := Lib.hid hJ
  have HJX := Lib.hid hJx
  have HP := Lib.hid (And.intro hprot hown)
  refine wp_range HF.out (gf := 89) (lb := #[ptr (W.heap.size + 1)]) (all := x.preD 0) (enc := encP w1 (between b0 w1)) (prot := fun k => between b0 w1 k ∨ k = W.heap.size + 1) (own := own)
    rfl (enters_of Try.func89 (by kernel_rfl) rfl)
    (fun W' q' => within_all x.pre.len s x 0 _ w1 W' (between b0 w1) (W.heap.size + 1) rfl (by omega) hx2 hx6 HB.out.2.2 (fun k e => e.2) (by have := q'.size; omega) (fun k hk hl => (q'.block k (by have := q15.size; omega) id).trans (q15.block k hl (hmay k hk.1))) (q'.blk hbB id))
    (fun pre own' W' => J pre own' W' ∧ Owns own own' w5 W') (fun c pre own' W' => (c = .ret ∧ Jx pre own' W') ∧ Owns own own' w5 W') ?hI ?hIx ?hown ?hprot ?hps ?h0 ?hround ?hdone ?hstop
  case hI => exact (hJ.mono (by omega)).and Owns.stab
  case hIx =>
    intro c pre own W W' h q
    exact ⟨⟨h.1.1, (hJx.mono (by omega)) _ _ _ _ h.1.2 q⟩, Owns.stab pre _ _ _ h.2 q⟩
  case hown => intro k hk; have := hown k hk; omega
  case hprot =>
    rintro k (hk | rfl)
    · exact ⟨hprot k hk, by have := hk.2; omega⟩
    · exact ⟨fun e => by have := hown _ e; omega, by omega⟩
  case hps => rintro y args ⟨v', rfl, _⟩; rfl
  case h0 => exact ⟨hJ _ _ _ _ h0 (q05.mono (fun _ e => e.elim)), Owns.refl (fun k hk => by have := hown k hk; omega)⟩
  case hround =>
    rintro lq n pre p post args own1 W1 hall henc ⟨hj1, ho1⟩ hlt hl hnl hll
    obtain ⟨ty, gg, sv, rfl, hsv, hst, hty, hg1, hg2⟩ := enc_open henc (fun k hk hl => (ho1.keeps.block k (by have := HQ.out.1.size; omega) (HP.out.1 k hk)).trans (HQ.out.1.block k hl (hmay k hk.1)))
    have hpm : p ∈ x.preD 0 := by rw [hall]; simp
    obtain ⟨hn1, hbe, hkw, hnl2⟩ := HN.out p hpm
    clear henc hsv hty
    gi_wp2
    refine ⟨(Keeps.refl _ _).alloc _, fun W3 q3 hs3 => ?_⟩
    have hk13 : Keeps (fun k => w5.heap.size ≤ k ∧ ¬ own1 k) W1 W3 := (((Keeps.refl noB _).alloc _).mono (fun _ e => e.elim)).trans (q3.mono (fun k e => by obtain rfl : k = lq := e; exact ⟨hl, hnl⟩))
    have b5 : Blk W3 W1.heap.size #[.iface ty (.pointer (some ⟨gg, 0, none⟩)), .string sv, .int .i64 (p.2 : Int)] 51 := q3.blk (Blk.new _ _ _) (show W1.heap.size ≠ lq by omega)
    have ho3 := ho1.ahead hk13 (fun i e => e.1)
    have hS := HS.out
    have hnb : ∀ k, b0 ≤ k → k < w1.heap.size → ¬ own k := fun k h1 h2 => HP.out.1 k ⟨h1, h2⟩
    have c5 : Blk W3 Q #[.map (some mm)] 95 := ho3.keeps.blk (HQ.out.1.blk HB.out.1 (hmay Q hQl)) (hnb Q (by omega) (by omega))
    have hm3 : MapAt Try.prog 3 W3 mm (notesP x) := (HB.out.2.1.keeps HQ.out.1 (hmay mm hmb)).keeps ho3.keeps (hnb mm (by omega) (by omega))
    have y5 : Blk W3 W.heap.size #[.func (.yield l) #[] #[]] 125 := ho3.keeps.blk HQ.out.2.1 (fun e => by have := HP.out.2 _ e; omega)
    have hst3 := hst.keeps hk13 (by have := hlt; have := ho1.keeps.size; omega) (fun e => by have := e.1; omega)
    have hggl : gg < W3.heap.size := by have := ho3.keeps.size; omega
    have hj3 := HJ.out _ _ _ _ hj1 (hk13.mono (fun k e => ⟨by omega, e.2⟩))
    have hlt3 : ∀ k, own1 k → k < W3.heap.size := ho3.lt
    have HL : Hid (∀ W4, Keeps noB W3 W4 → W4.cell? ⟨W.heap.size, 0, none⟩ = some (.func (.yield l) #[] #[]) ∧ W4.cell? ⟨W1.heap.size, 0, none⟩ = some (.iface ty (.pointer (some ⟨gg, 0, none⟩))) ∧ W4.cell? ⟨Q, 0, none⟩ = some (.map (some mm)) ∧
        (Instr.lookup 95 (.map (some mm)) (.int .i64 (p.1.beg : Int)) false).run Try.prog W4 = .ok (knV (knownZ x p.1)) W4) := fun W4 q4 => by
      refine ⟨((q4.blk y5 id).cell 0).trans rfl, ((q4.blk b5 id).cell 0).trans rfl, ((q4.blk c5 id).cell 0).trans rfl, ?_⟩
      have := (hm3.keeps q4 id).look Try.underlying3 Try.underlying95 (t := 95) (zeroKnF W4) (a := (p.1.beg : Int)) (by simp [Lit.wf, IntKind.min, IntKind.max, IntKind.signed, IntKind.bits]; omega)
      rw [noteI_beg, hn1] at this
      exact this
    have HFO : Hid (∀ n W4, Keeps noB W3 W4 → CallsIn F n Try.prog 86 #[.iface ty (.pointer (some ⟨gg, 0, none⟩)), knV (knownZ x p.1)] W4 (fun e w' => e = .returned (.int .i64 (faultZ x p.1 : Int)) ∧ Keeps noB W3 w')) := fun n W4 q4 => by
      rw [HF.out]
      exact callsIn_wide.2 ((faultOfK_any (hst3.keeps q4 hggl id) (by have := q4.size; omega) hnl2 (knownZ x p.1) hkw).mono (fun e w' h => ⟨h.1, q4.trans h.2⟩))
    have hbeg := hst3.beg
    simp [go_sem] at hbeg
    have HBG : Hid (∀ m, CallsIn F m Try.prog 193 #[.pointer (some ⟨gg, 0, none⟩)] W3 (fun e w' => e = .returned (.int .i64 (p.1.beg : Int)) ∧ w' = W3)) := fun m => by
      rw [HF.out]; exact callsIn_wide.2 (begin_any gg _ _ hst3.c0)
    have HY : Hid (∀ m W4, Keeps noB W3 W4 → YieldAt F m Try.prog l #[.int .i64 (p.1.beg : Int), .int .i64 (faultZ x p.1 : Int)] W4 (RoundEnds J Jx (pre ++ [p]) own1 W4)) := fun m W4 q4 => by
      rw [HF.out]
      exact HR.out m pre p post _ own1 W4 hall rfl (HJ.out _ _ _ _ hj3 (q4.mono (fun _ e => e.elim))) (fun k hk => Nat.lt_of_lt_of_le (hlt3 k hk) q4.size)
    have HO3 := Lib.hid ho3
    have r2 := (HL.out W3 (Keeps.refl _ _)).2.1
    clear hst hst3 b5 c5 hk13 q3 hm3 y5 hn1 hkw hnl2 hj1 hj3 ho1 ho3 hnb hall
    generalize knownZ x p.1 = kk at *
    generalize (faultZ x p.1 : Int) = ff at *
    obtain ⟨km, ku⟩ := kk
    unfold knV at HL HFO
    simp only at HL HFO
    gi_wp2
    refine CallsIn.mono (CallsIn.inRound lq (HBG.out _)) ?_
    rintro e w' ⟨rfl, rfl⟩
    gi_wp2
    refine wpIn_region_tail_class (fun W4 => Keeps noB w' W4) 8 hro (by kernel_rfl) (by kernel_rfl) (by kernel_rfl) (by kernel_rfl) (by kernel_rfl) (by kernel_rfl) (by decide) (by kernel_rfl) ((Keeps.refl _ _).drew) ?_
    simp only [List.take, List.drop]
    refine quiet_on (Value.func (.yield l) #[] #[]) (fun _ _ f _ => hFf f) rfl (fun W4 q4 => ?_) (fun K hK => ?_)
    · obtain ⟨f0, f1, f2, f3⟩ := HL.out W4 q4
      go_simp
    go_simp
    refine hK _ ?_
    clear hK K
    refine quiet_on (Value.int .i64 (p.1.beg : Int)) (fun _ _ f _ => hFf f) rfl (fun W4 q4 => ?_) (fun K hK => ?_)
    · obtain ⟨f0, f1, f2, f3⟩ := HL.out W4 q4
      go_simp
    go_simp
    refine hK _ ?_
    clear hK K
    refine quiet_on (Value.pointer (some ⟨W1.heap.size, 0, none⟩)) (fun _ _ f _ => hFf f) rfl (fun W4 q4 => ?_) (fun K hK => ?_)
    · obtain ⟨f0, f1, f2, f3⟩ := HL.out W4 q4
      go_simp
    go_simp
    refine hK _ ?_
    clear hK K
    refine quiet_on (Value.iface ty (.pointer (some ⟨gg, 0, none⟩))) (fun _ _ f _ => hFf f) rfl (fun W4 q4 => ?_) (fun K hK => ?_)
    · obtain ⟨f0, f1, f2, f3⟩ := HL.out W4 q4
      go_simp
    go_simp
    refine hK _ ?_
    clear hK K
    refine quiet_on (Value.map (some mm)) (fun _ _ f _ => hFf f) rfl (fun W4 q4 => ?_) (fun K hK => ?_)
    · obtain ⟨f0, f1, f2, f3⟩ := HL.out W4 q4
      go_simp
    go_simp
    refine hK _ ?_
    clear hK K
    refine quiet_on (Value.int .i64 (p.1.beg : Int)) (fun _ _ f _ => hFf f) rfl (fun W4 q4 => ?_) (fun K hK => ?_)
    · obtain ⟨f0, f1, f2, f3⟩ := HL.out W4 q4
      go_simp
    go_simp
    refine hK _ ?_
    clear hK K
    refine quiet_on (Value.agg #[.int .u8 (km : Int), .int .u8 (ku : Int)]) (fun _ _ f _ => hFf f) rfl (fun W4 q4 => ?_) (fun K hK => ?_)
    · obtain ⟨f0, f1, f2, f3⟩ := HL.out W4 q4
      go_simp
    go_simp
    refine hK _ ?_
    clear hK K
    refine quiet_on (Value.int .i64 ff) (fun _ _ f _ => hFf f) rfl (fun W4 q4 => ?_) (fun K hK => ?_)
    · obtain ⟨f0, f1, f2, f3⟩ := HL.out W4 q4
      go_simp
      exact HFO.out _ _ q4
    go_simp
    refine hK _ ?_
    clear hK K
    refine wpQuietIn_nil ?_
    intro W4 q4
    obtain ⟨fn2, tmps2, assign2, body2, hy2, hR2⟩ := HY.out (n - 1) W4 q4
    gi_wp2
    refine (show RoundIn (F.inRound lq) _ _ _ _ _ _ _ _ _ from hR2).mono ?_
    rintro e W6 ⟨own6, ho6, (⟨rfl, hj6⟩ | ⟨rfl, hj6⟩)⟩
    · have HE := Lib.hid (And.intro (Owns.behind q4 ho6) (And.intro hj6 ((HO3.out.ahead q4 (fun _ e => e.elim)).trans ho6)))
      clear hj6 ho6
      gi_wp2
      exact ⟨own6, HE.out.1, HE.out.2.1, HE.out.2.2⟩
    · have HE := Lib.hid (And.intro (Owns.behind q4 ho6) (And.intro hj6 ((HO3.out.ahead q4 (fun _ e => e.elim)).trans ho6)))
      clear hj6 ho6
      gi_wp2
      exact ⟨own6, HE.out.1, ⟨rfl, HE.out.2.1⟩, HE.out.2.2⟩
  case hdone =>
    rintro D own' W' hb ⟨hj', ho'⟩
    have hS := HS.out
    have hnew := hb.new
    have HD := Lib.hid hb.none
    have HE : Hid (∀ W2, Keeps (fun k => k ∈ [D]) W' W2 → Owns own own' W W2 ∧ J (x.preD 0) own' W2) := fun W2 q2 =>
      ⟨(Owns.behind HQ.out.2.2 hb.owns).ahead q2 (fun i hi => by simp at hi; omega), HJ.out _ _ _ _ hj' (q2.mono (fun i hi => by simp at hi; subst hi; exact ⟨by omega, hb.free⟩))⟩
    clear hb hj' ho'
    dsimp only
    gi_wp2
    refine leaves_marks [D] _ (by simp) (fun D' hD' => by simp at hD'; subst hD'; exact HD.out) (fun W2 q2 _ => ?_)
    exact ⟨_, results_none rfl _ _ _, _, own', rfl, (HE.out W2 q2).1, .inl (HE.out W2 q2).2⟩
  case hstop =>
    rintro D c pre post own' W' hb hall ⟨⟨rfl, hj'⟩, ho'⟩
    have hS := HS.out
    have hnew := hb.new
    have HD := Lib.hid hb.none
    have HE : Hid (∀ W2, Keeps (fun k => k ∈ [D]) W' W2 → Owns own own' W W2 ∧ Jx pre own' W2) := fun W2 q2 =>
      ⟨(Owns.behind HQ.out.2.2 hb.owns).ahead q2 (fun i hi => by simp at hi; omega), HJX.out _ _ _ _ hj' (q2.mono (fun i hi => by simp at hi; subst hi; exact ⟨by omega, hb.free⟩))⟩
    clear hb hj' ho'
    dsimp only
    gi_wp2
    refine leaves_marks [D] _ (by simp) (fun D' hD' => by simp at hD'; subst hD'; exact HD.out) (fun W2 q2 _ => ?_)
    exact ⟨_, results_none rfl _ _ _, _, own', rfl, (HE.out W2 q2).1, .inr ⟨pre, post, hall, (HE.out W2 q2).2⟩⟩

theorem FaultsOk.iter {s : ByteArray} {x : Nd} {b0 R Q : Nat} {w1 : World} (h : FaultsOk s x b0 R Q w1) (W : World) (q : Keeps noB w1 W) :
    IterAt Try.prog 85 #[ptr R, ptr Q] (x.preD 0) (encF x) (between b0 w1) W := h.iterM (may := noB) (fun _ _ e => e) W q

end Go.Proofs.Ytgpaplhbjhbfjaa
