/-
  The program's PlanAt.
-/
import Derived.Test.YtelefbdgeefcbaaYf
namespace Go.Proofs.Ytelefbdgeefcbaa
set_option linter.unusedVariables false
set_option linter.unusedSimpArgs false
open Go.RowKit Go.Shelf

attribute [local go_sem] Oper.semAt_some

/-! ### what is noted is a point -/
theorem head_pt (c : UInt8) (b e : Nat) (vs ar : List UInt8) (bs : Bds) : ∃ p ∈ (Nd.mk c b e vs ar bs).pts, p.1 = b := ⟨_, by rw [Nd.pts]; exact List.mem_cons_self .., rfl⟩
mutual
theorem Nd.note_pts : ∀ (x : Nd) (k : Kn) (j : Nat), x.Fit → (Nd.note x k j).isSome = true → ∃ p ∈ x.pts, p.1 = j
  | .mk c b e vs ar .nil, k, j, hf, h => by
    simp only [Nd.note, point_isSome, decide_eq_true_eq] at h
    rw [h]; exact head_pt _ _ _ _ _ _
  | .mk c b e vs ar (.cons x .nil), k, j, hf, h => by
    simp only [Nd.Fit] at hf
    simp only [Nd.note] at h
    have hin : ∀ k, (Nds.note x k j).isSome = true → ∃ p ∈ (Nd.mk c b e vs ar (.cons x .nil)).pts, p.1 = j := fun k hk => by
      obtain ⟨p, hp, e⟩ := Nds.note_pts x k j hf.2 hk
      exact ⟨p, by simp only [Nd.pts, Bds.pts, List.append_nil, List.mem_cons, List.mem_append]; exact .inr (.inl hp), e⟩
    split at h
    · simp only [over_isSome, point_isSome, Bool.or_eq_true, decide_eq_true_eq] at h
      rcases h with h | h
      · exact hin _ h
      · rw [h]; exact head_pt _ _ _ _ _ _
    · rename_i hc
      simp only [over_isSome, point_isSome, Bool.or_eq_true, decide_eq_true_eq] at h
      rcases h with h | h | h
      · have h123 : c = 123 := by
          rcases hf.1 with ⟨h1, _⟩ | h1
          · exact absurd h1 hc
          · exact h1
        exact ⟨(e - 1, vs), by rw [Nd.pts, if_pos h123]; simp, h.symm⟩
      · exact hin _ h
      · rw [h]; exact head_pt _ _ _ _ _ _
  | .mk c b e vs ar (.cons x (.cons y .nil)), k, j, hf, h => by
    simp only [Nd.Fit] at hf
    simp only [Nd.note, over_isSome, point_isSome, Bool.or_eq_true, decide_eq_true_eq] at h
    rcases h with h | h | h
    · obtain ⟨p, hp, e⟩ := Nds.note_pts y k j hf.2.2.2 h
      exact ⟨p, by simp only [Nd.pts, Bds.pts, List.append_nil, List.mem_cons, List.mem_append]; exact .inr (.inl (.inr hp)), e⟩
    · obtain ⟨p, hp, e⟩ := Nds.note_pts x k j hf.2.2.1 h
      exact ⟨p, by simp only [Nd.pts, Bds.pts, List.append_nil, List.mem_cons, List.mem_append]; exact .inr (.inl (.inl hp)), e⟩
    · rw [h]; exact head_pt _ _ _ _ _ _
  | .mk c b e vs ar (.cons x (.cons y (.cons u r))), k, j, hf, h => by simp only [Nd.Fit] at hf
theorem Nds.note_pts : ∀ (x : Nds) (k : Kn) (j : Nat), x.Fit → (Nds.note x k j).isSome = true → ∃ p ∈ x.pts, p.1 = j
  | .nil, k, j, _, h => by simp [Nds.note, blank] at h
  | .cons x r, k, j, hf, h => by
    simp only [Nds.Fit] at hf
    simp only [Nds.note, over_isSome, Bool.or_eq_true] at h
    rcases h with h | h
    · obtain ⟨p, hp, e⟩ := Nds.note_pts r _ j hf.2 h
      exact ⟨p, by simp only [Nds.pts, List.mem_append]; exact .inr hp, e⟩
    · obtain ⟨p, hp, e⟩ := Nd.note_pts x _ j hf.1 h
      exact ⟨p, by simp only [Nds.pts, List.mem_append]; exact .inl hp, e⟩
end

/-- The place of a point is reached exactly if a plan is told of it. -/
theorem plan_reached {s : ByteArray} {x : Nd} (hp : progP s = some x) (at_ : Int) : (knownP s at_).isSome = (planAtP s at_).isSome := by
  unfold knownP planAtP
  rw [hp]
  simp only
  cases hf : x.pts.find? (fun p => (p.1 : Int) == at_) with
  | none =>
    simp only
    have h0 := List.find?_eq_none.1 hf
    cases hn : noteI (notesP x) at_ with
    | none => rfl
    | some k =>
      exfalso
      unfold noteI at hn
      split at hn
      · rename_i hpos
        obtain ⟨p, hm, e⟩ := Nd.note_pts x ⟨0, 0⟩ at_.toNat (progP_fit hp) (by show (notesP x at_.toNat).isSome = true; rw [hn]; rfl)
        refine h0 p hm ?_
        rw [e]; simp; omega
      · cases hn
  | some p =>
    simp only
    have hm := List.mem_of_find?_eq_some hf
    have he := List.find?_some hf
    simp only [beq_iff_eq] at he
    rw [← he, noteI_nat, (pts_P hp hm).1]
    by_cases hk : knownJ x p.1 = Kn.no
    · rw [if_pos hk]; simp [seenK, hk]
    · rw [if_neg hk]; simp [seenK, hk]

theorem mem_plansL {x : Nd} {q : Pt} : q ∈ plansL x ↔ ∃ p ∈ x.pts, q = (p.1, planK (knownJ x p.1) p.2) ∧ q.2 ≠ [] := by
  unfold plansL
  simp only [List.mem_filter, List.mem_map, Bool.not_eq_true', List.isEmpty_eq_false_iff]
  constructor
  · rintro ⟨⟨p, hm, rfl⟩, h⟩; exact ⟨p, hm, rfl, h⟩
  · rintro ⟨p, hm, rfl, h⟩; exact ⟨⟨p, hm, rfl⟩, h⟩

/-- None of some points is at a place. -/
def noAt (at_ : Int) (l : List Pt) : Prop := ∀ q ∈ l, ((q.1 : Int) == at_) = false

/-- What a plan is that is told of a place, by what the iterator yields. -/
theorem plan_by {s : ByteArray} {x : Nd} (hp : progP s = some x) {at_ : Int} {pl : List UInt8} (h : planAtP s at_ = some pl) :
    (∀ q ∈ plansL x, ((q.1 : Int) == at_) = true → q.2 = pl) ∧ (noAt at_ (plansL x) → pl = []) := by
  unfold planAtP at h
  rw [hp] at h
  simp only at h
  cases hf : x.pts.find? (fun p => (p.1 : Int) == at_) with
  | none => rw [hf] at h; cases h
  | some p =>
    rw [hf] at h
    simp only at h
    have hm := List.mem_of_find?_eq_some hf
    have he := List.find?_some hf
    by_cases hk : knownJ x p.1 = Kn.no
    · rw [if_pos hk] at h; cases h
    · rw [if_neg hk] at h
      injection h with h
      refine ⟨fun q hq hqa => ?_, fun hno => ?_⟩
      · obtain ⟨p2, hm2, rfl, _⟩ := mem_plansL.1 hq
        simp only [beq_iff_eq] at he hqa
        have := asc_one (Nd.pts_asc x (progP_sp hp) (progP_fit hp)) hm hm2 (by omega)
        rw [← this, h]
      · cases hpl : pl with
        | nil => rfl
        | cons c r =>
          have hq : (p.1, planK (knownJ x p.1) p.2) ∈ plansL x := mem_plansL.2 ⟨p, hm, rfl, by rw [h, hpl]; simp⟩
          have := hno _ hq
          rw [this] at he; cases he

/-! ### PlanAt -/
theorem resPlanAt (W : World) (A B : Nat) (x : ByteArray) (b : Bool) (tmps : Array Value) (h4 : tmps.getD 4 undef = .pointer (some ⟨A, 0, none⟩)) (h5 : tmps.getD 5 undef = .pointer (some ⟨B, 0, none⟩)) (ha : W.cell? ⟨A, 0, none⟩ = some (.string x)) (hb : W.cell? ⟨B, 0, none⟩ = some (.bool b)) :
    (results Try.f35 tmps).run Try.prog W = .ok (.tuple #[.string x, .bool b]) W := by
  have h4' : tmps[4]?.getD undef = .pointer (some ⟨A, 0, none⟩) := by simpa using h4
  have h5' : tmps[5]?.getD undef = .pointer (some ⟨B, 0, none⟩) := by simpa using h5
  simp [results, Try.results35, go_sem, h4', h5', ha, hb]

/-- The three boxes of PlanAt behind its begin. -/
theorem three_planAt (w : World) (at_ : Int) : Blk (((w.alloc (.cells #[.int .i64 at_] 3)).alloc (.cells #[.string ⟨#[]⟩] 9)).alloc (.cells #[.bool false] 4)) w.heap.size #[.int .i64 at_] 3 ∧
    Blk (((w.alloc (.cells #[.int .i64 at_] 3)).alloc (.cells #[.string ⟨#[]⟩] 9)).alloc (.cells #[.bool false] 4)) (w.heap.size + 1) #[.string ⟨#[]⟩] 9 ∧
    Blk (((w.alloc (.cells #[.int .i64 at_] 3)).alloc (.cells #[.string ⟨#[]⟩] 9)).alloc (.cells #[.bool false] 4)) (w.heap.size + 2) #[.bool false] 4 ∧
    (((w.alloc (.cells #[.int .i64 at_] 3)).alloc (.cells #[.string ⟨#[]⟩] 9)).alloc (.cells #[.bool false] 4)).heap.size = w.heap.size + 3 ∧
    Keeps noB w (((w.alloc (.cells #[.int .i64 at_] 3)).alloc (.cells #[.string ⟨#[]⟩] 9)).alloc (.cells #[.bool false] 4)) := by
  have b0 := ((Blk.new w #[.int .i64 at_] 3).alloc (.cells #[.string ⟨#[]⟩] 9)).alloc (.cells #[.bool false] 4)
  have b1 := (Blk.new (w.alloc (.cells #[.int .i64 at_] 3)) #[.string ⟨#[]⟩] 9).alloc (.cells #[.bool false] 4)
  have b2 := Blk.new ((w.alloc (.cells #[.int .i64 at_] 3)).alloc (.cells #[.string ⟨#[]⟩] 9)) #[.bool false] 4
  rw [World.size_alloc] at b1
  rw [World.size_alloc, World.size_alloc] at b2
  exact ⟨b0, b1, b2, by simp, (((Keeps.refl _ _).alloc _).alloc _).alloc _⟩

/-- Two stores into the two boxes of results. -/
def put2 (W : World) (A B : Nat) (x : ByteArray) (b : Bool) : World := (W.setCell ⟨A, 0, none⟩ (.string x)).setCell ⟨B, 0, none⟩ (.bool b)
theorem put2_ok {W : World} {A B : Nat} {x0 : ByteArray} {b0 : Bool} (hA : Blk W A #[.string x0] 9) (hB : Blk W B #[.bool b0] 4) (hn : A ≠ B) (x : ByteArray) (b : Bool) :
    Blk (put2 W A B x b) A #[.string x] 9 ∧ Blk (put2 W A B x b) B #[.bool b] 4 ∧ Keeps (twoB A B) W (put2 W A B x b) := by
  unfold put2
  have c1 : Blk (W.setCell ⟨A, 0, none⟩ (.string x)) A #[.string x] 9 := by simpa using hA.set 0 (.string x)
  have c2 := hB.setOther (a := ⟨A, 0, none⟩) hn (.string x)
  have d1 := c1.setOther (a := ⟨B, 0, none⟩) hn.symm (.bool b)
  have d2 : Blk ((W.setCell ⟨A, 0, none⟩ (.string x)).setCell ⟨B, 0, none⟩ (.bool b)) B #[.bool b] 4 := by simpa using c2.set 0 (.bool b)
  exact ⟨d1, d2, ((Keeps.refl _ _).setCell (p := ⟨A, 0, none⟩) (.inl (show twoB A B A from .inl rfl)) _).setCell (p := ⟨B, 0, none⟩) (.inl (show twoB A B B from .inr rfl)) _⟩

set_option maxRecDepth 100000 in
set_option maxHeartbeats 4000000 in
theorem planAt_none (s : ByteArray) (hs : s.size ≤ 1048576) (at_ : Int) (hp : progP s = none) (w : World) : Calls Try.prog 35 #[.string s, .int .i64 at_] w (fun e w' => e = .returned (.tuple #[.string ⟨#[]⟩, .bool false]) ∧ Keeps noB w w') := by
  refine (callsIn_wide (n := 9)).1 ?_
  obtain ⟨F, hF⟩ : ∃ F, F = Fence.wide := ⟨_, rfl⟩
  have hFf : ∀ f, F.fn f := by subst hF; exact fun _ => trivial
  have hdd : ∀ k : Nat, (F.depth.isSome = true → 1 ≤ k) := by subst hF; intro k h; simp [Fence.wide] at h
  have hro : F.round = none := by subst hF; rfl
  have hds : F.depth.isSome = false := by subst hF; rfl
  have HC : Hid (∀ m w, CallsIn F m Try.prog 64 #[.string s] w (PlansPost s w none)) := fun m w => by
    rw [hF]; have := plansOf_any s hs w; rw [hp] at this; exact callsIn_wide.2 this
  rw [← hF]
  have HF := Lib.hid hF
  clear hF
  refine callsIn_of_wp_marks Try.func35 rfl (hFf _) ?_ hro
  simp only [Try.ntmps35, List.size_toArray, List.length_cons, List.length_nil, Nat.reduceAdd, Nat.reduceSub, Array.replicate_succ, Array.replicate_zero, List.push_toArray, List.append_toArray, List.nil_append, List.cons_append]
  obtain ⟨t0, t1, t2, t3, t4⟩ := three_planAt w at_
  gi_wp2
  refine (HC.out _ _).mono ?_
  rintro e w1 ⟨rfl, q1⟩
  have b1 := q1.blk t1 id
  have b2 := q1.blk t2 id
  have k1 := t4.trans q1
  have y1 := b1.cell 0
  have z1 := b1.free 0
  have y2 := b2.cell 0
  have z2 := b2.free 0
  simp at y1 y2
  obtain ⟨d1, d2, d3⟩ := put2_ok b1 b2 (by omega) ⟨#[]⟩ false
  have HE : Hid (∀ W2, Keeps (fun k => k ∈ []) (put2 w1 (w.heap.size + 1) (w.heap.size + 2) ⟨#[]⟩ false) W2 → W2.cell? ⟨w.heap.size + 1, 0, none⟩ = some (.string ⟨#[]⟩) ∧ W2.cell? ⟨w.heap.size + 2, 0, none⟩ = some (.bool false) ∧ Keeps noB w W2) := fun W2 q =>
    ⟨((q.blk d1 (fun e => by cases e)).cell 0).trans rfl, ((q.blk d2 (fun e => by cases e)).cell 0).trans rfl, (k1.transNew d3 (fun i hi e => by rcases e with e | e <;> omega)).trans (q.mono (fun _ e => by cases e))⟩
  clear d1 d2 d3 b1 b2 k1 q1 t0 t1 t2 t3 t4
  gi_wp2
  refine leaves_marks [] _ List.nodup_nil (fun _ h => by cases h) (fun W' q _ => ?_)
  obtain ⟨e1, e2, e3⟩ := HE.out W' q
  exact ⟨_, resPlanAt W' _ _ _ _ _ rfl rfl e1 e2, rfl, e3⟩

set_option maxRecDepth 100000 in
set_option maxHeartbeats 4000000 in
theorem planAt_dead (s : ByteArray) (hs : s.size ≤ 1048576) (at_ : Int) (ha : (Lit.int .i64 at_).wf = true) (x : Nd) (hp : progP s = some x) (hpl : planAtP s at_ = none) (w : World) : Calls Try.prog 35 #[.string s, .int .i64 at_] w (fun e w' => e = .returned (.tuple #[.string ⟨#[]⟩, .bool false]) ∧ Keeps noB w w') := by
  refine (callsIn_wide (n := 9)).1 ?_
  obtain ⟨F, hF⟩ : ∃ F, F = Fence.wide := ⟨_, rfl⟩
  have hFf : ∀ f, F.fn f := by subst hF; exact fun _ => trivial
  have hdd : ∀ k : Nat, (F.depth.isSome = true → 1 ≤ k) := by subst hF; intro k h; simp [Fence.wide] at h
  have hro : F.round = none := by subst hF; rfl
  have hds : F.depth.isSome = false := by subst hF; rfl
  have HC : Hid (∀ m w, CallsIn F m Try.prog 64 #[.string s] w (PlansPost s w (some x))) := fun m w => by
    rw [hF]; have := plansOf_any s hs w; rw [hp] at this; exact callsIn_wide.2 this
  have HI : Hid (∀ m w, CallsIn F m Try.prog 65 #[.string s, .int .i64 at_] w (fun e w' => e = .returned (.bool false) ∧ Keeps noB w w')) := fun m w => by
    have e := plan_reached hp at_; rw [hpl] at e; have e : (knownP s at_).isSome = false := e; rw [hF, ← e]; exact callsIn_wide.2 (isReachedF_any s hs at_ ha w)
  rw [← hF]
  have HF := Lib.hid hF
  clear hF
  refine callsIn_of_wp_marks Try.func35 rfl (hFf _) ?_ hro
  simp only [Try.ntmps35, List.size_toArray, List.length_cons, List.length_nil, Nat.reduceAdd, Nat.reduceSub, Array.replicate_succ, Array.replicate_zero, List.push_toArray, List.append_toArray, List.nil_append, List.cons_append]
  clear ha hp hpl
  obtain ⟨t0, t1, t2, t3, t4⟩ := three_planAt w at_
  gi_wp2
  refine (HC.out _ _).mono ?_
  rintro e w1 ⟨R, Q, rfl, hok, q1⟩
  have HOK := Lib.hid hok
  have q1s := q1.size
  rw [t3] at q1s hok
  have b0 := q1.blk t0 id
  have b1 := q1.blk t1 id
  have b2 := q1.blk t2 id
  have k1 := t4.trans q1
  rw [t3] at HOK
  clear hok q1 t0 t1 t2 t3 t4
  obtain ⟨M, hM⟩ : ∃ M, M = w.heap.size := ⟨_, rfl⟩
  rw [← hM] at b0 b1 b2 q1s HOK
  have y0 := b0.cell 0
  have y1 := b1.cell 0
  have z1 := b1.free 0
  have y2 := b2.cell 0
  have z2 := b2.free 0
  simp at y0 y1 y2
  have HK1 := Lib.hid (And.intro k1 hM)
  rw [← hM]
  clear k1 hM
  gi_wp2
  refine (HI.out _ _).mono ?_
  rintro e w2 ⟨rfl, q2⟩
  have c0 := q2.blk b0 id
  have c1 := q2.blk b1 id
  have c2 := q2.blk b2 id
  have y1 := c1.cell 0
  have z1 := c1.free 0
  have y2 := c2.cell 0
  have z2 := c2.free 0
  simp at y1 y2
  obtain ⟨d1, d2, d3⟩ := put2_ok c1 c2 (by omega) ⟨#[]⟩ false
  have HE : Hid (∀ W2, Keeps (fun k => k ∈ []) (put2 w2 (M + 1) (M + 2) ⟨#[]⟩ false) W2 → W2.cell? ⟨M + 1, 0, none⟩ = some (.string ⟨#[]⟩) ∧ W2.cell? ⟨M + 2, 0, none⟩ = some (.bool false) ∧ Keeps noB w W2) := fun W2 q => by
    have e1 := HK1.out.2
    exact ⟨((q.blk d1 (fun e => by cases e)).cell 0).trans rfl, ((q.blk d2 (fun e => by cases e)).cell 0).trans rfl, ((HK1.out.1.trans q2).transNew d3 (fun i hi e => by rcases e with e | e <;> omega)).trans (q.mono (fun _ e => by cases e))⟩
  clear d1 d2 d3 c0 c1 c2 b0 b1 b2 q2
  gi_wp2
  refine leaves_marks [] _ List.nodup_nil (fun _ h => by cases h) (fun W' q _ => ?_)
  obtain ⟨e1, e2, e3⟩ := HE.out W' q
  exact ⟨_, resPlanAt W' _ _ _ _ _ rfl rfl e1 e2, rfl, e3⟩
set_option maxRecDepth 100000 in
set_option maxHeartbeats 4000000 in
theorem planAt_live (s : ByteArray) (hs : s.size ≤ 1048576) (at_ : Int) (ha : (Lit.int .i64 at_).wf = true) (x : Nd) (hp : progP s = some x) (pl : List UInt8) (hpl : planAtP s at_ = some pl) (w : World) : Calls Try.prog 35 #[.string s, .int .i64 at_] w (fun e w' => e = .returned (.tuple #[.string ⟨pl.toArray⟩, .bool true]) ∧ Keeps noB w w') := by
  refine (callsIn_wide (n := 9)).1 ?_
  obtain ⟨F, hF⟩ : ∃ F, F = Fence.wide := ⟨_, rfl⟩
  have hFf : ∀ f, F.fn f := by subst hF; exact fun _ => trivial
  have hdd : ∀ k : Nat, (F.depth.isSome = true → 1 ≤ k) := by subst hF; intro k h; simp [Fence.wide] at h
  have hro : F.round = none := by subst hF; rfl
  have hds : F.depth.isSome = false := by subst hF; rfl
  have HC : Hid (∀ m w, CallsIn F m Try.prog 64 #[.string s] w (PlansPost s w (some x))) := fun m w => by
    rw [hF]; have := plansOf_any s hs w; rw [hp] at this; exact callsIn_wide.2 this
  have HI : Hid (∀ m w, CallsIn F m Try.prog 65 #[.string s, .int .i64 at_] w (fun e w' => e = .returned (.bool true) ∧ Keeps noB w w')) := fun m w => by
    have e := plan_reached hp at_; rw [hpl] at e; have e : (knownP s at_).isSome = true := e; rw [hF, ← e]; exact callsIn_wide.2 (isReachedF_any s hs at_ ha w)
  have HB : Hid ((∀ q ∈ plansL x, ((q.1 : Int) == at_) = true → q.2 = pl) ∧ (noAt at_ (plansL x) → pl = [])) := plan_by hp hpl
  rw [← hF]
  have HF := Lib.hid hF
  clear hF
  refine callsIn_of_wp_marks Try.func35 rfl (hFf _) ?_ hro
  simp only [Try.ntmps35, List.size_toArray, List.length_cons, List.length_nil, Nat.reduceAdd, Nat.reduceSub, Array.replicate_succ, Array.replicate_zero, List.push_toArray, List.append_toArray, List.nil_append, List.cons_append]
  clear ha hp hpl
  obtain ⟨t0, t1, t2, t3, t4⟩ := three_planAt w at_
  gi_wp2
  refine (HC.out _ _).mono ?_
  rintro e w1 ⟨R, Q, rfl, hok, q1⟩
  have HOK := Lib.hid hok
  have q1s := q1.size
  rw [t3] at q1s hok
  have b0 := q1.blk t0 id
  have b1 := q1.blk t1 id
  have b2 := q1.blk t2 id
  have k1 := t4.trans q1
  rw [t3] at HOK
  clear hok q1 t0 t1 t2 t3 t4
  obtain ⟨M, hM⟩ : ∃ M, M = w.heap.size := ⟨_, rfl⟩
  rw [← hM] at b0 b1 b2 q1s HOK
  have y0 := b0.cell 0
  have y1 := b1.cell 0
  have z1 := b1.free 0
  have y2 := b2.cell 0
  have z2 := b2.free 0
  simp at y0 y1 y2
  have HK1 := Lib.hid (And.intro k1 hM)
  rw [← hM]
  clear k1 hM
  gi_wp2
  refine (HI.out _ _).mono ?_
  rintro e w2 ⟨rfl, q2⟩
  have c0 := q2.blk b0 id
  have c1 := q2.blk b1 id
  have c2 := q2.blk b2 id
  have q2s := q2.size
  have HQ2 := Lib.hid q2
  clear b0 b1 b2 q2 y0 y1 y2 z1 z2
  gi_wp2
  refine wp_range HF.out (gf := 94) (lb := #[ptr R, ptr Q]) (all := plansL x) (enc := encU) (prot := between (M + 3) w1) (own := twoB (M + 1) (M + 2))
    rfl (enters_of Try.func94 (by kernel_rfl) rfl)
    (fun W q => HOK.out.iterM (may := noB) (fun _ _ e => e) W (HQ2.out.trans q))
    (fun pre own W' => own = twoB (M + 1) (M + 2) ∧ Owns (twoB (M + 1) (M + 2)) own w2 W' ∧ Blk W' (M + 1) #[.string ⟨#[]⟩] 9 ∧ Blk W' (M + 2) #[.bool false] 4 ∧ noAt at_ pre) (fun c pre own W' => c = .ret ∧ Owns (twoB (M + 1) (M + 2)) own w2 W' ∧ Blk W' (M + 1) #[.string ⟨pl.toArray⟩] 9 ∧ Blk W' (M + 2) #[.bool true] 4) ?hI ?hIx ?hown ?hprot ?hps ?h0 ?hround ?hdone ?hstop
  case hI =>
    rintro pre own W W' ⟨rfl, h3, h4, h5, h6⟩ q
    exact ⟨rfl, h3.ahead q (fun i e => e.1), q.blk h4 (fun e => by have := e.1; omega), q.blk h5 (fun e => by have := e.1; omega), h6⟩
  case hIx =>
    rintro c pre own W W' ⟨h0, h3, h4, h5⟩ q
    exact ⟨h0, h3.ahead q (fun i e => e.1), q.blk h4 (fun e => by have := e.1; omega), q.blk h5 (fun e => by have := e.1; omega)⟩
  case hown => rintro k (rfl | rfl) <;> omega
  case hprot => intro k hk; exact ⟨fun e => by have := hk.1; rcases e with e | e <;> omega, by have := hk.2; omega⟩
  case hps => rintro y args rfl; rfl
  case h0 => exact ⟨rfl, Owns.refl (by rintro k (rfl | rfl) <;> omega), c1, c2, fun p hp => by cases hp⟩
  case hround =>
    rintro l n pre p post args own1 W1 hall henc ⟨rfl, ho1, hb1, hb2, hpre⟩ hlt hl hnl hll
    unfold encU at henc
    subst henc
    have hpm : p ∈ plansL x := by rw [hall]; simp
    have HPV := Lib.hid (HB.out.1 p hpm)
    clear hall hpm
    gi_wp2
    refine ⟨Keeps.refl _ _, fun W3 q3 hs3 => ?_⟩
    clear hs3
    have hk13 : Keeps (fun k => w2.heap.size ≤ k ∧ ¬ twoB (M + 1) (M + 2) k) W1 W3 := q3.mono (fun k e => by obtain rfl : k = l := e; exact ⟨hl, hnl⟩)
    have ho3 := ho1.ahead hk13 (fun i e => e.1)
    have d0 : Blk W3 M #[.int .i64 at_] 3 := ho3.keeps.blk c0 (fun e => by rcases e with e | e <;> omega)
    have d1 := hk13.blk hb1 (fun e => by have := e.1; omega)
    have d2 := hk13.blk hb2 (fun e => by have := e.1; omega)
    have y0 := d0.cell 0
    have y1 := d1.cell 0
    have z1 := d1.free 0
    have y2 := d2.cell 0
    have z2 := d2.free 0
    simp at y0 y1 y2
    cases hkk : ((p.1 : Int) == at_) with
    | true =>
      obtain ⟨f1, f2, f3⟩ := put2_ok d1 d2 (by omega) ⟨p.2.toArray⟩ true
      have HE : Hid (Owns (twoB (M + 1) (M + 2)) (twoB (M + 1) (M + 2)) W3 (put2 W3 (M + 1) (M + 2) ⟨p.2.toArray⟩ true) ∧ Owns (twoB (M + 1) (M + 2)) (twoB (M + 1) (M + 2)) w2 (put2 W3 (M + 1) (M + 2) ⟨p.2.toArray⟩ true) ∧ Blk (put2 W3 (M + 1) (M + 2) ⟨p.2.toArray⟩ true) (M + 1) #[.string ⟨pl.toArray⟩] 9 ∧ Blk (put2 W3 (M + 1) (M + 2) ⟨p.2.toArray⟩ true) (M + 2) #[.bool true] 4) := by
        have hk : Owns (twoB (M + 1) (M + 2)) (twoB (M + 1) (M + 2)) W3 (put2 W3 (M + 1) (M + 2) ⟨p.2.toArray⟩ true) := ⟨fun k e => .inl e, fun k e => Nat.lt_of_lt_of_le (ho3.lt k e) f3.size, f3⟩
        refine ⟨hk, ho3.trans hk, ?_, f2⟩
        have e2 : (#[Value.string ⟨pl.toArray⟩] : Array Value) = #[Value.string ⟨p.2.toArray⟩] := by rw [HPV.out hkk]
        rw [e2]; exact f1
      clear f1 f2 f3 d0 d1 d2 ho3 hk13 ho1 hb1 hb2 HPV
      gi_wp2
      exact ⟨_, HE.out.1, rfl, HE.out.2.1, HE.out.2.2.1, HE.out.2.2.2⟩
    | false =>
      have HE : Hid (Owns (twoB (M + 1) (M + 2)) (twoB (M + 1) (M + 2)) W3 W3 ∧ (Owns (twoB (M + 1) (M + 2)) (twoB (M + 1) (M + 2)) w2 W3 ∧ Blk W3 (M + 1) #[.string ⟨#[]⟩] 9 ∧ Blk W3 (M + 2) #[.bool false] 4 ∧ noAt at_ (pre ++ [p]))) := by
        refine ⟨Owns.refl ho3.lt, ho3, d1, d2, fun q hq => ?_⟩
        rcases List.mem_append.1 hq with hq | hq
        · exact hpre q hq
        · simp at hq; subst hq; exact hkk
      clear d0 d1 d2 ho3 hk13 ho1 hb1 hb2 HPV
      gi_wp2
      exact ⟨_, HE.out.1, rfl, HE.out.2⟩
  case hdone =>
    rintro D own' W' hb ⟨rfl, ho, hb1, hb2, hno⟩
    have hn := hb.new
    have hDl : D < W'.heap.size := (Array.getElem?_eq_some_iff.1 hb.none).1
    obtain ⟨f1, f2, f3⟩ := put2_ok hb1 hb2 (by omega) ⟨#[]⟩ true
    have HNIL := Lib.hid (HB.out.2 hno)
    have HD : Hid ((put2 W' (M + 1) (M + 2) ⟨#[]⟩ true).heap[D]? = some (.deferred (some []))) := (f3.block D hDl (fun e => by rcases e with e | e <;> omega)).trans hb.none
    have HE : Hid (∀ W2, Keeps (fun k => k ∈ [D]) (put2 W' (M + 1) (M + 2) ⟨#[]⟩ true) W2 → W2.cell? ⟨M + 1, 0, none⟩ = some (.string ⟨#[]⟩) ∧ W2.cell? ⟨M + 2, 0, none⟩ = some (.bool true) ∧ Keeps noB w W2) := fun W2 q => by
      have e1 := HK1.out.2
      exact ⟨((q.blk f1 (fun e => by simp at e; omega)).cell 0).trans rfl, ((q.blk f2 (fun e => by simp at e; omega)).cell 0).trans rfl, (((HK1.out.1.trans HQ2.out).transNew ho.keeps (fun i hi e => by rcases e with e | e <;> omega)).transNew f3 (fun i hi e => by rcases e with e | e <;> omega)).transNew q (fun i hi e => by simp at e; omega)⟩
    have y1 := hb1.cell 0
    have z1 := hb1.free 0
    have y2 := hb2.cell 0
    have z2 := hb2.free 0
    simp at y1 y2
    clear f1 f2 f3 hb1 hb2 ho hb hno
    dsimp only
    gi_wp2
    refine leaves_marks [D] _ (by simp) (fun D' hD' => by simp at hD'; subst hD'; exact HD.out) (fun W2 q _ => ?_)
    obtain ⟨e1, e2, e3⟩ := HE.out W2 q
    refine ⟨_, resPlanAt W2 _ _ _ _ _ rfl rfl e1 e2, ?_, e3⟩
    have hnil := HNIL.out
    subst hnil
    rfl
  case hstop =>
    rintro D c pre post own' W' hb hall ⟨rfl, ho, hb1, hb2⟩
    have hn := hb.new
    have HE : Hid (∀ W2, Keeps (fun k => k ∈ [D]) W' W2 → W2.cell? ⟨M + 1, 0, none⟩ = some (.string ⟨pl.toArray⟩) ∧ W2.cell? ⟨M + 2, 0, none⟩ = some (.bool true) ∧ Keeps noB w W2) := fun W2 q => by
      have e1 := HK1.out.2
      exact ⟨((q.blk hb1 (fun e => by simp at e; omega)).cell 0).trans rfl, ((q.blk hb2 (fun e => by simp at e; omega)).cell 0).trans rfl, ((HK1.out.1.trans HQ2.out).transNew ho.keeps (fun i hi e => by rcases e with e | e <;> omega)).transNew q (fun i hi e => by simp at e; omega)⟩
    have HD := Lib.hid hb.none
    clear hb1 hb2 ho hb hall
    dsimp only
    gi_wp2
    refine leaves_marks [D] _ (by simp) (fun D' hD' => by simp at hD'; subst hD'; exact HD.out) (fun W2 q _ => ?_)
    obtain ⟨e1, e2, e3⟩ := HE.out W2 q
    exact ⟨_, resPlanAt W2 _ _ _ _ _ rfl rfl e1 e2, rfl, e3⟩

theorem planAt_any (s : ByteArray) (hs : s.size ≤ 1048576) (at_ : Int) (ha : (Lit.int .i64 at_).wf = true) (w : World) : Calls Try.prog 35 #[.string s, .int .i64 at_] w (fun e w' => e = .returned (.tuple #[.string ⟨((planAtP s at_).getD []).toArray⟩, .bool (planAtP s at_).isSome]) ∧ Keeps noB w w') := by
  cases hp : progP s with
  | none =>
    have e : planAtP s at_ = none := by unfold planAtP; rw [hp]
    rw [e]; exact planAt_none s hs at_ hp w
  | some x =>
    cases hpl : planAtP s at_ with
    | none => exact planAt_dead s hs at_ ha x hp hpl w
    | some pl => exact planAt_live s hs at_ ha x hp pl hpl w

end Go.Proofs.Ytelefbdgeefcbaa
