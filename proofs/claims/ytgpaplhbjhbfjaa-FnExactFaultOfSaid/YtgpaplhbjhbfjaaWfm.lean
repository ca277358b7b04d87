/-
  The program's FaultOf.
-/
import Derived.Test.YtgpaplhbjhbfjaaWrWm
namespace Go.Proofs.Ytgpaplhbjhbfjaa
set_option linter.unusedVariables false
set_option linter.unusedSimpArgs false
open Go.RowKit Go.Shelf

attribute [local go_sem] Oper.semAt_some

theorem resFO (W : World) (b : Nat) (v : Int) (tmps : Array Value) (h1 : tmps.getD 4 undef = .pointer (some ⟨b, 0, none⟩)) (hb : W.cell? ⟨b, 0, none⟩ = some (.int .i64 v)) :
    (results Try.f30 tmps).run Try.prog W = .ok (.int .i64 v) W := by
  have h1' : tmps[4]?.getD undef = .pointer (some ⟨b, 0, none⟩) := by simpa using h1
  simp [results, Try.results30, go_sem, h1', hb]

/-- So far no step begins there. -/
def FaultI (N : Nat) (at_ : Int) (w1 : World) (pre : List PN) (own : Nat → Prop) (W' : World) : Prop :=
  own = oneB N ∧ Owns (oneB N) own w1 W' ∧ Blk W' N #[.int .i64 0] 3 ∧ ∀ p ∈ pre, ((p.1.beg : Int) == at_) = false
/-- It has been found. -/
def FaultX (N : Nat) (x : Nd) (at_ : Int) (w1 : World) (c : Code) (pre : List PN) (own : Nat → Prop) (W' : World) : Prop :=
  c = .ret ∧ own = oneB N ∧ Owns (oneB N) own w1 W' ∧ ∃ pre' p, pre = pre' ++ [p] ∧ (∀ q ∈ pre', ((q.1.beg : Int) == at_) = false) ∧ ((p.1.beg : Int) == at_) = true ∧ Blk W' N #[.int .i64 (faultZ x p.1 : Int)] 3

set_option maxRecDepth 100000 in
set_option maxHeartbeats 4000000 in
theorem faultOfP_none (s : ByteArray) (hs : s.size ≤ 1048576) (at_ : Int) (hp : progP s = none) (w : World) : Calls Try.prog 30 #[.string s, .int .i64 at_] w (fun e w' => e = .returned (.int .i64 (-1)) ∧ Keeps noB w w') := by
  refine (callsIn_wide (n := 9)).1 ?_
  obtain ⟨F, hF⟩ : ∃ F, F = Fence.wide := ⟨_, rfl⟩
  have hFf : ∀ f, F.fn f := by subst hF; exact fun _ => trivial
  have hdd : ∀ k : Nat, (F.depth.isSome = true → 1 ≤ k) := by subst hF; intro k h; simp [Fence.wide] at h
  have hro : F.round = none := by subst hF; rfl
  have hds : F.depth.isSome = false := by subst hF; rfl
  have HC : Hid (∀ m w, CallsIn F m Try.prog 61 #[.string s] w (FaultsPost s w none)) := fun m w => by
    rw [hF]; exact callsIn_wide.2 (faultsOf_none s hs hp w)
  rw [← hF]
  clear hF
  refine callsIn_of_wp_marks Try.func30 rfl (hFf _) ?_ hro
  simp only [Try.ntmps30, List.size_toArray, List.length_cons, List.length_nil, Nat.reduceAdd, Nat.reduceSub, Array.replicate_succ, Array.replicate_zero, List.push_toArray, List.append_toArray, List.nil_append, List.cons_append]
  have HB2 := Lib.hid (Blk.new (w.alloc (.cells #[.int .i64 at_] 3)) #[.int .i64 0] 3)
  have HK0 := Lib.hid (((Keeps.refl noB w).alloc (.cells #[.int .i64 at_] 3)).alloc (.cells #[.int .i64 0] 3))
  gi_wp2
  refine (HC.out _ _).mono ?_
  rintro e w1 ⟨rfl, q1⟩
  have b2 := q1.blk HB2.out id
  have k1 := HK0.out.trans q1
  rw [World.size_alloc] at b2
  have z0 := b2.free 0
  have y0 : w1.cell? ⟨w.heap.size + 1, 0, none⟩ = some (.int .i64 0) := (b2.cell 0).trans rfl
  have HE : Hid (∀ W2, Keeps (fun k => k ∈ []) (w1.setCell ⟨w.heap.size + 1, 0, none⟩ (.int .i64 (-1))) W2 → W2.cell? ⟨w.heap.size + 1, 0, none⟩ = some (.int .i64 (-1)) ∧ Keeps noB w W2) := fun W2 q =>
    ⟨((q.blk (b2.set 0 (.int .i64 (-1))) (fun e => by cases e)).cell 0).trans rfl, (k1.setCell (.inr (by show w.heap.size ≤ w.heap.size + 1; omega)) _).trans (q.mono (fun _ e => by cases e))⟩
  clear b2 k1 q1
  gi_wp2
  refine leaves_marks [] _ List.nodup_nil (fun _ h => by cases h) (fun W' q _ => ?_)
  obtain ⟨e1, e2⟩ := HE.out W' q
  exact ⟨_, resFO W' _ _ _ rfl e1, rfl, e2⟩

set_option maxRecDepth 100000 in
set_option maxHeartbeats 4000000 in
theorem faultOfP_some (s : ByteArray) (hs : s.size ≤ 1048576) (at_ : Int) (x : Nd) (hp : progP s = some x) (w : World) : Calls Try.prog 30 #[.string s, .int .i64 at_] w (fun e w' => e = .returned (.int .i64 (faultNoP s at_)) ∧ Keeps noB w w') := by
  refine (callsIn_wide (n := 9)).1 ?_
  obtain ⟨F, hF⟩ : ∃ F, F = Fence.wide := ⟨_, rfl⟩
  have hFf : ∀ f, F.fn f := by subst hF; exact fun _ => trivial
  have hdd : ∀ k : Nat, (F.depth.isSome = true → 1 ≤ k) := by subst hF; intro k h; simp [Fence.wide] at h
  have hro : F.round = none := by subst hF; rfl
  have hds : F.depth.isSome = false := by subst hF; rfl
  have HC : Hid (∀ m w, CallsIn F m Try.prog 61 #[.string s] w (FaultsPost s w (some x))) := fun m w => by
    rw [hF]; exact callsIn_wide.2 (faultsOf_some s hs x hp w)
  have HPP : Hid (faultNoP s at_ = match (x.preD 0).find? (fun p => (p.1.beg : Int) == at_) with | none => -1 | some p => (faultZ x p.1 : Int)) := by unfold faultNoP; rw [hp]; exact rfl
  rw [← hF]
  have HF := Lib.hid hF
  clear hF hp
  refine callsIn_of_wp_marks Try.func30 rfl (hFf _) ?_ hro
  simp only [Try.ntmps30, List.size_toArray, List.length_cons, List.length_nil, Nat.reduceAdd, Nat.reduceSub, Array.replicate_succ, Array.replicate_zero, List.push_toArray, List.append_toArray, List.nil_append, List.cons_append]
  have HB0 := Lib.hid ((Blk.new w #[.int .i64 at_] 3).alloc (.cells #[.int .i64 0] 3))
  have HB2 := Lib.hid (Blk.new (w.alloc (.cells #[.int .i64 at_] 3)) #[.int .i64 0] 3)
  have HK0 := Lib.hid (((Keeps.refl noB w).alloc (.cells #[.int .i64 at_] 3)).alloc (.cells #[.int .i64 0] 3))
  gi_wp2
  refine (HC.out _ _).mono ?_
  rintro e w1 ⟨R, Q, rfl, hfo, q1⟩
  have b0 := q1.blk HB0.out id
  have b2 := q1.blk HB2.out id
  have k1 := HK0.out.trans q1
  have hM1 := q1.size
  rw [World.size_alloc] at b2
  rw [World.size_alloc, World.size_alloc] at hM1 hfo
  obtain ⟨M, hM⟩ : ∃ M, M = w.heap.size := ⟨_, rfl⟩
  rw [← hM] at b0 b2 hM1 hfo ⊢
  have HQ := Lib.hid (And.intro k1 hM)
  have HFO := Lib.hid hfo
  clear q1 k1 hM hfo
  unfold ptr
  gi_wp2
  refine wp_range HF.out (gf := 85) (lb := #[ptr R, ptr Q]) (all := x.preD 0) (enc := encF x) (prot := between (M + 1 + 1) w1) (own := oneB (M + 1))
    rfl (enters_of Try.func85 (by kernel_rfl) rfl) (fun W q => HFO.out.iter W q) (FaultI (M + 1) at_ w1) (FaultX (M + 1) x at_ w1) ?hI ?hIx ?hown ?hprot ?hps ?h0 ?hround ?hdone ?hstop
  case hI =>
    rintro pre own W W' ⟨rfl, h3, h4, h6⟩ q
    exact ⟨rfl, h3.ahead q (fun i e => e.1), q.blk h4 (fun e => by have := e.1; omega), h6⟩
  case hIx =>
    rintro c pre own W W' ⟨h0, rfl, h3, pre', p, h4, h5, h6, h7⟩ q
    exact ⟨h0, rfl, h3.ahead q (fun i e => e.1), pre', p, h4, h5, h6, q.blk h7 (fun e => by have := e.1; omega)⟩
  case hown => rintro k rfl; omega
  case hprot => intro k hk; exact ⟨fun e => by have := hk.1; have : k = M + 1 := e; omega, hk.2⟩
  case hps => rintro y args rfl; rfl
  case h0 => exact ⟨rfl, Owns.refl (by rintro k rfl; omega), b2, fun p hp => by cases hp⟩
  case hround =>
    rintro l n pre p post args own1 W1 hall henc ⟨rfl, h3, h4, h6⟩ hlt hl hnl hll
    obtain rfl := henc
    have f0 := h3.keeps.blk b0 (fun e => by have : M = M + 1 := e; omega)
    have HW := Lib.hid (And.intro hl (And.intro hnl hll))
    clear hall
    obtain ⟨ff, hff⟩ : ∃ ff : Int, ff = (faultZ x p.1 : Int) := ⟨_, rfl⟩
    rw [← hff]
    have HFF := Lib.hid hff
    clear hff
    gi_wp2
    refine ⟨Keeps.refl _ _, fun W3 q3 hs3 => ?_⟩
    obtain ⟨hl, hnl, hll⟩ := HW.out
    have hk13 : Keeps (fun k => w1.heap.size ≤ k ∧ ¬ oneB (M + 1) k) W1 W3 := q3.mono (fun k e => by obtain rfl : k = l := e; exact ⟨hl, hnl⟩)
    have c4 := hk13.blk h4 (fun e => by have := e.1; omega)
    have c0 := hk13.blk f0 (fun e => by have := e.1; omega)
    have HK3 : Owns (oneB (M + 1)) (oneB (M + 1)) w1 W3 := h3.ahead hk13 (fun i e => e.1)
    have z0 := c4.free 0
    have y1 : W3.cell? ⟨M + 1, 0, none⟩ = some (.int .i64 0) := (c4.cell 0).trans rfl
    have y0 : W3.cell? ⟨M, 0, none⟩ = some (.int .i64 at_) := (c0.cell 0).trans rfl
    have HY1 : Hid (((p.1.beg : Int) == at_) = true → ff = (faultZ x p.1 : Int) → ∃ own', Owns (oneB (M + 1)) own' W3 (W3.setCell ⟨M + 1, 0, none⟩ (.int .i64 ff)) ∧ FaultX (M + 1) x at_ w1 .ret (pre ++ [p]) own' (W3.setCell ⟨M + 1, 0, none⟩ (.int .i64 ff))) := by
      intro hkk hff
      have hk : Owns (oneB (M + 1)) (oneB (M + 1)) W3 (W3.setCell ⟨M + 1, 0, none⟩ (.int .i64 ff)) := ⟨fun k e => .inl e, by rintro k rfl; simpa [World.setCell] using c4.lt, (Keeps.refl _ _).setCell (.inl (show oneB (M + 1) (M + 1) from rfl)) _⟩
      refine ⟨_, hk, rfl, rfl, HK3.trans hk, pre, p, rfl, h6, hkk, ?_⟩
      rw [← hff]
      exact c4.set 0 (.int .i64 ff)
    have HY2 : Hid (((p.1.beg : Int) == at_) = false → ∃ own', Owns (oneB (M + 1)) own' W3 W3 ∧ FaultI (M + 1) at_ w1 (pre ++ [p]) own' W3) := by
      intro hkk
      refine ⟨_, Owns.refl (by rintro k rfl; exact c4.lt), rfl, HK3, c4, fun q hq => ?_⟩
      rcases List.mem_append.1 hq with hq | hq
      · exact h6 q hq
      · simp at hq; subst hq; exact hkk
    clear HK3 c4 c0 h3 h4 h6 hk13 q3 f0 b0 b2
    cases hkk : ((p.1.beg : Int) == at_) with
    | true =>
      have HE := Lib.hid (HY1.out hkk HFF.out)
      clear HY1 HY2
      gi_wp2
      exact HE.out
    | false =>
      have HE := Lib.hid (HY2.out hkk)
      clear HY1 HY2
      gi_wp2
      exact HE.out
  case hdone =>
    rintro D own' W' hb ⟨rfl, h3, h4, h6⟩
    have hres : faultNoP s at_ = -1 := by rw [HPP.out, find_none h6]
    have hnew := hb.new
    have z0 := h4.free 0
    have y0 : W'.cell? ⟨M + 1, 0, none⟩ = some (.int .i64 0) := (h4.cell 0).trans rfl
    have HE : Hid (∀ W2, Keeps (fun k => k ∈ [D]) (W'.setCell ⟨M + 1, 0, none⟩ (.int .i64 (-1))) W2 → W2.cell? ⟨M + 1, 0, none⟩ = some (.int .i64 (-1)) ∧ Keeps noB w W2) := fun W2 q => by
      have k2 : Keeps noB w W' := HQ.out.1.transNew h3.keeps (fun i hi e => by have := HQ.out.2; have : i = M + 1 := e; omega)
      exact ⟨((q.blk (h4.set 0 (.int .i64 (-1))) (fun e => by simp at e; omega)).cell 0).trans rfl, (k2.setCell (.inr (by show w.heap.size ≤ M + 1; have := HQ.out.2; omega)) _).transNew q (fun i hi e => by simp at e; have := HQ.out.2; omega)⟩
    have hD : (W'.setCell ⟨M + 1, 0, none⟩ (.int .i64 (-1))).heap[D]? = some (.deferred (some [])) := by
      rw [Below.heap_setCell _ _ _ _ (show D ≠ M + 1 by omega)]
      exact hb.none
    have HD := Lib.hid hD
    have HRES := Lib.hid hres
    clear h3 h4 h6 hb hres hD hnew
    dsimp only
    gi_wp2
    refine leaves_marks [D] _ (by simp) (fun D' hD' => by simp at hD'; subst hD'; exact HD.out) (fun W2 q _ => ?_)
    obtain ⟨e1, e2⟩ := HE.out W2 q
    exact ⟨_, resFO W2 _ _ _ rfl e1, by rw [HRES.out], e2⟩
  case hstop =>
    rintro D c pre post own' W' hb hall ⟨rfl, rfl, h3, pre', p, rfl, h5, h6, h7⟩
    have hres : faultNoP s at_ = (faultZ x p.1 : Int) := by rw [HPP.out, hall, find_some h5 h6]
    have hnew := hb.new
    have HE : Hid (∀ W2, Keeps (fun k => k ∈ [D]) W' W2 → W2.cell? ⟨M + 1, 0, none⟩ = some (.int .i64 (faultZ x p.1 : Int)) ∧ Keeps noB w W2) := fun W2 q => by
      have k2 : Keeps noB w W' := HQ.out.1.transNew h3.keeps (fun i hi e => by have := HQ.out.2; have : i = M + 1 := e; omega)
      exact ⟨((q.blk h7 (fun e => by simp at e; omega)).cell 0).trans rfl, k2.transNew q (fun i hi e => by simp at e; have := HQ.out.2; omega)⟩
    have HD := Lib.hid hb.none
    have HRES := Lib.hid hres
    clear h3 h5 h6 h7 hb hres hnew hall
    dsimp only
    gi_wp2
    refine leaves_marks [D] _ (by simp) (fun D' hD' => by simp at hD'; subst hD'; exact HD.out) (fun W2 q _ => ?_)
    obtain ⟨e1, e2⟩ := HE.out W2 q
    exact ⟨_, resFO W2 _ _ _ rfl e1, by rw [HRES.out], e2⟩

theorem faultOf_any (s : ByteArray) (hs : s.size ≤ 1048576) (at_ : Int) (ha : (Lit.int .i64 at_).wf = true) (w : World) : Calls Try.prog 30 #[.string s, .int .i64 at_] w (fun e w' => e = .returned (.int .i64 (faultNoP s at_)) ∧ Keeps noB w w') := by
  cases hp : progP s with
  | none =>
    have e : faultNoP s at_ = -1 := by unfold faultNoP; rw [hp]
    rw [e]; exact faultOfP_none s hs at_ hp w
  | some x => exact faultOfP_some s hs at_ x hp w

end Go.Proofs.Ytgpaplhbjhbfjaa
