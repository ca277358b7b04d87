/-
  Walks of the program: IsStraight.
-/
import Derived.Test.YtbndemfdffknkaaIy
import Derived.Test.YtbndemfdffknkaaEf
namespace Go.Proofs.Ytbndemfdffknkaa
set_option linter.unusedVariables false
set_option linter.unusedSimpArgs false
open Go.RowKit Go.Shelf

attribute [local go_sem] Oper.semAt_some

/-- Neither a branch nor a loop. -/
def plainK (z : Nd) : Prop := z.kind ≠ 63 ∧ z.kind ≠ 42

theorem countK_zero (c : UInt8) : ∀ l : List Nd, countK c l = 0 ↔ ∀ z ∈ l, z.kind ≠ c
  | [] => by simp [countK]
  | x :: r => by
    have := countK_zero c r
    simp only [countK, List.mem_cons, forall_eq_or_imp]
    by_cases h : x.kind = c
    · simp [h]
    · simp [h, this]

theorem straight_eq {s : ByteArray} {x : Nd} (hp : progP s = some x) : straightP s = true ↔ ∀ p ∈ x.preD 0, plainK p.1 := by
  have e : ∀ c : UInt8, c ∈ kinds.data.toList → countP s ⟨#[c]⟩ = (countK c x.pre.list : Int) := by
    intro c hc
    have h0 : at? ⟨#[c]⟩ 0 = some c := by rw [at?_some (by simp [ByteArray.size])]; rfl
    unfold countP
    rw [hp]
    simp only [h0, ByteArray.size, List.size_toArray, List.length_cons, List.length_nil, if_true, if_pos hc]
  unfold straightP
  rw [e 63 (by decide), e 42 (by decide), Bool.and_eq_true, beq_iff_eq, beq_iff_eq, ← Nd.preD_fst x 0]
  have h1 := countK_zero 63 ((x.preD 0).map Prod.fst)
  have h2 := countK_zero 42 ((x.preD 0).map Prod.fst)
  constructor
  · rintro ⟨a, b⟩ p hpm
    exact ⟨h1.1 (by omega) p.1 (List.mem_map_of_mem hpm), h2.1 (by omega) p.1 (List.mem_map_of_mem hpm)⟩
  · intro h
    have a := h1.2 (fun z hz => by obtain ⟨p, hp, rfl⟩ := List.mem_map.1 hz; exact (h p hp).1)
    have b := h2.2 (fun z hz => by obtain ⟨p, hp, rfl⟩ := List.mem_map.1 hz; exact (h p hp).2)
    omega

theorem res22 (W : World) (b : Nat) (v : Bool) (tmps : Array Value) (ht : tmps.getD 2 undef = .pointer (some ⟨b, 0, none⟩)) (hb : Blk W b #[.bool v] 4) : (results Try.f22 tmps).run Try.prog W = .ok (.bool v) W := by
  have q0 := hb.cell 0
  simp at q0
  have ht' : tmps[2]?.getD undef = .pointer (some ⟨b, 0, none⟩) := by simpa using ht
  simp [results, Try.results22, go_sem, ht', q0]

def StraightPost (w : World) (b : Bool) (e : Ending) (w' : World) : Prop := e = .returned (.bool b) ∧ Keeps noB w w'

set_option maxRecDepth 100000 in
set_option maxHeartbeats 4000000 in
theorem straight_none (s : ByteArray) (hs : s.size ≤ 1048576) (hp : progP s = none) (w : World) : Calls Try.prog 22 #[.string s] w (StraightPost w false) := by
  refine (callsIn_wide (n := 9)).1 ?_
  obtain ⟨F, hF⟩ : ∃ F, F = Fence.wide := ⟨_, rfl⟩
  have hFf : ∀ f, F.fn f := by subst hF; exact fun _ => trivial
  have hdd : ∀ k : Nat, (F.depth.isSome = true → 1 ≤ k) := by subst hF; intro k h; simp [Fence.wide] at h
  have hro : F.round = none := by subst hF; rfl
  have HC : Hid (∀ m w, CallsIn F m Try.prog 53 #[.string s] w (PlacesPost s w none)) := fun m w => by
    rw [hF]; exact callsIn_wide.2 (places_none s hs hp w)
  rw [← hF]
  clear hF
  refine callsIn_of_wp_marks Try.func22 rfl (hFf _) ?_ hro
  simp only [Try.ntmps22, List.size_toArray, List.length_cons, List.length_nil, Nat.reduceAdd, Nat.reduceSub, Array.replicate_succ, Array.replicate_zero, List.push_toArray, List.append_toArray, List.nil_append, List.cons_append]
  have HB := Lib.hid (Blk.new w #[.bool false] 4)
  gi_wp2
  refine (HC.out _ _).mono ?_
  rintro e w1 ⟨rfl, q1⟩
  have b1 := q1.blk HB.out id
  have r1 := b1.cell 0
  have z1 := b1.free 0
  simp at r1
  have HX := Lib.hid (And.intro b1 q1)
  clear b1 q1
  gi_wp2
  refine leaves_marks [] _ List.nodup_nil (fun _ h => by cases h) (fun W' q _ => ?_)
  have b2 := (HX.out.1.set 0 (.bool false))
  simp at b2
  refine ⟨_, res22 W' w.heap.size false _ rfl (q.blk b2 (fun e => by cases e)), rfl, ?_⟩
  exact ((((Keeps.refl noB w).alloc _).trans HX.out.2).setCell (.inr (Nat.le_refl _)) _).trans (q.mono (fun _ e => by cases e))

def StraightI (N : Nat) (w1 : World) (pre : List PN) (own : Nat → Prop) (W' : World) : Prop :=
  (∀ p ∈ pre, plainK p.1) ∧ own = oneB N ∧ Owns (oneB N) own w1 W' ∧ Blk W' N #[.bool false] 4
def StraightX (N : Nat) (w1 : World) (c : Code) (pre : List PN) (own : Nat → Prop) (W' : World) : Prop :=
  c = .ret ∧ (∃ p ∈ pre, ¬ plainK p.1) ∧ own = oneB N ∧ Owns (oneB N) own w1 W' ∧ Blk W' N #[.bool false] 4

set_option maxRecDepth 100000 in
set_option maxHeartbeats 4000000 in
theorem straight_some (s : ByteArray) (hs : s.size ≤ 1048576) (x : Nd) (hp : progP s = some x) (w : World) : Calls Try.prog 22 #[.string s] w (StraightPost w (straightP s)) := by
  refine (callsIn_wide (n := 9)).1 ?_
  obtain ⟨F, hF⟩ : ∃ F, F = Fence.wide := ⟨_, rfl⟩
  have hFf : ∀ f, F.fn f := by subst hF; exact fun _ => trivial
  have hdd : ∀ k : Nat, (F.depth.isSome = true → 1 ≤ k) := by subst hF; intro k h; simp [Fence.wide] at h
  have hro : F.round = none := by subst hF; rfl
  have HC : Hid (∀ m w, CallsIn F m Try.prog 53 #[.string s] w (PlacesPost s w (some x))) := fun m w => by
    rw [hF]; exact callsIn_wide.2 (places_some s hs x hp w)
  have HP := Lib.hid (straight_eq hp)
  rw [← hF]
  have HF := Lib.hid hF
  clear hF hp
  refine callsIn_of_wp_marks Try.func22 rfl (hFf _) ?_ hro
  simp only [Try.ntmps22, List.size_toArray, List.length_cons, List.length_nil, Nat.reduceAdd, Nat.reduceSub, Array.replicate_succ, Array.replicate_zero, List.push_toArray, List.append_toArray, List.nil_append, List.cons_append]
  have HB := Lib.hid (Blk.new w #[.bool false] 4)
  gi_wp2
  refine (HC.out _ _).mono ?_
  rintro e w1 ⟨B, rfl, hpl, q1⟩
  have b1 := q1.blk HB.out id
  have hN := b1.lt
  have HX := Lib.hid (And.intro hpl q1)
  obtain ⟨N, hNN⟩ : ∃ N, N = w.heap.size := ⟨_, rfl⟩
  rw [← hNN] at b1 hN ⊢
  have hw : (w.alloc (.cells #[.bool false] 4)).heap.size = N + 1 := by rw [hNN]; simp
  rw [hw] at hpl
  have HN := Lib.hid (And.intro hNN hw)
  clear q1 hNN hw
  gi_wp2
  refine wp_range HF.out (gf := 94) (lb := #[ptr B]) (all := x.preD 0) (enc := encP w1 (between (N + 1) w1)) (prot := between (N + 1) w1) (own := oneB N)
    rfl (enters_of Try.func94 (by kernel_rfl) rfl) (fun W q => hpl.iter W q) (StraightI N w1) (StraightX N w1) ?hI ?hIx ?hown ?hprot ?hps ?h0 ?hround ?hdone ?hstop
  case hI =>
    rintro pre own W W' ⟨h1, rfl, h3, h4⟩ q
    exact ⟨h1, rfl, h3.ahead q (fun i e => e.1), q.blk h4 (fun e => by have := e.1; omega)⟩
  case hIx =>
    rintro c pre own W W' ⟨h0, h1, rfl, h3, h4⟩ q
    exact ⟨h0, h1, rfl, h3.ahead q (fun i e => e.1), q.blk h4 (fun e => by have := e.1; omega)⟩
  case hown => rintro k rfl; exact hN
  case hprot => intro k hk; exact ⟨fun e => by have := hk.1; have : k = N := e; omega, hk.2⟩
  case hps => rintro y args ⟨v', rfl, _⟩; rfl
  case h0 => exact ⟨(fun p hp => by cases hp), rfl, Owns.refl (by rintro k rfl; exact hN), b1⟩
  case hround =>
    rintro l m pre p post args own1 W1 hall henc ⟨h1, rfl, h3, h4⟩ hlt hl hnl hll
    obtain ⟨ty, g, sv, rfl, hsv, hst, hty, hg1, hg2⟩ := enc_open henc (same_of_owns (Keeps.refl _ _) h3 (fun k e => by have := e.1; intro e2; have : k = N := e2; omega))
    clear henc hsv hst
    have h4l := h4.lt
    gi_wp2
    refine ⟨(Keeps.refl _ _).alloc _, fun W3 q3 hs3 => ?_⟩
    have b5 : Blk W3 W1.heap.size #[.iface ty (.pointer (some ⟨g, 0, none⟩)), .string sv, .int .i64 (p.2 : Int)] 63 := q3.blk (Blk.new _ _ _) (show W1.heap.size ≠ l by omega)
    have b4 : Blk W3 N #[.bool false] 4 := q3.blk (h4.alloc _) (show N ≠ l by omega)
    have z4 := b4.free 0
    have y4 := b4.cell 0
    have r0 := b5.cell 0
    have r1 := b5.cell 1
    have r2 := b5.cell 2
    simp at r0 r1 r2 y4
    have HY : Hid (∀ b : Bool, plainK p.1 → b = false → BodyEnds (StraightI N w1) (StraightX N w1) (pre ++ [p]) (oneB N) W3 .normal { tmps := #[], defers := [] } W3) := fun b hb _ =>
      ⟨oneB N, Owns.refl (by rintro k rfl; exact b4.lt), fun z hz => by
        rcases List.mem_append.1 hz with hz | hz
        · exact h1 z hz
        · simp at hz; subst hz; exact hb, rfl, h3.ahead ((((Keeps.refl noB _).alloc _).mono (fun _ e => e.elim)).trans q3) (by rintro i rfl; exact hl), b4⟩
    have HZ : Hid (¬ plainK p.1 → ∃ own', Owns (oneB N) own' W3 (W3.setCell ⟨N, 0, none⟩ (.bool false)) ∧ StraightX N w1 .ret (pre ++ [p]) own' (W3.setCell ⟨N, 0, none⟩ (.bool false))) := fun hb => by
      have hk : Owns (oneB N) (oneB N) W3 (W3.setCell ⟨N, 0, none⟩ (.bool false)) := ⟨fun k e => .inl e, by rintro k rfl; simpa [World.setCell] using b4.lt, (Keeps.refl _ _).setCell (.inl (show oneB N N from rfl)) _⟩
      refine ⟨oneB N, hk, rfl, ⟨p, by simp, hb⟩, rfl, (h3.ahead ((((Keeps.refl noB _).alloc _).mono (fun _ e => e.elim)).trans q3) (by rintro i rfl; exact hl)).trans hk, ?_⟩
      have := b4.set 0 (.bool false)
      simpa using this
    clear h1 h3 h4 b4 b5 hall
    rcases hty with ⟨rfl, hk⟩ | ⟨rfl, hk⟩ | ⟨rfl, hk⟩ | ⟨rfl, hk, _⟩ | ⟨rfl, hk⟩
    · have a1 := isVB (.pointer (some ⟨g, 0, none⟩))
      have a2 := isVO (.pointer (some ⟨g, 0, none⟩))
      have hb : plainK p.1 := by unfold plainK; rcases hk with h | h | h | h | h <;> rw [h] <;> decide
      have HE := Lib.hid (HY.out false hb rfl)
      clear hk hb HY HZ
      gi_wp2
      exact HE.out
    · have a1 := isLB (.pointer (some ⟨g, 0, none⟩))
      have a2 := isLO (.pointer (some ⟨g, 0, none⟩))
      have hb : plainK p.1 := by unfold plainK; rcases hk with h | h <;> rw [h] <;> decide
      have HE := Lib.hid (HY.out false hb rfl)
      clear hk hb HY HZ
      gi_wp2
      exact HE.out
    · have a1 := isOB (.pointer (some ⟨g, 0, none⟩))
      have a2 := isOO (.pointer (some ⟨g, 0, none⟩))
      have hb : ¬ plainK p.1 := by unfold plainK; rw [hk]; decide
      have HE := Lib.hid (HZ.out hb)
      clear hk hb HY HZ
      gi_wp2
      exact HE.out
    · have a1 := isSB (.pointer (some ⟨g, 0, none⟩))
      have a2 := isSO (.pointer (some ⟨g, 0, none⟩))
      have hb : plainK p.1 := by unfold plainK; rw [hk]; decide
      have HE := Lib.hid (HY.out false hb rfl)
      clear hk hb HY HZ
      gi_wp2
      exact HE.out
    · have a1 := isBB (.pointer (some ⟨g, 0, none⟩))
      have a2 := isBO (.pointer (some ⟨g, 0, none⟩))
      have hb : ¬ plainK p.1 := by unfold plainK; rw [hk]; decide
      have HE := Lib.hid (HZ.out hb)
      clear hk hb HY HZ
      gi_wp2
      exact HE.out
  case hdone =>
    rintro D own' W' hb ⟨h1, rfl, h3, h4⟩
    have hst : straightP s = true := HP.out.2 h1
    have z4 := h4.free 0
    have y4 := h4.cell 0
    simp at y4
    have HE : Hid (∀ W2, Keeps (fun k => k ∈ [D]) (W'.setCell ⟨N, 0, none⟩ (.bool true)) W2 → Blk W2 N #[.bool true] 4 ∧ Keeps noB w W2) := by
      intro W2 q
      have hDN : N ≠ D := by have := hb.new; omega
      have e := h4.set 0 (.bool true)
      simp at e
      refine ⟨q.blk e (fun e => by simp at e; exact hDN e), ?_⟩
      have k1 : Keeps noB w w1 := ((Keeps.refl _ _).alloc _).trans HX.out.2
      have hs1 := k1.size
      have hNw := HN.out.1
      have k2 : Keeps noB w W' := k1.transNew h3.keeps (fun i hi e => by have : i = N := e; omega)
      exact (k2.setCell (.inr (by show w.heap.size ≤ N; omega)) _).transNew q (fun i hi e => by simp at e; have := hb.new; omega)
    have hD : (W'.setCell ⟨N, 0, none⟩ (.bool true)).heap[D]? = some (.deferred (some [])) := by
      rw [Below.heap_setCell _ _ _ _ (show D ≠ N from fun e => by have := hb.new; omega)]; exact hb.none
    have HD := Lib.hid hD
    have HS := Lib.hid hst
    clear h1 h3 h4 hb hst hD
    dsimp only
    gi_wp2
    refine leaves_marks [D] _ (by simp) (fun D' hD' => by simp at hD'; subst hD'; exact HD.out) (fun W2 q _ => ?_)
    exact ⟨_, res22 W2 N true _ rfl (HE.out _ q).1, by rw [HS.out], (HE.out _ q).2⟩
  case hstop =>
    rintro D c pre post own' W' hb hall ⟨rfl, ⟨p, hp, hpk⟩, rfl, h3, h4⟩
    have hst : straightP s = false := by
      rw [Bool.eq_false_iff]; intro e; exact hpk (HP.out.1 e p (by rw [hall]; simp [hp]))
    have HE : Hid (∀ W2, Keeps (fun k => k ∈ [D]) W' W2 → Blk W2 N #[.bool false] 4 ∧ Keeps noB w W2) := by
      intro W2 q
      have hDN : N ≠ D := by have := hb.new; omega
      refine ⟨q.blk h4 (fun e => by simp at e; exact hDN e), ?_⟩
      have k1 : Keeps noB w w1 := ((Keeps.refl _ _).alloc _).trans HX.out.2
      have hs1 := k1.size
      have hNw := HN.out.1
      have k2 : Keeps noB w W' := k1.transNew h3.keeps (fun i hi e => by have : i = N := e; omega)
      exact k2.transNew q (fun i hi e => by simp at e; have := hb.new; omega)
    have HD := Lib.hid hb.none
    have HS := Lib.hid hst
    clear h3 h4 hb hst hp hpk hall
    dsimp only
    gi_wp2
    refine leaves_marks [D] _ (by simp) (fun D' hD' => by simp at hD'; subst hD'; exact HD.out) (fun W2 q _ => ?_)
    exact ⟨_, res22 W2 N false _ rfl (HE.out _ q).1, by rw [HS.out], (HE.out _ q).2⟩

theorem straight_any (s : ByteArray) (hs : s.size ≤ 1048576) (w : World) : Calls Try.prog 22 #[.string s] w (StraightPost w (straightP s)) := by
  cases hp : progP s with
  | none =>
    have e : straightP s = false := by unfold straightP countP; rw [hp]; rfl
    rw [e]; exact straight_none s hs hp w
  | some x => exact straight_some s hs x hp w

end Go.Proofs.Ytbndemfdffknkaa
