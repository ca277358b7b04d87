/-
  The program's AreNested.
-/
import Derived.Test.YtnjkaojgcnepdaaDoorRx
import Derived.Test.YtnjkaojgcnepdaaDoorRtW
namespace Go.Proofs.YtnjkaojgcnepdaaDoor
set_option linter.unusedVariables false
set_option linter.unusedSimpArgs false
open Go.RowKit

attribute [local go_sem] Oper.semAt_some

theorem resNest (W : World) (A : Nat) (a : Value) (tmps : Array Value) (h2 : tmps.getD 2 undef = .pointer (some ⟨A, 0, none⟩)) (ha : W.cell? ⟨A, 0, none⟩ = some a) : (results Tryd.f26 tmps).run Tryd.prog W = .ok a W := by
  have h2' : tmps[2]?.getD undef = .pointer (some ⟨A, 0, none⟩) := by simpa using h2
  simp [results, Tryd.results26, go_sem, h2', ha]

/-- What the rounds hold: block R is the result's box. -/
def NeI (R : Nat) (l : List Ev) (w5 : World) (pre : List (Nat × List Nat)) (own : Nat → Prop) (W : World) : Prop :=
  (∀ i, own i ↔ i = R) ∧ Blk W R #[.bool false] 4 ∧ (∀ x ∈ pre, ¬ bad l x) ∧ Owns (oneB R) own w5 W
def NeX (R : Nat) (l : List Ev) (w5 : World) (c : Code) (pre : List (Nat × List Nat)) (own : Nat → Prop) (W : World) : Prop :=
  c = .ret ∧ (∃ x, x ∈ behindL l ∧ bad l x) ∧ Blk W R #[.bool false] 4 ∧ own R ∧ Owns (oneB R) own w5 W

set_option maxRecDepth 100000 in
set_option maxHeartbeats 8000000 in
theorem areNested_any (s : ByteArray) (hs : s.size ≤ 1048576) (w : World) (hE : Env w) : Calls Tryd.prog 26 #[.string s] w (ValidP w (nestV (readP s))) := by
  refine (callsIn_wide (n := 9)).1 ?_
  obtain ⟨F, hF⟩ : ∃ F, F = Fence.wide := ⟨_, rfl⟩
  have hFf : ∀ f, F.fn f := by subst hF; exact fun _ => trivial
  have hdd : ∀ k : Nat, (F.depth.isSome = true → 1 ≤ k) := by subst hF; intro k h; simp [Fence.wide] at h
  have hro : F.round = none := by subst hF; rfl
  have hds : F.depth.isSome = false := by subst hF; rfl
  have HHI : Hid (∀ m w', Keeps noB w w' → CallsIn F m Tryd.prog 34 #[.string s] w' (HistPost w' (readP s))) := fun m w' q => by
    rw [hF]; exact callsIn_wide.2 (historyOf_any s hs w' (hE.keeps q (fun _ _ e => e)))
  have HAB : Hid (∀ m H w, CallsIn F m Tryd.prog 39 #[.pointer (some ⟨H, 0, none⟩)] w fun e w' => e = .returned (.func (.func 55) #[] #[ptr w.heap.size]) ∧ w' = w.alloc (.cells #[.pointer (some ⟨H, 0, none⟩)] 41)) := fun m H w => by
    rw [hF]; exact callsIn_wide.2 (aliveBehind_any H w)
  rw [← hF]
  have HF := Lib.hid hF
  clear hF hE
  refine callsIn_of_wp_marks Tryd.func26 rfl (hFf _) ?_ hro
  simp only [Tryd.ntmps26, List.size_toArray, List.length_cons, List.length_nil, Nat.reduceAdd, Nat.reduceSub, Array.replicate_succ, Array.replicate_zero, List.push_toArray, List.append_toArray, List.nil_append, List.cons_append]
  obtain ⟨w3, hw3⟩ : ∃ w3, w3 = w.alloc (.cells #[.bool false] 4) := ⟨_, rfl⟩
  obtain ⟨R, hR⟩ : ∃ R, R = w.heap.size := ⟨_, rfl⟩
  have q03 : Keeps noB w w3 := by rw [hw3]; exact (Keeps.refl _ _).alloc _
  have hs3 : w3.heap.size = R + 1 := by rw [hw3, hR]; simp
  have bR : Blk w3 R #[.bool false] 4 := by rw [hw3, hR]; exact Blk.new w _ _
  have H3 := Lib.hid (And.intro q03 (And.intro hs3 bR))
  -- an end with answer b
  have HEND : Hid (∀ (b : Bool) W, Keeps noB w W → Blk W R #[.bool false] 4 → W.cell? ⟨R, 0, none⟩ = some (.bool false) ∧ W.frozen? ⟨R, 0, none⟩ = false ∧
      ∀ (Ds : List Nat) W2, (∀ D ∈ Ds, w3.heap.size ≤ D) → Keeps (fun k => k ∈ Ds) (W.setCell ⟨R, 0, none⟩ (.bool b)) W2 → W2.cell? ⟨R, 0, none⟩ = some (.bool b) ∧ ValidP w b (.returned (.bool b)) W2) := fun b W q b1 => by
    refine ⟨(b1.cell 0).trans rfl, b1.free 0, fun Ds W2 hD q2 => ?_⟩
    have e1 : Blk (W.setCell ⟨R, 0, none⟩ (.bool b)) R #[.bool b] 4 := b1.set 0 _
    refine ⟨((q2.blk e1 (fun e => by have := hD _ e; omega)).cell 0).trans rfl, rfl, ?_⟩
    exact (q.setCell (p := ⟨R, 0, none⟩) (.inr (by show w.heap.size ≤ R; omega)) _).transNew q2 (fun i hi e => by have := hD i e; omega)
  clear q03 bR
  gi_wp2
  rw [← hw3]
  try simp only [World.size_alloc]
  rw [← hR]
  have HRW := Lib.hid hR
  clear hw3 hR
  cases hr : readP s with
  | none =>
    rw [hr] at HHI
    show CallsIn _ _ _ _ _ _ _
    refine (HHI.out _ _ H3.out.1).mono ?_
    rintro e w1 ⟨⟨tp, q, rfl⟩, q1⟩
    have q1a : Keeps noB w1 (w1.alloc (.cells #[.pointer none] 41)) := (Keeps.refl _ _).alloc _
    obtain ⟨y0, y1, hfin⟩ := HEND.out false _ ((H3.out.1.trans q1).trans q1a) ((q1.trans q1a).blk H3.out.2.2 id)
    have HE := Lib.hid hfin
    clear hfin q1 q1a
    gi_wp2
    refine leaves_marks [] _ List.nodup_nil (fun _ h => by cases h) (fun W' q _ => ?_)
    obtain ⟨z0, z1⟩ := HE.out [] W' (fun D h => by cases h) q
    exact ⟨_, resNest W' R _ _ rfl z0, by rw [hr]; exact z1⟩
  | some l =>
    obtain ⟨hg, hl⟩ := readP_good hr
    rw [hr] at HHI
    show CallsIn _ _ _ _ _ _ _
    refine (HHI.out _ _ H3.out.1).mono ?_
    rintro e w1 ⟨⟨H1, oA, ve, vl, rfl, hh, hoA⟩, q1⟩
    have hnr := hh.narrow
    have hlow : ∀ i, histO H1 ve vl i → w3.heap.size ≤ i := fun i hi => by
      rcases hi with rfl | hi | hi
      · exact hoA _ hh.ownH
      · exact hoA _ (hh.ownE i hi).1
      · exact hoA _ (hh.ownL i hi).1
    have HH := Lib.hid (And.intro hnr.1 (And.intro hnr.2 (And.intro hlow q1)))
    clear hh hoA hnr hlow q1
    gi_wp2
    refine (HAB.out _ _ _).mono ?_
    rintro e w5 ⟨rfl, hw5⟩
    obtain ⟨N, hN⟩ : ∃ N, N = w1.heap.size := ⟨_, rfl⟩
    have q15 : Keeps noB w1 w5 := by rw [hw5]; exact ((Keeps.refl _ _).alloc _).alloc _
    have bP : Blk w5 N #[.pointer (some ⟨H1, 0, none⟩)] 41 := by rw [hw5, hN]; exact (Blk.new w1 _ _).alloc _
    have bB : Blk w5 (N + 1) #[.pointer (some ⟨H1, 0, none⟩)] 41 := by
      have h := Blk.new (w1.alloc (.cells #[.pointer (some ⟨H1, 0, none⟩)] 41)) #[.pointer (some ⟨H1, 0, none⟩)] 41
      simp only [World.size_alloc] at h
      rw [hw5, hN]; exact h
    have hs5 : w5.heap.size = N + 2 := by rw [hw5, hN]; simp
    try simp only [World.size_alloc]
    rw [← hN]
    have hN3 : R + 1 ≤ N := by have := HH.out.2.2.2.size; have := H3.out.2.1; omega
    have q35 := HH.out.2.2.2.trans q15
    have q05 := H3.out.1.trans q35
    have hoN : ∀ i, histO H1 ve vl i → i < N ∧ R + 1 ≤ i := fun i hi => ⟨by rw [hN]; exact HH.out.2.1 i hi, by have := HH.out.2.2.1 i hi; have := H3.out.2.1; omega⟩
    have hh5 := HH.out.1.keeps q15 (fun _ _ e => e)
    obtain ⟨ae, ce, rfl⟩ := hh5.shape.1
    have HS := Lib.hid (And.intro hs5 (And.intro hN3 HRW.out))
    have HQ := Lib.hid (And.intro q05 (And.intro bB (And.intro hh5 (And.intro hoN bP))))
    have HI0 : Hid (NeI R l w5 [] (oneB R) w5) := ⟨fun i => Iff.rfl, q35.blk H3.out.2.2 id, fun x hx => by simp at hx, Owns.refl (fun i hi => by have hi : i = R := hi; omega)⟩
    -- an event's cells
    have HEV : Hid (∀ own1 W1 (j : Nat) (e : Ev), Owns (oneB R) own1 w5 W1 → l[j]? = some e → W1.cell? ⟨N, 0, none⟩ = some (.pointer (some ⟨H1, 0, none⟩)) ∧ W1.cell? ⟨H1, 0, none⟩ = some (.slice ae l.length ce) ∧
        ∃ g, ae = some ⟨g, 0, none⟩ ∧ l.length ≤ ce ∧ W1.cell? ⟨g, j * 2, none⟩ = some (.int .u8 (e.k.toNat : Int)) ∧ W1.cell? ⟨g, j * 2 + 1, none⟩ = some (.int .i64 (e.n : Int)) ∧ g < w5.heap.size) := fun own1 W1 j e q he => by
      have hRN : ¬ N = R := by omega
      have hHR : ¬ H1 = R := fun e => by have := (hoN H1 (.inl rfl)).2; omega
      have b0 := (q.keeps.blk bP (fun e => hRN e))
      have b1 := (q.keeps.blk hh5.blk (fun e => hHR e))
      refine ⟨(b0.cell 0).trans rfl, (b1.cell 0).trans rfl, ?_⟩
      have hjl := (List.getElem?_eq_some_iff.1 he).1
      obtain ⟨g, d, e2, hc, hgl, hx⟩ := row_capM (ok := fun _ => True) hh5.evs (by omega)
      simp only [Value.slice.injEq, true_and] at e2
      obtain ⟨rfl, rfl⟩ := e2
      have hgR : ¬ g = R := fun e => by have := (hoN g (.inr (.inl rfl))).2; omega
      obtain ⟨g0, g1⟩ := evC_get l j _ he
      rw [show 2 * j = j * 2 by omega] at g0 g1
      exact ⟨g, rfl, hc, (q.keeps.cell (p := ⟨g, j * 2, none⟩) hgl (fun e => hgR e)).trans (hx _ _ g0).1, (q.keeps.cell (p := ⟨g, j * 2 + 1, none⟩) hgl (fun e => hgR e)).trans (hx _ _ g1).1, hgl⟩
    clear hw5 hN q15 bB bP hs5 q35 q05 hoN HH hh5
    gi_wp2
    refine wp_rangeW HF.out (gf := 55) (lb := #[ptr (N + 1)]) (all := behindL l) (enc := encB) (prot := protB (N + 1) (histO H1 (.slice ae l.length ce) vl)) (own := oneB R)
      rfl (enters_of Tryd.func55 (by kernel_rfl) rfl)
      (fun W' q' => behind_iter W' (N + 1) H1 _ l _ vl hg hl (HQ.out.2.2.1.keeps q' (fun _ _ e => e)) (q'.blk HQ.out.2.1 id))
      (NeI R l w5) (NeX R l w5) ?hI ?hIx ?hown ?hprot ?hps ?h0 ?hround ?hdone ?hstop
    case hI =>
      rintro pre own Wa Wb ⟨h1, h2, h3, h4⟩ q
      have hS := HS.out
      exact ⟨h1, q.blk h2 (fun e => by have := e.1; omega), h3, h4.ahead q (fun _ e => e.1)⟩
    case hIx =>
      rintro c pre own Wa Wb ⟨h1, h2, h3, h4, h5⟩ q
      exact ⟨h1, h2, q.blk h3 (fun e => e.2 h4), h4, h5.ahead q (fun _ e => e.1)⟩
    case hown => intro i hi; have hi : i = R := hi; have := HS.out; omega
    case hprot =>
      intro i hi
      have hS := HS.out
      rcases hi with rfl | hi
      · exact ⟨fun e => by have e : N + 1 = R := e; omega, by omega⟩
      · have := HQ.out.2.2.2.1 i hi
        exact ⟨fun e => by have e : i = R := e; omega, by omega⟩
    case hps => intro x args W h; rw [encB_size h]; rfl
    case h0 => exact HI0.out
    case hround =>
      rintro lq n pre x post args own1 W1 hall ⟨v, rfl, hv⟩ hI1 hlt hl2 hnl hll hnc
      obtain ⟨h1, h2, h3, h4⟩ := hI1
      have hxm : x ∈ behindL l := by rw [hall]; simp
      obtain ⟨j, e, he, rfl⟩ := behind_mem hxm
      obtain ⟨A, hA⟩ : ∃ A, A = aliveL (l.take (j + 1)) := ⟨_, rfl⟩
      have hfew : A.length ≤ 600 := by rw [hA]; exact alive_few hg hl (j + 1)
      simp only at hv
      rw [← hA] at hv hxm hall ⊢
      obtain ⟨a, c, rfl⟩ := hv.shape
      have hl2' : w5.heap.size ≤ lq := hl2
      have hjl := (List.getElem?_eq_some_iff.1 he).1
      have HW3 : Hid (∀ W3, Keeps (oneB lq) W1 W3 → NRow W3 (.slice a A.length c) A ∧ Blk W3 R #[.bool false] 4 ∧ Owns (oneB R) own1 w5 W3) := fun W3 q3 => by
        have hn1 : ¬ R = lq := fun e => hnl (by rw [← e]; exact (h1 _).2 rfl)
        refine ⟨hv.keeps q3 (fun g hg e => ?_), q3.blk h2 (fun e => hn1 e), h4.ahead q3 (fun i e => by have e : i = lq := e; omega)⟩
        have e : g = lq := e
        rcases hv.2 with ⟨e2, _⟩ | ⟨g', cap, cur, e2, _, hh, _⟩
        · rw [e2] at hg; simp [Value.ownBlock] at hg
        · rw [e2] at hg
          have : g' = g := by simpa [Value.ownBlock] using hg
          exact hnc _ _ _ (by rw [← e, ← this]; exact hh)
      have HO := Lib.hid (And.intro h1 (And.intro h3 (And.intro hxm he)))
      obtain ⟨kv, hkv⟩ : ∃ kv : Int, kv = (e.k.toNat : Int) := ⟨_, rfl⟩
      have hk45 : (kv == 45) = decide (e.k = 45) := by rw [hkv]; exact byte_is e.k 45
      have HK := Lib.hid hkv
      have HA := Lib.hid hA
      have hj6 : (j : Int) < (l.length : Int) := by omega
      -- the round's ends
      have HNO : Hid (¬ bad l (j, A) → ∀ W3 nq, NRow W3 (.slice a A.length c) A → Blk W3 R #[.bool false] 4 → Owns (oneB R) own1 w5 W3 → ∃ own', Owns own1 own' W3 ((W3.alloc (.cells #[.int .u8 kv, .int .i64 (e.n : Int)] 62)).drewN nq) ∧ NeI R l w5 (pre ++ [(j, A)]) own' ((W3.alloc (.cells #[.int .u8 kv, .int .i64 (e.n : Int)] 62)).drewN nq)) := fun hb W3 nq y1 y2 y3 => by
        have qa : Keeps noB W3 ((W3.alloc (.cells #[.int .u8 kv, .int .i64 (e.n : Int)] 62)).drewN nq) := ((Keeps.refl _ _).alloc _).drewN nq
        have hO : Owns own1 own1 W3 ((W3.alloc (.cells #[.int .u8 kv, .int .i64 (e.n : Int)] 62)).drewN nq) := (Owns.refl y3.lt).ahead qa (fun _ e => e.elim)
        refine ⟨own1, hO, HO.out.1, qa.blk y2 id, fun x hx => ?_, y3.trans hO⟩
        rcases List.mem_append.1 hx with h | h
        · exact HO.out.2.1 x h
        · have : x = (j, A) := by simpa using h
          subst this; exact hb
      have HYES : Hid (bad l (j, A) → ∀ W3 nq, NRow W3 (.slice a A.length c) A → Blk W3 R #[.bool false] 4 → Owns (oneB R) own1 w5 W3 → ∃ own', Owns own1 own' W3 (((W3.alloc (.cells #[.int .u8 kv, .int .i64 (e.n : Int)] 62)).drewN nq).setCell ⟨R, 0, none⟩ (.bool false)) ∧ NeX R l w5 .ret (pre ++ [(j, A)]) own' (((W3.alloc (.cells #[.int .u8 kv, .int .i64 (e.n : Int)] 62)).drewN nq).setCell ⟨R, 0, none⟩ (.bool false))) := fun hb W3 nq y1 y2 y3 => by
        have oR : own1 R := (HO.out.1 R).2 rfl
        have qa : Keeps noB W3 ((W3.alloc (.cells #[.int .u8 kv, .int .i64 (e.n : Int)] 62)).drewN nq) := ((Keeps.refl _ _).alloc _).drewN nq
        have qs : Keeps own1 W3 (((W3.alloc (.cells #[.int .u8 kv, .int .i64 (e.n : Int)] 62)).drewN nq).setCell ⟨R, 0, none⟩ (.bool false)) := (qa.mono (fun _ e => e.elim)).setCell (p := ⟨R, 0, none⟩) (.inl oR) _
        have hO : Owns own1 own1 W3 (((W3.alloc (.cells #[.int .u8 kv, .int .i64 (e.n : Int)] 62)).drewN nq).setCell ⟨R, 0, none⟩ (.bool false)) := ⟨fun _ h => .inl h, fun i hi => Nat.lt_of_lt_of_le (y3.lt i hi) qs.size, qs⟩
        exact ⟨own1, hO, rfl, ⟨_, HO.out.2.2.1, hb⟩, (qa.blk y2 id).set 0 _, oR, y3.trans hO⟩
      clear h1 h2 h3 h4 hv hnc hall hxm hlt hkv hA
      gi_wp2
      refine ⟨Keeps.refl _ _, fun W3 q3 hs3 => ?_⟩
      clear hs3
      obtain ⟨y1, y2, y3⟩ := HW3.out W3 q3
      obtain ⟨z0, z1, g, rfl, hcc, r1, r2, hgl⟩ := HEV.out own1 W3 j e y3 he
      rw [← HK.out] at r1
      have hw35 := y3.keeps.size
      have hlc : (l.length : Int) ≤ (ce : Int) := by omega
      have hRlt := y2.lt
      have t1 : ¬ R = W3.heap.size := by omega
      have c0 := y2.cell 0
      have f0 := y2.free 0
      simp at c0
      by_cases hk : e.k = 45
      · have x1 : (kv == 45) = true := by rw [hk45]; simp [hk]
        rcases List.eq_nil_or_concat A with hAn | ⟨P, p, hAp⟩
        · have hb : ¬ bad l (j, A) := fun ⟨_, m, _, _, h, _⟩ => by rw [hAn] at h; simp at h
          have HE := Lib.hid (fun nq => HNO.out hb W3 nq y1 y2 y3)
          have hA0 : A.length = 0 := by rw [hAn]; rfl
          rw [hA0]
          clear HNO HYES hk45 hk hb he y1 y2 y3 q3 hAn hA0
          gi_wp2
          refine wpIn_region_quiet_round hro (by kernel_rfl) (by kernel_rfl) (by kernel_rfl) ?_
          repeat (gi_big_quiet_step (fail))
          refine wpQuietIn_nil ?_
          intro _ hw'
          obtain ⟨nq, hw''⟩ := hw'
          subst hw''
          gi_wp2
          exact HE.out nq
        · have hAp : A = P ++ [p] := by rw [hAp]; simp
          obtain ⟨mL, hmL⟩ : ∃ mL, mL = P.length := ⟨_, rfl⟩
          have hAm : A.length = mL + 1 := by rw [hAp, hmL]; simp
          obtain ⟨gA, d, e1, hcA, hgA, hcellA⟩ := y1.get (by omega)
          simp only [Value.slice.injEq, true_and] at e1
          obtain ⟨rfl, rfl⟩ := e1
          have hl0 := (hcellA mL p (by rw [hAp, hmL]; simp)).1
          have hcn : (mL : Int) + 1 ≤ (c : Int) := by omega
          have hm6 : (mL : Int) ≤ 600 := by omega
          have hm0 : (0 : Int) ≤ (mL : Int) := by omega
          have hm1 : (0 : Int) < (mL : Int) + 1 := by omega
          have hml : (mL : Int) < (mL : Int) + 1 := by omega
          have t2 : ¬ gA = W3.heap.size := by omega
          rw [hAm]
          by_cases hpn : e.n < p
          · have hb : bad l (j, A) := ⟨e, p, he, hk, by rw [hAp]; simp, hpn⟩
            have hpn1 : (e.n : Int) < (p : Int) := by omega
            have HE := Lib.hid (fun nq => HYES.out hb W3 nq y1 y2 y3)
            clear HNO HYES hk45 hk hb he y1 y2 y3 q3 hAp hmL hAm hcellA hpn
            gi_wp2
            refine wpIn_region_quiet_round hro (by kernel_rfl) (by kernel_rfl) (by kernel_rfl) ?_
            repeat (gi_big_quiet_step (fail))
            refine wpQuietIn_nil ?_
            intro _ hw'
            obtain ⟨nq, hw''⟩ := hw'
            subst hw''
            gi_wp2
            exact HE.out nq
          · have hb : ¬ bad l (j, A) := fun ⟨e2, m, h1, _, h3, h4⟩ => by
              have h1 : l[j]? = some e2 := h1
              rw [he] at h1
              have h3 : A.getLast? = some m := h3
              rw [hAp] at h3
              have h3 : p = m := by simpa using h3
              rw [← Option.some.inj h1] at h4
              omega
            have hpn1 : ¬ (e.n : Int) < (p : Int) := by omega
            have HE := Lib.hid (fun nq => HNO.out hb W3 nq y1 y2 y3)
            clear HNO HYES hk45 hk hb he y1 y2 y3 q3 hAp hmL hAm hcellA hpn
            gi_wp2
            refine wpIn_region_quiet_round hro (by kernel_rfl) (by kernel_rfl) (by kernel_rfl) ?_
            repeat (gi_big_quiet_step (fail))
            refine wpQuietIn_nil ?_
            intro _ hw'
            obtain ⟨nq, hw''⟩ := hw'
            subst hw''
            gi_wp2
            exact HE.out nq
      · have x1 : (kv == 45) = false := by rw [hk45]; simp [hk]
        have hb : ¬ bad l (j, A) := fun ⟨e2, m, h1, h2, _⟩ => by
          have h1 : l[j]? = some e2 := h1
          rw [he] at h1
          exact hk (by rw [Option.some.inj h1]; exact h2)
        have HE := Lib.hid (fun nq => HNO.out hb W3 nq y1 y2 y3)
        clear HNO HYES hk45 hk hb he y1 y2 y3 q3
        gi_wp2
        refine wpIn_region_quiet_round hro (by kernel_rfl) (by kernel_rfl) (by kernel_rfl) ?_
        repeat (gi_big_quiet_step (fail))
        refine wpQuietIn_nil ?_
        intro _ hw'
        obtain ⟨nq, hw''⟩ := hw'
        subst hw''
        gi_wp2
        exact HE.out nq
    case hdone =>
      rintro D own' W' hb ⟨h1, h2, h3, h4⟩
      have hS := HS.out
      have hnew := hb.new
      have HD := Lib.hid hb.none
      have HV := Lib.hid (nest_of_none hg h3)
      obtain ⟨y0, y1, hfin⟩ := HEND.out true W' (HQ.out.1.transNew h4.keeps (fun i hi e => by have e : i = R := e; omega)) h2
      have HE := Lib.hid hfin
      have hDR : D ≠ R := by omega
      have hD3 : w3.heap.size ≤ D := by have := H3.out.2.1; omega
      clear h1 h2 h3 h4 hb hfin hS
      dsimp only
      gi_wp2
      refine leaves_marks [D] _ (by simp) (fun D' hD' => ?_) (fun W2 q2 _ => ?_)
      · simp at hD'; subst hD'
        rw [Below.heap_setCell _ _ _ _ (by show D' ≠ R; exact hDR)]
        exact HD.out
      · obtain ⟨z0, z1⟩ := HE.out [D] W2 (fun D' h => by simp at h; omega) q2
        refine ⟨_, resNest W2 R _ _ rfl z0, ?_⟩
        have e : nestV (readP s) = true := by rw [hr]; show (true && nestB l) = true; rw [HV.out]; rfl
        rw [e]; exact z1
    case hstop =>
      rintro D c pre post own' W' hb hall ⟨rfl, ⟨x, h2, h3⟩, h4, h5, h6⟩
      have hS := HS.out
      have hnew := hb.new
      have HD := Lib.hid hb.none
      have HV := Lib.hid (nest_of_some hg h2 h3)
      have HE : Hid (∀ W2, Keeps (fun k => k ∈ [D]) W' W2 → W2.cell? ⟨R, 0, none⟩ = some (.bool false) ∧ ValidP w (nestV (readP s)) (.returned (.bool false)) W2) := fun W2 q2 => by
        refine ⟨((q2.blk h4 (fun e => by simp at e; omega)).cell 0).trans rfl, ?_⟩
        have e : nestV (readP s) = false := by rw [hr]; show (true && nestB l) = false; rw [HV.out]; rfl
        rw [e]
        exact ⟨rfl, (HQ.out.1.transNew h6.keeps (fun i hi e => by have e : i = R := e; omega)).transNew q2 (fun i hi e => by simp at e; omega)⟩
      clear hb hall h2 h3 h4 h5 h6 hS
      dsimp only
      gi_wp2
      refine leaves_marks [D] _ (by simp) (fun D' hD' => by simp at hD'; subst hD'; exact HD.out) (fun W2 q2 _ => ?_)
      obtain ⟨z0, z1⟩ := HE.out W2 q2
      exact ⟨_, resNest W2 R _ _ rfl z0, z1⟩

end Go.Proofs.YtnjkaojgcnepdaaDoor
