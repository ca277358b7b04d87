/-
  Walks of the program: placesWithin; and the iterator that it hands back.
-/
import Derived.Test.YtmdpnhkdbkclgaaIv
import Derived.Test.YtmdpnhkdbkclgaaProg
import Derived.WalkKit
import Derived.Lib.Hide
import Derived.RangeFuncLeaves
import Derived.TacticsInMore
import Derived.LoopIn
import Derived.OwnWalkIn
import Derived.RangeFuncBox
import Derived.Outline
import Derived.Shelf.Abstract
namespace Go.Proofs.Ytmdpnhkdbkclgaa
set_option linter.unusedVariables false
set_option linter.unusedSimpArgs false
open Go.RowKit Go.Shelf

attribute [local go_sem] Oper.semAt_some

set_option maxHeartbeats 1000000 in
theorem placesWithin_any (v sv dv : Value) (w : World) : Calls Try.prog 46 #[.agg #[v, sv, dv]] w
    fun e w' => e = .returned (.func (.func 57) #[] #[ptr w.heap.size]) ∧ w' = w.alloc (.cells #[v, sv, dv] 48) := by
  go_enter Try.func46, Try.ntmps46
  go_wp2
  go_ret
  exact ⟨rfl, rfl⟩

/-- What the loop of the iterator holds: 'done' have been gone through; D: the marks of the loops over them. -/
def WithinAt (J : List PN → (Nat → Prop) → World → Prop) (l B : Nat) (x : Nd) (d : Nat) (v : Value) (W : World) (own1 : Nat → Prop) (W2 : World) (ra : Option Addr) (rn rm : Nat) (a : Act) (wr : World) : Prop :=
  ∃ (done todo : List Nd) (owni : Nat → Prop) (Ds : List Nat) (u4 u5 u14 u15 u16 u17 u18 u19 u20 u21 u22 u23 u24 : Value),
    a = { tmps := #[.func (.yield l) #[] #[], .pointer (some ⟨B, 0, none⟩), .pointer (some ⟨W.heap.size, 0, none⟩), undef, u4, u5, .func (.yield l) #[] #[], placeV v x.scope d, .bool true, .bool false, placeV v x.scope d,
      .slice ra rn rm, .int .i64 rn, .int .i64 done.length, u14, u15, u16, u17, u18, u19, u20, u21, u22, u23, u24], defers := Ds.map mark } ∧
    x.bodies.kids = done ++ todo ∧ J ((x, d) :: done.flatMap (fun z => z.preD (inD x.kind d))) owni wr ∧ Owns own1 owni W2 wr ∧
    Ds.Nodup ∧ ∀ D, D ∈ Ds → W2.heap.size ≤ D ∧ ¬ owni D ∧ wr.heap[D]? = some (.deferred (some []))

/-- What the iterator over a step's places is. -/
def WithinOk (N : Nat) : Prop := ∀ (s : ByteArray) (x : Nd) (d : Nat) (v : Value) (w0 W : World) (ok : Nat → Prop) (B : Nat), x.pre.len = N → N ≤ 200 → x.Ok s d → s.size ≤ 80 → RepI w0 ok x v → (∀ k, ok k → k < w0.heap.size) → w0.heap.size ≤ W.heap.size →
  SameOn ok w0 W → Blk W B #[v, str x.scope, i64 d] 48 →
  IterAt Try.prog 57 #[ptr B] (x.preD d) (encP w0 ok) (fun k => ok k ∨ k = B) W

/-- The marks behind one loop more. -/
theorem behind_marks {own1 owni own' : Nat → Prop} {W2 wr wq W' : World} {D : Nat} {Ds : List Nat} (q3 : Keeps noB wr wq) (hoi : Owns own1 owni W2 wr) (hb : Behind owni own' wq W' D) (hnd : Ds.Nodup)
    (hDs : ∀ D, D ∈ Ds → W2.heap.size ≤ D ∧ ¬ owni D ∧ wr.heap[D]? = some (.deferred (some []))) :
    (D :: Ds).Nodup ∧ ∀ D', D' ∈ D :: Ds → W2.heap.size ≤ D' ∧ ¬ own' D' ∧ W'.heap[D']? = some (.deferred (some [])) := by
  have hlt : ∀ D', D' ∈ Ds → D' < wr.heap.size := fun D' hD' => (Array.getElem?_eq_some_iff.1 (hDs D' hD').2.2).1
  have hs := q3.size
  have hs2 := hoi.keeps.size
  have hnw := hb.new
  refine ⟨List.nodup_cons.2 ⟨fun e => by have := hlt D e; omega, hnd⟩, fun D' hD' => ?_⟩
  rcases List.mem_cons.1 hD' with rfl | hD'
  · exact ⟨by omega, hb.free, hb.none⟩
  · obtain ⟨h1, h2, h3⟩ := hDs D' hD'
    have hl := hlt D' hD'
    exact ⟨h1, fun e => (hb.owns.more D' e).elim h2 (fun e => by omega), (hb.owns.keeps.block D' (by omega) h2).trans ((q3.block D' hl id).trans h3)⟩

set_option maxRecDepth 100000 in
set_option maxHeartbeats 4000000 in
theorem within_ok (N : Nat) (ih : ∀ m, m < N → WithinOk m) : WithinOk N := by
  intro s x d v w0 W ok B hlen hN hx hs hr hok hsz hsame hB l J Jx own hJ hJx hown hprot hR h0 n
  obtain ⟨F, hF⟩ : ∃ F, F = Fence.wide := ⟨_, rfl⟩
  have hFf : ∀ f, F.fn f := by subst hF; exact fun _ => trivial
  have hdd : ∀ k : Nat, (F.depth.isSome = true → 1 ≤ k) := by subst hF; intro k h; simp [Fence.wide] at h
  have hro : F.round = none := by subst hF; rfl
  rw [← hF]
  have HF := Lib.hid hF
  clear hF
  refine callsIn_of_wp_marks Try.func57 rfl (hFf _) ?_ hro
  simp only [Try.ntmps57, List.size_toArray, List.length_cons, List.length_nil, Nat.reduceAdd, Nat.reduceSub, Array.replicate_succ, Array.replicate_zero, List.push_toArray, List.append_toArray, List.nil_append, List.cons_append]
  have b1 : Blk (W.alloc (.cells #[.func (.yield l) #[] #[]] 102)) W.heap.size #[.func (.yield l) #[] #[]] 102 := Blk.new _ _ _
  have b2 := hB.alloc (.cells #[.func (.yield l) #[] #[]] 102)
  have q0 : Keeps noB W (W.alloc (.cells #[.func (.yield l) #[] #[]] 102)) := (Keeps.refl _ _).alloc _
  have r0 := b1.cell 0
  have r1 := b2.cell 0
  have r2 := b2.cell 1
  have r3 := b2.cell 2
  simp at r0 r1 r2 r3
  have hpre := Nd.preD_eq x d
  have h1 := hJ _ _ _ _ h0 (q0.mono (fun _ e => e.elim))
  obtain ⟨fn, tmps, assign, body, hy, hRd⟩ := hR (n - 1) [] (x, d) _ #[placeV v x.scope d] own _ hpre ⟨v, rfl, hr⟩ h1 (fun k hk => by have := hown k hk; simp; omega)
  have HP := Lib.hid hpre
  have HR := Lib.hid hR
  clear hR hpre
  simp only [placeV] at hy
  unfold ptr
  rw [← HF.out] at hRd
  have hBn : ¬ own B := hprot B (.inr rfl)
  have hBl := hB.lt
  gi_wp2
  refine ⟨hdd _, hRd.mono ?_⟩
  clear hRd hy r0 r1 r2 r3
  rintro e W1 ⟨own1, ho1, (⟨rfl, hj1⟩ | ⟨rfl, hj1⟩)⟩
  · have hs1 : W.heap.size + 1 ≤ W1.heap.size := by have := ho1.keeps.size; simpa using this
    have b3 : Blk W1 B #[v, str x.scope, i64 d] 48 := ho1.keeps.blk b2 hBn
    have r1 := b3.cell 0
    have r2 := b3.cell 1
    have r3 := b3.cell 2
    simp at r1 r2 r3
    have same1 : SameOn ok w0 W1 := fun k hk hl => (ho1.keeps.block k (by simp; omega) (hprot k (.inl hk))).trans ((q0.block k (by omega) id).trans (hsame k hk hl))
    have HI := Lib.hid (inner_any s x d v ok W1 (by omega) hx hs ((Hands.of_same same1 hok).repI _ _ hr) (fun k hk => by have := hok k hk; omega))
    gi_wp2
    refine ⟨hdd _, CallsIn.mono (by rw [HF.out]; exact callsIn_wide.2 HI.out) ?_⟩
    rintro e W2 ⟨ra, rn, rm, cs, rfl, hn, hrow, hpl, q2⟩
    have HN := Lib.hid hn
    clear hn r1 r2 r3
    gi_wp2
    refine wpIn_loop (WithinAt J l B x d v W own1 W2 ra rn rm) (fun a _ => (intOf (a.tmps.getD 12 undef)).toNat - (intOf (a.tmps.getD 13 undef)).toNat) ?_ ?_
    · exact ⟨[], _, own1, [], _, _, _, _, _, _, _, _, _, _, _, _, _, rfl, rfl, hJ _ _ _ _ hj1 (q2.mono (fun _ e => e.elim)), Owns.refl (fun k hk => Nat.lt_of_lt_of_le (ho1.lt k hk) q2.size), List.nodup_nil, fun D hD => by cases hD⟩
    · rintro a wr ⟨done, todo, owni, Ds, u4, u5, u14, u15, u16, u17, u18, u19, u20, u21, u22, u23, u24, rfl, hkids, hji, hoi, hnd, hDs⟩
      have hdl := congrArg List.length hkids
      rw [List.length_append, ← HN.out] at hdl
      have HK := Lib.hid hkids
      have HDL := Lib.hid hdl
      have hoW : Owns own owni W wr := (Owns.behind q0 ho1).trans (Owns.behind q2 hoi)
      cases todo with
      | nil =>
        have hd : ¬ done.length < rn := by simp at hdl; omega
        clear hkids hdl
        gi_wp2
        refine leaves_marks Ds wr hnd (fun D hD => (hDs D hD).2.2) (fun W' q _ => ?_)
        refine ⟨_, results_none rfl _ _ _, _, owni, rfl, ?_, .inl ?_⟩
        · refine hoW.ahead q (fun i hi => ?_)
          have := (hDs i hi).1; have := q2.size; have := ho1.keeps.size; simp at this; omega
        · have hall : x.preD d = (x, d) :: done.flatMap (fun z => z.preD (inD x.kind d)) := by rw [HP.out, HK.out, List.append_nil]
          rw [hall]
          refine hJ _ _ _ _ hji (q.mono (fun i hi => ⟨?_, (hDs i hi).2.1⟩))
          have := (hDs i hi).1; have := q2.size; have := ho1.keeps.size; simp at this; omega
      | cons z todo =>
        have hd : done.length < rn := by simp at hdl; omega
        obtain ⟨g, rc, hv, hg1, hg2, hcell⟩ := row_get hrow (by omega)
        have hg1 : W1.heap.size ≤ g := hg1
        obtain ⟨rfl, rfl⟩ : ra = some ⟨g, 0, none⟩ ∧ rm = rc := by simpa using hv
        have hbg : wr.heap[g]? = W2.heap[g]? := hoi.keeps.block g hg2 (fun e => by have := ho1.lt g e; omega)
        obtain ⟨u, hzu, c0, c1, c2⟩ := hpl.get hkids
        have s0 := (World.cell?_of_block (w := W2) (w' := wr) (a := ⟨g, done.length * 3, none⟩) hbg).trans (hcell _ _ c0)
        have s1 := (World.cell?_of_block (w := W2) (w' := wr) (a := ⟨g, done.length * 3 + 1, none⟩) hbg).trans (hcell _ _ c1)
        have s2 := (World.cell?_of_block (w := W2) (w' := wr) (a := ⟨g, done.length * 3 + 2, none⟩) hbg).trans (hcell _ _ c2)
        have hzm : z ∈ x.bodies.kids := by rw [hkids]; simp
        have hzs := kid_small hzm
        have HZK := Lib.hid ((hx.good).kids z hzm)
        obtain ⟨ty, gu, rfl⟩ := rep_iface z _ _ _ hzu
        have HZU := Lib.hid hzu
        obtain ⟨ss, hss⟩ : ∃ ss, str z.scope = .string ss := ⟨_, rfl⟩
        rw [hss] at s1
        have HSS := Lib.hid hss
        unfold i64 at s2
        have hrn : rn < 200 := by rw [HN.out]; have := kids_len x; omega
        clear hkids hdl hv hbg c0 c1 c2 hzu hss
        have hpw := fun m => (callsIn_wide (n := m)).2 (placesWithin_any (.iface ty (ptr gu)) (.string ss) (.int .i64 (inD x.kind d : Int)) (wr.alloc (.cells #[.iface ty (ptr gu), .string ss, .int .i64 (inD x.kind d : Int)] 48)))
        rw [← HF.out] at hpw
        gi_wp2
        refine ⟨hdd _, (hpw _).mono ?_⟩
        clear hpw
        rintro e w' ⟨rfl, rfl⟩
        gi_wp2
        have q3 : Keeps noB wr ((wr.alloc (.cells #[.iface ty (ptr gu), .string ss, .int .i64 (inD x.kind d : Int)] 48)).alloc (.cells #[.iface ty (ptr gu), .string ss, .int .i64 (inD x.kind d : Int)] 48)) := ((Keeps.refl _ _).alloc _).alloc _
        have bq : Blk ((wr.alloc (.cells #[.iface ty (ptr gu), .string ss, .int .i64 (inD x.kind d : Int)] 48)).alloc (.cells #[.iface ty (ptr gu), .string ss, .int .i64 (inD x.kind d : Int)] 48)) (wr.heap.size + 1) #[.iface ty (ptr gu), str z.scope, i64 (inD x.kind d)] 48 := by
          rw [HSS.out]; have := Blk.new (wr.alloc (.cells #[.iface ty (ptr gu), .string ss, .int .i64 (inD x.kind d : Int)] 48)) #[.iface ty (ptr gu), .string ss, .int .i64 (inD x.kind d : Int)] 48; rwa [World.size_alloc] at this
        have hsq : ((wr.alloc (.cells #[.iface ty (ptr gu), .string ss, .int .i64 (inD x.kind d : Int)] 48)).alloc (.cells #[.iface ty (ptr gu), .string ss, .int .i64 (inD x.kind d : Int)] 48)).heap.size = wr.heap.size + 2 := by simp
        generalize (wr.alloc (.cells #[.iface ty (ptr gu), .string ss, .int .i64 (inD x.kind d : Int)] 48)).alloc (.cells #[.iface ty (ptr gu), .string ss, .int .i64 (inD x.kind d : Int)] 48) = wq at q3 bq hsq ⊢
        have hWr := hoW.keeps.size
        have hWq : W.heap.size ≤ wq.heap.size := by omega
        have hprot3 : ∀ k, ok k → ¬ owni k := fun k hk e => (hoW.more k e).elim (hprot k (.inl hk)) (fun e2 => by have := hok k hk; omega)
        have same3 : SameOn ok w0 wq := fun k hk hl => (q3.block k (by omega) id).trans ((hoW.keeps.block k (by omega) (hprot k (.inl hk))).trans (hsame k hk hl))
        refine wp_range HF.out (gf := 57) (lb := #[ptr (wr.heap.size + 1)]) (all := z.preD (inD x.kind d)) (enc := encP w0 ok) (prot := fun k => ok k ∨ k = wr.heap.size + 1) (own := owni)
          rfl (enters_of Try.func57 (by kernel_rfl) rfl) ?hiter
          (fun pre own' W' => J (((x, d) :: done.flatMap (fun z => z.preD (inD x.kind d))) ++ pre) own' W' ∧ Owns owni own' wq W')
          (fun c pre own' W' => (c = .ret ∧ Jx (((x, d) :: done.flatMap (fun z => z.preD (inD x.kind d))) ++ pre) own' W') ∧ Owns owni own' wq W') ?hI ?hIx ?hown ?hprot ?hps ?h0 ?hround ?hdone ?hstop
        case hiter =>
          intro W' q
          refine ih z.pre.len (by omega) s z (inD x.kind d) (.iface ty (ptr gu)) w0 W' ok (wr.heap.size + 1) rfl (by omega) (HZK.out).2 hs ?_ hok (by have := q.size; omega) (same3.keeps q (by omega) (fun _ _ e => e)) (q.blk bq id)
          exact (Hands.back same1 hok).repI _ _ HZU.out
        case hI => exact ((hJ.mono hWq).shift _).and Owns.stab
        case hIx =>
          intro c pre own W W' h q
          exact ⟨⟨h.1.1, (hJx.mono hWq).shift _ _ _ _ _ h.1.2 q⟩, Owns.stab pre _ _ _ h.2 q⟩
        case hown => intro k hk; have := hoi.lt k hk; omega
        case hprot =>
          rintro k (hk | rfl)
          · exact ⟨hprot3 k hk, by have := hok k hk; omega⟩
          · exact ⟨fun e => by have := hoi.lt _ e; omega, by omega⟩
        case hps => rintro y args ⟨v', rfl, _⟩; rfl
        case h0 => exact ⟨by rw [List.append_nil]; exact hJ _ _ _ _ hji (q3.mono (fun _ e => e.elim)), Owns.refl (fun k hk => by have := hoi.lt k hk; omega)⟩
        case hround =>
          intro lq m pre y post args own3 W3 hall henc hI3 hlt3 hql hnl hll
          obtain ⟨hj3, ho3⟩ := hI3
          obtain ⟨v', rfl, hv'⟩ := id henc
          have hno1 : ¬ own1 W.heap.size := fun e => (ho1.more _ e).elim (fun e => by have := hown _ e; omega) (fun e => by simp at e; omega)
          have b4 : Blk W3 W.heap.size #[.func (.yield l) #[] #[]] 102 := by
            refine ho3.keeps.blk (q3.blk (hoi.keeps.blk (q2.blk (ho1.keeps.blk b1 ?_) id) ?_) id) ?_
            · intro e; have := hown _ e; omega
            · exact hno1
            · intro e; exact (hoi.more _ e).elim hno1 (fun e => by have := q2.size; omega)
          obtain ⟨ty2, gy, rfl⟩ := rep_iface _ _ _ _ hv'
          obtain ⟨sy, hsy⟩ : ∃ sy, str y.1.scope = .string sy := ⟨_, rfl⟩
          have hpv : placeV (.iface ty2 (ptr gy)) y.1.scope y.2 = .agg #[.iface ty2 (ptr gy), .string sy, .int .i64 (y.2 : Int)] := by unfold placeV; rw [hsy]; rfl
          rw [hpv] at henc ⊢
          clear hsy hpv hv'
          gi_wp2
          refine ⟨(Keeps.refl _ _).alloc _, fun W5 q5 hs5 => ?_⟩
          rw [World.size_alloc] at hs5
          have hq3 := ho3.keeps.size
          have b5 : Blk W5 W.heap.size #[.func (.yield l) #[] #[]] 102 := q5.blk (b4.alloc _) (show W.heap.size ≠ lq by omega)
          have b6 : Blk W5 W3.heap.size #[.iface ty2 (ptr gy), .string sy, .int .i64 (y.2 : Int)] 48 := q5.blk (Blk.new _ _ _) (show W3.heap.size ≠ lq by omega)
          have k35 : Keeps (fun k => wq.heap.size ≤ k ∧ ¬ own3 k) W3 W5 := (((Keeps.refl noB _).alloc _).mono (fun _ e => e.elim)).trans (q5.mono (fun k e => by obtain rfl : k = lq := e; exact ⟨hql, hnl⟩))
          have hj5 := hJ _ _ _ _ hj3 (k35.mono (fun k e => ⟨by omega, e.2⟩))
          obtain ⟨fn2, tmps2, assign2, body2, hy2, hR2⟩ := HR.out (m - 1) _ y (post ++ todo.flatMap (fun z => z.preD (inD x.kind d))) #[.agg #[.iface ty2 (ptr gy), .string sy, .int .i64 (y.2 : Int)]] own3 W5 (by rw [HP.out, HK.out]; simp [hall]) henc hj5 (fun k hk => by have := hlt3 k hk; omega)
          have ho5 := ho3.ahead k35 (fun i hi => hi.1)
          clear henc
          rw [← HF.out] at hR2
          have r0 := b5.cell 0
          have r1 := b6.cell 0
          have r2 := b6.cell 1
          have r3 := b6.cell 2
          simp at r0 r1 r2 r3
          gi_wp2
          refine ⟨hdd _, (show RoundIn (F.inRound lq) _ _ _ _ _ _ _ _ _ from hR2).mono ?_⟩
          rintro e W6 ⟨own6, ho6, (⟨rfl, hj6⟩ | ⟨rfl, hj6⟩)⟩
          · gi_wp2
            exact ⟨own6, ho6, by rw [← List.append_assoc]; exact hj6, ho5.trans ho6⟩
          · gi_wp2
            exact ⟨own6, ho6, ⟨rfl, by rw [← List.append_assoc]; exact hj6⟩, ho5.trans ho6⟩
        case hdone =>
          rintro D own' W' hb ⟨hj', ho'⟩
          have hnew := behind_marks q3 hoi hb hnd hDs
          have how : Owns own1 own' W2 W' := (hoi.ahead q3 (fun _ e => e.elim)).trans hb.owns
          have hkd : x.bodies.kids = (done ++ [z]) ++ todo := by rw [HK.out]; simp
          have hjd : J ((x, d) :: (done ++ [z]).flatMap (fun z => z.preD (inD x.kind d))) own' W' := by
            rw [show (x, d) :: (done ++ [z]).flatMap (fun z => z.preD (inD x.kind d)) = ((x, d) :: done.flatMap (fun z => z.preD (inD x.kind d))) ++ z.preD (inD x.kind d) by simp]; exact hj'
          have HD := Lib.hid (And.intro hkd (And.intro hjd (And.intro how hnew)))
          clear hkd hjd how hnew hb hj' ho'
          dsimp only
          gi_wp2
          have e1 : (done.length : Int) + 1 = ((done ++ [z]).length : Int) := by simp
          rw [e1]
          obtain ⟨hkd, hjd, how, hnew⟩ := HD.out
          refine ⟨⟨done ++ [z], todo, own', D :: Ds, _, _, _, _, _, _, _, _, _, _, _, _, _, rfl, hkd, hjd, how, hnew.1, hnew.2⟩, ?_⟩
          simp [intOf]; omega
        case hstop =>
          rintro D c pre post own' W' hb hall ⟨⟨rfl, hj'⟩, ho'⟩
          obtain ⟨hn1, hn2⟩ := behind_marks q3 hoi hb hnd hDs
          have how : Owns own own' W W' := (hoW.ahead q3 (fun _ e => e.elim)).trans hb.owns
          have hsz2 : W.heap.size ≤ W2.heap.size := by have := q2.size; have := ho1.keeps.size; simp at this; omega
          dsimp only
          gi_wp2
          refine leaves_marks (D :: Ds) W' hn1 (fun D' hD' => (hn2 D' hD').2.2) (fun W'' q _ => ?_)
          refine ⟨_, results_none rfl _ _ _, _, own', rfl, how.ahead q (fun i hi => by have := (hn2 i hi).1; omega), .inr ⟨_, post ++ todo.flatMap (fun z => z.preD (inD x.kind d)), ?_, hJx _ _ _ _ hj' (q.mono (fun i hi => ⟨by have := (hn2 i hi).1; omega, (hn2 i hi).2.1⟩))⟩⟩
          rw [HP.out, HK.out]; simp [hall]
  · gi_wp2
    refine leaves_marks [] W1 List.nodup_nil (fun _ h => by cases h) (fun W' q _ => ?_)
    refine ⟨_, results_none rfl _ _ _, _, own1, rfl, ((Owns.behind q0 ho1).ahead q (fun _ e => by cases e)), .inr ⟨[(x, d)], _, HP.out, ?_⟩⟩
    exact hJx _ _ _ _ hj1 (q.mono (fun _ e => by cases e))

theorem within_all (N : Nat) : WithinOk N := Nat.strongRecOn N (fun n ih => within_ok n ih)

end Go.Proofs.Ytmdpnhkdbkclgaa
