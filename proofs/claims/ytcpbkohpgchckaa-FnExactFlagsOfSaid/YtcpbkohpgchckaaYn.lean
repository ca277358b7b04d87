/-
  The program's FlagsOf.
-/
import Derived.Test.YtcpbkohpgchckaaYm
import Derived.Test.YtcpbkohpgchckaaDb
namespace Go.Proofs.Ytcpbkohpgchckaa
set_option linter.unusedVariables false
set_option linter.unusedSimpArgs false
open Go.RowKit Go.Shelf

attribute [local go_sem] Oper.semAt_some

/-! ### the iterator of plans, the blocks that it needs told -/
set_option maxRecDepth 100000 in
set_option maxHeartbeats 4000000 in
theorem plans_iterG {s : ByteArray} {x : Nd} {R Q g mm : Nat} {w1 : World} {ok : Nat → Prop} (hprog : progP s = some x) (hrep : RepI w1 ok x (.iface 60 (ptr g))) (hokl : ∀ k, ok k → k < w1.heap.size) (hbR : Blk w1 R #[.pointer (some ⟨g, 0, none⟩)] 60) (hbQ : Blk w1 Q #[.map (some mm)] 87)
    (hm : MapAt Try.prog 3 w1 mm (notesP x)) (okR : ok R) (okQ : ok Q) (okm : ok mm) {may : Nat → Prop} (hmay : ∀ k, ok k → ¬ may k) (W : World) (q : Keeps may w1 W) :
    IterAt Try.prog 90 #[ptr R, ptr Q] (plansL x) encU ok W := by
  intro l J Jx own hJ hJx hown hprot hR h0 n
  obtain ⟨F, hF⟩ : ∃ F, F = Fence.wide := ⟨_, rfl⟩
  have hFf : ∀ f, F.fn f := by subst hF; exact fun _ => trivial
  have hdd : ∀ k : Nat, (F.depth.isSome = true → 1 ≤ k) := by subst hF; intro k h; simp [Fence.wide] at h
  have hro : F.round = none := by subst hF; rfl
  have hds : F.depth.isSome = false := by subst hF; rfl
  rw [← hF]
  have HF := Lib.hid hF
  clear hF
  have HW : Hid (∀ n v sv dv w, CallsIn F n Try.prog 91 #[.agg #[v, sv, dv]] w (fun e w' => e = .returned (.func (.func 130) #[] #[ptr w.heap.size]) ∧ w' = w.alloc (.cells #[v, sv, dv] 51))) := fun n v sv dv w => by
    rw [HF.out]; exact callsIn_wide.2 (unsaidWithin_any v sv dv w)
  obtain ⟨hx1, hx2, _, _, _, hx6⟩ := progP_ok hprog
  have hfew := (progP_few hprog).1
  have hsp := progP_sp hprog
  have hft := progP_fit hprog
  have HN : Hid (∀ p ∈ x.pts, notesP x p.1 = some (knownJ x p.1) ∧ (knownJ x p.1).Wf ∧ (∀ v ∈ p.2, ltr v) ∧ p.2.length ≤ 80 ∧ p.1 ≤ 80) := fun p hpm => by
    have h1 := pts_P hprog hpm
    exact ⟨h1.1, h1.2, progP_pts hprog p hpm⟩
  have hRlt := hbR.lt
  have hQlt := hbQ.lt
  have hmlt := hm.lt
  have HB := Lib.hid (And.intro hbQ (And.intro hm hrep))
  have hql := q.size
  have r0 := (q.blk hbR (hmay R okR)).cell 0
  simp at r0
  have bY := (Blk.new W #[.func (.yield l) #[] #[]] 145).alloc (.cells #[.iface 60 (.pointer (some ⟨g, 0, none⟩)), .string ⟨#[]⟩, .int .i64 0] 51)
  have bB := Blk.new (W.alloc (.cells #[.func (.yield l) #[] #[]] 145)) #[.iface 60 (.pointer (some ⟨g, 0, none⟩)), .string ⟨#[]⟩, .int .i64 0] 51
  have hs5 : ((W.alloc (.cells #[.func (.yield l) #[] #[]] 145)).alloc (.cells #[.iface 60 (.pointer (some ⟨g, 0, none⟩)), .string ⟨#[]⟩, .int .i64 0] 51)).heap.size = W.heap.size + 1 + 1 := by simp only [World.size_alloc]
  have q05 : Keeps noB W ((W.alloc (.cells #[.func (.yield l) #[] #[]] 145)).alloc (.cells #[.iface 60 (.pointer (some ⟨g, 0, none⟩)), .string ⟨#[]⟩, .int .i64 0] 51)) := ((Keeps.refl _ _).alloc _).alloc _
  rw [World.size_alloc] at bB
  have r1 : (W.alloc (.cells #[.func (.yield l) #[] #[]] 145)).cell? ⟨R, 0, none⟩ = some (.pointer (some ⟨g, 0, none⟩)) := (((q.blk hbR (hmay R okR)).alloc _).cell 0).trans rfl
  have hgR := okR
  clear hbR hbQ hm hrep
  refine callsIn_of_wp_marks Try.func90 rfl (hFf _) ?_ hro
  simp only [Try.ntmps90, List.size_toArray, List.length_cons, List.length_nil, Nat.reduceAdd, Nat.reduceSub, Array.replicate_succ, Array.replicate_zero, List.push_toArray, List.append_toArray, List.nil_append, List.cons_append]
  unfold ptr
  gi_wp2
  refine (HW.out _ _ _ _ _).mono ?_
  rintro e w5 ⟨rfl, rfl⟩
  gi_wp2
  generalize (W.alloc (.cells #[.func (.yield l) #[] #[]] 145)).alloc (.cells #[.iface 60 (.pointer (some ⟨g, 0, none⟩)), .string ⟨#[]⟩, .int .i64 0] 51) = w5 at *
  have q15 := q.trans (q05.mono (fun _ e => e.elim))
  have hbB : Blk w5 (W.heap.size + 1) #[.iface 60 (ptr g), str x.scope, i64 0] 51 := by rw [hx1]; exact bB
  have HS := Lib.hid (And.intro hs5 (And.intro hql (And.intro hQlt hmlt)))
  have HQ := Lib.hid (And.intro q15 (And.intro bY q05))
  have HR := Lib.hid hR
  have HJ := Lib.hid hJ
  have HJX := Lib.hid hJx
  have HP := Lib.hid (And.intro hprot hown)
  have h0' : J (plansU x []) own W := h0
  refine wp_range HF.out (gf := 130) (lb := #[ptr (W.heap.size + 1)]) (all := x.pts) (enc := encU) (prot := fun k => ok k ∨ k = W.heap.size + 1) (own := own)
    rfl (enters_of Try.func130 (by kernel_rfl) rfl)
    (fun W' q' => unsaid_all x.pre.len s x 0 _ w1 W' ok (W.heap.size + 1) rfl (by omega) hx2 hsp hft hx6 HB.out.2.2 hokl (by have := q'.size; omega) (fun k hk hl => (q'.block k (by have := q15.size; omega) id).trans (q15.block k hl (hmay k hk))) (q'.blk hbB id))
    (fun pre own' W' => J (plansU x pre) own' W' ∧ Owns own own' w5 W') (fun c pre own' W' => (c = .ret ∧ Jx (plansU x pre) own' W') ∧ Owns own own' w5 W') ?hI ?hIx ?hown ?hprot ?hps ?h0 ?hround ?hdone ?hstop
  case hI =>
    intro pre own' Wa Wb h q
    exact ⟨(hJ.mono (by omega)) _ _ _ _ h.1 q, Owns.stab pre _ _ _ h.2 q⟩
  case hIx =>
    intro c pre own' Wa Wb h q
    exact ⟨⟨h.1.1, (hJx.mono (by omega)) _ _ _ _ h.1.2 q⟩, Owns.stab pre _ _ _ h.2 q⟩
  case hown => intro k hk; have := hown k hk; omega
  case hprot =>
    rintro k (hk | rfl)
    · exact ⟨hprot k hk, by have := hokl k hk; omega⟩
    · exact ⟨fun e => by have := hown _ e; omega, by omega⟩
  case hps => rintro y args rfl; rfl
  case h0 => exact ⟨hJ _ _ _ _ h0' (q05.mono (fun _ e => e.elim)), Owns.refl (fun k hk => by have := hown k hk; omega)⟩
  case hround =>
    rintro lq n pre p post args own1 W1 hall henc ⟨hj1, ho1⟩ hlt hl hnl hll
    unfold encU at henc
    subst henc
    have hpm : p ∈ x.pts := by rw [hall]; simp
    obtain ⟨hn1, hkw, hltr, hlen, hbe⟩ := HN.out p hpm
    obtain ⟨pl, hpl⟩ : ∃ pl, pl = planK (knownJ x p.1) p.2 := ⟨_, rfl⟩
    have hone := plansU_one x p
    rw [← hpl] at hone
    have HALL : Hid (plansL x = plansU x pre ++ (plansU x [p] ++ plansU x post)) := by
      refine Lib.hid ?_
      rw [plansL_eq]
      rw [hall, show pre ++ p :: post = pre ++ ([p] ++ post) from rfl, plansU_app, plansU_app]
    have HSN : Hid (plansU x (pre ++ [p]) = plansU x pre ++ plansU x [p]) := Lib.hid (plansU_app _ _ _)
    have HPL := Lib.hid hpl
    clear hall
    gi_wp2
    refine ⟨Keeps.refl _ _, fun W3 q3 hs3 => ?_⟩
    clear hs3
    have hk13 : Keeps (fun k => w5.heap.size ≤ k ∧ ¬ own1 k) W1 W3 := q3.mono (fun k e => by obtain rfl : k = lq := e; exact ⟨hl, hnl⟩)
    have ho3 := ho1.ahead hk13 (fun i e => e.1)
    have hS := HS.out
    have hnb : ∀ k, ok k → ¬ own k := fun k h => HP.out.1 k h
    have c5 : Blk W3 Q #[.map (some mm)] 87 := ho3.keeps.blk (HQ.out.1.blk HB.out.1 (hmay Q okQ)) (hnb Q okQ)
    have hm3 : MapAt Try.prog 3 W3 mm (notesP x) := (HB.out.2.1.keeps HQ.out.1 (hmay mm okm)).keeps ho3.keeps (hnb mm okm)
    have y5 : Blk W3 W.heap.size #[.func (.yield l) #[] #[]] 145 := ho3.keeps.blk HQ.out.2.1 (fun e => by have := HP.out.2 _ e; omega)
    have hj3 := HJ.out _ _ _ _ hj1 (hk13.mono (fun k e => ⟨by omega, e.2⟩))
    have hlt3 : ∀ k, own1 k → k < W3.heap.size := ho3.lt
    have hlk := hm3.look Try.underlying3 Try.underlying87 (t := 87) (zeroKnP W3) (a := (p.1 : Int)) (by simp [Lit.wf, IntKind.min, IntKind.max, IntKind.signed, IntKind.bits]; omega)
    rw [noteI_nat, hn1] at hlk
    have r2 := c5.cell 0
    simp at r2
    have hko : knO (some (knownJ x p.1)) = knownJ x p.1 := rfl
    rw [hko] at hlk
    obtain ⟨kk, hkk⟩ : ∃ kk, knownJ x p.1 = kk := ⟨_, rfl⟩
    rw [hkk] at hlk hkw hpl
    have b4 := Blk.new W3 #[.int .u8 (kk.may : Int), .int .u8 (kk.must : Int)] 103
    have q34 : Keeps noB W3 (W3.alloc (.cells #[.int .u8 (kk.may : Int), .int .u8 (kk.must : Int)] 103)) := (Keeps.refl _ _).alloc _
    have HPL1 : Hid (∀ m, CallsIn F m Try.prog 63 #[knV kk] W3 (fun e w' => e = .returned (.func (.func 95) #[] #[ptr W3.heap.size]) ∧ w' = W3.alloc (.cells #[.int .u8 (kk.may : Int), .int .u8 (kk.must : Int)] 103))) := fun m => by
      rw [HF.out]; exact callsIn_wide.2 (planner_any kk W3)
    have HPL2 : Hid (∀ m, CallsIn F m Try.prog 95 #[.string ⟨p.2.toArray⟩, .pointer (some ⟨W3.heap.size, 0, none⟩)] (W3.alloc (.cells #[.int .u8 (kk.may : Int), .int .u8 (kk.must : Int)] 103)) (fun e w' => e = .returned (.string ⟨pl.toArray⟩) ∧ Keeps noB (W3.alloc (.cells #[.int .u8 (kk.may : Int), .int .u8 (kk.must : Int)] 103)) w')) := fun m => by
      rw [HF.out, hpl]; exact callsIn_wide.2 (plan_any kk hkw p.2 hltr (by omega) _ _ b4)
    have HY : Hid (pl ≠ [] → ∀ m W4, Keeps noB W3 W4 → YieldAt F m Try.prog l #[.int .i64 (p.1 : Int), .string ⟨pl.toArray⟩] W4 (RoundEnds J Jx (plansU x pre ++ [(p.1, pl)]) own1 W4)) := fun hne m W4 q4 => by
      rw [HF.out]
      have hh := HALL.out
      rw [hone, if_neg hne] at hh
      exact HR.out m _ (p.1, pl) _ _ own1 W4 hh rfl (HJ.out _ _ _ _ hj3 (q4.mono (fun _ e => e.elim))) (fun k hk => Nat.lt_of_lt_of_le (hlt3 k hk) q4.size)
    have HO3 := Lib.hid (And.intro ho3 (And.intro hj3 (And.intro y5 q34)))
    have HONE := Lib.hid hone
    clear c5 hk13 q3 hm3 y5 hn1 hkw hltr hlen hj1 hj3 ho1 ho3 hnb b4 q34 hkk hko hone hpl hpm
    obtain ⟨km, ku⟩ := kk
    unfold knV at hlk HPL1
    unfold ptr at HPL1
    simp only at hlk HPL1 HPL2
    gi_wp2
    refine CallsIn.mono (CallsIn.inRound lq (HPL1.out _)) ?_
    rintro e w' ⟨rfl, hw'⟩
    have HO4 : Hid (Keeps noB W3 w' ∧ w'.heap.size = W3.heap.size + 1) := by rw [hw']; exact ⟨(Keeps.refl _ _).alloc _, by simp⟩
    rw [← hw'] at HPL2
    clear hw' hlk r2
    gi_wp2
    refine CallsIn.mono (CallsIn.inRound lq (HPL2.out _)) ?_
    rintro e W4 ⟨rfl, q4⟩
    have k34 : Keeps noB W3 W4 := HO4.out.1.trans q4
    have r5 := (k34.blk HO3.out.2.2.1 id).cell 0
    simp at r5
    have HK34 := Lib.hid k34
    clear k34 q4 HO4 HPL1 HPL2
    by_cases hne : pl = []
    · subst hne
      have HE : Hid (∃ own', Owns own1 own' W3 W4 ∧ J (plansU x (pre ++ [p])) own' W4 ∧ Owns own own' w5 W4) := by
        have ho4 := HO3.out.1.ahead HK34.out (fun _ e => e.elim)
        refine ⟨own1, Owns.behind HK34.out (Owns.refl ho4.lt), ?_, ho4⟩
        rw [HSN.out, HONE.out, if_pos rfl, List.append_nil]
        exact HJ.out _ _ _ _ HO3.out.2.1 (HK34.out.mono (fun _ e => e.elim))
      clear HY
      gi_wp2
      exact HE.out
    · have HE0 : Hid (plansU x (pre ++ [p]) = plansU x pre ++ [(p.1, pl)]) := Lib.hid (by rw [HSN.out, HONE.out, if_neg hne])
      have hie : pl.isEmpty = false := by cases pl with | nil => exact absurd rfl hne | cons c r => rfl
      obtain ⟨fn2, tmps2, assign2, body2, hy2, hR2⟩ := HY.out hne (n - 1) W4 HK34.out
      clear HY
      gi_wp2
      refine (show RoundIn (F.inRound lq) _ _ _ _ _ _ _ _ _ from hR2).mono ?_
      clear hR2 hy2
      rintro e W6 ⟨own6, ho6, (⟨rfl, hj6⟩ | ⟨rfl, hj6⟩)⟩
      · have HE := Lib.hid (And.intro (Owns.behind HK34.out ho6) (And.intro hj6 ((HO3.out.1.ahead HK34.out (fun _ e => e.elim)).trans ho6)))
        clear hj6 ho6
        gi_wp2
        exact ⟨own6, HE.out.1, by rw [HE0.out]; exact HE.out.2.1, HE.out.2.2⟩
      · have HE := Lib.hid (And.intro (Owns.behind HK34.out ho6) (And.intro hj6 ((HO3.out.1.ahead HK34.out (fun _ e => e.elim)).trans ho6)))
        clear hj6 ho6
        gi_wp2
        exact ⟨own6, HE.out.1, ⟨rfl, by rw [HE0.out]; exact HE.out.2.1⟩, HE.out.2.2⟩
  case hdone =>
    rintro D own' W' hb ⟨hj', ho'⟩
    have hS := HS.out
    have hnew := hb.new
    have HD := Lib.hid hb.none
    have HE : Hid (∀ W2, Keeps (fun k => k ∈ [D]) W' W2 → Owns own own' W W2 ∧ J (plansL x) own' W2) := fun W2 q2 =>
      ⟨(Owns.behind HQ.out.2.2 hb.owns).ahead q2 (fun i hi => by simp at hi; omega), HJ.out _ _ _ _ hj' (q2.mono (fun i hi => by simp at hi; subst hi; exact ⟨by omega, hb.free⟩))⟩
    clear hb hj' ho'
    dsimp only
    gi_wp2
    refine leaves_marks [D] _ (by simp) (fun D' hD' => by simp at hD'; subst hD'; exact HD.out) (fun W2 q2 _ => ?_)
    exact ⟨_, results_none rfl _ _ _, _, own', rfl, (HE.out W2 q2).1, .inl (HE.out W2 q2).2⟩
  case hstop =>
    rintro D c pre post own' W' hb hall ⟨⟨rfl, hj'⟩, ho'⟩
    have hS := HS.out
    have hnew := hb.new
    have HD := Lib.hid hb.none
    have HE : Hid (∀ W2, Keeps (fun k => k ∈ [D]) W' W2 → Owns own own' W W2 ∧ Jx (plansU x pre) own' W2) := fun W2 q2 =>
      ⟨(Owns.behind HQ.out.2.2 hb.owns).ahead q2 (fun i hi => by simp at hi; omega), HJX.out _ _ _ _ hj' (q2.mono (fun i hi => by simp at hi; subst hi; exact ⟨by omega, hb.free⟩))⟩
    have HALL : Hid (plansL x = plansU x pre ++ plansU x post) := Lib.hid (by rw [plansL_eq, hall, plansU_app])
    clear hb hj' ho' hall
    dsimp only
    gi_wp2
    refine leaves_marks [D] _ (by simp) (fun D' hD' => by simp at hD'; subst hD'; exact HD.out) (fun W2 q2 _ => ?_)
    exact ⟨_, results_none rfl _ _ _, _, own', rfl, (HE.out W2 q2).1, .inr ⟨_, _, HALL.out, (HE.out W2 q2).2⟩⟩

/-! ### whether a step is a valueStep -/
theorem isVVn (p : Value) (w : World) : (Instr.typeAssert (.iface 96 p) 49 96 true).run Try.prog w = .ok (.tuple #[p, .bool true]) w := by kernel_rfl
theorem val_any {W : World} {z : Nd} {ty : TypeId} {g : Nat} (h : StepIs W z ty g) : ∃ pv isv, (∀ w, (Instr.typeAssert (.iface ty (.pointer (some ⟨g, 0, none⟩))) 49 96 true).run Try.prog w = .ok (.tuple #[.pointer pv, .bool isv]) w) ∧
    ((isv = false ∧ z.kind ≠ 126) ∨ (isv = true ∧ pv = some ⟨g, 0, none⟩ ∧ ValIs W z g)) := by
  rcases h.tys with rfl | ⟨rfl, hk⟩ | ⟨rfl, hk⟩ | ⟨rfl, hk⟩ | ⟨rfl, hk⟩
  · exact ⟨_, _, fun w => isVVn _ _, .inr ⟨rfl, rfl, h.val rfl⟩⟩
  · exact ⟨_, _, fun w => isLV _ _, .inl ⟨rfl, by rcases hk with hk | hk <;> rw [hk] <;> decide⟩⟩
  · exact ⟨_, _, fun w => isOV _ _, .inl ⟨rfl, by rw [hk]; decide⟩⟩
  · exact ⟨_, _, fun w => isSV _ _, .inl ⟨rfl, by rw [hk]; decide⟩⟩
  · exact ⟨_, _, fun w => isBV _ _, .inl ⟨rfl, by rw [hk]; decide⟩⟩

theorem execOp_conv {P : Program} {a : Act} {o : Oper} {W : World} {t1 t2 : TypeId} {x : Operand} (ho : o.op = .convert t1 t2 x) (vx : Value) (hx : a.eval x = vx) (v : Value) (hr : (convert t1 t2 vx).run P W = .ok v W) : (execOp a.eval o).run P W = .ok (.value v) W := by
  unfold execOp
  simp only [ho, hx, Sem.run_bind, Sem.run_pure, hr, Result.andThen_ok]

theorem resFlags (W : World) (v b : Value) (tmps : Array Value) (h2 : tmps.getD 2 undef = v) (h3 : tmps.getD 3 undef = b) : (results Try.f29 tmps).run Try.prog W = .ok (.tuple #[v, b]) W := by
  have h2' : tmps[2]?.getD undef = v := by simpa using h2
  have h3' : tmps[3]?.getD undef = b := by simpa using h3
  simp [results, Try.results29, go_sem, h2', h3']

set_option maxRecDepth 100000 in
set_option maxHeartbeats 4000000 in
theorem flags_none (s : ByteArray) (hs : s.size ≤ 1048576) (hp : progP s = none) (w : World) : Calls Try.prog 29 #[.string s] w (FlagsPost none w) := by
  refine (callsIn_wide (n := 9)).1 ?_
  obtain ⟨F, hF⟩ : ∃ F, F = Fence.wide := ⟨_, rfl⟩
  have hFf : ∀ f, F.fn f := by subst hF; exact fun _ => trivial
  have hdd : ∀ k : Nat, (F.depth.isSome = true → 1 ≤ k) := by subst hF; intro k h; simp [Fence.wide] at h
  have hro : F.round = none := by subst hF; rfl
  have hds : F.depth.isSome = false := by subst hF; rfl
  have HR : Hid (∀ m w, CallsIn F m Try.prog 49 #[.string s] w (ReadPost w none)) := fun m w => by
    rw [hF]; have := read_any s hs w; rw [hp] at this; exact callsIn_wide.2 this
  rw [← hF]
  have HF := Lib.hid hF
  clear hF
  refine callsIn_of_wp_marks Try.func29 rfl (hFf _) ?_ hro
  simp only [Try.ntmps29, List.size_toArray, List.length_cons, List.length_nil, Nat.reduceAdd, Nat.reduceSub, Array.replicate_succ, Array.replicate_zero, List.push_toArray, List.append_toArray, List.nil_append, List.cons_append]
  gi_wp2
  refine (HR.out _ _).mono ?_
  rintro e w1 ⟨rfl, q1⟩
  gi_wp2
  refine leaves_marks [] _ List.nodup_nil (fun _ h => by cases h) (fun W' q _ => ?_)
  exact ⟨_, resFlags W' (.string ⟨#[]⟩) (.bool false) _ rfl rfl, rfl, q1.trans (q.mono (fun _ e => by cases e))⟩

/-- What has been gathered in the array K. -/
def FlagI (K : Nat) (w2 : World) (l : List UInt8) (own : Nat → Prop) (W' : World) : Prop := own = oneB K ∧ Owns (oneB K) own w2 W' ∧ Blk W' K (flagsA l) 90
theorem FlagI.stab {K : Nat} {w2 : World} (hK : K < w2.heap.size) {l : List UInt8} {own : Nat → Prop} {W W' : World} (h : FlagI K w2 l own W) (q : Keeps (fun k => w2.heap.size ≤ k ∧ ¬ own k) W W') : FlagI K w2 l own W' := by
  obtain ⟨rfl, h1, h2⟩ := h
  exact ⟨rfl, h1.ahead q (fun i e => e.1), q.blk h2 (fun e => e.2 rfl)⟩

/-- One plan more. -/
theorem FlagI.more {K : Nat} {w2 W W2 : World} {l m : List UInt8} (h : FlagI K w2 l (oneB K) W) (hb : Blk W2 K (flagsA (l ++ m)) 90) (q : Keeps (oneB K) W W2) : FlagI K w2 (l ++ m) (oneB K) W2 ∧ Owns (oneB K) (oneB K) W W2 := by
  obtain ⟨_, h1, h2⟩ := h
  have ho : Owns (oneB K) (oneB K) W W2 := ⟨fun k e => .inl e, fun k e => by rw [show k = K from e]; exact hb.lt, q⟩
  exact ⟨⟨rfl, h1.trans ho, hb⟩, ho⟩

set_option maxRecDepth 100000 in
set_option maxHeartbeats 4000000 in
theorem flags_some (s : ByteArray) (hs : s.size ≤ 1048576) (x : Nd) (hp : progP s = some x) (w : World) : Calls Try.prog 29 #[.string s] w (FlagsPost (some (sortedOf (flagsL x))) w) := by
  refine (callsIn_wide (n := 9)).1 ?_
  obtain ⟨F, hF⟩ : ∃ F, F = Fence.wide := ⟨_, rfl⟩
  have hFf : ∀ f, F.fn f := by subst hF; exact fun _ => trivial
  have hdd : ∀ k : Nat, (F.depth.isSome = true → 1 ≤ k) := by subst hF; intro k h; simp [Fence.wide] at h
  have hro : F.round = none := by subst hF; rfl
  have hds : F.depth.isSome = false := by subst hF; rfl
  have HR : Hid (∀ m w, CallsIn F m Try.prog 49 #[.string s] w (ReadPost w (some x))) := fun m w => by
    rw [hF]; have := read_any s hs w; rw [hp] at this; exact callsIn_wide.2 this
  have HV : Hid (∀ n w ok g, RepI w ok x (.iface 60 (ptr g)) → CallsIn F n Try.prog 59 #[.pointer (some ⟨g, 0, none⟩)] w (fun e w' => ∃ m, e = .returned (.map (some m)) ∧ MapAt Try.prog 3 w' m (notesP x) ∧ Keeps noB w w' ∧ w.heap.size ≤ m)) := fun n w ok g hr => by
    rw [hF]; exact callsIn_wide.2 (surveyed_any hp w ok g hr)
  have HPW : Hid (∀ n g m w, CallsIn F n Try.prog 60 #[.pointer (some ⟨g, 0, none⟩), .map (some m)] w (fun e w' => e = .returned (.func (.func 90) #[] #[ptr w.heap.size, ptr (w.heap.size + 1)]) ∧ w' = (w.alloc (.cells #[.pointer (some ⟨g, 0, none⟩)] 60)).alloc (.cells #[.map (some m)] 87))) := fun n g m w => by
    rw [hF]; exact callsIn_wide.2 (plansWithin_any g m w)
  have HW : Hid (∀ n v sv dv w, CallsIn F n Try.prog 62 #[.agg #[v, sv, dv]] w (fun e w' => e = .returned (.func (.func 93) #[] #[ptr w.heap.size]) ∧ w' = w.alloc (.cells #[v, sv, dv] 51))) := fun n v sv dv w => by
    rw [hF]; exact callsIn_wide.2 (placesWithin_any v sv dv w)
  have HG : Hid (∀ n K l ps w, (∀ p ∈ ps, ltr p.2) → ps.length ≤ 80 → Blk w K (flagsA l) 90 → CallsIn F n Try.prog 61 #[.pointer (some ⟨K, 0, none⟩), .string ⟨(ps.flatMap pairB).toArray⟩] w (fun e w' => e = .returned (.tuple #[]) ∧ Blk w' K (flagsA (l ++ tildes ps)) 90 ∧ Keeps (oneB K) w w')) := fun n K l ps w h1 h2 h3 => by
    rw [hF]; exact callsIn_wide.2 (gather_any K l ps h1 h2 w h3)
  have HNM : Hid (∀ n K l w, Blk w K (flagsA l) 90 → CallsIn F n Try.prog 65 #[.pointer (some ⟨K, 0, none⟩)] w (fun e w' => e = .returned (.string ⟨(sortedOf l).toArray⟩) ∧ Keeps noB w w')) := fun n K l w h => by
    rw [hF]; exact callsIn_wide.2 (names5_any K l w h)
  obtain ⟨hx1, hx2, _, _, _, hx6⟩ := progP_ok hp
  have hfew := (progP_few hp).1
  have HFIT : Hid (∀ z ∈ x.pre.list, StepFit x z) := fun z hz => step_fit hp hz
  have HPS : Hid (∀ q ∈ plansL x, ∃ ps : List (Bool × UInt8), q.2 = ps.flatMap pairB ∧ (∀ p ∈ ps, ltr p.2) ∧ ps.length ≤ 80) := fun q hq => by
    obtain ⟨p, hpm, rfl, _⟩ := mem_plansL.1 hq
    have h1 := progP_pts hp p hpm
    obtain ⟨ps, e1, e2, e3⟩ := pairs_plan (knownJ x p.1) p.2 h1.1
    exact ⟨ps, e1, e2, Nat.le_trans e3 h1.2.1⟩
  have HP := Lib.hid (And.intro hp (And.intro hx1 (And.intro hx2 (And.intro hx6 hfew))))
  rw [← hF]
  have HF := Lib.hid hF
  clear hF hx1 hx2 hx6 hfew hp
  obtain ⟨RES, hRES⟩ : ∃ RES, sortedOf (flagsL x) = RES := ⟨_, rfl⟩
  rw [hRES]
  have HRES := Lib.hid hRES
  clear hRES
  refine callsIn_of_wp_marks Try.func29 rfl (hFf _) ?_ hro
  simp only [Try.ntmps29, List.size_toArray, List.length_cons, List.length_nil, Nat.reduceAdd, Nat.reduceSub, Array.replicate_succ, Array.replicate_zero, List.push_toArray, List.append_toArray, List.nil_append, List.cons_append]
  gi_wp2
  refine (HR.out _ _).mono ?_
  rintro e w1 ⟨g, rfl, hr, q1⟩
  have HREP := Lib.hid hr
  have HQ1 := Lib.hid q1
  clear hr q1
  unfold ptr
  gi_wp2
  refine (HV.out _ _ _ _ HREP.out).mono ?_
  rintro e w2 ⟨m, rfl, hm, q2, hml⟩
  have HM := Lib.hid (And.intro hm (And.intro q2 hml))
  clear hm q2 hml
  gi_wp2
  obtain ⟨w3, hw3⟩ : ∃ w3, w3 = (w2.alloc (.cells #[.map (some m)] 87)).alloc (.cells #[.bool false, .bool false, .bool false, .bool false, .bool false, .bool false] 90) := ⟨_, rfl⟩
  have H3 : Hid (Keeps noB w2 w3 ∧ w3.heap.size = w2.heap.size + 2 ∧ Blk w3 w2.heap.size #[.map (some m)] 87 ∧ Blk w3 (w2.heap.size + 1) (flagsA []) 90) := Lib.hid (by
    rw [hw3, flagsA_nil]
    refine ⟨((Keeps.refl _ _).alloc _).alloc _, by simp, (Blk.new _ _ _).alloc _, ?_⟩
    have := Blk.new (w2.alloc (.cells #[.map (some m)] 87)) #[.bool false, .bool false, .bool false, .bool false, .bool false, .bool false] 90
    rwa [World.size_alloc] at this)
  rw [← hw3]
  clear hw3
  refine (HPW.out _ _ _ _).mono ?_
  rintro e w4 ⟨rfl, hw4⟩
  have H4 : Hid (Keeps noB w3 w4 ∧ w4.heap.size = w3.heap.size + 2 ∧ Blk w4 w3.heap.size #[.pointer (some ⟨g, 0, none⟩)] 60 ∧ Blk w4 (w3.heap.size + 1) #[.map (some m)] 87) := Lib.hid (by
    rw [hw4]
    refine ⟨((Keeps.refl _ _).alloc _).alloc _, by simp, (Blk.new _ _ _).alloc _, ?_⟩
    have := Blk.new (w3.alloc (.cells #[.pointer (some ⟨g, 0, none⟩)] 60)) #[.map (some m)] 87
    rwa [World.size_alloc] at this)
  clear hw4
  obtain ⟨K, hK⟩ : ∃ K, K = w2.heap.size + 1 := ⟨_, rfl⟩
  have HSZ : Hid (w.heap.size ≤ w1.heap.size ∧ w1.heap.size ≤ m ∧ m < w2.heap.size ∧ w1.heap.size ≤ w2.heap.size ∧ w3.heap.size = w2.heap.size + 2 ∧ w4.heap.size = w3.heap.size + 2 ∧ K = w2.heap.size + 1) :=
    Lib.hid ⟨HQ1.out.size, HM.out.2.2, HM.out.1.lt, HM.out.2.1.size, H3.out.2.1, H4.out.2.1, hK⟩
  have HREP2 : Hid (RepI w2 (between w.heap.size w2) x (.iface 60 (ptr g))) := Lib.hid ((Hands.of_keeps HM.out.2.1 (fun _ _ _ => id) (fun k (hk : w.heap.size ≤ k) hl => ⟨hk, by have := HSZ.out; omega⟩)).repI _ _ HREP.out)
  have q24 : Keeps noB w2 w4 := H3.out.1.trans H4.out.1
  have HREP4 : Hid (RepI w4 (fun k => between w.heap.size w2 k ∨ k = w3.heap.size ∨ k = w3.heap.size + 1) x (.iface 60 (ptr g))) := Lib.hid ((Hands.of_keeps q24 (fun _ _ _ => id) (fun k (hk : between w.heap.size w2 k) hl => .inl hk)).repI _ _ HREP2.out)
  have HM4 : Hid (MapAt Try.prog 3 w4 m (notesP x)) := Lib.hid (HM.out.1.keeps q24 id)
  have HB4 : Hid (Blk w4 w2.heap.size #[.map (some m)] 87 ∧ Blk w4 K (flagsA []) 90) := Lib.hid ⟨H4.out.1.blk H3.out.2.2.1 id, by rw [hK]; exact H4.out.1.blk H3.out.2.2.2 id⟩
  have HQ4 := Lib.hid q24
  rw [← hK]
  clear hK q24
  unfold ptr
  gi_wp2
  refine wp_range HF.out (gf := 90) (lb := #[ptr w3.heap.size, ptr (w3.heap.size + 1)]) (all := plansL x) (enc := encU) (prot := fun k => between w.heap.size w2 k ∨ k = w3.heap.size ∨ k = w3.heap.size + 1) (own := oneB K)
    rfl (enters_of Try.func90 (by kernel_rfl) rfl)
    (fun W q => plans_iterG HP.out.1 HREP4.out (by
      have h := HSZ.out
      rintro k (hk | rfl | rfl)
      · have := hk.2; omega
      · omega
      · omega) H4.out.2.2.1 H4.out.2.2.2 HM4.out (.inr (.inl rfl)) (.inr (.inr rfl)) (.inl ⟨by have := HSZ.out; omega, by have := HSZ.out; omega⟩) (may := noB) (fun _ _ e => e) W q)
    (fun pre own W' => FlagI K w4 (pre.flatMap (fun p => tilB p.2)) own W') (fun _ _ _ _ => False) ?hI ?hIx ?hown ?hprot ?hps ?h0 ?hround ?hdone ?hstop
  case hI => intro pre own W W' h q; exact FlagI.stab (by have := HSZ.out; omega) h q
  case hIx => rintro c pre own W W' h q; exact h
  case hown => rintro k rfl; have := HSZ.out; omega
  case hprot =>
    have h := HSZ.out
    rintro k (hk | rfl | rfl)
    · have := hk.2; exact ⟨fun e => by have : k = K := e; omega, by omega⟩
    · exact ⟨fun e => by have : w3.heap.size = K := e; omega, by omega⟩
    · exact ⟨fun e => by have : w3.heap.size + 1 = K := e; omega, by omega⟩
  case hps => rintro y args rfl; rfl
  case h0 => exact ⟨rfl, Owns.refl (by rintro k rfl; have := HSZ.out; omega), HB4.out.2⟩
  case hround =>
    rintro l n pre ⟨pa, pt⟩ post args own1 W1 hall henc hI hlt hl hnl hll
    unfold encU at henc
    subst henc
    obtain ⟨ps, hpt, hps1, hps2⟩ := HPS.out (pa, pt) (by rw [hall]; simp)
    simp only at hpt
    subst hpt
    clear hall
    obtain ⟨rfl, hI2, hI3⟩ := hI
    have hI : FlagI K w4 (pre.flatMap (fun p => tilB p.2)) (oneB K) W1 := ⟨rfl, hI2, hI3⟩
    gi_wp2
    refine ⟨Keeps.refl _ _, fun W3 q3 hs3 => ?_⟩
    clear hs3
    have hI' := FlagI.stab (by have := HSZ.out; omega) hI (q3.mono (fun k e => by obtain rfl : k = l := e; exact ⟨hl, hnl⟩))
    have HI' := Lib.hid hI'
    have HT : Hid ((pre ++ [(pa, ps.flatMap pairB)]).flatMap (fun p => tilB p.2) = pre.flatMap (fun p => tilB p.2) ++ tildes ps) := Lib.hid (by rw [List.flatMap_append]; simp [tilB_pairs])
    have HGC := Lib.hid (fun n' => HG.out n' K _ ps W3 hps1 hps2 hI'.2.2)
    clear hI hI' hI2 hI3 q3 hlt hl hnl hll hps1 hps2
    gi_wp2
    refine CallsIn.mono (CallsIn.inRound l (HGC.out _)) ?_
    rintro e W5 ⟨rfl, hb5, q5⟩
    have HE := Lib.hid (HI'.out.more hb5 q5)
    clear hb5 q5
    gi_wp2
    refine ⟨_, HE.out.2, ?_⟩
    show FlagI K w4 ((pre ++ [(pa, ps.flatMap pairB)]).flatMap (fun p => tilB p.2)) (oneB K) W5
    rw [HT.out]; exact HE.out.1
  case hstop => intro D c pre post own' W' _ _ h; exact h.elim
  case hdone =>
    rintro D own' W' hb ⟨rfl, ho, hbK⟩
    have hDn := hb.new
    have hDl : D < W'.heap.size := (Array.getElem?_eq_some_iff.1 hb.none).1
    have hDK : D ≠ K := fun e => hb.free (show D = K from e)
    have HD := Lib.hid (And.intro hb.none (And.intro hDn (And.intro hDl hDK)))
    have HO1 := Lib.hid ho
    obtain ⟨A0, hA0⟩ : ∃ A0, (plansL x).flatMap (fun p => tilB p.2) = A0 := ⟨_, rfl⟩
    rw [hA0] at hbK
    have HA0 := Lib.hid hA0
    have HBK := Lib.hid hbK
    clear hb ho hbK hA0 hDn hDl hDK
    dsimp only
    gi_wp2
    refine (HW.out _ _ _ _ _).mono ?_
    rintro e v2 ⟨rfl, hv2⟩
    have HV2 : Hid (Keeps noB W' v2 ∧ v2.heap.size = W'.heap.size + 1 ∧ Blk v2 W'.heap.size #[.iface 60 (ptr g), str x.scope, i64 0] 51) := Lib.hid (by
      rw [hv2, HP.out.2.1]
      exact ⟨(Keeps.refl _ _).alloc _, by simp, Blk.new _ _ _⟩)
    clear hv2
    have HSV : Hid (w4.heap.size ≤ W'.heap.size ∧ v2.heap.size = W'.heap.size + 1 ∧ D < W'.heap.size ∧ w4.heap.size ≤ D ∧ D ≠ K) := Lib.hid ⟨HO1.out.keeps.size, HV2.out.2.1, HD.out.2.2.1, HD.out.2.1, HD.out.2.2.2⟩
    have HK4 : Hid (∀ k, between w.heap.size w2 k → ¬ oneB K k) := Lib.hid (fun k hk e => by have := hk.2; have : k = K := e; have := HSZ.out; omega)
    gi_wp2
    refine wp_range HF.out (gf := 93) (lb := #[ptr W'.heap.size]) (all := x.preD 0) (enc := encP w2 (between w.heap.size w2)) (prot := fun k => between w.heap.size w2 k ∨ k = W'.heap.size) (own := oneB K)
      rfl (enters_of Try.func93 (by kernel_rfl) rfl)
      (fun W'' q' => within_all x.pre.len s x 0 _ w2 W'' (between w.heap.size w2) W'.heap.size rfl (by have := HP.out.2.2.2; omega) HP.out.2.2.1 HP.out.2.2.2.1 HREP2.out (fun k e => e.2) (by have := q'.size; have := HSV.out; have := HSZ.out; omega)
        (fun k hk hl => (q'.block k (by have := HSV.out; have := HSZ.out; omega) id).trans ((HV2.out.1.block k (by have := HSV.out; have := HSZ.out; omega) id).trans ((HO1.out.keeps.block k (by have := HSZ.out; omega) (HK4.out k hk)).trans (HQ4.out.block k hl id)))) (q'.blk HV2.out.2.2 id))
      (fun pre own W'' => FlagI K v2 (A0 ++ (pre.map Prod.fst).flatMap (stepFl x)) own W'') (fun _ _ _ _ => False) ?hI ?hIx ?hown ?hprot ?hps ?h0 ?hround ?hdone ?hstop
    case hI => intro pre own W W' h q; exact FlagI.stab (by have := HSV.out; have := HSZ.out; omega) h q
    case hIx => rintro c pre own W W' h q; exact h
    case hown => rintro k rfl; have := HSV.out; have := HSZ.out; omega
    case hprot =>
      have h1 := HSV.out
      have h2 := HSZ.out
      rintro k (hk | rfl)
      · exact ⟨HK4.out k hk, by have := hk.2; omega⟩
      · exact ⟨fun e => by have : W'.heap.size = K := e; omega, by omega⟩
    case hps => rintro y args ⟨v', rfl, _⟩; rfl
    case h0 => exact ⟨rfl, Owns.refl (by rintro k rfl; have := HSV.out; have := HSZ.out; omega), by simpa using HV2.out.1.blk HBK.out id⟩
    case hstop => intro D c pre post own' W' _ _ h; exact h.elim
    case hdone =>
      rintro D2 own2 W2 hb2 ⟨rfl, ho2, hbK2⟩
      have hDn2 := hb2.new
      have HD2 : Hid (D2 ≠ K ∧ v2.heap.size ≤ D2) := Lib.hid ⟨fun e => hb2.free (show D2 = K from e), hDn2⟩
      have HL2 : Hid (A0 ++ ((x.preD 0).map Prod.fst).flatMap (stepFl x) = flagsL x) := Lib.hid (by rw [← HA0.out, plansFl_same, Nd.preD_fst]; rfl)
      rw [HL2.out] at hbK2
      have HNC := Lib.hid (fun n' => HNM.out n' K (flagsL x) W2 hbK2)
      rw [HRES.out] at HNC
      have HN2 := Lib.hid hb2.none
      have HO2 := Lib.hid ho2
      clear hb2 ho2 hbK2 hDn2
      dsimp only
      gi_wp2
      refine (HNC.out _).mono ?_
      rintro e W5 ⟨rfl, q5⟩
      have Q5 := Lib.hid q5
      clear q5
      gi_wp2
      have h1 := HSV.out
      have h2 := HSZ.out
      have h3 := HD2.out
      have hl2 : D2 < W2.heap.size := (Array.getElem?_eq_some_iff.1 HN2.out).1
      refine leaves_marks [D2, D] _ (by simp; omega) (fun D' hD' => ?_) (fun W6 q6 _ => ?_)
      · simp at hD'
        rcases hD' with rfl | rfl
        · exact (Q5.out.block _ hl2 id).trans HN2.out
        · have e1 := HV2.out.1.block D' (by omega) id
          have e2 := HO2.out.keeps.block D' (by omega) (fun e => by have : D' = K := e; omega)
          have e3 := Q5.out.block D' (by have := HO2.out.keeps.size; omega) id
          exact e3.trans (e2.trans (e1.trans HD.out.1))
      · refine ⟨_, resFlags W6 (.string ⟨RES.toArray⟩) (.bool true) _ rfl rfl, rfl, ?_⟩
        have k1 : Keeps noB w w4 := (HQ1.out.trans HM.out.2.1).trans HQ4.out
        have k2 : Keeps noB w W2 := ((k1.transNew HO1.out.keeps (fun i hi e => by have : i = K := e; omega)).trans HV2.out.1).transNew HO2.out.keeps (fun i hi e => by have : i = K := e; omega)
        exact (k2.trans Q5.out).transNew q6 (fun i hi e => by simp at e; omega)
    case hround =>
      rintro l n pre p post args own1 W1 hall henc ⟨rfl, hI2, hI3⟩ hlt hl hnl hll
      have hI : FlagI K v2 (A0 ++ (pre.map Prod.fst).flatMap (stepFl x)) (oneB K) W1 := ⟨rfl, hI2, hI3⟩
      have hs1 := HSV.out
      have hs2 := HSZ.out
      obtain ⟨ty, gg, sv, rfl, hsv, hst, hty, hg1, hg2⟩ := enc_open henc (fun k hk hl => (hI2.keeps.block k (by omega) (HK4.out k hk)).trans ((HV2.out.1.block k (by omega) id).trans ((HO1.out.keeps.block k (by omega) (HK4.out k hk)).trans (HQ4.out.block k hl id))))
      have hpm : p.1 ∈ x.pre.list := mem_pre (d := 0) (by rw [hall]; simp)
      have hfit := HFIT.out _ hpm
      have hbe := hfit.beg
      obtain ⟨pv, isv, hta, hcase⟩ := val_any hst
      have HTA := Lib.hid hta
      have HSN : Hid (A0 ++ ((pre ++ [p]).map Prod.fst).flatMap (stepFl x) = (A0 ++ (pre.map Prod.fst).flatMap (stepFl x)) ++ stepFl x p.1) := Lib.hid (by rw [List.map_append, List.flatMap_append]; simp)
      clear henc hty hsv hta hall hpm
      gi_wp2
      refine ⟨(Keeps.refl _ _).alloc _, fun W3 q3 hs3 => ?_⟩
      have hk13 : Keeps (fun k => v2.heap.size ≤ k ∧ ¬ oneB K k) W1 W3 := (((Keeps.refl noB _).alloc _).mono (fun _ e => e.elim)).trans (q3.mono (fun k e => by obtain rfl : k = l := e; exact ⟨hl, hnl⟩))
      have b5 : Blk W3 W1.heap.size #[.iface ty (.pointer (some ⟨gg, 0, none⟩)), .string sv, .int .i64 (p.2 : Int)] 51 := q3.blk (Blk.new _ _ _) (show W1.heap.size ≠ l by omega)
      have hI4 := FlagI.stab (by omega) hI hk13
      have r2 := b5.cell 0
      simp at r2
      have hst3 := hst.keeps hk13 (by have := hI2.keeps.size; omega) (fun e => by have := e.1; omega)
      have HI4 := Lib.hid hI4
      have HNONE : Hid (stepFl x p.1 = [] → ∃ own', Owns (oneB K) own' W3 W3 ∧ FlagI K v2 (A0 ++ ((pre ++ [p]).map Prod.fst).flatMap (stepFl x)) own' W3) := Lib.hid (fun h => by
        refine ⟨oneB K, Owns.refl (by rintro k rfl; exact HI4.out.2.2.lt), ?_⟩
        rw [HSN.out, h, List.append_nil]; exact HI4.out)
      rcases hcase with ⟨rfl, hk⟩ | ⟨rfl, rfl, hval⟩
      · have HE := Lib.hid (HNONE.out (stepFl_other x p.1 hk))
        clear hst hst3 hk13 q3 hs3 hI hI2 hI3 hI4 b5 hlt hl hnl hll hfit
        gi_wp2_with (refine wpListIn_assert_run _ rfl _ _ _ _ rfl _ rfl _ (HTA.out _) ?_)
        exact HE.out
      · obtain ⟨c, tv, u, hck, h2, h3, h4, hv⟩ := hval.moved (W' := W3) (fun j => hk13.cell (p := ⟨gg, j, none⟩) (by have := hI2.keeps.size; show gg < W1.heap.size; omega) (fun e => by have := e.1; have e2 : (⟨gg, j, none⟩ : Addr).block = gg := rfl; omega))
        have HBEG : Hid (W3.cell? ⟨gg, 0, none⟩ = some (.int .i64 (p.1.beg : Int))) := Lib.hid hst3.c0
        by_cases hc : c = 126
        · subst hc
          obtain ⟨hlt_, hvs⟩ : ltr tv ∧ p.1.vars = [tv] := by
            rcases hv with ⟨_, hv⟩ | ⟨hc, _⟩
            · exact ⟨hfit.vars tv (by rw [hv]; simp), hv⟩
            · exact absurd hc (by decide)
          obtain ⟨kk, hkk⟩ : ∃ kk, knownJ x p.1.beg = kk := ⟨_, rfl⟩
          have hkw := hfit.wf
          have hnoted := hfit.noted
          rw [hkk] at hkw hnoted
          have HST : Hid (stepFl x p.1 = tilB (planK kk [tv])) := Lib.hid (by unfold stepFl; rw [if_pos hck, hvs, hkk])
          obtain ⟨ps, hps, hps1, hps2⟩ := pairs_plan kk [tv] (fun v hv => by simp at hv; rw [hv]; exact hlt_)
          have HTL : Hid (tilB (planK kk [tv]) = tildes ps) := Lib.hid (by rw [hps, tilB_pairs])
          have hconv : ∀ W : World, (convert 5 9 (.int .u8 (tv.toNat : Int))).run Try.prog W = .ok (.string ⟨[tv].toArray⟩) W := fun W => conv_letter W hlt_
          have hnK : ∀ k, k < v2.heap.size → k ≠ K → ¬ oneB K k := fun k _ h e => h e
          have c6 : Blk W3 w2.heap.size #[.map (some m)] 87 := hk13.blk (hI2.keeps.blk (HV2.out.1.blk (HO1.out.keeps.blk HB4.out.1 (fun e => by have : w2.heap.size = K := e; omega)) id) (fun e => by have : w2.heap.size = K := e; omega)) (fun e => by have := e.1; omega)
          have hm3 : MapAt Try.prog 3 W3 m (notesP x) := (((HM4.out.keeps HO1.out.keeps (fun e => by have : m = K := e; omega)).keeps HV2.out.1 id).keeps hI2.keeps (fun e => by have : m = K := e; omega)).keeps hk13 (fun e => by have := e.1; omega)
          have hnM : ¬ oneB K m := fun e => by have : m = K := e; omega
          have hnB : ¬ oneB K w2.heap.size := fun e => by have : w2.heap.size = K := e; omega
          have hnG : ¬ oneB K gg := fun e => by have : gg = K := e; omega
          have hggl : gg < W3.heap.size := by have := hI2.keeps.size; have := hk13.size; omega
          have hLK : ∀ W4, Keeps (oneB K) W3 W4 → (Instr.lookup 87 (.map (some m)) (.int .i64 (p.1.beg : Int)) false).run Try.prog W4 = .ok (knV kk) W4 := fun W4 q4 => by
            have := (hm3.keeps q4 hnM).look Try.underlying3 Try.underlying87 (t := 87) (zeroKnX W4) (a := (p.1.beg : Int)) (by simp [Lit.wf, IntKind.min, IntKind.max, IntKind.signed, IntKind.bits]; omega)
            have e : noteI (notesP x) (p.1.beg : Int) = some kk := by unfold noteI; rw [if_pos (by omega)]; exact hnoted
            rw [e] at this
            exact this
          have HL : Hid (∀ W4, Keeps (oneB K) W3 W4 → W4.cell? ⟨w2.heap.size, 0, none⟩ = some (.map (some m)) ∧ W4.cell? ⟨gg, 3, none⟩ = some (.int .u8 (tv.toNat : Int)) ∧
              (Instr.lookup 87 (.map (some m)) (.int .i64 (p.1.beg : Int)) false).run Try.prog W4 = .ok (knV kk) W4) := fun W4 q4 =>
            ⟨((q4.blk c6 hnB).cell 0).trans rfl, (q4.cell (p := ⟨gg, 3, none⟩) hggl hnG).trans h3, hLK W4 q4⟩
          have HBG : Hid (∀ n W4, Keeps noB W3 W4 → CallsIn F n Try.prog 64 #[.pointer (some ⟨gg, 0, none⟩)] W4 (fun e w' => e = .returned (.int .i64 (p.1.beg : Int)) ∧ w' = W4)) := fun n W4 q4 => by
            rw [HF.out]; exact callsIn_wide.2 (begin_any gg _ _ ((q4.cell (p := ⟨gg, 0, none⟩) hggl id).trans HBEG.out))
          have HPN : Hid (∀ n W4, Keeps noB W3 W4 → CallsIn F n Try.prog 63 #[knV kk] W4 (fun e w' => e = .returned (.func (.func 95) #[] #[ptr W4.heap.size]) ∧ Blk w' W4.heap.size #[.int .u8 (kk.may : Int), .int .u8 (kk.must : Int)] 103 ∧ Keeps noB W3 w')) := fun n W4 q4 => by
            rw [HF.out]
            exact callsIn_wide.2 ((planner_any kk W4).mono (fun e w' h => ⟨h.1, by rw [h.2]; exact Blk.new _ _ _, by rw [h.2]; exact q4.alloc _⟩))
          have HPL : Hid (∀ n W4 K', Blk W4 K' #[.int .u8 (kk.may : Int), .int .u8 (kk.must : Int)] 103 → CallsIn F n Try.prog 95 #[.string ⟨[tv].toArray⟩, .pointer (some ⟨K', 0, none⟩)] W4 (fun e w' => e = .returned (.string ⟨(ps.flatMap pairB).toArray⟩) ∧ Keeps noB W4 w')) := fun n W4 K' hb => by
            rw [HF.out, ← hps]
            exact callsIn_wide.2 (plan_any kk hkw [tv] (fun v hv => by simp at hv; rw [hv]; exact hlt_) (by simp) K' W4 hb)
          have HGC : Hid (∀ n W4, Keeps noB W3 W4 → CallsIn F n Try.prog 61 #[.pointer (some ⟨K, 0, none⟩), .string ⟨(ps.flatMap pairB).toArray⟩] W4 (fun e w' => e = .returned (.tuple #[]) ∧ Blk w' K (flagsA ((A0 ++ (pre.map Prod.fst).flatMap (stepFl x)) ++ tildes ps)) 90 ∧ Keeps (oneB K) W3 w')) := fun n W4 q4 =>
            CallsIn.mono (HG.out n K _ ps W4 hps1 (by simp only [List.length_cons, List.length_nil] at hps2; omega) (q4.blk HI4.out.2.2 id)) (fun e w' h => ⟨h.1, h.2.1, (q4.mono (fun _ e => e.elim)).trans h.2.2⟩)
          have HFIN : Hid (∀ W4, Blk W4 K (flagsA ((A0 ++ (pre.map Prod.fst).flatMap (stepFl x)) ++ tildes ps)) 90 → Keeps (oneB K) W3 W4 → ∃ own', Owns (oneB K) own' W3 W4 ∧ FlagI K v2 (A0 ++ ((pre ++ [p]).map Prod.fst).flatMap (stepFl x)) own' W4) := Lib.hid (fun W4 hb q4 => by
            obtain ⟨h1, h2⟩ := HI4.out.more hb q4
            refine ⟨oneB K, h2, ?_⟩
            rw [HSN.out, HST.out, HTL.out]; exact h1)
          have hFf2 := Lib.hid hFf
          have k0 := h2
          clear hst hst3 hk13 q3 hs3 hI hI2 hI3 hI4 b5 hlt hl hnl hll hfit hval hv h4 hck hvs hlt_ hkk hkw hnoted hps hps1 hps2 hnK c6 hm3 hnM hnB hnG hggl hLK h2 h3
          obtain ⟨PT, hPT⟩ : ∃ PT : ByteArray, ⟨(ps.flatMap pairB).toArray⟩ = PT := ⟨_, rfl⟩
          rw [hPT] at HPL HGC
          obtain ⟨TV, hTV⟩ : ∃ TV : ByteArray, ⟨[tv].toArray⟩ = TV := ⟨_, rfl⟩
          rw [hTV] at HPL hconv
          have HCV := Lib.hid hconv
          clear hPT hTV hconv
          obtain ⟨km, ku⟩ := kk
          unfold knV at HL HPN
          unfold ptr at HPN
          simp only at HL HPN HPL
          generalize (tv.toNat : Int) = ti at *
          gi_wp2_with (refine wpListIn_assert_run _ rfl _ _ _ _ rfl _ rfl _ (HTA.out _) ?_)
          refine wpIn_region_seqH_round (fun W4 => Keeps (oneB K) W3 W4) [(0, true), (1, true), (2, true), (3, true), (7, true), (8, true), (9, true), (10, true), (11, true), (4, false), (5, true), (6, false), (12, false), (13, false)] hro hFf2.out (by kernel_rfl) (by kernel_rfl) (by kernel_rfl) rfl (by kernel_rfl) (fun _ _ _ _ h => h) ((Keeps.refl _ _).drew) ?_
          refine seqH_take (.map (some m)) rfl rfl (fun W4 q4 => by obtain ⟨f0, f1, f2⟩ := HL.out W4 q4; go_simp) (fun K' hK => ?_)
          go_simp
          refine hK _ ?_
          clear hK K'
          refine seqH_take (.pointer (some ⟨gg, 0, none⟩)) rfl rfl (fun W4 q4 => by obtain ⟨f0, f1, f2⟩ := HL.out W4 q4; go_simp) (fun K' hK => ?_)
          go_simp
          refine hK _ ?_
          clear hK K'
          refine seqH_take (.pointer (some ⟨gg, 0, none⟩)) rfl rfl (fun W4 q4 => by obtain ⟨f0, f1, f2⟩ := HL.out W4 q4; go_simp) (fun K' hK => ?_)
          go_simp
          refine hK _ ?_
          clear hK K'
          refine seqH_take (.pointer (some ⟨gg, 0, none⟩)) rfl rfl (fun W4 q4 => by obtain ⟨f0, f1, f2⟩ := HL.out W4 q4; go_simp) (fun K' hK => ?_)
          go_simp
          refine hK _ ?_
          clear hK K'
          refine seqH_take (.pointer (some ⟨gg, 0, none⟩)) rfl rfl (fun W4 q4 => by obtain ⟨f0, f1, f2⟩ := HL.out W4 q4; go_simp) (fun K' hK => ?_)
          go_simp
          refine hK _ ?_
          clear hK K'
          refine seqH_take (.pointer (some ⟨gg, 0, none⟩)) rfl rfl (fun W4 q4 => by obtain ⟨f0, f1, f2⟩ := HL.out W4 q4; go_simp) (fun K' hK => ?_)
          go_simp
          refine hK _ ?_
          clear hK K'
          refine seqH_take (.pointer (some ⟨gg, 3, none⟩)) rfl rfl (fun W4 q4 => by obtain ⟨f0, f1, f2⟩ := HL.out W4 q4; go_simp) (fun K' hK => ?_)
          go_simp
          refine hK _ ?_
          clear hK K'
          refine seqH_take (.int .u8 ti) rfl rfl (fun W4 q4 => by obtain ⟨f0, f1, f2⟩ := HL.out W4 q4; go_simp) (fun K' hK => ?_)
          go_simp
          refine hK _ ?_
          clear hK K'
          refine seqH_take (.string TV) rfl rfl (fun W4 q4 => by obtain ⟨f0, f1, f2⟩ := HL.out W4 q4; exact execOp_conv rfl _ rfl _ (HCV.out W4)) (fun K' hK => ?_)
          go_simp
          refine hK _ ?_
          clear hK K'
          refine seqH_loud rfl (fun K' hK => ?_)
          gi_wp2
          refine CallsIn.mono (HBG.out _ _ ((Keeps.refl _ _).drew)) ?_
          rintro e W4 ⟨rfl, hW4⟩
          have Q4 : Hid (Keeps noB W3 W4) := Lib.hid (by rw [hW4]; exact (Keeps.refl _ _).drew)
          clear hW4
          gi_wp2
          refine hK _ _ (Q4.out.mono (fun _ e => e.elim)) ?_
          clear hK K'
          refine seqH_take (.agg #[.int .u8 (km : Int), .int .u8 (ku : Int)]) rfl rfl (fun W4 q4 => by obtain ⟨f0, f1, f2⟩ := HL.out W4 q4; go_simp) (fun K' hK => ?_)
          go_simp
          refine hK _ ?_
          clear hK K'
          refine seqH_loud rfl (fun K' hK => ?_)
          gi_wp2
          refine CallsIn.mono (HPN.out _ _ Q4.out) ?_
          rintro e W5 ⟨rfl, hb5, q5⟩
          have Q5 := Lib.hid (And.intro hb5 q5)
          clear hb5 q5
          gi_wp2
          refine hK _ _ (Q5.out.2.mono (fun _ e => e.elim)) ?_
          clear hK K'
          refine seqH_loud rfl (fun K' hK => ?_)
          gi_wp2
          refine CallsIn.mono (HPL.out _ _ _ Q5.out.1) ?_
          rintro e W6 ⟨rfl, q6⟩
          have Q6 := Lib.hid (Q5.out.2.trans q6)
          clear q6
          gi_wp2
          refine hK _ _ (Q6.out.mono (fun _ e => e.elim)) ?_
          clear hK K'
          refine seqH_loud rfl (fun K' hK => ?_)
          gi_wp2
          have hKe := HSZ.out.2.2.2.2.2.2
          rw [← hKe]
          clear hKe
          refine CallsIn.mono (HGC.out _ _ Q6.out) ?_
          rintro e W7 ⟨rfl, hb7, q7⟩
          have HE := Lib.hid (And.intro (HFIN.out W7 hb7 q7) q7)
          clear hb7 q7
          gi_wp2
          refine hK _ _ HE.out.2 ?_
          clear hK K'
          simp only [wpSeqH]
          gi_wp2
          exact HE.out.1
        · have hk : p.1.kind ≠ 126 := by rw [hck]; exact hc
          have HE := Lib.hid (HNONE.out (stepFl_other x p.1 hk))
          have hc2 : ((c.toNat : Int) == 126) = false := by
            rw [beq_eq_false_iff_ne]
            exact fun e => hc (UInt8.toNat_inj.1 (by have : (126 : UInt8).toNat = 126 := rfl; omega))
          clear hst hst3 hk13 q3 hs3 hI hI2 hI3 hI4 b5 hlt hl hnl hll hfit hval hv h3 h4 hck hc hk
          generalize (c.toNat : Int) = ci at *
          gi_wp2_with (refine wpListIn_assert_run _ rfl _ _ _ _ rfl _ rfl _ (HTA.out _) ?_)
          exact HE.out

theorem flags_any (s : ByteArray) (hs : s.size ≤ 1048576) (w : World) : Calls Try.prog 29 #[.string s] w (FlagsPost (flagsP s) w) := by
  unfold flagsP
  cases hp : progP s with
  | none => exact flags_none s hs hp w
  | some x => exact flags_some s hs x hp w

end Go.Proofs.Ytcpbkohpgchckaa
