/-
  The program's plansOf, and the iterator over the points of a program and their plans that it hands back.
-/
import Derived.Test.YtcpbkohpgchckaaYd
import Derived.Test.YtcpbkohpgchckaaPyW
import Derived.Test.YtcpbkohpgchckaaYaW
import Derived.Test.YtcpbkohpgchckaaVoW
import Derived.Test.YtcpbkohpgchckaaJdW
namespace Go.Proofs.Ytcpbkohpgchckaa
set_option linter.unusedVariables false
set_option linter.unusedSimpArgs false
open Go.RowKit Go.Shelf

attribute [local go_sem] Oper.semAt_some

/-- The plans of some points, but for the empty ones. -/
def plansU (x : Nd) (l : List Pt) : List Pt := (l.map (fun p => (p.1, planK (knownJ x p.1) p.2))).filter (fun p => !p.2.isEmpty)
theorem plansU_app (x : Nd) (l m : List Pt) : plansU x (l ++ m) = plansU x l ++ plansU x m := by unfold plansU; rw [List.map_append, List.filter_append]
theorem plansU_one (x : Nd) (p : Pt) : plansU x [p] = if planK (knownJ x p.1) p.2 = [] then [] else [(p.1, planK (knownJ x p.1) p.2)] := by
  unfold plansU
  cases h : planK (knownJ x p.1) p.2 <;> simp [h]
theorem plansL_eq (x : Nd) : plansL x = plansU x x.pts := rfl

/-! ### plansOf -/
/-- The iterator over the plans of program x, as plansOf hands it back: its two boxes, R and Q. -/
structure PlansOk (s : ByteArray) (x : Nd) (b0 R Q : Nat) (w : World) : Prop where
  prog : progP s = some x
  ltR : b0 ≤ R
  ltQ : b0 ≤ Q
  rep : ∃ g m, RepI w (between b0 w) x (.iface 60 (ptr g)) ∧ Blk w R #[.pointer (some ⟨g, 0, none⟩)] 60 ∧ Blk w Q #[.map (some m)] 87 ∧ MapAt Try.prog 3 w m (notesP x) ∧ b0 ≤ m

def PlansPost (s : ByteArray) (w : World) (res : Option Nd) (e : Ending) (w' : World) : Prop :=
  match res with
  | none => e = .returned (.tuple #[.nilFunc, .bool false]) ∧ Keeps noB w w'
  | some x => ∃ R Q, e = .returned (.tuple #[.func (.func 90) #[] #[ptr R, ptr Q], .bool true]) ∧ PlansOk s x w.heap.size R Q w' ∧ Keeps noB w w'

set_option maxHeartbeats 1000000 in
theorem plansWithin_any (g m : Nat) (w : World) : Calls Try.prog 60 #[.pointer (some ⟨g, 0, none⟩), .map (some m)] w
    fun e w' => e = .returned (.func (.func 90) #[] #[ptr w.heap.size, ptr (w.heap.size + 1)]) ∧ w' = (w.alloc (.cells #[.pointer (some ⟨g, 0, none⟩)] 60)).alloc (.cells #[.map (some m)] 87) := by
  go_enter Try.func60, Try.ntmps60
  go_wp2
  go_ret
  exact ⟨rfl, rfl⟩

theorem zeroKnP (w : World) : (zeroValue 103).run Try.prog w = .ok (.agg #[.int .u8 0, .int .u8 0]) w := by kernel_rfl

set_option maxRecDepth 100000 in
set_option maxHeartbeats 4000000 in
theorem PlansOk.iterM {s : ByteArray} {x : Nd} {b0 R Q : Nat} {w1 : World} (h : PlansOk s x b0 R Q w1) {may : Nat → Prop} (hmay : ∀ k, b0 ≤ k → ¬ may k) (W : World) (q : Keeps may w1 W) :
    IterAt Try.prog 90 #[ptr R, ptr Q] (plansL x) encU (between b0 w1) W := by
  intro l J Jx own hJ hJx hown hprot hR h0 n
  obtain ⟨F, hF⟩ : ∃ F, F = Fence.wide := ⟨_, rfl⟩
  have hFf : ∀ f, F.fn f := by subst hF; exact fun _ => trivial
  have hdd : ∀ k : Nat, (F.depth.isSome = true → 1 ≤ k) := by subst hF; intro k h; simp [Fence.wide] at h
  have hro : F.round = none := by subst hF; rfl
  have hds : F.depth.isSome = false := by subst hF; rfl
  rw [← hF]
  have HF := Lib.hid hF
  clear hF
  have HW : Hid (∀ n v sv dv w, CallsIn F n Try.prog 91 #[.agg #[v, sv, dv]] w (fun e w' => e = .returned (.func (.func 130) #[] #[ptr w.heap.size]) ∧ w' = w.alloc (.cells #[v, sv, dv] 51))) := fun n v sv dv w => by
    rw [HF.out]; exact callsIn_wide.2 (unsaidWithin_any v sv dv w)
  obtain ⟨hx1, hx2, _, _, _, hx6⟩ := progP_ok h.prog
  have hfew := (progP_few h.prog).1
  have hRl := h.ltR
  have hQl := h.ltQ
  have hsp := progP_sp h.prog
  have hft := progP_fit h.prog
  obtain ⟨g, mm, hrep, hbR, hbQ, hm, hmb⟩ := h.rep
  have HN : Hid (∀ p ∈ x.pts, notesP x p.1 = some (knownJ x p.1) ∧ (knownJ x p.1).Wf ∧ (∀ v ∈ p.2, ltr v) ∧ p.2.length ≤ 80 ∧ p.1 ≤ 80) := fun p hpm => by
    have h1 := pts_P h.prog hpm
    exact ⟨h1.1, h1.2, progP_pts h.prog p hpm⟩
  have hRlt := hbR.lt
  have hQlt := hbQ.lt
  have hmlt := hm.lt
  have HB := Lib.hid (And.intro hbQ (And.intro hm hrep))
  have hql := q.size
  have r0 := (q.blk hbR (hmay R hRl)).cell 0
  simp at r0
  have bY := (Blk.new W #[.func (.yield l) #[] #[]] 145).alloc (.cells #[.iface 60 (.pointer (some ⟨g, 0, none⟩)), .string ⟨#[]⟩, .int .i64 0] 51)
  have bB := Blk.new (W.alloc (.cells #[.func (.yield l) #[] #[]] 145)) #[.iface 60 (.pointer (some ⟨g, 0, none⟩)), .string ⟨#[]⟩, .int .i64 0] 51
  have hs5 : ((W.alloc (.cells #[.func (.yield l) #[] #[]] 145)).alloc (.cells #[.iface 60 (.pointer (some ⟨g, 0, none⟩)), .string ⟨#[]⟩, .int .i64 0] 51)).heap.size = W.heap.size + 1 + 1 := by simp only [World.size_alloc]
  have q05 : Keeps noB W ((W.alloc (.cells #[.func (.yield l) #[] #[]] 145)).alloc (.cells #[.iface 60 (.pointer (some ⟨g, 0, none⟩)), .string ⟨#[]⟩, .int .i64 0] 51)) := ((Keeps.refl _ _).alloc _).alloc _
  rw [World.size_alloc] at bB
  have r1 : (W.alloc (.cells #[.func (.yield l) #[] #[]] 145)).cell? ⟨R, 0, none⟩ = some (.pointer (some ⟨g, 0, none⟩)) := (((q.blk hbR (hmay R hRl)).alloc _).cell 0).trans rfl
  clear hbR hbQ hm hrep h
  refine callsIn_of_wp_marks Try.func90 rfl (hFf _) ?_ hro
  simp only [Try.ntmps90, List.size_toArray, List.length_cons, List.length_nil, Nat.reduceAdd, Nat.reduceSub, Array.replicate_succ, Array.replicate_zero, List.push_toArray, List.append_toArray, List.nil_append, List.cons_append]
  unfold ptr
  gi_wp2
  refine (HW.out _ _ _ _ _).mono ?_
  rintro e w5 ⟨rfl, rfl⟩
  gi_wp2
  generalize (W.alloc (.cells #[.func (.yield l) #[] #[]] 145)).alloc (.cells #[.iface 60 (.pointer (some ⟨g, 0, none⟩)), .string ⟨#[]⟩, .int .i64 0] 51) = w5 at *
  have q15 := q.trans (q05.mono (fun _ e => e.elim))
  have hbB : Blk w5 (W.heap.size + 1) #[.iface 60 (ptr g), str x.scope, i64 0] 51 := by rw [hx1]; exact bB
  have HS := Lib.hid (And.intro hs5 (And.intro hql (And.intro hQlt (And.intro hmlt (And.intro hQl hmb)))))
  have HQ := Lib.hid (And.intro q15 (And.intro bY q05))
  have HR := Lib.hid hR
  have HJ := Lib.hid hJ
  have HJX := Lib.hid hJx
  have HP := Lib.hid (And.intro hprot hown)
  have h0' : J (plansU x []) own W := h0
  refine wp_range HF.out (gf := 130) (lb := #[ptr (W.heap.size + 1)]) (all := x.pts) (enc := encU) (prot := fun k => between b0 w1 k ∨ k = W.heap.size + 1) (own := own)
    rfl (enters_of Try.func130 (by kernel_rfl) rfl)
    (fun W' q' => unsaid_all x.pre.len s x 0 _ w1 W' (between b0 w1) (W.heap.size + 1) rfl (by omega) hx2 hsp hft hx6 HB.out.2.2 (fun k e => e.2) (by have := q'.size; omega) (fun k hk hl => (q'.block k (by have := q15.size; omega) id).trans (q15.block k hl (hmay k hk.1))) (q'.blk hbB id))
    (fun pre own' W' => J (plansU x pre) own' W' ∧ Owns own own' w5 W') (fun c pre own' W' => (c = .ret ∧ Jx (plansU x pre) own' W') ∧ Owns own own' w5 W') ?hI ?hIx ?hown ?hprot ?hps ?h0 ?hround ?hdone ?hstop
  case hI =>
    intro pre own' Wa Wb h q
    exact ⟨(hJ.mono (by omega)) _ _ _ _ h.1 q, Owns.stab pre _ _ _ h.2 q⟩
  case hIx =>
    intro c pre own' Wa Wb h q
    exact ⟨⟨h.1.1, (hJx.mono (by omega)) _ _ _ _ h.1.2 q⟩, Owns.stab pre _ _ _ h.2 q⟩
  case hown => intro k hk; have := hown k hk; omega
  case hprot =>
    rintro k (hk | rfl)
    · exact ⟨hprot k hk, by have := hk.2; omega⟩
    · exact ⟨fun e => by have := hown _ e; omega, by omega⟩
  case hps => rintro y args rfl; rfl
  case h0 => exact ⟨hJ _ _ _ _ h0' (q05.mono (fun _ e => e.elim)), Owns.refl (fun k hk => by have := hown k hk; omega)⟩
  case hround =>
    rintro lq n pre p post args own1 W1 hall henc ⟨hj1, ho1⟩ hlt hl hnl hll
    unfold encU at henc
    subst henc
    have hpm : p ∈ x.pts := by rw [hall]; simp
    obtain ⟨hn1, hkw, hltr, hlen, hbe⟩ := HN.out p hpm
    obtain ⟨pl, hpl⟩ : ∃ pl, pl = planK (knownJ x p.1) p.2 := ⟨_, rfl⟩
    have hone := plansU_one x p
    rw [← hpl] at hone
    have HALL : Hid (plansL x = plansU x pre ++ (plansU x [p] ++ plansU x post)) := by
      refine Lib.hid ?_
      rw [plansL_eq]
      rw [hall, show pre ++ p :: post = pre ++ ([p] ++ post) from rfl, plansU_app, plansU_app]
    have HSN : Hid (plansU x (pre ++ [p]) = plansU x pre ++ plansU x [p]) := Lib.hid (plansU_app _ _ _)
    have HPL := Lib.hid hpl
    clear hall
    gi_wp2
    refine ⟨Keeps.refl _ _, fun W3 q3 hs3 => ?_⟩
    clear hs3
    have hk13 : Keeps (fun k => w5.heap.size ≤ k ∧ ¬ own1 k) W1 W3 := q3.mono (fun k e => by obtain rfl : k = lq := e; exact ⟨hl, hnl⟩)
    have ho3 := ho1.ahead hk13 (fun i e => e.1)
    have hS := HS.out
    have hnb : ∀ k, b0 ≤ k → k < w1.heap.size → ¬ own k := fun k h1 h2 => HP.out.1 k ⟨h1, h2⟩
    have c5 : Blk W3 Q #[.map (some mm)] 87 := ho3.keeps.blk (HQ.out.1.blk HB.out.1 (hmay Q hQl)) (hnb Q (by omega) (by omega))
    have hm3 : MapAt Try.prog 3 W3 mm (notesP x) := (HB.out.2.1.keeps HQ.out.1 (hmay mm hmb)).keeps ho3.keeps (hnb mm (by omega) (by omega))
    have y5 : Blk W3 W.heap.size #[.func (.yield l) #[] #[]] 145 := ho3.keeps.blk HQ.out.2.1 (fun e => by have := HP.out.2 _ e; omega)
    have hj3 := HJ.out _ _ _ _ hj1 (hk13.mono (fun k e => ⟨by omega, e.2⟩))
    have hlt3 : ∀ k, own1 k → k < W3.heap.size := ho3.lt
    have hlk := hm3.look Try.underlying3 Try.underlying87 (t := 87) (zeroKnP W3) (a := (p.1 : Int)) (by simp [Lit.wf, IntKind.min, IntKind.max, IntKind.signed, IntKind.bits]; omega)
    rw [noteI_nat, hn1] at hlk
    have r2 := c5.cell 0
    simp at r2
    have hko : knO (some (knownJ x p.1)) = knownJ x p.1 := rfl
    rw [hko] at hlk
    obtain ⟨kk, hkk⟩ : ∃ kk, knownJ x p.1 = kk := ⟨_, rfl⟩
    rw [hkk] at hlk hkw hpl
    have b4 := Blk.new W3 #[.int .u8 (kk.may : Int), .int .u8 (kk.must : Int)] 103
    have q34 : Keeps noB W3 (W3.alloc (.cells #[.int .u8 (kk.may : Int), .int .u8 (kk.must : Int)] 103)) := (Keeps.refl _ _).alloc _
    have HPL1 : Hid (∀ m, CallsIn F m Try.prog 63 #[knV kk] W3 (fun e w' => e = .returned (.func (.func 95) #[] #[ptr W3.heap.size]) ∧ w' = W3.alloc (.cells #[.int .u8 (kk.may : Int), .int .u8 (kk.must : Int)] 103))) := fun m => by
      rw [HF.out]; exact callsIn_wide.2 (planner_any kk W3)
    have HPL2 : Hid (∀ m, CallsIn F m Try.prog 95 #[.string ⟨p.2.toArray⟩, .pointer (some ⟨W3.heap.size, 0, none⟩)] (W3.alloc (.cells #[.int .u8 (kk.may : Int), .int .u8 (kk.must : Int)] 103)) (fun e w' => e = .returned (.string ⟨pl.toArray⟩) ∧ Keeps noB (W3.alloc (.cells #[.int .u8 (kk.may : Int), .int .u8 (kk.must : Int)] 103)) w')) := fun m => by
      rw [HF.out, hpl]; exact callsIn_wide.2 (plan_any kk hkw p.2 hltr (by omega) _ _ b4)
    have HY : Hid (pl ≠ [] → ∀ m W4, Keeps noB W3 W4 → YieldAt F m Try.prog l #[.int .i64 (p.1 : Int), .string ⟨pl.toArray⟩] W4 (RoundEnds J Jx (plansU x pre ++ [(p.1, pl)]) own1 W4)) := fun hne m W4 q4 => by
      rw [HF.out]
      have hh := HALL.out
      rw [hone, if_neg hne] at hh
      exact HR.out m _ (p.1, pl) _ _ own1 W4 hh rfl (HJ.out _ _ _ _ hj3 (q4.mono (fun _ e => e.elim))) (fun k hk => Nat.lt_of_lt_of_le (hlt3 k hk) q4.size)
    have HO3 := Lib.hid (And.intro ho3 (And.intro hj3 (And.intro y5 q34)))
    have HONE := Lib.hid hone
    clear c5 hk13 q3 hm3 y5 hn1 hkw hltr hlen hj1 hj3 ho1 ho3 hnb b4 q34 hkk hko hone hpl hpm
    obtain ⟨km, ku⟩ := kk
    unfold knV at hlk HPL1
    unfold ptr at HPL1
    simp only at hlk HPL1 HPL2
    gi_wp2
    refine CallsIn.mono (CallsIn.inRound lq (HPL1.out _)) ?_
    rintro e w' ⟨rfl, hw'⟩
    have HO4 : Hid (Keeps noB W3 w' ∧ w'.heap.size = W3.heap.size + 1) := by rw [hw']; exact ⟨(Keeps.refl _ _).alloc _, by simp⟩
    rw [← hw'] at HPL2
    clear hw' hlk r2
    gi_wp2
    refine CallsIn.mono (CallsIn.inRound lq (HPL2.out _)) ?_
    rintro e W4 ⟨rfl, q4⟩
    have k34 : Keeps noB W3 W4 := HO4.out.1.trans q4
    have r5 := (k34.blk HO3.out.2.2.1 id).cell 0
    simp at r5
    have HK34 := Lib.hid k34
    clear k34 q4 HO4 HPL1 HPL2
    by_cases hne : pl = []
    · subst hne
      have HE : Hid (∃ own', Owns own1 own' W3 W4 ∧ J (plansU x (pre ++ [p])) own' W4 ∧ Owns own own' w5 W4) := by
        have ho4 := HO3.out.1.ahead HK34.out (fun _ e => e.elim)
        refine ⟨own1, Owns.behind HK34.out (Owns.refl ho4.lt), ?_, ho4⟩
        rw [HSN.out, HONE.out, if_pos rfl, List.append_nil]
        exact HJ.out _ _ _ _ HO3.out.2.1 (HK34.out.mono (fun _ e => e.elim))
      clear HY
      gi_wp2
      exact HE.out
    · have HE0 : Hid (plansU x (pre ++ [p]) = plansU x pre ++ [(p.1, pl)]) := Lib.hid (by rw [HSN.out, HONE.out, if_neg hne])
      have hie : pl.isEmpty = false := by cases pl with | nil => exact absurd rfl hne | cons c r => rfl
      obtain ⟨fn2, tmps2, assign2, body2, hy2, hR2⟩ := HY.out hne (n - 1) W4 HK34.out
      clear HY
      gi_wp2
      refine (show RoundIn (F.inRound lq) _ _ _ _ _ _ _ _ _ from hR2).mono ?_
      clear hR2 hy2
      rintro e W6 ⟨own6, ho6, (⟨rfl, hj6⟩ | ⟨rfl, hj6⟩)⟩
      · have HE := Lib.hid (And.intro (Owns.behind HK34.out ho6) (And.intro hj6 ((HO3.out.1.ahead HK34.out (fun _ e => e.elim)).trans ho6)))
        clear hj6 ho6
        gi_wp2
        exact ⟨own6, HE.out.1, by rw [HE0.out]; exact HE.out.2.1, HE.out.2.2⟩
      · have HE := Lib.hid (And.intro (Owns.behind HK34.out ho6) (And.intro hj6 ((HO3.out.1.ahead HK34.out (fun _ e => e.elim)).trans ho6)))
        clear hj6 ho6
        gi_wp2
        exact ⟨own6, HE.out.1, ⟨rfl, by rw [HE0.out]; exact HE.out.2.1⟩, HE.out.2.2⟩
  case hdone =>
    rintro D own' W' hb ⟨hj', ho'⟩
    have hS := HS.out
    have hnew := hb.new
    have HD := Lib.hid hb.none
    have HE : Hid (∀ W2, Keeps (fun k => k ∈ [D]) W' W2 → Owns own own' W W2 ∧ J (plansL x) own' W2) := fun W2 q2 =>
      ⟨(Owns.behind HQ.out.2.2 hb.owns).ahead q2 (fun i hi => by simp at hi; omega), HJ.out _ _ _ _ hj' (q2.mono (fun i hi => by simp at hi; subst hi; exact ⟨by omega, hb.free⟩))⟩
    clear hb hj' ho'
    dsimp only
    gi_wp2
    refine leaves_marks [D] _ (by simp) (fun D' hD' => by simp at hD'; subst hD'; exact HD.out) (fun W2 q2 _ => ?_)
    exact ⟨_, results_none rfl _ _ _, _, own', rfl, (HE.out W2 q2).1, .inl (HE.out W2 q2).2⟩
  case hstop =>
    rintro D c pre post own' W' hb hall ⟨⟨rfl, hj'⟩, ho'⟩
    have hS := HS.out
    have hnew := hb.new
    have HD := Lib.hid hb.none
    have HE : Hid (∀ W2, Keeps (fun k => k ∈ [D]) W' W2 → Owns own own' W W2 ∧ Jx (plansU x pre) own' W2) := fun W2 q2 =>
      ⟨(Owns.behind HQ.out.2.2 hb.owns).ahead q2 (fun i hi => by simp at hi; omega), HJX.out _ _ _ _ hj' (q2.mono (fun i hi => by simp at hi; subst hi; exact ⟨by omega, hb.free⟩))⟩
    have HALL : Hid (plansL x = plansU x pre ++ plansU x post) := Lib.hid (by rw [plansL_eq, hall, plansU_app])
    clear hb hj' ho' hall
    dsimp only
    gi_wp2
    refine leaves_marks [D] _ (by simp) (fun D' hD' => by simp at hD'; subst hD'; exact HD.out) (fun W2 q2 _ => ?_)
    exact ⟨_, results_none rfl _ _ _, _, own', rfl, (HE.out W2 q2).1, .inr ⟨_, _, HALL.out, (HE.out W2 q2).2⟩⟩

end Go.Proofs.Ytcpbkohpgchckaa
