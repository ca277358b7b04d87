/-
  The program's DeadSteps.
-/
import Derived.Test.YtgpaplhbjhbfjaaWrWm
import Derived.Test.YtgpaplhbjhbfjaaVoWm
import Derived.Test.YtgpaplhbjhbfjaaJdWm
namespace Go.Proofs.Ytgpaplhbjhbfjaa
set_option linter.unusedVariables false
set_option linter.unusedSimpArgs false
open Go.RowKit Go.Shelf

attribute [local go_sem] Oper.semAt_some

theorem resDead (W : World) (v : Value) (b : Bool) (tmps : Array Value) (h2 : tmps.getD 2 undef = v) (h3 : tmps.getD 3 undef = .bool b) : (results Try.f41 tmps).run Try.prog W = .ok (.tuple #[v, .bool b]) W := by
  have h2' : tmps[2]?.getD undef = v := by simpa using h2
  have h3' : tmps[3]?.getD undef = .bool b := by simpa using h3
  simp [results, Try.results41, go_sem, h2', h3']

set_option maxRecDepth 100000 in
set_option maxHeartbeats 4000000 in
theorem dead_none (s : ByteArray) (hs : s.size ≤ 1048576) (hp : progP s = none) (w : World) : Calls Try.prog 41 #[.string s] w (NumsPost w none) := by
  refine (callsIn_wide (n := 9)).1 ?_
  obtain ⟨F, hF⟩ : ∃ F, F = Fence.wide := ⟨_, rfl⟩
  have hFf : ∀ f, F.fn f := by subst hF; exact fun _ => trivial
  have hdd : ∀ k : Nat, (F.depth.isSome = true → 1 ≤ k) := by subst hF; intro k h; simp [Fence.wide] at h
  have hro : F.round = none := by subst hF; rfl
  have hds : F.depth.isSome = false := by subst hF; rfl
  have HC : Hid (∀ m w, CallsIn F m Try.prog 52 #[.string s] w (ReadPost w none)) := fun m w => by
    rw [hF]; have := read_any s hs w; rw [hp] at this; exact callsIn_wide.2 this
  rw [← hF]
  clear hF
  refine callsIn_of_wp_marks Try.func41 rfl (hFf _) ?_ hro
  simp only [Try.ntmps41, List.size_toArray, List.length_cons, List.length_nil, Nat.reduceAdd, Nat.reduceSub, Array.replicate_succ, Array.replicate_zero, List.push_toArray, List.append_toArray, List.nil_append, List.cons_append]
  gi_wp2
  refine (HC.out _ _).mono ?_
  rintro e w1 ⟨rfl, q1⟩
  gi_wp2
  refine leaves_marks [] _ List.nodup_nil (fun _ h => by cases h) (fun W' q _ => ?_)
  refine ⟨_, resDead W' (.slice none 0 0) false _ rfl rfl, ?_⟩
  exact ⟨_, _, [], rfl, ⟨⟨rfl, .inl ⟨rfl, rfl⟩⟩, fun g hg => by simp [Value.ownBlock] at hg⟩, q1.trans (q.mono (fun _ e => by cases e)), rfl, rfl⟩

theorem zeroKnD (w : World) : (zeroValue 100).run Try.prog w = .ok (.agg #[.int .u8 0, .int .u8 0]) w := by kernel_rfl

/-- Where those of some places begin that are not reached. -/
def deadN (x : Nd) (l : List PN) : List Nat := (deadL x l).map (fun p => p.1.beg)
theorem deadN_snoc (x : Nd) (pre : List PN) (p : PN) : deadN x (pre ++ [p]) = deadN x pre ++ (if knownZ x p.1 = Kn.no then [p.1.beg] else []) := by
  unfold deadN deadL
  rw [List.filter_append]
  by_cases h : knownZ x p.1 = Kn.no <;> simp [h]

set_option maxRecDepth 100000 in
set_option maxHeartbeats 4000000 in
theorem dead_some (s : ByteArray) (hs : s.size ≤ 1048576) (x : Nd) (hp : progP s = some x) (w : World) : Calls Try.prog 41 #[.string s] w (NumsPost w (some (deadN x (x.preD 0)))) := by
  refine (callsIn_wide (n := 9)).1 ?_
  obtain ⟨F, hF⟩ : ∃ F, F = Fence.wide := ⟨_, rfl⟩
  have hFf : ∀ f, F.fn f := by subst hF; exact fun _ => trivial
  have hdd : ∀ k : Nat, (F.depth.isSome = true → 1 ≤ k) := by subst hF; intro k h; simp [Fence.wide] at h
  have hro : F.round = none := by subst hF; rfl
  have hds : F.depth.isSome = false := by subst hF; rfl
  have HR : Hid (∀ m w, CallsIn F m Try.prog 52 #[.string s] w (ReadPost w (some x))) := fun m w => by
    rw [hF]; have := read_any s hs w; rw [hp] at this; exact callsIn_wide.2 this
  have HV : Hid (∀ n w ok g, RepI w ok x (.iface 60 (ptr g)) → CallsIn F n Try.prog 67 #[.pointer (some ⟨g, 0, none⟩)] w (fun e w' => ∃ m, e = .returned (.map (some m)) ∧ MapAt Try.prog 3 w' m (notesP x) ∧ Keeps noB w w' ∧ w.heap.size ≤ m)) := fun n w ok g hr => by
    rw [hF]; exact callsIn_wide.2 (surveyed_any hp w ok g hr)
  have HW : Hid (∀ n v sv dv w, CallsIn F n Try.prog 68 #[.agg #[v, sv, dv]] w (fun e w' => e = .returned (.func (.func 89) #[] #[ptr w.heap.size]) ∧ w' = w.alloc (.cells #[v, sv, dv] 51))) := fun n v sv dv w => by
    rw [hF]; exact callsIn_wide.2 (placesWithin_any v sv dv w)
  have HI : Hid (∀ n k w, CallsIn F n Try.prog 69 #[knV k] w (fun e w' => e = .returned (.bool (decide (k ≠ Kn.no))) ∧ Keeps noB w w')) := fun n k w => by
    rw [hF]; exact callsIn_wide.2 (isReached_any k w)
  obtain ⟨hx1, hx2, _, _, _, hx6⟩ := progP_ok hp
  have hfew := (progP_few hp).1
  have hfin := hx2.good.le
  have HN : Hid (∀ p ∈ x.preD 0, notesP x p.1.beg = some (knownZ x p.1) ∧ p.1.beg ≤ 80) := fun p hpm => by
    have h0 := noted_P hp (mem_preD hpm)
    have h1 := Nd.note_in x _ _ _ (progP_sp hp) h0
    exact ⟨h0, by omega⟩
  rw [← hF]
  have HF := Lib.hid hF
  clear hF hp
  refine callsIn_of_wp_marks Try.func41 rfl (hFf _) ?_ hro
  simp only [Try.ntmps41, List.size_toArray, List.length_cons, List.length_nil, Nat.reduceAdd, Nat.reduceSub, Array.replicate_succ, Array.replicate_zero, List.push_toArray, List.append_toArray, List.nil_append, List.cons_append]
  gi_wp2
  refine (HR.out _ _).mono ?_
  rintro e w1 ⟨g, rfl, hr, q1⟩
  have HREP := Lib.hid hr
  have HQ1 := Lib.hid q1
  clear hr q1
  unfold ptr
  gi_wp2
  refine (HV.out _ _ _ _ HREP.out).mono ?_
  rintro e w2 ⟨m, rfl, hm, q2, hml⟩
  have HM2 := Lib.hid (And.intro hm (And.intro q2 hml))
  clear hm q2 hml
  gi_wp2
  refine (HW.out _ _ _ _ _).mono ?_
  rintro e w5 ⟨rfl, rfl⟩
  obtain ⟨hm, q2, hml⟩ := HM2.out
  have bP := ((Blk.new w2 #[.map (some m)] 95).alloc (.cells #[.slice none 0 0] 24)).alloc (.cells #[.iface 60 (.pointer (some ⟨g, 0, none⟩)), .string ⟨#[]⟩, .int .i64 0] 51)
  have bN := (Blk.new (w2.alloc (.cells #[.map (some m)] 95)) #[.slice none 0 0] 24).alloc (.cells #[.iface 60 (.pointer (some ⟨g, 0, none⟩)), .string ⟨#[]⟩, .int .i64 0] 51)
  have bB := Blk.new ((w2.alloc (.cells #[.map (some m)] 95)).alloc (.cells #[.slice none 0 0] 24)) #[.iface 60 (.pointer (some ⟨g, 0, none⟩)), .string ⟨#[]⟩, .int .i64 0] 51
  have hs5 : (((w2.alloc (.cells #[.map (some m)] 95)).alloc (.cells #[.slice none 0 0] 24)).alloc (.cells #[.iface 60 (.pointer (some ⟨g, 0, none⟩)), .string ⟨#[]⟩, .int .i64 0] 51)).heap.size = w2.heap.size + 1 + 1 + 1 := by simp only [World.size_alloc]
  have q25 : Keeps noB w2 (((w2.alloc (.cells #[.map (some m)] 95)).alloc (.cells #[.slice none 0 0] 24)).alloc (.cells #[.iface 60 (.pointer (some ⟨g, 0, none⟩)), .string ⟨#[]⟩, .int .i64 0] 51)) := (((Keeps.refl _ _).alloc _).alloc _).alloc _
  rw [World.size_alloc] at bN
  rw [World.size_alloc, World.size_alloc] at bB
  gi_wp2
  generalize ((w2.alloc (.cells #[.map (some m)] 95)).alloc (.cells #[.slice none 0 0] 24)).alloc (.cells #[.iface 60 (.pointer (some ⟨g, 0, none⟩)), .string ⟨#[]⟩, .int .i64 0] 51) = w5 at *
  have hm5 := hm.keeps q25 id
  have hmlt := hm.lt
  have q15 := q2.trans q25
  have hs15 := q2.size
  have hM1 := HQ1.out.size
  obtain ⟨N, hN⟩ : ∃ N, N = w2.heap.size := ⟨_, rfl⟩
  obtain ⟨M, hM⟩ : ∃ M, M = w.heap.size := ⟨_, rfl⟩
  rw [← hN] at bP bN bB hs5 hs15 hmlt ⊢
  rw [← hM] at hM1
  have HS := Lib.hid (And.intro hs5 (And.intro hs15 (And.intro hmlt (And.intro hml (And.intro hM1 hM)))))
  have hrep1 : RepI w1 (between M w1) x (.iface 60 (ptr g)) := (Hands.of_keeps (Keeps.refl noB w1) (fun _ _ _ => id) (fun k (hk : w.heap.size ≤ k) hl => ⟨by omega, hl⟩)).repI _ _ HREP.out
  have HQ := Lib.hid (And.intro q15 (And.intro bP (And.intro hm5 (HQ1.out.trans q15))))
  have HG := Lib.hid (And.intro (Nd.preD_len x 0) (And.intro hfew hx6))
  have hbB : Blk w5 (N + 1 + 1) #[.iface 60 (ptr g), str x.scope, i64 0] 51 := by rw [hx1]; exact bB
  clear hN hM
  refine wp_range HF.out (gf := 89) (lb := #[ptr (N + 1 + 1)]) (all := x.preD 0) (enc := encP w1 (between M w1)) (prot := fun k => between M w1 k ∨ k = N + 1 + 1) (own := oneB (N + 1))
    rfl (enters_of Try.func89 (by kernel_rfl) rfl)
    (fun W q => within_all x.pre.len s x 0 _ w1 W (between M w1) (N + 1 + 1) rfl (by have := HG.out; omega) hx2 hx6 hrep1 (fun k e => e.2) (by have := q.size; have := q15.size; omega) (fun k hk hl => (q15.trans q).block k hl id) (q.blk hbB id))
    (fun pre own W' => ListI (N + 1) w5 (deadN x pre) own W') (fun _ _ _ _ => False) ?hI ?hIx ?hown ?hprot ?hps ?h0 ?hround ?hdone ?hstop
  case hI => intro pre own W W' h q; exact ListI.stab (by omega) h q
  case hIx => rintro c pre own W W' h q; exact h
  case hown => rintro k rfl; omega
  case hprot =>
    rintro k (hk | rfl)
    · exact ⟨fun e => by have := hk.2; have : k = N + 1 := e; omega, by have := hk.2; omega⟩
    · exact ⟨fun e => by have : N + 1 + 1 = N + 1 := e; omega, by omega⟩
  case hps => rintro y args ⟨v', rfl, _⟩; rfl
  case h0 => exact ListI.start bN
  case hround =>
    rintro l n pre p post args own1 W1 hall henc hI hlt hl hnl hll
    obtain ⟨ty, gg, sv, rfl, hsv, hst, hty, hg1, hg2⟩ := enc_open henc (same_of_owns HQ.out.1 hI.1 (fun k e => by have := e.2; have := HS.out; intro e2; have : k = N + 1 := e2; omega))
    have hpm : p ∈ x.preD 0 := by rw [hall]; simp
    have hpl : (deadN x pre).length ≤ 80 := by
      obtain ⟨e1, e2, e3⟩ := HG.out
      have := congrArg List.length hall
      rw [List.length_append, List.length_cons] at this
      have h4 : (deadL x pre).length ≤ pre.length := List.length_filter_le _ _
      unfold deadN
      rw [List.length_map]
      omega
    have hbe := (HN.out p hpm).2
    have hsn := deadN_snoc x pre p
    have HNP := Lib.hid (HN.out p hpm).1
    clear henc hsv hty hall
    gi_wp2
    refine ⟨(Keeps.refl _ _).alloc _, fun W3 q3 hs3 => ?_⟩
    have hk13 : Keeps (fun k => w5.heap.size ≤ k ∧ ¬ own1 k) W1 W3 := (((Keeps.refl noB _).alloc _).mono (fun _ e => e.elim)).trans (q3.mono (fun k e => by obtain rfl : k = l := e; exact ⟨hl, hnl⟩))
    have b5 : Blk W3 W1.heap.size #[.iface ty (.pointer (some ⟨gg, 0, none⟩)), .string sv, .int .i64 (p.2 : Int)] 51 := q3.blk (Blk.new _ _ _) (show W1.heap.size ≠ l by omega)
    have I3 := ListI.stab (by omega) hI hk13
    have k53 := I3.1.keeps
    have c5 := k53.blk HQ.out.2.1 (fun e => by have : N = N + 1 := e; omega)
    have hm3 := HQ.out.2.2.1.keeps k53 (fun e => by have : m = N + 1 := e; have := HS.out; omega)
    have hst3 := hst.keeps hk13 (by have := HS.out; omega) (fun e => by have := e.1; have := HS.out; omega)
    have hlk := hm3.look Try.underlying3 Try.underlying95 (t := 95) (zeroKnD W3) (a := (p.1.beg : Int)) (by simp [Lit.wf, IntKind.min, IntKind.max, IntKind.signed, IntKind.bits]; omega)
    rw [noteI_beg, HNP.out] at hlk
    have r0 := b5.cell 0
    have r1 := c5.cell 0
    simp at r0 r1
    have hbeg := hst3.beg
    simp [go_sem] at hbeg
    have HBG : Hid (∀ m, CallsIn F m Try.prog 193 #[.pointer (some ⟨gg, 0, none⟩)] W3 (fun e w' => e = .returned (.int .i64 (p.1.beg : Int)) ∧ w' = W3)) := fun m => by
      rw [HF.out]; exact callsIn_wide.2 (begin_any gg _ _ hst3.c0)
    have HI3 := Lib.hid I3
    obtain ⟨kk, hkk⟩ : ∃ kk, knownZ x p.1 = kk := ⟨_, rfl⟩
    rw [hkk] at hlk hsn
    have hko : knO (some kk) = kk := rfl
    rw [hko] at hlk
    have HIk : Hid (∀ n w, CallsIn F n Try.prog 69 #[knV kk] w (fun e w' => e = .returned (.bool (decide (kk ≠ Kn.no))) ∧ Keeps noB w w')) := fun n w => HI.out n kk w
    have HSN : Hid (deadN x (pre ++ [p]) = deadN x pre ++ (if kk = Kn.no then [p.1.beg] else [])) := hsn
    unfold knV at hlk HIk
    clear hst hst3 b5 c5 hI hk13 q3 hm3 k53 hkk hsn I3
    by_cases hno : kk = Kn.no
    · have hd : decide (kk ≠ Kn.no) = false := by simp [hno]
      rw [hd] at HIk
      rw [if_pos hno] at HSN
      clear hno hko
      gi_wp2
      refine CallsIn.mono (CallsIn.inRound l (HBG.out _)) ?_
      rintro e w' ⟨rfl, rfl⟩
      gi_wp2
      refine CallsIn.mono (CallsIn.inRound l (HIk.out _ _)) ?_
      rintro e W4 ⟨rfl, q4⟩
      have hs5' := HS.out.1
      have I4 := ListI.stab (by omega) HI3.out (q4.mono (fun _ e => e.elim))
      obtain ⟨a, c, y4, y6, a', c', w', hr, z4, y5, own', ho, hI'⟩ := I4.more (by omega) (by omega) p.1.beg
      have HE : Hid (∃ own', Owns own1 own' _ (w'.setCell ⟨N + 1, 0, none⟩ (.slice a' ((deadN x pre).length + 1) c')) ∧ ListI (N + 1) w5 (deadN x (pre ++ [p])) own' (w'.setCell ⟨N + 1, 0, none⟩ (.slice a' ((deadN x pre).length + 1) c'))) := ⟨own', Owns.behind q4 ho, by rw [HSN.out]; exact hI'⟩
      clear hI' ho I4
      gi_wp2_with (gi_at_builtin; refine wpListIn_append_run _ rfl _ _ _ _ rfl _ _ rfl rfl _ _ hr ?_)
      exact HE.out
    · have hd : decide (kk ≠ Kn.no) = true := by simp [hno]
      rw [hd] at HIk
      rw [if_neg hno, List.append_nil] at HSN
      clear hno hko
      gi_wp2
      refine CallsIn.mono (CallsIn.inRound l (HBG.out _)) ?_
      rintro e w' ⟨rfl, rfl⟩
      gi_wp2
      refine CallsIn.mono (CallsIn.inRound l (HIk.out _ _)) ?_
      rintro e W4 ⟨rfl, q4⟩
      have hs5' := HS.out.1
      have I4 := ListI.stab (by omega) HI3.out (q4.mono (fun _ e => e.elim))
      have HE : Hid (∃ own', Owns own1 own' _ W4 ∧ ListI (N + 1) w5 (deadN x (pre ++ [p])) own' W4) := ⟨own1, Owns.behind q4 (Owns.refl (fun k hk => I4.1.lt k hk)), by rw [HSN.out]; exact I4⟩
      clear I4
      gi_wp2
      exact HE.out
  case hdone =>
    rintro D own' W' hb h
    have HE : Hid (∀ W2, Keeps (fun k => k ∈ [D]) W' W2 → ∃ a c, W'.cell? ⟨N + 1, 0, none⟩ = some (.slice a (deadN x (x.preD 0)).length c) ∧ NumsPost w (some (deadN x (x.preD 0))) (.returned (.tuple #[.slice a (deadN x (x.preD 0)).length c, .bool true])) W2) := fun W2 q => h.post hb HQ.out.2.2.2 (by have := HS.out; omega) q
    have HD := Lib.hid hb.none
    obtain ⟨h3, hoN, a, c, h4, h5, h6⟩ := h
    have y4 : W'.cell? ⟨N + 1, 0, none⟩ = some (.slice a (deadN x (x.preD 0)).length c) := (h4.cell 0).trans rfl
    clear h3 h4 h5 h6 hb
    dsimp only
    gi_wp2
    refine leaves_marks [D] _ (by simp) (fun D' hD' => by simp at hD'; subst hD'; exact HD.out) (fun W2 q _ => ?_)
    obtain ⟨a', c', e1, e2⟩ := HE.out W2 q
    rw [y4] at e1
    obtain ⟨rfl, rfl⟩ : a = a' ∧ c = c' := by simpa using e1
    exact ⟨_, resDead W2 _ _ _ rfl rfl, e2⟩
  case hstop => intro D c pre post own' W' _ _ h; exact h.elim

theorem dead_any (s : ByteArray) (hs : s.size ≤ 1048576) (w : World) : Calls Try.prog 41 #[.string s] w (NumsPost w (deadP s)) := by
  unfold deadP
  cases hp : progP s with
  | none => exact dead_none s hs hp w
  | some x => exact dead_some s hs x hp w

end Go.Proofs.Ytgpaplhbjhbfjaa
