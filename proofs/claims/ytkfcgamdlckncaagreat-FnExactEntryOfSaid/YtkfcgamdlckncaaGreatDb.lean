/-
  The program's cleaningOf, and the iterator over the exits of a program and their cleanups that it keeps.
-/
import Derived.Test.YtkfcgamdlckncaaGreatDa
import Derived.Test.YtkfcgamdlckncaaGreatYaW
import Derived.Test.YtkfcgamdlckncaaGreatWqfW
import Derived.Test.YtkfcgamdlckncaaGreatVoW
import Derived.Test.YtkfcgamdlckncaaGreatJdV
namespace Go.Proofs.YtkfcgamdlckncaaGreat
set_option linter.unusedVariables false
set_option linter.unusedSimpArgs false
open Go.RowKit Go.Shelf

attribute [local go_sem] Oper.semAt_some

/-! ### whether a step is a leaveStep -/
theorem isVLd (p : Value) (w : World) : (Instr.typeAssert (.iface 141 p) 104 107 true).run Tryz.prog w = .ok (.tuple #[.pointer none, .bool false]) w := by kernel_rfl
theorem leave_any {W : World} {z : Nd} {ty : TypeId} {g : Nat} (h : StepIs W z ty g) : ∃ pv, ∀ w, (Instr.typeAssert (.iface ty (.pointer (some ⟨g, 0, none⟩))) 104 107 true).run Tryz.prog w = .ok (.tuple #[.pointer pv, .bool (leavesN z)]) w := by
  unfold leavesN
  rcases h.tys with rfl | ⟨rfl, hk⟩ | ⟨rfl, hk⟩ | ⟨rfl, hk⟩ | ⟨rfl, hk⟩
  · obtain ⟨c, t, u, hk, _, _, _, hv⟩ := h.val rfl
    refine ⟨none, fun w => ?_⟩
    rw [isVLd, hk]
    rcases hv with ⟨hc, _⟩ | ⟨hc, _⟩
    · rcases hc with rfl | rfl | rfl | rfl <;> rfl
    · rw [hc]; rfl
  · refine ⟨some ⟨g, 0, none⟩, fun w => ?_⟩
    rw [isLL]
    rcases hk with hk | hk <;> rw [hk] <;> rfl
  · exact ⟨none, fun w => by rw [isOL, hk]; rfl⟩
  · exact ⟨none, fun w => by rw [isSL, hk]; rfl⟩
  · exact ⟨none, fun w => by rw [isBL, hk]; rfl⟩

/-- A type assertion, where its run is known. -/
theorem wpListIn_assert_run {F : Fence} {n : Nat} {P : Program} (w : World) {ops : Array Oper} {rest : List Oper} {o : Oper} {a : Act} {Q : Exit → Act → World → Prop} (hgd : o.guard = none) (x : Operand) (t1 t2 : TypeId) (c : Bool)
    (ho : o.op = .typeAssert x t1 t2 c) (vx : Value) (hx : a.eval x = vx) (v' : Value) (hr : (Instr.typeAssert vx t1 t2 c).run P w = .ok v' w) (h : wpListIn F n P ops Q rest (a.put o.dst v') w) : wpListIn F n P ops Q (o :: rest) a w := by
  refine wpListIn_plain hgd fun K hK => ?_
  unfold Oper.wpIn
  refine ⟨?_, ?_⟩
  · simp [Oper.about, ho]
  · rw [Oper.semAt_plain F _ _ (by rw [ho]; intro c hc; cases hc)]
    simp [execOp, ho, hx, hr, Result.andThen]
    exact hK _ _ h

/-! ### cleaningOf -/
/-- The iterator over the exits of program x: its two boxes, R and Q. -/
structure ExitsOk (s : ByteArray) (x : Nd) (b0 R Q : Nat) (w : World) : Prop where
  prog : progP s = some x
  ltR : b0 ≤ R
  ltQ : b0 ≤ Q
  rep : ∃ g m, RepI w (between b0 w) x (.iface 64 (ptr g)) ∧ Blk w R #[.pointer (some ⟨g, 0, none⟩)] 64 ∧ Blk w Q #[.map (some m)] 70 ∧ MapAt Tryz.prog 3 w m (notesP x) ∧ b0 ≤ m

/-- What a map of pointers reads as. -/
def heldR (v : Value) : Option (DataW Value × List MemPlace) := some (.held v, [])

/-- The two cells of a cleaning. -/
def cleanC (R Q m : Nat) : Array Value := #[.func (.func 44) #[] #[ptr R, ptr Q], .map (some m)]

def CleanPost (s : ByteArray) (w : World) (res : Option Nd) (e : Ending) (w' : World) : Prop :=
  match res with
  | none => e = .returned (.tuple #[.pointer none, .bool false]) ∧ Keeps noB w w'
  | some x => ∃ R Q C m w2, e = .returned (.tuple #[.pointer (some ⟨C, 0, none⟩), .bool true]) ∧ ExitsOk s x w.heap.size R Q w2 ∧ Keeps noB w w2 ∧ Keeps noB w2 w' ∧ w2.heap.size ≤ m ∧ m < C ∧
      Blk w' C (cleanC R Q m) 74 ∧ w'.ownsMap Tryz.prog 9 heldR m 0 (.map [])

set_option maxHeartbeats 1000000 in
theorem exitsWithin_any (g m : Nat) (w : World) : Calls Tryz.prog 33 #[.pointer (some ⟨g, 0, none⟩), .map (some m)] w
    fun e w' => e = .returned (.func (.func 44) #[] #[ptr w.heap.size, ptr (w.heap.size + 1)]) ∧ w' = (w.alloc (.cells #[.pointer (some ⟨g, 0, none⟩)] 64)).alloc (.cells #[.map (some m)] 70) := by
  go_enter Tryz.func33, Tryz.ntmps33
  go_wp2
  go_ret
  exact ⟨rfl, rfl⟩

theorem zeroKnX (w : World) : (zeroValue 111).run Tryz.prog w = .ok (.agg #[.int .u8 0, .int .u8 0]) w := by kernel_rfl

theorem resClean (W : World) (v : Value) (b : Bool) (tmps : Array Value) (h2 : tmps.getD 2 undef = v) (h3 : tmps.getD 3 undef = .bool b) : (results Tryz.f17 tmps).run Tryz.prog W = .ok (.tuple #[v, .bool b]) W := by
  have h2' : tmps[2]?.getD undef = v := by simpa using h2
  have h3' : tmps[3]?.getD undef = .bool b := by simpa using h3
  simp [results, Tryz.results17, go_sem, h2', h3']

set_option maxRecDepth 100000 in
set_option maxHeartbeats 4000000 in
theorem clean_none (s : ByteArray) (hs : s.size ≤ 1048576) (hp : progP s = none) (w : World) : Calls Tryz.prog 17 #[.string s] w (CleanPost s w none) := by
  have HR : Hid (∀ w, Calls Tryz.prog 32 #[.string s] w (ReadPost w none)) := fun w => by
    have := read_any s hs w; rwa [hp] at this
  clear hp
  go_enter Tryz.func17, Tryz.ntmps17
  go_wp2_with fail
  refine (HR.out _).mono ?_
  rintro e w1 ⟨rfl, q1⟩
  go_wp2_with fail
  refine bodyPost_ret (resClean _ (.pointer none) false _ rfl rfl) rfl ?_
  exact ⟨rfl, q1⟩

set_option maxRecDepth 100000 in
set_option maxHeartbeats 4000000 in
theorem clean_some (s : ByteArray) (hs : s.size ≤ 1048576) (x : Nd) (hp : progP s = some x) (w : World) : Calls Tryz.prog 17 #[.string s] w (CleanPost s w (some x)) := by
  have HR : Hid (∀ w, Calls Tryz.prog 32 #[.string s] w (ReadPost w (some x))) := fun w => by
    have := read_any s hs w; rwa [hp] at this
  have HV : Hid (∀ w ok g, RepI w ok x (.iface 64 (ptr g)) → Calls Tryz.prog 34 #[.pointer (some ⟨g, 0, none⟩)] w (fun e w' => ∃ m, e = .returned (.map (some m)) ∧ MapAt Tryz.prog 3 w' m (notesP x) ∧ Keeps noB w w' ∧ w.heap.size ≤ m)) := fun w ok g hr => surveyed_any hp w ok g hr
  have HW := Lib.hid (fun g m w => exitsWithin_any g m w)
  have hmm := @run_makeMap Tryz.prog
  have HP := Lib.hid hp
  clear hp
  go_enter Tryz.func17, Tryz.ntmps17
  go_wp2_with fail
  refine (HR.out _).mono ?_
  rintro e w1 ⟨g, rfl, hr, q1⟩
  have HREP := Lib.hid hr
  have HQ1 := Lib.hid q1
  clear hr q1
  unfold ptr
  go_wp2_with fail
  refine (HV.out _ (fromB w.heap.size) _ HREP.out).mono ?_
  rintro e w2 ⟨m, rfl, hm, q2, hml⟩
  have HM := Lib.hid (And.intro hm (And.intro q2 hml))
  clear hm q2 hml
  go_wp2_with fail
  refine (HW.out _ _ _).mono ?_
  rintro e w3 ⟨rfl, hw3⟩
  have HF : Hid (ExitsOk s x w.heap.size w2.heap.size (w2.heap.size + 1) w3 ∧ Keeps noB w w3) := Lib.hid (by
    obtain ⟨hm, q2, hml⟩ := HM.out
    have hs1 := HQ1.out.size
    have hs2 := q2.size
    have q23 : Keeps noB w2 w3 := by rw [hw3]; exact ((Keeps.refl _ _).alloc _).alloc _
    have hs3 : w3.heap.size = w2.heap.size + 1 + 1 := by rw [hw3]; simp
    have b1 : Blk w3 w2.heap.size #[.pointer (some ⟨g, 0, none⟩)] 64 := by rw [hw3]; exact (Blk.new _ _ _).alloc _
    have b2 : Blk w3 (w2.heap.size + 1) #[.map (some m)] 70 := by
      rw [hw3]
      have := Blk.new (w2.alloc (.cells #[.pointer (some ⟨g, 0, none⟩)] 64)) #[.map (some m)] 70
      rwa [World.size_alloc] at this
    have q13 := q2.trans q23
    refine ⟨⟨HP.out, by omega, by omega, g, m, ?_, b1, b2, hm.keeps q23 id, by omega⟩, HQ1.out.trans q13⟩
    exact (Hands.of_keeps q13 (fun _ _ _ => id) (fun k (hk : w.heap.size ≤ k) hl => ⟨hk, by omega⟩)).repI _ _ HREP.out)
  clear hw3
  have HT : Hid ((((w3.alloc (.map #[] 0)).alloc (.cells (cleanC w2.heap.size (w2.heap.size + 1) w3.heap.size) 74)).ownsMap Tryz.prog 9 heldR w3.heap.size 0 (.map [])) ∧ Keeps noB w3 ((w3.alloc (.map #[] 0)).alloc (.cells (cleanC w2.heap.size (w2.heap.size + 1) w3.heap.size) 74)) ∧
      Blk ((w3.alloc (.map #[] 0)).alloc (.cells (cleanC w2.heap.size (w2.heap.size + 1) w3.heap.size) 74)) (w3.heap.size + 1) (cleanC w2.heap.size (w2.heap.size + 1) w3.heap.size) 74) := Lib.hid (by
    refine ⟨(World.ownsMap_made w3 _ _ _).alloc _, ((Keeps.refl _ _).alloc _).alloc _, ?_⟩
    have := Blk.new (w3.alloc (.map #[] 0)) (cleanC w2.heap.size (w2.heap.size + 1) w3.heap.size) 74
    rwa [World.size_alloc] at this)
  unfold cleanC ptr at HT
  unfold ptr
  go_wp2_with fail
  refine bodyPost_ret (resClean _ (.pointer (some ⟨w3.heap.size + 1, 0, none⟩)) true _ rfl rfl) rfl ?_
  refine ⟨_, _, w3.heap.size + 1, w3.heap.size, w3, rfl, HF.out.1, HF.out.2, HT.out.2.1, Nat.le_refl _, by omega, HT.out.2.2, HT.out.1⟩

theorem cleaning_any (s : ByteArray) (hs : s.size ≤ 1048576) (w : World) : Calls Tryz.prog 17 #[.string s] w (CleanPost s w (progP s)) := by
  cases hp : progP s with
  | none => exact clean_none s hs hp w
  | some x => exact clean_some s hs x hp w

/-! ### exitsWithin$1 -/
/-- What the iterator yields of an exit. -/
def encX (p : Pt) (args : Array Value) : Prop := args = #[.int .i64 (p.1 : Int), .string ⟨p.2.toArray⟩]

set_option maxRecDepth 100000 in
set_option maxHeartbeats 4000000 in
theorem ExitsOk.iterM {s : ByteArray} {x : Nd} {b0 R Q : Nat} {w1 : World} (h : ExitsOk s x b0 R Q w1) {may : Nat → Prop} (hmay : ∀ k, b0 ≤ k → ¬ may k) (W : World) (q : Keeps may w1 W) :
    IterAt Tryz.prog 44 #[ptr R, ptr Q] (exitsL x) encX (between b0 w1) W := by
  intro l J Jx own hJ hJx hown hprot hR h0 n
  obtain ⟨F, hF⟩ : ∃ F, F = Fence.wide := ⟨_, rfl⟩
  have hFf : ∀ f, F.fn f := by subst hF; exact fun _ => trivial
  have hdd : ∀ k : Nat, (F.depth.isSome = true → 1 ≤ k) := by subst hF; intro k h; simp [Fence.wide] at h
  have hro : F.round = none := by subst hF; rfl
  have hds : F.depth.isSome = false := by subst hF; rfl
  rw [← hF]
  have HF := Lib.hid hF
  clear hF
  have HW : Hid (∀ n v sv dv w, CallsIn F n Tryz.prog 45 #[.agg #[v, sv, dv]] w (fun e w' => e = .returned (.func (.func 65) #[] #[ptr w.heap.size]) ∧ w' = w.alloc (.cells #[v, sv, dv] 106))) := fun n v sv dv w => by
    rw [HF.out]; exact callsIn_wide.2 (placesWithin_any v sv dv w)
  obtain ⟨hx1, hx2, _, _, _, hx6⟩ := progP_ok h.prog
  have hfew := (progP_few h.prog).1
  have hfin := hx2.good.le
  have hRl := h.ltR
  have hQl := h.ltQ
  obtain ⟨g, mm, hrep, hbR, hbQ, hm, hmb⟩ := h.rep
  have HN : Hid (∀ p ∈ x.preD 0, StepFit x p.1) := fun p hpm => step_fit h.prog (mem_pre hpm)
  have hRlt := hbR.lt
  have hQlt := hbQ.lt
  have hmlt := hm.lt
  have HB := Lib.hid (And.intro hbQ (And.intro hm hrep))
  have hql := q.size
  have r0 := (q.blk hbR (hmay R hRl)).cell 0
  simp at r0
  have bY := (Blk.new W #[.func (.yield l) #[] #[]] 99).alloc (.cells #[.iface 64 (.pointer (some ⟨g, 0, none⟩)), .string ⟨#[]⟩, .int .i64 0] 106)
  have bB := Blk.new (W.alloc (.cells #[.func (.yield l) #[] #[]] 99)) #[.iface 64 (.pointer (some ⟨g, 0, none⟩)), .string ⟨#[]⟩, .int .i64 0] 106
  have hs5 : ((W.alloc (.cells #[.func (.yield l) #[] #[]] 99)).alloc (.cells #[.iface 64 (.pointer (some ⟨g, 0, none⟩)), .string ⟨#[]⟩, .int .i64 0] 106)).heap.size = W.heap.size + 1 + 1 := by simp only [World.size_alloc]
  have q05 : Keeps noB W ((W.alloc (.cells #[.func (.yield l) #[] #[]] 99)).alloc (.cells #[.iface 64 (.pointer (some ⟨g, 0, none⟩)), .string ⟨#[]⟩, .int .i64 0] 106)) := ((Keeps.refl _ _).alloc _).alloc _
  rw [World.size_alloc] at bB
  have r1 : (W.alloc (.cells #[.func (.yield l) #[] #[]] 99)).cell? ⟨R, 0, none⟩ = some (.pointer (some ⟨g, 0, none⟩)) := (((q.blk hbR (hmay R hRl)).alloc _).cell 0).trans rfl
  clear hbR hbQ hm hrep h
  refine callsIn_of_wp_marks Tryz.func44 rfl (hFf _) ?_ hro
  simp only [Tryz.ntmps44, List.size_toArray, List.length_cons, List.length_nil, Nat.reduceAdd, Nat.reduceSub, Array.replicate_succ, Array.replicate_zero, List.push_toArray, List.append_toArray, List.nil_append, List.cons_append]
  unfold ptr
  gi_wp2
  refine (HW.out _ _ _ _ _).mono ?_
  rintro e w5 ⟨rfl, rfl⟩
  gi_wp2
  generalize (W.alloc (.cells #[.func (.yield l) #[] #[]] 99)).alloc (.cells #[.iface 64 (.pointer (some ⟨g, 0, none⟩)), .string ⟨#[]⟩, .int .i64 0] 106) = w5 at *
  have q15 := q.trans (q05.mono (fun _ e => e.elim))
  have hbB : Blk w5 (W.heap.size + 1) #[.iface 64 (ptr g), str x.scope, i64 0] 106 := by rw [hx1]; exact bB
  have HS := Lib.hid (And.intro hs5 (And.intro hql (And.intro hQlt (And.intro hmlt (And.intro hQl hmb)))))
  have HQ := Lib.hid (And.intro q15 (And.intro bY q05))
  have HR := Lib.hid hR
  have HJ := Lib.hid hJ
  have HJX := Lib.hid hJx
  have HP := Lib.hid (And.intro hprot hown)
  have h0' : J (exitsU x (([] : List PN).map Prod.fst)) own W := h0
  refine wp_range HF.out (gf := 65) (lb := #[ptr (W.heap.size + 1)]) (all := x.preD 0) (enc := encP w1 (between b0 w1)) (prot := fun k => between b0 w1 k ∨ k = W.heap.size + 1) (own := own)
    rfl (enters_of Tryz.func65 (by kernel_rfl) rfl)
    (fun W' q' => within_all x.pre.len s x 0 _ w1 W' (between b0 w1) (W.heap.size + 1) rfl (by omega) hx2 hx6 HB.out.2.2 (fun k e => e.2) (by have := q'.size; omega) (fun k hk hl => (q'.block k (by have := q15.size; omega) id).trans (q15.block k hl (hmay k hk.1))) (q'.blk hbB id))
    (fun pre own' W' => J (exitsU x (pre.map Prod.fst)) own' W' ∧ Owns own own' w5 W') (fun c pre own' W' => (c = .ret ∧ Jx (exitsU x (pre.map Prod.fst)) own' W') ∧ Owns own own' w5 W') ?hI ?hIx ?hown ?hprot ?hps ?h0 ?hround ?hdone ?hstop
  case hI =>
    intro pre own' Wa Wb h q
    exact ⟨(hJ.mono (by omega)) _ _ _ _ h.1 q, Owns.stab pre _ _ _ h.2 q⟩
  case hIx =>
    intro c pre own' Wa Wb h q
    exact ⟨⟨h.1.1, (hJx.mono (by omega)) _ _ _ _ h.1.2 q⟩, Owns.stab pre _ _ _ h.2 q⟩
  case hown => intro k hk; have := hown k hk; omega
  case hprot =>
    rintro k (hk | rfl)
    · exact ⟨hprot k hk, by have := hk.2; omega⟩
    · exact ⟨fun e => by have := hown _ e; omega, by omega⟩
  case hps => rintro y args ⟨v', rfl, _⟩; rfl
  case h0 => exact ⟨hJ _ _ _ _ h0' (q05.mono (fun _ e => e.elim)), Owns.refl (fun k hk => by have := hown k hk; omega)⟩
  case hround =>
    rintro lq n pre p post args own1 W1 hall henc ⟨hj1, ho1⟩ hlt hl hnl hll
    obtain ⟨ty, gg, sv, rfl, hsv, hst, hty, hg1, hg2⟩ := enc_open henc (fun k hk hl => (ho1.keeps.block k (by have := HQ.out.1.size; omega) (HP.out.1 k hk)).trans (HQ.out.1.block k hl (hmay k hk.1)))
    have hpm : p ∈ x.preD 0 := by rw [hall]; simp
    have hfit := HN.out p hpm
    have hbe := hfit.beg
    obtain ⟨pv, hta⟩ := leave_any hst
    have HTA := Lib.hid hta
    have HALL : Hid (exitsL x = exitsU x (pre.map Prod.fst) ++ (exitsU x [p.1] ++ exitsU x (post.map Prod.fst))) := by
      refine Lib.hid ?_
      rw [← exits_preD x 0, hall, show pre ++ p :: post = pre ++ ([p] ++ post) from rfl, List.map_append, List.map_append, exitsU_app, exitsU_app]
      rfl
    have HSN : Hid (exitsU x ((pre ++ [p]).map Prod.fst) = exitsU x (pre.map Prod.fst) ++ exitsU x [p.1]) := Lib.hid (by rw [List.map_append, exitsU_app]; rfl)
    have HONE := Lib.hid (exitsU_one x p.1)
    have HOK : Hid (exitOk x p.1 = (leavesN p.1 && liveK (knownJ x p.1.beg))) := Lib.hid rfl
    have HPZ : Hid (leavesN p.1 = true → planZ x p.1 = planK (knownJ x p.1.beg) (unsaidN p.1)) := Lib.hid (fun h => planZ_eq hfit h)
    subst hsv
    clear henc hty hta
    gi_wp2
    refine ⟨(Keeps.refl _ _).alloc _, fun W3 q3 hs3 => ?_⟩
    have hk13 : Keeps (fun k => w5.heap.size ≤ k ∧ ¬ own1 k) W1 W3 := (((Keeps.refl noB _).alloc _).mono (fun _ e => e.elim)).trans (q3.mono (fun k e => by obtain rfl : k = lq := e; exact ⟨hl, hnl⟩))
    have b5 : Blk W3 W1.heap.size #[.iface ty (.pointer (some ⟨gg, 0, none⟩)), .string ⟨p.1.scope.toArray⟩, .int .i64 (p.2 : Int)] 106 := q3.blk (Blk.new _ _ _) (show W1.heap.size ≠ lq by omega)
    have ho3 := ho1.ahead hk13 (fun i e => e.1)
    have hS := HS.out
    have hnb : ∀ k, b0 ≤ k → k < w1.heap.size → ¬ own k := fun k h1 h2 => HP.out.1 k ⟨h1, h2⟩
    have c5 : Blk W3 Q #[.map (some mm)] 70 := ho3.keeps.blk (HQ.out.1.blk HB.out.1 (hmay Q hQl)) (hnb Q (by omega) (by omega))
    have hm3 : MapAt Tryz.prog 3 W3 mm (notesP x) := (HB.out.2.1.keeps HQ.out.1 (hmay mm hmb)).keeps ho3.keeps (hnb mm (by omega) (by omega))
    have y5 : Blk W3 W.heap.size #[.func (.yield l) #[] #[]] 99 := ho3.keeps.blk HQ.out.2.1 (fun e => by have := HP.out.2 _ e; omega)
    have hst3 := hst.keeps hk13 (by have := hlt; have := ho1.keeps.size; omega) (fun e => by have := e.1; omega)
    have hggl : gg < W3.heap.size := by have := ho3.keeps.size; omega
    have hj3 := HJ.out _ _ _ _ hj1 (hk13.mono (fun k e => ⟨by omega, e.2⟩))
    have hlt3 : ∀ k, own1 k → k < W3.heap.size := ho3.lt
    obtain ⟨kk, hkk⟩ : ∃ kk, knownJ x p.1.beg = kk := ⟨_, rfl⟩
    have hkw := hfit.wf
    have hnoted := hfit.noted
    rw [hkk] at hkw hnoted HOK HPZ
    have hnY : ¬ own1 W.heap.size := fun e => (ho3.more _ e).elim (fun e => by have := HP.out.2 _ e; omega) (fun e => by omega)
    have hnP : ¬ own1 W1.heap.size := fun e => by have := hlt _ e; omega
    have hnQ : ¬ own1 Q := fun e => (ho3.more _ e).elim (hnb Q (by omega) (by omega)) (fun e => by omega)
    have hnM : ¬ own1 mm := fun e => (ho3.more _ e).elim (hnb mm (by omega) (by omega)) (fun e => by omega)
    have hLK : ∀ W4, Keeps own1 W3 W4 → (Instr.lookup 70 (.map (some mm)) (.int .i64 (p.1.beg : Int)) false).run Tryz.prog W4 = .ok (knV kk) W4 := fun W4 q4 => by
      have := (hm3.keeps q4 hnM).look Tryz.underlying3 Tryz.underlying70 (t := 70) (zeroKnX W4) (a := (p.1.beg : Int)) (by simp [Lit.wf, IntKind.min, IntKind.max, IntKind.signed, IntKind.bits]; omega)
      have e : noteI (notesP x) (p.1.beg : Int) = some kk := by unfold noteI; rw [if_pos (by omega)]; exact hnoted
      rw [e] at this
      exact this
    have HL : Hid (∀ W4, Keeps own1 W3 W4 → W4.cell? ⟨W.heap.size, 0, none⟩ = some (.func (.yield l) #[] #[]) ∧ W4.cell? ⟨W1.heap.size, 0, none⟩ = some (.iface ty (.pointer (some ⟨gg, 0, none⟩))) ∧ W4.cell? ⟨W1.heap.size, 1, none⟩ = some (.string ⟨p.1.scope.toArray⟩) ∧ W4.cell? ⟨W1.heap.size, 2, none⟩ = some (.int .i64 (p.2 : Int)) ∧ W4.cell? ⟨Q, 0, none⟩ = some (.map (some mm)) ∧
        (Instr.lookup 70 (.map (some mm)) (.int .i64 (p.1.beg : Int)) false).run Tryz.prog W4 = .ok (knV kk) W4) := fun W4 q4 =>
      ⟨((q4.blk y5 hnY).cell 0).trans rfl, ((q4.blk b5 hnP).cell 0).trans rfl, ((q4.blk b5 hnP).cell 1).trans rfl, ((q4.blk b5 hnP).cell 2).trans rfl, ((q4.blk c5 hnQ).cell 0).trans rfl, hLK W4 q4⟩
    have HIR : Hid (∀ n W4, Keeps noB W3 W4 → CallsIn F n Tryz.prog 46 #[knV kk] W4 (fun e w' => e = .returned (.bool (liveK kk)) ∧ Keeps noB W3 w')) := fun n W4 q4 => by
      rw [HF.out]
      exact callsIn_wide.2 ((isReached_any kk W4).mono (fun e w' h => ⟨h.1, q4.trans h.2⟩))
    have HPN : Hid (∀ n W4, Keeps noB W3 W4 → CallsIn F n Tryz.prog 47 #[knV kk] W4 (fun e w' => e = .returned (.func (.func 68) #[] #[ptr W4.heap.size]) ∧ Blk w' W4.heap.size #[.int .u8 (kk.may : Int), .int .u8 (kk.must : Int)] 111 ∧ Keeps noB W3 w')) := fun n W4 q4 => by
      rw [HF.out]
      exact callsIn_wide.2 ((planner_any kk W4).mono (fun e w' h => ⟨h.1, by rw [h.2]; exact Blk.new _ _ _, by rw [h.2]; exact q4.alloc _⟩))
    have hfv := hfit.vars
    have HUS : Hid (∀ n W4, Keeps noB W3 W4 → CallsIn F n Tryz.prog 48 #[.agg #[.iface ty (.pointer (some ⟨gg, 0, none⟩)), .string ⟨p.1.scope.toArray⟩, .int .i64 (p.2 : Int)]] W4 (fun e w' => e = .returned (.string ⟨(unsaidN p.1).toArray⟩) ∧ Keeps noB W4 w')) := fun n W4 q4 => by
      rw [HF.out]
      exact callsIn_wide.2 (unsaidBy_any (hst3.keeps q4 hggl id) (by have := q4.size; omega) hfv _)
    have hfu := hfit.uns
    have hful := hfit.unsl
    have HPL : Hid (∀ n W4 K, Blk W4 K #[.int .u8 (kk.may : Int), .int .u8 (kk.must : Int)] 111 → CallsIn F n Tryz.prog 68 #[.string ⟨(unsaidN p.1).toArray⟩, .pointer (some ⟨K, 0, none⟩)] W4 (fun e w' => e = .returned (.string ⟨(planK kk (unsaidN p.1)).toArray⟩) ∧ Keeps noB W4 w')) := fun n W4 K hb => by
      rw [HF.out]
      exact callsIn_wide.2 (plan_any kk hkw _ hfu (by omega) K W4 hb)
    have hbeg := hst3.beg
    simp [go_sem] at hbeg
    have HBG : Hid (∀ m, CallsIn F m Tryz.prog 141 #[.pointer (some ⟨gg, 0, none⟩)] W3 (fun e w' => e = .returned (.int .i64 (p.1.beg : Int)) ∧ w' = W3)) := fun m => by
      rw [HF.out]; exact callsIn_wide.2 (begin_any gg _ _ hst3.c0)
    have HY : Hid (exitOk x p.1 = true → ∀ m W4, Keeps noB W3 W4 → YieldAt F m Tryz.prog l #[.int .i64 (p.1.beg : Int), .string ⟨(planZ x p.1).toArray⟩] W4 (RoundEnds J Jx (exitsU x (pre.map Prod.fst) ++ [(p.1.beg, planZ x p.1)]) own1 W4)) := fun hok m W4 q4 => by
      rw [HF.out]
      have hh := HALL.out
      rw [HONE.out, if_pos hok] at hh
      exact HR.out m _ (p.1.beg, planZ x p.1) _ _ own1 W4 hh rfl (HJ.out _ _ _ _ hj3 (q4.mono (fun _ e => e.elim))) (fun k hk => Nat.lt_of_lt_of_le (hlt3 k hk) q4.size)
    have HO3 := Lib.hid (And.intro ho3 hj3)
    have r2 := (HL.out W3 (Keeps.refl _ _)).2.1
    have HNOT : Hid (exitOk x p.1 = false → ∀ W4, Keeps noB W3 W4 → ∃ own', Owns own1 own' W3 W4 ∧ J (exitsU x ((pre ++ [p]).map Prod.fst)) own' W4 ∧ Owns own own' w5 W4) := fun hok W4 q4 => by
      have ho4 := HO3.out.1.ahead q4 (fun _ e => e.elim)
      refine ⟨own1, Owns.behind q4 (Owns.refl ho4.lt), ?_, ho4⟩
      rw [HSN.out, HONE.out, if_neg (by rw [hok]; decide), List.append_nil]
      exact HJ.out _ _ _ _ HO3.out.2 (q4.mono (fun _ e => e.elim))
    have hFf2 := Lib.hid hFf
    obtain ⟨lv, hlv⟩ : ∃ lv, leavesN p.1 = lv := ⟨_, rfl⟩
    rw [hlv] at HTA HOK HPZ
    obtain ⟨rv, hrv⟩ : ∃ rv, liveK kk = rv := ⟨_, rfl⟩
    rw [hrv] at HIR HOK
    obtain ⟨PZ, hPZ⟩ : ∃ PZ, planZ x p.1 = PZ := ⟨_, rfl⟩
    rw [hPZ] at HY HPZ HONE
    obtain ⟨UN, hUN⟩ : ∃ UN, unsaidN p.1 = UN := ⟨_, rfl⟩
    rw [hUN] at HUS HPL HPZ
    clear hst hst3 b5 c5 hk13 q3 hm3 y5 hnoted hkw hj1 hj3 ho1 ho3 hnb hall hfit hfv hfu hful hkk hlv hrv hPZ hUN hLK hpm
    generalize p.1.scope = SC at *
    obtain ⟨km, ku⟩ := kk
    unfold knV at HL HIR HPN
    unfold ptr at HPN
    simp only at HL HIR HPN HPL
    gi_wp2
    refine CallsIn.mono (CallsIn.inRound lq (HBG.out _)) ?_
    rintro e w' ⟨rfl, rfl⟩
    cases lv with
    | false =>
      have hno : exitOk x p.1 = false := by rw [HOK.out]; rfl
      gi_wp2_with (refine wpListIn_assert_run _ rfl _ _ _ _ rfl _ rfl _ (HTA.out _) ?_)
      refine wpIn_region_seqH_round (fun W4 => Keeps own1 w' W4) [(0, true), (1, true), (2, true), (3, true), (4, true), (5, true), (6, true), (7, true), (8, true), (9, true), (10, true), (11, true), (12, true), (13, true), (14, true), (15, true), (16, true), (17, true), (18, true), (19, true)] hro hFf2.out (by kernel_rfl) (by kernel_rfl) (by kernel_rfl) rfl (by kernel_rfl) (fun _ _ _ _ h => h) ((Keeps.refl _ _).drew) ?_
      refine seqH_take (.bool false) rfl rfl (fun W4 q4 => by obtain ⟨f0, f1, f2, f3, f4, f5⟩ := HL.out W4 q4; go_simp) (fun K hK => ?_)
      go_simp
      refine hK _ ?_
      clear hK K
      refine seqH_take (.bool false) rfl rfl (fun W4 q4 => by obtain ⟨f0, f1, f2, f3, f4, f5⟩ := HL.out W4 q4; go_simp) (fun K hK => ?_)
      go_simp
      refine hK _ ?_
      clear hK K
      refine seqH_skip rfl rfl (fun K hK => ?_)
      go_simp
      refine hK _ ?_
      clear hK K
      refine seqH_skip rfl rfl (fun K hK => ?_)
      go_simp
      refine hK _ ?_
      clear hK K
      refine seqH_skip rfl rfl (fun K hK => ?_)
      go_simp
      refine hK _ ?_
      clear hK K
      refine seqH_skip rfl rfl (fun K hK => ?_)
      go_simp
      refine hK _ ?_
      clear hK K
      refine seqH_take (.bool false) rfl rfl (fun W4 q4 => by obtain ⟨f0, f1, f2, f3, f4, f5⟩ := HL.out W4 q4; go_simp) (fun K hK => ?_)
      go_simp
      refine hK _ ?_
      clear hK K
      refine seqH_take (.bool false) rfl rfl (fun W4 q4 => by obtain ⟨f0, f1, f2, f3, f4, f5⟩ := HL.out W4 q4; go_simp) (fun K hK => ?_)
      go_simp
      refine hK _ ?_
      clear hK K
      refine seqH_skip rfl rfl (fun K hK => ?_)
      go_simp
      refine hK _ ?_
      clear hK K
      refine seqH_skip rfl rfl (fun K hK => ?_)
      go_simp
      refine hK _ ?_
      clear hK K
      refine seqH_skip rfl rfl (fun K hK => ?_)
      go_simp
      refine hK _ ?_
      clear hK K
      refine seqH_skip rfl rfl (fun K hK => ?_)
      go_simp
      refine hK _ ?_
      clear hK K
      refine seqH_skip rfl rfl (fun K hK => ?_)
      go_simp
      refine hK _ ?_
      clear hK K
      refine seqH_skip rfl rfl (fun K hK => ?_)
      go_simp
      refine hK _ ?_
      clear hK K
      refine seqH_skip rfl rfl (fun K hK => ?_)
      go_simp
      refine hK _ ?_
      clear hK K
      refine seqH_skip rfl rfl (fun K hK => ?_)
      go_simp
      refine hK _ ?_
      clear hK K
      refine seqH_skip rfl rfl (fun K hK => ?_)
      go_simp
      refine hK _ ?_
      clear hK K
      refine seqH_skip rfl rfl (fun K hK => ?_)
      go_simp
      refine hK _ ?_
      clear hK K
      refine seqH_skip rfl rfl (fun K hK => ?_)
      go_simp
      refine hK _ ?_
      clear hK K
      refine seqH_take (.bool false) rfl rfl (fun W4 q4 => by obtain ⟨f0, f1, f2, f3, f4, f5⟩ := HL.out W4 q4; go_simp) (fun K hK => ?_)
      go_simp
      refine hK _ ?_
      clear hK K
      have HE := Lib.hid (HNOT.out hno (World.drew w') ((Keeps.refl _ _).drew))
      simp only [wpSeqH]
      gi_wp2
      exact HE.out
    | true =>
      cases rv with
      | false =>
        have hno : exitOk x p.1 = false := by rw [HOK.out]; rfl
        gi_wp2_with (refine wpListIn_assert_run _ rfl _ _ _ _ rfl _ rfl _ (HTA.out _) ?_)
        refine wpIn_region_seqH_round (fun W4 => Keeps own1 w' W4) [(0, true), (1, true), (2, true), (3, true), (4, true), (5, false), (6, true), (7, true), (8, true), (9, true), (10, true), (11, true), (12, true), (13, true), (14, true), (15, true), (16, true), (17, true), (18, true), (19, true)] hro hFf2.out (by kernel_rfl) (by kernel_rfl) (by kernel_rfl) rfl (by kernel_rfl) (fun _ _ _ _ h => h) ((Keeps.refl _ _).drew) ?_
        refine seqH_take (.bool true) rfl rfl (fun W4 q4 => by obtain ⟨f0, f1, f2, f3, f4, f5⟩ := HL.out W4 q4; go_simp) (fun K hK => ?_)
        go_simp
        refine hK _ ?_
        clear hK K
        refine seqH_take (.bool true) rfl rfl (fun W4 q4 => by obtain ⟨f0, f1, f2, f3, f4, f5⟩ := HL.out W4 q4; go_simp) (fun K hK => ?_)
        go_simp
        refine hK _ ?_
        clear hK K
        refine seqH_take (.map (some mm)) rfl rfl (fun W4 q4 => by obtain ⟨f0, f1, f2, f3, f4, f5⟩ := HL.out W4 q4; go_simp) (fun K hK => ?_)
        go_simp
        refine hK _ ?_
        clear hK K
        refine seqH_take (.int .i64 (p.1.beg : Int)) rfl rfl (fun W4 q4 => by obtain ⟨f0, f1, f2, f3, f4, f5⟩ := HL.out W4 q4; go_simp) (fun K hK => ?_)
        go_simp
        refine hK _ ?_
        clear hK K
        refine seqH_take (.agg #[.int .u8 (km : Int), .int .u8 (ku : Int)]) rfl rfl (fun W4 q4 => by obtain ⟨f0, f1, f2, f3, f4, f5⟩ := HL.out W4 q4; go_simp) (fun K hK => ?_)
        go_simp
        refine hK _ ?_
        clear hK K
        refine seqH_loud rfl (fun K hK => ?_)
        gi_wp2
        refine CallsIn.mono (HIR.out _ _ ((Keeps.refl _ _).drew)) ?_
        rintro e W4 ⟨rfl, q4⟩
        have HE := Lib.hid (HNOT.out hno W4 q4)
        have Q4 := Lib.hid q4
        clear q4
        gi_wp2
        refine hK _ _ (Q4.out.mono (fun _ e => e.elim)) ?_
        clear hK K
        refine seqH_take (.bool false) rfl rfl (fun W4 q4 => by obtain ⟨f0, f1, f2, f3, f4, f5⟩ := HL.out W4 q4; go_simp) (fun K hK => ?_)
        go_simp
        refine hK _ ?_
        clear hK K
        refine seqH_take (.bool false) rfl rfl (fun W4 q4 => by obtain ⟨f0, f1, f2, f3, f4, f5⟩ := HL.out W4 q4; go_simp) (fun K hK => ?_)
        go_simp
        refine hK _ ?_
        clear hK K
        refine seqH_skip rfl rfl (fun K hK => ?_)
        go_simp
        refine hK _ ?_
        clear hK K
        refine seqH_skip rfl rfl (fun K hK => ?_)
        go_simp
        refine hK _ ?_
        clear hK K
        refine seqH_skip rfl rfl (fun K hK => ?_)
        go_simp
        refine hK _ ?_
        clear hK K
        refine seqH_skip rfl rfl (fun K hK => ?_)
        go_simp
        refine hK _ ?_
        clear hK K
        refine seqH_skip rfl rfl (fun K hK => ?_)
        go_simp
        refine hK _ ?_
        clear hK K
        refine seqH_skip rfl rfl (fun K hK => ?_)
        go_simp
        refine hK _ ?_
        clear hK K
        refine seqH_skip rfl rfl (fun K hK => ?_)
        go_simp
        refine hK _ ?_
        clear hK K
        refine seqH_skip rfl rfl (fun K hK => ?_)
        go_simp
        refine hK _ ?_
        clear hK K
        refine seqH_skip rfl rfl (fun K hK => ?_)
        go_simp
        refine hK _ ?_
        clear hK K
        refine seqH_skip rfl rfl (fun K hK => ?_)
        go_simp
        refine hK _ ?_
        clear hK K
        refine seqH_skip rfl rfl (fun K hK => ?_)
        go_simp
        refine hK _ ?_
        clear hK K
        refine seqH_take (.bool false) rfl rfl (fun W4 q4 => by obtain ⟨f0, f1, f2, f3, f4, f5⟩ := HL.out W4 q4; go_simp) (fun K hK => ?_)
        go_simp
        refine hK _ ?_
        clear hK K
        simp only [wpSeqH]
        gi_wp2
        exact HE.out
      | true =>
        have hyes : exitOk x p.1 = true := by rw [HOK.out]; rfl
        have HPK : Hid (planK ⟨km, ku⟩ UN = PZ) := Lib.hid (HPZ.out rfl).symm
        gi_wp2_with (refine wpListIn_assert_run _ rfl _ _ _ _ rfl _ rfl _ (HTA.out _) ?_)
        refine wpIn_region_seqH_round (fun W4 => Keeps own1 w' W4) [(0, true), (1, true), (2, true), (3, true), (4, true), (5, false), (6, true), (7, true), (8, true), (9, true), (10, true), (11, true), (12, true), (14, true), (13, false), (15, false), (16, false), (17, false), (18, true), (19, true)] hro hFf2.out (by kernel_rfl) (by kernel_rfl) (by kernel_rfl) rfl (by kernel_rfl) (fun _ _ _ _ h => h) ((Keeps.refl _ _).drew) ?_
        refine seqH_take (.bool true) rfl rfl (fun W4 q4 => by obtain ⟨f0, f1, f2, f3, f4, f5⟩ := HL.out W4 q4; go_simp) (fun K hK => ?_)
        go_simp
        refine hK _ ?_
        clear hK K
        refine seqH_take (.bool true) rfl rfl (fun W4 q4 => by obtain ⟨f0, f1, f2, f3, f4, f5⟩ := HL.out W4 q4; go_simp) (fun K hK => ?_)
        go_simp
        refine hK _ ?_
        clear hK K
        refine seqH_take (.map (some mm)) rfl rfl (fun W4 q4 => by obtain ⟨f0, f1, f2, f3, f4, f5⟩ := HL.out W4 q4; go_simp) (fun K hK => ?_)
        go_simp
        refine hK _ ?_
        clear hK K
        refine seqH_take (.int .i64 (p.1.beg : Int)) rfl rfl (fun W4 q4 => by obtain ⟨f0, f1, f2, f3, f4, f5⟩ := HL.out W4 q4; go_simp) (fun K hK => ?_)
        go_simp
        refine hK _ ?_
        clear hK K
        refine seqH_take (.agg #[.int .u8 (km : Int), .int .u8 (ku : Int)]) rfl rfl (fun W4 q4 => by obtain ⟨f0, f1, f2, f3, f4, f5⟩ := HL.out W4 q4; go_simp) (fun K hK => ?_)
        go_simp
        refine hK _ ?_
        clear hK K
        refine seqH_loud rfl (fun K hK => ?_)
        gi_wp2
        refine CallsIn.mono (HIR.out _ _ ((Keeps.refl _ _).drew)) ?_
        rintro e W4 ⟨rfl, q4⟩
        have Q4 := Lib.hid q4
        clear q4
        gi_wp2
        refine hK _ _ (Q4.out.mono (fun _ e => e.elim)) ?_
        clear hK K
        refine seqH_take (.bool true) rfl rfl (fun W4 q4 => by obtain ⟨f0, f1, f2, f3, f4, f5⟩ := HL.out W4 q4; go_simp) (fun K hK => ?_)
        go_simp
        refine hK _ ?_
        clear hK K
        refine seqH_take (.bool true) rfl rfl (fun W4 q4 => by obtain ⟨f0, f1, f2, f3, f4, f5⟩ := HL.out W4 q4; go_simp) (fun K hK => ?_)
        go_simp
        refine hK _ ?_
        clear hK K
        refine seqH_take (.func (.yield l) #[] #[]) rfl rfl (fun W4 q4 => by obtain ⟨f0, f1, f2, f3, f4, f5⟩ := HL.out W4 q4; go_simp) (fun K hK => ?_)
        go_simp
        refine hK _ ?_
        clear hK K
        refine seqH_take (.int .i64 (p.1.beg : Int)) rfl rfl (fun W4 q4 => by obtain ⟨f0, f1, f2, f3, f4, f5⟩ := HL.out W4 q4; go_simp) (fun K hK => ?_)
        go_simp
        refine hK _ ?_
        clear hK K
        refine seqH_take (.map (some mm)) rfl rfl (fun W4 q4 => by obtain ⟨f0, f1, f2, f3, f4, f5⟩ := HL.out W4 q4; go_simp) (fun K hK => ?_)
        go_simp
        refine hK _ ?_
        clear hK K
        refine seqH_take (.int .i64 (p.1.beg : Int)) rfl rfl (fun W4 q4 => by obtain ⟨f0, f1, f2, f3, f4, f5⟩ := HL.out W4 q4; go_simp) (fun K hK => ?_)
        go_simp
        refine hK _ ?_
        clear hK K
        refine seqH_take (.agg #[.int .u8 (km : Int), .int .u8 (ku : Int)]) rfl rfl (fun W4 q4 => by obtain ⟨f0, f1, f2, f3, f4, f5⟩ := HL.out W4 q4; go_simp) (fun K hK => ?_)
        go_simp
        refine hK _ ?_
        clear hK K
        refine seqH_take (.agg #[.iface ty (.pointer (some ⟨gg, 0, none⟩)), .string ⟨SC.toArray⟩, .int .i64 (p.2 : Int)]) rfl rfl (fun W4 q4 => by obtain ⟨f0, f1, f2, f3, f4, f5⟩ := HL.out W4 q4; go_simp) (fun K hK => ?_)
        go_simp
        refine hK _ ?_
        clear hK K
        refine seqH_loud rfl (fun K hK => ?_)
        gi_wp2
        refine CallsIn.mono (HPN.out _ _ Q4.out) ?_
        rintro e W5 ⟨rfl, hb5, q5⟩
        have Q5 := Lib.hid (And.intro hb5 q5)
        clear hb5 q5
        gi_wp2
        refine hK _ _ (Q5.out.2.mono (fun _ e => e.elim)) ?_
        clear hK K
        refine seqH_loud rfl (fun K hK => ?_)
        gi_wp2
        refine CallsIn.mono (HUS.out _ _ Q5.out.2) ?_
        rintro e W6 ⟨rfl, q6⟩
        have Q6 := Lib.hid (And.intro (q6.blk Q5.out.1 id) (Q5.out.2.trans q6))
        clear q6
        gi_wp2
        refine hK _ _ (Q6.out.2.mono (fun _ e => e.elim)) ?_
        clear hK K
        refine seqH_loud rfl (fun K hK => ?_)
        gi_wp2
        refine CallsIn.mono (HPL.out _ _ _ Q6.out.1) ?_
        rw [HPK.out]
        rintro e W7 ⟨rfl, q7⟩
        have Q7 := Lib.hid (Q6.out.2.trans q7)
        clear q7
        gi_wp2
        refine hK _ _ (Q7.out.mono (fun _ e => e.elim)) ?_
        clear hK K
        have HE0 : Hid (exitsU x ((pre ++ [p]).map Prod.fst) = exitsU x (pre.map Prod.fst) ++ [(p.1.beg, PZ)]) := Lib.hid (by rw [HSN.out, HONE.out, if_pos hyes])
        refine seqH_loud rfl (fun K hK => ?_)
        obtain ⟨fn2, tmps2, assign2, body2, hy2, hR2⟩ := HY.out hyes (n - 1) W7 Q7.out
        clear HY
        gi_wp2
        refine (show RoundIn F _ _ _ _ _ _ _ _ _ from hR2).mono ?_
        clear hR2 hy2
        rintro e W8 ⟨own8, ho8, (⟨rfl, hj8⟩ | ⟨rfl, hj8⟩)⟩
        · have HE := Lib.hid (And.intro (Owns.behind Q7.out ho8) (And.intro hj8 ((HO3.out.1.ahead Q7.out (fun _ e => e.elim)).trans ho8)))
          clear hj8 ho8
          gi_wp2
          refine hK _ _ HE.out.1.keeps ?_
          clear hK K
          refine seqH_take (.bool false) rfl rfl (fun W4 q4 => by obtain ⟨f0, f1, f2, f3, f4, f5⟩ := HL.out W4 q4; go_simp) (fun K hK => ?_)
          go_simp
          refine hK _ ?_
          clear hK K
          refine seqH_take (.bool false) rfl rfl (fun W4 q4 => by obtain ⟨f0, f1, f2, f3, f4, f5⟩ := HL.out W4 q4; go_simp) (fun K hK => ?_)
          go_simp
          refine hK _ ?_
          clear hK K
          simp only [wpSeqH]
          gi_wp2
          exact ⟨own8, HE.out.1, by rw [HE0.out]; exact HE.out.2.1, HE.out.2.2⟩
        · have HE := Lib.hid (And.intro (Owns.behind Q7.out ho8) (And.intro hj8 ((HO3.out.1.ahead Q7.out (fun _ e => e.elim)).trans ho8)))
          clear hj8 ho8
          gi_wp2
          refine hK _ _ HE.out.1.keeps ?_
          clear hK K
          refine seqH_take (.bool true) rfl rfl (fun W4 q4 => by obtain ⟨f0, f1, f2, f3, f4, f5⟩ := HL.out W4 q4; go_simp) (fun K hK => ?_)
          go_simp
          refine hK _ ?_
          clear hK K
          refine seqH_take (.bool true) rfl rfl (fun W4 q4 => by obtain ⟨f0, f1, f2, f3, f4, f5⟩ := HL.out W4 q4; go_simp) (fun K hK => ?_)
          go_simp
          refine hK _ ?_
          clear hK K
          simp only [wpSeqH]
          gi_wp2
          exact ⟨own8, HE.out.1, ⟨rfl, by rw [HE0.out]; exact HE.out.2.1⟩, HE.out.2.2⟩
  case hdone =>
    rintro D own' W' hb ⟨hj', ho'⟩
    have hS := HS.out
    have hnew := hb.new
    have HD := Lib.hid hb.none
    rw [exits_preD] at hj'
    have HE : Hid (∀ W2, Keeps (fun k => k ∈ [D]) W' W2 → Owns own own' W W2 ∧ J (exitsL x) own' W2) := fun W2 q2 =>
      ⟨(Owns.behind HQ.out.2.2 hb.owns).ahead q2 (fun i hi => by simp at hi; omega), HJ.out _ _ _ _ hj' (q2.mono (fun i hi => by simp at hi; subst hi; exact ⟨by omega, hb.free⟩))⟩
    clear hb hj' ho'
    dsimp only
    gi_wp2
    refine leaves_marks [D] _ (by simp) (fun D' hD' => by simp at hD'; subst hD'; exact HD.out) (fun W2 q2 _ => ?_)
    exact ⟨_, results_none rfl _ _ _, _, own', rfl, (HE.out W2 q2).1, .inl (HE.out W2 q2).2⟩
  case hstop =>
    rintro D c pre post own' W' hb hall ⟨⟨rfl, hj'⟩, ho'⟩
    have hS := HS.out
    have hnew := hb.new
    have HD := Lib.hid hb.none
    have HE : Hid (∀ W2, Keeps (fun k => k ∈ [D]) W' W2 → Owns own own' W W2 ∧ Jx (exitsU x (pre.map Prod.fst)) own' W2) := fun W2 q2 =>
      ⟨(Owns.behind HQ.out.2.2 hb.owns).ahead q2 (fun i hi => by simp at hi; omega), HJX.out _ _ _ _ hj' (q2.mono (fun i hi => by simp at hi; subst hi; exact ⟨by omega, hb.free⟩))⟩
    clear hb hj' ho'
    dsimp only
    gi_wp2
    refine leaves_marks [D] _ (by simp) (fun D' hD' => by simp at hD'; subst hD'; exact HD.out) (fun W2 q2 _ => ?_)
    exact ⟨_, results_none rfl _ _ _, _, own', rfl, (HE.out W2 q2).1, .inr ⟨exitsU x (pre.map Prod.fst), exitsU x (post.map Prod.fst), by rw [← exits_preD x 0, hall, List.map_append, exitsU_app], (HE.out W2 q2).2⟩⟩

end Go.Proofs.YtkfcgamdlckncaaGreat
