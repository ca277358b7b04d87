/-
  The program's exits and their cleanups: ExitsOf, cleanupAt, CleanupOf.
-/
import Derived.Test.YtcpbkohpgchckaaDb
import Derived.Test.YtcpbkohpgchckaaWqV
namespace Go.Proofs.Ytcpbkohpgchckaa
set_option linter.unusedVariables false
set_option linter.unusedSimpArgs false
open Go.RowKit Go.Shelf

attribute [local go_sem] Oper.semAt_some

/-! ### ExitsOf -/
theorem resExitsOf (W : World) (v : Value) (b : Bool) (tmps : Array Value) (h2 : tmps.getD 2 undef = v) (h3 : tmps.getD 3 undef = .bool b) : (results Try.f31 tmps).run Try.prog W = .ok (.tuple #[v, .bool b]) W := by
  have h2' : tmps[2]?.getD undef = v := by simpa using h2
  have h3' : tmps[3]?.getD undef = .bool b := by simpa using h3
  simp [results, Try.results31, go_sem, h2', h3']

set_option maxRecDepth 100000 in
set_option maxHeartbeats 4000000 in
theorem exits_none (s : ByteArray) (hs : s.size ≤ 1048576) (hp : progP s = none) (w : World) : Calls Try.prog 31 #[.string s] w (NumsPost w none) := by
  refine (callsIn_wide (n := 9)).1 ?_
  obtain ⟨F, hF⟩ : ∃ F, F = Fence.wide := ⟨_, rfl⟩
  have hFf : ∀ f, F.fn f := by subst hF; exact fun _ => trivial
  have hdd : ∀ k : Nat, (F.depth.isSome = true → 1 ≤ k) := by subst hF; intro k h; simp [Fence.wide] at h
  have hro : F.round = none := by subst hF; rfl
  have hds : F.depth.isSome = false := by subst hF; rfl
  have HC : Hid (∀ m w, CallsIn F m Try.prog 67 #[.string s] w (CleanPost s w none)) := fun m w => by
    rw [hF]; have := cleaning_any s hs w; rw [hp] at this; exact callsIn_wide.2 this
  rw [← hF]
  have HF := Lib.hid hF
  clear hF
  refine callsIn_of_wp_marks Try.func31 rfl (hFf _) ?_ hro
  simp only [Try.ntmps31, List.size_toArray, List.length_cons, List.length_nil, Nat.reduceAdd, Nat.reduceSub, Array.replicate_succ, Array.replicate_zero, List.push_toArray, List.append_toArray, List.nil_append, List.cons_append]
  gi_wp2
  refine (HC.out _ _).mono ?_
  rintro e w1 ⟨rfl, q1⟩
  gi_wp2
  refine leaves_marks [] _ List.nodup_nil (fun _ h => by cases h) (fun W' q _ => ?_)
  refine ⟨_, resExitsOf W' (.slice none 0 0) false _ rfl rfl, ?_⟩
  exact ⟨_, _, [], rfl, ⟨⟨rfl, .inl ⟨rfl, rfl⟩⟩, fun g hg => by simp [Value.ownBlock] at hg⟩, q1.trans (q.mono (fun _ e => by cases e)), rfl, rfl⟩

set_option maxRecDepth 100000 in
set_option maxHeartbeats 4000000 in
theorem exits_some (s : ByteArray) (hs : s.size ≤ 1048576) (x : Nd) (hp : progP s = some x) (w : World) : Calls Try.prog 31 #[.string s] w (NumsPost w (some ((exitsL x).map Prod.fst))) := by
  refine (callsIn_wide (n := 9)).1 ?_
  obtain ⟨F, hF⟩ : ∃ F, F = Fence.wide := ⟨_, rfl⟩
  have hFf : ∀ f, F.fn f := by subst hF; exact fun _ => trivial
  have hdd : ∀ k : Nat, (F.depth.isSome = true → 1 ≤ k) := by subst hF; intro k h; simp [Fence.wide] at h
  have hro : F.round = none := by subst hF; rfl
  have hds : F.depth.isSome = false := by subst hF; rfl
  have HC : Hid (∀ m w, CallsIn F m Try.prog 67 #[.string s] w (CleanPost s w (some x))) := fun m w => by
    rw [hF]; have := cleaning_any s hs w; rw [hp] at this; exact callsIn_wide.2 this
  have HFEW := Lib.hid (exits_few hp)
  rw [← hF]
  have HF := Lib.hid hF
  clear hF
  refine callsIn_of_wp_marks Try.func31 rfl (hFf _) ?_ hro
  simp only [Try.ntmps31, List.size_toArray, List.length_cons, List.length_nil, Nat.reduceAdd, Nat.reduceSub, Array.replicate_succ, Array.replicate_zero, List.push_toArray, List.append_toArray, List.nil_append, List.cons_append]
  gi_wp2
  refine (HC.out _ _).mono ?_
  rintro e w1 ⟨R, Q, C, mm, w2, rfl, hok, q1a, q1b, hm1, hmC, hbC, hmap⟩
  have q1 := q1a.trans q1b
  have hlC := hbC.lt
  have h12 := q1b.size
  have HOK := Lib.hid hok
  have rC : (w1.alloc (.cells #[.slice none 0 0] 24)).cell? ⟨C, 0, none⟩ = some (.func (.func 136) #[] #[.pointer (some ⟨R, 0, none⟩), .pointer (some ⟨Q, 0, none⟩)]) := ((hbC.alloc _).cell 0).trans rfl
  have HB : Hid (C < w1.heap.size ∧ w2.heap.size ≤ w1.heap.size ∧ Keeps noB w1 (w1.alloc (.cells #[.slice none 0 0] 24)) ∧ Keeps noB w2 w1) := ⟨hlC, h12, (Keeps.refl _ _).alloc _, q1b⟩
  clear hbC hmap hm1 hmC q1a q1b hlC h12
  have bN := Blk.new w1 #[.slice none 0 0] 24
  have hs5 : (w1.alloc (.cells #[.slice none 0 0] 24)).heap.size = w1.heap.size + 1 := by simp only [World.size_alloc]
  have q15 : Keeps noB w1 (w1.alloc (.cells #[.slice none 0 0] 24)) := (Keeps.refl _ _).alloc _
  clear hok
  gi_wp2
  generalize w1.alloc (.cells #[.slice none 0 0] 24) = w5 at *
  obtain ⟨N, hN⟩ : ∃ N, N = w1.heap.size := ⟨_, rfl⟩
  rw [← hN] at bN hs5 ⊢
  have hq1 := q1.size
  have HS := Lib.hid (And.intro hs5 (And.intro hN (And.intro (q1.trans q15) hq1)))
  have bN' := bN
  clear hN
  refine wp_range HF.out (gf := 136) (lb := #[ptr R, ptr Q]) (all := exitsL x) (enc := encX) (prot := between w.heap.size w2) (own := oneB N)
    rfl (enters_of Try.func136 (by kernel_rfl) rfl)
    (fun W q => HOK.out.iterM (may := noB) (fun _ _ e => e) W ((HB.out.2.2.2.trans HB.out.2.2.1).trans q))
    (fun pre own W' => ListI N w5 (pre.map Prod.fst) own W') (fun _ _ _ _ => False) ?hI ?hIx ?hown ?hprot ?hps ?h0 ?hround ?hdone ?hstop
  case hI => intro pre own W W' h q; exact ListI.stab (by omega) h q
  case hIx => rintro c pre own W W' h q; exact h
  case hown => rintro k rfl; omega
  case hprot =>
    rintro k hk
    have e1 := HS.out.2.1
    have e3 := HB.out.2.1
    exact ⟨fun e => by have := hk.2; have : k = N := e; omega, by have := hk.2; omega⟩
  case hps => rintro y args rfl; rfl
  case h0 => exact ListI.start bN
  case hround =>
    rintro l n pre p post args own1 W1 hall henc hI hlt hl hnl hll
    unfold encX at henc
    subst henc
    have hlen : (pre.map Prod.fst).length ≤ 200 := by
      have := congrArg List.length hall
      have := HFEW.out
      rw [List.length_append] at *
      rw [List.length_map]
      omega
    clear hall
    gi_wp2
    refine ⟨Keeps.refl _ _, fun W3 q3 hs3 => ?_⟩
    clear hs3
    have I3 := ListI.stab (by omega) hI (q3.mono (fun k e => by obtain rfl : k = l := e; exact ⟨hl, hnl⟩))
    obtain ⟨a, c, y4, y6, a', c', w', hr, z4, y5, own', ho, hI'⟩ := I3.more (by omega) hlen p.1
    have k3 : Keeps (fun k => k = l) W1 W3 := q3.mono (fun k e => e)
    have HE : Hid (∃ own', Owns own1 own' W3 (w'.setCell ⟨N, 0, none⟩ (.slice a' ((pre.map Prod.fst).length + 1) c')) ∧ ListI N w5 ((pre ++ [p]).map Prod.fst) own' (w'.setCell ⟨N, 0, none⟩ (.slice a' ((pre.map Prod.fst).length + 1) c'))) := ⟨own', ho, by rw [List.map_append]; exact hI'⟩
    clear hI' ho I3 hI hs5
    generalize (pre.map Prod.fst).length = nl at *
    gi_wp2_with (gi_at_builtin; refine wpListIn_append_run _ rfl _ _ _ _ rfl _ _ rfl rfl _ _ hr ?_)
    exact HE.out
  case hdone =>
    rintro D own' W' hb h
    have HE : Hid (∀ W2, Keeps (fun k => k ∈ [D]) W' W2 → ∃ a c, W'.cell? ⟨N, 0, none⟩ = some (.slice a ((exitsL x).map Prod.fst).length c) ∧ NumsPost w (some ((exitsL x).map Prod.fst)) (.returned (.tuple #[.slice a ((exitsL x).map Prod.fst).length c, .bool true])) W2) := fun W2 q => h.post hb HS.out.2.2.1 (by have := HS.out; omega) q
    have HD := Lib.hid hb.none
    obtain ⟨h3, hoN, a, c, h4, h5, h6⟩ := h
    have y4 : W'.cell? ⟨N, 0, none⟩ = some (.slice a ((exitsL x).map Prod.fst).length c) := (h4.cell 0).trans rfl
    clear h3 h4 h5 h6 hb
    generalize ((exitsL x).map Prod.fst).length = nl at *
    dsimp only
    gi_wp2
    refine leaves_marks [D] _ (by simp) (fun D' hD' => by simp at hD'; subst hD'; exact HD.out) (fun W2 q _ => ?_)
    obtain ⟨a', c', e1, e2⟩ := HE.out W2 q
    rw [y4] at e1
    obtain ⟨rfl, rfl⟩ : a = a' ∧ c = c' := by simpa using e1
    exact ⟨_, resExitsOf W2 _ _ _ rfl rfl, e2⟩
  case hstop => intro D c pre post own' W' _ _ h; exact h.elim

theorem exits_any (s : ByteArray) (hs : s.size ≤ 1048576) (w : World) : Calls Try.prog 31 #[.string s] w (NumsPost w ((exitsP s).map (fun l => l.map Prod.fst))) := by
  unfold exitsP
  cases hp : progP s with
  | none => exact exits_none s hs hp w
  | some x => exact exits_some s hs x hp w

/-! ### cleanupAt -/
def cleanAt (x : Nd) (at_ : Int) : Option (List UInt8) := ((exitsL x).find? (fun q => (q.1 : Int) == at_)).map Prod.snd
def noneAt (at_ : Int) (l : List Pt) : Prop := ∀ q ∈ l, ((q.1 : Int) == at_) = false
theorem cleanAt_none {x : Nd} {at_ : Int} (h : noneAt at_ (exitsL x)) : cleanAt x at_ = none := by
  unfold cleanAt
  rw [List.find?_eq_none.2 (fun q hq => by rw [h q hq]; decide)]; rfl
theorem cleanAt_some {x : Nd} {at_ : Int} {pre post : List Pt} {q : Pt} (hall : exitsL x = pre ++ q :: post) (h : noneAt at_ pre) (hq : ((q.1 : Int) == at_) = true) : cleanAt x at_ = some q.2 := by
  unfold cleanAt
  rw [hall, List.find?_append, List.find?_eq_none.2 (fun q hq => by rw [h q hq]; decide), List.find?_cons_of_pos (by simpa using hq)]; rfl
theorem cleanupP_eq {s : ByteArray} {x : Nd} (hp : progP s = some x) (at_ : Int) : cleanupP s at_ = cleanAt x at_ := by unfold cleanupP cleanAt; rw [hp]
theorem cleanAt_fit {s : ByteArray} {x : Nd} (hp : progP s = some x) {at_ : Int} {c : List UInt8} (h : cleanAt x at_ = some c) : c.length ≤ 160 ∧ Pairs c := by
  unfold cleanAt at h
  cases hf : (exitsL x).find? (fun q => (q.1 : Int) == at_) with
  | none => rw [hf] at h; cases h
  | some q =>
    rw [hf] at h
    have e := Option.some.inj h
    have := exits_fit hp (List.mem_of_find?_eq_some hf)
    rw [← e]; exact ⟨this.2.1, this.2.2⟩

theorem resCleanAt (W : World) (A B : Nat) (x : ByteArray) (b : Bool) (tmps : Array Value) (h4 : tmps.getD 4 undef = .pointer (some ⟨A, 0, none⟩)) (h5 : tmps.getD 5 undef = .pointer (some ⟨B, 0, none⟩)) (ha : W.cell? ⟨A, 0, none⟩ = some (.string x)) (hb : W.cell? ⟨B, 0, none⟩ = some (.bool b)) :
    (results Try.f69 tmps).run Try.prog W = .ok (.tuple #[.string x, .bool b]) W := by
  have h4' : tmps[4]?.getD undef = .pointer (some ⟨A, 0, none⟩) := by simpa using h4
  have h5' : tmps[5]?.getD undef = .pointer (some ⟨B, 0, none⟩) := by simpa using h5
  simp [results, Try.results69, go_sem, h4', h5', ha, hb]

/-- The three boxes of cleanupAt behind its begin. -/
theorem three_clean (w : World) (at_ : Int) : Blk (((w.alloc (.cells #[.int .i64 at_] 3)).alloc (.cells #[.string ⟨#[]⟩] 9)).alloc (.cells #[.bool false] 4)) w.heap.size #[.int .i64 at_] 3 ∧
    Blk (((w.alloc (.cells #[.int .i64 at_] 3)).alloc (.cells #[.string ⟨#[]⟩] 9)).alloc (.cells #[.bool false] 4)) (w.heap.size + 1) #[.string ⟨#[]⟩] 9 ∧
    Blk (((w.alloc (.cells #[.int .i64 at_] 3)).alloc (.cells #[.string ⟨#[]⟩] 9)).alloc (.cells #[.bool false] 4)) (w.heap.size + 2) #[.bool false] 4 ∧
    (((w.alloc (.cells #[.int .i64 at_] 3)).alloc (.cells #[.string ⟨#[]⟩] 9)).alloc (.cells #[.bool false] 4)).heap.size = w.heap.size + 3 ∧
    Keeps noB w (((w.alloc (.cells #[.int .i64 at_] 3)).alloc (.cells #[.string ⟨#[]⟩] 9)).alloc (.cells #[.bool false] 4)) := by
  have b0 := ((Blk.new w #[.int .i64 at_] 3).alloc (.cells #[.string ⟨#[]⟩] 9)).alloc (.cells #[.bool false] 4)
  have b1 := (Blk.new (w.alloc (.cells #[.int .i64 at_] 3)) #[.string ⟨#[]⟩] 9).alloc (.cells #[.bool false] 4)
  have b2 := Blk.new ((w.alloc (.cells #[.int .i64 at_] 3)).alloc (.cells #[.string ⟨#[]⟩] 9)) #[.bool false] 4
  rw [World.size_alloc] at b1
  rw [World.size_alloc, World.size_alloc] at b2
  exact ⟨b0, b1, b2, by simp, (((Keeps.refl _ _).alloc _).alloc _).alloc _⟩

/-- Two stores into the two boxes of results. -/
def put2c (W : World) (A B : Nat) (x : ByteArray) (b : Bool) : World := (W.setCell ⟨A, 0, none⟩ (.string x)).setCell ⟨B, 0, none⟩ (.bool b)
theorem put2c_ok {W : World} {A B : Nat} {x0 : ByteArray} {b0 : Bool} (hA : Blk W A #[.string x0] 9) (hB : Blk W B #[.bool b0] 4) (hn : A ≠ B) (x : ByteArray) (b : Bool) :
    Blk (put2c W A B x b) A #[.string x] 9 ∧ Blk (put2c W A B x b) B #[.bool b] 4 ∧ Keeps (twoB A B) W (put2c W A B x b) := by
  unfold put2c
  have c1 : Blk (W.setCell ⟨A, 0, none⟩ (.string x)) A #[.string x] 9 := by simpa using hA.set 0 (.string x)
  have c2 := hB.setOther (a := ⟨A, 0, none⟩) hn (.string x)
  have d1 := c1.setOther (a := ⟨B, 0, none⟩) hn.symm (.bool b)
  have d2 : Blk ((W.setCell ⟨A, 0, none⟩ (.string x)).setCell ⟨B, 0, none⟩ (.bool b)) B #[.bool b] 4 := by simpa using c2.set 0 (.bool b)
  exact ⟨d1, d2, ((Keeps.refl _ _).setCell (p := ⟨A, 0, none⟩) (.inl (show twoB A B A from .inl rfl)) _).setCell (p := ⟨B, 0, none⟩) (.inl (show twoB A B B from .inr rfl)) _⟩

set_option maxRecDepth 100000 in
set_option maxHeartbeats 4000000 in
theorem cleanupAt_any {s : ByteArray} {x : Nd} {b0 R Q C mm : Nat} {wx w : World} (hok : ExitsOk s x b0 R Q wx) (qx : Keeps noB wx w) (hbC : Blk w C (cleanC R Q mm) 112) (at_ : Int) :
    Calls Try.prog 69 #[.pointer (some ⟨C, 0, none⟩), .int .i64 at_] w (fun e w' => e = .returned (.tuple #[.string ⟨((cleanAt x at_).getD []).toArray⟩, .bool (cleanAt x at_).isSome]) ∧ Keeps noB w w') := by
  refine (callsIn_wide (n := 9)).1 ?_
  obtain ⟨F, hF⟩ : ∃ F, F = Fence.wide := ⟨_, rfl⟩
  have hFf : ∀ f, F.fn f := by subst hF; exact fun _ => trivial
  have hdd : ∀ k : Nat, (F.depth.isSome = true → 1 ≤ k) := by subst hF; intro k h; simp [Fence.wide] at h
  have hro : F.round = none := by subst hF; rfl
  have hds : F.depth.isSome = false := by subst hF; rfl
  have HOK := Lib.hid hok
  have HQX := Lib.hid qx
  rw [← hF]
  have HF := Lib.hid hF
  clear hF
  refine callsIn_of_wp_marks Try.func69 rfl (hFf _) ?_ hro
  simp only [Try.ntmps69, List.size_toArray, List.length_cons, List.length_nil, Nat.reduceAdd, Nat.reduceSub, Array.replicate_succ, Array.replicate_zero, List.push_toArray, List.append_toArray, List.nil_append, List.cons_append]
  obtain ⟨c0, c1, c2, t3, t4⟩ := three_clean w at_
  obtain ⟨M, hM⟩ : ∃ M, M = w.heap.size := ⟨_, rfl⟩
  have hlC := hbC.lt
  have hxs := qx.size
  have rC : (((w.alloc (.cells #[.int .i64 at_] 3)).alloc (.cells #[.string ⟨#[]⟩] 9)).alloc (.cells #[.bool false] 4)).cell? ⟨C, 0, none⟩ = some (.func (.func 136) #[] #[.pointer (some ⟨R, 0, none⟩), .pointer (some ⟨Q, 0, none⟩)]) := ((t4.blk hbC id).cell 0).trans rfl
  clear hok qx hbC
  gi_wp2
  generalize ((w.alloc (.cells #[.int .i64 at_] 3)).alloc (.cells #[.string ⟨#[]⟩] 9)).alloc (.cells #[.bool false] 4) = w2 at *
  rw [← hM] at c0 c1 c2 t3 hlC hxs ⊢
  have HK1 := Lib.hid (And.intro t4 hM)
  clear t4 hM rC
  refine wp_range HF.out (gf := 136) (lb := #[ptr R, ptr Q]) (all := exitsL x) (enc := encX) (prot := between b0 wx) (own := twoB (M + 1) (M + 2))
    rfl (enters_of Try.func136 (by kernel_rfl) rfl)
    (fun W q => HOK.out.iterM (may := noB) (fun _ _ e => e) W ((HQX.out.trans HK1.out.1).trans q))
    (fun pre own W' => own = twoB (M + 1) (M + 2) ∧ Owns (twoB (M + 1) (M + 2)) own w2 W' ∧ Blk W' (M + 1) #[.string ⟨#[]⟩] 9 ∧ Blk W' (M + 2) #[.bool false] 4 ∧ noneAt at_ pre) (fun c pre own W' => c = .ret ∧ Owns (twoB (M + 1) (M + 2)) own w2 W' ∧ ∃ pr q, pre = pr ++ [q] ∧ noneAt at_ pr ∧ ((q.1 : Int) == at_) = true ∧ Blk W' (M + 1) #[.string ⟨q.2.toArray⟩] 9 ∧ Blk W' (M + 2) #[.bool true] 4) ?hI ?hIx ?hown ?hprot ?hps ?h0 ?hround ?hdone ?hstop
  case hI =>
    rintro pre own W W' ⟨rfl, h3, h4, h5, h6⟩ q
    exact ⟨rfl, h3.ahead q (fun i e => e.1), q.blk h4 (fun e => by have := e.1; omega), q.blk h5 (fun e => by have := e.1; omega), h6⟩
  case hIx =>
    rintro c pre own W W' ⟨h0, h3, pr, qq, e1, e2, e3, h4, h5⟩ q
    exact ⟨h0, h3.ahead q (fun i e => e.1), pr, qq, e1, e2, e3, q.blk h4 (fun e => by have := e.1; omega), q.blk h5 (fun e => by have := e.1; omega)⟩
  case hown => rintro k (rfl | rfl) <;> omega
  case hprot => intro k hk; exact ⟨fun e => by have := hk.2; rcases e with e | e <;> omega, by have := hk.2; omega⟩
  case hps => rintro y args rfl; rfl
  case h0 => exact ⟨rfl, Owns.refl (by rintro k (rfl | rfl) <;> omega), c1, c2, fun p hp => by cases hp⟩
  case hround =>
    rintro l n pre p post args own1 W1 hall henc ⟨rfl, ho1, hb1, hb2, hpre⟩ hlt hl hnl hll
    unfold encX at henc
    subst henc
    clear hall
    gi_wp2
    refine ⟨Keeps.refl _ _, fun W3 q3 hs3 => ?_⟩
    clear hs3
    have hk13 : Keeps (fun k => w2.heap.size ≤ k ∧ ¬ twoB (M + 1) (M + 2) k) W1 W3 := q3.mono (fun k e => by obtain rfl : k = l := e; exact ⟨hl, hnl⟩)
    have ho3 := ho1.ahead hk13 (fun i e => e.1)
    have d0 : Blk W3 M #[.int .i64 at_] 3 := ho3.keeps.blk c0 (fun e => by rcases e with e | e <;> omega)
    have d1 := hk13.blk hb1 (fun e => by have := e.1; omega)
    have d2 := hk13.blk hb2 (fun e => by have := e.1; omega)
    have y0 := d0.cell 0
    have y1 := d1.cell 0
    have z1 := d1.free 0
    have y2 := d2.cell 0
    have z2 := d2.free 0
    simp at y0 y1 y2
    cases hkk : ((p.1 : Int) == at_) with
    | true =>
      obtain ⟨f1, f2, f3⟩ := put2c_ok d1 d2 (by omega) ⟨p.2.toArray⟩ true
      have HE : Hid (Owns (twoB (M + 1) (M + 2)) (twoB (M + 1) (M + 2)) W3 (put2c W3 (M + 1) (M + 2) ⟨p.2.toArray⟩ true) ∧ Owns (twoB (M + 1) (M + 2)) (twoB (M + 1) (M + 2)) w2 (put2c W3 (M + 1) (M + 2) ⟨p.2.toArray⟩ true) ∧ Blk (put2c W3 (M + 1) (M + 2) ⟨p.2.toArray⟩ true) (M + 1) #[.string ⟨p.2.toArray⟩] 9 ∧ Blk (put2c W3 (M + 1) (M + 2) ⟨p.2.toArray⟩ true) (M + 2) #[.bool true] 4) := by
        have hk : Owns (twoB (M + 1) (M + 2)) (twoB (M + 1) (M + 2)) W3 (put2c W3 (M + 1) (M + 2) ⟨p.2.toArray⟩ true) := ⟨fun k e => .inl e, fun k e => Nat.lt_of_lt_of_le (ho3.lt k e) f3.size, f3⟩
        exact ⟨hk, ho3.trans hk, f1, f2⟩
      have HPRE := Lib.hid hpre
      clear f1 f2 f3 d0 d1 d2 ho3 hk13 ho1 hb1 hb2
      gi_wp2
      exact ⟨_, HE.out.1, rfl, HE.out.2.1, pre, p, rfl, HPRE.out, hkk, HE.out.2.2.1, HE.out.2.2.2⟩
    | false =>
      have HE : Hid (Owns (twoB (M + 1) (M + 2)) (twoB (M + 1) (M + 2)) W3 W3 ∧ (Owns (twoB (M + 1) (M + 2)) (twoB (M + 1) (M + 2)) w2 W3 ∧ Blk W3 (M + 1) #[.string ⟨#[]⟩] 9 ∧ Blk W3 (M + 2) #[.bool false] 4 ∧ noneAt at_ (pre ++ [p]))) := by
        refine ⟨Owns.refl ho3.lt, ho3, d1, d2, fun q hq => ?_⟩
        rcases List.mem_append.1 hq with hq | hq
        · exact hpre q hq
        · simp at hq; subst hq; exact hkk
      clear d0 d1 d2 ho3 hk13 ho1 hb1 hb2
      gi_wp2
      exact ⟨_, HE.out.1, rfl, HE.out.2⟩
  case hdone =>
    rintro D own' W' hb ⟨rfl, ho, hb1, hb2, hno⟩
    have hn := hb.new
    have hDl : D < W'.heap.size := (Array.getElem?_eq_some_iff.1 hb.none).1
    obtain ⟨f1, f2, f3⟩ := put2c_ok hb1 hb2 (by omega) ⟨#[]⟩ false
    have HNIL := Lib.hid (cleanAt_none hno)
    have HD : Hid ((put2c W' (M + 1) (M + 2) ⟨#[]⟩ false).heap[D]? = some (.deferred (some []))) := (f3.block D hDl (fun e => by rcases e with e | e <;> omega)).trans hb.none
    have HE : Hid (∀ W2, Keeps (fun k => k ∈ [D]) (put2c W' (M + 1) (M + 2) ⟨#[]⟩ false) W2 → W2.cell? ⟨M + 1, 0, none⟩ = some (.string ⟨#[]⟩) ∧ W2.cell? ⟨M + 2, 0, none⟩ = some (.bool false) ∧ Keeps noB w W2) := fun W2 q => by
      have e1 := HK1.out.2
      exact ⟨((q.blk f1 (fun e => by simp at e; omega)).cell 0).trans rfl, ((q.blk f2 (fun e => by simp at e; omega)).cell 0).trans rfl, ((HK1.out.1.transNew ho.keeps (fun i hi e => by rcases e with e | e <;> omega)).transNew f3 (fun i hi e => by rcases e with e | e <;> omega)).transNew q (fun i hi e => by simp at e; omega)⟩
    have y1 := hb1.cell 0
    have z1 := hb1.free 0
    have y2 := hb2.cell 0
    have z2 := hb2.free 0
    simp at y1 y2
    clear f1 f2 f3 hb1 hb2 ho hb hno
    dsimp only
    gi_wp2
    refine leaves_marks [D] _ (by simp) (fun D' hD' => by simp at hD'; subst hD'; exact HD.out) (fun W2 q _ => ?_)
    obtain ⟨e1, e2, e3⟩ := HE.out W2 q
    refine ⟨_, resCleanAt W2 _ _ _ _ _ rfl rfl e1 e2, ?_, e3⟩
    rw [HNIL.out]; rfl
  case hstop =>
    rintro D c pre post own' W' hb hall ⟨rfl, ho, pr, qq, rfl, hpr, hqq, hb1, hb2⟩
    have HS : Hid (cleanAt x at_ = some qq.2) := cleanAt_some (by rw [hall, List.append_assoc]; rfl) hpr hqq
    have hn := hb.new
    have HE : Hid (∀ W2, Keeps (fun k => k ∈ [D]) W' W2 → W2.cell? ⟨M + 1, 0, none⟩ = some (.string ⟨qq.2.toArray⟩) ∧ W2.cell? ⟨M + 2, 0, none⟩ = some (.bool true) ∧ Keeps noB w W2) := fun W2 q => by
      have e1 := HK1.out.2
      exact ⟨((q.blk hb1 (fun e => by simp at e; omega)).cell 0).trans rfl, ((q.blk hb2 (fun e => by simp at e; omega)).cell 0).trans rfl, (HK1.out.1.transNew ho.keeps (fun i hi e => by rcases e with e | e <;> omega)).transNew q (fun i hi e => by simp at e; omega)⟩
    have HD := Lib.hid hb.none
    clear hb1 hb2 ho hb hall
    dsimp only
    gi_wp2
    refine leaves_marks [D] _ (by simp) (fun D' hD' => by simp at hD'; subst hD'; exact HD.out) (fun W2 q _ => ?_)
    obtain ⟨e1, e2, e3⟩ := HE.out W2 q
    refine ⟨_, resCleanAt W2 _ _ _ _ _ rfl rfl e1 e2, ?_, e3⟩
    rw [HS.out]; rfl

/-! ### CleanupOf -/
theorem resCleanup (W : World) (v b : Value) (tmps : Array Value) (h4 : tmps.getD 4 undef = v) (h5 : tmps.getD 5 undef = b) : (results Try.f36 tmps).run Try.prog W = .ok (.tuple #[v, b]) W := by
  have h4' : tmps[4]?.getD undef = v := by simpa using h4
  have h5' : tmps[5]?.getD undef = b := by simpa using h5
  simp [results, Try.results36, go_sem, h4', h5']

set_option maxRecDepth 100000 in
set_option maxHeartbeats 4000000 in
theorem cleanup_any (s : ByteArray) (hs : s.size ≤ 1048576) (at_ : Int) (w : World) : Calls Try.prog 36 #[.string s, .int .i64 at_] w (fun e w' => e = .returned (.tuple #[.string ⟨((cleanupP s at_).getD []).toArray⟩, .bool (cleanupP s at_).isSome]) ∧ Keeps noB w w') := by
  have HC := Lib.hid (fun w => cleaning_any s hs w)
  cases hp : progP s with
  | none =>
    have e : cleanupP s at_ = none := by unfold cleanupP; rw [hp]
    rw [e]
    rw [hp] at HC
    clear hp e
    go_enter Try.func36, Try.ntmps36
    go_wp2_with fail
    refine (HC.out _).mono ?_
    rintro e w1 ⟨rfl, q1⟩
    go_wp2_with fail
    refine bodyPost_ret (resCleanup _ (.string ⟨#[]⟩) (.bool false) _ rfl rfl) rfl ?_
    exact ⟨rfl, q1⟩
  | some x =>
    rw [cleanupP_eq hp]
    rw [hp] at HC
    clear hp
    obtain ⟨tx, htx⟩ : ∃ tx, ((cleanAt x at_).getD []).toArray = tx := ⟨_, rfl⟩
    obtain ⟨bv, hbv⟩ : ∃ bv, (cleanAt x at_).isSome = bv := ⟨_, rfl⟩
    rw [htx, hbv]
    have HTX := Lib.hid (And.intro htx hbv)
    clear htx hbv
    go_enter Try.func36, Try.ntmps36
    go_wp2_with fail
    refine (HC.out _).mono ?_
    rintro e w1 ⟨R, Q, C, mm, wx, rfl, hok, q1a, q1b, hm1, hmC, hbC, hmap⟩
    have HA := Lib.hid (cleanupAt_any hok q1b hbC at_)
    rw [HTX.out.1, HTX.out.2] at HA
    have HQ := Lib.hid (q1a.trans q1b)
    clear hok q1a q1b hm1 hmC hbC hmap
    go_wp2_with fail
    refine HA.out.mono ?_
    rintro e w2 ⟨rfl, q2⟩
    go_wp2_with fail
    refine bodyPost_ret (resCleanup _ (.string ⟨tx⟩) (.bool bv) _ rfl rfl) rfl ?_
    exact ⟨rfl, HQ.out.trans q2⟩

end Go.Proofs.Ytcpbkohpgchckaa
