/-
  The program's CountAlone: the lengths of tails, and their sum over the exits.
-/
import Derived.Test.YtcpbkohpgchckaaDc
import Derived.Test.YtcpbkohpgchckaaDg
namespace Go.Proofs.Ytcpbkohpgchckaa
set_option linter.unusedVariables false
set_option linter.unusedSimpArgs false
open Go.RowKit Go.Maps Go.WideMaps

attribute [local go_sem] Oper.semAt_some

/-! ### length -/
def LenOk (n : Nat) : Prop := ∀ (t : List UInt8) (w : World) (lo m N : Nat) (A : TailM), t.length = n → n ≤ 1000 → Pairs t → TailsAt w lo m N A → (t = [] ∨ (A t).isSome) →
  Calls Try.prog 100 #[tailV A t] w (fun e w' => e = .returned (.int .i64 ((t.length / 2 : Nat) : Int)) ∧ w' = w)

set_option maxHeartbeats 1000000 in
theorem len_ok (n : Nat) (ih : ∀ k, k < n → LenOk k) : LenOk n := by
  intro t w lo m N A htn hn hpr hT hs
  match t, htn, hpr, hs with
  | [], htn, hpr, hs =>
    have e : tailV A [] = .pointer none := by unfold tailV; rw [hT.nil]; rfl
    rw [e]
    clear ih hT
    go_enter Try.func100, Try.ntmps100
    go_wp2
    go_ret
    exact ⟨rfl, rfl⟩
  | [a], htn, hpr, hs => exact absurd hpr (by unfold Pairs; simp)
  | a :: v :: r, htn, hpr, hs =>
    have hrp : Pairs r := by unfold Pairs at hpr ⊢; simp only [List.length_cons] at hpr; omega
    have hrl : r.length + 2 = n := by simpa using htn
    rcases hs with hs | hs
    · cases hs
    · cases hA : A (a :: v :: r) with
      | none => rw [hA] at hs; cases hs
      | some g =>
        obtain ⟨c', v', r', hcv, _, _, hb, hsr⟩ := hT.node _ _ hA
        obtain ⟨rfl, rfl, rfl⟩ : a = c' ∧ v = v' ∧ r = r' := by simpa using hcv
        have HI := Lib.hid (ih r.length (by omega) r w lo m N A rfl (by omega) hrp hT hsr)
        have e : tailV A (a :: v :: r) = .pointer (some ⟨g, 0, none⟩) := by unfold tailV; rw [hA]; rfl
        rw [e]
        have c2 : w.cell? ⟨g, 2, none⟩ = some (tailV A r) := (hb.cell 2).trans rfl
        unfold tailV at c2 HI
        generalize (A r).map (fun g => (⟨g, 0, none⟩ : Addr)) = pr at *
        have e2 : ((a :: v :: r).length / 2 : Nat) = 1 + r.length / 2 := by simp only [List.length_cons]; omega
        rw [e2]
        have hk : r.length / 2 ≤ 500 := by omega
        clear ih hT hs hcv hb hsr hpr hrp hrl htn e e2 hA
        generalize r.length / 2 = k at *
        have hki : ((k : Nat) : Int) ≤ 500 := by omega
        go_enter Try.func100, Try.ntmps100
        go_wp2_with fail
        refine HI.out.mono ?_
        rintro e w' ⟨rfl, rfl⟩
        go_wp2_with fail
        go_ret
        exact ⟨by simp, rfl⟩

theorem len_all (n : Nat) : LenOk n := Nat.strongRecOn n (fun n ih => len_ok n ih)

theorem wrap_sum {a b : Nat} (ha : a ≤ 6400) (hb : b ≤ 80) : IntKind.i64.wrap ((a : Int) + (b : Int)) = (a : Int) + (b : Int) := by
  simp [IntKind.wrap, IntKind.bits, IntKind.signed]
  omega

/-! ### countAlone -/
/-- The rounds' own blocks: the count's box and the tails. -/
def ownC (B m : Nat) (A : TailM) : Nat → Prop := fun k => k = B ∨ ownT m A k

theorem resAloneM (W : World) (v : Value) (tmps : Array Value) (h2 : tmps.getD 2 undef = v) : (results Try.f70 tmps).run Try.prog W = .ok v W := by
  have h2' : tmps[2]?.getD undef = v := by simpa using h2
  simp [results, Try.results70, go_sem, h2']

set_option maxRecDepth 100000 in
set_option maxHeartbeats 4000000 in
theorem aloneM_any {s : ByteArray} {x : Nd} {b0 R Q C mm : Nat} {wx w : World} (hok : ExitsOk s x b0 R Q wx) (qx : Keeps noB wx w) (hbC : Blk w C (cleanC R Q mm) 112) (hm1 : wx.heap.size ≤ mm) (hmC : mm < C) (hmap : w.ownsMap Try.prog 9 heldR mm 0 (.map [])) :
    Calls Try.prog 70 #[.pointer (some ⟨C, 0, none⟩)] w (fun e w' => e = .returned (.int .i64 (aloneU (exitsL x) : Int)) ∧ Keeps (oneB mm) w w') := by
  refine (callsIn_wide (n := 9)).1 ?_
  obtain ⟨F, hF⟩ : ∃ F, F = Fence.wide := ⟨_, rfl⟩
  have hFf : ∀ f, F.fn f := by subst hF; exact fun _ => trivial
  have hdd : ∀ k : Nat, (F.depth.isSome = true → 1 ≤ k) := by subst hF; intro k h; simp [Fence.wide] at h
  have hro : F.round = none := by subst hF; rfl
  have hds : F.depth.isSome = false := by subst hF; rfl
  obtain ⟨AX, hAX⟩ : ∃ AX, aloneU (exitsL x) = AX := ⟨_, rfl⟩
  rw [hAX]
  have HAX := Lib.hid hAX
  clear hAX
  have HFEW := Lib.hid (And.intro (exits_few hok.prog) (fun q hq => exits_fit hok.prog (q := q) hq))
  have HOK := Lib.hid hok
  have HQX := Lib.hid qx
  rw [← hF]
  have HF := Lib.hid hF
  clear hF
  refine callsIn_of_wp_marks Try.func70 rfl (hFf _) ?_ hro
  simp only [Try.ntmps70, List.size_toArray, List.length_cons, List.length_nil, Nat.reduceAdd, Nat.reduceSub, Array.replicate_succ, Array.replicate_zero, List.push_toArray, List.append_toArray, List.nil_append, List.cons_append]
  obtain ⟨M, hM⟩ : ∃ M, M = w.heap.size := ⟨_, rfl⟩
  have hlC := hbC.lt
  have hxs := qx.size
  have k0 : Keeps noB w ((w.alloc (.cells #[.pointer (some ⟨C, 0, none⟩)] 107)).alloc (.cells #[.int .i64 0] 3)) := ((Keeps.refl _ _).alloc _).alloc _
  have c0 : Blk ((w.alloc (.cells #[.pointer (some ⟨C, 0, none⟩)] 107)).alloc (.cells #[.int .i64 0] 3)) w.heap.size #[.pointer (some ⟨C, 0, none⟩)] 107 := (Blk.new _ _ _).alloc _
  have c1 : Blk ((w.alloc (.cells #[.pointer (some ⟨C, 0, none⟩)] 107)).alloc (.cells #[.int .i64 0] 3)) (w.heap.size + 1) #[.int .i64 0] 3 := by
    have := Blk.new (w.alloc (.cells #[.pointer (some ⟨C, 0, none⟩)] 107)) #[.int .i64 0] 3
    rwa [World.size_alloc] at this
  have hs0 : ((w.alloc (.cells #[.pointer (some ⟨C, 0, none⟩)] 107)).alloc (.cells #[.int .i64 0] 3)).heap.size = w.heap.size + 2 := by simp
  have rC : ((w.alloc (.cells #[.pointer (some ⟨C, 0, none⟩)] 107)).alloc (.cells #[.int .i64 0] 3)).cell? ⟨C, 0, none⟩ = some (.func (.func 136) #[] #[.pointer (some ⟨R, 0, none⟩), .pointer (some ⟨Q, 0, none⟩)]) := ((k0.blk hbC id).cell 0).trans rfl
  have hT0 : TailsAt ((w.alloc (.cells #[.pointer (some ⟨C, 0, none⟩)] 107)).alloc (.cells #[.int .i64 0] 3)) 0 mm 0 (fun _ => none) := (TailsAt.start hmap).quiet k0
  have hbC2 := k0.blk hbC id
  have hlm := hmap.lt
  clear hok qx hbC hmap
  gi_wp2
  generalize (w.alloc (.cells #[.pointer (some ⟨C, 0, none⟩)] 107)).alloc (.cells #[.int .i64 0] 3) = w2 at *
  rw [← hM] at c0 c1 hs0 hlC hxs hlm ⊢
  have HK1 := Lib.hid (And.intro k0 (And.intro hM hbC2))
  clear k0 hM rC hbC2
  refine wp_range HF.out (gf := 136) (lb := #[ptr R, ptr Q]) (all := exitsL x) (enc := encX) (prot := between b0 wx) (own := ownC (M + 1) mm (fun _ => none))
    rfl (enters_of Try.func136 (by kernel_rfl) rfl)
    (fun W q => HOK.out.iterM (may := noB) (fun _ _ e => e) W ((HQX.out.trans HK1.out.1).trans q))
    (fun pre own W' => ∃ N A, own = ownC (M + 1) mm A ∧ N ≤ 160 * pre.length ∧ TailsAt W' 0 mm N A ∧ Owns (ownC (M + 1) mm (fun _ => none)) own w2 W' ∧ Blk W' (M + 1) #[.int .i64 (aloneU pre : Int)] 3) (fun _ _ _ _ => False) ?hI ?hIx ?hown ?hprot ?hps ?h0 ?hround ?hdone ?hstop
  case hI =>
    rintro pre own W W' ⟨N, A, rfl, hN, hT, ho, hb⟩ q
    exact ⟨N, A, rfl, hN, hT.keeps q (fun k hk e => e.2 (.inr hk)), ho.ahead q (fun i e => e.1), q.blk hb (fun e => e.2 (.inl rfl))⟩
  case hIx => rintro c pre own W W' h q; exact h
  case hown =>
    rintro k (rfl | rfl | ⟨t, e⟩)
    · omega
    · omega
    · cases e
  case hprot =>
    rintro k hk
    have h2 := hk.2
    refine ⟨?_, by omega⟩
    rintro (rfl | rfl | ⟨t, e⟩)
    · omega
    · omega
    · cases e
  case hps => rintro y args rfl; rfl
  case h0 =>
    refine ⟨0, _, rfl, Nat.le_refl _, hT0, Owns.refl ?_, c1⟩
    rintro k (rfl | rfl | ⟨t, e⟩)
    · omega
    · omega
    · cases e
  case hround =>
    rintro l n pre ⟨pb, L⟩ post args own1 W1 hall henc ⟨N, A, rfl, hN, hT, ho1, hbN⟩ hlt hl hnl hll
    unfold encX at henc
    subst henc
    have hpm : (pb, L) ∈ exitsL x := by rw [hall]; simp
    obtain ⟨hp1, hp2, hp3⟩ := HFEW.out.2 (pb, L) hpm
    simp only at hp1 hp2 hp3
    have hpl : pre.length ≤ 79 := by
      have h1 := HFEW.out.1
      rw [hall, List.length_append, List.length_cons] at h1
      omega
    have hal := aloneU_le pre (fun q hq => (HFEW.out.2 q (by rw [hall]; exact List.mem_append_left _ hq)).2.1)
    have hsn := aloneU_snoc pre (pb, L)
    simp only at hsn ⊢
    clear hall hpm
    gi_wp2
    refine ⟨Keeps.refl _ _, fun W3 q3 hs3 => ?_⟩
    clear hs3
    have hk13 : Keeps (fun k => w2.heap.size ≤ k ∧ ¬ ownC (M + 1) mm A k) W1 W3 := q3.mono (fun k e => by obtain rfl : k = l := e; exact ⟨hl, hnl⟩)
    have ho3 := ho1.ahead hk13 (fun i e => e.1)
    have hT3 := hT.keeps hk13 (fun k hk e => e.2 (.inr hk))
    have d1 := hk13.blk hbN (fun e => e.2 (.inl rfl))
    have hnM : ¬ ownC (M + 1) mm (fun _ => none) M := by
      rintro (h | h | ⟨t, e⟩)
      · omega
      · omega
      · cases e
    have hnC : ¬ ownC (M + 1) mm (fun _ => none) C := by
      rintro (h | h | ⟨t, e⟩)
      · omega
      · omega
      · cases e
    have d0 : Blk W3 M #[.pointer (some ⟨C, 0, none⟩)] 107 := ho3.keeps.blk c0 hnM
    have dC : Blk W3 C (cleanC R Q mm) 112 := ho3.keeps.blk HK1.out.2.2 hnC
    obtain ⟨AU, hAU⟩ : ∃ AU, aloneU pre = AU := ⟨_, rfl⟩
    rw [hAU] at hal hsn d1
    have hTM : M ≠ mm := by omega
    have HS : Hid (∀ W, Keeps (fun k => ownC (M + 1) mm A k ∧ k ≠ M + 1) W3 W → W.cell? ⟨M + 1, 0, none⟩ = some (.int .i64 (AU : Int)) ∧ W.cell? ⟨M, 0, none⟩ = some (.pointer (some ⟨C, 0, none⟩))) := fun W q => by
      refine ⟨((q.blk d1 (fun e => e.2 rfl)).cell 0).trans rfl, ((q.blk d0 (fun e => ?_)).cell 0).trans rfl⟩
      rcases e.1 with h | h
      · omega
      · have := ho3.more M (.inr h)
        rcases this with h2 | h2
        · exact hnM h2
        · omega
    have HTL : Hid (∀ n', CallsIn F n' Try.prog 71 #[.pointer (some ⟨C, 0, none⟩), .string ⟨L.toArray⟩] W3.drew (TailPost W3.drew 0 mm N A L)) := fun n' => by
      rw [HF.out]
      exact callsIn_wide.2 (tail_all L.length L W3.drew C R Q 0 mm N A rfl hp3 (by omega) (by omega) dC (by omega) (Nat.zero_le _) (hT3.quiet ((Keeps.refl _ _).drew)))
    have HLN : Hid (∀ n' W A', TailsAt W 0 mm (N + L.length) A' → (L = [] ∨ (A' L).isSome) → CallsIn F n' Try.prog 100 #[tailV A' L] W (fun e w' => e = .returned (.int .i64 ((L.length / 2 : Nat) : Int)) ∧ w' = W)) := fun n' W A' h1 h2 => by
      rw [HF.out]
      exact callsIn_wide.2 (len_all L.length L W 0 mm (N + L.length) A' rfl (by omega) hp3 h1 h2)
    have hM1A : ¬ ∃ t, A t = some (M + 1) := by
      rintro ⟨t, e⟩
      obtain ⟨c', v', r', _, _, _, h4, _⟩ := hT3.node t _ e
      have := d1
      unfold Blk at this h4
      rw [this] at h4
      injection h4 with h4
      injection h4 with h4
      have := congrArg Array.size h4
      simp at this
    have HX := Lib.hid (And.intro hT3 (And.intro ho3 (And.intro d1 (And.intro hN (And.intro hsn hp3)))))
    have hLk : L.length / 2 ≤ 80 := by omega
    have hAUl : AU ≤ 6400 := by omega
    have hFf2 := Lib.hid hFf
    clear hT hT3 ho1 ho3 hbN d1 d0 dC hk13 q3 hnM hnC hlt hl hnl hll hsn hp3 hAU hN hp2 hal hp1
    gi_wp2
    refine wpIn_region_seqZ_round (fun W => Keeps (fun k => ownC (M + 1) mm A k ∧ k ≠ M + 1) W3 W) 6 [(0, true), (1, true), (2, true), (3, false), (4, false), (5, true), (6, false)] hro hFf2.out (by kernel_rfl) (by kernel_rfl) (by kernel_rfl) rfl (by kernel_rfl) (fun _ _ _ _ h => h) ((Keeps.refl _ _).drew) ?_
    refine seqH_take (.int .i64 (AU : Int)) rfl rfl (fun W4 q4 => by obtain ⟨f0, f1⟩ := HS.out W4 q4; go_simp) (fun K hK => ?_)
    go_simp
    refine hK _ ?_
    clear hK K
    refine seqH_take (.pointer (some ⟨C, 0, none⟩)) rfl rfl (fun W4 q4 => by obtain ⟨f0, f1⟩ := HS.out W4 q4; go_simp) (fun K hK => ?_)
    go_simp
    refine hK _ ?_
    clear hK K
    refine seqH_take (.string ⟨L.toArray⟩) rfl rfl (fun W4 q4 => by obtain ⟨f0, f1⟩ := HS.out W4 q4; go_simp) (fun K hK => ?_)
    go_simp
    refine hK _ ?_
    clear hK K
    refine seqH_loud rfl (fun K hK => ?_)
    gi_wp2
    refine CallsIn.mono (HTL.out _) ?_
    rintro e W4 ⟨A', rfl, hT4, hx4, hs4, hn4, q4⟩
    have hm4 : ownT mm A mm := .inl rfl
    have q34 : Keeps (fun k => ownC (M + 1) mm A k ∧ k ≠ M + 1) W3 W4 := by
      have q4' : Keeps (oneB mm) W3 W4 := ⟨q4.os, q4.tape, q4.output, q4.size, q4.block⟩
      exact q4'.mono (fun k e => ⟨by rw [show k = mm from e]; exact .inr (.inl rfl), by have : k = mm := e; omega⟩)
    have H4 := Lib.hid (And.intro hT4 (And.intro hx4 (And.intro hs4 (And.intro hn4 q34))))
    clear hT4 hx4 hs4 hn4 q4 q34 hm4
    have HL2 := Lib.hid (fun n' => HLN.out n' W4 A' H4.out.1 H4.out.2.2.1)
    unfold tailV at HL2 ⊢
    obtain ⟨pr, hpr⟩ : ∃ pr, (A' L).map (fun g => (⟨g, 0, none⟩ : Addr)) = pr := ⟨_, rfl⟩
    rw [hpr] at HL2 ⊢
    clear hpr
    gi_wp2
    refine hK _ _ H4.out.2.2.2.2 ?_
    clear hK K
    refine seqH_loud rfl (fun K hK => ?_)
    gi_wp2
    refine CallsIn.mono (HL2.out _) ?_
    rintro e W5 ⟨rfl, rfl⟩
    obtain ⟨LK, hLK⟩ : ∃ LK, L.length / 2 = LK := ⟨_, rfl⟩
    rw [hLK] at hLk ⊢
    have HLK := Lib.hid hLK
    clear hLK
    gi_wp2
    refine hK _ _ H4.out.2.2.2.2 ?_
    clear hK K
    refine seqH_take (.int .i64 ((AU : Int) + (LK : Int))) rfl rfl (fun W4 q4 => by go_simp; exact wrap_sum hAUl hLk) (fun K hK => ?_)
    go_simp
    refine hK _ ?_
    clear hK K
    have HB5 : Hid (Blk W5 (M + 1) #[.int .i64 (AU : Int)] 3) := H4.out.2.2.2.2.blk HX.out.2.2.1 (fun e => e.2 rfl)
    have z5 := HB5.out.free 0
    have y5 := HB5.out.cell 0
    simp at y5
    refine seqH_last rfl (fun K hK => ?_)
    gi_wp2
    obtain ⟨hT4, hx4, hs4, hn4, q34⟩ := H4.out
    obtain ⟨hT3, ho3, d1, hN, hsn, hp3⟩ := HX.out
    have hlt4 := q34.size
    have hMl : M + 1 < W5.heap.size := HB5.out.lt
    have hM1 : ¬ ownT mm A' (M + 1) := by
      rintro (h | ⟨t, e⟩)
      · omega
      · rcases hn4 t _ e with h | h
        · exact hM1A ⟨t, h⟩
        · have h1 := h.1
          have h2 := d1.lt
          have : W3.drew.heap.size = W3.heap.size := rfl
          omega
    have k5 : Keeps (oneB (M + 1)) W5 (W5.setCell ⟨M + 1, 0, none⟩ (.int .i64 ((AU : Int) + (LK : Int)))) := (Keeps.refl _ _).setCell (p := ⟨M + 1, 0, none⟩) (.inl (show oneB (M + 1) (M + 1) from rfl)) _
    refine ⟨ownC (M + 1) mm A', ?_, N + L.length, A', rfl, ?_, hT4.keeps k5 (fun k hk e => hM1 (by rw [← show k = M + 1 from e]; exact hk)), ?_, ?_⟩
    · refine ⟨?_, ?_, ?_⟩
      · rintro k (rfl | rfl | ⟨t, e⟩)
        · exact .inl (.inl rfl)
        · exact .inl (.inr (.inl rfl))
        · rcases hn4 t _ e with h | h
          · exact .inl (.inr (.inr ⟨t, h⟩))
          · exact .inr h.1
      · rintro k (rfl | hk)
        · exact Nat.lt_of_lt_of_le hMl k5.size
        · exact Nat.lt_of_lt_of_le (hT4.lt k hk) k5.size
      · exact (q34.mono (fun k e => e.1)).trans (k5.mono (fun k e => .inl e))
    · rw [List.length_append]; simp only [List.length_cons, List.length_nil]; have h6 := HLK.out; unfold Pairs at hp3; omega
    · have hk : Owns (ownC (M + 1) mm A) (ownC (M + 1) mm A') W3 (W5.setCell ⟨M + 1, 0, none⟩ (.int .i64 ((AU : Int) + (LK : Int)))) := by
        refine ⟨?_, ?_, ?_⟩
        · rintro k (rfl | rfl | ⟨t, e⟩)
          · exact .inl (.inl rfl)
          · exact .inl (.inr (.inl rfl))
          · rcases hn4 t _ e with h | h
            · exact .inl (.inr (.inr ⟨t, h⟩))
            · exact .inr h.1
        · rintro k (rfl | hk)
          · exact Nat.lt_of_lt_of_le hMl k5.size
          · exact Nat.lt_of_lt_of_le (hT4.lt k hk) k5.size
        · exact (q34.mono (fun k e => e.1)).trans (k5.mono (fun k e => .inl e))
      exact ho3.trans hk
    · have e := HB5.out.set 0 (.int .i64 ((AU : Int) + (LK : Int)))
      have e2 : ((aloneU (pre ++ [(pb, L)]) : Nat) : Int) = (AU : Int) + (LK : Int) := by rw [hsn, HLK.out]; omega
      rw [e2]
      simpa using e
  case hdone =>
    rintro D own' W' hb ⟨N, A, rfl, hN, hT, ho, hbN⟩
    have hD := hb.new
    have hDl : D < W'.heap.size := (Array.getElem?_eq_some_iff.1 hb.none).1
    have y1 : W'.cell? ⟨M + 1, 0, none⟩ = some (.int .i64 (AX : Int)) := by rw [← HAX.out]; exact (hbN.cell 0).trans rfl
    have HD := Lib.hid hb.none
    have HE : Hid (∀ W2, Keeps (fun k => k ∈ [D]) W' W2 → Keeps (oneB mm) w W2) := fun W2 q2 => by
      have e := HK1.out.2.1
      refine (((HK1.out.1.mono (fun _ e => e.elim)).transNew ho.keeps (may := oneB mm) (fun i hi e2 => ?_)).transNew q2 (fun i hi e2 => by simp at e2; omega))
      rcases e2 with h | h | ⟨t, e3⟩
      · omega
      · exact h
      · cases e3
    clear hb hT ho hbN
    dsimp only
    gi_wp2
    refine leaves_marks [D] _ (by simp) (fun D' hD' => by simp at hD'; subst hD'; exact HD.out) (fun W2 q2 _ => ?_)
    exact ⟨_, resAloneM W2 (.int .i64 (AX : Int)) _ rfl, rfl, HE.out W2 q2⟩
  case hstop => intro D c pre post own' W' _ _ h; exact h.elim

/-! ### CountAlone -/
set_option maxRecDepth 100000 in
set_option maxHeartbeats 4000000 in
theorem alone_any (s : ByteArray) (hs : s.size ≤ 1048576) (w : World) : Calls Try.prog 38 #[.string s] w (fun e w' => e = .returned (.int .i64 (aloneP s)) ∧ Keeps noB w w') := by
  have HC := Lib.hid (fun w => cleaning_any s hs w)
  cases hp : progP s with
  | none =>
    have e : aloneP s = -1 := by unfold aloneP; rw [hp]
    rw [e]
    rw [hp] at HC
    clear hp e
    go_enter Try.func38, Try.ntmps38
    go_wp2_with fail
    refine (HC.out _).mono ?_
    rintro e w1 ⟨rfl, q1⟩
    go_wp2_with fail
    go_ret
    exact ⟨rfl, q1⟩
  | some x =>
    have e : aloneP s = (aloneU (exitsL x) : Int) := by unfold aloneP; rw [hp]
    rw [e]
    rw [hp] at HC
    clear hp e
    obtain ⟨AX, hAX⟩ : ∃ AX, aloneU (exitsL x) = AX := ⟨_, rfl⟩
    rw [hAX]
    have HAX := Lib.hid hAX
    clear hAX
    go_enter Try.func38, Try.ntmps38
    go_wp2_with fail
    refine (HC.out _).mono ?_
    rintro e w1 ⟨R, Q, C, mm, wx, rfl, hok, q1a, q1b, hm1, hmC, hbC, hmap⟩
    have HA := Lib.hid (aloneM_any hok q1b hbC hm1 hmC hmap)
    rw [HAX.out] at HA
    have HQ := Lib.hid (And.intro (q1a.trans q1b) (And.intro q1a hm1))
    clear hok q1a q1b hm1 hmC hbC hmap
    go_wp2_with fail
    refine HA.out.mono ?_
    rintro e w2 ⟨rfl, q2⟩
    go_wp2_with fail
    go_ret
    refine ⟨rfl, HQ.out.1.transNew q2 (fun i hi e => ?_)⟩
    have h1 : i = mm := e
    have h2 := HQ.out.2.1.size
    have h3 := HQ.out.2.2
    omega

end Go.Proofs.Ytcpbkohpgchckaa
