/-
  The program's faces of plans: PlansOf, IsWritten, PlanAt.
-/
import Derived.Test.YtelefbdgeefcbaaYe
import Derived.Test.YtelefbdgeefcbaaVfa
namespace Go.Proofs.Ytelefbdgeefcbaa
set_option linter.unusedVariables false
set_option linter.unusedSimpArgs false
open Go.RowKit Go.Shelf

attribute [local go_sem] Oper.semAt_some

theorem asc_len : ∀ (l : List Nat) (lo hi : Nat), Asc l → (∀ a ∈ l, lo ≤ a ∧ a < hi) → l.length ≤ hi - lo
  | [], _, _, _, _ => Nat.zero_le _
  | a :: r, lo, hi, h, hb => by
    have g := List.pairwise_cons.1 h
    have := asc_len r (a + 1) hi g.2 (fun b hm => ⟨g.1 b hm, (hb b (by simp [hm])).2⟩)
    have := hb a (by simp)
    simp only [List.length_cons]
    omega

theorem pts_few {s : ByteArray} {x : Nd} (hp : progP s = some x) : x.pts.length ≤ 81 := by
  have h := asc_len (x.pts.map Prod.fst) 0 81 (pts_ascN (progP_sp hp) (progP_fit hp)) (fun a ha => by
    obtain ⟨p, hm, rfl⟩ := List.mem_map.1 ha
    have := (progP_pts hp p hm).2.2; omega)
  rw [List.length_map] at h
  omega
theorem plansL_few {s : ByteArray} {x : Nd} (hp : progP s = some x) : (plansL x).length ≤ 81 := by
  refine Nat.le_trans (List.length_filter_le _ _) ?_
  rw [List.length_map]
  exact pts_few hp

/-! ### PlansOf -/
theorem resPlansOf (W : World) (v : Value) (b : Bool) (tmps : Array Value) (h2 : tmps.getD 2 undef = v) (h3 : tmps.getD 3 undef = .bool b) : (results Try.f37 tmps).run Try.prog W = .ok (.tuple #[v, .bool b]) W := by
  have h2' : tmps[2]?.getD undef = v := by simpa using h2
  have h3' : tmps[3]?.getD undef = .bool b := by simpa using h3
  simp [results, Try.results37, go_sem, h2', h3']

set_option maxRecDepth 100000 in
set_option maxHeartbeats 4000000 in
theorem plans_none (s : ByteArray) (hs : s.size ≤ 1048576) (hp : progP s = none) (w : World) : Calls Try.prog 37 #[.string s] w (NumsPost w none) := by
  refine (callsIn_wide (n := 9)).1 ?_
  obtain ⟨F, hF⟩ : ∃ F, F = Fence.wide := ⟨_, rfl⟩
  have hFf : ∀ f, F.fn f := by subst hF; exact fun _ => trivial
  have hdd : ∀ k : Nat, (F.depth.isSome = true → 1 ≤ k) := by subst hF; intro k h; simp [Fence.wide] at h
  have hro : F.round = none := by subst hF; rfl
  have hds : F.depth.isSome = false := by subst hF; rfl
  have HC : Hid (∀ m w, CallsIn F m Try.prog 64 #[.string s] w (PlansPost s w none)) := fun m w => by
    rw [hF]; have := plansOf_any s hs w; rw [hp] at this; exact callsIn_wide.2 this
  rw [← hF]
  have HF := Lib.hid hF
  clear hF
  refine callsIn_of_wp_marks Try.func37 rfl (hFf _) ?_ hro
  simp only [Try.ntmps37, List.size_toArray, List.length_cons, List.length_nil, Nat.reduceAdd, Nat.reduceSub, Array.replicate_succ, Array.replicate_zero, List.push_toArray, List.append_toArray, List.nil_append, List.cons_append]
  gi_wp2
  refine (HC.out _ _).mono ?_
  rintro e w1 ⟨rfl, q1⟩
  gi_wp2
  refine leaves_marks [] _ List.nodup_nil (fun _ h => by cases h) (fun W' q _ => ?_)
  refine ⟨_, resPlansOf W' (.slice none 0 0) false _ rfl rfl, ?_⟩
  exact ⟨_, _, [], rfl, ⟨⟨rfl, .inl ⟨rfl, rfl⟩⟩, fun g hg => by simp [Value.ownBlock] at hg⟩, q1.trans (q.mono (fun _ e => by cases e)), rfl, rfl⟩

set_option maxRecDepth 100000 in
set_option maxHeartbeats 4000000 in
theorem plans_some (s : ByteArray) (hs : s.size ≤ 1048576) (x : Nd) (hp : progP s = some x) (w : World) : Calls Try.prog 37 #[.string s] w (NumsPost w (some ((plansL x).map Prod.fst))) := by
  refine (callsIn_wide (n := 9)).1 ?_
  obtain ⟨F, hF⟩ : ∃ F, F = Fence.wide := ⟨_, rfl⟩
  have hFf : ∀ f, F.fn f := by subst hF; exact fun _ => trivial
  have hdd : ∀ k : Nat, (F.depth.isSome = true → 1 ≤ k) := by subst hF; intro k h; simp [Fence.wide] at h
  have hro : F.round = none := by subst hF; rfl
  have hds : F.depth.isSome = false := by subst hF; rfl
  have HC : Hid (∀ m w, CallsIn F m Try.prog 64 #[.string s] w (PlansPost s w (some x))) := fun m w => by
    rw [hF]; have := plansOf_any s hs w; rw [hp] at this; exact callsIn_wide.2 this
  have HFEW := Lib.hid (plansL_few hp)
  rw [← hF]
  have HF := Lib.hid hF
  clear hF
  refine callsIn_of_wp_marks Try.func37 rfl (hFf _) ?_ hro
  simp only [Try.ntmps37, List.size_toArray, List.length_cons, List.length_nil, Nat.reduceAdd, Nat.reduceSub, Array.replicate_succ, Array.replicate_zero, List.push_toArray, List.append_toArray, List.nil_append, List.cons_append]
  gi_wp2
  refine (HC.out _ _).mono ?_
  rintro e w1 ⟨R, Q, rfl, hok, q1⟩
  have HOK := Lib.hid hok
  have bN := Blk.new w1 #[.slice none 0 0] 24
  have hs5 : (w1.alloc (.cells #[.slice none 0 0] 24)).heap.size = w1.heap.size + 1 := by simp only [World.size_alloc]
  have q15 : Keeps noB w1 (w1.alloc (.cells #[.slice none 0 0] 24)) := (Keeps.refl _ _).alloc _
  clear hok
  gi_wp2
  generalize w1.alloc (.cells #[.slice none 0 0] 24) = w5 at *
  obtain ⟨N, hN⟩ : ∃ N, N = w1.heap.size := ⟨_, rfl⟩
  rw [← hN] at bN hs5 ⊢
  have hq1 := q1.size
  have HS := Lib.hid (And.intro hs5 (And.intro hN (And.intro (q1.trans q15) hq1)))
  have bN' := bN
  clear hN
  refine wp_range HF.out (gf := 94) (lb := #[ptr R, ptr Q]) (all := plansL x) (enc := encU) (prot := between w.heap.size w1) (own := oneB N)
    rfl (enters_of Try.func94 (by kernel_rfl) rfl)
    (fun W q => HOK.out.iterM (may := noB) (fun _ _ e => e) W (q15.trans q))
    (fun pre own W' => ListI N w5 (pre.map Prod.fst) own W') (fun _ _ _ _ => False) ?hI ?hIx ?hown ?hprot ?hps ?h0 ?hround ?hdone ?hstop
  case hI => intro pre own W W' h q; exact ListI.stab (by omega) h q
  case hIx => rintro c pre own W W' h q; exact h
  case hown => rintro k rfl; omega
  case hprot =>
    rintro k hk
    have e1 := HS.out.2.1
    exact ⟨fun e => by have := hk.2; have : k = N := e; omega, by have := hk.2; omega⟩
  case hps => rintro y args rfl; rfl
  case h0 => exact ListI.start bN
  case hround =>
    rintro l n pre p post args own1 W1 hall henc hI hlt hl hnl hll
    unfold encU at henc
    subst henc
    have hlen : (pre.map Prod.fst).length ≤ 200 := by
      have := congrArg List.length hall
      have := HFEW.out
      rw [List.length_append] at *
      rw [List.length_map]
      omega
    clear hall
    gi_wp2
    refine ⟨Keeps.refl _ _, fun W3 q3 hs3 => ?_⟩
    clear hs3
    have I3 := ListI.stab (by omega) hI (q3.mono (fun k e => by obtain rfl : k = l := e; exact ⟨hl, hnl⟩))
    obtain ⟨a, c, y4, y6, a', c', w', hr, z4, y5, own', ho, hI'⟩ := I3.more (by omega) hlen p.1
    have k3 : Keeps (fun k => k = l) W1 W3 := q3.mono (fun k e => e)
    have HE : Hid (∃ own', Owns own1 own' W3 (w'.setCell ⟨N, 0, none⟩ (.slice a' ((pre.map Prod.fst).length + 1) c')) ∧ ListI N w5 ((pre ++ [p]).map Prod.fst) own' (w'.setCell ⟨N, 0, none⟩ (.slice a' ((pre.map Prod.fst).length + 1) c'))) := ⟨own', ho, by rw [List.map_append]; exact hI'⟩
    clear hI' ho I3 hI hs5
    generalize (pre.map Prod.fst).length = nl at *
    gi_wp2_with (gi_at_builtin; refine wpListIn_append_run _ rfl _ _ _ _ rfl _ _ rfl rfl _ _ hr ?_)
    exact HE.out
  case hdone =>
    rintro D own' W' hb h
    have HE : Hid (∀ W2, Keeps (fun k => k ∈ [D]) W' W2 → ∃ a c, W'.cell? ⟨N, 0, none⟩ = some (.slice a ((plansL x).map Prod.fst).length c) ∧ NumsPost w (some ((plansL x).map Prod.fst)) (.returned (.tuple #[.slice a ((plansL x).map Prod.fst).length c, .bool true])) W2) := fun W2 q => h.post hb HS.out.2.2.1 (by have := HS.out; omega) q
    have HD := Lib.hid hb.none
    obtain ⟨h3, hoN, a, c, h4, h5, h6⟩ := h
    have y4 : W'.cell? ⟨N, 0, none⟩ = some (.slice a ((plansL x).map Prod.fst).length c) := (h4.cell 0).trans rfl
    clear h3 h4 h5 h6 hb
    generalize ((plansL x).map Prod.fst).length = nl at *
    dsimp only
    gi_wp2
    refine leaves_marks [D] _ (by simp) (fun D' hD' => by simp at hD'; subst hD'; exact HD.out) (fun W2 q _ => ?_)
    obtain ⟨a', c', e1, e2⟩ := HE.out W2 q
    rw [y4] at e1
    obtain ⟨rfl, rfl⟩ : a = a' ∧ c = c' := by simpa using e1
    exact ⟨_, resPlansOf W2 _ _ _ rfl rfl, e2⟩
  case hstop => intro D c pre post own' W' _ _ h; exact h.elim

theorem plans_any (s : ByteArray) (hs : s.size ≤ 1048576) (w : World) : Calls Try.prog 37 #[.string s] w (NumsPost w (plansP s)) := by
  unfold plansP
  cases hp : progP s with
  | none => exact plans_none s hs hp w
  | some x => exact plans_some s hs x hp w

/-! ### IsWritten -/
theorem resWritten (W : World) (N : Nat) (b : Bool) (tmps : Array Value) (h2 : tmps.getD 2 undef = .pointer (some ⟨N, 0, none⟩)) (hc : W.cell? ⟨N, 0, none⟩ = some (.bool b)) : (results Try.f41 tmps).run Try.prog W = .ok (.bool b) W := by
  have h2' : tmps[2]?.getD undef = .pointer (some ⟨N, 0, none⟩) := by simpa using h2
  simp [results, Try.results41, go_sem, h2', hc]

set_option maxRecDepth 100000 in
set_option maxHeartbeats 4000000 in
theorem written_none (s : ByteArray) (hs : s.size ≤ 1048576) (hp : progP s = none) (w : World) : Calls Try.prog 41 #[.string s] w (fun e w' => e = .returned (.bool false) ∧ Keeps noB w w') := by
  refine (callsIn_wide (n := 9)).1 ?_
  obtain ⟨F, hF⟩ : ∃ F, F = Fence.wide := ⟨_, rfl⟩
  have hFf : ∀ f, F.fn f := by subst hF; exact fun _ => trivial
  have hdd : ∀ k : Nat, (F.depth.isSome = true → 1 ≤ k) := by subst hF; intro k h; simp [Fence.wide] at h
  have hro : F.round = none := by subst hF; rfl
  have hds : F.depth.isSome = false := by subst hF; rfl
  have HC : Hid (∀ m w, CallsIn F m Try.prog 64 #[.string s] w (PlansPost s w none)) := fun m w => by
    rw [hF]; have := plansOf_any s hs w; rw [hp] at this; exact callsIn_wide.2 this
  rw [← hF]
  have HF := Lib.hid hF
  clear hF
  refine callsIn_of_wp_marks Try.func41 rfl (hFf _) ?_ hro
  simp only [Try.ntmps41, List.size_toArray, List.length_cons, List.length_nil, Nat.reduceAdd, Nat.reduceSub, Array.replicate_succ, Array.replicate_zero, List.push_toArray, List.append_toArray, List.nil_append, List.cons_append]
  gi_wp2
  refine (HC.out _ _).mono ?_
  rintro e w1 ⟨rfl, q1⟩
  have b1 := q1.blk (Blk.new w #[.bool false] 4) id
  have q0 : Keeps noB w (w.alloc (.cells #[.bool false] 4)) := (Keeps.refl _ _).alloc _
  have r0 := b1.cell 0
  have z0 := b1.free 0
  simp at r0
  have HE : Hid (Blk (w1.setCell ⟨w.heap.size, 0, none⟩ (.bool false)) w.heap.size #[.bool false] 4 ∧ Keeps noB w (w1.setCell ⟨w.heap.size, 0, none⟩ (.bool false))) := ⟨by simpa using b1.set 0 (.bool false), (q0.trans q1).setCell (p := ⟨w.heap.size, 0, none⟩) (.inr (Nat.le_refl _)) _⟩
  clear b1 q0 q1
  gi_wp2
  refine leaves_marks [] _ List.nodup_nil (fun _ h => by cases h) (fun W' q _ => ?_)
  exact ⟨_, resWritten W' w.heap.size false _ rfl (((q.blk HE.out.1 (fun e => by cases e)).cell 0).trans rfl), rfl, HE.out.2.trans (q.mono (fun _ e => by cases e))⟩

set_option maxRecDepth 100000 in
set_option maxHeartbeats 4000000 in
theorem written_some (s : ByteArray) (hs : s.size ≤ 1048576) (x : Nd) (hp : progP s = some x) (w : World) : Calls Try.prog 41 #[.string s] w (fun e w' => e = .returned (.bool (plansL x).isEmpty) ∧ Keeps noB w w') := by
  refine (callsIn_wide (n := 9)).1 ?_
  obtain ⟨F, hF⟩ : ∃ F, F = Fence.wide := ⟨_, rfl⟩
  have hFf : ∀ f, F.fn f := by subst hF; exact fun _ => trivial
  have hdd : ∀ k : Nat, (F.depth.isSome = true → 1 ≤ k) := by subst hF; intro k h; simp [Fence.wide] at h
  have hro : F.round = none := by subst hF; rfl
  have hds : F.depth.isSome = false := by subst hF; rfl
  have HC : Hid (∀ m w, CallsIn F m Try.prog 64 #[.string s] w (PlansPost s w (some x))) := fun m w => by
    rw [hF]; have := plansOf_any s hs w; rw [hp] at this; exact callsIn_wide.2 this
  rw [← hF]
  have HF := Lib.hid hF
  clear hF
  refine callsIn_of_wp_marks Try.func41 rfl (hFf _) ?_ hro
  simp only [Try.ntmps41, List.size_toArray, List.length_cons, List.length_nil, Nat.reduceAdd, Nat.reduceSub, Array.replicate_succ, Array.replicate_zero, List.push_toArray, List.append_toArray, List.nil_append, List.cons_append]
  gi_wp2
  refine (HC.out _ _).mono ?_
  rintro e w1 ⟨R, Q, rfl, hok, q1⟩
  have HOK := Lib.hid hok
  obtain ⟨C, hC⟩ : ∃ C, C = w.heap.size := ⟨_, rfl⟩
  have b1 := q1.blk (Blk.new w #[.bool false] 4) id
  have q0 : Keeps noB w (w.alloc (.cells #[.bool false] 4)) := (Keeps.refl _ _).alloc _
  have hb0 : (w.alloc (.cells #[.bool false] 4)).heap.size = C + 1 := by rw [hC]; simp
  have HQ := Lib.hid (q0.trans q1)
  have hq1 := q1.size
  rw [hb0] at hq1
  have HB0 := Lib.hid hb0
  have HCE := Lib.hid hC
  rw [← hC] at b1 ⊢
  clear hok q1 q0 hC
  gi_wp2
  refine wp_range HF.out (gf := 94) (lb := #[ptr R, ptr Q]) (all := plansL x) (enc := encU) (prot := between (w.alloc (.cells #[.bool false] 4)).heap.size w1) (own := oneB C)
    rfl (enters_of Try.func94 (by kernel_rfl) rfl)
    (fun W q => HOK.out.iterM (may := noB) (fun _ _ e => e) W (q))
    (fun pre own W' => pre = [] ∧ Owns (oneB C) own w1 W' ∧ own C ∧ Blk W' C #[.bool false] 4) (fun c pre own W' => c = .ret ∧ pre ≠ [] ∧ Owns (oneB C) own w1 W' ∧ Blk W' C #[.bool false] 4) ?hI ?hIx ?hown ?hprot ?hps ?h0 ?hround ?hdone ?hstop
  case hI =>
    intro pre own W W' h q
    exact ⟨h.1, h.2.1.ahead q (fun i e => e.1), h.2.2.1, q.blk h.2.2.2 (fun e => e.2 h.2.2.1)⟩
  case hIx =>
    rintro c pre own W W' h q
    exact ⟨h.1, h.2.1, h.2.2.1.ahead q (fun i e => e.1), q.blk h.2.2.2 (fun e => by have := e.1; omega)⟩
  case hown => rintro k rfl; omega
  case hprot =>
    rintro k hk
    rw [HB0.out] at hk
    exact ⟨fun e => by have := hk.1; have : k = C := e; omega, hk.2⟩
  case hps => rintro y args rfl; rfl
  case h0 => exact ⟨rfl, Owns.refl (by rintro k rfl; omega), rfl, b1⟩
  case hround =>
    rintro l n pre p post args own1 W1 hall henc ⟨rfl, ho1, hoC, bC⟩ hlt hl hnl hll
    unfold encU at henc
    subst henc
    clear hall
    gi_wp2
    refine ⟨Keeps.refl _ _, fun W3 q3 hs3 => ?_⟩
    clear hs3
    have hk13 : Keeps (fun k => w1.heap.size ≤ k ∧ ¬ own1 k) W1 W3 := q3.mono (fun k e => by obtain rfl : k = l := e; exact ⟨hl, hnl⟩)
    have ho3 := ho1.ahead hk13 (fun i e => e.1)
    have b3 : Blk W3 C #[.bool false] 4 := hk13.blk bC (fun e => e.2 hoC)
    have r0 := b3.cell 0
    have z0 := b3.free 0
    simp at r0
    have HE : Hid (Owns own1 own1 W3 (W3.setCell ⟨C, 0, none⟩ (.bool false)) ∧ Owns (oneB C) own1 w1 (W3.setCell ⟨C, 0, none⟩ (.bool false)) ∧ Blk (W3.setCell ⟨C, 0, none⟩ (.bool false)) C #[.bool false] 4) := by
      have k := (Keeps.refl own1 W3).setCell (p := ⟨C, 0, none⟩) (.inl hoC) (.bool false)
      have o : Owns own1 own1 W3 (W3.setCell ⟨C, 0, none⟩ (.bool false)) := ⟨fun k h => .inl h, fun i hi => by simpa [World.setCell] using ho3.lt i hi, k⟩
      exact ⟨o, ho3.trans o, by simpa using b3.set 0 (.bool false)⟩
    clear b3 hk13 ho3 ho1 bC
    gi_wp2
    exact ⟨own1, HE.out.1, rfl, by simp, HE.out.2.1, HE.out.2.2⟩
  case hdone =>
    rintro D own' W' hb ⟨hnil, ho, hoC, bC⟩
    have hDC : D ≠ C := fun e => hb.free (e ▸ hoC)
    have hDl : D < W'.heap.size := (Array.getElem?_eq_some_iff.1 hb.none).1
    have kS : Keeps (oneB C) W' (W'.setCell ⟨C, 0, none⟩ (.bool true)) := (Keeps.refl _ _).setCell (p := ⟨C, 0, none⟩) (.inl (show oneB C C from rfl)) _
    have HD : Hid ((W'.setCell ⟨C, 0, none⟩ (.bool true)).heap[D]? = some (.deferred (some []))) := (kS.block D hDl hDC).trans hb.none
    have bS : Blk (W'.setCell ⟨C, 0, none⟩ (.bool true)) C #[.bool true] 4 := by simpa using bC.set 0 (.bool true)
    have HE : Hid (∀ W2, Keeps (fun k => k ∈ [D]) (W'.setCell ⟨C, 0, none⟩ (.bool true)) W2 → W2.cell? ⟨C, 0, none⟩ = some (.bool true) ∧ Keeps noB w W2) := fun W2 q2 => by
      refine ⟨((q2.blk bS (fun e => by simp at e; exact hDC e.symm)).cell 0).trans rfl, ?_⟩
      have hn := hb.new
      have e := HCE.out
      exact ((HQ.out.transNew ho.keeps (fun i hi e2 => by have : i = C := e2; omega)).transNew kS (fun i hi e2 => by have : i = C := e2; omega)).transNew q2 (fun i hi e2 => by simp at e2; omega)
    have HNIL := Lib.hid hnil
    have r0 := bC.cell 0
    have z0 := bC.free 0
    simp at r0
    clear bC ho kS bS hb hnil
    dsimp only
    gi_wp2
    refine leaves_marks [D] _ (by simp) (fun D' hD' => by simp at hD'; subst hD'; exact HD.out) (fun W2 q2 _ => ?_)
    refine ⟨_, resWritten W2 C true _ rfl (HE.out W2 q2).1, ?_, (HE.out W2 q2).2⟩
    rw [HNIL.out]; rfl
  case hstop =>
    rintro D c pre post own' W' hb hall ⟨rfl, hne, ho, bC⟩
    have hn := hb.new
    have hDC : D ≠ C := by omega
    have HE : Hid (∀ W2, Keeps (fun k => k ∈ [D]) W' W2 → W2.cell? ⟨C, 0, none⟩ = some (.bool false) ∧ Keeps noB w W2) := fun W2 q2 => by
      refine ⟨((q2.blk bC (fun e => by simp at e; exact hDC e.symm)).cell 0).trans rfl, ?_⟩
      have e := HCE.out
      exact (HQ.out.transNew ho.keeps (fun i hi e2 => by have : i = C := e2; omega)).transNew q2 (fun i hi e2 => by simp at e2; omega)
    have HNE : Hid ((plansL x).isEmpty = false) := by
      refine Lib.hid ?_
      rw [hall]
      cases pre with
      | nil => exact absurd rfl hne
      | cons a r => rfl
    have HD := Lib.hid hb.none
    clear bC ho hb hall hne
    dsimp only
    gi_wp2
    refine leaves_marks [D] _ (by simp) (fun D' hD' => by simp at hD'; subst hD'; exact HD.out) (fun W2 q2 _ => ?_)
    refine ⟨_, resWritten W2 C false _ rfl (HE.out W2 q2).1, ?_, (HE.out W2 q2).2⟩
    rw [HNE.out]

theorem written_any (s : ByteArray) (hs : s.size ≤ 1048576) (w : World) : Calls Try.prog 41 #[.string s] w (fun e w' => e = .returned (.bool (writtenP s)) ∧ Keeps noB w w') := by
  unfold writtenP
  cases hp : progP s with
  | none => exact written_none s hs hp w
  | some x => exact written_some s hs x hp w

end Go.Proofs.Ytelefbdgeefcbaa
