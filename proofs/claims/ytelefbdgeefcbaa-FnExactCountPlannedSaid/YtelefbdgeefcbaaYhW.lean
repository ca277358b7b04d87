/-
  CountPlanned: the program's and the model's, against the number of bytes in the plans.
-/
import Derived.Test.YtelefbdgeefcbaaYf
import Derived.Test.YtelefbdgeefcbaaShelfC
import Derived.Test.YtelefbdgeefcbaaZaW
namespace Go.Proofs.Ytelefbdgeefcbaa
set_option linter.unusedVariables false
set_option linter.unusedSimpArgs false
open Go.RowKit Go.Shelf

attribute [local go_sem] Oper.semAt_some

/-! ### how often a byte stands in plans -/
def cntL (c : UInt8) (l : List Pt) : Nat := (l.map (fun p => p.2.count c)).sum
theorem cntL_snoc (c : UInt8) (l : List Pt) (p : Pt) : cntL c (l ++ [p]) = cntL c l + p.2.count c := by unfold cntL; rw [List.map_append, List.sum_append]; simp
def cntU (x : Nd) (c : UInt8) (l : List Pt) : Nat := (l.map (fun p => (planK (knownJ x p.1) p.2).count c)).sum
theorem cntU_snoc (x : Nd) (c : UInt8) (l : List Pt) (p : Pt) : cntU x c (l ++ [p]) = cntU x c l + (planK (knownJ x p.1) p.2).count c := by unfold cntU; rw [List.map_append, List.sum_append]; simp
theorem cnt_same (x : Nd) (c : UInt8) : cntL c (plansL x) = cntU x c x.pts := by
  unfold cntL cntU plansL
  generalize x.pts = l
  induction l with
  | nil => rfl
  | cons p r ih =>
    rw [List.map_cons, List.map_cons, List.filter_cons]
    cases h : planK (knownJ x p.1) p.2 with
    | nil => simpa using ih
    | cons a s => simpa using ih

theorem sum_le {α : Type} (f : α → Nat) (m : Nat) : ∀ l : List α, (∀ a ∈ l, f a ≤ m) → (l.map f).sum ≤ m * l.length
  | [], _ => Nat.zero_le _
  | a :: r, h => by
    have h1 := sum_le f m r (fun b hb => h b (List.mem_cons_of_mem _ hb))
    have h2 := h a (by simp)
    rw [List.map_cons, List.sum_cons, List.length_cons, Nat.mul_succ]
    omega

theorem plans_small {s : ByteArray} {x : Nd} (hp : progP s = some x) : ∀ q ∈ plansL x, q.2.length ≤ 160 := by
  intro q hq
  obtain ⟨p, hm, rfl, _⟩ := mem_plansL.1 hq
  have h1 := planK_len (knownJ x p.1) p.2
  have h2 := (progP_pts hp p hm).2.1
  simp only
  omega

theorem cntL_le {s : ByteArray} {x : Nd} (hp : progP s = some x) {pre post : List Pt} (h : plansL x = pre ++ post) (c : UInt8) : cntL c pre ≤ 12960 := by
  have h1 := sum_le (fun p : Pt => p.2.count c) 160 pre (fun q hq => Nat.le_trans List.count_le_length (plans_small hp q (by rw [h]; exact List.mem_append_left _ hq)))
  have h2 := plansL_few hp
  rw [h, List.length_append] at h2
  unfold cntL
  omega
theorem cntU_le {s : ByteArray} {x : Nd} (hp : progP s = some x) {pre post : List Pt} (h : x.pts = pre ++ post) (c : UInt8) : cntU x c pre ≤ 12960 := by
  have h1 := sum_le (fun p : Pt => (planK (knownJ x p.1) p.2).count c) 160 pre (fun q hq => by
    have h3 := planK_len (knownJ x q.1) q.2
    have h4 := (progP_pts hp q (by rw [h]; exact List.mem_append_left _ hq)).2.1
    exact Nat.le_trans List.count_le_length (by omega))
  have h2 := pts_few hp
  rw [h, List.length_append] at h2
  unfold cntU
  omega

/-- How many values are destroyed unsaid for sure, and maybe. -/
def countedP (s : ByteArray) : Option (Nat × Nat) := match progP s with | none => none | some x => some (cntL 45 (plansL x), cntL 126 (plansL x))
def CountPost (r : Option (Nat × Nat)) (w : World) (e : Ending) (w' : World) : Prop :=
  e = .returned (.tuple #[.int .i64 (((r.getD (0, 0)).1 : Nat) : Int), .int .i64 (((r.getD (0, 0)).2 : Nat) : Int), .bool r.isSome]) ∧ Keeps noB w w'

/-! ### the program -/
theorem resCount (W : World) (a b c : Value) (tmps : Array Value) (h2 : tmps.getD 2 undef = a) (h3 : tmps.getD 3 undef = b) (h4 : tmps.getD 4 undef = c) : (results Try.f43 tmps).run Try.prog W = .ok (.tuple #[a, b, c]) W := by
  have h2' : tmps[2]?.getD undef = a := by simpa using h2
  have h3' : tmps[3]?.getD undef = b := by simpa using h3
  have h4' : tmps[4]?.getD undef = c := by simpa using h4
  simp [results, Try.results43, go_sem, h2', h3', h4']

set_option maxRecDepth 100000 in
set_option maxHeartbeats 4000000 in
theorem count5_none (s : ByteArray) (hs : s.size ≤ 1048576) (hp : progP s = none) (w : World) : Calls Try.prog 43 #[.string s] w (CountPost none w) := by
  refine (callsIn_wide (n := 9)).1 ?_
  obtain ⟨F, hF⟩ : ∃ F, F = Fence.wide := ⟨_, rfl⟩
  have hFf : ∀ f, F.fn f := by subst hF; exact fun _ => trivial
  have hdd : ∀ k : Nat, (F.depth.isSome = true → 1 ≤ k) := by subst hF; intro k h; simp [Fence.wide] at h
  have hro : F.round = none := by subst hF; rfl
  have hds : F.depth.isSome = false := by subst hF; rfl
  have HC : Hid (∀ m w, CallsIn F m Try.prog 64 #[.string s] w (PlansPost s w none)) := fun m w => by
    rw [hF]; have := plansOf_any s hs w; rw [hp] at this; exact callsIn_wide.2 this
  rw [← hF]
  have HF := Lib.hid hF
  clear hF
  refine callsIn_of_wp_marks Try.func43 rfl (hFf _) ?_ hro
  simp only [Try.ntmps43, List.size_toArray, List.length_cons, List.length_nil, Nat.reduceAdd, Nat.reduceSub, Array.replicate_succ, Array.replicate_zero, List.push_toArray, List.append_toArray, List.nil_append, List.cons_append]
  gi_wp2
  refine (HC.out _ _).mono ?_
  rintro e w1 ⟨rfl, q1⟩
  gi_wp2
  refine leaves_marks [] _ List.nodup_nil (fun _ h => by cases h) (fun W' q _ => ?_)
  exact ⟨_, resCount W' _ _ _ _ rfl rfl rfl, rfl, q1.trans (q.mono (fun _ e => by cases e))⟩

/-- Two numbers in boxes. -/
def CntAt (A B : Nat) (W : World) (a b : Nat) : Prop := Blk W A #[.int .i64 (a : Int)] 3 ∧ Blk W B #[.int .i64 (b : Int)] 3

set_option maxRecDepth 100000 in
set_option maxHeartbeats 4000000 in
theorem count5_some (s : ByteArray) (hs : s.size ≤ 1048576) (x : Nd) (hp : progP s = some x) (w : World) : Calls Try.prog 43 #[.string s] w (CountPost (some (cntL 45 (plansL x), cntL 126 (plansL x))) w) := by
  refine (callsIn_wide (n := 9)).1 ?_
  obtain ⟨F, hF⟩ : ∃ F, F = Fence.wide := ⟨_, rfl⟩
  have hFf : ∀ f, F.fn f := by subst hF; exact fun _ => trivial
  have hdd : ∀ k : Nat, (F.depth.isSome = true → 1 ≤ k) := by subst hF; intro k h; simp [Fence.wide] at h
  have hro : F.round = none := by subst hF; rfl
  have hds : F.depth.isSome = false := by subst hF; rfl
  have HC : Hid (∀ m w, CallsIn F m Try.prog 64 #[.string s] w (PlansPost s w (some x))) := fun m w => by
    rw [hF]; have := plansOf_any s hs w; rw [hp] at this; exact callsIn_wide.2 this
  have HSM := Lib.hid (plans_small hp)
  have HLE : Hid (∀ pre post, plansL x = pre ++ post → ∀ c, cntL c pre ≤ 12960) := fun pre post h c => cntL_le hp h c
  have HN : Hid (∀ n (l : List UInt8) (c : UInt8) W, CallsIn F n Try.prog 74 #[.string ⟨l.toArray⟩, .string ⟨#[c]⟩] W (fun e w' => e = .returned (.int .i64 ((l.count c : Nat) : Int)) ∧ w' = W)) := fun n l c W => by
    rw [hF]
    refine callsIn_wide.2 ((Try.strings_Count_one ⟨l.toArray⟩ c W).mono ?_)
    rintro e w' ⟨rfl, rfl⟩
    exact ⟨by unfold Lib.countByte; rw [List.toList_toArray], rfl⟩
  rw [← hF]
  have HF := Lib.hid hF
  clear hF
  refine callsIn_of_wp_marks Try.func43 rfl (hFf _) ?_ hro
  simp only [Try.ntmps43, List.size_toArray, List.length_cons, List.length_nil, Nat.reduceAdd, Nat.reduceSub, Array.replicate_succ, Array.replicate_zero, List.push_toArray, List.append_toArray, List.nil_append, List.cons_append]
  gi_wp2
  refine (HC.out _ _).mono ?_
  rintro e w1 ⟨R, Q, rfl, hok, q1⟩
  have HOK := Lib.hid hok
  have bA := (Blk.new w1 #[.int .i64 0] 3).alloc (.cells #[.int .i64 0] 3)
  have bB := Blk.new (w1.alloc (.cells #[.int .i64 0] 3)) #[.int .i64 0] 3
  rw [World.size_alloc] at bB
  have k0 : Keeps noB w1 ((w1.alloc (.cells #[.int .i64 0] 3)).alloc (.cells #[.int .i64 0] 3)) := ((Keeps.refl _ _).alloc _).alloc _
  have hk0 : ((w1.alloc (.cells #[.int .i64 0] 3)).alloc (.cells #[.int .i64 0] 3)).heap.size = w1.heap.size + 2 := by simp
  obtain ⟨w5, hw5⟩ : ∃ w5, w5 = (w1.alloc (.cells #[.int .i64 0] 3)).alloc (.cells #[.int .i64 0] 3) := ⟨_, rfl⟩
  rw [← hw5] at bA bB k0 hk0
  obtain ⟨A, hA⟩ : ∃ A, A = w1.heap.size := ⟨_, rfl⟩
  rw [← hA] at bA bB hk0
  have HQ1 := Lib.hid (And.intro (q1.trans k0) (And.intro hA (And.intro q1.size hk0)))
  have HW5 := Lib.hid hw5
  have HA := Lib.hid hA
  have HK0 := Lib.hid k0
  clear hok q1 hw5 hA k0
  gi_wp2
  rw [← HW5.out, ← HA.out]
  refine wp_range HF.out (gf := 94) (lb := #[ptr R, ptr Q]) (all := plansL x) (enc := encU) (prot := between w.heap.size w1) (own := twoB A (A + 1))
    rfl (enters_of Try.func94 (by kernel_rfl) rfl)
    (fun W q => HOK.out.iterM (may := noB) (fun _ _ e => e) W (HK0.out.trans q))
    (fun pre own W' => own = twoB A (A + 1) ∧ Owns (twoB A (A + 1)) own w5 W' ∧ CntAt A (A + 1) W' (cntL 45 pre) (cntL 126 pre)) (fun _ _ _ _ => False) ?hI ?hIx ?hown ?hprot ?hps ?h0 ?hround ?hdone ?hstop
  case hI =>
    rintro pre own W W' ⟨rfl, h3, h4, h5⟩ q
    exact ⟨rfl, h3.ahead q (fun i e => e.1), q.blk h4 (fun e => by have := e.1; omega), q.blk h5 (fun e => by have := e.1; omega)⟩
  case hIx => rintro c pre own W W' h q; exact h
  case hown => rintro k (rfl | rfl) <;> omega
  case hprot =>
    intro k hk
    have e1 := HQ1.out.2.1
    exact ⟨fun e => by have := hk.2; rcases e with e | e <;> omega, by have := hk.2; omega⟩
  case hps => rintro y args rfl; rfl
  case h0 => exact ⟨rfl, Owns.refl (by rintro k (rfl | rfl) <;> omega), bA, bB⟩
  case hround =>
    rintro l n pre p post args own1 W1 hall henc ⟨rfl, ho1, hb1, hb2⟩ hlt hl hnl hll
    unfold encU at henc
    subst henc
    have hpm : p ∈ plansL x := by rw [hall]; simp
    have h160 := HSM.out p hpm
    have hle1 := HLE.out pre (p :: post) hall 45
    have hle2 := HLE.out pre (p :: post) hall 126
    have hs1 := cntL_snoc 45 pre p
    have hs2 := cntL_snoc 126 pre p
    obtain ⟨pl, hpl⟩ : ∃ pl, pl = p.2 := ⟨_, rfl⟩
    rw [← hpl] at h160 hs1 hs2 ⊢
    obtain ⟨k1, hk1⟩ : ∃ k1, pl.count 45 = k1 := ⟨_, rfl⟩
    obtain ⟨k2, hk2⟩ : ∃ k2, pl.count 126 = k2 := ⟨_, rfl⟩
    have hk1l : k1 ≤ 160 := by rw [← hk1]; exact Nat.le_trans List.count_le_length h160
    have hk2l : k2 ≤ 160 := by rw [← hk2]; exact Nat.le_trans List.count_le_length h160
    obtain ⟨S1, hS1⟩ : ∃ S1, S1 = cntL 45 pre := ⟨_, rfl⟩
    obtain ⟨S2, hS2⟩ : ∃ S2, S2 = cntL 126 pre := ⟨_, rfl⟩
    rw [← hS1] at hb1 hle1 hs1
    rw [← hS2] at hb2 hle2 hs2
    rw [hk1] at hs1
    rw [hk2] at hs2
    have HSN := Lib.hid (And.intro hs1 hs2)
    clear hall hpm h160 hpl hS1 hS2 hs1 hs2
    gi_wp2
    refine ⟨Keeps.refl _ _, fun W3 q3 hs3 => ?_⟩
    clear hs3
    have hk13 : Keeps (fun k => w5.heap.size ≤ k ∧ ¬ twoB A (A + 1) k) W1 W3 := q3.mono (fun k e => by obtain rfl : k = l := e; exact ⟨hl, hnl⟩)
    have ho3 := ho1.ahead hk13 (fun i e => e.1)
    have b7 : Blk W3 A #[.int .i64 (S1 : Int)] 3 := hk13.blk hb1 (fun e => by have := e.1; omega)
    have b8 : Blk W3 (A + 1) #[.int .i64 (S2 : Int)] 3 := hk13.blk hb2 (fun e => by have := e.1; omega)
    have HL7 : Hid (∀ W4, Keeps noB W3 W4 → W4.cell? ⟨A, 0, none⟩ = some (.int .i64 (S1 : Int))) := fun W4 q4 => ((q4.blk b7 id).cell 0).trans rfl
    have HC7 : Hid (∀ m W4, Keeps noB W3 W4 → CallsIn F m Try.prog 74 #[.string ⟨pl.toArray⟩, .string ⟨#[45]⟩] W4 (fun e w' => e = .returned (.int .i64 (k1 : Int)) ∧ Keeps noB W3 w')) := fun m W4 q4 => by
      rw [← hk1]
      exact (HN.out m pl 45 W4).mono (fun e w' h => ⟨h.1, by rw [h.2]; exact q4⟩)
    have HO3 := Lib.hid (And.intro ho3 (And.intro b7 b8))
    clear b7 b8 ho3 hk13 q3 ho1 hb1 hb2
    gi_wp2
    refine wpIn_region_tail_class (fun W4 => Keeps noB W3 W4) 3 hro (by kernel_rfl) (by kernel_rfl) (by kernel_rfl) (by kernel_rfl) (by kernel_rfl) (by kernel_rfl) (by decide) (by kernel_rfl) ((Keeps.refl _ _).drew) ?_
    simp only [List.take, List.drop]
    refine quiet_on (Value.int .i64 (S1 : Int)) (fun _ _ f _ => hFf f) rfl (fun W4 q4 => ?_) (fun K hK => ?_)
    · have f0 := HL7.out W4 q4
      go_simp
    go_simp
    refine hK _ ?_
    clear hK K
    refine quiet_on (Value.string ⟨pl.toArray⟩) (fun _ _ f _ => hFf f) rfl (fun W4 q4 => ?_) (fun K hK => ?_)
    · have f0 := HL7.out W4 q4
      go_simp
    go_simp
    refine hK _ ?_
    clear hK K
    refine quiet_on (Value.int .i64 (k1 : Int)) (fun _ _ f _ => hFf f) rfl (fun W4 q4 => ?_) (fun K hK => ?_)
    · have f0 := HL7.out W4 q4
      go_simp
      exact HC7.out _ _ q4
    go_simp
    refine hK _ ?_
    clear hK K
    refine wpQuietIn_nil ?_
    intro W4 q4
    have b7 := q4.blk HO3.out.2.1 id
    have b8 := q4.blk HO3.out.2.2 id
    have r0 := b7.cell 0
    have z0 := b7.free 0
    simp at r0
    have b7' : Blk (W4.setCell ⟨A, 0, none⟩ (.int .i64 ((S1 : Int) + (k1 : Int)))) A #[.int .i64 ((S1 : Int) + (k1 : Int))] 3 := by simpa using b7.set 0 (.int .i64 ((S1 : Int) + (k1 : Int)))
    have b8' := b8.setOther (a := ⟨A, 0, none⟩) (by show A ≠ A + 1; omega) (.int .i64 ((S1 : Int) + (k1 : Int)))
    have q5 : Keeps (twoB A (A + 1)) W3 (W4.setCell ⟨A, 0, none⟩ (.int .i64 ((S1 : Int) + (k1 : Int)))) := (q4.mono (fun _ e => e.elim)).setCell (p := ⟨A, 0, none⟩) (.inl (show twoB A (A + 1) A from .inl rfl)) _
    obtain ⟨W5, hW5⟩ : ∃ W5, W5 = W4.setCell ⟨A, 0, none⟩ (.int .i64 ((S1 : Int) + (k1 : Int))) := ⟨_, rfl⟩
    rw [← hW5] at b7' b8' q5
    have HW5' := Lib.hid hW5
    have HO5 := Lib.hid (And.intro q5 (And.intro b7' b8'))
    have b8 := b8'
    have HL8 : Hid (∀ W4, Keeps noB W5 W4 → W4.cell? ⟨A + 1, 0, none⟩ = some (.int .i64 (S2 : Int))) := fun W4 q4 => ((q4.blk b8 id).cell 0).trans rfl
    have HC8 : Hid (∀ m W4, Keeps noB W5 W4 → CallsIn F m Try.prog 74 #[.string ⟨pl.toArray⟩, .string ⟨#[126]⟩] W4 (fun e w' => e = .returned (.int .i64 (k2 : Int)) ∧ Keeps noB W5 w')) := fun m W4 q4 => by
      rw [← hk2]
      exact (HN.out m pl 126 W4).mono (fun e w' h => ⟨h.1, by rw [h.2]; exact q4⟩)
    clear b7 b8 b7' b8' q5 hW5 q4
    gi_wp2
    rw [← HW5'.out]
    refine wpIn_region_tail_class (fun W4 => Keeps noB W5 W4) 3 hro (by kernel_rfl) (by kernel_rfl) (by kernel_rfl) (by kernel_rfl) (by kernel_rfl) (by kernel_rfl) (by decide) (by kernel_rfl) ((Keeps.refl _ _).drew) ?_
    simp only [List.take, List.drop]
    refine quiet_on (Value.int .i64 (S2 : Int)) (fun _ _ f _ => hFf f) rfl (fun W4 q4 => ?_) (fun K hK => ?_)
    · have f0 := HL8.out W4 q4
      go_simp
    go_simp
    refine hK _ ?_
    clear hK K
    refine quiet_on (Value.string ⟨pl.toArray⟩) (fun _ _ f _ => hFf f) rfl (fun W4 q4 => ?_) (fun K hK => ?_)
    · have f0 := HL8.out W4 q4
      go_simp
    go_simp
    refine hK _ ?_
    clear hK K
    refine quiet_on (Value.int .i64 (k2 : Int)) (fun _ _ f _ => hFf f) rfl (fun W4 q4 => ?_) (fun K hK => ?_)
    · have f0 := HL8.out W4 q4
      go_simp
      exact HC8.out _ _ q4
    go_simp
    refine hK _ ?_
    clear hK K
    refine wpQuietIn_nil ?_
    intro W6 q6
    have b7 := q6.blk HO5.out.2.1 id
    have b8 := q6.blk HO5.out.2.2 id
    have r1 := b8.cell 0
    have z1 := b8.free 0
    simp at r1
    have HE : Hid (∃ own', Owns (twoB A (A + 1)) own' W3 (W6.setCell ⟨A + 1, 0, none⟩ (.int .i64 ((S2 : Int) + (k2 : Int)))) ∧ (own' = twoB A (A + 1) ∧ Owns (twoB A (A + 1)) own' w5 (W6.setCell ⟨A + 1, 0, none⟩ (.int .i64 ((S2 : Int) + (k2 : Int)))) ∧ CntAt A (A + 1) (W6.setCell ⟨A + 1, 0, none⟩ (.int .i64 ((S2 : Int) + (k2 : Int)))) (cntL 45 (pre ++ [p])) (cntL 126 (pre ++ [p])))) := by
      have q7 : Keeps (twoB A (A + 1)) W3 (W6.setCell ⟨A + 1, 0, none⟩ (.int .i64 ((S2 : Int) + (k2 : Int)))) := (HO5.out.1.trans (q6.mono (fun _ e => e.elim))).setCell (p := ⟨A + 1, 0, none⟩) (.inl (show twoB A (A + 1) (A + 1) from .inr rfl)) _
      have o : Owns (twoB A (A + 1)) (twoB A (A + 1)) W3 (W6.setCell ⟨A + 1, 0, none⟩ (.int .i64 ((S2 : Int) + (k2 : Int)))) := ⟨fun k h => .inl h, fun k h => Nat.lt_of_lt_of_le (HO3.out.1.lt k h) q7.size, q7⟩
      refine ⟨_, o, rfl, HO3.out.1.trans o, ?_, ?_⟩
      · rw [HSN.out.1, Int.natCast_add]
        exact b7.setOther (a := ⟨A + 1, 0, none⟩) (by show A + 1 ≠ A; omega) _
      · rw [HSN.out.2, Int.natCast_add]
        simpa using b8.set 0 (.int .i64 ((S2 : Int) + (k2 : Int)))
    clear b7 b8 q6
    gi_wp2
    exact HE.out
  case hdone =>
    rintro D own' W' hb ⟨rfl, ho, h4, h5⟩
    have hn := hb.new
    have r0 := h4.cell 0
    have r1 := h5.cell 0
    simp at r0 r1
    have HD := Lib.hid hb.none
    have HE : Hid (∀ W2, Keeps (fun k => k ∈ [D]) W' W2 → Keeps noB w W2) := fun W2 q2 => by
      have h1 := HQ1.out
      exact (h1.1.transNew ho.keeps (fun i hi e => by rcases e with e | e <;> omega)).transNew q2 (fun i hi e => by simp at e; omega)
    have HL9 : Hid (∀ W4, Keeps noB W' W4 → W4.cell? ⟨A, 0, none⟩ = some (.int .i64 (cntL 45 (plansL x) : Int)) ∧ W4.cell? ⟨A + 1, 0, none⟩ = some (.int .i64 (cntL 126 (plansL x) : Int))) := fun W4 q4 => ⟨((q4.blk h4 id).cell 0).trans rfl, ((q4.blk h5 id).cell 0).trans rfl⟩
    have HDD : Hid (∀ W4, Keeps noB W' W4 → W4.heap[D]? = some (.deferred (some []))) := fun W4 q4 => (q4.block D (Array.getElem?_eq_some_iff.1 hb.none).1 id).trans hb.none
    clear h4 h5 hb ho
    dsimp only
    gi_wp2
    refine wpIn_region_tail_plain (fun W4 => Keeps noB W' W4) 5 hro (by kernel_rfl) (by kernel_rfl) (by kernel_rfl) (by kernel_rfl) (by kernel_rfl) (by kernel_rfl) (by decide) (by kernel_rfl) ((Keeps.refl _ _).drew) ?_
    simp only [List.take, List.drop]
    refine quiet_on (Value.int .i64 (cntL 45 (plansL x) : Int)) (fun _ _ f _ => hFf f) rfl (fun W4 q4 => ?_) (fun K hK => ?_)
    · obtain ⟨f0, f1⟩ := HL9.out W4 q4
      go_simp
    go_simp
    refine hK _ ?_
    clear hK K
    refine quiet_on (Value.int .i64 (cntL 126 (plansL x) : Int)) (fun _ _ f _ => hFf f) rfl (fun W4 q4 => ?_) (fun K hK => ?_)
    · obtain ⟨f0, f1⟩ := HL9.out W4 q4
      go_simp
    go_simp
    refine hK _ ?_
    clear hK K
    refine quiet_on (Value.int .i64 (cntL 45 (plansL x) : Int)) (fun _ _ f _ => hFf f) rfl (fun W4 q4 => ?_) (fun K hK => ?_)
    · obtain ⟨f0, f1⟩ := HL9.out W4 q4
      go_simp
    go_simp
    refine hK _ ?_
    clear hK K
    refine quiet_on (Value.int .i64 (cntL 126 (plansL x) : Int)) (fun _ _ f _ => hFf f) rfl (fun W4 q4 => ?_) (fun K hK => ?_)
    · obtain ⟨f0, f1⟩ := HL9.out W4 q4
      go_simp
    go_simp
    refine hK _ ?_
    clear hK K
    refine quiet_on (Value.bool true) (fun _ _ f _ => hFf f) rfl (fun W4 q4 => ?_) (fun K hK => ?_)
    · obtain ⟨f0, f1⟩ := HL9.out W4 q4
      go_simp
    go_simp
    refine hK _ ?_
    clear hK K
    refine wpQuietIn_nil ?_
    intro W4 q4
    gi_wp2
    refine leaves_marks [D] _ (by simp) (fun D' hD' => by simp at hD'; subst hD'; exact HDD.out W4 q4) (fun W2 q _ => ?_)
    refine ⟨_, resCount W2 _ _ _ _ rfl rfl rfl, rfl, ?_⟩
    refine HE.out W2 ((q4.mono (fun _ e => e.elim)).trans q)
  case hstop => intro D c pre post own' W' _ _ h; exact h.elim

theorem count5_any (s : ByteArray) (hs : s.size ≤ 1048576) (w : World) : Calls Try.prog 43 #[.string s] w (CountPost (countedP s) w) := by
  unfold countedP
  cases hp : progP s with
  | none => exact count5_none s hs hp w
  | some x => exact count5_some s hs x hp w

end Go.Proofs.Ytelefbdgeefcbaa

namespace Go.Proofs.Ytelefbdgeefcbaa
set_option linter.unusedVariables false
set_option linter.unusedSimpArgs false
open Go.RowKit

/-! ### plans as pairs -/
def pairB (p : Bool × UInt8) : List UInt8 := [if p.1 then 45 else 126, p.2]
theorem pairs_part (k : Kn) : ∀ l : List UInt8, (∀ v ∈ l, ltr v) → ∃ ps : List (Bool × UInt8), l.flatMap (partK k) = ps.flatMap pairB ∧ (∀ p ∈ ps, ltr p.2) ∧ ps.length ≤ l.length
  | [], _ => ⟨[], rfl, fun p h => (by cases h), Nat.le_refl _⟩
  | v :: r, h => by
    obtain ⟨ps, h1, h2, h3⟩ := pairs_part k r (fun u hu => h u (List.mem_cons_of_mem _ hu))
    have hv := h v (by simp)
    rw [List.flatMap_cons, h1]
    unfold partK
    split
    · exact ⟨(true, v) :: ps, by rw [List.flatMap_cons]; rfl, fun p hp => by rcases List.mem_cons.1 hp with rfl | hp; exact hv; exact h2 p hp, by simp; omega⟩
    · split
      · exact ⟨(false, v) :: ps, by rw [List.flatMap_cons]; rfl, fun p hp => by rcases List.mem_cons.1 hp with rfl | hp; exact hv; exact h2 p hp, by simp; omega⟩
      · exact ⟨ps, rfl, h2, by simp; omega⟩
theorem pairs_plan (k : Kn) (vs : List UInt8) (hv : ∀ v ∈ vs, ltr v) : ∃ ps : List (Bool × UInt8), planK k vs = ps.flatMap pairB ∧ (∀ p ∈ ps, ltr p.2) ∧ ps.length ≤ vs.length := by
  by_cases h : k = Kn.no
  · exact ⟨[], by unfold planK; rw [if_pos h]; rfl, fun p hp => (by cases hp), Nat.zero_le _⟩
  · rw [planK_part h]
    obtain ⟨ps, h1, h2, h3⟩ := pairs_part k vs.reverse (fun v h => hv v (List.mem_reverse.1 h))
    exact ⟨ps, h1, h2, by rw [List.length_reverse] at h3; exact h3⟩
theorem pairs_len : ∀ ps : List (Bool × UInt8), (ps.flatMap pairB).length = 2 * ps.length
  | [] => rfl
  | p :: r => by rw [List.flatMap_cons, List.length_append, pairs_len r, List.length_cons]; simp [pairB]; omega
theorem pairs_get : ∀ (d r : List (Bool × UInt8)) (p : Bool × UInt8), ((d ++ p :: r).flatMap pairB)[2 * d.length]? = some (if p.1 then 45 else 126)
  | [], r, p => by simp [pairB]
  | q :: d, r, p => by
    have h := pairs_get d r p
    rw [List.cons_append, List.flatMap_cons, List.getElem?_append_right (by simp [pairB]; omega)]
    have e : 2 * (q :: d).length - (pairB q).length = 2 * d.length := by simp [pairB]; omega
    rw [e]; exact h
theorem ltr_ne {v : UInt8} (h : ltr v) : v ≠ 45 ∧ v ≠ 126 := by
  obtain ⟨h1, h2⟩ := h
  refine ⟨fun e => ?_, fun e => ?_⟩ <;> (rw [e] at h1 h2; revert h1 h2; decide)
theorem pairs_count : ∀ ps : List (Bool × UInt8), (∀ p ∈ ps, ltr p.2) → (ps.flatMap pairB).count 45 = ps.countP (fun p => p.1) ∧ (ps.flatMap pairB).count 126 = ps.countP (fun p => !p.1)
  | [], _ => ⟨rfl, rfl⟩
  | p :: r, h => by
    obtain ⟨h1, h2⟩ := pairs_count r (fun q hq => h q (List.mem_cons_of_mem _ hq))
    obtain ⟨n1, n2⟩ := ltr_ne (h p (by simp))
    rw [List.flatMap_cons, List.count_append, List.count_append, h1, h2, List.countP_cons, List.countP_cons]
    obtain ⟨b, v⟩ := p
    have n1 : v ≠ 45 := n1
    have n2 : v ≠ 126 := n2
    cases b with
    | true => simp [pairB, List.count_cons, n1, n2]; omega
    | false => simp [pairB, List.count_cons, n1, n2]; omega

theorem resSCount (W : World) (a b c : Value) (tmps : Array Value) (h2 : tmps.getD 2 undef = a) (h3 : tmps.getD 3 undef = b) (h4 : tmps.getD 4 undef = c) : (results Try.f42 tmps).run Try.prog W = .ok (.tuple #[a, b, c]) W := by
  have h2' : tmps[2]?.getD undef = a := by simpa using h2
  have h3' : tmps[3]?.getD undef = b := by simpa using h3
  have h4' : tmps[4]?.getD undef = c := by simpa using h4
  simp [results, Try.results42, go_sem, h2', h3', h4']

/-- What the loops of CountPlanned hold. -/
def CtAt (w2 : World) (x : Nd) (vs vm vi : Value) (wr : World) : Prop :=
  ∃ (done todo : List Pt), x.pts = done ++ todo ∧ vi = .int .i64 done.length ∧ vs = .int .i64 (cntU x 45 done : Int) ∧ vm = .int .i64 (cntU x 126 done : Int) ∧ wr = w2
def PrAt (w2 : World) (ps : List (Bool × UInt8)) (S M : Nat) (vs vm vi : Value) (wr : World) : Prop :=
  ∃ (d r : List (Bool × UInt8)) (i a b : Nat), ps = d ++ r ∧ i = 2 * d.length ∧ a = S + d.countP (fun p => p.1) ∧ b = M + d.countP (fun p => !p.1) ∧ vi = .int .i64 (i : Int) ∧ vs = .int .i64 (a : Int) ∧ vm = .int .i64 (b : Int) ∧ wr = w2

set_option maxRecDepth 100000 in
set_option maxHeartbeats 4000000 in
theorem scount5_none (s : ByteArray) (hs : s.size ≤ 1048576) (hp : progP s = none) (w : World) : Calls Try.prog 42 #[.string s] w (CountPost none w) := by
  have H := Lib.hid (seach5_none s hs hp w)
  have HV := Lib.hid (fun w => specValid s hs w)
  rw [hp] at HV
  clear hp
  go_enter Try.func42, Try.ntmps42
  go_wp2_with fail
  refine H.out.mono ?_
  rintro e w2 ⟨v1, v2, v3, n, c1, c2, c3, rfl, hr1, hr2, hr3, q2, rfl⟩
  obtain ⟨a1, k1, rfl⟩ := row_shape hr1
  obtain ⟨a2, k2, rfl⟩ := row_shape hr2
  obtain ⟨a3, k3, rfl⟩ := row_shape hr3
  have HQ := Lib.hid q2
  clear hr1 hr2 hr3 q2
  go_upto_region 4 with fail
  go_loopw [5, 6, 21] (fun vs vm vi wr => vs = .int .i64 0 ∧ vm = .int .i64 0 ∧ vi = .int .i64 0 ∧ wr = w2) (fun _ _ _ _ => 0)
  case atStart => exact ⟨rfl, rfl, rfl, rfl⟩
  case round =>
    obtain ⟨rfl, rfl, rfl, rfl⟩ := hrel
    go_wp2_with (go_at_call 17; refine (HV.out _).mono ?_; rintro e3 w3 ⟨rfl, q3⟩; have HK := Lib.hid (HQ.out.trans q3); clear q3)
    exact bodyPost_ret (resSCount _ _ _ _ _ rfl rfl rfl) rfl ⟨rfl, HK.out⟩

set_option maxRecDepth 100000 in
set_option maxHeartbeats 4000000 in
theorem scount5_some (s : ByteArray) (hs : s.size ≤ 1048576) (x : Nd) (hp : progP s = some x) (w : World) : Calls Try.prog 42 #[.string s] w (CountPost (some (cntL 45 (plansL x), cntL 126 (plansL x))) w) := by
  have H := Lib.hid (seach5_some s hs x hp w)
  have HV := Lib.hid (fun w => specValid s hs w)
  rw [hp] at HV
  rw [cnt_same, cnt_same]
  have HF := Lib.hid (pts_few hp)
  have HLE : Hid (∀ pre post, x.pts = pre ++ post → ∀ c, cntU x c pre ≤ 12960) := fun pre post h c => cntU_le hp h c
  have HPR : Hid (∀ p ∈ x.pts, ∃ ps : List (Bool × UInt8), planK (knownJ x p.1) p.2 = ps.flatMap pairB ∧ (∀ q ∈ ps, ltr q.2) ∧ ps.length ≤ 80) := fun p hm => by
    obtain ⟨h1, h2, _⟩ := progP_pts hp p hm
    obtain ⟨ps, g1, g2, g3⟩ := pairs_plan (knownJ x p.1) p.2 h1
    exact ⟨ps, g1, g2, by omega⟩
  have hpos : 0 < x.pts.length := by rw [Nd.pts_eq]; simp
  clear hp
  go_enter Try.func42, Try.ntmps42
  go_wp2_with fail
  refine H.out.mono ?_
  rintro e w2 ⟨v1, v2, v3, n, c1, c2, c3, rfl, hr1, hr2, hr3, q2, hn, hc1, hc2, hc3⟩
  obtain ⟨a1, k1, rfl⟩ := row_shape hr1
  obtain ⟨g2, k2, rfl, hb2, hg2, hcell2⟩ := row_get hr2 (by omega)
  obtain ⟨a3, k3, rfl⟩ := row_shape hr3
  have HW : Hid (Keeps noB w w2 ∧ n = x.pts.length ∧ ∀ j u, (plC x x.pts)[j]? = some u → w2.cell? ⟨g2, j, none⟩ = some u) := ⟨q2, hn, by rw [← hc2]; exact hcell2⟩
  have hn81 : n ≤ 81 := by have := HF.out; omega
  clear hr1 hr2 hr3 q2 hn hc1 hc2 hc3 hcell2 hg2 hb2
  go_upto_region 4 with fail
  go_loopw [5, 6, 21] (fun vs vm vi wr => CtAt w2 x vs vm vi wr) (fun _ _ vi _ => n - (intOf vi).toNat)
  case atStart => exact ⟨[], x.pts, rfl, rfl, rfl, rfl, rfl⟩
  case round =>
    obtain ⟨done, todo, hpt, rfl, rfl, rfl, rfl⟩ := hrel
    have hpl := congrArg List.length hpt
    rw [List.length_append, ← HW.out.2.1] at hpl
    cases todo with
    | nil =>
      have hd : ¬ done.length < n := by simp at hpl; omega
      rw [List.append_nil] at hpt
      have HPT := Lib.hid hpt
      clear hpt hpl
      go_wp2_with (go_at_call 17; refine (HV.out _).mono ?_; rintro e3 w3 ⟨rfl, q3⟩; have HK := Lib.hid (HW.out.1.trans q3); clear q3)
      refine bodyPost_ret (resSCount _ _ _ _ _ rfl rfl rfl) rfl ⟨?_, HK.out⟩
      show Ending.returned (.tuple #[.int .i64 (cntU x 45 done : Int), .int .i64 (cntU x 126 done : Int), .bool true]) = .returned (.tuple #[.int .i64 (cntU x 45 x.pts : Int), .int .i64 (cntU x 126 x.pts : Int), .bool true])
      rw [HPT.out]
    | cons p todo =>
      obtain ⟨wO, rfl⟩ : ∃ w', w' = wr := ⟨_, rfl⟩
      have hd : done.length < n := by simp at hpl; omega
      have hpm : p ∈ x.pts := by rw [hpt]; simp
      obtain ⟨ps, hps, hlt, hpl80⟩ := HPR.out p hpm
      obtain ⟨hcnt1, hcnt2⟩ := pairs_count ps hlt
      obtain ⟨l, hl⟩ : ∃ l, l = ps.flatMap pairB := ⟨_, rfl⟩
      obtain ⟨sv, hsv⟩ : ∃ sv : ByteArray, sv = ⟨l.toArray⟩ := ⟨_, rfl⟩
      have s2 : wO.cell? ⟨g2, done.length, none⟩ = some (.string sv) := HW.out.2.2 _ _ (by rw [hpt, hsv, hl, ← hps]; simp [plC])
      have hsz : sv.size = 2 * ps.length := by rw [hsv, size_arr, hl, pairs_len]
      have HGET : Hid (∀ (i : Nat) (hi : i < sv.size), l[i]? = some sv[i]) := fun i hi => by
        subst hsv
        rw [List.getElem?_eq_getElem (by rw [size_arr] at hi; exact hi)]
        rfl
      have hS := HLE.out done (p :: todo) hpt 45
      have hM := HLE.out done (p :: todo) hpt 126
      have hu1 := cntU_snoc x 45 done p
      have hu2 := cntU_snoc x 126 done p
      rw [hps, hcnt1] at hu1
      rw [hps, hcnt2] at hu2
      obtain ⟨S, hS0⟩ : ∃ S, S = cntU x 45 done := ⟨_, rfl⟩
      obtain ⟨M, hM0⟩ : ∃ M, M = cntU x 126 done := ⟨_, rfl⟩
      rw [← hS0] at hS hu1 ⊢
      rw [← hM0] at hM hu2 ⊢
      have HNX : Hid (∀ a b : Nat, a = S + ps.countP (fun p => p.1) → b = M + ps.countP (fun p => !p.1) → CtAt wO x (.int .i64 (a : Int)) (.int .i64 (b : Int)) (.int .i64 ((done.length + 1 : Nat) : Int)) wO) := fun a b ha hb =>
        ⟨done ++ [p], todo, by rw [hpt]; simp, by simp, by rw [hu1, ha], by rw [hu2, hb], rfl⟩
      have HP0 : Hid (PrAt wO ps S M (.int .i64 (S : Int)) (.int .i64 (M : Int)) (.int .i64 0) wO) := ⟨[], ps, 0, S, M, rfl, rfl, rfl, rfl, rfl, rfl, rfl, rfl⟩
      have HL := Lib.hid hl
      have HSZ := Lib.hid hsz
      have hsz160 : sv.size ≤ 160 := by omega
      have HDN := Lib.hid hd
      clear hpt hpl hpm hps hlt hcnt1 hcnt2 hl hsv hu1 hu2 hS0 hM0 hsz
      go_upto_region 7 with fail
      go_loopw [5, 6, 12] (fun vs vm vi W => PrAt wO ps S M vs vm vi W) (fun _ _ vi _ => sv.size - (intOf vi).toNat)
      case atStart => exact HP0.out
      case round =>
        clear HP0
        obtain ⟨d, r, i, a, b, hdr, hi, ha, hb, rfl, rfl, rfl, hwr⟩ := hrel
        subst hwr
        have hdl := congrArg List.length hdr
        rw [List.length_append] at hdl
        have hda : d.countP (fun p => p.1) ≤ d.length := List.countP_le_length
        have hdb : d.countP (fun p => !p.1) ≤ d.length := List.countP_le_length
        have ha2 : a ≤ 13040 := by omega
        have hb2 : b ≤ 13040 := by omega
        cases r with
        | nil =>
          have hend : ¬ i < sv.size := by have := HSZ.out; simp at hdl; omega
          rw [List.append_nil] at hdr
          have HN := Lib.hid (HNX.out a b (by rw [hdr]; exact ha) (by rw [hdr]; exact hb))
          clear hdr hi ha hb hda hdb hdl
          go_wp2_with fail
          go_roundw
          case rel => exact HN.out
          case measure => simp [intOf]; omega
        | cons q r =>
          have hin : i < sv.size := by have := HSZ.out; simp at hdl; omega
          have hget := HGET.out i hin
          have e1 : l[i]? = some (if q.1 then 45 else 126) := by rw [HL.out, hdr, hi]; exact pairs_get d r q
          rw [e1] at hget
          injection hget with hget
          have hi1 : (i : Int) < (sv.size : Int) := by omega
          have hi160 : i ≤ 160 := by omega
          have HN : Hid (∀ a' b' : Nat, a' = S + (d ++ [q]).countP (fun p => p.1) → b' = M + (d ++ [q]).countP (fun p => !p.1) → PrAt wr ps S M (.int .i64 (a' : Int)) (.int .i64 (b' : Int)) (.int .i64 ((i + 2 : Nat) : Int)) wr) := fun a' b' h1 h2 =>
            ⟨d ++ [q], r, i + 2, a', b', by rw [hdr]; simp, by simp; omega, h1, h2, rfl, rfl, rfl, rfl⟩
          have hbyte : sv[i] = if q.1 then 45 else 126 := hget.symm
          cases hq : q.1 with
          | true =>
            rw [hq] at hbyte
            have hb1 : ((sv[i].toNat : Int) == 45) = true := by rw [hbyte]; rfl
            have HE := Lib.hid (HN.out (a + 1) b (by rw [List.countP_append, ha]; simp [hq]; omega) (by rw [List.countP_append, hb]; simp [hq]))
            clear hdr hi ha hb hda hdb hdl hget hbyte HN hq e1
            go_wp2_with fail
            exact ⟨HE.out, by simp [intOf]; omega⟩
          | false =>
            rw [hq] at hbyte
            have hb1 : ((sv[i].toNat : Int) == 45) = false := by rw [hbyte]; rfl
            have HE := Lib.hid (HN.out a (b + 1) (by rw [List.countP_append, ha]; simp [hq]) (by rw [List.countP_append, hb]; simp [hq]; omega))
            clear hdr hi ha hb hda hdb hdl hget hbyte HN hq e1
            go_wp2_with fail
            exact ⟨HE.out, by simp [intOf]; omega⟩

theorem scount5_any (s : ByteArray) (hs : s.size ≤ 1048576) (w : World) : Calls Try.prog 42 #[.string s] w (CountPost (countedP s) w) := by
  unfold countedP
  cases hp : progP s with
  | none => exact scount5_none s hs hp w
  | some x => exact scount5_some s hs x hp w

end Go.Proofs.Ytelefbdgeefcbaa
