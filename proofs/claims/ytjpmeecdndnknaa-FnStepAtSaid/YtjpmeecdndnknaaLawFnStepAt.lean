/-
  'laws.FnStepAt' is proved true for every input: at whatever text and place are drawn, the program's StepAt and InScope answer as the model's do, CountSteps as the model's, and a step begins where the list of the steps says, and nowhere else.
  Conditions: none of its own. How: the drawers are shown to return, with a text of bounded length, and to write into nothing but what they made; both sides are shown to answer as one plain function of the text's grammar does.
-/
import Derived.Test.YtjpmeecdndnknaaRows
import Derived.Test.YtjpmeecdndnknaaGh
import Derived.WalkKit
import Derived.ProofKit
import Derived.OpenShut
import Derived.Carry
import Derived.ChangeSlices
namespace Go.Proofs.Ytjpmeecdndnknaa.fnStepAt
set_option linter.unusedSimpArgs false
open Go.ChangeShapes Go.WideShapes Go.ChangeAt Go.RowKit
set_option linter.unusedVariables false

theorem own : ownKnob Try.prog.godebug = none := by kernel_rfl
theorem laidOut : laidOutB Try.prog = true := by kernel_rfl

/-! ### The arguments. -/
set_option maxRecDepth 100000 in
/-- What an argument is. -/
theorem arg_of {H : Type} {enc : TypeId × Value → H} {W : World} {b0 : Nat} {v : Value} {d : DataW H} {p : List MemPlace} (hv : Value.okWide Try.prog W .any b0 22 v)
    (h : DataW.Trod enc Try.prog W 0 (fun _ => true) true 22 v d p) (hlt : ∀ x ∈ p, x.block < W.heap.size) :
    ∃ q n c, v = .slice q n c ∧ n ≤ maxLen ∧ ArgB W.heap.size W (.slice q n c) n := by
  obtain ⟨fuel, hf⟩ := h
  obtain ⟨a0, len, cap, rfl⟩ := Go.WideShapes.okWide_slice Try.underlying22 hv
  have hc : Try.prog.cellsOf 5 = 1 := by kernel_rfl
  rcases Go.ChangeShapes.open_ints Try.underlying22 Try.underlying5 hc hf with ⟨hcs, hx⟩ | ⟨a, len', cap', zs, hcs, _, hl, hm, hz, hx, hcell, hwz⟩
  · simp [Value.cells] at hcs
    obtain ⟨rfl, rfl, rfl⟩ := hcs
    exact ⟨none, 0, 0, rfl, Nat.zero_le _, none, 0, rfl, Nat.le_refl _, fun i hi => absurd hi (Nat.not_lt_zero _)⟩
  · simp [Value.cells] at hcs
    obtain ⟨rfl, rfl, rfl⟩ := hcs
    simp only [Prod.mk.injEq] at hx
    obtain ⟨rfl, rfl⟩ := hx
    simp only [if_true] at hz
    refine ⟨some a, len, cap, rfl, by omega, some a, cap, rfl, hl, fun i hi => ?_⟩
    obtain ⟨b, off, rfl, hcl⟩ := ints_at hcell (by omega)
    have hb : 0 ≤ zs.getD i 0 ∧ zs.getD i 0 ≤ 255 := by rw [List.getD_eq_getElem?_getD]; exact range_u8 hwz i
    refine ⟨b, off, (zs.getD i 0).toNat, rfl, ?_, ?_, ?_⟩
    · exact hlt (.cell b off) (MemPlace.mem_row.2 ⟨0, by omega, by simp⟩)
    · rw [hcl i (by omega), Int.toNat_of_nonneg hb.1]
    · omega

/-! ### The walk. -/
theorem and_yes {B I : Bool} (h : true = (B && I)) : B = true ∧ I = true := by cases B <;> cases I <;> first | exact ⟨rfl, rfl⟩ | cases h
theorem and_no {B I : Bool} (h : false = (B && I)) : B = false ∨ (B = true ∧ I = false) := by cases B <;> cases I <;> first | exact .inl rfl | exact .inr ⟨rfl, rfl⟩ | cases h

/-- What the loop over the steps holds. -/
def InAt (zs : List Nat) (z : Int) (w : World) (vb vi : Value) (wr : World) : Prop :=
  ∃ i : Nat, i ≤ zs.length ∧ vi = .int .i64 (i : Int) ∧ vb = .bool ((zs.take i).any (fun k => (k : Int) == z)) ∧ Keeps noB w wr

set_option maxRecDepth 100000 in
set_option maxHeartbeats 8000000 in
theorem walk (p1 p2 : Option Addr) (n1 n2 c1 c2 : Nat) (hm1 : n1 ≤ maxLen) (hm2 : n2 ≤ maxLen) (w : World) (ha1 : ArgB w.heap.size w (.slice p1 n1 c1) n1) (ha2 : ArgB w.heap.size w (.slice p2 n2 c2) n2) :
    Calls Try.prog 4 #[.slice p1 n1 c1, .slice p2 n2 c2] w fun e w' => e = .returned (.bool true) ∧ Keeps noB w w' := by
  have hn1 : n1 ≤ 9223372036854775807 := by unfold maxLen at hm1; omega
  have hn2 : n2 ≤ 9223372036854775807 := by unfold maxLen at hm2; omega
  by_cases hlong : 1048576 < n1
  · have hz : (1048576 : Int) < (n1 : Int) := by omega
    clear ha1 ha2
    go_enter Try.func4, Try.ntmps4
    go_wp2_with fail
    go_ret
    exact ⟨rfl, Keeps.refl _ _⟩
  have hz : ¬ (1048576 : Int) < (n1 : Int) := by omega
  by_cases hlong2 : 1048576 < n2
  · have hz2 : (1048576 : Int) < (n2 : Int) := by omega
    clear ha1 ha2
    go_enter Try.func4, Try.ntmps4
    go_wp2_with fail
    go_ret
    exact ⟨rfl, Keeps.refl _ _⟩
  have hz2 : ¬ (1048576 : Int) < (n2 : Int) := by omega
  have HD1 := Lib.hid (drawStepAt_any (.slice p1 n1 c1) n1 w ha1 (by omega))
  have HD2 := Lib.hid (fun W (q : Keeps noB w W) => drawCount_any (.slice p2 n2 c2) n2 W (ha2.at q) (by omega))
  clear ha1 ha2
  go_enter Try.func4, Try.ntmps4
  go_wp2_with fail
  refine HD1.out.mono ?_
  rintro e w1 ⟨s, z, rfl, hs, q1⟩
  have J1 := Lib.hid q1
  obtain ⟨X, Y, R, hR0, hR, k1, k2, k3, k4⟩ := place_ends s (by omega) z
  have H1 := Lib.hid k1
  have H2 := Lib.hid k2
  have H3 := Lib.hid k3
  have H4 := Lib.hid k4
  have H5 := Lib.hid (steps_ends s (by omega))
  have HR := Lib.hid (And.intro hR0 hR)
  have hzl := begs_len s
  unfold inP at HR
  generalize begsP s = zs at *
  generalize (progP s).isSome = B at *
  clear q1 hR0 hR k1 k2 k3 k4 HD1
  go_wp2_with fail
  refine (H1.out _).mono ?_
  rintro e w2 ⟨rfl, q⟩
  have J2 := Lib.hid (J1.out.trans q)
  clear q H1
  go_wp2_with fail
  refine (H2.out _).mono ?_
  rintro e w3 ⟨rfl, q⟩
  have J3 := Lib.hid (J2.out.trans q)
  clear q H2
  go_wp2_with fail
  refine (H3.out _).mono ?_
  rintro e w4 ⟨rfl, q⟩
  have J4 := Lib.hid (J3.out.trans q)
  clear q H3
  go_wp2_with fail
  refine (H4.out _).mono ?_
  rintro e w5 ⟨rfl, q⟩
  have J5 := Lib.hid (J4.out.trans q)
  clear q H4
  go_wp2_with fail
  refine (HD2.out _ J5.out).mono ?_
  rintro e w6 ⟨t, kd, rfl, ht, hkd, q⟩
  have J6 := Lib.hid (J5.out.trans q)
  have HC1 := Lib.hid (fun W => count_any t kd (by omega) (by omega) W)
  have HC2 := Lib.hid (fun W => scount_any t kd (by omega) W)
  obtain ⟨m, hmc⟩ : ∃ m, countP t kd = m := ⟨_, rfl⟩
  rw [hmc] at HC1 HC2
  clear q HD2 hmc
  go_wp2_with fail
  refine (H5.out _).mono ?_
  rintro e w7 ⟨a, c, rfl, hrow, q⟩
  have J7 := Lib.hid (J6.out.trans q)
  have HROW : Hid (∀ (j k : Nat), zs[j]? = some k → ∃ b', a = some ⟨b', 0, none⟩ ∧ zs.length ≤ c ∧ ∀ W', Keeps noB w7 W' → W'.cell? ⟨b', j, none⟩ = some (.int .i64 (k : Int))) := Lib.hid (fun j k hj => by
    have hjl : j < zs.length := by
      by_cases h : j < zs.length
      · exact h
      · rw [List.getElem?_eq_none (by omega)] at hj; cases hj
    obtain ⟨b', c', e, hok, hlt, hcell⟩ := row_get hrow (by omega)
    simp only [Value.slice.injEq, true_and] at e
    obtain ⟨rfl, rfl⟩ := e
    exact ⟨b', rfl, dcap_ok hrow, fun W' q' => (q'.cell (p := ⟨b', j, none⟩) hlt id).trans (hcell j _ (by rw [List.getElem?_map, hj]; rfl))⟩)
  have HP : Hid (InAt zs z w7 (.bool false) (.int .i64 0) w7) := Lib.hid ⟨0, Nat.zero_le _, rfl, rfl, Keeps.refl _ _⟩
  obtain ⟨n, hN⟩ : ∃ n, zs.length = n := ⟨_, rfl⟩
  have HN := Lib.hid hN
  have hn80 : (n : Int) ≤ 80 := by omega
  rw [hN]
  clear hrow q H5 hN hzl
  go_wp2_with fail
  go_loopw [19, 71] (fun vb vi wr => InAt zs z w7 vb vi wr) (fun _ vi _ => n - (intOf vi).toNat)
  case atStart => exact HP.out
  case round =>
    clear HP
    obtain ⟨i, hin, rfl, rfl, q⟩ := hrel
    rw [HN.out] at hin
    by_cases hlt : i < n
    · obtain ⟨k, hk⟩ : ∃ k, zs[i]? = some k := ⟨_, List.getElem?_eq_getElem (by rw [HN.out]; exact hlt)⟩
      obtain ⟨b', rfl, hc, hcell⟩ := HROW.out i k hk
      rw [HN.out] at hc
      have hc := hcell _ q
      have hi1 : (i : Int) < (n : Int) := by omega
      have hi2 : (n : Int) ≤ (c : Int) := by omega
      have HNX : Hid (∀ b : Bool, b = ((zs.take i).any (fun k => (k : Int) == z) || ((k : Int) == z)) → InAt zs z w7 (.bool b) (.int .i64 ((i : Int) + 1)) wr) := Lib.hid (fun b hb => ⟨i + 1, by rw [HN.out]; exact hlt, rfl, by rw [hb, any_take hk], q⟩)
      generalize (zs.take i).any (fun k => (k : Int) == z) = P at *
      clear hcell q hk
      cases P with
      | true =>
        have HE := Lib.hid (HNX.out true (by simp))
        clear HNX
        go_wp2_with fail
        go_roundw
        case rel => exact HE.out
        case measure => simp [intOf]; omega
      | false =>
        by_cases hkz : (k : Int) = z
        · have HE := Lib.hid (HNX.out true (by simp [hkz]))
          have hkb : ((k : Int) == z) = true := by simpa using hkz
          clear HNX hkz
          go_wp2_with fail
          go_roundw
          case rel => exact HE.out
          case measure => simp [intOf]; omega
        · have HE := Lib.hid (HNX.out false (by simp [hkz]))
          have hkb : ((k : Int) == z) = false := by simpa using hkz
          clear HNX
          go_wp2_with fail
          go_roundw
          case rel => exact HE.out
          case measure => simp [intOf]; omega
    · have hi1 : ¬ (i : Int) < (n : Int) := by omega
      have e : zs.take i = zs := List.take_of_length_le (by rw [HN.out]; omega)
      rw [e]
      have HQ := Lib.hid (J7.out.trans q)
      clear q HROW e
      generalize zs.any (fun k => (k : Int) == z) = I at *
      have hXX : (X.toList == X.toList) = true := by simp
      have hYY : (Y.toList == Y.toList) = true := by simp
      obtain ⟨h0, h1⟩ := HR.out
      have HX := Lib.hid h0
      clear HR h0
      cases R with
      | true =>
        obtain ⟨rfl, rfl⟩ := and_yes h1
        clear h1 HX
        go_wp2_with fail
        refine (HC1.out _).mono ?_
        rintro e w8 ⟨rfl, q8⟩
        go_wp2_with fail
        refine (HC2.out _).mono ?_
        rintro e w9 ⟨rfl, q9⟩
        have HE := Lib.hid ((HQ.out.trans q8).trans q9)
        clear q8 q9
        go_wp2_with fail
        go_ret
        exact ⟨rfl, HE.out⟩
      | false =>
        obtain ⟨rfl, rfl⟩ := HX.out rfl
        clear HX hXX hYY
        have h2 := and_no h1
        clear h1
        rcases h2 with rfl | ⟨rfl, rfl⟩
        all_goals
          go_wp2_with fail
          refine (HC1.out _).mono ?_
          rintro e w8 ⟨rfl, q8⟩
          go_wp2_with fail
          refine (HC2.out _).mono ?_
          rintro e w9 ⟨rfl, q9⟩
          have HE := Lib.hid ((HQ.out.trans q8).trans q9)
          clear q8 q9
          go_wp2_with fail
          go_ret
          exact ⟨rfl, HE.out⟩

/-! ### The row. -/
set_option maxRecDepth 100000 in
theorem lifted (os : Os) (started : os.Started) (H : Type) (enc : TypeId × Value → H) :
    ReturnsInHanded {} Try.checked os 4 .any (Rows.fnStepAtSpec.pre6 enc Try.prog Try.f4 Rows.fnStepAtRow.domain false) (Rows.fnStepAtSpec.post enc Try.prog Try.f4 false true false false) := by
  refine returnsInHanded_of_change (C := Try.checked) own started (by kernel_rfl) Try.func4
    (ChangeSpec.witness6 (enc := enc) (C := Try.checked) false ⟨#[], #[.slice none 0 0, .slice none 0 0], []⟩ 8 (by kernel_rfl) (by kernel_rfl) (by kernel_rfl) (by kernel_rfl)) ?_
  intro W base args ds gs before hval0 hW hcnd _
  have hval : ∀ (j : Nat) t v, Try.f4.params[j]? = some t → args[j]? = some v → Value.okWide Try.prog W .any base t v := hval0
  have hW' := hW
  obtain ⟨p, q, hA0, hV, rfl, hfz, hnd⟩ := hW
  have hA : DataW.TrodAll enc Try.prog W 0 (fun _ => true) true Try.f4.params.toList args.toList ds p := hA0
  rw [Try.params4] at hA hval
  obtain ⟨v0, vs0, d0, ds0, p0, q0, hargs, rfl, rfl, h0, r0⟩ := trodAll_cons hA
  obtain ⟨v1, vs1, d1, ds1, p1, q1, hargs1, rfl, rfl, h1, r1⟩ := trodAll_cons r0
  obtain ⟨rfl, rfl, rfl⟩ := trodAll_nil r1
  obtain rfl : args = #[v0, v1] := by cases args; simp_all
  obtain ⟨rfl, rfl⟩ := trodVars_none hV
  simp only [List.append_nil] at hW'
  have hlt0 : ∀ x ∈ p0, x.block < W.heap.size := fun x hx => by simpa using hW'.lt x (by simp [hx])
  have hlt1 : ∀ x ∈ p1, x.block < W.heap.size := fun x hx => by simpa using hW'.lt x (by simp [hx])
  have hback0 : ∀ (W' : World), Below W.heap.size W W' → DataW.Trod enc Try.prog W' 0 (fun b => decide (b < W.heap.size)) true 22 v0 d0 p0 :=
    fun W' hn => Below.trod laidOut (by kernel_rfl) (of_decide_eq_true (by kernel_rfl)) h0 hn hlt0
  have hback1 : ∀ (W' : World), Below W.heap.size W W' → DataW.Trod enc Try.prog W' 0 (fun b => decide (b < W.heap.size)) true 22 v1 d1 p1 :=
    fun W' hn => Below.trod laidOut (by kernel_rfl) (of_decide_eq_true (by kernel_rfl)) h1 hn hlt1
  obtain ⟨qA, nA, cA, rfl, hmA, haA⟩ := arg_of (hval 0 22 v0 rfl rfl) h0 hlt0
  obtain ⟨qB, nB, cB, rfl, hmB, haB⟩ := arg_of (hval 1 22 v1 rfl rfl) h1 hlt1
  clear hA0 hval0
  refine (walk qA qB nA nB cA cB hmA hmB W haA haB).mono fun e W' ⟨he, hg⟩ => ?_
  subst he
  exact ⟨_, rfl, _, _, _, [], _, [], hW', trodAll_mk1 (shut_bool Try.underlying4 _), (by have h := (trodAll_cons_mk (hback0 _ hg.below) (trodAll_cons_mk (hback1 _ hg.below) trodAll_mk0)); simp only [List.append_nil] at h; exact h), rfl, hg.below.frame _, fun h => by cases h⟩

theorem over : Rows.fnStepAtRow.holds Try.pinned (OpenSpec.ofChange Rows.fnStepAtSpec) :=
  OpenClaim.holds_of_wide 4 Try.f4 rfl rfl rfl rfl rfl rfl rfl ⟨rfl, rfl, rfl, rfl, rfl⟩ rfl rfl rfl rfl rfl (by kernel_rfl) Try.func4 (by kernel_rfl)
    (of_decide_eq_true (by kernel_rfl)) (by unfold Func.isWrapper; rw [if_neg (of_decide_eq_false (by kernel_rfl))]; exact ⟨rfl, rfl⟩)
    (fun os started H enc _ => lifted os started H enc)

/-- The statement. -/
theorem proved : Rows.FnStepAtSaid :=
  over
#print axioms proved
end Go.Proofs.Ytjpmeecdndnknaa.fnStepAt
