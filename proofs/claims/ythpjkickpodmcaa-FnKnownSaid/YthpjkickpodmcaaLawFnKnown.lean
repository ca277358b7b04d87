/-
  'laws.FnKnown' is proved true for every input: at whatever text and point are drawn, what must hold a value may, the others are unsure, and both sides answer alike.
  Conditions: none of its own. How: the drawers are shown to return, with a text of bounded length, and to write into nothing but what they made; both sides are shown to answer as one plain account of what is known does.
-/
import Derived.Test.YthpjkickpodmcaaRows
import Derived.Test.YthpjkickpodmcaaGi
import Derived.Test.YthpjkickpodmcaaGkW
import Derived.Test.YthpjkickpodmcaaVf
import Derived.Test.YthpjkickpodmcaaVfa
import Derived.Test.YthpjkickpodmcaaVsf
import Derived.Test.YthpjkickpodmcaaVv
import Derived.WalkKit
import Derived.ProofKit
import Derived.OpenShut
import Derived.Carry
import Derived.ChangeSlices
namespace Go.Proofs.Ythpjkickpodmcaa.fnKnown
set_option linter.unusedSimpArgs false
open Go.ChangeShapes Go.WideShapes Go.ChangeAt Go.RowKit
set_option linter.unusedVariables false

theorem own : ownKnob Try.prog.godebug = none := by kernel_rfl
theorem laidOut : laidOutB Try.prog = true := by kernel_rfl

/-! ### The arguments. -/
set_option maxRecDepth 100000 in
/-- What an argument is. -/
theorem arg_of {H : Type} {enc : TypeId × Value → H} {W : World} {b0 : Nat} {v : Value} {d : DataW H} {p : List MemPlace} (hv : Value.okWide Try.prog W .any b0 22 v)
    (h : DataW.Trod enc Try.prog W 0 (fun _ => true) true 22 v d p) (hlt : ∀ x ∈ p, x.block < W.heap.size) :
    ∃ q n c, v = .slice q n c ∧ n ≤ maxLen ∧ ArgB W.heap.size W (.slice q n c) n := by
  obtain ⟨fuel, hf⟩ := h
  obtain ⟨a0, len, cap, rfl⟩ := Go.WideShapes.okWide_slice Try.underlying22 hv
  have hc : Try.prog.cellsOf 5 = 1 := by kernel_rfl
  rcases Go.ChangeShapes.open_ints Try.underlying22 Try.underlying5 hc hf with ⟨hcs, hx⟩ | ⟨a, len', cap', zs, hcs, _, hl, hm, hz, hx, hcell, hwz⟩
  · simp [Value.cells] at hcs
    obtain ⟨rfl, rfl, rfl⟩ := hcs
    exact ⟨none, 0, 0, rfl, Nat.zero_le _, none, 0, rfl, Nat.le_refl _, fun i hi => absurd hi (Nat.not_lt_zero _)⟩
  · simp [Value.cells] at hcs
    obtain ⟨rfl, rfl, rfl⟩ := hcs
    simp only [Prod.mk.injEq] at hx
    obtain ⟨rfl, rfl⟩ := hx
    simp only [if_true] at hz
    refine ⟨some a, len, cap, rfl, by omega, some a, cap, rfl, hl, fun i hi => ?_⟩
    obtain ⟨b, off, rfl, hcl⟩ := ints_at hcell (by omega)
    have hb : 0 ≤ zs.getD i 0 ∧ zs.getD i 0 ≤ 255 := by rw [List.getD_eq_getElem?_getD]; exact range_u8 hwz i
    refine ⟨b, off, (zs.getD i 0).toNat, rfl, ?_, ?_, ?_⟩
    · exact hlt (.cell b off) (MemPlace.mem_row.2 ⟨0, by omega, by simp⟩)
    · rw [hcl i (by omega), Int.toNat_of_nonneg hb.1]
    · omega

/-! ### The walk. -/
def OverAt (n : Nat) (w : World) (vi : Value) (wr : World) : Prop := ∃ i : Nat, i ≤ n ∧ vi = .int .i64 (i : Int) ∧ Keeps noB w wr

set_option maxRecDepth 100000 in
set_option maxHeartbeats 8000000 in
theorem walk (p1 : Option Addr) (n1 c1 : Nat) (hm1 : n1 ≤ maxLen) (w : World) (ha1 : ArgB w.heap.size w (.slice p1 n1 c1) n1) :
    Calls Try.prog 4 #[.slice p1 n1 c1] w fun e w' => e = .returned (.bool true) ∧ Keeps noB w w' := by
  have hn1 : n1 ≤ 9223372036854775807 := by unfold maxLen at hm1; omega
  by_cases hlong : 1048576 < n1
  · have hz : (1048576 : Int) < (n1 : Int) := by omega
    clear ha1
    go_enter Try.func4, Try.ntmps4
    go_wp2_with fail
    go_ret
    exact ⟨rfl, Keeps.refl _ _⟩
  have hz : ¬ (1048576 : Int) < (n1 : Int) := by omega
  have HD1 := Lib.hid (drawMay_any (.slice p1 n1 c1) n1 w ha1 (by omega))
  clear ha1
  go_enter Try.func4, Try.ntmps4
  go_wp2_with fail
  refine HD1.out.mono ?_
  rintro e w1 ⟨s, z, rfl, hs, hzw, q1⟩
  have J1 := Lib.hid q1
  have H1 := Lib.hid (fun w => mayHold_any s (by omega) z hzw w)
  have H2 := Lib.hid (fun w => mustHold_any s (by omega) z hzw w)
  have H3 := Lib.hid (fun w => unsureAt_any s (by omega) z hzw w)
  have H4 := Lib.hid (fun w => smayHold_any s (by omega) z w)
  have H5 := Lib.hid (fun w => smustHold_any s (by omega) z w)
  have H6 := Lib.hid (fun w => sunsureAt_any s (by omega) z w)
  have H7 := Lib.hid (fun w => isReachedF_any s (by omega) z hzw w)
  have H8 := Lib.hid (fun w => sisReached_any s (by omega) z w)
  obtain ⟨A, B, C, eA, eB, eC, hfit, hA6, hB6, hC6⟩ := known_fits s z
  rw [eA] at H1 H4
  rw [eB] at H2 H5
  rw [eC] at H3 H6
  have sA : (⟨A.toArray⟩ : ByteArray).size = A.length := by show A.toArray.size = _; simp
  have sB : (⟨B.toArray⟩ : ByteArray).size = B.length := by show B.toArray.size = _; simp
  have sC : (⟨C.toArray⟩ : ByteArray).size = C.length := by show C.toArray.size = _; simp
  obtain ⟨f1, f2⟩ := hfit
  have HEL : Hid (∀ i, i < B.length → ∃ D : ByteArray, (∀ wx, (Instr.slice 9 (.string ⟨B.toArray⟩) (some (.int .i64 (i : Int))) (some (.int .i64 ((i : Int) + 1))) none).run Try.prog wx = .ok (.string D) wx) ∧
      (∀ w, Calls Try.prog 23 #[.string ⟨A.toArray⟩, .string D] w (fun e w' => e = .returned (.bool true) ∧ Keeps noB w w')) ∧ (∀ w, Calls Try.prog 23 #[.string ⟨C.toArray⟩, .string D] w (fun e w' => e = .returned (.bool false) ∧ Keeps noB w w'))) := Lib.hid (fun i hi => by
    obtain ⟨c, hc⟩ : ∃ c, B[i]? = some c := ⟨_, List.getElem?_eq_getElem hi⟩
    obtain ⟨g1, g2⟩ := f1 c (List.mem_of_getElem? hc)
    refine ⟨⟨#[c]⟩, letter_run hc, fun w => ?_, fun w => ?_⟩
    · have := elHas_any A c (by omega) w
      rw [show A.contains c = true by simpa using g1] at this
      exact this
    · have := elHas_any C c (by omega) w
      rw [show C.contains c = false by simpa using g2] at this
      exact this)
  generalize (knownP s z).isSome = bv at *
  generalize (⟨A.toArray⟩ : ByteArray) = TA at *
  generalize (⟨B.toArray⟩ : ByteArray) = TB at *
  generalize (⟨C.toArray⟩ : ByteArray) = TC at *
  have hsum : (TA.size : Int) = (TB.size : Int) + (TC.size : Int) := by omega
  have HSUM := Lib.hid hsum
  have b1 : (TA.size : Int) ≤ 6 := by omega
  have b2 : (TB.size : Int) ≤ 6 := by omega
  have b3 : (TC.size : Int) ≤ 6 := by omega
  obtain ⟨n, hN⟩ : ∃ n, B.length = n := ⟨_, rfl⟩
  rw [hN] at HEL sB
  have HSB := Lib.hid sB
  have hAA : (TA.toList != TA.toList) = false := by simp
  have hBB : (TB.toList != TB.toList) = false := by simp
  have hCC : (TC.toList != TC.toList) = false := by simp
  have hbc : (bv != bv) = false := by simp
  clear q1 HD1 f1 f2 eA eB eC sA sB sC hA6 hB6 hC6 hsum hN hzw
  go_wp2_with fail
  refine (H1.out _).mono ?_
  rintro e w2 ⟨rfl, q⟩
  have J2 := Lib.hid (J1.out.trans q)
  clear q H1
  go_wp2_with fail
  refine (H2.out _).mono ?_
  rintro e w3 ⟨rfl, q⟩
  have J3 := Lib.hid (J2.out.trans q)
  clear q H2
  go_wp2_with fail
  refine (H3.out _).mono ?_
  rintro e w4 ⟨rfl, q⟩
  have J4 := Lib.hid (J3.out.trans q)
  clear q H3
  go_wp2_with fail
  refine (H4.out _).mono ?_
  rintro e w5 ⟨rfl, q⟩
  have J5 := Lib.hid (J4.out.trans q)
  clear q H4
  go_wp2_with fail
  refine (H5.out _).mono ?_
  rintro e w6 ⟨rfl, q⟩
  have J6 := Lib.hid (J5.out.trans q)
  clear q H5
  go_wp2_with fail
  refine (H6.out _).mono ?_
  rintro e w7 ⟨rfl, q⟩
  have J7 := Lib.hid (J6.out.trans q)
  clear q H6
  go_wp2_with fail
  refine (H7.out _).mono ?_
  rintro e w8 ⟨rfl, q⟩
  have J8 := Lib.hid (J7.out.trans q)
  clear q H7
  go_wp2_with fail
  refine (H8.out _).mono ?_
  rintro e w9 ⟨rfl, q⟩
  have J9 := Lib.hid (J8.out.trans q)
  clear q H8
  have HP : Hid (OverAt n w9 (.int .i64 0) w9) := Lib.hid ⟨0, Nat.zero_le _, rfl, Keeps.refl _ _⟩
  go_wp2_with fail
  go_loopw [106] (fun vi wr => OverAt n w9 vi wr) (fun vi _ => n - (intOf vi).toNat)
  case atStart => exact HP.out
  case round =>
    clear HP
    obtain ⟨i, hin, rfl, q⟩ := hrel
    have HQ := Lib.hid q
    clear q
    by_cases hlt : i < n
    · obtain ⟨D, hsl, k1, k2⟩ := HEL.out i hlt
      have K1 := Lib.hid k1
      have K2 := Lib.hid k2
      have hi1 : (i : Int) < (TB.size : Int) := by have := HSB.out; omega
      clear k1 k2
      go_wp2_with fail
      refine (K1.out _).mono ?_
      rintro e v1 ⟨rfl, q1⟩
      have Q1 := Lib.hid (HQ.out.trans q1)
      clear q1
      go_wp2_with fail
      refine (K2.out _).mono ?_
      rintro e v2 ⟨rfl, q2⟩
      have HE : Hid (OverAt n w9 (.int .i64 ((i : Int) + 1)) v2) := Lib.hid ⟨i + 1, hlt, rfl, Q1.out.trans q2⟩
      clear q2
      go_wp2_with fail
      go_roundw
      case rel => exact HE.out
      case measure => simp [intOf]; omega
    · have hi1 : ¬ (i : Int) < (TB.size : Int) := by have := HSB.out; omega
      have hsum := HSUM.out
      go_wp2_with fail
      go_ret
      exact ⟨rfl, J9.out.trans HQ.out⟩

/-! ### The row. -/
set_option maxRecDepth 100000 in
theorem lifted (os : Os) (started : os.Started) (H : Type) (enc : TypeId × Value → H) :
    ReturnsInHanded {} Try.checked os 4 .any (Rows.fnKnownSpec.pre6 enc Try.prog Try.f4 Rows.fnKnownRow.domain false) (Rows.fnKnownSpec.post enc Try.prog Try.f4 false true false false) := by
  refine returnsInHanded_of_change (C := Try.checked) own started (by kernel_rfl) Try.func4
    (ChangeSpec.witness6 (enc := enc) (C := Try.checked) false ⟨#[], #[.slice none 0 0], []⟩ 8 (by kernel_rfl) (by kernel_rfl) (by kernel_rfl) (by kernel_rfl)) ?_
  intro W base args ds gs before hval0 hW hcnd _
  have hval : ∀ (j : Nat) t v, Try.f4.params[j]? = some t → args[j]? = some v → Value.okWide Try.prog W .any base t v := hval0
  have hW' := hW
  obtain ⟨p, q, hA0, hV, rfl, hfz, hnd⟩ := hW
  have hA : DataW.TrodAll enc Try.prog W 0 (fun _ => true) true Try.f4.params.toList args.toList ds p := hA0
  rw [Try.params4] at hA hval
  obtain ⟨v0, vs0, d0, ds0, p0, q0, hargs, rfl, rfl, h0, r0⟩ := trodAll_cons hA
  obtain ⟨rfl, rfl, rfl⟩ := trodAll_nil r0
  obtain rfl : args = #[v0] := by cases args; simp_all
  obtain ⟨rfl, rfl⟩ := trodVars_none hV
  simp only [List.append_nil] at hW'
  have hlt0 : ∀ x ∈ p0, x.block < W.heap.size := fun x hx => by simpa using hW'.lt x (by simp [hx])
  have hback0 : ∀ (W' : World), Below W.heap.size W W' → DataW.Trod enc Try.prog W' 0 (fun b => decide (b < W.heap.size)) true 22 v0 d0 p0 :=
    fun W' hn => Below.trod laidOut (by kernel_rfl) (of_decide_eq_true (by kernel_rfl)) h0 hn hlt0
  obtain ⟨qA, nA, cA, rfl, hmA, haA⟩ := arg_of (hval 0 22 v0 rfl rfl) h0 hlt0
  clear hA0 hval0
  refine (walk qA nA cA hmA W haA).mono fun e W' ⟨he, hg⟩ => ?_
  subst he
  exact ⟨_, rfl, _, _, _, [], _, [], hW', trodAll_mk1 (shut_bool Try.underlying4 _), (by have h := (trodAll_cons_mk (hback0 _ hg.below) trodAll_mk0); simp only [List.append_nil] at h; exact h), rfl, hg.below.frame _, fun h => by cases h⟩

theorem over : Rows.fnKnownRow.holds Try.pinned (OpenSpec.ofChange Rows.fnKnownSpec) :=
  OpenClaim.holds_of_wide 4 Try.f4 rfl rfl rfl rfl rfl rfl rfl ⟨rfl, rfl, rfl, rfl, rfl⟩ rfl rfl rfl rfl rfl (by kernel_rfl) Try.func4 (by kernel_rfl)
    (of_decide_eq_true (by kernel_rfl)) (by unfold Func.isWrapper; rw [if_neg (of_decide_eq_false (by kernel_rfl))]; exact ⟨rfl, rfl⟩)
    (fun os started H enc _ => lifted os started H enc)

/-- The statement. -/
theorem proved : Rows.FnKnownSaid :=
  over
#print axioms proved
end Go.Proofs.Ythpjkickpodmcaa.fnKnown
