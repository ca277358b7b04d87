/-
  'laws.FnExactTailsOf' is proved true for every input: the program's TailsOf answers as the model's does, whatever the text, and the arguments read afterwards as they read before.
  Conditions: none of its own. How: both are shown to list the tails of one plain account (text Fa): the program's in the texts Fb to Fd and Fc, the model's in the texts Fh to Fk.
-/
import Derived.Test.YtkfcgamdlckncaaGreatRows
import Derived.Test.YtkfcgamdlckncaaGreatFcW
import Derived.Test.YtkfcgamdlckncaaGreatMxW
import Derived.WalkKit
import Derived.ProofKit
import Derived.OpenShut
import Derived.ShutString
namespace Go.Proofs.YtkfcgamdlckncaaGreat.fnExactTailsOf
set_option linter.unusedSimpArgs false
open Go.ChangeShapes Go.WideShapes Go.ChangeAt Go.RowKit
open Go.ChangeMaps (open_string shut_string)
set_option linter.unusedVariables false      -- a walk need not use every 'w<i>' (that an integer argument fits its kind)

theorem own : ownKnob Tryz.prog.godebug = none := by kernel_rfl

/-! ### The walk. -/
/-- Choices as the law's helpers see them. -/
def tsP (l : List (List UInt8)) : List ByteArray := l.map (fun c => ⟨c.toArray⟩)

theorem tsP_cells (l : List (List UInt8)) : (tsP l).map Value.string = strsC l := by
  unfold tsP strsC
  rw [List.map_map]
  rfl

theorem post_open {w w' : World} {res : Option (List (List UInt8))} {e : Ending} (h : TailsPostL w res e w') :
    ∃ a c, e = .returned (.tuple #[.slice a (res.getD []).length c, .bool res.isSome]) ∧ TRow w' (.slice a (res.getD []).length c) (res.getD []).length (tsP (res.getD [])) ∧ (∀ g, (Value.slice a (res.getD []).length c).ownBlock = some g → w.heap.size ≤ g) ∧ Keeps noB w w' ∧ (res.getD []).length ≤ 6400 := by
  obtain ⟨v, l, rfl, hrow, q, hl, rfl⟩ := h
  obtain ⟨a, c, rfl⟩ := row_shape hrow
  refine ⟨a, c, rfl, ?_, fun g hg => hrow.2 g hg, q, hl⟩
  unfold TRow
  rw [tsP_cells]
  exact hrow.1

set_option maxRecDepth 100000 in
set_option maxHeartbeats 4000000 in
theorem walk (a0 : ByteArray) (w0 : a0.size ≤ maxLen) (w : World) :
    Calls Tryz.prog 3 #[.string a0] w fun e w' => e = .returned (.bool true) ∧ Keeps noB w w' := by
  have hm : a0.size ≤ 9223372036854775807 := by unfold maxLen at w0; omega
  clear w0
  by_cases hlong : 1048576 < a0.size
  · have hz : (1048576 : Int) < (a0.size : Int) := by omega
    go_enter Tryz.func3, Tryz.ntmps3
    go_wp2_with fail
    go_ret
    exact ⟨rfl, Keeps.refl _ _⟩
  · have hz : ¬ (1048576 : Int) < (a0.size : Int) := by omega
    have H1 := Lib.hid (fun w => (stailsOf_any a0 (by omega) w).mono (fun e w' h => post_open h))
    have H2 := Lib.hid (fun w => (tails_any a0 (by omega) w).mono (fun e w' h => post_open h))
    generalize tailsP a0 = res at *
    generalize res.isSome = bv at *
    generalize res.getD [] = l at *
    generalize tsP l = ks at *
    generalize l.length = n at *
    have hbn : (bv != bv) = false := by simp
    go_enter Tryz.func3, Tryz.ntmps3
    go_wp2_with fail
    refine (H1.out w).mono ?_
    rintro e w1 ⟨a1', c1, rfl, h1, f1, q1, hks⟩
    have hnn : (((1 + n : Nat) : Int) != ((1 + n : Nat) : Int)) = false := by simp
    have hng : ¬ ((1 + n : Nat) : Int) < 0 := by omega
    have J1 := Lib.hid (And.intro h1 (And.intro f1 q1))
    clear h1 f1 q1
    go_wp2_with fail
    refine (H2.out w1).mono ?_
    rintro e w2 ⟨a2, c2, rfl, h2, f2, q2, _⟩
    have J2 := Lib.hid (And.intro h2 (And.intro f2 q2))
    clear h2 f2 q2
    go_wp2_with fail
    refine (eqTexts_same a2 a1' c2 c1 n ks w2 J2.out.1 (J1.out.1.keeps J2.out.2.2 (fun _ _ => id)) (by omega)).mono ?_
    rintro e w3 ⟨rfl, q3⟩
    have J3 := Lib.hid q3
    clear q3
    go_wp2_with fail
    refine (mark_texts a2 c2 n ks 1 w3 (J2.out.1.keeps J3.out (fun _ _ => id)) (by omega) (by omega) (by omega)).mono ?_
    rintro e w4 ⟨rfl, h4, q4⟩
    have J4 := Lib.hid (And.intro h4 q4)
    clear h4 q4
    generalize hmm : ((1 + n : Nat) : Int) = mm at hnn hng ⊢
    have HM := Lib.hid hmm
    clear hmm
    go_wp2_with fail
    refine (held_texts a2 c2 n 1 w4 J4.out.1 (by omega) (by omega) (by omega)).mono ?_
    rintro e w4' ⟨rfl, q4'⟩
    have J4' := Lib.hid q4'
    clear q4'
    rw [HM.out]
    go_wp2_with fail
    refine (H2.out w4').mono ?_
    rintro e w5 ⟨a5, c5, rfl, h5, f5, q5, _⟩
    have J5 := Lib.hid (And.intro h5 (And.intro f5 q5))
    clear h5 f5 q5
    have K1 : Hid (TRow w5 (.slice a1' n c1) n ks) := by
      have e1 := J1.out.1
      have e2 := (e1.keeps J2.out.2.2 (fun _ _ => id)).keeps J3.out (fun _ _ => id)
      have e4 := e2.keeps J4.out.2 (fun g hg e => by have := J2.out.2.1 g e; have := (e1.lt g hg).2; omega)
      exact (e4.keeps J4'.out (fun _ _ => id)).keeps J5.out.2.2 (fun _ _ => id)
    have K2 : Hid (TRow w5 (.slice a2 n c2) n (marksS 1 n)) := (J4.out.1.keeps J4'.out (fun _ _ => id)).keeps J5.out.2.2 (fun _ _ => id)
    go_wp2_with fail
    refine (eqTexts_same a5 a1' c5 c1 n ks w5 J5.out.1 K1.out (by omega)).mono ?_
    rintro e w6 ⟨rfl, q6⟩
    have J6 := Lib.hid q6
    clear q6
    go_wp2_with fail
    refine (held_texts a2 c2 n 1 w6 (K2.out.keeps J6.out (fun _ _ => id)) (by omega) (by omega) (by omega)).mono ?_
    rintro e w7 ⟨rfl, q7⟩
    have J7 := Lib.hid q7
    clear q7
    rw [HM.out]
    go_wp2_with fail
    go_ret
    refine ⟨rfl, ?_⟩
    have e1 := J1.out.2.2
    have e2 := (e1.trans J2.out.2.2).trans J3.out
    have e4 := e2.transNew J4.out.2 (fun i hi e => by have := J2.out.2.1 i e; have := e1.size; omega)
    exact (((e4.trans J4'.out).trans J5.out.2.2).trans J6.out).trans J7.out

/-! ### The row. -/
set_option maxRecDepth 100000 in
theorem lifted (os : Os) (started : os.Started) (H : Type) (enc : TypeId × Value → H) :
    ReturnsInHanded {} Tryz.checked os 3 .any (Rows.fnExactTailsOfSpec.pre6 enc Tryz.prog Tryz.f3 Rows.fnExactTailsOfRow.domain false) (Rows.fnExactTailsOfSpec.post enc Tryz.prog Tryz.f3 false true false false) := by
  refine returnsInHanded_of_change (C := Tryz.checked) own started (by kernel_rfl) Tryz.func3
    (ChangeSpec.witness6 (enc := enc) (C := Tryz.checked) false ⟨#[], #[.string ByteArray.empty], []⟩ 8 (by kernel_rfl) (by kernel_rfl) (by kernel_rfl) (by kernel_rfl)) ?_
  intro W base args ds gs before hval0 hW hcnd _
  have hval : ∀ (j : Nat) t v, Tryz.f3.params[j]? = some t → args[j]? = some v → Value.okWide Tryz.prog W .any base t v := hval0
  have hW' := hW
  obtain ⟨p, q, hA0, hV, rfl, hfz, hnd⟩ := hW
  have hA : DataW.TrodAll enc Tryz.prog W 0 (fun _ => true) true Tryz.f3.params.toList args.toList ds p := hA0
  rw [Tryz.params3] at hA hval
  obtain ⟨v0, vs0, d0, ds0, p0, q0, hargs, rfl, rfl, h0, r0⟩ := trodAll_cons hA
  obtain ⟨rfl, rfl, rfl⟩ := trodAll_nil r0
  obtain rfl : args = #[v0] := by cases args; simp_all
  obtain ⟨rfl, rfl⟩ := trodVars_none hV
  obtain ⟨a0, rfl, rfl, rfl, w0⟩ := open_string Tryz.underlying9 (hval 0 9 v0 rfl rfl) h0
  clear hA0 hval0
  simp only [List.append_nil] at hW'
  refine (walk a0 w0 W).mono fun e W' ⟨he, hg⟩ => ?_
  subst he
  exact ⟨_, rfl, _, _, _, [], _, [], hW', trodAll_mk1 (shut_bool Tryz.underlying4 _), (trodAll_cons_mk (shut_string Tryz.underlying9 w0) trodAll_mk0), rfl, hg.below.frame _, fun h => by cases h⟩

theorem over : Rows.fnExactTailsOfRow.holds Tryz.pinned (OpenSpec.ofChange Rows.fnExactTailsOfSpec) :=
  OpenClaim.holds_of_wide 3 Tryz.f3 rfl rfl rfl rfl rfl rfl rfl ⟨rfl, rfl, rfl, rfl, rfl⟩ rfl rfl rfl rfl rfl (by kernel_rfl) Tryz.func3 (by kernel_rfl)
    (of_decide_eq_true (by kernel_rfl)) (by unfold Func.isWrapper; rw [if_neg (of_decide_eq_false (by kernel_rfl))]; exact ⟨rfl, rfl⟩)
    (fun os started H enc _ => lifted os started H enc)

/-- The statement. -/
theorem proved : Rows.FnExactTailsOfSaid :=
  over
#print axioms proved
end Go.Proofs.YtkfcgamdlckncaaGreat.fnExactTailsOf
