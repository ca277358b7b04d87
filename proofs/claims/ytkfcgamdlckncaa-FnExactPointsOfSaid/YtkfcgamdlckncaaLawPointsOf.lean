/-
  'laws.FnExactPointsOf' is proved true for every input: the program's PointsOf answers as the model's does, whatever the text, and the arguments read afterwards as they read before.
  Conditions: none of its own. How: both are shown to list the points of one plain account of the text's tree: the program's in the text Na, the model's in the text Gia.
-/
import Derived.Test.YtkfcgamdlckncaaRows
import Derived.Test.YtkfcgamdlckncaaNa
import Derived.Test.YtkfcgamdlckncaaGia
import Derived.Test.YtkfcgamdlckncaaMl
import Derived.WalkKit
import Derived.ProofKit
import Derived.OpenShut
import Derived.ShutString
namespace Go.Proofs.Ytkfcgamdlckncaa.fnExactPointsOf
set_option linter.unusedSimpArgs false
open Go.ChangeShapes Go.WideShapes Go.ChangeAt Go.RowKit
open Go.ChangeMaps (open_string shut_string)
set_option linter.unusedVariables false      -- a walk need not use every 'w<i>' (that an integer argument fits its kind)

theorem own : ownKnob Try.prog.godebug = none := by kernel_rfl

/-! ### The walk. -/
/-- A list of places as numbers. -/
def numsK : Option (List Nat) → List Int
  | none => []
  | some l => l.map (fun k : Nat => (k : Int))

theorem nums_open {w w' : World} {res : Option (List Nat)} {e : Ending} (h : NumsPost w res e w') :
    ∃ a c, e = .returned (.tuple #[.slice a (numsK res).length c, .bool res.isSome]) ∧ IntRow w' (.slice a (numsK res).length c) (numsK res).length (numsK res) ∧ (∀ g, (Value.slice a (numsK res).length c).ownBlock = some g → w.heap.size ≤ g) ∧ Keeps noB w w' := by
  obtain ⟨v, b, xs, rfl, hrow, hk, rfl, hxs⟩ := h
  have e1 : xs = (numsK res).map (Value.int .i64) := by
    rw [hxs]
    cases res with
    | none => rfl
    | some l => simp only [numsK, i64, List.map_map]; rfl
  have e2 : xs.length = (numsK res).length := by rw [e1, List.length_map]
  rw [e2, e1] at hrow
  obtain ⟨a, c, rfl⟩ := row_shape hrow
  exact ⟨a, c, rfl, hrow.1, fun g hg => hrow.2 g hg, hk⟩

theorem pts_nums {w w' : World} {s : ByteArray} {e : Ending} (h : PtsPost w (progP s) e w') : NumsPost w (pointsP s) e w' := by
  obtain ⟨v, b, xs, h1, h2, h3, h4, h5⟩ := h
  unfold pointsP
  refine ⟨v, b, xs, h1, h2, h3, by rw [h4, Option.isSome_map], ?_⟩
  rw [h5]
  cases progP s <;> rfl

theorem points_few (s : ByteArray) : (numsK (pointsP s)).length ≤ 1000 := by
  unfold pointsP
  cases hp : progP s with
  | none => simp [numsK]
  | some x =>
    have h := asc_len (x.pts.map Prod.fst) 0 81 (pts_ascN (progP_sp hp) (progP_fit hp)) (fun a ha => by
      obtain ⟨p, hm, rfl⟩ := List.mem_map.1 ha
      have := (progP_pts hp p hm).2.2; omega)
    simp only [Option.map_some, numsK, List.length_map] at h ⊢
    omega
set_option maxRecDepth 100000 in
set_option maxHeartbeats 2000000 in
theorem walk (a0 : ByteArray) (w0 : a0.size ≤ maxLen) (w : World) :
    Calls Try.prog 6 #[.string a0] w fun e w' => e = .returned (.bool true) ∧ Keeps noB w w' := by
  have hm : a0.size ≤ 9223372036854775807 := by unfold maxLen at w0; omega
  by_cases hlong : 1048576 < a0.size
  · have hz : (1048576 : Int) < (a0.size : Int) := by omega
    go_enter Try.func6, Try.ntmps6
    go_wp2_with fail
    go_ret
    exact ⟨rfl, Keeps.refl _ _⟩
  · have hz : ¬ (1048576 : Int) < (a0.size : Int) := by omega
    have H1 := Lib.hid (fun w => (sptsOf_any a0 (by omega) w).mono (fun e w' h => nums_open (pts_nums h)))
    have H2 := Lib.hid (fun w => (points_any a0 (by omega) w).mono (fun e w' h => nums_open h))
    have hks := points_few a0
    generalize pointsP a0 = res at *
    generalize numsK res = ks at *
    generalize res.isSome = bv at *
    obtain ⟨n, hn⟩ : ∃ n, ks.length = n := ⟨_, rfl⟩
    rw [hn] at hks H1 H2
    clear hn
    have hbn : (bv != bv) = false := by simp
    have hn1 : (n : Int) ≤ 1000 := by omega
    have hnn : ((1 : Int) + (n : Int) != (1 : Int) + (n : Int)) = false := by simp
    have hng : ¬ (1 : Int) + (n : Int) < 0 := by omega
    go_enter Try.func6, Try.ntmps6
    go_wp2_with fail
    refine (H1.out w).mono ?_
    rintro e w1 ⟨a1, c1, rfl, h1, f1, q1⟩
    have J1 := Lib.hid (And.intro h1 (And.intro f1 q1))
    clear h1 f1 q1
    go_wp2_with fail
    refine (H2.out w1).mono ?_
    rintro e w2 ⟨a2, c2, rfl, h2, f2, q2⟩
    have J2 := Lib.hid (And.intro h2 (And.intro f2 q2))
    clear h2 f2 q2
    go_wp2_with fail
    refine (eqInt_same a2 a1 c2 c1 n ks w2 J2.out.1 (J1.out.1.keeps J2.out.2.2 (fun _ _ => id)) hks).mono ?_
    rintro e w3 ⟨rfl, q3⟩
    have J3 := Lib.hid q3
    clear q3
    go_wp2_with fail
    refine (mark_int a2 c2 n ks 1 w3 (J2.out.1.keeps J3.out (fun _ _ => id)) hks (by omega) (by omega)).mono ?_
    rintro e w4 ⟨rfl, h4, q4⟩
    have J4 := Lib.hid (And.intro h4 q4)
    clear h4 q4
    go_wp2_with fail
    refine (held_int a2 c2 n 1 w4 J4.out.1 hks (by omega) (by omega)).mono ?_
    rintro e w4' ⟨rfl, rfl⟩
    go_wp2_with fail
    refine (H2.out w4').mono ?_
    rintro e w5 ⟨a5, c5, rfl, h5, f5, q5⟩
    have J5 := Lib.hid (And.intro h5 (And.intro f5 q5))
    clear h5 f5 q5
    have K1 : Hid (IntRow w5 (.slice a1 n c1) n ks) := by
      have e1 := J1.out.1
      have e2 := (e1.keeps J2.out.2.2 (fun _ _ => id)).keeps J3.out (fun _ _ => id)
      have e4 := e2.keeps J4.out.2 (fun g hg e => by have := J2.out.2.1 g e; have := (e1.lt g hg).2; omega)
      exact e4.keeps J5.out.2.2 (fun _ _ => id)
    have K2 : Hid (IntRow w5 (.slice a2 n c2) n (marks 1 n)) := J4.out.1.keeps J5.out.2.2 (fun _ _ => id)
    go_wp2_with fail
    refine (eqInt_same a5 a1 c5 c1 n ks w5 J5.out.1 K1.out hks).mono ?_
    rintro e w6 ⟨rfl, q6⟩
    have J6 := Lib.hid q6
    clear q6
    go_wp2_with fail
    refine (held_int a2 c2 n 1 w6 (K2.out.keeps J6.out (fun _ _ => id)) hks (by omega) (by omega)).mono ?_
    rintro e w6' ⟨rfl, rfl⟩
    go_wp2_with fail
    go_ret
    refine ⟨rfl, ?_⟩
    have k3 : Keeps noB w w3 := (J1.out.2.2.trans J2.out.2.2).trans J3.out
    have k4 : Keeps noB w w4' := k3.transNew J4.out.2 (fun i hi e => by have := J2.out.2.1 i e; have := J1.out.2.2.size; omega)
    exact (k4.trans J5.out.2.2).trans J6.out

/-! ### The row. -/
set_option maxRecDepth 100000 in
theorem lifted (os : Os) (started : os.Started) (H : Type) (enc : TypeId × Value → H) :
    ReturnsInHanded {} Try.checked os 6 .any (Rows.fnExactPointsOfSpec.pre6 enc Try.prog Try.f6 Rows.fnExactPointsOfRow.domain false) (Rows.fnExactPointsOfSpec.post enc Try.prog Try.f6 false true false false) := by
  refine returnsInHanded_of_change (C := Try.checked) own started (by kernel_rfl) Try.func6
    (ChangeSpec.witness6 (enc := enc) (C := Try.checked) false ⟨#[], #[.string ByteArray.empty], []⟩ 8 (by kernel_rfl) (by kernel_rfl) (by kernel_rfl) (by kernel_rfl)) ?_
  intro W base args ds gs before hval0 hW hcnd _
  have hval : ∀ (j : Nat) t v, Try.f6.params[j]? = some t → args[j]? = some v → Value.okWide Try.prog W .any base t v := hval0
  have hW' := hW
  obtain ⟨p, q, hA0, hV, rfl, hfz, hnd⟩ := hW
  have hA : DataW.TrodAll enc Try.prog W 0 (fun _ => true) true Try.f6.params.toList args.toList ds p := hA0
  rw [Try.params6] at hA hval
  obtain ⟨v0, vs0, d0, ds0, p0, q0, hargs, rfl, rfl, h0, r0⟩ := trodAll_cons hA
  obtain ⟨rfl, rfl, rfl⟩ := trodAll_nil r0
  obtain rfl : args = #[v0] := by cases args; simp_all
  obtain ⟨rfl, rfl⟩ := trodVars_none hV
  obtain ⟨a0, rfl, rfl, rfl, w0⟩ := open_string Try.underlying9 (hval 0 9 v0 rfl rfl) h0
  clear hA0 hval0
  simp only [List.append_nil] at hW'
  refine (walk a0 w0 W).mono fun e W' ⟨he, hg⟩ => ?_
  subst he
  exact ⟨_, rfl, _, _, _, [], _, [], hW', trodAll_mk1 (shut_bool Try.underlying4 _), (trodAll_cons_mk (shut_string Try.underlying9 w0) trodAll_mk0), rfl, hg.below.frame _, fun h => by cases h⟩

theorem over : Rows.fnExactPointsOfRow.holds Try.pinned (OpenSpec.ofChange Rows.fnExactPointsOfSpec) :=
  OpenClaim.holds_of_wide 6 Try.f6 rfl rfl rfl rfl rfl rfl rfl ⟨rfl, rfl, rfl, rfl, rfl⟩ rfl rfl rfl rfl rfl (by kernel_rfl) Try.func6 (by kernel_rfl)
    (of_decide_eq_true (by kernel_rfl)) (by unfold Func.isWrapper; rw [if_neg (of_decide_eq_false (by kernel_rfl))]; exact ⟨rfl, rfl⟩)
    (fun os started H enc _ => lifted os started H enc)

/-- The statement. -/
theorem proved : Rows.FnExactPointsOfSaid :=
  over
#print axioms proved
end Go.Proofs.Ytkfcgamdlckncaa.fnExactPointsOf
