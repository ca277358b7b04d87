/-
  'laws.FnExactCellsFor' is proved true for every input, its card: the program's CellsFor answers as the model's does, whatever the text; the package-level variables that are read are tied to the program's text.
  Conditions: none of its own. How: both sides are shown to read events as one plain account does ('readP').
-/
import Derived.Test.YthgocacabadflaaDoorRows
import Derived.Test.YthgocacabadflaaDoorCards
import Derived.Test.YthgocacabadflaaDoorTie
import Derived.Test.YthgocacabadflaaDoorQk
import Derived.Test.YthgocacabadflaaDoorUr
import Derived.WalkKit
import Derived.ProofKit
import Derived.OpenShut
import Derived.ShutString
import Derived.OpenVars
import Derived.LaidMore
import Derived.Handy
import Derived.Lay
import Derived.LaidOnce
import Derived.SevenTiedAt
namespace Go.Proofs.YthgocacabadflaaDoor.fnExactCellsFor
set_option linter.unusedSimpArgs false
open Go.ChangeShapes Go.WideShapes Go.ChangeAt Go.RowKit
open Go.ChangeMaps (open_string shut_string)
set_option linter.unusedVariables false

theorem own : ownKnob Tryd.prog.godebug = none := by kernel_rfl
theorem laidOut : laidOutB Tryd.prog = true := by kernel_rfl

/-! ### The walk. -/
set_option maxRecDepth 100000 in
set_option maxHeartbeats 4000000 in
theorem walk (a0 : ByteArray) (w0 : a0.size ≤ maxLen) (w : World) (hE : Env w) :
    Calls Tryd.prog 4 #[.string a0] w fun e w' => e = .returned (.bool true) ∧ Keeps noB w w' := by
  have hm : a0.size ≤ 9223372036854775807 := by unfold maxLen at w0; omega
  by_cases hlong : 1048576 < a0.size
  · have hz : (1048576 : Int) < (a0.size : Int) := by omega
    clear hE
    go_enter Tryd.func4, Tryd.ntmps4
    go_wp2_with fail
    go_ret
    exact ⟨rfl, Keeps.refl _ _⟩
  · have hz : ¬ (1048576 : Int) < (a0.size : Int) := by omega
    have H1 := Lib.hid (fun w => (scellsFor_any a0 (by omega) w).mono (fun e w' h => cells_open h))
    have H2 := Lib.hid (fun w hE => (cellsFor_any a0 (by omega) w hE).mono (fun e w' h => cells_open h))
    have hks := @freeK_len a0
    have HE := Lib.hid hE
    have hsz := hE.sz
    clear hE
    generalize readP a0 = res at *
    generalize cellsK freeN res = ks at *
    generalize res.isSome = bv at *
    obtain ⟨n, hn⟩ : ∃ n, ks.length = n := ⟨_, rfl⟩
    rw [hn] at hks H1 H2
    clear hn
    have hbn : (bv != bv) = false := by simp
    have hn1 : (n : Int) ≤ 600 := by omega
    go_enter Tryd.func4, Tryd.ntmps4
    go_wp2_with fail
    refine (H1.out w).mono ?_
    rintro e w1 ⟨a1, c1, rfl, h1, f1, q1⟩
    have J1 := Lib.hid (And.intro h1 (And.intro f1 q1))
    clear h1 f1 q1
    go_wp2_with fail
    refine (H2.out w1 (HE.out.keeps J1.out.2.2 (fun _ _ e => e))).mono ?_
    rintro e w2 ⟨a2, c2, rfl, h2, f2, q2⟩
    have J2 := Lib.hid (And.intro h2 (And.intro f2 q2))
    clear h2 f2 q2
    go_wp2_with fail
    refine (eqInt_same a2 a1 c2 c1 n ks w2 J2.out.1 (J1.out.1.keeps J2.out.2.2 (fun _ _ => id)) (by omega)).mono ?_
    rintro e w3 ⟨rfl, q3⟩
    have J3 := Lib.hid q3
    clear q3
    go_wp2_with fail
    refine (mark_int a2 c2 n ks 1 w3 (J2.out.1.keeps J3.out (fun _ _ => id)) (by omega) (by omega) (by omega)).mono ?_
    rintro e w4 ⟨rfl, h4, q4⟩
    have J4 := Lib.hid (And.intro h4 q4)
    clear h4 q4
    obtain ⟨mm, hmm⟩ : ∃ mm : Int, mm = (1 : Int) + (n : Int) := ⟨_, rfl⟩
    have hnn : (mm != mm) = false := by simp
    have hng : ¬ mm < 0 := by rw [hmm]; omega
    have HM := Lib.hid hmm
    rw [← hmm]
    clear hmm
    go_wp2_with fail
    refine (held_int a2 c2 n 1 w4 J4.out.1 (by omega) (by omega) (by omega)).mono ?_
    rintro e w4' ⟨rfl, rfl⟩
    rw [← HM.out]
    go_wp2_with fail
    have hE4 : Env w4' := (((HE.out.keeps J1.out.2.2 (fun _ _ e => e)).keeps J2.out.2.2 (fun _ _ e => e)).keeps J3.out (fun _ _ e => e)).keeps J4.out.2 (fun k hk e => by have := J2.out.2.1 k e; have := J1.out.2.2.size; omega)
    refine (H2.out w4' hE4).mono ?_
    clear hE4
    rintro e w5 ⟨a5, c5, rfl, h5, f5, q5⟩
    have J5 := Lib.hid (And.intro h5 (And.intro f5 q5))
    clear h5 f5 q5
    have K1 : Hid (IntRow w5 (.slice a1 n c1) n ks) := by
      have e1 := J1.out.1
      have e2 := (e1.keeps J2.out.2.2 (fun _ _ => id)).keeps J3.out (fun _ _ => id)
      have e4 := e2.keeps J4.out.2 (fun g hg e => by have := J2.out.2.1 g e; have := (e1.lt g hg).2; omega)
      exact e4.keeps J5.out.2.2 (fun _ _ => id)
    have K2 : Hid (IntRow w5 (.slice a2 n c2) n (marks 1 n)) := J4.out.1.keeps J5.out.2.2 (fun _ _ => id)
    go_wp2_with fail
    refine (eqInt_same a5 a1 c5 c1 n ks w5 J5.out.1 K1.out (by omega)).mono ?_
    rintro e w6 ⟨rfl, q6⟩
    have J6 := Lib.hid q6
    clear q6
    go_wp2_with fail
    refine (held_int a2 c2 n 1 w6 (K2.out.keeps J6.out (fun _ _ => id)) (by omega) (by omega) (by omega)).mono ?_
    rintro e w6' ⟨rfl, rfl⟩
    rw [← HM.out]
    go_wp2_with fail
    go_ret
    refine ⟨rfl, ?_⟩
    have k3 : Keeps noB w w3 := (J1.out.2.2.trans J2.out.2.2).trans J3.out
    have k4 : Keeps noB w w4' := k3.transNew J4.out.2 (fun i hi e => by have := J2.out.2.1 i e; have := J1.out.2.2.size; omega)
    exact (k4.trans J5.out.2.2).trans J6.out


/-! ### The row. -/
set_option maxRecDepth 100000 in
theorem lifted (os : Os) (started : os.Started) (H : Type) (enc : TypeId × Value → H) :
    ReturnsInHanded {} Tryd.checked os 4 .any (fun w args => (Rows.fnExactCellsForSpec.pre enc Tryd.prog Tryd.f4 [] false w args ∧ laidMetH Tryd.prog Rows.fnExactCellsForRow.laid w) ∧ sizedMet enc Tryd.prog Tryd.f4 (OpenSpec.ofChange Rows.fnExactCellsForSpec) false w args)
      (Rows.fnExactCellsForSpec.post enc Tryd.prog Tryd.f4 false true false false) := by
  refine returnsInHanded_of_change_and (C := Tryd.checked) (X := fun w _ => laidMetH Tryd.prog Rows.fnExactCellsForRow.laid w) (fun _ _ _ hh h => h.of_heap hh) own started (by kernel_rfl) Tryd.func4
    (ChangeSpec.witness_shaped (enc := enc) (C := Tryd.checked) (os := os) (X := fun w _ => laidMetH Tryd.prog Rows.fnExactCellsForRow.laid w) false (World.laidAll Tryd.prog os Rows.fnExactCellsForRow.laid) #[.string ByteArray.empty] 8 (World.laidAll_os _ _ _)
      (World.shaped_of_ZipB (by kernel_rfl) (by kernel_rfl)) (by kernel_rfl) (by kernel_rfl) (by kernel_rfl)
      (by rw [MakeChecks.laidMetH_plain _ _ _ (by kernel_rfl)]; exact laidMet_laidAll _ (by kernel_rfl) (by kernel_rfl))) ?_
  intro W base args ds gs before hval0 hW _ _ hL _
  have hval : ∀ (j : Nat) t v, Tryd.f4.params[j]? = some t → args[j]? = some v → Value.okWide Tryd.prog W .any base t v := hval0
  have hW' := hW
  obtain ⟨p, q, hA0, hV, rfl, _, _⟩ := hW
  have hA : DataW.TrodAll enc Tryd.prog W 0 (fun _ => true) true Tryd.f4.params.toList args.toList ds p := hA0
  rw [Tryd.params4] at hA hval
  obtain ⟨v0, d0, rfl, rfl, h0⟩ := trodAll_one hA
  obtain ⟨a0, rfl, rfl, rfl, w0⟩ := open_string Tryd.underlying9 (hval 0 9 v0 rfl rfl) h0
  have hE : Env W := env_of hL
  have hV2 := hV
  match gs, hV2 with
  | [d1, d2, d3, d4], _ =>
    refine (walk a0 w0 W hE).mono fun e W' ⟨he, hg⟩ => ?_
    subst he
    exact ⟨_, rfl, _, _, _, [], [], q, hW', trodAll_mk1 (shut_bool Tryd.underlying4 _), trodAll_mk1 (shut_string Tryd.underlying9 w0), hg.below.trodVars laidOut (by kernel_rfl) hV, hg.below.frame _, fun h => by cases h⟩

theorem over : Rows.fnExactCellsForRow.holds Tryd.pinned (OpenSpec.ofChange Rows.fnExactCellsForSpec) :=
  OpenClaim.holds_of_wide 4 Tryd.f4 rfl rfl rfl rfl rfl rfl rfl ⟨rfl, rfl, rfl, rfl, rfl⟩ rfl rfl rfl rfl rfl (by kernel_rfl) Tryd.func4 (by kernel_rfl)
    (of_decide_eq_true (by kernel_rfl)) (by unfold Func.isWrapper; first | (rw [if_pos (by decide +kernel)]; kernel_rfl) | (rw [if_neg (by decide +kernel)]; exact ⟨rfl, rfl⟩))
    (fun os started H enc _ => lifted os started H enc)

/-- The statement: the card. -/
theorem proved : Rows.FnExactCellsForCardSaid :=
  Claim7.holds_tied_plain_at .later [] [.data, .data, .data, .data, .sentinel, .sentinel, .sentinel, .sentinel, .sentinel, .sentinel, .pinned] true Rows.fnExactCellsForCard.stood.harness true over (fun _ h => by cases h) (by kernel_rfl) (fun _ h => by cases h) fnExactCellsFor_row_tie rfl ⟨rfl, rfl⟩ (by kernel_rfl) rfl
    (fun f fn hf hfn => by
      obtain rfl : f = 4 := Option.some.inj ((show Tryd.prog.funcNamed "loop.example/endsoflife/laws.FnExactCellsFor" = some 4 by kernel_rfl).symm.trans hf) |>.symm
      obtain rfl : fn = Tryd.f4 := (Option.some.inj (Tryd.func4.symm.trans hfn)).symm
      exact ⟨by kernel_rfl, fun j t ht => by
        rw [Tryd.params4] at ht
        have hm : t ∈ [9] := by simpa using Array.mem_of_getElem? ht
        have hall : ([9].all fun u => !Tryd.prog.wantsStandIn u) = true := by kernel_rfl
        exact (show Tryd.prog.wantsStandIn t = false by simpa using List.all_eq_true.1 hall t hm)⟩)
    (by kernel_rfl)
#print axioms proved
end Go.Proofs.YthgocacabadflaaDoor.fnExactCellsFor
