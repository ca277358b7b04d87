/-
  'laws.FnExactCellsFit' is proved true for every input, its card: the program's CellsFit answers as the model's does, whatever the text; the package-level variables that are read are tied to the program's text.
  Conditions: none of its own. How: both sides are shown to read events as one plain account does ('readP').
-/
import Derived.Test.YthgocacabadflaaDoorRows
import Derived.Test.YthgocacabadflaaDoorCards
import Derived.Test.YthgocacabadflaaDoorTie
import Derived.Test.YthgocacabadflaaDoorQk
import Derived.Test.YthgocacabadflaaDoorUy
import Derived.WalkKit
import Derived.ProofKit
import Derived.OpenShut
import Derived.ShutString
import Derived.OpenVars
import Derived.LaidMore
import Derived.Handy
import Derived.Lay
import Derived.LaidOnce
import Derived.SevenTiedAt
import Derived.Carry
import Derived.ChangeSlices
namespace Go.Proofs.YthgocacabadflaaDoor.fnExactCellsFit
set_option linter.unusedSimpArgs false
open Go.ChangeShapes Go.WideShapes Go.ChangeAt Go.RowKit
open Go.ChangeMaps (open_string shut_string)
set_option linter.unusedVariables false

theorem own : ownKnob Tryd.prog.godebug = none := by kernel_rfl
theorem laidOut : laidOutB Tryd.prog = true := by kernel_rfl

/-! ### The walk. -/
set_option maxRecDepth 100000 in
/-- What the second argument is. -/
theorem arg_of {H : Type} {enc : TypeId × Value → H} {W : World} {b0 : Nat} {v : Value} {d : DataW H} {p : List MemPlace} (hv : Value.okWide Tryd.prog W .any b0 25 v)
    (h : DataW.Trod enc Tryd.prog W 0 (fun _ => true) true 25 v d p) (hlt : ∀ x ∈ p, x.block < W.heap.size) :
    ∃ q n c zs, v = .slice q n c ∧ n ≤ maxLen ∧ ArgI W (.slice q n c) n zs := by
  obtain ⟨fuel, hf⟩ := h
  obtain ⟨a0, len, cap, rfl⟩ := Go.WideShapes.okWide_slice Tryd.underlying25 hv
  have hc : Tryd.prog.cellsOf 3 = 1 := by kernel_rfl
  rcases Go.ChangeShapes.open_ints Tryd.underlying25 Tryd.underlying3 hc hf with ⟨hcs, hx⟩ | ⟨a, len', cap', zs, hcs, _, hl, hm, hz, hx, hcell, hwz⟩
  · simp [Value.cells] at hcs
    obtain ⟨rfl, rfl, rfl⟩ := hcs
    exact ⟨none, 0, 0, [], rfl, Nat.zero_le _, rfl, none, 0, rfl, fun i hi => absurd hi (Nat.not_lt_zero _)⟩
  · simp [Value.cells] at hcs
    obtain ⟨rfl, rfl, rfl⟩ := hcs
    simp only [Prod.mk.injEq] at hx
    obtain ⟨rfl, rfl⟩ := hx
    simp only [if_true] at hz
    refine ⟨some a, len, cap, zs.take len, rfl, by omega, by rw [List.length_take]; omega, some a, cap, rfl, fun i hi => ?_⟩
    obtain ⟨b, off, rfl, hcl⟩ := ints_at hcell (by omega)
    refine ⟨b, off, rfl, hl, ?_, ?_⟩
    · exact hlt (.cell b off) (MemPlace.mem_row.2 ⟨0, by omega, by simp⟩)
    · rw [hcl i (by omega)]
      congr 2
      simp [List.getD, List.getElem?_take, hi]

set_option maxRecDepth 100000 in
set_option maxHeartbeats 4000000 in
theorem walk (a0 : ByteArray) (w0 : a0.size ≤ maxLen) (p : Option Addr) (n c : Nat) (zs : List Int) (hm : n ≤ maxLen) (w : World) (hE : Env w) (ha : ArgI w (.slice p n c) n zs) :
    Calls Tryd.prog 6 #[.string a0, .slice p n c] w fun e w' => e = .returned (.bool true) ∧ Keeps noB w w' := by
  have hs9 : a0.size ≤ 9223372036854775807 := by unfold maxLen at w0; omega
  have hn9 : n ≤ 9223372036854775807 := by unfold maxLen at hm; omega
  by_cases hlong : 1048576 < a0.size
  · have hz : (1048576 : Int) < (a0.size : Int) := by omega
    clear hE ha
    go_enter Tryd.func6, Tryd.ntmps6
    go_wp2_with fail
    go_ret
    exact ⟨rfl, Keeps.refl _ _⟩
  have hz : ¬ (1048576 : Int) < (a0.size : Int) := by omega
  by_cases hlong2 : 1048576 < n
  · have hz2 : (1048576 : Int) < (n : Int) := by omega
    clear hE ha
    go_enter Tryd.func6, Tryd.ntmps6
    go_wp2_with fail
    go_ret
    exact ⟨rfl, Keeps.refl _ _⟩
  have hz2 : ¬ (1048576 : Int) < (n : Int) := by omega
  have HT := Lib.hid (fun W (q : Keeps noB w W) => toInt_any (.slice p n c) n zs W (ha.keeps q) (by omega))
  have H1 := Lib.hid (fun W v (h : ArgI W v n zs) => scellsFit_any a0 (by omega) v n zs W h)
  have H2 := Lib.hid (fun W v hE (h : ArgI W v n zs) => cellsFit_any a0 (by omega) v n zs W hE h)
  have HE := Lib.hid hE
  clear hE ha
  generalize fitV (readP a0) zs = b at *
  have hbb : (b != b) = false := by simp
  have hn6 : n ≤ 1048576 := by omega
  go_enter Tryd.func6, Tryd.ntmps6
  go_wp2_with fail
  refine (HT.out w (Keeps.refl _ _)).mono ?_
  rintro e w1 ⟨g1, rfl, hr1, _, q1⟩
  have J1 := Lib.hid (And.intro hr1 q1)
  clear hr1 q1
  go_wp2_with fail
  refine (H1.out _ _ J1.out.1.arg).mono ?_
  rintro e w2 ⟨rfl, q2⟩
  have J2 := Lib.hid (J1.out.2.trans q2)
  clear q2
  go_wp2_with fail
  refine (HT.out w2 J2.out).mono ?_
  rintro e w3 ⟨g2, rfl, hr3, _, q3⟩
  have J3 := Lib.hid (And.intro hr3 (J2.out.trans q3))
  clear hr3 q3
  go_wp2_with fail
  refine (H2.out _ _ (HE.out.keeps J3.out.2 (fun _ _ e => e)) J3.out.1.arg).mono ?_
  rintro e w4 ⟨rfl, q4⟩
  have J4 := Lib.hid (And.intro (J3.out.1.keeps q4 (fun _ _ => id)) (J3.out.2.trans q4))
  clear q4
  go_wp2_with fail
  refine (HT.out w4 J4.out.2).mono ?_
  rintro e w5 ⟨g3, rfl, hr5, _, q5⟩
  have J5 := Lib.hid (And.intro hr5 (And.intro (J4.out.1.keeps q5 (fun _ _ => id)) (J4.out.2.trans q5)))
  clear hr5 q5
  go_wp2_with fail
  refine (eqIntL_same _ _ n n n zs w5 J5.out.2.1 J5.out.1 hn6).mono ?_
  rintro e w6 ⟨rfl, q6⟩
  have J6 := Lib.hid (J5.out.2.2.trans q6)
  clear q6
  go_wp2_with fail
  go_ret
  exact ⟨rfl, J6.out⟩


/-! ### The row. -/
set_option maxRecDepth 100000 in
theorem lifted (os : Os) (started : os.Started) (H : Type) (enc : TypeId × Value → H) :
    ReturnsInHanded {} Tryd.checked os 6 .any (fun w args => (Rows.fnExactCellsFitSpec.pre enc Tryd.prog Tryd.f6 [] false w args ∧ laidMetH Tryd.prog Rows.fnExactCellsFitRow.laid w) ∧ sizedMet enc Tryd.prog Tryd.f6 (OpenSpec.ofChange Rows.fnExactCellsFitSpec) false w args)
      (Rows.fnExactCellsFitSpec.post enc Tryd.prog Tryd.f6 false true false false) := by
  refine returnsInHanded_of_change_and (C := Tryd.checked) (X := fun w _ => laidMetH Tryd.prog Rows.fnExactCellsFitRow.laid w) (fun _ _ _ hh h => h.of_heap hh) own started (by kernel_rfl) Tryd.func6
    (ChangeSpec.witness_shaped (enc := enc) (C := Tryd.checked) (os := os) (X := fun w _ => laidMetH Tryd.prog Rows.fnExactCellsFitRow.laid w) false (World.laidAll Tryd.prog os Rows.fnExactCellsFitRow.laid) #[.string ByteArray.empty, .slice none 0 0] 8 (World.laidAll_os _ _ _)
      (World.shaped_of_ZipB (by kernel_rfl) (by kernel_rfl)) (by kernel_rfl) (by kernel_rfl) (by kernel_rfl)
      (by rw [MakeChecks.laidMetH_plain _ _ _ (by kernel_rfl)]; exact laidMet_laidAll _ (by kernel_rfl) (by kernel_rfl))) ?_
  intro W base args ds gs before hval0 hW _ _ hL _
  have hval : ∀ (j : Nat) t v, Tryd.f6.params[j]? = some t → args[j]? = some v → Value.okWide Tryd.prog W .any base t v := hval0
  have hW' := hW
  obtain ⟨p, q, hA0, hV, rfl, _, _⟩ := hW
  have hA : DataW.TrodAll enc Tryd.prog W 0 (fun _ => true) true Tryd.f6.params.toList args.toList ds p := hA0
  rw [Tryd.params6] at hA hval
  obtain ⟨v0, vs0, d0, ds0, p0, q0, hargs, rfl, rfl, h0, r0⟩ := trodAll_cons hA
  obtain ⟨v1, vs1, d1', ds1, p1, q1, hargs1, rfl, rfl, h1, r1⟩ := trodAll_cons r0
  obtain ⟨rfl, rfl, rfl⟩ := trodAll_nil r1
  obtain rfl : args = #[v0, v1] := by cases args; simp_all
  obtain ⟨a0, rfl, rfl, rfl, w0⟩ := open_string Tryd.underlying9 (hval 0 9 v0 rfl rfl) h0
  simp only [List.append_nil] at hW'
  have hlt1 : ∀ x ∈ p1, x.block < W.heap.size := fun x hx => by simpa using hW'.lt x (by simp [hx])
  have hback : ∀ (W' : World), Below W.heap.size W W' → DataW.Trod enc Tryd.prog W' 0 (fun b => decide (b < W.heap.size)) true 25 v1 d1' p1 :=
    fun W' hn => Below.trod laidOut (by kernel_rfl) (of_decide_eq_true (by kernel_rfl)) h1 hn hlt1
  obtain ⟨qA, nA, cA, zA, rfl, hmA, haA⟩ := arg_of (hval 1 25 v1 rfl rfl) h1 hlt1
  have hE : Env W := env_of hL
  have hV2 := hV
  match gs, hV2 with
  | [d1, d2, d3, d4], _ =>
    refine (walk a0 w0 qA nA cA zA hmA W hE haA).mono fun e W' ⟨he, hg⟩ => ?_
    subst he
    exact ⟨_, rfl, _, _, _, [], p1, q, hW', trodAll_mk1 (shut_bool Tryd.underlying4 _), (by have h := (trodAll_cons_mk (shut_string Tryd.underlying9 w0) (trodAll_cons_mk (hback _ hg.below) trodAll_mk0)); simp only [List.append_nil, List.nil_append] at h; exact h), hg.below.trodVars laidOut (by kernel_rfl) hV, hg.below.frame _, fun h => by cases h⟩

theorem over : Rows.fnExactCellsFitRow.holds Tryd.pinned (OpenSpec.ofChange Rows.fnExactCellsFitSpec) :=
  OpenClaim.holds_of_wide 6 Tryd.f6 rfl rfl rfl rfl rfl rfl rfl ⟨rfl, rfl, rfl, rfl, rfl⟩ rfl rfl rfl rfl rfl (by kernel_rfl) Tryd.func6 (by kernel_rfl)
    (of_decide_eq_true (by kernel_rfl)) (by unfold Func.isWrapper; first | (rw [if_pos (by decide +kernel)]; kernel_rfl) | (rw [if_neg (by decide +kernel)]; exact ⟨rfl, rfl⟩))
    (fun os started H enc _ => lifted os started H enc)

/-- The statement: the card. -/
theorem proved : Rows.FnExactCellsFitCardSaid :=
  Claim7.holds_tied_plain_at .later [] [.data, .data, .data, .data, .sentinel, .sentinel, .sentinel, .sentinel, .sentinel, .sentinel, .pinned] true Rows.fnExactCellsFitCard.stood.harness true over (fun _ h => by cases h) (by kernel_rfl) (fun _ h => by cases h) fnExactCellsFit_row_tie rfl ⟨rfl, rfl⟩ (by kernel_rfl) rfl
    (fun f fn hf hfn => by
      obtain rfl : f = 6 := Option.some.inj ((show Tryd.prog.funcNamed "loop.example/endsoflife/laws.FnExactCellsFit" = some 6 by kernel_rfl).symm.trans hf) |>.symm
      obtain rfl : fn = Tryd.f6 := (Option.some.inj (Tryd.func6.symm.trans hfn)).symm
      exact ⟨by kernel_rfl, fun j t ht => by
        rw [Tryd.params6] at ht
        have hm : t ∈ [9, 25] := by simpa using Array.mem_of_getElem? ht
        have hall : ([9, 25].all fun u => !Tryd.prog.wantsStandIn u) = true := by kernel_rfl
        exact (show Tryd.prog.wantsStandIn t = false by simpa using List.all_eq_true.1 hall t hm)⟩)
    (by kernel_rfl)
#print axioms proved
end Go.Proofs.YthgocacabadflaaDoor.fnExactCellsFit
