/-
  'laws.FnExactNameOfFault' is proved true for every input, its card: the program's NameOfFault answers as the model's does, whatever the number; the table of words is tied to the program's text.
  Conditions: none of its own. How: the walk, at each of the four faults and at every other number.
-/
import Derived.Test.YtagfnbgnfmaihaaDoorRows
import Derived.Test.YtagfnbgnfmaihaaDoorCards
import Derived.Test.YtagfnbgnfmaihaaDoorTie
import Derived.WalkKit
import Derived.ProofKit
import Derived.OpenShut
import Derived.OpenVars
import Derived.LaidMore
import Derived.Handy
import Derived.Lay
import Derived.LaidOnce
import Derived.SevenTiedAt
namespace Go.Proofs.YtagfnbgnfmaihaaDoor.fnExactNameOfFault
set_option linter.unusedSimpArgs false
open Go.ChangeShapes Go.WideShapes Go.ChangeAt Go.RowKit
set_option linter.unusedVariables false

theorem own : ownKnob Tryd.prog.godebug = none := by kernel_rfl
theorem laidOut : laidOutB Tryd.prog = true := by kernel_rfl

theorem bytesOf {s : ByteArray} {l : List UInt8} (h : s.data.toList = l) : s = ⟨l.toArray⟩ := by
  subst h
  cases s
  simp

/-- What the row's premise says of the table. -/
theorem words {W : World} (h : laidMetH Tryd.prog Rows.fnExactNameOfFaultRow.laid W) : W.var? Tryd.prog "loop.example/endsoflife/impl.wordsOfFaults" = some #[.string ⟨#[110, 111, 110, 101]⟩, .string ⟨#[109, 97, 121, 98, 101]⟩, .string ⟨#[97, 108, 119, 97, 121, 115]⟩, .string ⟨#[100, 101, 97, 100]⟩] := by
  rw [MakeChecks.laidMetH_plain _ _ _ (by kernel_rfl)] at h
  obtain ⟨ps, ⟨g, t, cs, fuel, p, q, hg, ht, hv, hd, _, _⟩, _, _⟩ := h
  obtain rfl := Option.some.inj ((show Tryd.prog.globalNamed "loop.example/endsoflife/impl.wordsOfFaults" = some 0 by kernel_rfl).symm.trans hg)
  obtain rfl := Option.some.inj ((show (Tryd.prog.globals[0]?).map (·.type) = some 24 by kernel_rfl).symm.trans ht)
  have c5 : Tryd.prog.cellsOf 9 = 1 := by kernel_rfl
  have c29 : Tryd.prog.cellsOf 24 = 4 := by kernel_rfl
  obtain ⟨xs, m, _, ex, hlen, hl, hel⟩ := DataW.trod_array Tryd.underlying24 hd
  rw [c29] at hlen
  obtain ⟨l⟩ := cs
  match l, hlen with
  | [a, b, c, d], _ =>
    match xs, hl with
    | [x0, x1, x2, x3], _ =>
      have e3 := (DataW.agg.inj (Prod.mk.inj ex).1)
      simp only [List.map_cons, List.map_nil, List.cons.injEq, and_true] at e3
      have k0 := hel 0 (by omega); have k1 := hel 1 (by omega); have k2 := hel 2 (by omega); have k3 := hel 3 (by omega)
      rw [c5] at k0 k1 k2 k3
      obtain ⟨z0, a0, b0, _⟩ := DataW.trod_string Tryd.underlying9 k0
      obtain ⟨z1, a1, b1, _⟩ := DataW.trod_string Tryd.underlying9 k1
      obtain ⟨z2, a2, b2, _⟩ := DataW.trod_string Tryd.underlying9 k2
      obtain ⟨z3, a3, b3, _⟩ := DataW.trod_string Tryd.underlying9 k3
      rw [hv]
      simp at a0 a1 a2 a3 b0 b1 b2 b3
      obtain ⟨e0, e1, e2, e4⟩ := e3
      rw [b0] at e0; rw [b1] at e1; rw [b2] at e2; rw [b3] at e4
      have f0 := bytesOf (Lit.string.inj (DataW.lit.inj e0)).symm
      have f1 := bytesOf (Lit.string.inj (DataW.lit.inj e1)).symm
      have f2 := bytesOf (Lit.string.inj (DataW.lit.inj e2)).symm
      have f3 := bytesOf (Lit.string.inj (DataW.lit.inj e4)).symm
      rw [a0, a1, a2, a3, f0, f1, f2, f3]

/-! ### The walk. -/
set_option maxHeartbeats 1000000 in
theorem walk (a0 : Int) (w0 : (Lit.int .i64 a0).wf = true) (w : World)
    (k0 : w.cell? ⟨0, 0, none⟩ = some (.string ⟨#[110, 111, 110, 101]⟩))
    (k1 : w.cell? ⟨0, 1, none⟩ = some (.string ⟨#[109, 97, 121, 98, 101]⟩))
    (k2 : w.cell? ⟨0, 2, none⟩ = some (.string ⟨#[97, 108, 119, 97, 121, 115]⟩))
    (k3 : w.cell? ⟨0, 3, none⟩ = some (.string ⟨#[100, 101, 97, 100]⟩)) :
    Calls Tryd.prog 3 #[.int .i64 a0] w fun e w' => e = .returned (.bool true) ∧ Below w.heap.size w w' := by
  by_cases h0 : a0 = 0
  · subst h0
    go_enter Tryd.func3, Tryd.ntmps3
    go_wp2
    go_ret
    refine ⟨rfl, ?_⟩
    go_grown
  by_cases h1 : a0 = 1
  · subst h1
    go_enter Tryd.func3, Tryd.ntmps3
    go_wp2
    go_ret
    refine ⟨rfl, ?_⟩
    go_grown
  by_cases h2 : a0 = 2
  · subst h2
    go_enter Tryd.func3, Tryd.ntmps3
    go_wp2
    go_ret
    refine ⟨rfl, ?_⟩
    go_grown
  by_cases h3 : a0 = 3
  · subst h3
    go_enter Tryd.func3, Tryd.ntmps3
    go_wp2
    go_ret
    refine ⟨rfl, ?_⟩
    go_grown
  have e0 : (a0 == 0) = false := by simpa using h0
  have e1 : (a0 == 1) = false := by simpa using h1
  have e2 : (a0 == 2) = false := by simpa using h2
  have e3 : (a0 == 3) = false := by simpa using h3
  by_cases hn : 0 ≤ a0
  · have hg : ¬ a0 < 4 := by omega
    go_enter Tryd.func3, Tryd.ntmps3
    go_wp2
    go_ret
    refine ⟨rfl, ?_⟩
    go_grown
  · have hg : a0 < 4 := by omega
    go_enter Tryd.func3, Tryd.ntmps3
    go_wp2
    go_ret
    refine ⟨rfl, ?_⟩
    go_grown

/-! ### The row. -/
set_option maxRecDepth 100000 in
theorem lifted (os : Os) (started : os.Started) (H : Type) (enc : TypeId × Value → H) :
    ReturnsInHanded {} Tryd.checked os 3 .any (fun w args => (Rows.fnExactNameOfFaultSpec.pre enc Tryd.prog Tryd.f3 [] false w args ∧ laidMetH Tryd.prog Rows.fnExactNameOfFaultRow.laid w) ∧ sizedMet enc Tryd.prog Tryd.f3 (OpenSpec.ofChange Rows.fnExactNameOfFaultSpec) false w args)
      (Rows.fnExactNameOfFaultSpec.post enc Tryd.prog Tryd.f3 false true false false) := by
  refine returnsInHanded_of_change_and (C := Tryd.checked) (X := fun w _ => laidMetH Tryd.prog Rows.fnExactNameOfFaultRow.laid w) (fun _ _ _ hh h => h.of_heap hh) own started (by kernel_rfl) Tryd.func3
    (ChangeSpec.witness_shaped (enc := enc) (C := Tryd.checked) (os := os) (X := fun w _ => laidMetH Tryd.prog Rows.fnExactNameOfFaultRow.laid w) false (World.laidAll Tryd.prog os Rows.fnExactNameOfFaultRow.laid) #[.int .i64 0] 8 (World.laidAll_os _ _ _)
      (World.shaped_of_ZipB (by kernel_rfl) (by kernel_rfl)) (by kernel_rfl) (by kernel_rfl) (by kernel_rfl)
      (by rw [MakeChecks.laidMetH_plain _ _ _ (by kernel_rfl)]; exact laidMet_laidAll _ (by kernel_rfl) (by kernel_rfl))) ?_
  intro W base args ds gs before hval0 hW _ _ hL _
  have hval : ∀ (j : Nat) t v, Tryd.f3.params[j]? = some t → args[j]? = some v → Value.okWide Tryd.prog W .any base t v := hval0
  have hW' := hW
  obtain ⟨p, q, hA0, hV, rfl, _, _⟩ := hW
  have hA : DataW.TrodAll enc Tryd.prog W 0 (fun _ => true) true Tryd.f3.params.toList args.toList ds p := hA0
  rw [Tryd.params3] at hA hval
  obtain ⟨v0, d0, rfl, rfl, h0⟩ := trodAll_one hA
  obtain ⟨x, rfl, rfl, rfl, wx⟩ := open_int Tryd.underlying3 (hval 0 3 v0 rfl rfl) h0
  have hcell := fun j => World.var?_cell (show Tryd.prog.globalNamed "loop.example/endsoflife/impl.wordsOfFaults" = some 0 by kernel_rfl) (words hL) j
  have hV2 := hV
  match gs, hV2 with
  | [d1], _ =>
    refine (walk x wx W (hcell 0) (hcell 1) (hcell 2) (hcell 3)).mono fun e W' ⟨he, hb⟩ => ?_
    subst he
    exact ⟨_, rfl, _, _, _, [], [], q, hW', trodAll_mk1 (shut_bool Tryd.underlying4 _), trodAll_mk1 (shut_int Tryd.underlying3 wx), hb.trodVars laidOut (by kernel_rfl) hV, hb.frame _, fun h => by cases h⟩

theorem over : Rows.fnExactNameOfFaultRow.holds Tryd.pinned (OpenSpec.ofChange Rows.fnExactNameOfFaultSpec) :=
  OpenClaim.holds_of_wide 3 Tryd.f3 rfl rfl rfl rfl rfl rfl rfl ⟨rfl, rfl, rfl, rfl, rfl⟩ rfl rfl rfl rfl rfl (by kernel_rfl) Tryd.func3 (by kernel_rfl)
    (of_decide_eq_true (by kernel_rfl)) (by unfold Func.isWrapper; first | (rw [if_pos (by decide +kernel)]; kernel_rfl) | (rw [if_neg (by decide +kernel)]; exact ⟨rfl, rfl⟩))
    (fun os started H enc _ => lifted os started H enc)

/-- The statement: the card. -/
theorem proved : Rows.FnExactNameOfFaultCardSaid :=
  Claim7.holds_tied_plain_at .later [] [.data] true Rows.fnExactNameOfFaultCard.stood.harness false over (fun _ h => by cases h) (by kernel_rfl) (fun _ h => by cases h) fnExactNameOfFault_row_tie rfl ⟨rfl, rfl⟩ (by kernel_rfl) rfl
    (fun f fn hf hfn => by
      obtain rfl : f = 3 := Option.some.inj ((show Tryd.prog.funcNamed "loop.example/endsoflife/laws.FnExactNameOfFault" = some 3 by kernel_rfl).symm.trans hf) |>.symm
      obtain rfl : fn = Tryd.f3 := (Option.some.inj (Tryd.func3.symm.trans hfn)).symm
      exact ⟨by kernel_rfl, fun j t ht => by
        rw [Tryd.params3] at ht
        have hm : t ∈ [3] := by simpa using Array.mem_of_getElem? ht
        have hall : ([3].all fun u => !Tryd.prog.wantsStandIn u) = true := by kernel_rfl
        exact (show Tryd.prog.wantsStandIn t = false by simpa using List.all_eq_true.1 hall t hm)⟩)
    (by kernel_rfl)
#print axioms proved
end Go.Proofs.YtagfnbgnfmaihaaDoor.fnExactNameOfFault
