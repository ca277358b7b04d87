/-
  Walks of the program's run: scope.
  Walks of the program's run: a step that is a value's, a leaving's, a scope's.
  Walks of the program's run: a step that is a branch.
  Walks of the program's run: a step that is a loop.
  Walks of the program's run: every step of a program.
-/
import Derived.Test.YtcohmhgmocdbfaaKgW
import Derived.Test.YtcohmhgmocdbfaaIjW
import Derived.StillTailTactics
namespace Go.Proofs.Ytcohmhgmocdbfaa
set_option linter.unusedVariables false
set_option linter.unusedSimpArgs false
open Go.RowKit

theorem around_set (ch ar ar' : ByteArray) (f : UInt8 → Nat) (m : Nat) (ve vv : Value) : (runCells ch ar f m ve vv).setIfInBounds 1 (.string ar') = runCells ch ar' f m ve vv := rfl

theorem RunAt.around {w : World} {own : Nat → Prop} {b : Nat} {s : St} {ar : List UInt8} {ve vv : Value} (h : RunAt w own b s ar ve vv) (ar' : List UInt8) : RunAt (w.setCell ⟨b, 1, none⟩ (.string ⟨ar'.toArray⟩)) own b s ar' ve vv :=
  h.stored (t := s) (ar' := ar') 1 (.string ⟨ar'.toArray⟩) (around_set _ _ _ _ _ _ _) rfl rfl

theorem bytes_app (x y : List UInt8) : (⟨x.toArray⟩ : ByteArray) ++ ⟨y.toArray⟩ = ⟨(x ++ y).toArray⟩ := by
  apply ByteArray.ext
  rw [ByteArray.data_append]
  simp

/-- Where a scope's body has come to its end. -/
structure Shuts (w : World) (own : Nat → Prop) (b g e : Nat) (t : St) (ar vs : List UInt8) (sa sv : ByteArray) : Prop where
  fin : ∀ own1 w3, Owns own own1 w w3 → w3.cell? ⟨g, 1, none⟩ = some (.int .i64 (e : Int)) ∧ w3.cell? ⟨g, 2, none⟩ = some (.string sv)
  come : ∀ own1 ve1 vv1 w3, Owns own own1 w w3 → RunAt w3 own1 b t (ar ++ vs) ve1 vv1 → Calls Try.prog 106 #[.pointer (some ⟨b, 0, none⟩), .int .i64 ((e : Int) - 1)] w3 (Runs w3 own1 b (t.comeBy (e - 1)) (ar ++ vs) (.tuple #[]))
  gone : ∀ own1 ve1 vv1 w3, Owns own own1 w w3 → RunAt w3 own1 b (t.comeBy (e - 1)) (ar ++ vs) ve1 vv1 → Calls Try.prog 128 #[.pointer (some ⟨b, 0, none⟩), .string sv] w3 (Runs w3 own1 b ((t.comeBy (e - 1)).destroyAll vs) (ar ++ vs) (.tuple #[]))
  back : ∀ own1 ve1 vv1 w3, Owns own own1 w w3 → RunAt w3 own1 b ((t.comeBy (e - 1)).destroyAll vs) (ar ++ vs) ve1 vv1 → w3.frozen? ⟨b, 1, none⟩ = false ∧ (∃ x, w3.cell? ⟨b, 1, none⟩ = some x) ∧
    Runs w own b ((t.comeBy (e - 1)).destroyAll vs) ar (.tuple #[]) (.returned (.tuple #[])) (w3.setCell ⟨b, 1, none⟩ (.string sa))

theorem shuts {w : World} {own : Nat → Prop} {b g k e : Nat} {t : St} {ar vs : List UInt8} {vx : Value} (hg : Blk w g #[i64 k, i64 e, str vs, vx] 62) (hgo : ¬ own g)
    (hv : t.vis.length ≤ 9000) (he : t.ev.length ≤ 800000) (h1 : 1 ≤ e) (hl : ∀ v ∈ vs, lett v) (hll : vs.length ≤ 80) : Shuts w own b g e t ar vs ⟨ar.toArray⟩ ⟨vs.toArray⟩ := by
  have e1 : ((e : Int) - 1) = ((e - 1 : Nat) : Int) := by omega
  refine ⟨fun own1 w3 ho => ⟨ho.cells hg hgo 1, ho.cells hg hgo 2⟩, fun own1 ve1 vv1 w3 ho hr => ?_, fun own1 ve1 vv1 w3 ho hr => ?_, fun own1 ve1 vv1 w3 ho hr => ?_⟩
  · rw [e1]; exact comeBy_any b t (ar ++ vs) ve1 vv1 own1 w3 hr ho.lt (e - 1) (by omega)
  · exact destroyAll_any b _ (ar ++ vs) ve1 vv1 own1 w3 hr ho.lt vs hl hll (by show t.ev.length ≤ 900000; omega)
  · refine ⟨hr.blk.free 1, ⟨_, (hr.blk.cell 1).trans rfl⟩, own1, ve1, vv1, rfl, ho.trans (owns_set hr.mine ho.lt 1 _), hr.around ar⟩

set_option maxRecDepth 100000 in
set_option maxHeartbeats 2000000 in
theorem scope_any (b : Nat) (s : St) (ar vs : List UInt8) (ve vv vx : Value) (own : Nat → Prop) (w : World) (h : RunAt w own b s ar ve vv) (hlt : ∀ k, own k → k < w.heap.size) (g k e : Nat) (o : Out)
    (hg : Blk w g #[i64 k, i64 e, str vs, vx] 62) (hgo : ¬ own g) (hv : o.st.vis.length ≤ 9000) (he : o.st.ev.length ≤ 800000) (h1 : 1 ≤ e) (h2 : e ≤ 1000) (hl : ∀ v ∈ vs, lett v) (hll : vs.length ≤ 80) (hal : ar.length ≤ 80)
    (hvx : ∃ a n c, vx = .slice a n c)
    (hsteps : ∀ w1, Owns own own w w1 → RunAt w1 own b s (ar ++ vs) ve vv → Calls Try.prog 110 #[.pointer (some ⟨b, 0, none⟩), vx] w1 (RunEnds w1 own b (ar ++ vs) o)) :
    Calls Try.prog 111 #[.pointer (some ⟨b, 0, none⟩), .pointer (some ⟨g, 0, none⟩)] w (RunEnds w own b ar (o.andThen (fun t => .go ((t.comeBy (e - 1)).destroyAll vs)))) := by
  obtain ⟨xa, xn, xc, rfl⟩ := hvx
  have o0 : Owns own own w w.drew := owns_drew (Owns.refl hlt)
  have r0 : w.cell? ⟨b, 1, none⟩ = some (.string ⟨ar.toArray⟩) := h.blk.cell 1
  have r1 : w.drew.cell? ⟨b, 1, none⟩ = some (.string ⟨ar.toArray⟩) := h.drew.blk.cell 1
  have z1 : w.drew.frozen? ⟨b, 1, none⟩ = false := h.drew.blk.free 1
  have g2 : w.drew.cell? ⟨g, 2, none⟩ = some (.string ⟨vs.toArray⟩) := o0.cells hg hgo 2
  have o1 := o0.trans (owns_set h.mine o0.lt 1 (.string ⟨(ar ++ vs).toArray⟩))
  have h1' := h.drew.around (ar ++ vs)
  have HS := Lib.hid (hsteps _ o1 h1')
  have y3 : (w.drew.setCell ⟨b, 1, none⟩ (.string ⟨(ar ++ vs).toArray⟩)).cell? ⟨g, 3, none⟩ = some (.slice xa xn xc) := o1.cells hg hgo 3
  have HO := Lib.hid o1
  have HT := Lib.hid (fun t hv he => shuts (ar := ar) (t := t) (b := b) hg hgo hv he h1 hl hll)
  have hba := bytes_app ar vs
  obtain ⟨sa, hsa⟩ : ∃ sa : ByteArray, sa = ⟨ar.toArray⟩ := ⟨_, rfl⟩
  obtain ⟨sv, hsv⟩ : ∃ sv : ByteArray, sv = ⟨vs.toArray⟩ := ⟨_, rfl⟩
  have hnl : ¬ 9223372036854775807 < sa.size + sv.size := by rw [hsa, hsv]; simp only [ByteArray.size, List.size_toArray]; omega
  rw [← hsa, ← hsv] at hba
  rw [← hba] at HS y3 HO
  rw [← hsa] at r0 r1
  rw [← hsv] at g2
  rw [← hsa, ← hsv] at HT
  clear h hg hgo hsteps o0 o1 h1' hsa hsv hba hl hll hlt
  cases o with
  | stop y t =>
    go_enter Try.func111, Try.ntmps111
    go_wp2_with fail
    refine wp_region_still_tail 9 (by kernel_rfl) (by kernel_rfl) ?_
    simp only [List.take_succ_cons, List.take_zero, List.drop_succ_cons, List.drop_zero]
    change wpStill _ _ (World.drew _) (fun a' => wpList _ _ _ _ a' (World.drew _)) _ _
    clear r0
    generalize w.drew = w0 at *
    still_step
    still_step
    still_step
    still_step
    still_step
    still_step
    still_step
    still_step
    still_step
    refine wpStill_nil ?_
    go_wp2_with (go_at_call 110; refine HS.out.mono ?_; rintro e3 w3 ⟨hth, own3, ar3, ve3, vv3, ho3, hr3⟩; obtain rfl := hth; have HE := Lib.hid (And.intro ho3 hr3); clear ho3 hr3)
    exact ⟨rfl, rfl, own3, ar3, ve3, vv3, HO.out.trans HE.out.1, HE.out.2⟩
  | go t =>
    have HU := Lib.hid (HT.out t hv he)
    clear HT hv he
    go_enter Try.func111, Try.ntmps111
    go_wp2_with fail
    refine wp_region_still_tail 9 (by kernel_rfl) (by kernel_rfl) ?_
    simp only [List.take_succ_cons, List.take_zero, List.drop_succ_cons, List.drop_zero]
    change wpStill _ _ (World.drew _) (fun a' => wpList _ _ _ _ a' (World.drew _)) _ _
    clear r0
    generalize w.drew = w0 at *
    repeat still_step
    refine wpStill_nil ?_
    go_wp2_with (first
      | (go_at_call 110; refine HS.out.mono ?_; rintro e3 w3 ⟨own3, ve3, vv3, rfl, ho3, hr3⟩; have ho3 := HO.out.trans ho3; have q1 := (HU.out.fin _ _ ho3).1; have HC := Lib.hid (HU.out.come _ _ _ _ ho3 hr3); have HE := Lib.hid ho3; clear ho3 hr3)
      | (go_at_call 129; refine (end_any g _ _ q1).mono ?_; rintro e4 w4 ⟨rfl, rfl⟩)
      | (go_at_call 106; refine HC.out.mono ?_; rintro e5 w5 ⟨own5, ve5, vv5, rfl, ho5, hr5⟩; have ho5 := HE.out.trans ho5; have q2 := (HU.out.fin _ _ ho5).2; have HD := Lib.hid (HU.out.gone _ _ _ _ ho5 hr5); have HE5 := Lib.hid ho5; clear ho5 hr5)
      | (go_at_call 128; refine HD.out.mono ?_; rintro e6 w6 ⟨own6, ve6, vv6, rfl, ho6, hr6⟩; have ho6 := HE5.out.trans ho6; have ⟨f1, ⟨x1, c1⟩, hb⟩ := HU.out.back _ _ _ _ ho6 hr6; have HB := Lib.hid hb; clear ho6 hr6 hb))
    go_end0
    exact HB.out

end Go.Proofs.Ytcohmhgmocdbfaa

namespace Go.Proofs.Ytcohmhgmocdbfaa
set_option linter.unusedVariables false
set_option linter.unusedSimpArgs false
open Go.RowKit


set_option maxRecDepth 100000 in
set_option maxHeartbeats 2000000 in
theorem step_V (b : Nat) (s : St) (ar : List UInt8) (ve vv : Value) (own : Nat → Prop) (w : World) (h : RunAt w own b s ar ve vv) (hlt : ∀ k, own k → k < w.heap.size) (hn : s.vis.length ≤ 1000000) (g k : Nat) (o : Out)
    (hg : w.cell? ⟨g, 0, none⟩ = some (.int .i64 (k : Int))) (hin : ∀ own1 ve1 vv1 w1, Owns own own1 w w1 → RunAt w1 own1 b (s.comeBy k) ar ve1 vv1 → Calls Try.prog 107 #[.pointer (some ⟨b, 0, none⟩), .pointer (some ⟨g, 0, none⟩)] w1 (RunEnds w1 own1 b ar o)) :
    Calls Try.prog 87 #[.pointer (some ⟨b, 0, none⟩), .iface 162 (.pointer (some ⟨g, 0, none⟩))] w (RunEnds w own b ar o) := by
  have HC := Lib.hid (comeBy_any b s ar ve vv own w h hlt k hn)
  have HI := Lib.hid hin
  have hbeg := begV g
  simp [go_sem] at hbeg
  have a0 := isVV (.pointer (some ⟨g, 0, none⟩))
  clear h hin hlt hn
  cases o with
  | stop y t =>
    go_enter Try.func87, Try.ntmps87
    go_wp2_with (first
      | (go_at_call 132; refine (begin_any g _ _ hg).mono ?_; rintro e w' ⟨rfl, rfl⟩)
      | (go_at_call 106; refine HC.out.mono ?_; rintro e1 w1 ⟨own1, ve1, vv1, rfl, ho1, hr1⟩; have HV := Lib.hid (HI.out _ _ _ _ ho1 hr1); have HO := Lib.hid ho1; clear ho1 hr1)
      | (go_at_call 107; refine HV.out.mono ?_; rintro e3 w3 ⟨hth, own3, ar3, ve3, vv3, ho3, hr3⟩; obtain rfl := hth; have HE := Lib.hid (And.intro ho3 hr3); clear ho3 hr3))
    exact ⟨rfl, rfl, own3, ar3, ve3, vv3, HO.out.trans HE.out.1, HE.out.2⟩
  | go t =>
    go_enter Try.func87, Try.ntmps87
    go_wp2_with (first
      | (go_at_call 132; refine (begin_any g _ _ hg).mono ?_; rintro e w' ⟨rfl, rfl⟩)
      | (go_at_call 106; refine HC.out.mono ?_; rintro e1 w1 ⟨own1, ve1, vv1, rfl, ho1, hr1⟩; have HV := Lib.hid (HI.out _ _ _ _ ho1 hr1); have HO := Lib.hid ho1; clear ho1 hr1)
      | (go_at_call 107; refine HV.out.mono ?_; rintro e3 w3 ⟨own3, ve3, vv3, rfl, ho3, hr3⟩; have HE := Lib.hid (And.intro ho3 hr3); clear ho3 hr3))
    go_end0
    exact ⟨own3, ve3, vv3, rfl, HO.out.trans HE.out.1, HE.out.2⟩

set_option maxRecDepth 100000 in
set_option maxHeartbeats 2000000 in
theorem step_L (b : Nat) (s : St) (ar : List UInt8) (ve vv : Value) (own : Nat → Prop) (w : World) (h : RunAt w own b s ar ve vv) (hlt : ∀ k, own k → k < w.heap.size) (hn : s.vis.length ≤ 1000000) (g k : Nat) (o : Out)
    (hg : w.cell? ⟨g, 0, none⟩ = some (.int .i64 (k : Int))) (hin : ∀ own1 ve1 vv1 w1, Owns own own1 w w1 → RunAt w1 own1 b (s.comeBy k) ar ve1 vv1 → Calls Try.prog 108 #[.pointer (some ⟨b, 0, none⟩), .pointer (some ⟨g, 0, none⟩)] w1 (RunEnds w1 own1 b ar o)) :
    Calls Try.prog 87 #[.pointer (some ⟨b, 0, none⟩), .iface 164 (.pointer (some ⟨g, 0, none⟩))] w (RunEnds w own b ar o) := by
  have HC := Lib.hid (comeBy_any b s ar ve vv own w h hlt k hn)
  have HI := Lib.hid hin
  have hbeg := begL g
  simp [go_sem] at hbeg
  have a0 := isLV (.pointer (some ⟨g, 0, none⟩))
  have a1 := isLL (.pointer (some ⟨g, 0, none⟩))
  clear h hin hlt hn
  cases o with
  | stop y t =>
    go_enter Try.func87, Try.ntmps87
    go_wp2_with (first
      | (go_at_call 132; refine (begin_any g _ _ hg).mono ?_; rintro e w' ⟨rfl, rfl⟩)
      | (go_at_call 106; refine HC.out.mono ?_; rintro e1 w1 ⟨own1, ve1, vv1, rfl, ho1, hr1⟩; have HV := Lib.hid (HI.out _ _ _ _ ho1 hr1); have HO := Lib.hid ho1; clear ho1 hr1)
      | (go_at_call 108; refine HV.out.mono ?_; rintro e3 w3 ⟨hth, own3, ar3, ve3, vv3, ho3, hr3⟩; obtain rfl := hth; have HE := Lib.hid (And.intro ho3 hr3); clear ho3 hr3))
    exact ⟨rfl, rfl, own3, ar3, ve3, vv3, HO.out.trans HE.out.1, HE.out.2⟩
  | go t =>
    go_enter Try.func87, Try.ntmps87
    go_wp2_with (first
      | (go_at_call 132; refine (begin_any g _ _ hg).mono ?_; rintro e w' ⟨rfl, rfl⟩)
      | (go_at_call 106; refine HC.out.mono ?_; rintro e1 w1 ⟨own1, ve1, vv1, rfl, ho1, hr1⟩; have HV := Lib.hid (HI.out _ _ _ _ ho1 hr1); have HO := Lib.hid ho1; clear ho1 hr1)
      | (go_at_call 108; refine HV.out.mono ?_; rintro e3 w3 ⟨own3, ve3, vv3, rfl, ho3, hr3⟩; have HE := Lib.hid (And.intro ho3 hr3); clear ho3 hr3))
    go_end0
    exact ⟨own3, ve3, vv3, rfl, HO.out.trans HE.out.1, HE.out.2⟩

set_option maxRecDepth 100000 in
set_option maxHeartbeats 2000000 in
theorem step_S (b : Nat) (s : St) (ar : List UInt8) (ve vv : Value) (own : Nat → Prop) (w : World) (h : RunAt w own b s ar ve vv) (hlt : ∀ k, own k → k < w.heap.size) (hn : s.vis.length ≤ 1000000) (g k : Nat) (o : Out)
    (hg : w.cell? ⟨g, 0, none⟩ = some (.int .i64 (k : Int))) (hin : ∀ own1 ve1 vv1 w1, Owns own own1 w w1 → RunAt w1 own1 b (s.comeBy k) ar ve1 vv1 → Calls Try.prog 111 #[.pointer (some ⟨b, 0, none⟩), .pointer (some ⟨g, 0, none⟩)] w1 (RunEnds w1 own1 b ar o)) :
    Calls Try.prog 87 #[.pointer (some ⟨b, 0, none⟩), .iface 56 (.pointer (some ⟨g, 0, none⟩))] w (RunEnds w own b ar o) := by
  have HC := Lib.hid (comeBy_any b s ar ve vv own w h hlt k hn)
  have HI := Lib.hid hin
  have hbeg := begS g
  simp [go_sem] at hbeg
  have a0 := isSV (.pointer (some ⟨g, 0, none⟩))
  have a1 := isSL (.pointer (some ⟨g, 0, none⟩))
  have a2 := isSB (.pointer (some ⟨g, 0, none⟩))
  have a3 := isSO (.pointer (some ⟨g, 0, none⟩))
  have a4 := isSS (.pointer (some ⟨g, 0, none⟩))
  clear h hin hlt hn
  cases o with
  | stop y t =>
    go_enter Try.func87, Try.ntmps87
    go_wp2_with (first
      | (go_at_call 132; refine (begin_any g _ _ hg).mono ?_; rintro e w' ⟨rfl, rfl⟩)
      | (go_at_call 106; refine HC.out.mono ?_; rintro e1 w1 ⟨own1, ve1, vv1, rfl, ho1, hr1⟩; have HV := Lib.hid (HI.out _ _ _ _ ho1 hr1); have HO := Lib.hid ho1; clear ho1 hr1)
      | (go_at_call 111; refine HV.out.mono ?_; rintro e3 w3 ⟨hth, own3, ar3, ve3, vv3, ho3, hr3⟩; obtain rfl := hth; have HE := Lib.hid (And.intro ho3 hr3); clear ho3 hr3))
    exact ⟨rfl, rfl, own3, ar3, ve3, vv3, HO.out.trans HE.out.1, HE.out.2⟩
  | go t =>
    go_enter Try.func87, Try.ntmps87
    go_wp2_with (first
      | (go_at_call 132; refine (begin_any g _ _ hg).mono ?_; rintro e w' ⟨rfl, rfl⟩)
      | (go_at_call 106; refine HC.out.mono ?_; rintro e1 w1 ⟨own1, ve1, vv1, rfl, ho1, hr1⟩; have HV := Lib.hid (HI.out _ _ _ _ ho1 hr1); have HO := Lib.hid ho1; clear ho1 hr1)
      | (go_at_call 111; refine HV.out.mono ?_; rintro e3 w3 ⟨own3, ve3, vv3, rfl, ho3, hr3⟩; have HE := Lib.hid (And.intro ho3 hr3); clear ho3 hr3))
    go_end0
    exact ⟨own3, ve3, vv3, rfl, HO.out.trans HE.out.1, HE.out.2⟩

end Go.Proofs.Ytcohmhgmocdbfaa

namespace Go.Proofs.Ytcohmhgmocdbfaa
set_option linter.unusedVariables false
set_option linter.unusedSimpArgs false
open Go.RowKit

set_option maxRecDepth 100000 in
set_option maxHeartbeats 2000000 in
theorem step_B_none (b : Nat) (s : St) (ar : List UInt8) (ve vv : Value) (own : Nat → Prop) (w : World) (h : RunAt w own b s ar ve vv) (hlt : ∀ k, own k → k < w.heap.size) (hn : s.vis.length ≤ 1000000) (hch : s.ch.length ≤ 1000) (g k : Nat)
    (hg : w.cell? ⟨g, 0, none⟩ = some (.int .i64 (k : Int))) (hc : (s.comeBy k).choose 108 114 = none) :
    Calls Try.prog 87 #[.pointer (some ⟨b, 0, none⟩), .iface 67 (.pointer (some ⟨g, 0, none⟩))] w (RunEnds w own b ar (.stop (.stuck true) (s.comeBy k))) := by
  have HC := Lib.hid (comeBy_any b s ar ve vv own w h hlt k hn)
  have HI : Hid (∀ own1 ve1 vv1 w1, Owns own own1 w w1 → RunAt w1 own1 b (s.comeBy k) ar ve1 vv1 → Calls Try.prog 109 #[.pointer (some ⟨b, 0, none⟩), .string ⟨#[108, 114]⟩] w1 (fun e w' => Thrown (.stuck true) e ∧ RunAt w' own1 b (s.comeBy k) ar ve1 vv1 ∧ w' = w1)) := fun own1 ve1 vv1 w1 ho hr =>
    (choose_none b (s.comeBy k) ar ve1 vv1 own1 w1 hr true hc hch).mono (fun e w' q => by obtain ⟨q1, rfl⟩ := q; exact ⟨q1, hr, rfl⟩)
  have hbeg := begB g
  simp [go_sem] at hbeg
  have a0 := isBV (.pointer (some ⟨g, 0, none⟩))
  have a1 := isBL (.pointer (some ⟨g, 0, none⟩))
  have a2 := isBB (.pointer (some ⟨g, 0, none⟩))
  clear h hlt hn hch hc
  go_enter Try.func87, Try.ntmps87
  go_wp2_with (first
    | (go_at_call 132; refine (begin_any g _ _ hg).mono ?_; rintro e w' ⟨rfl, rfl⟩)
    | (go_at_call 106; refine HC.out.mono ?_; rintro e1 w1 ⟨own1, ve1, vv1, rfl, ho1, hr1⟩; have HV := Lib.hid (HI.out _ _ _ _ ho1 hr1); have HO := Lib.hid ho1; clear ho1 hr1)
    | (go_at_call 109; refine HV.out.mono ?_; rintro e3 w3 ⟨hth, hr3, rfl⟩; obtain rfl := hth; have HE := Lib.hid hr3; clear hr3))
  exact ⟨rfl, rfl, own1, ar, ve1, vv1, HO.out, HE.out⟩

set_option maxRecDepth 100000 in
set_option maxHeartbeats 2000000 in
theorem step_B_left (b : Nat) (s : St) (ar : List UInt8) (ve vv : Value) (own : Nat → Prop) (w : World) (h : RunAt w own b s ar ve vv) (hlt : ∀ k, own k → k < w.heap.size) (hn : s.vis.length ≤ 1000000) (hch : s.ch.length ≤ 1000) (g k : Nat)
    (hg : w.cell? ⟨g, 0, none⟩ = some (.int .i64 (k : Int))) (s' : St) (hc : (s.comeBy k).choose 108 114 = some (108, s')) (o : Out) (vx : Value) (hvx : ∃ a n c, vx = .slice a n c)
    (hcell : ∀ own1 w1, Owns own own1 w w1 → w1.cell? ⟨g, 2, none⟩ = some vx) (hin : ∀ own1 ve1 vv1 w1, Owns own own1 w w1 → RunAt w1 own1 b s' ar ve1 vv1 → Calls Try.prog 110 #[.pointer (some ⟨b, 0, none⟩), vx] w1 (RunEnds w1 own1 b ar o)) :
    Calls Try.prog 87 #[.pointer (some ⟨b, 0, none⟩), .iface 67 (.pointer (some ⟨g, 0, none⟩))] w (RunEnds w own b ar o) := by
  obtain ⟨xa, xn, xc, rfl⟩ := hvx
  have HC := Lib.hid (comeBy_any b s ar ve vv own w h hlt k hn)
  have HI : Hid (∀ own1 ve1 vv1 w1, Owns own own1 w w1 → RunAt w1 own1 b (s.comeBy k) ar ve1 vv1 → Calls Try.prog 109 #[.pointer (some ⟨b, 0, none⟩), .string ⟨#[108, 114]⟩] w1 (Runs w own b s' ar (.int .u8 108))) := fun own1 ve1 vv1 w1 ho hr =>
    (choose_ok b (s.comeBy k) ar ve1 vv1 own1 w1 hr ho.lt true 108 s' hc hch).mono (fun e w' q => Runs.after ho q)
  have HJ := Lib.hid hin
  have HL := Lib.hid hcell
  have hbeg := begB g
  simp [go_sem] at hbeg
  have a0 := isBV (.pointer (some ⟨g, 0, none⟩))
  have a1 := isBL (.pointer (some ⟨g, 0, none⟩))
  have a2 := isBB (.pointer (some ⟨g, 0, none⟩))
  clear h hlt hn hch hc hin hcell
  cases o with
  | stop y t =>
    go_enter Try.func87, Try.ntmps87
    go_wp2_with (first
      | (go_at_call 132; refine (begin_any g _ _ hg).mono ?_; rintro e w' ⟨rfl, rfl⟩)
      | (go_at_call 106; refine HC.out.mono ?_; rintro e1 w1 ⟨own1, ve1, vv1, rfl, ho1, hr1⟩; have HV := Lib.hid (HI.out _ _ _ _ ho1 hr1); have HO := Lib.hid ho1; clear ho1 hr1)
      | (go_at_call 109; refine HV.out.mono ?_; rintro e2 w2 ⟨own2, ve2, vv2, rfl, ho2, hr2⟩; have y2 := HL.out _ _ ho2; have HS := Lib.hid (HJ.out _ _ _ _ ho2 hr2); have HO2 := Lib.hid ho2; clear ho2 hr2)
      | (go_at_call 110; refine HS.out.mono ?_; rintro e3 w3 ⟨hth, own3, ar3, ve3, vv3, ho3, hr3⟩; obtain rfl := hth; have HE := Lib.hid (And.intro ho3 hr3); clear ho3 hr3))
    exact ⟨rfl, rfl, own3, ar3, ve3, vv3, HO2.out.trans HE.out.1, HE.out.2⟩
  | go t =>
    go_enter Try.func87, Try.ntmps87
    go_wp2_with (first
      | (go_at_call 132; refine (begin_any g _ _ hg).mono ?_; rintro e w' ⟨rfl, rfl⟩)
      | (go_at_call 106; refine HC.out.mono ?_; rintro e1 w1 ⟨own1, ve1, vv1, rfl, ho1, hr1⟩; have HV := Lib.hid (HI.out _ _ _ _ ho1 hr1); have HO := Lib.hid ho1; clear ho1 hr1)
      | (go_at_call 109; refine HV.out.mono ?_; rintro e2 w2 ⟨own2, ve2, vv2, rfl, ho2, hr2⟩; have y2 := HL.out _ _ ho2; have HS := Lib.hid (HJ.out _ _ _ _ ho2 hr2); have HO2 := Lib.hid ho2; clear ho2 hr2)
      | (go_at_call 110; refine HS.out.mono ?_; rintro e3 w3 ⟨own3, ve3, vv3, rfl, ho3, hr3⟩; have HE := Lib.hid (And.intro ho3 hr3); clear ho3 hr3))
    go_end0
    exact ⟨own3, ve3, vv3, rfl, HO2.out.trans HE.out.1, HE.out.2⟩

set_option maxRecDepth 100000 in
set_option maxHeartbeats 2000000 in
theorem step_B_right (b : Nat) (s : St) (ar : List UInt8) (ve vv : Value) (own : Nat → Prop) (w : World) (h : RunAt w own b s ar ve vv) (hlt : ∀ k, own k → k < w.heap.size) (hn : s.vis.length ≤ 1000000) (hch : s.ch.length ≤ 1000) (g k : Nat)
    (hg : w.cell? ⟨g, 0, none⟩ = some (.int .i64 (k : Int))) (s' : St) (hc : (s.comeBy k).choose 108 114 = some (114, s')) (o : Out) (vx : Value) (hvx : ∃ a n c, vx = .slice a n c)
    (hcell : ∀ own1 w1, Owns own own1 w w1 → w1.cell? ⟨g, 3, none⟩ = some vx) (hin : ∀ own1 ve1 vv1 w1, Owns own own1 w w1 → RunAt w1 own1 b s' ar ve1 vv1 → Calls Try.prog 110 #[.pointer (some ⟨b, 0, none⟩), vx] w1 (RunEnds w1 own1 b ar o)) :
    Calls Try.prog 87 #[.pointer (some ⟨b, 0, none⟩), .iface 67 (.pointer (some ⟨g, 0, none⟩))] w (RunEnds w own b ar o) := by
  obtain ⟨xa, xn, xc, rfl⟩ := hvx
  have HC := Lib.hid (comeBy_any b s ar ve vv own w h hlt k hn)
  have HI : Hid (∀ own1 ve1 vv1 w1, Owns own own1 w w1 → RunAt w1 own1 b (s.comeBy k) ar ve1 vv1 → Calls Try.prog 109 #[.pointer (some ⟨b, 0, none⟩), .string ⟨#[108, 114]⟩] w1 (Runs w own b s' ar (.int .u8 114))) := fun own1 ve1 vv1 w1 ho hr =>
    (choose_ok b (s.comeBy k) ar ve1 vv1 own1 w1 hr ho.lt true 114 s' hc hch).mono (fun e w' q => Runs.after ho q)
  have HJ := Lib.hid hin
  have HL := Lib.hid hcell
  have hbeg := begB g
  simp [go_sem] at hbeg
  have a0 := isBV (.pointer (some ⟨g, 0, none⟩))
  have a1 := isBL (.pointer (some ⟨g, 0, none⟩))
  have a2 := isBB (.pointer (some ⟨g, 0, none⟩))
  clear h hlt hn hch hc hin hcell
  cases o with
  | stop y t =>
    go_enter Try.func87, Try.ntmps87
    go_wp2_with (first
      | (go_at_call 132; refine (begin_any g _ _ hg).mono ?_; rintro e w' ⟨rfl, rfl⟩)
      | (go_at_call 106; refine HC.out.mono ?_; rintro e1 w1 ⟨own1, ve1, vv1, rfl, ho1, hr1⟩; have HV := Lib.hid (HI.out _ _ _ _ ho1 hr1); have HO := Lib.hid ho1; clear ho1 hr1)
      | (go_at_call 109; refine HV.out.mono ?_; rintro e2 w2 ⟨own2, ve2, vv2, rfl, ho2, hr2⟩; have y2 := HL.out _ _ ho2; have HS := Lib.hid (HJ.out _ _ _ _ ho2 hr2); have HO2 := Lib.hid ho2; clear ho2 hr2)
      | (go_at_call 110; refine HS.out.mono ?_; rintro e3 w3 ⟨hth, own3, ar3, ve3, vv3, ho3, hr3⟩; obtain rfl := hth; have HE := Lib.hid (And.intro ho3 hr3); clear ho3 hr3))
    exact ⟨rfl, rfl, own3, ar3, ve3, vv3, HO2.out.trans HE.out.1, HE.out.2⟩
  | go t =>
    go_enter Try.func87, Try.ntmps87
    go_wp2_with (first
      | (go_at_call 132; refine (begin_any g _ _ hg).mono ?_; rintro e w' ⟨rfl, rfl⟩)
      | (go_at_call 106; refine HC.out.mono ?_; rintro e1 w1 ⟨own1, ve1, vv1, rfl, ho1, hr1⟩; have HV := Lib.hid (HI.out _ _ _ _ ho1 hr1); have HO := Lib.hid ho1; clear ho1 hr1)
      | (go_at_call 109; refine HV.out.mono ?_; rintro e2 w2 ⟨own2, ve2, vv2, rfl, ho2, hr2⟩; have y2 := HL.out _ _ ho2; have HS := Lib.hid (HJ.out _ _ _ _ ho2 hr2); have HO2 := Lib.hid ho2; clear ho2 hr2)
      | (go_at_call 110; refine HS.out.mono ?_; rintro e3 w3 ⟨own3, ve3, vv3, rfl, ho3, hr3⟩; have HE := Lib.hid (And.intro ho3 hr3); clear ho3 hr3))
    go_end0
    exact ⟨own3, ve3, vv3, rfl, HO2.out.trans HE.out.1, HE.out.2⟩

end Go.Proofs.Ytcohmhgmocdbfaa

namespace Go.Proofs.Ytcohmhgmocdbfaa
set_option linter.unusedVariables false
set_option linter.unusedSimpArgs false
open Go.RowKit

/-- Room for the rounds of a loop. -/
structure RoomL (m : Nat) (s : St) : Prop where
  vis : s.vis.length + 2 * (m * s.ch.length) ≤ 8000
  ev : s.ev.length ≤ 100 * s.vis.length
  made : s.made ≤ s.vis.length
  ch : s.ch.length ≤ 20

theorem RoomL.round {m : Nat} {s s' : St} {c : UInt8} (h : RoomL m s) (hc : s.choose 101 109 = some (c, s')) : Room m s' := by
  obtain ⟨h1, h2, h3⟩ := choose_some hc
  have hl : s.ch.length = s'.ch.length + 1 := by rw [h1]; simp
  have e1 : s'.vis = s.vis := by rw [h3]
  have e2 : s'.ev = s.ev := by rw [h3]
  have e3 : s'.made = s.made := by rw [h3]
  have hm : m * s.ch.length = m * s'.ch.length + m := by rw [hl, Nat.mul_succ]
  exact ⟨by have := h.vis; rw [e1]; omega, by rw [e1, e2]; exact h.ev, by rw [e1, e3]; exact h.made, by have := h.ch; omega⟩

theorem Room.behind {m : Nat} {s t : St} (h : Room m s) (a : Adds m s t) : RoomL m t :=
  ⟨by have := h.vis; have := a.vis; omega, by have := a.ev; have := h.ev; omega, by have := a.made; have := h.made; omega, Nat.le_trans a.ch h.ch⟩

/-- What the loop over the rounds holds. -/
def LoopRel (w : World) (own : Nat → Prop) (b m : Nat) (ar : List UInt8) (body : St → Out) (o : Out) (wr : World) : Prop :=
  ∃ (n : Nat) (t : St) (own1 : Nat → Prop) (ve vv : Value), loopRun body n t = o ∧ t.ch.length < n ∧ Owns own own1 w wr ∧ RunAt wr own1 b t ar ve vv ∧ RoomL m t

/-- How many choices are left. -/
def leftIn (b : Nat) (wr : World) : Nat := match wr.cell? ⟨b, 0, none⟩ with | some (.string s) => s.size | _ => 0

theorem RunAt.left {w : World} {own : Nat → Prop} {b : Nat} {s : St} {ar : List UInt8} {ve vv : Value} (h : RunAt w own b s ar ve vv) : leftIn b w = s.ch.length := by
  have e : w.cell? ⟨b, 0, none⟩ = some (.string ⟨s.ch.toArray⟩) := h.blk.cell 0
  unfold leftIn
  rw [e]
  simp [ByteArray.size]

set_option maxRecDepth 100000 in
set_option maxHeartbeats 2000000 in
theorem step_O (b : Nat) (s : St) (ar : List UInt8) (ve vv : Value) (own : Nat → Prop) (w : World) (h : RunAt w own b s ar ve vv) (hlt : ∀ k, own k → k < w.heap.size) (hn : s.vis.length ≤ 1000000) (g k m : Nat)
    (hg : w.cell? ⟨g, 0, none⟩ = some (.int .i64 (k : Int))) (body : St → Out) (hroom : RoomL m (s.comeBy k)) (vx : Value) (hvx : ∃ a n c, vx = .slice a n c)
    (hcell : ∀ own1 w1, Owns own own1 w w1 → w1.cell? ⟨g, 2, none⟩ = some vx) (hadds : ∀ t, Adds m t (body t).st)
    (hin : ∀ t own1 ve1 vv1 w1, Room m t → Owns own own1 w w1 → RunAt w1 own1 b t ar ve1 vv1 → Calls Try.prog 110 #[.pointer (some ⟨b, 0, none⟩), vx] w1 (RunEnds w1 own1 b ar (body t))) :
    Calls Try.prog 87 #[.pointer (some ⟨b, 0, none⟩), .iface 68 (.pointer (some ⟨g, 0, none⟩))] w (RunEnds w own b ar (loopRun body ((s.comeBy k).ch.length + 1) (s.comeBy k))) := by
  obtain ⟨xa, xn, xc, rfl⟩ := hvx
  have HC := Lib.hid (comeBy_any b s ar ve vv own w h hlt k hn)
  have HJ := Lib.hid hin
  have HL := Lib.hid hcell
  have HA := Lib.hid hadds
  obtain ⟨o, ho⟩ : ∃ o, loopRun body ((s.comeBy k).ch.length + 1) (s.comeBy k) = o := ⟨_, rfl⟩
  rw [ho]
  have HP : Hid (∀ own1 ve1 vv1 w1, Owns own own1 w w1 → RunAt w1 own1 b (s.comeBy k) ar ve1 vv1 → LoopRel w own b m ar body o w1) := fun own1 ve1 vv1 w1 ho1 hr1 =>
    ⟨_, _, own1, ve1, vv1, ho, Nat.lt_succ_self _, ho1, hr1, hroom⟩
  have hbeg := begO g
  simp [go_sem] at hbeg
  have a0 := isOV (.pointer (some ⟨g, 0, none⟩))
  have a1 := isOL (.pointer (some ⟨g, 0, none⟩))
  have a2 := isOB (.pointer (some ⟨g, 0, none⟩))
  have a3 := isOO (.pointer (some ⟨g, 0, none⟩))
  clear h hlt hn hroom hcell hadds hin ho
  go_enter Try.func87, Try.ntmps87
  go_wp2_with (first
      | (go_at_call 132; refine (begin_any g _ _ hg).mono ?_; rintro e w ⟨rfl, rfl⟩)
      | (go_at_call 106; refine HC.out.mono ?_; rintro e1 w1 ⟨own1, ve1, vv1, rfl, ho1, hr1⟩; have HV := Lib.hid (HP.out _ _ _ _ ho1 hr1); clear ho1 hr1))
  go_loopw [] (fun wr => LoopRel w own b m ar body o wr) (fun wr => leftIn b wr)
  case atStart => exact HV.out
  case round =>
    clear HV
    obtain ⟨n, t, own1, ve1, vv1, hrun, hlt, ho1, hr1, hroom⟩ := hrel
    have hmes := hr1.left
    have y2 := HL.out _ _ ho1
    have hc20 := hroom.ch
    cases n with
    | zero => exact absurd hlt (Nat.not_lt_zero _)
    | succ n =>
      rw [loopRun] at hrun
      cases hc : t.choose 101 109 with
      | none =>
        rw [hc] at hrun
        simp only at hrun
        have HN := Lib.hid (choose_none b t ar ve1 vv1 own1 _ hr1 false hc (by omega))
        have HE := Lib.hid (And.intro ho1 hr1)
        subst hrun
        clear hmes hlt ho1 hr1 hroom hc y2 hc20
        go_wp2_with (go_at_call 109; refine HN.out.mono ?_; rintro e3 w3 ⟨hth, rfl⟩; obtain rfl := hth)
        exact ⟨rfl, rfl, own1, ar, ve1, vv1, HE.out.1, HE.out.2⟩
      | some p =>
        obtain ⟨c, s'⟩ := p
        rw [hc] at hrun
        simp only at hrun
        have HN := Lib.hid (choose_ok b t ar ve1 vv1 own1 _ hr1 ho1.lt false c s' hc (by omega))
        have hrd := hroom.round hc
        obtain ⟨hch, hcc, _⟩ := choose_some hc
        have hlen : t.ch.length = s'.ch.length + 1 := by rw [hch]; simp
        have HO := Lib.hid ho1
        by_cases hc9 : c = 109
        · subst hc9
          rw [if_pos rfl] at hrun
          have HB : Hid (∀ own2 ve2 vv2 w2, Owns own own2 w w2 → RunAt w2 own2 b s' ar ve2 vv2 → w2.cell? ⟨g, 2, none⟩ = some (.slice xa xn xc) ∧ Calls Try.prog 110 #[.pointer (some ⟨b, 0, none⟩), .slice xa xn xc] w2 (RunEnds w2 own2 b ar (body s'))) := fun own2 ve2 vv2 w2 ho2 hr2 =>
            ⟨HL.out _ _ ho2, HJ.out s' own2 ve2 vv2 w2 hrd ho2 hr2⟩
          have hba := HA.out s'
          cases hb : body s' with
          | stop y t2 =>
            rw [hb] at hrun HB
            simp only at hrun
            subst hrun
            clear hmes hlt ho1 hr1 hroom hc y2 hc20 hrd hch hcc hlen hba hb
            go_wp2_with (first
              | (go_at_call 109; refine HN.out.mono ?_; rintro e3 w3 ⟨own3, ve3, vv3, rfl, ho3, hr3⟩; have ho3 := HO.out.trans ho3; have ⟨y3, hs3⟩ := HB.out _ _ _ _ ho3 hr3; have HS := Lib.hid hs3; have HO3 := Lib.hid ho3; clear ho3 hr3 hs3)
              | (go_at_call 110; refine HS.out.mono ?_; rintro e4 w4 ⟨hth, own4, ar4, ve4, vv4, ho4, hr4⟩; obtain rfl := hth; have HE := Lib.hid (And.intro ho4 hr4); clear ho4 hr4))
            exact ⟨rfl, rfl, own4, ar4, ve4, vv4, HO3.out.trans HE.out.1, HE.out.2⟩
          | go t2 =>
            rw [hb] at hrun HB hba
            simp only at hrun
            have hch2 := hba.ch
            simp only [Out.st] at hch2 hba
            have HR : Hid (∀ own4 ve4 vv4 w4, Owns own own4 w w4 → RunAt w4 own4 b t2 ar ve4 vv4 → LoopRel w own b m ar body o w4 ∧ leftIn b w4 < t.ch.length) := fun own4 ve4 vv4 w4 ho4 hr4 =>
              ⟨⟨n, t2, own4, ve4, vv4, hrun, by omega, ho4, hr4, hrd.behind hba⟩, by rw [hr4.left]; omega⟩
            clear hlt ho1 hr1 hroom hc y2 hc20 hrd hch hcc hlen hba hb hch2
            go_wp2_with (first
              | (go_at_call 109; refine HN.out.mono ?_; rintro e3 w3 ⟨own3, ve3, vv3, rfl, ho3, hr3⟩; have ho3 := HO.out.trans ho3; have ⟨y3, hs3⟩ := HB.out _ _ _ _ ho3 hr3; have HS := Lib.hid hs3; have HO3 := Lib.hid ho3; clear ho3 hr3 hs3)
              | (go_at_call 110; refine HS.out.mono ?_; rintro e4 w4 ⟨own4, ve4, vv4, rfl, ho4, hr4⟩; have HE := Lib.hid (HR.out _ _ _ _ (HO3.out.trans ho4) hr4); clear ho4 hr4))
            go_roundw
            case rel => exact HE.out.1
            case measure => rw [hmes]; exact HE.out.2
        · rw [if_neg hc9] at hrun
          have hc1 : c = 101 := by rcases hcc with h | h; exact h; exact absurd h hc9
          subst hc1
          subst hrun
          clear hmes hlt ho1 hr1 hroom hc y2 hc20 hrd hch hcc hlen hc9
          go_wp2_with (go_at_call 109; refine HN.out.mono ?_; rintro e3 w3 ⟨own3, ve3, vv3, rfl, ho3, hr3⟩; have HE := Lib.hid (And.intro ho3 hr3); clear ho3 hr3)
          go_end0
          exact ⟨own3, ve3, vv3, rfl, HO.out.trans HE.out.1, HE.out.2⟩

end Go.Proofs.Ytcohmhgmocdbfaa

namespace Go.Proofs.Ytcohmhgmocdbfaa
set_option linter.unusedVariables false
set_option linter.unusedSimpArgs false
open Go.RowKit

mutual
/-- Every variable of a tree is a letter. -/
def Nd.Lett : Nd → Prop
  | .mk c k e vs ar bs => (∀ v ∈ vs, lett v) ∧ (∀ v ∈ ar, lett v) ∧ bs.Lett
def Nds.Lett : Nds → Prop
  | .nil => True
  | .cons x r => x.Lett ∧ r.Lett
def Bds.Lett : Bds → Prop
  | .nil => True
  | .cons x r => x.Lett ∧ r.Lett
end

theorem Nd.pre_pos : ∀ x : Nd, 1 ≤ x.pre.len
  | .mk c k e vs ar bs => by simp [Nd.pre, Nds.len]

theorem Nds.few : ∀ x : Nds, x.list.length ≤ x.pre.len
  | .nil => Nat.zero_le _
  | .cons x r => by
    have h1 := Nd.pre_pos x
    have h2 := Nds.few r
    have e1 : (Nds.cons x r).pre.len = x.pre.len + r.pre.len := by simp [Nds.pre, Nds.len_app]
    rw [e1]
    simp only [Nds.list, List.length_cons]
    omega

theorem Room.come {m : Nat} {s : St} (k : Nat) (h : Room (m + 1) s) : Room m (s.comeBy k) := by
  obtain ⟨c1, c2, c3, c4⟩ := comeBy_adds s k
  have h1 := h.vis
  rw [Nat.add_mul] at h1
  exact ⟨by rw [c2, ← c1]; omega, by rw [c3, ← c1]; have := h.ev; omega, by rw [c4, ← c1]; have := h.made; omega, by rw [c2]; exact h.ch⟩

theorem Room.loop {m : Nat} {s : St} (h : Room m s) : RoomL m s := ⟨by have := h.vis; omega, h.ev, h.made, h.ch⟩

theorem Room.chosen {m : Nat} {s s' : St} {a b c : UInt8} (h : Room m s) (hc : s.choose a b = some (c, s')) : Room m s' := by
  obtain ⟨h1, h2, h3⟩ := choose_some hc
  have hl : s.ch.length = s'.ch.length + 1 := by rw [h1]; simp
  have e1 : s'.vis = s.vis := by rw [h3]
  have e2 : s'.ev = s.ev := by rw [h3]
  have e3 : s'.made = s.made := by rw [h3]
  have hm : m * s.ch.length = m * s'.ch.length + m := by rw [hl, Nat.mul_succ]
  exact ⟨by have := h.vis; rw [e1]; omega, by rw [e1, e2]; exact h.ev, by rw [e1, e3]; exact h.made, by have := h.ch; omega⟩

theorem one_runs (b : Nat) (s : St) (ar : List UInt8) (ve vv : Value) (own : Nat → Prop) (w : World) (h : RunAt w own b s ar ve vv) (hlt : ∀ k, own k → k < w.heap.size) (hn : s.ev.length ≤ 900000) (hm : s.made ≤ 900000)
    (g k e : Nat) (c v u : UInt8) (hc : c = 43 ∨ c = 46 ∨ c = 45 ∨ c = 126) (hv : lett v) (hg : Blk w g #[i64 k, i64 e, u8 c, u8 v, u8 u] 175) (hgo : ¬ own g) :
    Calls Try.prog 107 #[.pointer (some ⟨b, 0, none⟩), .pointer (some ⟨g, 0, none⟩)] w (RunEnds w own b ar (s.one k c v)) := by
  rcases hc with rfl | rfl | rfl | rfl
  · exact value_make b s ar ve vv own w h hlt hn hm g k e v u hv hg hgo
  · exact value_use b s ar ve vv own w h hlt hn g k e v u hv hg
  · exact value_end b s ar ve vv own w h hlt hn g k e v u hv hg
  · exact value_drop b s ar ve vv own w h hlt hn g k e v u hv hg

/-- What a body's walk says. -/
theorem body_any {txt : ByteArray} (htxt : txt.size ≤ 80) (x : Nds) (sc : List UInt8) (d : Nat) (hx : x.Ok txt sc d) (hc : ∀ z ∈ x.list, StepC z) (t : St) (w : World) (own ok : Nat → Prop) (b n : Nat) (v ve vv : Value) (xs : List Value)
    (hrow : Row w ok 45 1 v n xs) (hrep : RepIL w ok x xs) (hok : ∀ k, ok k → k < w.heap.size ∧ ¬ own k) (h : RunAt w own b t sc ve vv) (hlt : ∀ k, own k → k < w.heap.size) (hroom : Room x.pre.len t) :
    Calls Try.prog 110 #[.pointer (some ⟨b, 0, none⟩), v] w (RunEnds w own b sc (Nds.run x t)) := by
  have hl := (RepIL.nth hrep).1
  have hn := hrow.1.1
  rw [Nat.mul_one] at hn
  have hf := Nds.few x
  have hr := hroom.vis
  exact steps_any x t sc w own ok b n v ve vv xs hrow hrep hok h hlt hroom (by omega) (by omega) (fun z hz => ⟨(Nds.Ok.mem hx z hz).1, hc z hz, fun s => Nd.adds htxt z d s (Nds.Ok.mem hx z hz).2⟩)

theorem own_body {w w1 : World} {own own1 ok : Nat → Prop} {x : Nds} {n : Nat} {v : Value} {xs : List Value} (ho : Owns own own1 w w1) (hok : ∀ k, ok k → k < w.heap.size ∧ ¬ own k) (hrow : Row w ok 45 1 v n xs) (hrep : RepIL w ok x xs) :
    Row w1 ok 45 1 v n xs ∧ RepIL w1 ok x xs ∧ ∀ k, ok k → k < w1.heap.size ∧ ¬ own1 k :=
  ⟨(hands_owns ho hok).row _ _ _ _ _ hrow, Hands.repIL (hands_owns ho hok) x xs hrep, ok_after ho hok⟩

mutual
theorem Nd.stepC {txt : ByteArray} (htxt : txt.size ≤ 80) : ∀ (x : Nd) (d : Nat), x.Ok txt d → x.Lett → StepC x
  | .mk c k e vs ar .nil, d, hx, hl => by
    intro s w own ok b v ve vv hrep hok h hlt hroom
    have hlen : (Nd.mk c k e vs ar .nil).pre.len = 0 + 1 := rfl
    rw [hlen] at hroom
    have hr0 := hroom.vis
    have hr1 := hroom.come k
    have he := hr1.ev
    have hm := hr1.made
    have hv := hr1.vis
    have hgd := hx.good
    have hgr := hgd.room
    have hge := hgd.le
    simp only [Nd.scope, Nd.vars, Nd.fin] at hgr hge
    simp only [Nd.Lett] at hl
    obtain ⟨hl1, hl2, _⟩ := hl
    simp only [RepI] at hrep
    obtain ⟨g, hg, h1⟩ := hrep
    obtain ⟨hgl, hgo⟩ := hok g hg
    rcases h1 with ⟨hc, t, rfl, rfl, hb⟩ | ⟨rfl, t, u, rfl, rfl, hb⟩ | ⟨hc, rfl, rfl, hb⟩
    · have hrun : (Nd.mk c k e [t] ar .nil).run s = (s.comeBy k).one k c t := by
        rw [Nd.run, if_neg (by rcases hc with h | h | h | h <;> rw [h] <;> decide), if_neg (by rcases hc with h | h | h | h <;> rw [h] <;> decide)]
      rw [hrun]
      refine step_V b s ar ve vv own w h hlt (by omega) g k _ (hb.cell 0) (fun own1 ve1 vv1 w1 ho hr => ?_)
      exact one_runs b _ ar ve1 vv1 own1 w1 hr ho.lt (by omega) (by omega) g k e c t 0 hc (hl1 t (by simp)) (ho.keeps.blk hb hgo) (ok_after ho hok g hg).2
    · have hrun : (Nd.mk 61 k e [t, u] ar .nil).run s = (s.comeBy k).two k t u := rfl
      rw [hrun]
      refine step_V b s ar ve vv own w h hlt (by omega) g k _ (hb.cell 0) (fun own1 ve1 vv1 w1 ho hr => ?_)
      exact value_move b _ ar ve1 vv1 own1 w1 hr ho.lt (by omega) g k e t u (hl1 t (by simp)) (hl1 u (by simp)) (ho.keeps.blk hb hgo) (ok_after ho hok g hg).2
    · have hrun : (Nd.mk c k e [] ar .nil).run s = .stop (if c = 94 then .ret else .fail) ((s.comeBy k).destroyAll ar) := by
        rcases hc with rfl | rfl <;> rfl
      rw [hrun]
      refine step_L b s ar ve vv own w h hlt (by omega) g k _ (hb.cell 0) (fun own1 ve1 vv1 w1 ho hr => ?_)
      exact leave_any b _ ar ve1 vv1 own1 w1 hr ho.lt hl2 (by omega) (by omega) g k e c (ho.keeps.blk hb hgo) (ok_after ho hok g hg).2 hc
  | .mk c k e vs ar (.cons x .nil), d, hx, hl => by
    intro s w own ok b v ve vv hrep hok h hlt hroom
    have hlen : (Nd.mk c k e vs ar (.cons x .nil)).pre.len = x.pre.len + 1 := by simp [Nd.pre, Bds.pre, Nds.len, Nds.len_app]
    rw [hlen] at hroom
    have hr0 := hroom.vis
    have hr1 := hroom.come k
    have hgd := hx.good
    have hgr := hgd.room
    have hge := hgd.le
    have hgl := hgd.lt
    simp only [Nd.scope, Nd.vars, Nd.fin, Nd.beg] at hgr hge hgl
    have hx' := hx
    simp only [Nd.Ok, Bds.Ok] at hx'
    have hxx := hx'.2.2.2.2.2.2.2.2.1
    simp only [Nd.Lett, Bds.Lett] at hl
    obtain ⟨hl1, hl2, hl3, _⟩ := hl
    have ih := Nds.stepC htxt x _ _ hxx hl3
    simp only [RepI] at hrep
    obtain ⟨vx, n, xs, ⟨g, hg, h1⟩, hrow, hrepx⟩ := hrep
    obtain ⟨hgl, hgo⟩ := hok g hg
    have hvx : ∃ a n c, vx = .slice a n c := by obtain ⟨a, c, e⟩ := row_shape hrow; exact ⟨a, n, c, e⟩
    rcases h1 with ⟨rfl, rfl, rfl, hb⟩ | ⟨rfl, rfl, hb⟩
    · have hrun : (Nd.mk 42 k e [] ar (.cons x .nil)).run s = loopRun (fun t => Nds.run x t) ((s.comeBy k).ch.length + 1) (s.comeBy k) := rfl
      rw [hrun]
      rw [List.append_nil] at hxx
      refine step_O b s ar ve vv own w h hlt (by omega) g k x.pre.len (hb.cell 0) _ hr1.loop vx hvx (fun own1 w1 ho => ho.cells hb hgo 2) (fun t => Nds.adds htxt x ar _ t hxx) (fun t own1 ve1 vv1 w1 hrm ho hr => ?_)
      obtain ⟨i1, i2, i3⟩ := own_body ho hok hrow hrepx
      exact body_any htxt x ar _ hxx ih t w1 own1 ok b n vx ve1 vv1 xs i1 i2 i3 hr ho.lt hrm
    · have hrun : (Nd.mk 123 k e vs ar (.cons x .nil)).run s = (Nds.run x (s.comeBy k)).andThen (fun t => .go ((t.comeBy (e - 1)).destroyAll vs)) := rfl
      rw [hrun]
      have hbe := hr1.behind (Nds.adds htxt x _ _ (s.comeBy k) hxx)
      have q1 := hbe.vis
      have q2 := hbe.ev
      refine step_S b s ar ve vv own w h hlt (by omega) g k _ (hb.cell 0) (fun own1 ve1 vv1 w1 ho hr => ?_)
      refine scope_any b (s.comeBy k) ar vs ve1 vv1 vx own1 w1 hr ho.lt g k e _ (ho.keeps.blk hb hgo) (ok_after ho hok g hg).2 (by omega) (by omega) (by omega) (by omega) hl1 (by omega) (by omega) hvx (fun w2 ho2 hr2 => ?_)
      obtain ⟨i1, i2, i3⟩ := own_body (ho.trans ho2) hok hrow hrepx
      exact body_any htxt x _ _ hxx ih (s.comeBy k) w2 own1 ok b n vx ve1 vv1 xs i1 i2 i3 hr2 ho2.lt hr1
  | .mk c k e vs ar (.cons x (.cons y .nil)), d, hx, hl => by
    intro s w own ok b v ve vv hrep hok h hlt hroom
    have hlen : (Nd.mk c k e vs ar (.cons x (.cons y .nil))).pre.len = (x.pre.len + y.pre.len) + 1 := by simp [Nd.pre, Bds.pre, Nds.len, Nds.len_app]
    rw [hlen] at hroom
    have hr0 := hroom.vis
    have hc0 := hroom.ch
    have hr1 := hroom.come k
    have hx' := hx
    simp only [Nd.Ok, Bds.Ok] at hx'
    have hxx := hx'.2.2.2.2.2.2.2.2.1
    have hyy := hx'.2.2.2.2.2.2.2.2.2.1
    simp only [Nd.Lett, Bds.Lett] at hl
    obtain ⟨hl1, hl2, hl3, hl4, _⟩ := hl
    have ihx := Nds.stepC htxt x _ _ hxx hl3
    have ihy := Nds.stepC htxt y _ _ hyy hl4
    simp only [RepI] at hrep
    obtain ⟨vx, vy, n, xs, m, ys, ⟨g, hg, rfl, rfl, rfl, hb⟩, ⟨hrx, hpx⟩, hry, hpy⟩ := hrep
    obtain ⟨hgl, hgo⟩ := hok g hg
    rw [List.append_nil] at hxx hyy
    have hvx : ∃ a n c, vx = .slice a n c := by obtain ⟨a, c, e⟩ := row_shape hrx; exact ⟨a, n, c, e⟩
    have hvy : ∃ a n c, vy = .slice a n c := by obtain ⟨a, c, e⟩ := row_shape hry; exact ⟨a, m, c, e⟩
    have hch : s.ch.length ≤ 1000 := by omega
    cases hc : (s.comeBy k).choose 108 114 with
    | none =>
      have hrun : (Nd.mk 63 k e [] ar (.cons x (.cons y .nil))).run s = .stop (.stuck true) (s.comeBy k) := by rw [Nd.run, hc]
      rw [hrun]
      exact step_B_none b s ar ve vv own w h hlt (by omega) hch g k (hb.cell 0) hc
    | some p =>
      obtain ⟨c', s'⟩ := p
      have hrun : (Nd.mk 63 k e [] ar (.cons x (.cons y .nil))).run s = if c' = 108 then Nds.run x s' else Nds.run y s' := by rw [Nd.run, hc]
      rw [hrun]
      obtain ⟨_, hcc, _⟩ := choose_some hc
      have hrs := hr1.chosen hc
      by_cases h8 : c' = 108
      · subst h8
        rw [if_pos rfl]
        refine step_B_left b s ar ve vv own w h hlt (by omega) hch g k (hb.cell 0) s' hc _ vx hvx (fun own1 w1 ho => ho.cells hb hgo 2) (fun own1 ve1 vv1 w1 ho hr => ?_)
        obtain ⟨i1, i2, i3⟩ := own_body ho hok hrx hpx
        exact body_any htxt x ar _ hxx ihx s' w1 own1 ok b n vx ve1 vv1 xs i1 i2 i3 hr ho.lt (hrs.less (by omega))
      · have h9 : c' = 114 := by rcases hcc with h | h; exact absurd h h8; exact h
        subst h9
        rw [if_neg h8]
        refine step_B_right b s ar ve vv own w h hlt (by omega) hch g k (hb.cell 0) s' hc _ vy hvy (fun own1 w1 ho => ho.cells hb hgo 3) (fun own1 ve1 vv1 w1 ho hr => ?_)
        obtain ⟨i1, i2, i3⟩ := own_body ho hok hry hpy
        exact body_any htxt y ar _ hyy ihy s' w1 own1 ok b m vy ve1 vv1 ys i1 i2 i3 hr ho.lt (hrs.less (by omega))
  | .mk _ _ _ _ _ (.cons _ (.cons _ (.cons _ _))), _, _, _ => by
    intro s w own ok b v ve vv hrep
    simp only [RepI] at hrep
theorem Nds.stepC {txt : ByteArray} (htxt : txt.size ≤ 80) : ∀ (x : Nds) (sc : List UInt8) (d : Nat), x.Ok txt sc d → x.Lett → ∀ z ∈ x.list, StepC z
  | .nil, _, _, _, _ => fun z hz => by cases hz
  | .cons x r, sc, d, hx, hl => by
    simp only [Nds.Ok] at hx
    simp only [Nds.Lett] at hl
    have h1 := Nd.stepC htxt x d hx.2.1 hl.1
    have h2 := Nds.stepC htxt r sc d hx.2.2 hl.2
    intro z hz
    rcases List.mem_cons.1 hz with e | hz
    · rw [e]; exact h1
    · exact h2 z hz
end

end Go.Proofs.Ytcohmhgmocdbfaa
