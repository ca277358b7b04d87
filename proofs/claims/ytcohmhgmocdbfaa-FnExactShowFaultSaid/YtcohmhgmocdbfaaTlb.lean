/-
  Walks of the model's run: ExitOf.
-/
import Derived.Test.YtcohmhgmocdbfaaTlW
import Derived.Test.YtcohmhgmocdbfaaPe
namespace Go.Proofs.Ytcohmhgmocdbfaa
set_option linter.unusedVariables false
set_option linter.unusedSimpArgs false
open Go.RowKit

/-- How l2Run ends, as far as the three faces look. -/
def RunEndsM (w : World) (ex fa : Int) (ok : Bool) (e : Ending) (w' : World) : Prop :=
  ∃ b, e = .returned (.tuple #[.pointer (some ⟨b, 0, none⟩), .bool ok]) ∧ Keeps noB w w' ∧ (ok = true → w'.cell? ⟨b, 10, none⟩ = some (.int .i64 ex) ∧ w'.cell? ⟨b, 11, none⟩ = some (.int .i64 fa))

theorem exF_right (o : Out) (h : o.right = true) : exF o = o.exit ∧ whereM o.why = o.faultAt := by
  cases o with
  | go t => exact ⟨rfl, rfl⟩
  | stop y t =>
    cases y with
    | ret => exact ⟨rfl, rfl⟩
    | fail => exact ⟨rfl, rfl⟩
    | fault k => exact ⟨rfl, rfl⟩
    | stuck br => cases h

theorem runM_ends (s C : ByteArray) (hs : s.size ≤ 1048576) (hC : C.size ≤ 1048576) (w : World) :
    ∃ ex fa ok, Calls Try.prog 59 #[.string s, .string C] w (RunEndsM w ex fa ok) ∧ rightP s C = ok ∧ exitP s C = (if ok then ex else 0) ∧ faultP s C = (if ok then fa else -1) := by
  have h := runM_any s C hs hC w
  unfold rightP exitP faultP
  cases hr : runP s C with
  | none =>
    rw [hr] at h
    refine ⟨0, 0, false, h.mono (fun e w' hq => ?_), rfl, rfl, rfl⟩
    obtain ⟨b, he, q⟩ := hq
    exact ⟨b, he, q, fun e => by cases e⟩
  | some o =>
    rw [hr] at h
    refine ⟨o.exit, o.faultAt, o.right, h.mono (fun e w' hq => ?_), rfl, rfl, rfl⟩
    obtain ⟨b, own', vv, he, q, hf, _⟩ := hq
    refine ⟨b, he, q, fun e => ?_⟩
    obtain ⟨h1, h2⟩ := exF_right o e
    have c1 := hf.blk.cell 10
    have c2 := hf.blk.cell 11
    rw [h1, h2] at c1 c2
    exact ⟨c1, c2⟩

set_option maxRecDepth 100000 in
set_option maxHeartbeats 1000000 in
theorem sexit_any (s C : ByteArray) (hs : s.size ≤ 1048576) (hC : C.size ≤ 1048576) (w : World) : Calls Try.prog 42 #[.string s, .string C] w (fun e w' => e = .returned (.int .i64 (exitP s C)) ∧ Keeps noB w w') := by
  obtain ⟨ex, fa, ok, hc, _, h1, _⟩ := runM_ends s C hs hC w
  rw [h1]
  have HC := Lib.hid hc
  clear hc h1
  cases ok with
  | false =>
    simp only [Bool.false_eq_true, if_false]
    go_enter Try.func42, Try.ntmps42
    go_wp2_with (go_at_call 59; refine HC.out.mono ?_; rintro e w1 ⟨b, rfl, q, _⟩; have HQ := Lib.hid q; clear q)
    go_ret
    exact ⟨rfl, HQ.out⟩
  | true =>
    simp only [if_true]
    go_enter Try.func42, Try.ntmps42
    go_wp2_with (go_at_call 59; refine HC.out.mono ?_; rintro e w1 ⟨b, rfl, q, hcs⟩; have ⟨y10, y11⟩ := hcs rfl; have HQ := Lib.hid q; clear q hcs)
    go_ret
    exact ⟨rfl, HQ.out⟩

end Go.Proofs.Ytcohmhgmocdbfaa
