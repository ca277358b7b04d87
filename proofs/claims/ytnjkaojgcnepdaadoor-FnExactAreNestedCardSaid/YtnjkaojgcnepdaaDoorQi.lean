/-
  EventsValid, on both sides.
-/
import Derived.Test.YtnjkaojgcnepdaaDoorQh
namespace Go.Proofs.YtnjkaojgcnepdaaDoor
set_option linter.unusedVariables false
set_option linter.unusedSimpArgs false
open Go.RowKit

def ValidP (w : World) (b : Bool) (e : Ending) (w' : World) : Prop := e = .returned (.bool b) ∧ Keeps noB w w'

set_option maxHeartbeats 4000000 in
theorem valid_any (s : ByteArray) (hs : s.size ≤ 1048576) (w : World) (hE : Env w) : Calls Tryd.prog 12 #[.string s] w (ValidP w (readP s).isSome) := by
  have H := Lib.hid (historyOf_any s hs w hE)
  clear hE
  cases hr : readP s with
  | none =>
    rw [hr] at H
    go_enter Tryd.func12, Tryd.ntmps12
    go_wp2_with fail
    refine H.out.mono ?_
    rintro e w1 ⟨⟨tp, q, rfl⟩, q1⟩
    have HQ := Lib.hid q1
    clear q1
    go_wp2_with fail
    go_ret
    exact ⟨rfl, HQ.out⟩
  | some l =>
    rw [hr] at H
    go_enter Tryd.func12, Tryd.ntmps12
    go_wp2_with fail
    refine H.out.mono ?_
    rintro e w1 ⟨⟨H1, own, ve, vl, rfl, _, _⟩, q1⟩
    have HQ := Lib.hid q1
    clear q1
    go_wp2_with fail
    go_ret
    exact ⟨rfl, HQ.out⟩

set_option maxHeartbeats 4000000 in
theorem svalid_any (s : ByteArray) (hs : s.size ≤ 1048576) (w : World) : Calls Tryd.prog 11 #[.string s] w (ValidP w (readP s).isSome) := by
  have H := Lib.hid (read_any s hs w)
  go_enter Tryd.func11, Tryd.ntmps11
  go_wp2_with fail
  refine H.out.mono ?_
  rintro e w1 ⟨v, rfl, _, _, q1⟩
  have HQ := Lib.hid q1
  clear q1
  go_wp2_with fail
  go_ret
  exact ⟨rfl, HQ.out⟩

end Go.Proofs.YtnjkaojgcnepdaaDoor
