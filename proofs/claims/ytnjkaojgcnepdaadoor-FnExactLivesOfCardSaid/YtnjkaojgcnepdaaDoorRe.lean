/-
  LivesOf, on both sides.
-/
import Derived.Test.YtnjkaojgcnepdaaDoorQh
import Derived.Test.YtnjkaojgcnepdaaDoorRa
import Derived.Test.YtnjkaojgcnepdaaDoorRd
namespace Go.Proofs.YtnjkaojgcnepdaaDoor
set_option linter.unusedVariables false
set_option linter.unusedSimpArgs false
open Go.RowKit

def livesV : Option (List Ev) → List Lf
  | none => []
  | some l => livesL l

def LivesOfP (w : World) (r : Option (List Ev)) (e : Ending) (w' : World) : Prop :=
  ∃ v, e = .returned (.tuple #[v, .bool r.isSome]) ∧ LRow w' v (livesV r) ∧ (∀ g, v.ownBlock = some g → w.heap.size ≤ g) ∧ Keeps noB w w'

theorem livesV_len {s : ByteArray} : (livesV (readP s)).length ≤ 600 := by
  cases hr : readP s with
  | none => simp [livesV]
  | some l =>
    obtain ⟨hg, hl⟩ := readP_good hr
    have := hg.says.made
    have := hg.says.le
    show (livesL l).length ≤ 600
    omega

theorem livesOf_open {w w' : World} {r : Option (List Ev)} {e : Ending} (h : LivesOfP w r e w') :
    ∃ a c, e = .returned (.tuple #[.slice a (livesV r).length c, .bool r.isSome]) ∧ LRn w' (.slice a (livesV r).length c) (livesV r).length (livesV r) ∧ (∀ g, (Value.slice a (livesV r).length c).ownBlock = some g → w.heap.size ≤ g) ∧ Keeps noB w w' := by
  obtain ⟨v, rfl, hrow, hf, q⟩ := h
  obtain ⟨a, c, rfl⟩ := row_shape (ok := fun _ => True) ⟨hrow, fun _ _ => trivial⟩
  exact ⟨a, c, rfl, hrow, hf, q⟩

theorem resSLv (W : World) (v b : Value) (tmps : Array Value) (h2 : tmps.getD 2 undef = v) (h3 : tmps.getD 3 undef = b) : (results Tryd.f13 tmps).run Tryd.prog W = .ok (.tuple #[v, b]) W := by
  have h2' : tmps[2]?.getD undef = v := by simpa using h2
  have h3' : tmps[3]?.getD undef = b := by simpa using h3
  simp [results, Tryd.results13, go_sem, h2', h3']

set_option maxRecDepth 100000 in
set_option maxHeartbeats 4000000 in
theorem slivesOf_any (s : ByteArray) (hs : s.size ≤ 1048576) (w : World) : Calls Tryd.prog 13 #[.string s] w (LivesOfP w (readP s)) := by
  have H := Lib.hid (read_any s hs w)
  cases hr : readP s with
  | none =>
    rw [hr] at H
    go_enter Tryd.func13, Tryd.ntmps13
    go_wp2_with fail
    refine H.out.mono ?_
    rintro e w1 ⟨v, rfl, _, _, q1⟩
    have o1 := World.ownsRow_made w1 #[] 0 (e := 52) (size := 3) (Nat.zero_le _) (by simp [maxLen]) rfl
    have HQ := Lib.hid (And.intro q1 o1)
    clear q1 o1
    go_wp2_with fail
    refine bodyPost_ret (resSLv _ _ _ _ rfl rfl) rfl ?_
    exact ⟨_, rfl, HQ.out.2, fun g hg => by simp [Value.ownBlock] at hg; have := HQ.out.1.size; omega, HQ.out.1.alloc _⟩
  | some l =>
    obtain ⟨hg, hl⟩ := readP_good hr
    rw [hr] at H
    have HL := Lib.hid (fun v w h => lives_any v l hg hl w h)
    go_enter Tryd.func13, Tryd.ntmps13
    go_wp2_with fail
    refine H.out.mono ?_
    rintro e w1 ⟨v, rfl, hrow, _, q1⟩
    have HQ := Lib.hid q1
    have HRW := Lib.hid hrow
    clear q1 hrow
    go_wp2_with fail
    refine (HL.out _ _ HRW.out).mono ?_
    rintro e w2 ⟨v2, rfl, hrow2, hf2, q2⟩
    have HE : Hid (LivesOfP w (some l) (.returned (.tuple #[v2, .bool true])) w2) := ⟨_, rfl, hrow2, fun g hg => Nat.le_trans HQ.out.size (hf2 g hg), HQ.out.trans q2⟩
    clear hrow2 hf2 q2
    go_wp2_with fail
    refine bodyPost_ret (resSLv _ _ _ _ rfl rfl) rfl ?_
    exact HE.out

theorem resLv (W : World) (v b : Value) (tmps : Array Value) (h2 : tmps.getD 2 undef = v) (h3 : tmps.getD 3 undef = b) : (results Tryd.f14 tmps).run Tryd.prog W = .ok (.tuple #[v, b]) W := by
  have h2' : tmps[2]?.getD undef = v := by simpa using h2
  have h3' : tmps[3]?.getD undef = b := by simpa using h3
  simp [results, Tryd.results14, go_sem, h2', h3']

set_option maxRecDepth 100000 in
set_option maxHeartbeats 4000000 in
theorem livesOf_any (s : ByteArray) (hs : s.size ≤ 1048576) (w : World) (hE : Env w) : Calls Tryd.prog 14 #[.string s] w (LivesOfP w (readP s)) := by
  have H := Lib.hid (historyOf_any s hs w hE)
  clear hE
  cases hr : readP s with
  | none =>
    rw [hr] at H
    go_enter Tryd.func14, Tryd.ntmps14
    go_wp2_with fail
    refine H.out.mono ?_
    rintro e w1 ⟨⟨tp, q, rfl⟩, q1⟩
    have HQ := Lib.hid q1
    clear q1
    go_wp2_with fail
    refine bodyPost_ret (resLv _ _ _ _ rfl rfl) rfl ?_
    exact ⟨_, rfl, ⟨rfl, .inl ⟨rfl, rfl⟩⟩, fun g hg => by simp [Value.ownBlock] at hg, HQ.out⟩
  | some l =>
    rw [hr] at H
    go_enter Tryd.func14, Tryd.ntmps14
    go_wp2_with fail
    refine H.out.mono ?_
    rintro e w1 ⟨⟨H1, own, ve, vl, rfl, hh, ho⟩, q1⟩
    have b1 := hh.blk.cell 1
    simp at b1
    have HE : Hid (LivesOfP w (some l) (.returned (.tuple #[vl, .bool true])) w1) := ⟨_, rfl, hh.lfs, fun g hg => ho g (hh.ownL g hg).1, q1⟩
    clear q1 hh ho
    go_wp2_with fail
    refine bodyPost_ret (resLv _ _ _ _ rfl rfl) rfl ?_
    exact HE.out

end Go.Proofs.YtnjkaojgcnepdaaDoor
