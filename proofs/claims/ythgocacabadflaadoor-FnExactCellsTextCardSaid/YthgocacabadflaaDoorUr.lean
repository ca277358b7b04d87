/-
  CellsFor and CountCells, on both sides.
-/
import Derived.Test.YthgocacabadflaaDoorUq
namespace Go.Proofs.YthgocacabadflaaDoor
set_option linter.unusedVariables false
set_option linter.unusedSimpArgs false
open Go.RowKit

theorem resCellsFor (W : World) (v b : Value) (tmps : Array Value) (h2 : tmps.getD 2 undef = v) (h3 : tmps.getD 3 undef = b) : (results Tryd.f14 tmps).run Tryd.prog W = .ok (.tuple #[v, b]) W := by
  have h2' : tmps[2]?.getD undef = v := by simpa using h2
  have h3' : tmps[3]?.getD undef = b := by simpa using h3
  simp [results, Tryd.results14, go_sem, h2', h3']

theorem resSCellsFor (W : World) (v b : Value) (tmps : Array Value) (h2 : tmps.getD 2 undef = v) (h3 : tmps.getD 3 undef = b) : (results Tryd.f13 tmps).run Tryd.prog W = .ok (.tuple #[v, b]) W := by
  have h2' : tmps[2]?.getD undef = v := by simpa using h2
  have h3' : tmps[3]?.getD undef = b := by simpa using h3
  simp [results, Tryd.results13, go_sem, h2', h3']

set_option maxRecDepth 100000 in
set_option maxHeartbeats 8000000 in
theorem cellsFor_any (s : ByteArray) (hs : s.size ≤ 1048576) (w : World) (hE : Env w) : Calls Tryd.prog 14 #[.string s] w (NumsOfP w (cellsV freeN (readP s)) (readP s).isSome) := by
  have q0 : Keeps noB w (w.alloc (.cells #[.slice none 0 0, .int .i64 0] 56)) := (Keeps.refl _ _).alloc _
  have hsz : (w.alloc (.cells #[.slice none 0 0, .int .i64 0] 56)).heap.size = w.heap.size + 1 := World.size_alloc _ _
  have HC := Lib.hid (cellsByF_any s hs _ (hE.keeps q0 (fun _ _ e => e)) w.heap.size (fun k => k = w.heap.size) (free0 w _ (by kernel_rfl)) (fun k hk => by omega))
  have HQ := Lib.hid (And.intro q0 hsz)
  clear hE q0 hsz
  generalize cellsV freeN (readP s) = L at *
  generalize (readP s).isSome = bv at *
  go_enter Tryd.func14, Tryd.ntmps14
  go_wp2_with fail
  refine HC.out.mono ?_
  rintro e1 w1 ⟨v, rfl, hrow, hfr, q1⟩
  have HE : Hid (NumsOfP w L bv (.returned (.tuple #[v, .bool bv])) w1) := Lib.hid ⟨v, rfl, hrow, fun g hg => by have := hfr g hg; have := HQ.out.2; omega, HQ.out.1.transNew q1 (fun k hk e => by omega)⟩
  obtain ⟨a, c, rfl⟩ := hrow.shape
  clear hrow hfr q1
  go_wp2_with fail
  refine bodyPost_ret (resCellsFor _ _ _ _ rfl rfl) rfl ?_
  exact HE.out

set_option maxRecDepth 100000 in
set_option maxHeartbeats 8000000 in
theorem scellsFor_any (s : ByteArray) (hs : s.size ≤ 1048576) (w : World) : Calls Tryd.prog 13 #[.string s] w (NumsOfP w (cellsV freeN (readP s)) (readP s).isSome) := by
  have H := Lib.hid (read_any s hs w)
  cases hr : readP s with
  | none =>
    rw [hr] at H
    go_enter Tryd.func13, Tryd.ntmps13
    go_wp2_with fail
    refine H.out.mono ?_
    rintro e w1 ⟨v, rfl, _, _, q1⟩
    have o1 := World.ownsRow_made w1 #[] 0 (e := 3) (size := 1) (Nat.zero_le _) (by simp [maxLen]) rfl
    have HE : Hid (NumsOfP w [] false (.returned (.tuple #[.slice (some ⟨w1.heap.size, 0, none⟩) 0 0, .bool false])) (w1.alloc (.cells #[] 3))) := Lib.hid ⟨_, rfl, o1, fun g hg => by have := q1.size; simp [Value.ownBlock] at hg; omega, q1.alloc _⟩
    clear o1 q1
    go_wp2_with fail
    refine bodyPost_ret (resSCellsFor _ _ _ _ rfl rfl) rfl ?_
    exact HE.out
  | some l =>
    obtain ⟨hg, hl⟩ := readP_good hr
    rw [hr] at H
    show Calls _ _ _ _ (NumsOfP w (cellsS freeN l).O true)
    have HL := Lib.hid (fun v w h => scells_any v l hg hl w h)
    generalize (cellsS freeN l).O = L at *
    clear hg hl hr
    go_enter Tryd.func13, Tryd.ntmps13
    go_wp2_with fail
    refine H.out.mono ?_
    rintro e w1 ⟨v, rfl, hrow, _, q1⟩
    have HQ := Lib.hid q1
    have HRW := Lib.hid hrow
    clear q1 hrow
    go_wp2_with fail
    refine (HL.out _ _ HRW.out).mono ?_
    rintro e w2 ⟨v2, rfl, hrow2, hf2, q2⟩
    have HE : Hid (NumsOfP w L true (.returned (.tuple #[v2, .bool true])) w2) := Lib.hid ⟨v2, rfl, hrow2, fun g hg => Nat.le_trans HQ.out.size (hf2 g hg), HQ.out.trans q2⟩
    obtain ⟨a, c, rfl⟩ := hrow2.shape
    clear hrow2 hf2 q2
    go_wp2_with fail
    refine bodyPost_ret (resSCellsFor _ _ _ _ rfl rfl) rfl ?_
    exact HE.out

set_option maxRecDepth 100000 in
set_option maxHeartbeats 8000000 in
theorem countCells_any (s : ByteArray) (hs : s.size ≤ 1048576) (w : World) (hE : Env w) : Calls Tryd.prog 19 #[.string s] w (CountP w (countV freeN (readP s))) := by
  have HC := Lib.hid (cellsFor_any s hs w hE)
  obtain ⟨hb1, hb2⟩ := cellsV_bnd picks_free s
  have hv : countV freeN (readP s) = if (readP s).isSome = true then (cntN (cellsV freeN (readP s)) : Int) else -1 := by
    cases readP s <;> rfl
  rw [hv]
  have HB := Lib.hid (And.intro hb1 hb2)
  clear hE hb1 hb2 hv
  generalize cellsV freeN (readP s) = L at *
  generalize (readP s).isSome = bv at *
  obtain ⟨cv, hcv⟩ : ∃ cv : Int, cv = if bv = true then (cntN L : Int) else -1 := ⟨_, rfl⟩
  rw [← hcv]
  have HCV := Lib.hid hcv
  clear hcv
  go_enter Tryd.func19, Tryd.ntmps19
  go_wp2_with fail
  refine HC.out.mono ?_
  rintro e1 w1 ⟨v, rfl, hrow, hfr, q1⟩
  have HU := Lib.hid (countUp_any v L bv w1 hrow (by have := HB.out.1; omega) (fun c hc => by have := HB.out.2 c hc; omega))
  have HQ := Lib.hid q1
  obtain ⟨a, c, rfl⟩ := hrow.shape
  clear hrow hfr q1
  rw [← HCV.out] at HU
  go_wp2_with fail
  refine HU.out.mono ?_
  rintro e2 w2 ⟨rfl, q2⟩
  have HE := Lib.hid (HQ.out.trans q2)
  clear q2
  go_wp2_with fail
  go_ret
  exact ⟨rfl, HE.out⟩

set_option maxRecDepth 100000 in
set_option maxHeartbeats 8000000 in
theorem scountCells_any (s : ByteArray) (hs : s.size ≤ 1048576) (w : World) : Calls Tryd.prog 18 #[.string s] w (CountP w (countV freeN (readP s))) := by
  have H := Lib.hid (read_any s hs w)
  cases hr : readP s with
  | none =>
    rw [hr] at H
    go_enter Tryd.func18, Tryd.ntmps18
    go_wp2_with fail
    refine H.out.mono ?_
    rintro e w1 ⟨v, rfl, _, _, q1⟩
    have HQ := Lib.hid q1
    clear q1
    go_wp2_with fail
    go_ret
    exact ⟨rfl, HQ.out⟩
  | some l =>
    obtain ⟨hg, hl⟩ := readP_good hr
    rw [hr] at H
    show Calls _ _ _ _ (CountP w (cntN (cellsS freeN l).O : Int))
    have HL := Lib.hid (fun v w h => scells_any v l hg hl w h)
    have HB := Lib.hid (cellsO_len picks_free hg hl)
    generalize (cellsS freeN l).O = L at *
    clear hg hl hr
    go_enter Tryd.func18, Tryd.ntmps18
    go_wp2_with fail
    refine H.out.mono ?_
    rintro e w1 ⟨v, rfl, hrow, _, q1⟩
    have HQ := Lib.hid q1
    have HRW := Lib.hid hrow
    clear q1 hrow
    go_wp2_with fail
    refine (HL.out _ _ HRW.out).mono ?_
    rintro e w2 ⟨v2, rfl, hrow2, hf2, q2⟩
    have HU := Lib.hid (count_any v2 L w2 hrow2 (by have := HB.out.1; omega) (fun c hc => by have := HB.out.2 c hc; omega))
    have HQ2 := Lib.hid (HQ.out.trans q2)
    obtain ⟨a, c, rfl⟩ := hrow2.shape
    clear hrow2 hf2 q2
    go_wp2_with fail
    refine HU.out.mono ?_
    rintro e3 w3 ⟨rfl, rfl⟩
    go_wp2_with fail
    go_ret
    exact ⟨rfl, HQ2.out⟩

end Go.Proofs.YthgocacabadflaaDoor
