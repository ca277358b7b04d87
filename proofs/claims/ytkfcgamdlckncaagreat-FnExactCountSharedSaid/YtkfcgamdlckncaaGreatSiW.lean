/-
  Walks of the model's reader: step, loops that fall.
  Walks of the model's reader: step, branches.
  Walks of the model's reader: step, branches that fall at the second body.
-/
import Derived.Test.YtkfcgamdlckncaaGreatSgW
namespace Go.Proofs.YtkfcgamdlckncaaGreat
set_option linter.unusedVariables false
set_option linter.unusedSimpArgs false
open Go.RowKit

set_option maxRecDepth 100000 in
set_option maxHeartbeats 8000000 in
theorem sstep_loopno1 (ihb : SBodyBad) (b : Nat) (s : ByteArray) (k d : Nat) (ar : ByteArray) (w : World) (h : Sd w b s k false d) (hs : s.size ≤ 80) (hc : at? s k = some 42) (hc1 : at? s (k + 1) ≠ some 91) :
    Calls Tryz.prog 38 #[.pointer (some ⟨b, 0, none⟩), .string ar] w (BadStep b s d w) := by
  obtain ⟨i0, hi, hz0, hz1, hz2⟩ := info_parts Tryz.info57
  have HI := Lib.hid (And.intro hi (And.intro hz0 (And.intro hz1 hz2)))
  have HC1 := Lib.hid hc1
  have hlt0 := at?_lt hc
  have IH := Lib.hid (fun w1 r => ihb b s (k + 1) d ar 93 w1 r hs hlt0)
  clear hi hz0 hz1 hz2 ihb hc1 hlt0
  have c0 := h.c0
  have c1 := h.c1
  have f1 := Blk.free h 1
  have hb := h.lt
  have hb2 : ¬ b = w.heap.size := by omega
  have hb3 : ¬ b = w.heap.size + 1 := by omega
  have hb4 : ¬ b = w.heap.size + 1 + 1 := by omega
  have hb5 : ¬ b = w.heap.size + 2 := by omega
  have hl0 : b ≤ w.heap.size := by omega
  have hl1 : b ≤ w.heap.size + 1 := by omega
  have hl2 : b ≤ w.heap.size + 2 := by omega
  have hl3 : b < w.heap.size + 1 := by omega
  have hl4 : b < w.heap.size + 2 := by omega
  have hl5 : b < w.heap.size + 1 + 1 := by omega
  have hl6 : b < w.heap.size + 3 := by omega
  have hl7 : b < w.heap.size + 1 + 1 + 1 := by omega
  have hlt := at?_lt hc
  have hget := at?_get hc hlt
  have hkz : (k : Int) < 80 := by omega
  go_enter Tryz.func38, Tryz.ntmps38
  go_upto_region 1 with fail
  go_cut [5] (fun v5 wc => Cut1 b w s k d 42 ar v5 wc)
  case first =>
    go_region
    all_goals (go_wp2_with fail; go_meet)
    · exact cut1_a b s k d 42 ar w h
    · exact cut1_b b s k d 42 ar w h
  case rest =>
    clear hl0 hl1 hl2 hl3 hl4 hl5 hl6 hl7 hb2 hb3 hb4 hb5 c0 c1 f1 hget hc
    obtain ⟨g, vb, rfl, hns, hown, hfr⟩ := hcut
    obtain ⟨va, vc, rfl⟩ := row_slice (ok := fun _ => True) ⟨hown, fun _ _ => trivial⟩
    have HF := Lib.hid (And.intro hown hfr)
    clear hown hfr
    have e1 : ¬ b = g := by have := hns.hg; omega
    have e2 : ¬ g = b := by omega
    have e3 : ¬ w.heap.size = g := hns.hne
    have e4 : ¬ g = w.heap.size := by omega
    have e5 : ¬ b = w.heap.size := by omega
    have e6 : ¬ w.heap.size = b := by omega
    have n1 := hns.tick
    have d1 := hns.rd.c1
    have x1 := Blk.free hns.rd 1
    have g0 := n1.nod.cell 0
    simp [six] at g0
    go_wp2_with fail
    refine (is_no b s (k + 1) false d 91 _ n1.rd hs hlt HC1.out).mono ?_
    rintro e w2 ⟨rfl, r, q⟩
    have n2 := n1.moved r q
    have hb0 : BW w.heap.size g w (.slice va 0 vc) 0 [] wc := ⟨HF.out.1, HF.out.2⟩
    have hBW := hb0.keep (b := b) (((Keeps.refl (may3 b g w.heap.size) wc).atB).trans q.ofOne) hb
    obtain ⟨xs, hxs⟩ : ∃ xs : List Value, xs = [] := ⟨_, rfl⟩
    rw [← hxs] at hBW
    have HBW := Lib.hid hBW
    clear hb0 hBW hxs
    have HB := Lib.hid (IH.out w2.drew n2.rd)
    have x4 := n2.nod.cell 4
    simp [six] at x4
    have f4 := Blk.free n2.nod 4
    go_wp2_with fail
    obtain ⟨hi, hz0, hz1, hz2⟩ := HI.out
    go_region_law (first
      | (refine step_append_fresh rfl (.tmp 101) (.tmp 105) 50 rfl 57 i0 (.slice none 0 0) 1 24 Tryz.underlying50 hi hz0 hz1 hz2 rfl (by decide) (.slice va 0 vc) 0 xs (by simp [Act.eval, Act.put]) (HB3.out.own.alloc _) ⟨w3.heap.size, 0, none⟩ 1 1 [.slice ba bn bm] (by simp [Act.eval, Act.put]) rfl (cells_one _ _ _) (slice_oneCell _ _ _) (by unfold maxLen; omega) (by omega) ?_
         intro v4 w4 h4 hg4 hf4
         obtain ⟨a4, m4, rfl⟩ := row_slice (ok := fun _ => True) ⟨h4, fun _ _ => trivial⟩
         have n4 := HN3.out.grow HB3.out hg4
         have y4 : w4.cell? ⟨g, 4, none⟩ = some (.slice va 0 vc) := n4.nod.cell 4
         have z4 := Blk.free n4.nod 4
         have HF4 := Lib.hid (And.intro h4 (And.intro hg4 hf4))
         clear h4 hg4 hf4 n4)
      | (go_simp
         refine (HB.out).mono ?_
         rintro e w3 ⟨kb, ba, bn, bm, ⟨rfl, r3, q3⟩, hk3⟩
         have HN3 := Lib.hid ((n2.drewN 1).moved r3 q3)
         have HB3 := Lib.hid (HBW.out.keep (b := b) (((Keeps.refl (may3 b g w.heap.size) w2).drewN 1).trans q3.ofOne) hb)
         have hgl : g < w3.heap.size := HN3.out.nod.lt
         have x4' : w3.cell? ⟨g, 4, none⟩ = some (.slice va 0 vc) := HN3.out.nod.cell 4))
    all_goals
      obtain ⟨h4, hg4, hf4⟩ := HF4.out
      obtain ⟨n5, hW5⟩ := cutB_of HN3.out HB3.out h4 hg4 hf4
      have pz := n5.rd.c1
      have pw := (HN3.out.grow HB3.out hg4).rd.c1
      clear h4 hg4 hf4 hW5
      have m1 := n5.fin (kb : Int)
      have m2 := Blk.free n5.nod 2
      have m3 := n5.nod.cell 2
      have y0 := m1.nod.cell 0
      have y1 := m1.nod.cell 1
      have y2 := m1.nod.cell 2
      have y3 := m1.nod.cell 3
      have y4 := m1.nod.cell 4
      have y5 := m1.nod.cell 5
      have r0 := m1.res.cell 0
      have r1 := m1.res.cell 1
      have r2 := m1.res.cell 2
      have r3 := m1.res.cell 3
      have r4 := m1.res.cell 4
      have r5 := m1.res.cell 5
      have z := fun i => Blk.free m1.res i
      have p1 := n5.rd.c1
      simp [six] at m3 y0 y1 y2 y3 y4 y5 r0 r1 r2 r3 r4 r5
      go_wp2_with fail
      obtain ⟨d1, d2, d3, d4⟩ := m1.done
      refine bodyPost_ret (v := nodeV 42 k kb ⟨#[]⟩ a4 1 m4 ar) (res57 _ _ _ _ _ _ _ _ _ _ _ rfl d1) rfl ?_
      exact ⟨_, _, _, _, _, _, _, _, _, ⟨rfl, d2, d3⟩, hk3⟩

set_option maxRecDepth 100000 in
set_option maxHeartbeats 8000000 in
theorem sstep_loopno2 (n : Nat) (ih : SBodyOk n) (b : Nat) (s : ByteArray) (k d : Nat) (ar : ByteArray) (w : World) (h : Sd w b s k false d) (hs : s.size ≤ 80) (hc : at? s k = some 42) (har : ar.size ≤ k) (hd : d ≤ 4) (hn : 4 * (s.size - k) + 3 ≤ n + 2)
    (hc1 : at? s (k + 1) = some 91) (hx : stepsP s n ar.data.toList d 93 (k + 2) = none) :
    Calls Tryz.prog 38 #[.pointer (some ⟨b, 0, none⟩), .string ar] w (BadStep b s d w) := by
  obtain ⟨i0, hi, hz0, hz1, hz2⟩ := info_parts Tryz.info57
  have HI := Lib.hid (And.intro hi (And.intro hz0 (And.intro hz1 hz2)))
  have hlt1 := at?_lt hc1
  have HC1 := Lib.hid hc1
  have IH := Lib.hid (fun w1 r => ih b s (k + 2) d ar 93 w1 r hs (by omega) (by omega) hd (by omega))
  have HX := Lib.hid hx
  clear hi hz0 hz1 hz2 ih hn hx hc1
  have c0 := h.c0
  have c1 := h.c1
  have f1 := Blk.free h 1
  have hb := h.lt
  have hb2 : ¬ b = w.heap.size := by omega
  have hb3 : ¬ b = w.heap.size + 1 := by omega
  have hb4 : ¬ b = w.heap.size + 1 + 1 := by omega
  have hb5 : ¬ b = w.heap.size + 2 := by omega
  have hl0 : b ≤ w.heap.size := by omega
  have hl1 : b ≤ w.heap.size + 1 := by omega
  have hl2 : b ≤ w.heap.size + 2 := by omega
  have hl3 : b < w.heap.size + 1 := by omega
  have hl4 : b < w.heap.size + 2 := by omega
  have hl5 : b < w.heap.size + 1 + 1 := by omega
  have hl6 : b < w.heap.size + 3 := by omega
  have hl7 : b < w.heap.size + 1 + 1 + 1 := by omega
  have hlt := at?_lt hc
  have hget := at?_get hc hlt
  have hkz : (k : Int) < 80 := by omega
  go_enter Tryz.func38, Tryz.ntmps38
  go_upto_region 1 with fail
  go_cut [5] (fun v5 wc => Cut1 b w s k d 42 ar v5 wc)
  case first =>
    go_region
    all_goals (go_wp2_with fail; go_meet)
    · exact cut1_a b s k d 42 ar w h
    · exact cut1_b b s k d 42 ar w h
  case rest =>
    clear hl0 hl1 hl2 hl3 hl4 hl5 hl6 hl7 hb2 hb3 hb4 hb5 c0 c1 f1 hget hc
    obtain ⟨g, vb, rfl, hns, hown, hfr⟩ := hcut
    obtain ⟨va, vc, rfl⟩ := row_slice (ok := fun _ => True) ⟨hown, fun _ _ => trivial⟩
    have HF := Lib.hid (And.intro hown hfr)
    clear hown hfr
    have e1 : ¬ b = g := by have := hns.hg; omega
    have e2 : ¬ g = b := by omega
    have e3 : ¬ w.heap.size = g := hns.hne
    have e4 : ¬ g = w.heap.size := by omega
    have e5 : ¬ b = w.heap.size := by omega
    have e6 : ¬ w.heap.size = b := by omega
    have n1 := hns.tick
    have d1 := hns.rd.c1
    have x1 := Blk.free hns.rd 1
    have g0 := n1.nod.cell 0
    simp [six] at g0
    go_wp2_with fail
    refine (is_yes b s (k + 1) false d 91 _ n1.rd hs HC1.out).mono ?_
    rintro e w2 ⟨rfl, r, q⟩
    have n2 := n1.moved r q
    have hb0 : BW w.heap.size g w (.slice va 0 vc) 0 [] wc := ⟨HF.out.1, HF.out.2⟩
    have hBW := hb0.keep (b := b) (((Keeps.refl (may3 b g w.heap.size) wc).atB).trans q.ofOne) hb
    obtain ⟨xs, hxs⟩ : ∃ xs : List Value, xs = [] := ⟨_, rfl⟩
    rw [← hxs] at hBW
    have HBW := Lib.hid hBW
    clear hb0 hBW hxs
    have HB := Lib.hid (IH.out w2.drew n2.rd)
    rw [HX.out] at HB
    have x4 := n2.nod.cell 4
    simp [six] at x4
    have f4 := Blk.free n2.nod 4
    go_wp2_with fail
    obtain ⟨hi, hz0, hz1, hz2⟩ := HI.out
    go_region_law (first
      | (refine step_append_fresh rfl (.tmp 101) (.tmp 105) 50 rfl 57 i0 (.slice none 0 0) 1 24 Tryz.underlying50 hi hz0 hz1 hz2 rfl (by decide) (.slice va 0 vc) 0 xs (by simp [Act.eval, Act.put]) (HB3.out.own.alloc _) ⟨w3.heap.size, 0, none⟩ 1 1 [.slice ba bn bm] (by simp [Act.eval, Act.put]) rfl (cells_one _ _ _) (slice_oneCell _ _ _) (by unfold maxLen; omega) (by omega) ?_
         intro v4 w4 h4 hg4 hf4
         obtain ⟨a4, m4, rfl⟩ := row_slice (ok := fun _ => True) ⟨h4, fun _ _ => trivial⟩
         have n4 := HN3.out.grow HB3.out hg4
         have y4 : w4.cell? ⟨g, 4, none⟩ = some (.slice va 0 vc) := n4.nod.cell 4
         have z4 := Blk.free n4.nod 4
         have HF4 := Lib.hid (And.intro h4 (And.intro hg4 hf4))
         clear h4 hg4 hf4 n4)
      | (go_simp
         refine (HB.out).mono ?_
         rintro e w3 ⟨kb, ba, bn, bm, ⟨rfl, r3, q3⟩, hk3⟩
         have HN3 := Lib.hid ((n2.drewN 1).moved r3 q3)
         have HB3 := Lib.hid (HBW.out.keep (b := b) (((Keeps.refl (may3 b g w.heap.size) w2).drewN 1).trans q3.ofOne) hb)
         have hgl : g < w3.heap.size := HN3.out.nod.lt
         have x4' : w3.cell? ⟨g, 4, none⟩ = some (.slice va 0 vc) := HN3.out.nod.cell 4))
    all_goals
      obtain ⟨h4, hg4, hf4⟩ := HF4.out
      obtain ⟨n5, hW5⟩ := cutB_of HN3.out HB3.out h4 hg4 hf4
      have pz := n5.rd.c1
      have pw := (HN3.out.grow HB3.out hg4).rd.c1
      clear h4 hg4 hf4 hW5
      have m1 := n5.fin (kb : Int)
      have m2 := Blk.free n5.nod 2
      have m3 := n5.nod.cell 2
      have y0 := m1.nod.cell 0
      have y1 := m1.nod.cell 1
      have y2 := m1.nod.cell 2
      have y3 := m1.nod.cell 3
      have y4 := m1.nod.cell 4
      have y5 := m1.nod.cell 5
      have r0 := m1.res.cell 0
      have r1 := m1.res.cell 1
      have r2 := m1.res.cell 2
      have r3 := m1.res.cell 3
      have r4 := m1.res.cell 4
      have r5 := m1.res.cell 5
      have z := fun i => Blk.free m1.res i
      have p1 := n5.rd.c1
      simp [six] at m3 y0 y1 y2 y3 y4 y5 r0 r1 r2 r3 r4 r5
      go_wp2_with fail
      obtain ⟨d1, d2, d3, d4⟩ := m1.done
      refine bodyPost_ret (v := nodeV 42 k kb ⟨#[]⟩ a4 1 m4 ar) (res57 _ _ _ _ _ _ _ _ _ _ _ rfl d1) rfl ?_
      exact ⟨_, _, _, _, _, _, _, _, _, ⟨rfl, d2, d3⟩, hk3⟩

end Go.Proofs.YtkfcgamdlckncaaGreat

namespace Go.Proofs.YtkfcgamdlckncaaGreat
set_option linter.unusedVariables false
set_option linter.unusedSimpArgs false
open Go.RowKit

set_option maxRecDepth 100000 in
set_option maxHeartbeats 8000000 in
theorem sstep_branch (n : Nat) (ih : SBodyOk n) (b : Nat) (s : ByteArray) (k d : Nat) (ar : ByteArray) (w : World) (h : Sd w b s k false d) (hs : s.size ≤ 80) (hc : at? s k = some 63) (har : ar.size ≤ k) (hd : d ≤ 4) (hn : 4 * (s.size - k) + 3 ≤ n + 2)
    (hc1 : at? s (k + 1) = some 91) (x : Nds) (k1 : Nat) (hx : stepsP s n ar.data.toList d 93 (k + 2) = some (x, k1)) (hc2 : at? s k1 = some 91) (y : Nds) (k2 : Nat) (hy : stepsP s n ar.data.toList d 93 (k1 + 1) = some (y, k2)) :
    Calls Tryz.prog 38 #[.pointer (some ⟨b, 0, none⟩), .string ar] w (GoodStep b s d w (.mk 63 k k2 [] ar.data.toList (.cons x (.cons y .nil))) k2) := by
  obtain ⟨i0, hi, hz0, hz1, hz2⟩ := info_parts Tryz.info57
  have HI := Lib.hid (And.intro hi (And.intro hz0 (And.intro hz1 hz2)))
  have hlt1 := at?_lt hc1
  have hlt2 := at?_lt hc2
  have hgo := (goes s n).steps _ _ _ _ _ _ hx
  have HC1 := Lib.hid hc1
  have HC2 := Lib.hid hc2
  have IH := Lib.hid (fun w1 r => ih b s (k + 2) d ar 93 w1 r hs (by omega) (by omega) hd (by omega))
  have IH2 := Lib.hid (fun w1 r => ih b s (k1 + 1) d ar 93 w1 r hs (by omega) (by omega) hd (by omega))
  have HX := Lib.hid hx
  have HY := Lib.hid hy
  clear hi hz0 hz1 hz2 ih hn hx hc1 hc2 hy hgo
  have c0 := h.c0
  have c1 := h.c1
  have f1 := Blk.free h 1
  have hb := h.lt
  have hb2 : ¬ b = w.heap.size := by omega
  have hb3 : ¬ b = w.heap.size + 1 := by omega
  have hb4 : ¬ b = w.heap.size + 1 + 1 := by omega
  have hb5 : ¬ b = w.heap.size + 2 := by omega
  have hl0 : b ≤ w.heap.size := by omega
  have hl1 : b ≤ w.heap.size + 1 := by omega
  have hl2 : b ≤ w.heap.size + 2 := by omega
  have hl3 : b < w.heap.size + 1 := by omega
  have hl4 : b < w.heap.size + 2 := by omega
  have hl5 : b < w.heap.size + 1 + 1 := by omega
  have hl6 : b < w.heap.size + 3 := by omega
  have hl7 : b < w.heap.size + 1 + 1 + 1 := by omega
  have hlt := at?_lt hc
  have hget := at?_get hc hlt
  have hkz : (k : Int) < 80 := by omega
  go_enter Tryz.func38, Tryz.ntmps38
  go_upto_region 1 with fail
  go_cut [5] (fun v5 wc => Cut1 b w s k d 63 ar v5 wc)
  case first =>
    go_region
    all_goals (go_wp2_with fail; go_meet)
    · exact cut1_a b s k d 63 ar w h
    · exact cut1_b b s k d 63 ar w h
  case rest =>
    clear hl0 hl1 hl2 hl3 hl4 hl5 hl6 hl7 hb2 hb3 hb4 hb5 c0 c1 f1 hget hc
    obtain ⟨g, vb, rfl, hns, hown, hfr⟩ := hcut
    obtain ⟨va, vc, rfl⟩ := row_slice (ok := fun _ => True) ⟨hown, fun _ _ => trivial⟩
    have HF := Lib.hid (And.intro hown hfr)
    clear hown hfr
    have e1 : ¬ b = g := by have := hns.hg; omega
    have e2 : ¬ g = b := by omega
    have e3 : ¬ w.heap.size = g := hns.hne
    have e4 : ¬ g = w.heap.size := by omega
    have e5 : ¬ b = w.heap.size := by omega
    have e6 : ¬ w.heap.size = b := by omega
    have n1 := hns.tick
    have d1 := hns.rd.c1
    have x1 := Blk.free hns.rd 1
    have g0 := n1.nod.cell 0
    simp [six] at g0
    go_wp2_with fail
    refine (is_yes b s (k + 1) false d 91 _ n1.rd hs HC1.out).mono ?_
    rintro e w2 ⟨rfl, r, q⟩
    have n2 := n1.moved r q
    have hb0 : BS w.heap.size g w .nil (.slice va 0 vc) 0 wc := ⟨[], ⟨HF.out.1, HF.out.2⟩, rfl⟩
    have hB := hb0.keep (b := b) (((Keeps.refl (may3 b g w.heap.size) wc).atB).trans q.ofOne) hb
    have HBS := Lib.hid hB
    obtain ⟨xs, hBW, _⟩ := hB
    have HBW := Lib.hid hBW
    have HB := Lib.hid (IH.out w2.drew n2.rd)
    rw [HX.out] at HB
    clear hb0 hBW
    have x4 := n2.nod.cell 4
    simp [six] at x4
    have f4 := Blk.free n2.nod 4
    go_upto_region 19 with fail
    go_cut [] (fun wx => ∃ a4 m4, NS b w.heap.size g w s k1 false d 63 k 0 ⟨#[]⟩ (.slice a4 1 m4) ar wx ∧ BS w.heap.size g w (.cons x .nil) (.slice a4 1 m4) 1 wx)
    case first =>
      obtain ⟨hi, hz0, hz1, hz2⟩ := HI.out
      go_region_law (first
        | (refine step_append_fresh rfl (.tmp 79) (.tmp 83) 50 rfl 57 i0 (.slice none 0 0) 1 24 Tryz.underlying50 hi hz0 hz1 hz2 rfl (by decide) (.slice va 0 vc) 0 xs (by simp [Act.eval, Act.put]) (HB3.out.own.alloc _) ⟨w3.heap.size, 0, none⟩ 1 1 [.slice ba bn bm] (by simp [Act.eval, Act.put]) rfl (cells_one _ _ _) (slice_oneCell _ _ _) (by unfold maxLen; omega) (by omega) ?_
           intro v4 w4 h4 hg4 hf4
           obtain ⟨a4, m4, rfl⟩ := row_slice (ok := fun _ => True) ⟨h4, fun _ _ => trivial⟩
           have n4 := HN3.out.grow HB3.out hg4
           have y4 : w4.cell? ⟨g, 4, none⟩ = some (.slice va 0 vc) := n4.nod.cell 4
           have z4 := Blk.free n4.nod 4
           have HF4 := Lib.hid (And.intro h4 (And.intro hg4 hf4))
           clear h4 hg4 hf4 n4)
        | (go_simp
           refine (HB.out).mono ?_
           rintro e w3 ⟨ba, bn, bm, cs, ⟨rfl, r3, q3⟩, hr, hx⟩
           have HN3 := Lib.hid ((n2.drewN 1).moved r3 q3)
           have HB3 := Lib.hid (HBW.out.keep (b := b) (((Keeps.refl (may3 b g w.heap.size) w2).drewN 1).trans q3.ofOne) hb)
           have hgl : g < w3.heap.size := HN3.out.nod.lt
           have x4' : w3.cell? ⟨g, 4, none⟩ = some (.slice va 0 vc) := HN3.out.nod.cell 4))
      all_goals
        go_wp2_with fail
        go_meet
        obtain ⟨h4, hg4, hf4⟩ := HF4.out
        exact ⟨a4, m4, cutG_of n2 HBS.out q3 HN3.out HB3.out hr hx h4 hg4 hf4⟩
    case rest =>
      clear x4 f4 HB HBS HBW
      obtain ⟨va2, vc2, n4, hB4⟩ := hcut
      go_wp2_with fail
      refine (is_yes b s k1 false d 91 _ n4.rd hs HC2.out).mono ?_
      rintro e w5 ⟨rfl, r5, q5⟩
      have n5 := n4.moved r5 q5
      have hB5 := hB4.keep (b := b) q5.ofOne hb
      have HBS2 := Lib.hid hB5
      obtain ⟨xs2, hBW2, _⟩ := hB5
      have HBW2 := Lib.hid hBW2
      have HB2 := Lib.hid (IH2.out w5.drew n5.rd)
      rw [HY.out] at HB2
      clear hBW2 hB4
      have x4 := n5.nod.cell 4
      simp [six] at x4
      have f4 := Blk.free n5.nod 4
      go_wp2_with fail
      obtain ⟨hi, hz0, hz1, hz2⟩ := HI.out
      go_region_law (first
        | (refine step_append_fresh rfl (.tmp 89) (.tmp 93) 50 rfl 57 i0 (.slice none 0 0) 1 24 Tryz.underlying50 hi hz0 hz1 hz2 rfl (by decide) (.slice va2 1 vc2) 1 xs2 (by simp [Act.eval, Act.put]) (HB3.out.own.alloc _) ⟨w3.heap.size, 0, none⟩ 1 1 [.slice ba bn bm] (by simp [Act.eval, Act.put]) rfl (cells_one _ _ _) (slice_oneCell _ _ _) (by unfold maxLen; omega) (by omega) ?_
           intro v4 w4 h4 hg4 hf4
           obtain ⟨a4, m4, rfl⟩ := row_slice (ok := fun _ => True) ⟨h4, fun _ _ => trivial⟩
           have n4 := HN3.out.grow HB3.out hg4
           have y4 : w4.cell? ⟨g, 4, none⟩ = some (.slice va2 1 vc2) := n4.nod.cell 4
           have z4 := Blk.free n4.nod 4
           have HF4 := Lib.hid (And.intro h4 (And.intro hg4 hf4))
           clear h4 hg4 hf4 n4)
        | (go_simp
           refine (HB2.out).mono ?_
           rintro e w3 ⟨ba, bn, bm, cs, ⟨rfl, r3, q3⟩, hr, hx⟩
           have HN3 := Lib.hid ((n5.drewN 1).moved r3 q3)
           have HB3 := Lib.hid (HBW2.out.keep (b := b) (((Keeps.refl (may3 b g w.heap.size) w5).drewN 1).trans q3.ofOne) hb)
           have hgl : g < w3.heap.size := HN3.out.nod.lt
           have x4' : w3.cell? ⟨g, 4, none⟩ = some (.slice va2 1 vc2) := HN3.out.nod.cell 4))
      all_goals
        obtain ⟨h4, hg4, hf4⟩ := HF4.out
        obtain ⟨n6, hS⟩ := cutG_of n5 HBS2.out q3 HN3.out HB3.out hr hx h4 hg4 hf4
        have HS := Lib.hid hS
        have pz := n6.rd.c1
        have pw := (HN3.out.grow HB3.out hg4).rd.c1
        clear h4 hg4 hf4 hS hr hx
        have m1 := n6.fin (k2 : Int)
        have m2 := Blk.free n6.nod 2
        have m3 := n6.nod.cell 2
        have y0 := m1.nod.cell 0
        have y1 := m1.nod.cell 1
        have y2 := m1.nod.cell 2
        have y3 := m1.nod.cell 3
        have y4 := m1.nod.cell 4
        have y5 := m1.nod.cell 5
        have r0 := m1.res.cell 0
        have r1 := m1.res.cell 1
        have r2 := m1.res.cell 2
        have r3 := m1.res.cell 3
        have r4 := m1.res.cell 4
        have r5 := m1.res.cell 5
        have z := fun i => Blk.free m1.res i
        have p1 := n6.rd.c1
        simp [six] at m3 y0 y1 y2 y3 y4 y5 r0 r1 r2 r3 r4 r5
        go_wp2_with fail
        obtain ⟨d1, d2, d3, d4⟩ := m1.done
        refine bodyPost_ret (v := nodeV 63 k k2 ⟨#[]⟩ a4 2 m4 ar) (res57 _ _ _ _ _ _ _ _ _ _ _ rfl d1) rfl ?_
        refine ⟨_, _, _, _, _, _, _, _, ⟨rfl, d2, d3⟩, ?_⟩
        exact rep_of (vs := []) (c := 63) (HS.out.keep (b := b) ((Keeps.refl (may3 b g w.heap.size) _).atG) hb) rfl d4 (Nat.le_refl _)

end Go.Proofs.YtkfcgamdlckncaaGreat

namespace Go.Proofs.YtkfcgamdlckncaaGreat
set_option linter.unusedVariables false
set_option linter.unusedSimpArgs false
open Go.RowKit

set_option maxRecDepth 100000 in
set_option maxHeartbeats 8000000 in
theorem sstep_branchno1 (n : Nat) (ih : SBodyOk n) (ihb : SBodyBad) (b : Nat) (s : ByteArray) (k d : Nat) (ar : ByteArray) (w : World) (h : Sd w b s k false d) (hs : s.size ≤ 80) (hc : at? s k = some 63) (har : ar.size ≤ k) (hd : d ≤ 4) (hn : 4 * (s.size - k) + 3 ≤ n + 2)
    (hc1 : at? s (k + 1) = some 91) (x : Nds) (k1 : Nat) (hx : stepsP s n ar.data.toList d 93 (k + 2) = some (x, k1)) (hc2 : at? s k1 ≠ some 91) :
    Calls Tryz.prog 38 #[.pointer (some ⟨b, 0, none⟩), .string ar] w (BadStep b s d w) := by
  obtain ⟨i0, hi, hz0, hz1, hz2⟩ := info_parts Tryz.info57
  have HI := Lib.hid (And.intro hi (And.intro hz0 (And.intro hz1 hz2)))
  have hlt1 := at?_lt hc1
  have hgo := (goes s n).steps _ _ _ _ _ _ hx
  have hk1 : k1 ≤ s.size := hgo.2
  have HC1 := Lib.hid hc1
  have HC2 := Lib.hid hc2
  have IH := Lib.hid (fun w1 r => ih b s (k + 2) d ar 93 w1 r hs (by omega) (by omega) hd (by omega))
  have IH2 := Lib.hid (fun w1 r => ihb b s k1 d ar 93 w1 r hs hk1)
  have HX := Lib.hid hx
  clear hi hz0 hz1 hz2 ih ihb hn hx hc1 hc2 hgo
  have c0 := h.c0
  have c1 := h.c1
  have f1 := Blk.free h 1
  have hb := h.lt
  have hb2 : ¬ b = w.heap.size := by omega
  have hb3 : ¬ b = w.heap.size + 1 := by omega
  have hb4 : ¬ b = w.heap.size + 1 + 1 := by omega
  have hb5 : ¬ b = w.heap.size + 2 := by omega
  have hl0 : b ≤ w.heap.size := by omega
  have hl1 : b ≤ w.heap.size + 1 := by omega
  have hl2 : b ≤ w.heap.size + 2 := by omega
  have hl3 : b < w.heap.size + 1 := by omega
  have hl4 : b < w.heap.size + 2 := by omega
  have hl5 : b < w.heap.size + 1 + 1 := by omega
  have hl6 : b < w.heap.size + 3 := by omega
  have hl7 : b < w.heap.size + 1 + 1 + 1 := by omega
  have hlt := at?_lt hc
  have hget := at?_get hc hlt
  have hkz : (k : Int) < 80 := by omega
  go_enter Tryz.func38, Tryz.ntmps38
  go_upto_region 1 with fail
  go_cut [5] (fun v5 wc => Cut1 b w s k d 63 ar v5 wc)
  case first =>
    go_region
    all_goals (go_wp2_with fail; go_meet)
    · exact cut1_a b s k d 63 ar w h
    · exact cut1_b b s k d 63 ar w h
  case rest =>
    clear hl0 hl1 hl2 hl3 hl4 hl5 hl6 hl7 hb2 hb3 hb4 hb5 c0 c1 f1 hget hc
    obtain ⟨g, vb, rfl, hns, hown, hfr⟩ := hcut
    obtain ⟨va, vc, rfl⟩ := row_slice (ok := fun _ => True) ⟨hown, fun _ _ => trivial⟩
    have HF := Lib.hid (And.intro hown hfr)
    clear hown hfr
    have e1 : ¬ b = g := by have := hns.hg; omega
    have e2 : ¬ g = b := by omega
    have e3 : ¬ w.heap.size = g := hns.hne
    have e4 : ¬ g = w.heap.size := by omega
    have e5 : ¬ b = w.heap.size := by omega
    have e6 : ¬ w.heap.size = b := by omega
    have n1 := hns.tick
    have d1 := hns.rd.c1
    have x1 := Blk.free hns.rd 1
    have g0 := n1.nod.cell 0
    simp [six] at g0
    go_wp2_with fail
    refine (is_yes b s (k + 1) false d 91 _ n1.rd hs HC1.out).mono ?_
    rintro e w2 ⟨rfl, r, q⟩
    have n2 := n1.moved r q
    have hb0 : BS w.heap.size g w .nil (.slice va 0 vc) 0 wc := ⟨[], ⟨HF.out.1, HF.out.2⟩, rfl⟩
    have hB := hb0.keep (b := b) (((Keeps.refl (may3 b g w.heap.size) wc).atB).trans q.ofOne) hb
    have HBS := Lib.hid hB
    obtain ⟨xs, hBW, _⟩ := hB
    have HBW := Lib.hid hBW
    have HB := Lib.hid (IH.out w2.drew n2.rd)
    rw [HX.out] at HB
    clear hb0 hBW
    have x4 := n2.nod.cell 4
    simp [six] at x4
    have f4 := Blk.free n2.nod 4
    go_upto_region 19 with fail
    go_cut [] (fun wx => ∃ a4 m4, NS b w.heap.size g w s k1 false d 63 k 0 ⟨#[]⟩ (.slice a4 1 m4) ar wx ∧ BS w.heap.size g w (.cons x .nil) (.slice a4 1 m4) 1 wx)
    case first =>
      obtain ⟨hi, hz0, hz1, hz2⟩ := HI.out
      go_region_law (first
        | (refine step_append_fresh rfl (.tmp 79) (.tmp 83) 50 rfl 57 i0 (.slice none 0 0) 1 24 Tryz.underlying50 hi hz0 hz1 hz2 rfl (by decide) (.slice va 0 vc) 0 xs (by simp [Act.eval, Act.put]) (HB3.out.own.alloc _) ⟨w3.heap.size, 0, none⟩ 1 1 [.slice ba bn bm] (by simp [Act.eval, Act.put]) rfl (cells_one _ _ _) (slice_oneCell _ _ _) (by unfold maxLen; omega) (by omega) ?_
           intro v4 w4 h4 hg4 hf4
           obtain ⟨a4, m4, rfl⟩ := row_slice (ok := fun _ => True) ⟨h4, fun _ _ => trivial⟩
           have n4 := HN3.out.grow HB3.out hg4
           have y4 : w4.cell? ⟨g, 4, none⟩ = some (.slice va 0 vc) := n4.nod.cell 4
           have z4 := Blk.free n4.nod 4
           have HF4 := Lib.hid (And.intro h4 (And.intro hg4 hf4))
           clear h4 hg4 hf4 n4)
        | (go_simp
           refine (HB.out).mono ?_
           rintro e w3 ⟨ba, bn, bm, cs, ⟨rfl, r3, q3⟩, hr, hx⟩
           have HN3 := Lib.hid ((n2.drewN 1).moved r3 q3)
           have HB3 := Lib.hid (HBW.out.keep (b := b) (((Keeps.refl (may3 b g w.heap.size) w2).drewN 1).trans q3.ofOne) hb)
           have hgl : g < w3.heap.size := HN3.out.nod.lt
           have x4' : w3.cell? ⟨g, 4, none⟩ = some (.slice va 0 vc) := HN3.out.nod.cell 4))
      all_goals
        go_wp2_with fail
        go_meet
        obtain ⟨h4, hg4, hf4⟩ := HF4.out
        exact ⟨a4, m4, cutG_of n2 HBS.out q3 HN3.out HB3.out hr hx h4 hg4 hf4⟩
    case rest =>
      clear x4 f4 HB HBS HBW
      obtain ⟨va2, vc2, n4, hB4⟩ := hcut
      go_wp2_with fail
      refine (is_no b s k1 false d 91 _ n4.rd hs hk1 HC2.out).mono ?_
      rintro e w5 ⟨rfl, r5, q5⟩
      have n5 := n4.moved r5 q5
      have hB5 := hB4.keep (b := b) q5.ofOne hb
      obtain ⟨xs2, hBW2, _⟩ := hB5
      have HBW2 := Lib.hid hBW2
      have HB2 := Lib.hid (IH2.out w5.drew n5.rd)
      clear hBW2 hB4
      have x4 := n5.nod.cell 4
      simp [six] at x4
      have f4 := Blk.free n5.nod 4
      go_wp2_with fail
      obtain ⟨hi, hz0, hz1, hz2⟩ := HI.out
      go_region_law (first
        | (refine step_append_fresh rfl (.tmp 89) (.tmp 93) 50 rfl 57 i0 (.slice none 0 0) 1 24 Tryz.underlying50 hi hz0 hz1 hz2 rfl (by decide) (.slice va2 1 vc2) 1 xs2 (by simp [Act.eval, Act.put]) (HB3.out.own.alloc _) ⟨w3.heap.size, 0, none⟩ 1 1 [.slice ba bn bm] (by simp [Act.eval, Act.put]) rfl (cells_one _ _ _) (slice_oneCell _ _ _) (by unfold maxLen; omega) (by omega) ?_
           intro v4 w4 h4 hg4 hf4
           obtain ⟨a4, m4, rfl⟩ := row_slice (ok := fun _ => True) ⟨h4, fun _ _ => trivial⟩
           have n4 := HN3.out.grow HB3.out hg4
           have y4 : w4.cell? ⟨g, 4, none⟩ = some (.slice va2 1 vc2) := n4.nod.cell 4
           have z4 := Blk.free n4.nod 4
           have HF4 := Lib.hid (And.intro h4 (And.intro hg4 hf4))
           clear h4 hg4 hf4 n4)
        | (go_simp
           refine (HB2.out).mono ?_
           rintro e w3 ⟨kb, ba, bn, bm, ⟨rfl, r3, q3⟩, hk3⟩
           have HN3 := Lib.hid ((n5.drewN 1).moved r3 q3)
           have HB3 := Lib.hid (HBW2.out.keep (b := b) (((Keeps.refl (may3 b g w.heap.size) w5).drewN 1).trans q3.ofOne) hb)
           have hgl : g < w3.heap.size := HN3.out.nod.lt
           have x4' : w3.cell? ⟨g, 4, none⟩ = some (.slice va2 1 vc2) := HN3.out.nod.cell 4))
      all_goals
        obtain ⟨h4, hg4, hf4⟩ := HF4.out
        obtain ⟨n6, hW6⟩ := cutB_of HN3.out HB3.out h4 hg4 hf4
        have pz := n6.rd.c1
        have pw := (HN3.out.grow HB3.out hg4).rd.c1
        clear h4 hg4 hf4 hW6
        have m1 := n6.fin (kb : Int)
        have m2 := Blk.free n6.nod 2
        have m3 := n6.nod.cell 2
        have y0 := m1.nod.cell 0
        have y1 := m1.nod.cell 1
        have y2 := m1.nod.cell 2
        have y3 := m1.nod.cell 3
        have y4 := m1.nod.cell 4
        have y5 := m1.nod.cell 5
        have r0 := m1.res.cell 0
        have r1 := m1.res.cell 1
        have r2 := m1.res.cell 2
        have r3 := m1.res.cell 3
        have r4 := m1.res.cell 4
        have r5 := m1.res.cell 5
        have z := fun i => Blk.free m1.res i
        have p1 := n6.rd.c1
        simp [six] at m3 y0 y1 y2 y3 y4 y5 r0 r1 r2 r3 r4 r5
        go_wp2_with fail
        obtain ⟨d1, d2, d3, d4⟩ := m1.done
        refine bodyPost_ret (v := nodeV 63 k kb ⟨#[]⟩ a4 2 m4 ar) (res57 _ _ _ _ _ _ _ _ _ _ _ rfl d1) rfl ?_
        exact ⟨_, _, _, _, _, _, _, _, _, ⟨rfl, d2, d3⟩, hk3⟩

set_option maxRecDepth 100000 in
set_option maxHeartbeats 8000000 in
theorem sstep_branchno2 (n : Nat) (ih : SBodyOk n) (b : Nat) (s : ByteArray) (k d : Nat) (ar : ByteArray) (w : World) (h : Sd w b s k false d) (hs : s.size ≤ 80) (hc : at? s k = some 63) (har : ar.size ≤ k) (hd : d ≤ 4) (hn : 4 * (s.size - k) + 3 ≤ n + 2)
    (hc1 : at? s (k + 1) = some 91) (x : Nds) (k1 : Nat) (hx : stepsP s n ar.data.toList d 93 (k + 2) = some (x, k1)) (hc2 : at? s k1 = some 91) (hy : stepsP s n ar.data.toList d 93 (k1 + 1) = none) :
    Calls Tryz.prog 38 #[.pointer (some ⟨b, 0, none⟩), .string ar] w (BadStep b s d w) := by
  obtain ⟨i0, hi, hz0, hz1, hz2⟩ := info_parts Tryz.info57
  have HI := Lib.hid (And.intro hi (And.intro hz0 (And.intro hz1 hz2)))
  have hlt1 := at?_lt hc1
  have hgo := (goes s n).steps _ _ _ _ _ _ hx
  have hk1 : k1 ≤ s.size := hgo.2
  have HC1 := Lib.hid hc1
  have HC2 := Lib.hid hc2
  have IH := Lib.hid (fun w1 r => ih b s (k + 2) d ar 93 w1 r hs (by omega) (by omega) hd (by omega))
  have hlt2 := at?_lt hc2
  have IH2 := Lib.hid (fun w1 r => ih b s (k1 + 1) d ar 93 w1 r hs (by omega) (by omega) hd (by omega))
  have HY := Lib.hid hy
  have HX := Lib.hid hx
  clear hi hz0 hz1 hz2 ih hn hx hc1 hc2 hgo hy
  have c0 := h.c0
  have c1 := h.c1
  have f1 := Blk.free h 1
  have hb := h.lt
  have hb2 : ¬ b = w.heap.size := by omega
  have hb3 : ¬ b = w.heap.size + 1 := by omega
  have hb4 : ¬ b = w.heap.size + 1 + 1 := by omega
  have hb5 : ¬ b = w.heap.size + 2 := by omega
  have hl0 : b ≤ w.heap.size := by omega
  have hl1 : b ≤ w.heap.size + 1 := by omega
  have hl2 : b ≤ w.heap.size + 2 := by omega
  have hl3 : b < w.heap.size + 1 := by omega
  have hl4 : b < w.heap.size + 2 := by omega
  have hl5 : b < w.heap.size + 1 + 1 := by omega
  have hl6 : b < w.heap.size + 3 := by omega
  have hl7 : b < w.heap.size + 1 + 1 + 1 := by omega
  have hlt := at?_lt hc
  have hget := at?_get hc hlt
  have hkz : (k : Int) < 80 := by omega
  go_enter Tryz.func38, Tryz.ntmps38
  go_upto_region 1 with fail
  go_cut [5] (fun v5 wc => Cut1 b w s k d 63 ar v5 wc)
  case first =>
    go_region
    all_goals (go_wp2_with fail; go_meet)
    · exact cut1_a b s k d 63 ar w h
    · exact cut1_b b s k d 63 ar w h
  case rest =>
    clear hl0 hl1 hl2 hl3 hl4 hl5 hl6 hl7 hb2 hb3 hb4 hb5 c0 c1 f1 hget hc
    obtain ⟨g, vb, rfl, hns, hown, hfr⟩ := hcut
    obtain ⟨va, vc, rfl⟩ := row_slice (ok := fun _ => True) ⟨hown, fun _ _ => trivial⟩
    have HF := Lib.hid (And.intro hown hfr)
    clear hown hfr
    have e1 : ¬ b = g := by have := hns.hg; omega
    have e2 : ¬ g = b := by omega
    have e3 : ¬ w.heap.size = g := hns.hne
    have e4 : ¬ g = w.heap.size := by omega
    have e5 : ¬ b = w.heap.size := by omega
    have e6 : ¬ w.heap.size = b := by omega
    have n1 := hns.tick
    have d1 := hns.rd.c1
    have x1 := Blk.free hns.rd 1
    have g0 := n1.nod.cell 0
    simp [six] at g0
    go_wp2_with fail
    refine (is_yes b s (k + 1) false d 91 _ n1.rd hs HC1.out).mono ?_
    rintro e w2 ⟨rfl, r, q⟩
    have n2 := n1.moved r q
    have hb0 : BS w.heap.size g w .nil (.slice va 0 vc) 0 wc := ⟨[], ⟨HF.out.1, HF.out.2⟩, rfl⟩
    have hB := hb0.keep (b := b) (((Keeps.refl (may3 b g w.heap.size) wc).atB).trans q.ofOne) hb
    have HBS := Lib.hid hB
    obtain ⟨xs, hBW, _⟩ := hB
    have HBW := Lib.hid hBW
    have HB := Lib.hid (IH.out w2.drew n2.rd)
    rw [HX.out] at HB
    clear hb0 hBW
    have x4 := n2.nod.cell 4
    simp [six] at x4
    have f4 := Blk.free n2.nod 4
    go_upto_region 19 with fail
    go_cut [] (fun wx => ∃ a4 m4, NS b w.heap.size g w s k1 false d 63 k 0 ⟨#[]⟩ (.slice a4 1 m4) ar wx ∧ BS w.heap.size g w (.cons x .nil) (.slice a4 1 m4) 1 wx)
    case first =>
      obtain ⟨hi, hz0, hz1, hz2⟩ := HI.out
      go_region_law (first
        | (refine step_append_fresh rfl (.tmp 79) (.tmp 83) 50 rfl 57 i0 (.slice none 0 0) 1 24 Tryz.underlying50 hi hz0 hz1 hz2 rfl (by decide) (.slice va 0 vc) 0 xs (by simp [Act.eval, Act.put]) (HB3.out.own.alloc _) ⟨w3.heap.size, 0, none⟩ 1 1 [.slice ba bn bm] (by simp [Act.eval, Act.put]) rfl (cells_one _ _ _) (slice_oneCell _ _ _) (by unfold maxLen; omega) (by omega) ?_
           intro v4 w4 h4 hg4 hf4
           obtain ⟨a4, m4, rfl⟩ := row_slice (ok := fun _ => True) ⟨h4, fun _ _ => trivial⟩
           have n4 := HN3.out.grow HB3.out hg4
           have y4 : w4.cell? ⟨g, 4, none⟩ = some (.slice va 0 vc) := n4.nod.cell 4
           have z4 := Blk.free n4.nod 4
           have HF4 := Lib.hid (And.intro h4 (And.intro hg4 hf4))
           clear h4 hg4 hf4 n4)
        | (go_simp
           refine (HB.out).mono ?_
           rintro e w3 ⟨ba, bn, bm, cs, ⟨rfl, r3, q3⟩, hr, hx⟩
           have HN3 := Lib.hid ((n2.drewN 1).moved r3 q3)
           have HB3 := Lib.hid (HBW.out.keep (b := b) (((Keeps.refl (may3 b g w.heap.size) w2).drewN 1).trans q3.ofOne) hb)
           have hgl : g < w3.heap.size := HN3.out.nod.lt
           have x4' : w3.cell? ⟨g, 4, none⟩ = some (.slice va 0 vc) := HN3.out.nod.cell 4))
      all_goals
        go_wp2_with fail
        go_meet
        obtain ⟨h4, hg4, hf4⟩ := HF4.out
        exact ⟨a4, m4, cutG_of n2 HBS.out q3 HN3.out HB3.out hr hx h4 hg4 hf4⟩
    case rest =>
      clear x4 f4 HB HBS HBW
      obtain ⟨va2, vc2, n4, hB4⟩ := hcut
      go_wp2_with fail
      refine (is_yes b s k1 false d 91 _ n4.rd hs HC2.out).mono ?_
      rintro e w5 ⟨rfl, r5, q5⟩
      have n5 := n4.moved r5 q5
      have hB5 := hB4.keep (b := b) q5.ofOne hb
      obtain ⟨xs2, hBW2, _⟩ := hB5
      have HBW2 := Lib.hid hBW2
      have HB2 := Lib.hid (IH2.out w5.drew n5.rd)
      rw [HY.out] at HB2
      clear hBW2 hB4
      have x4 := n5.nod.cell 4
      simp [six] at x4
      have f4 := Blk.free n5.nod 4
      go_wp2_with fail
      obtain ⟨hi, hz0, hz1, hz2⟩ := HI.out
      go_region_law (first
        | (refine step_append_fresh rfl (.tmp 89) (.tmp 93) 50 rfl 57 i0 (.slice none 0 0) 1 24 Tryz.underlying50 hi hz0 hz1 hz2 rfl (by decide) (.slice va2 1 vc2) 1 xs2 (by simp [Act.eval, Act.put]) (HB3.out.own.alloc _) ⟨w3.heap.size, 0, none⟩ 1 1 [.slice ba bn bm] (by simp [Act.eval, Act.put]) rfl (cells_one _ _ _) (slice_oneCell _ _ _) (by unfold maxLen; omega) (by omega) ?_
           intro v4 w4 h4 hg4 hf4
           obtain ⟨a4, m4, rfl⟩ := row_slice (ok := fun _ => True) ⟨h4, fun _ _ => trivial⟩
           have n4 := HN3.out.grow HB3.out hg4
           have y4 : w4.cell? ⟨g, 4, none⟩ = some (.slice va2 1 vc2) := n4.nod.cell 4
           have z4 := Blk.free n4.nod 4
           have HF4 := Lib.hid (And.intro h4 (And.intro hg4 hf4))
           clear h4 hg4 hf4 n4)
        | (go_simp
           refine (HB2.out).mono ?_
           rintro e w3 ⟨kb, ba, bn, bm, ⟨rfl, r3, q3⟩, hk3⟩
           have HN3 := Lib.hid ((n5.drewN 1).moved r3 q3)
           have HB3 := Lib.hid (HBW2.out.keep (b := b) (((Keeps.refl (may3 b g w.heap.size) w5).drewN 1).trans q3.ofOne) hb)
           have hgl : g < w3.heap.size := HN3.out.nod.lt
           have x4' : w3.cell? ⟨g, 4, none⟩ = some (.slice va2 1 vc2) := HN3.out.nod.cell 4))
      all_goals
        obtain ⟨h4, hg4, hf4⟩ := HF4.out
        obtain ⟨n6, hW6⟩ := cutB_of HN3.out HB3.out h4 hg4 hf4
        have pz := n6.rd.c1
        have pw := (HN3.out.grow HB3.out hg4).rd.c1
        clear h4 hg4 hf4 hW6
        have m1 := n6.fin (kb : Int)
        have m2 := Blk.free n6.nod 2
        have m3 := n6.nod.cell 2
        have y0 := m1.nod.cell 0
        have y1 := m1.nod.cell 1
        have y2 := m1.nod.cell 2
        have y3 := m1.nod.cell 3
        have y4 := m1.nod.cell 4
        have y5 := m1.nod.cell 5
        have r0 := m1.res.cell 0
        have r1 := m1.res.cell 1
        have r2 := m1.res.cell 2
        have r3 := m1.res.cell 3
        have r4 := m1.res.cell 4
        have r5 := m1.res.cell 5
        have z := fun i => Blk.free m1.res i
        have p1 := n6.rd.c1
        simp [six] at m3 y0 y1 y2 y3 y4 y5 r0 r1 r2 r3 r4 r5
        go_wp2_with fail
        obtain ⟨d1, d2, d3, d4⟩ := m1.done
        refine bodyPost_ret (v := nodeV 63 k kb ⟨#[]⟩ a4 2 m4 ar) (res57 _ _ _ _ _ _ _ _ _ _ _ rfl d1) rfl ?_
        exact ⟨_, _, _, _, _, _, _, _, _, ⟨rfl, d2, d3⟩, hk3⟩

end Go.Proofs.YtkfcgamdlckncaaGreat
