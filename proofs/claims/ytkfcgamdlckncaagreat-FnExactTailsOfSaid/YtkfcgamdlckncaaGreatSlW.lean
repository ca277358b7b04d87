/-
  Walks of the model's reader: step, branches that fall at the first body.
  Walks of the model's reader: step, scopes.
  Walks of the model's reader: step, scopes that fall.
  Walks of the model's reader: step, scopes whose steps fall.
-/
import Derived.Test.YtkfcgamdlckncaaGreatSgW
import Derived.Test.YtkfcgamdlckncaaGreatSbV
namespace Go.Proofs.YtkfcgamdlckncaaGreat
set_option linter.unusedVariables false
set_option linter.unusedSimpArgs false
open Go.RowKit

/-- 'is', where the reader is bad already: it stays so. -/
theorem is_bad (b : Nat) (s : ByteArray) (k : Nat) (d : Nat) (c : UInt8) (w : World) (h : Sd w b s k true d) (hs : s.size ≤ 80) (hk : k ≤ s.size) :
    Calls Tryz.prog 57 #[.pointer (some ⟨b, 0, none⟩), .int .u8 (c.toNat : Int)] w fun e w' => ∃ k', MovedS b s k' true d w (.tuple #[]) e w' ∧ k' ≤ s.size := by
  by_cases hc : at? s k = some c
  · exact (is_yes b s k true d c w h hs hc).mono fun e w' h => ⟨k + 1, h, at?_lt hc⟩
  · exact (is_no b s k true d c w h hs hk hc).mono fun e w' h => ⟨k, h, hk⟩

set_option maxRecDepth 100000 in
set_option maxHeartbeats 8000000 in
theorem sstep_branchno3 (n : Nat) (ih : SBodyOk n) (ihb : SBodyBad) (b : Nat) (s : ByteArray) (k d : Nat) (ar : ByteArray) (w : World) (h : Sd w b s k false d) (hs : s.size ≤ 80) (hc : at? s k = some 63) (har : ar.size ≤ k) (hd : d ≤ 4) (hn : 4 * (s.size - k) + 3 ≤ n + 2)
    (hc1 : at? s (k + 1) = some 91) (hx : stepsP s n ar.data.toList d 93 (k + 2) = none) :
    Calls Tryz.prog 38 #[.pointer (some ⟨b, 0, none⟩), .string ar] w (BadStep b s d w) := by
  obtain ⟨i0, hi, hz0, hz1, hz2⟩ := info_parts Tryz.info57
  have HI := Lib.hid (And.intro hi (And.intro hz0 (And.intro hz1 hz2)))
  have hlt1 := at?_lt hc1
  have HC1 := Lib.hid hc1
  have IH := Lib.hid (fun w1 r => ih b s (k + 2) d ar 93 w1 r hs (by omega) (by omega) hd (by omega))
  have IHB := Lib.hid (fun w1 kd r hkd => ihb b s kd d ar 93 w1 r hs hkd)
  have HX := Lib.hid hx
  clear hi hz0 hz1 hz2 ih ihb hn hx hc1
  have c0 := h.c0
  have c1 := h.c1
  have f1 := Blk.free h 1
  have hb := h.lt
  have hb2 : ¬ b = w.heap.size := by omega
  have hb3 : ¬ b = w.heap.size + 1 := by omega
  have hb4 : ¬ b = w.heap.size + 1 + 1 := by omega
  have hb5 : ¬ b = w.heap.size + 2 := by omega
  have hl0 : b ≤ w.heap.size := by omega
  have hl1 : b ≤ w.heap.size + 1 := by omega
  have hl2 : b ≤ w.heap.size + 2 := by omega
  have hl3 : b < w.heap.size + 1 := by omega
  have hl4 : b < w.heap.size + 2 := by omega
  have hl5 : b < w.heap.size + 1 + 1 := by omega
  have hl6 : b < w.heap.size + 3 := by omega
  have hl7 : b < w.heap.size + 1 + 1 + 1 := by omega
  have hlt := at?_lt hc
  have hget := at?_get hc hlt
  have hkz : (k : Int) < 80 := by omega
  go_enter Tryz.func38, Tryz.ntmps38
  go_upto_region 1 with fail
  go_cut [5] (fun v5 wc => Cut1 b w s k d 63 ar v5 wc)
  case first =>
    go_region
    all_goals (go_wp2_with fail; go_meet)
    · exact cut1_a b s k d 63 ar w h
    · exact cut1_b b s k d 63 ar w h
  case rest =>
    clear hl0 hl1 hl2 hl3 hl4 hl5 hl6 hl7 hb2 hb3 hb4 hb5 c0 c1 f1 hget hc
    obtain ⟨g, vb, rfl, hns, hown, hfr⟩ := hcut
    obtain ⟨va, vc, rfl⟩ := row_slice (ok := fun _ => True) ⟨hown, fun _ _ => trivial⟩
    have HF := Lib.hid (And.intro hown hfr)
    clear hown hfr
    have e1 : ¬ b = g := by have := hns.hg; omega
    have e2 : ¬ g = b := by omega
    have e3 : ¬ w.heap.size = g := hns.hne
    have e4 : ¬ g = w.heap.size := by omega
    have e5 : ¬ b = w.heap.size := by omega
    have e6 : ¬ w.heap.size = b := by omega
    have n1 := hns.tick
    have d1 := hns.rd.c1
    have x1 := Blk.free hns.rd 1
    have g0 := n1.nod.cell 0
    simp [six] at g0
    go_wp2_with fail
    refine (is_yes b s (k + 1) false d 91 _ n1.rd hs HC1.out).mono ?_
    rintro e w2 ⟨rfl, r, q⟩
    have n2 := n1.moved r q
    have hb0 : BW w.heap.size g w (.slice va 0 vc) 0 [] wc := ⟨HF.out.1, HF.out.2⟩
    have hBW := hb0.keep (b := b) (((Keeps.refl (may3 b g w.heap.size) wc).atB).trans q.ofOne) hb
    obtain ⟨xs, hxs⟩ : ∃ xs : List Value, xs = [] := ⟨_, rfl⟩
    rw [← hxs] at hBW
    have HBW := Lib.hid hBW
    clear hb0 hBW hxs
    have HB := Lib.hid (IH.out w2.drew n2.rd)
    rw [HX.out] at HB
    have x4 := n2.nod.cell 4
    simp [six] at x4
    have f4 := Blk.free n2.nod 4
    go_upto_region 19 with fail
    go_cut [] (fun wx => ∃ kb a4 m4 xs, NS b w.heap.size g w s kb true d 63 k 0 ⟨#[]⟩ (.slice a4 1 m4) ar wx ∧ kb ≤ s.size ∧ BW w.heap.size g w (.slice a4 1 m4) 1 xs wx)
    case first =>
      obtain ⟨hi, hz0, hz1, hz2⟩ := HI.out
      go_region_law (first
        | (refine step_append_fresh rfl (.tmp 79) (.tmp 83) 50 rfl 57 i0 (.slice none 0 0) 1 24 Tryz.underlying50 hi hz0 hz1 hz2 rfl (by decide) (.slice va 0 vc) 0 xs (by simp [Act.eval, Act.put]) (HB3.out.own.alloc _) ⟨w3.heap.size, 0, none⟩ 1 1 [.slice ba bn bm] (by simp [Act.eval, Act.put]) rfl (cells_one _ _ _) (slice_oneCell _ _ _) (by unfold maxLen; omega) (by omega) ?_
           intro v4 w4 h4 hg4 hf4
           obtain ⟨a4, m4, rfl⟩ := row_slice (ok := fun _ => True) ⟨h4, fun _ _ => trivial⟩
           have n4 := HN3.out.grow HB3.out hg4
           have y4 : w4.cell? ⟨g, 4, none⟩ = some (.slice va 0 vc) := n4.nod.cell 4
           have z4 := Blk.free n4.nod 4
           have HF4 := Lib.hid (And.intro h4 (And.intro hg4 hf4))
           clear h4 hg4 hf4 n4)
        | (go_simp
           refine (HB.out).mono ?_
           rintro e w3 ⟨kb, ba, bn, bm, ⟨rfl, r3, q3⟩, hk3⟩
           have HN3 := Lib.hid ((n2.drewN 1).moved r3 q3)
           have HB3 := Lib.hid (HBW.out.keep (b := b) (((Keeps.refl (may3 b g w.heap.size) w2).drewN 1).trans q3.ofOne) hb)
           have hgl : g < w3.heap.size := HN3.out.nod.lt
           have x4' : w3.cell? ⟨g, 4, none⟩ = some (.slice va 0 vc) := HN3.out.nod.cell 4))
      all_goals
        go_wp2_with fail
        go_meet
        obtain ⟨h4, hg4, hf4⟩ := HF4.out
        obtain ⟨n5, hW5⟩ := cutB_of HN3.out HB3.out h4 hg4 hf4
        exact ⟨kb, a4, m4, _, n5, hk3, hW5⟩
    case rest =>
      clear x4 f4 HB HBW
      obtain ⟨kc, va2, vc2, xs0, n4, hkc, hB4⟩ := hcut
      go_wp2_with fail
      refine (is_bad b s kc d 91 _ n4.rd hs hkc).mono ?_
      rintro e w5 ⟨kd, ⟨rfl, r5, q5⟩, hkd⟩
      have n5 := n4.moved r5 q5
      have hB5 := hB4.keep (b := b) q5.ofOne hb
      obtain ⟨xs2, hxs⟩ : ∃ xs, xs = xs0 := ⟨_, rfl⟩
      rw [← hxs] at hB5
      have HBW2 := Lib.hid hB5
      have HB2 := Lib.hid (IHB.out w5.drew kd n5.rd hkd)
      clear hB5 hB4 hxs
      have x4 := n5.nod.cell 4
      simp [six] at x4
      have f4 := Blk.free n5.nod 4
      go_wp2_with fail
      obtain ⟨hi, hz0, hz1, hz2⟩ := HI.out
      go_region_law (first
        | (refine step_append_fresh rfl (.tmp 89) (.tmp 93) 50 rfl 57 i0 (.slice none 0 0) 1 24 Tryz.underlying50 hi hz0 hz1 hz2 rfl (by decide) (.slice va2 1 vc2) 1 xs2 (by simp [Act.eval, Act.put]) (HB3.out.own.alloc _) ⟨w3.heap.size, 0, none⟩ 1 1 [.slice ba bn bm] (by simp [Act.eval, Act.put]) rfl (cells_one _ _ _) (slice_oneCell _ _ _) (by unfold maxLen; omega) (by omega) ?_
           intro v4 w4 h4 hg4 hf4
           obtain ⟨a4, m4, rfl⟩ := row_slice (ok := fun _ => True) ⟨h4, fun _ _ => trivial⟩
           have n4 := HN3.out.grow HB3.out hg4
           have y4 : w4.cell? ⟨g, 4, none⟩ = some (.slice va2 1 vc2) := n4.nod.cell 4
           have z4 := Blk.free n4.nod 4
           have HF4 := Lib.hid (And.intro h4 (And.intro hg4 hf4))
           clear h4 hg4 hf4 n4)
        | (go_simp
           refine (HB2.out).mono ?_
           rintro e w3 ⟨kb, ba, bn, bm, ⟨rfl, r3, q3⟩, hk3⟩
           have HN3 := Lib.hid ((n5.drewN 1).moved r3 q3)
           have HB3 := Lib.hid (HBW2.out.keep (b := b) (((Keeps.refl (may3 b g w.heap.size) w5).drewN 1).trans q3.ofOne) hb)
           have hgl : g < w3.heap.size := HN3.out.nod.lt
           have x4' : w3.cell? ⟨g, 4, none⟩ = some (.slice va2 1 vc2) := HN3.out.nod.cell 4))
      all_goals
        obtain ⟨h4, hg4, hf4⟩ := HF4.out
        obtain ⟨n6, hW6⟩ := cutB_of HN3.out HB3.out h4 hg4 hf4
        have pz := n6.rd.c1
        have pw := (HN3.out.grow HB3.out hg4).rd.c1
        clear h4 hg4 hf4 hW6
        have m1 := n6.fin (kb : Int)
        have m2 := Blk.free n6.nod 2
        have m3 := n6.nod.cell 2
        have y0 := m1.nod.cell 0
        have y1 := m1.nod.cell 1
        have y2 := m1.nod.cell 2
        have y3 := m1.nod.cell 3
        have y4 := m1.nod.cell 4
        have y5 := m1.nod.cell 5
        have r0 := m1.res.cell 0
        have r1 := m1.res.cell 1
        have r2 := m1.res.cell 2
        have r3 := m1.res.cell 3
        have r4 := m1.res.cell 4
        have r5 := m1.res.cell 5
        have z := fun i => Blk.free m1.res i
        have p1 := n6.rd.c1
        simp [six] at m3 y0 y1 y2 y3 y4 y5 r0 r1 r2 r3 r4 r5
        go_wp2_with fail
        obtain ⟨d1, d2, d3, d4⟩ := m1.done
        refine bodyPost_ret (v := nodeV 63 k kb ⟨#[]⟩ a4 2 m4 ar) (res57 _ _ _ _ _ _ _ _ _ _ _ rfl d1) rfl ?_
        exact ⟨_, _, _, _, _, _, _, _, _, ⟨rfl, d2, d3⟩, hk3⟩

set_option maxRecDepth 100000 in
set_option maxHeartbeats 8000000 in
theorem sstep_branchno4 (ihb : SBodyBad) (b : Nat) (s : ByteArray) (k d : Nat) (ar : ByteArray) (w : World) (h : Sd w b s k false d) (hs : s.size ≤ 80) (hc : at? s k = some 63) (hc1 : at? s (k + 1) ≠ some 91) :
    Calls Tryz.prog 38 #[.pointer (some ⟨b, 0, none⟩), .string ar] w (BadStep b s d w) := by
  obtain ⟨i0, hi, hz0, hz1, hz2⟩ := info_parts Tryz.info57
  have HI := Lib.hid (And.intro hi (And.intro hz0 (And.intro hz1 hz2)))
  have HC1 := Lib.hid hc1
  have hlt0 := at?_lt hc
  have IH := Lib.hid (fun w1 r => ihb b s (k + 1) d ar 93 w1 r hs hlt0)
  have IHB := Lib.hid (fun w1 kd r hkd => ihb b s kd d ar 93 w1 r hs hkd)
  clear hi hz0 hz1 hz2 ihb hc1 hlt0
  have c0 := h.c0
  have c1 := h.c1
  have f1 := Blk.free h 1
  have hb := h.lt
  have hb2 : ¬ b = w.heap.size := by omega
  have hb3 : ¬ b = w.heap.size + 1 := by omega
  have hb4 : ¬ b = w.heap.size + 1 + 1 := by omega
  have hb5 : ¬ b = w.heap.size + 2 := by omega
  have hl0 : b ≤ w.heap.size := by omega
  have hl1 : b ≤ w.heap.size + 1 := by omega
  have hl2 : b ≤ w.heap.size + 2 := by omega
  have hl3 : b < w.heap.size + 1 := by omega
  have hl4 : b < w.heap.size + 2 := by omega
  have hl5 : b < w.heap.size + 1 + 1 := by omega
  have hl6 : b < w.heap.size + 3 := by omega
  have hl7 : b < w.heap.size + 1 + 1 + 1 := by omega
  have hlt := at?_lt hc
  have hget := at?_get hc hlt
  have hkz : (k : Int) < 80 := by omega
  go_enter Tryz.func38, Tryz.ntmps38
  go_upto_region 1 with fail
  go_cut [5] (fun v5 wc => Cut1 b w s k d 63 ar v5 wc)
  case first =>
    go_region
    all_goals (go_wp2_with fail; go_meet)
    · exact cut1_a b s k d 63 ar w h
    · exact cut1_b b s k d 63 ar w h
  case rest =>
    clear hl0 hl1 hl2 hl3 hl4 hl5 hl6 hl7 hb2 hb3 hb4 hb5 c0 c1 f1 hget hc
    obtain ⟨g, vb, rfl, hns, hown, hfr⟩ := hcut
    obtain ⟨va, vc, rfl⟩ := row_slice (ok := fun _ => True) ⟨hown, fun _ _ => trivial⟩
    have HF := Lib.hid (And.intro hown hfr)
    clear hown hfr
    have e1 : ¬ b = g := by have := hns.hg; omega
    have e2 : ¬ g = b := by omega
    have e3 : ¬ w.heap.size = g := hns.hne
    have e4 : ¬ g = w.heap.size := by omega
    have e5 : ¬ b = w.heap.size := by omega
    have e6 : ¬ w.heap.size = b := by omega
    have n1 := hns.tick
    have d1 := hns.rd.c1
    have x1 := Blk.free hns.rd 1
    have g0 := n1.nod.cell 0
    simp [six] at g0
    go_wp2_with fail
    refine (is_no b s (k + 1) false d 91 _ n1.rd hs hlt HC1.out).mono ?_
    rintro e w2 ⟨rfl, r, q⟩
    have n2 := n1.moved r q
    have hb0 : BW w.heap.size g w (.slice va 0 vc) 0 [] wc := ⟨HF.out.1, HF.out.2⟩
    have hBW := hb0.keep (b := b) (((Keeps.refl (may3 b g w.heap.size) wc).atB).trans q.ofOne) hb
    obtain ⟨xs, hxs⟩ : ∃ xs : List Value, xs = [] := ⟨_, rfl⟩
    rw [← hxs] at hBW
    have HBW := Lib.hid hBW
    clear hb0 hBW hxs
    have HB := Lib.hid (IH.out w2.drew n2.rd)
    have x4 := n2.nod.cell 4
    simp [six] at x4
    have f4 := Blk.free n2.nod 4
    go_upto_region 19 with fail
    go_cut [] (fun wx => ∃ kb a4 m4 xs, NS b w.heap.size g w s kb true d 63 k 0 ⟨#[]⟩ (.slice a4 1 m4) ar wx ∧ kb ≤ s.size ∧ BW w.heap.size g w (.slice a4 1 m4) 1 xs wx)
    case first =>
      obtain ⟨hi, hz0, hz1, hz2⟩ := HI.out
      go_region_law (first
        | (refine step_append_fresh rfl (.tmp 79) (.tmp 83) 50 rfl 57 i0 (.slice none 0 0) 1 24 Tryz.underlying50 hi hz0 hz1 hz2 rfl (by decide) (.slice va 0 vc) 0 xs (by simp [Act.eval, Act.put]) (HB3.out.own.alloc _) ⟨w3.heap.size, 0, none⟩ 1 1 [.slice ba bn bm] (by simp [Act.eval, Act.put]) rfl (cells_one _ _ _) (slice_oneCell _ _ _) (by unfold maxLen; omega) (by omega) ?_
           intro v4 w4 h4 hg4 hf4
           obtain ⟨a4, m4, rfl⟩ := row_slice (ok := fun _ => True) ⟨h4, fun _ _ => trivial⟩
           have n4 := HN3.out.grow HB3.out hg4
           have y4 : w4.cell? ⟨g, 4, none⟩ = some (.slice va 0 vc) := n4.nod.cell 4
           have z4 := Blk.free n4.nod 4
           have HF4 := Lib.hid (And.intro h4 (And.intro hg4 hf4))
           clear h4 hg4 hf4 n4)
        | (go_simp
           refine (HB.out).mono ?_
           rintro e w3 ⟨kb, ba, bn, bm, ⟨rfl, r3, q3⟩, hk3⟩
           have HN3 := Lib.hid ((n2.drewN 1).moved r3 q3)
           have HB3 := Lib.hid (HBW.out.keep (b := b) (((Keeps.refl (may3 b g w.heap.size) w2).drewN 1).trans q3.ofOne) hb)
           have hgl : g < w3.heap.size := HN3.out.nod.lt
           have x4' : w3.cell? ⟨g, 4, none⟩ = some (.slice va 0 vc) := HN3.out.nod.cell 4))
      all_goals
        go_wp2_with fail
        go_meet
        obtain ⟨h4, hg4, hf4⟩ := HF4.out
        obtain ⟨n5, hW5⟩ := cutB_of HN3.out HB3.out h4 hg4 hf4
        exact ⟨kb, a4, m4, _, n5, hk3, hW5⟩
    case rest =>
      clear x4 f4 HB HBW
      obtain ⟨kc, va2, vc2, xs0, n4, hkc, hB4⟩ := hcut
      go_wp2_with fail
      refine (is_bad b s kc d 91 _ n4.rd hs hkc).mono ?_
      rintro e w5 ⟨kd, ⟨rfl, r5, q5⟩, hkd⟩
      have n5 := n4.moved r5 q5
      have hB5 := hB4.keep (b := b) q5.ofOne hb
      obtain ⟨xs2, hxs⟩ : ∃ xs, xs = xs0 := ⟨_, rfl⟩
      rw [← hxs] at hB5
      have HBW2 := Lib.hid hB5
      have HB2 := Lib.hid (IHB.out w5.drew kd n5.rd hkd)
      clear hB5 hB4 hxs
      have x4 := n5.nod.cell 4
      simp [six] at x4
      have f4 := Blk.free n5.nod 4
      go_wp2_with fail
      obtain ⟨hi, hz0, hz1, hz2⟩ := HI.out
      go_region_law (first
        | (refine step_append_fresh rfl (.tmp 89) (.tmp 93) 50 rfl 57 i0 (.slice none 0 0) 1 24 Tryz.underlying50 hi hz0 hz1 hz2 rfl (by decide) (.slice va2 1 vc2) 1 xs2 (by simp [Act.eval, Act.put]) (HB3.out.own.alloc _) ⟨w3.heap.size, 0, none⟩ 1 1 [.slice ba bn bm] (by simp [Act.eval, Act.put]) rfl (cells_one _ _ _) (slice_oneCell _ _ _) (by unfold maxLen; omega) (by omega) ?_
           intro v4 w4 h4 hg4 hf4
           obtain ⟨a4, m4, rfl⟩ := row_slice (ok := fun _ => True) ⟨h4, fun _ _ => trivial⟩
           have n4 := HN3.out.grow HB3.out hg4
           have y4 : w4.cell? ⟨g, 4, none⟩ = some (.slice va2 1 vc2) := n4.nod.cell 4
           have z4 := Blk.free n4.nod 4
           have HF4 := Lib.hid (And.intro h4 (And.intro hg4 hf4))
           clear h4 hg4 hf4 n4)
        | (go_simp
           refine (HB2.out).mono ?_
           rintro e w3 ⟨kb, ba, bn, bm, ⟨rfl, r3, q3⟩, hk3⟩
           have HN3 := Lib.hid ((n5.drewN 1).moved r3 q3)
           have HB3 := Lib.hid (HBW2.out.keep (b := b) (((Keeps.refl (may3 b g w.heap.size) w5).drewN 1).trans q3.ofOne) hb)
           have hgl : g < w3.heap.size := HN3.out.nod.lt
           have x4' : w3.cell? ⟨g, 4, none⟩ = some (.slice va2 1 vc2) := HN3.out.nod.cell 4))
      all_goals
        obtain ⟨h4, hg4, hf4⟩ := HF4.out
        obtain ⟨n6, hW6⟩ := cutB_of HN3.out HB3.out h4 hg4 hf4
        have pz := n6.rd.c1
        have pw := (HN3.out.grow HB3.out hg4).rd.c1
        clear h4 hg4 hf4 hW6
        have m1 := n6.fin (kb : Int)
        have m2 := Blk.free n6.nod 2
        have m3 := n6.nod.cell 2
        have y0 := m1.nod.cell 0
        have y1 := m1.nod.cell 1
        have y2 := m1.nod.cell 2
        have y3 := m1.nod.cell 3
        have y4 := m1.nod.cell 4
        have y5 := m1.nod.cell 5
        have r0 := m1.res.cell 0
        have r1 := m1.res.cell 1
        have r2 := m1.res.cell 2
        have r3 := m1.res.cell 3
        have r4 := m1.res.cell 4
        have r5 := m1.res.cell 5
        have z := fun i => Blk.free m1.res i
        have p1 := n6.rd.c1
        simp [six] at m3 y0 y1 y2 y3 y4 y5 r0 r1 r2 r3 r4 r5
        go_wp2_with fail
        obtain ⟨d1, d2, d3, d4⟩ := m1.done
        refine bodyPost_ret (v := nodeV 63 k kb ⟨#[]⟩ a4 2 m4 ar) (res57 _ _ _ _ _ _ _ _ _ _ _ rfl d1) rfl ?_
        exact ⟨_, _, _, _, _, _, _, _, _, ⟨rfl, d2, d3⟩, hk3⟩

end Go.Proofs.YtkfcgamdlckncaaGreat

namespace Go.Proofs.YtkfcgamdlckncaaGreat
set_option linter.unusedVariables false
set_option linter.unusedSimpArgs false
open Go.RowKit

set_option maxRecDepth 100000 in
set_option maxHeartbeats 8000000 in
theorem sstep_scope (n : Nat) (ih : SBodyOk n) (b : Nat) (s : ByteArray) (k d : Nat) (ar : ByteArray) (w : World) (h : Sd w b s k false d) (hs : s.size ≤ 80) (hc : at? s k = some 123) (hark : ar.size ≤ k) (hd : d < 4) (hn : 4 * (s.size - k) + 2 ≤ n + 1)
    (vs : List UInt8) (k1 : Nat) (hv : declP s (s.size + 1) ar.data.toList [] (k + 1) = some (vs, k1)) (x : Nds) (k2 : Nat) (hx : stepsP s n (ar.data.toList ++ vs) (d + 1) 125 k1 = some (x, k2)) :
    Calls Tryz.prog 38 #[.pointer (some ⟨b, 0, none⟩), .string ar] w (GoodStep b s d w (.mk 123 k k2 vs ar.data.toList (.cons x .nil)) k2) := by
  obtain ⟨i0, hi, hz0, hz1, hz2⟩ := info_parts Tryz.info57
  have HI := Lib.hid (And.intro hi (And.intro hz0 (And.intro hz1 hz2)))
  have hdz : (d : Int) < 4 := by omega
  have hdd : decide ((4 : Int) < (d : Int) + 1) = false := by simp; omega
  have hlt0 := at?_lt hc
  have har : ar.size ≤ 80 := by omega
  have hl := declP_len _ _ _ _ _ _ _ hv
  have IH := Lib.hid (fun (out : ByteArray) (ho : vs = out.data.toList) w1 r => ih b s k1 (d + 1) (ar ++ out) 125 w1 r hs hl.1
    (by have : out.size = vs.length := by rw [ho]; simp
        rw [ByteArray.size_append]; simp at hl; omega) (by omega) (by simp at hl; omega))
  have HV := Lib.hid hv
  have HX := Lib.hid hx
  have HD := Lib.hid hd
  clear hi hz0 hz1 hz2 ih hn hx hv hl hd hlt0 hark
  have c0 := h.c0
  have c1 := h.c1
  have f1 := Blk.free h 1
  have hb := h.lt
  have hb2 : ¬ b = w.heap.size := by omega
  have hb3 : ¬ b = w.heap.size + 1 := by omega
  have hb4 : ¬ b = w.heap.size + 1 + 1 := by omega
  have hb5 : ¬ b = w.heap.size + 2 := by omega
  have hl0 : b ≤ w.heap.size := by omega
  have hl1 : b ≤ w.heap.size + 1 := by omega
  have hl2 : b ≤ w.heap.size + 2 := by omega
  have hl3 : b < w.heap.size + 1 := by omega
  have hl4 : b < w.heap.size + 2 := by omega
  have hl5 : b < w.heap.size + 1 + 1 := by omega
  have hl6 : b < w.heap.size + 3 := by omega
  have hl7 : b < w.heap.size + 1 + 1 + 1 := by omega
  have hlt := at?_lt hc
  have hget := at?_get hc hlt
  have hkz : (k : Int) < 80 := by omega
  go_enter Tryz.func38, Tryz.ntmps38
  go_upto_region 1 with fail
  go_cut [5] (fun v5 wc => Cut1 b w s k d 123 ar v5 wc)
  case first =>
    go_region
    all_goals (go_wp2_with fail; go_meet)
    · exact cut1_a b s k d 123 ar w h
    · exact cut1_b b s k d 123 ar w h
  case rest =>
    clear hl0 hl1 hl2 hl3 hl4 hl5 hl6 hl7 hb2 hb3 hb4 hb5 c0 c1 f1 hget hc
    obtain ⟨g, vb, rfl, hns, hown, hfr⟩ := hcut
    obtain ⟨va, vc, rfl⟩ := row_slice (ok := fun _ => True) ⟨hown, fun _ _ => trivial⟩
    have HF := Lib.hid (And.intro hown hfr)
    clear hown hfr
    have e1 : ¬ b = g := by have := hns.hg; omega
    have e2 : ¬ g = b := by omega
    have e3 : ¬ w.heap.size = g := hns.hne
    have e4 : ¬ g = w.heap.size := by omega
    have e5 : ¬ b = w.heap.size := by omega
    have e6 : ¬ w.heap.size = b := by omega
    have n1 := hns.tick
    have d1 := hns.rd.c1
    have x1 := Blk.free hns.rd 1
    have g0 := n1.nod.cell 0
    simp [six] at g0
    have na := n1.deeper
    have nb := na.badly false
    have ua := n1.rd.c3
    have ub := Blk.free n1.rd 3
    have uc := na.rd.c2
    have ud := na.rd.c3'
    have ue := Blk.free na.rd 2
    have uf := n1.rd.c2
    have ug := Blk.free n1.rd 2
    go_wp2_with fail
    refine (vars_any b s (k + 1) (d + 1) ar false _ nb.rd hs hlt har (s.size + 1) (by omega)).mono ?_
    intro e w1 hp
    rw [HV.out] at hp
    obtain ⟨kv, out, bad', ⟨rfl, rv, qv⟩, hkv, hout, hgood, hbad, _⟩ := hp
    cases bad' with
    | true => exact absurd (hbad rfl) (by simp)
    | false =>
    obtain ⟨hcol, hvk⟩ : at? s kv = some 58 ∧ (vs = out.data.toList ∧ k1 = kv + 1) := by
      rcases hgood rfl with ⟨h1, h2⟩ | ⟨_, h2⟩
      · simp only [Option.some.injEq, Prod.mk.injEq] at h2; exact ⟨h1, h2⟩
      · cases h2
    have hkv2 := at?_lt hcol
    have HC := Lib.hid hcol
    have HVK := Lib.hid hvk
    have nc := nb.moved rv qv
    have nd := nc.vars out
    have t2 := Blk.free nc.nod 3
    have t3 := nc.nod.cell 3
    simp [six] at t3
    clear hgood hbad hcol hvk ua ub uc ud ue uf ug
    go_wp2_with fail
    refine (is_yes b s kv false (d + 1) 58 _ nd.rd hs HC.out).mono ?_
    rintro e w2 ⟨rfl, r, q⟩
    have n2 : NS b w.heap.size g w s k1 false (d + 1) 123 k 0 out (.slice va 0 vc) ar w2 := by rw [HVK.out.2]; exact nd.moved r q
    have hb0 : BS w.heap.size g w .nil (.slice va 0 vc) 0 wc := ⟨[], ⟨HF.out.1, HF.out.2⟩, rfl⟩
    have hB := hb0.keep (b := b) (((((((Keeps.refl (may3 b g w.heap.size) wc).atB).atB).atB).trans qv.ofOne).atG).trans q.ofOne) hb
    have HBS := Lib.hid hB
    obtain ⟨xs, hBW, _⟩ := hB
    have HBW := Lib.hid hBW
    have HB := Lib.hid (IH.out out HVK.out.1 w2.drew n2.rd)
    have hcat : (ar ++ out).data.toList = ar.data.toList ++ vs := by rw [ByteArray.data_append, Array.toList_append, HVK.out.1]
    rw [hcat, HX.out] at HB
    clear hb0 hBW hcat t2 t3
    have x4 := n2.nod.cell 4
    have x3 := n2.nod.cell 3
    simp [six] at x4 x3
    have f4 := Blk.free n2.nod 4
    have hadd : ¬ 9223372036854775807 < ar.size + out.size := by omega
    go_upto_region 30 with fail
    go_cut [] (fun wx => ∃ a4 m4, NS b w.heap.size g w s k2 false (d + 1) 123 k 0 out (.slice a4 1 m4) ar wx ∧ BS w.heap.size g w (.cons x .nil) (.slice a4 1 m4) 1 wx)
    case first =>
      obtain ⟨hi, hz0, hz1, hz2⟩ := HI.out
      go_region_law (first
        | (refine step_append_fresh rfl (.tmp 138) (.tmp 145) 50 rfl 57 i0 (.slice none 0 0) 1 24 Tryz.underlying50 hi hz0 hz1 hz2 rfl (by decide) (.slice va 0 vc) 0 xs (by simp [Act.eval, Act.put]) (HB3.out.own.alloc _) ⟨w3.heap.size, 0, none⟩ 1 1 [.slice ba bn bm] (by simp [Act.eval, Act.put]) rfl (cells_one _ _ _) (slice_oneCell _ _ _) (by unfold maxLen; omega) (by omega) ?_
           intro v4 w4 h4 hg4 hf4
           obtain ⟨a4, m4, rfl⟩ := row_slice (ok := fun _ => True) ⟨h4, fun _ _ => trivial⟩
           have n4 := HN3.out.grow HB3.out hg4
           have y4 : w4.cell? ⟨g, 4, none⟩ = some (.slice va 0 vc) := n4.nod.cell 4
           have z4 := Blk.free n4.nod 4
           have HF4 := Lib.hid (And.intro h4 (And.intro hg4 hf4))
           clear h4 hg4 hf4 n4)
        | (go_simp
           refine (HB.out).mono ?_
           rintro e w3 ⟨ba, bn, bm, cs, ⟨rfl, r3, q3⟩, hr, hx⟩
           have HN3 := Lib.hid ((n2.drewN 1).moved r3 q3)
           have HB3 := Lib.hid (HBW.out.keep (b := b) (((Keeps.refl (may3 b g w.heap.size) w2).drewN 1).trans q3.ofOne) hb)
           have hgl : g < w3.heap.size := HN3.out.nod.lt
           have x4' : w3.cell? ⟨g, 4, none⟩ = some (.slice va 0 vc) := HN3.out.nod.cell 4))
      all_goals
        go_wp2_with fail
        go_meet
        obtain ⟨h4, hg4, hf4⟩ := HF4.out
        exact ⟨a4, m4, cutG_of n2 HBS.out q3 HN3.out HB3.out hr hx h4 hg4 hf4⟩
    case rest =>
      clear x4 x3 f4 HB HBS HBW
      obtain ⟨a4, m4, n5, hS⟩ := hcut
      have HS := Lib.hid hS
      clear hS
      have v1 := n5.rd.c3'
      have v2 := Blk.free n5.rd 3
      have n6 := n5.back
      have pz := n6.rd.c1
      have pw := n5.rd.c1
      have m1 := n6.fin (k2 : Int)
      have m2 := Blk.free n6.nod 2
      have m3 := n6.nod.cell 2
      have y0 := m1.nod.cell 0
      have y1 := m1.nod.cell 1
      have y2 := m1.nod.cell 2
      have y3 := m1.nod.cell 3
      have y4 := m1.nod.cell 4
      have y5 := m1.nod.cell 5
      have r0 := m1.res.cell 0
      have r1 := m1.res.cell 1
      have r2 := m1.res.cell 2
      have r3 := m1.res.cell 3
      have r4 := m1.res.cell 4
      have r5 := m1.res.cell 5
      have z := fun i => Blk.free m1.res i
      have p1 := n6.rd.c1
      simp [six] at m3 y0 y1 y2 y3 y4 y5 r0 r1 r2 r3 r4 r5
      go_wp2_with fail
      obtain ⟨d1, d2, d3, d4⟩ := m1.done
      refine bodyPost_ret (v := nodeV 123 k k2 out a4 1 m4 ar) (res57 _ _ _ _ _ _ _ _ _ _ _ rfl d1) rfl ?_
      refine ⟨_, _, _, _, _, _, _, _, ⟨rfl, d2, d3⟩, ?_⟩
      exact rep_of (vs := vs) (c := 123) (HS.out.keep (b := b) (((Keeps.refl (may3 b g w.heap.size) _).atB).atG) hb) (by rw [HVK.out.1]; rfl) d4 (Nat.le_refl _)

end Go.Proofs.YtkfcgamdlckncaaGreat

namespace Go.Proofs.YtkfcgamdlckncaaGreat
set_option linter.unusedVariables false
set_option linter.unusedSimpArgs false
open Go.RowKit

theorem is_any58 (b : Nat) (s : ByteArray) (k : Nat) (bad : Bool) (d : Nat) (w : World) (h : Sd w b s k bad d) (hs : s.size ≤ 80) (hk : k ≤ s.size) (hb : bad = false → at? s k ≠ some 58) :
    Calls Tryz.prog 57 #[.pointer (some ⟨b, 0, none⟩), .int .u8 ((58 : UInt8).toNat : Int)] w fun e w' => ∃ k', MovedS b s k' true d w (.tuple #[]) e w' ∧ k' ≤ s.size := by
  cases bad with
  | true => exact is_bad b s k d 58 w h hs hk
  | false => exact (is_no b s k false d 58 w h hs hk (hb rfl)).mono fun e w' h => ⟨k, h, hk⟩

set_option maxRecDepth 100000 in
set_option maxHeartbeats 8000000 in
theorem sstep_scopeno1 (ihb : SBodyBad) (b : Nat) (s : ByteArray) (k d : Nat) (ar : ByteArray) (w : World) (h : Sd w b s k false d) (hs : s.size ≤ 80) (hc : at? s k = some 123) (hark : ar.size ≤ k) (hd : d = 4) :
    Calls Tryz.prog 38 #[.pointer (some ⟨b, 0, none⟩), .string ar] w (BadStep b s d w) := by
  obtain ⟨i0, hi, hz0, hz1, hz2⟩ := info_parts Tryz.info57
  have HI := Lib.hid (And.intro hi (And.intro hz0 (And.intro hz1 hz2)))
  have hdz : (d : Int) ≤ 4 := by omega
  have hdd : decide ((4 : Int) < (d : Int) + 1) = true := by simp; omega
  have hdd2 : (4 : Int) < (d : Int) + 1 := by omega
  have hlt0 := at?_lt hc
  have har : ar.size ≤ 80 := by omega
  have IHB := Lib.hid (fun w1 kd ar r hkd => ihb b s kd (d + 1) ar 125 w1 r hs hkd)
  clear hi hz0 hz1 hz2 ihb hd hlt0 hark
  have c0 := h.c0
  have c1 := h.c1
  have f1 := Blk.free h 1
  have hb := h.lt
  have hb2 : ¬ b = w.heap.size := by omega
  have hb3 : ¬ b = w.heap.size + 1 := by omega
  have hb4 : ¬ b = w.heap.size + 1 + 1 := by omega
  have hb5 : ¬ b = w.heap.size + 2 := by omega
  have hl0 : b ≤ w.heap.size := by omega
  have hl1 : b ≤ w.heap.size + 1 := by omega
  have hl2 : b ≤ w.heap.size + 2 := by omega
  have hl3 : b < w.heap.size + 1 := by omega
  have hl4 : b < w.heap.size + 2 := by omega
  have hl5 : b < w.heap.size + 1 + 1 := by omega
  have hl6 : b < w.heap.size + 3 := by omega
  have hl7 : b < w.heap.size + 1 + 1 + 1 := by omega
  have hlt := at?_lt hc
  have hget := at?_get hc hlt
  have hkz : (k : Int) < 80 := by omega
  go_enter Tryz.func38, Tryz.ntmps38
  go_upto_region 1 with fail
  go_cut [5] (fun v5 wc => Cut1 b w s k d 123 ar v5 wc)
  case first =>
    go_region
    all_goals (go_wp2_with fail; go_meet)
    · exact cut1_a b s k d 123 ar w h
    · exact cut1_b b s k d 123 ar w h
  case rest =>
    clear hl0 hl1 hl2 hl3 hl4 hl5 hl6 hl7 hb2 hb3 hb4 hb5 c0 c1 f1 hget hc
    obtain ⟨g, vb, rfl, hns, hown, hfr⟩ := hcut
    obtain ⟨va, vc, rfl⟩ := row_slice (ok := fun _ => True) ⟨hown, fun _ _ => trivial⟩
    have HF := Lib.hid (And.intro hown hfr)
    clear hown hfr
    have e1 : ¬ b = g := by have := hns.hg; omega
    have e2 : ¬ g = b := by omega
    have e3 : ¬ w.heap.size = g := hns.hne
    have e4 : ¬ g = w.heap.size := by omega
    have e5 : ¬ b = w.heap.size := by omega
    have e6 : ¬ w.heap.size = b := by omega
    have n1 := hns.tick
    have d1 := hns.rd.c1
    have x1 := Blk.free hns.rd 1
    have g0 := n1.nod.cell 0
    simp [six] at g0
    have na := n1.deeper
    have nb := na.badly true
    have ua := n1.rd.c3
    have ub := Blk.free n1.rd 3
    have uc := na.rd.c2
    have ud := na.rd.c3'
    have ue := Blk.free na.rd 2
    have uf := n1.rd.c2
    have ug := Blk.free n1.rd 2
    go_wp2_with fail
    refine (vars_any b s (k + 1) (d + 1) ar true _ nb.rd hs hlt har (s.size + 1) (by omega)).mono ?_
    intro e w1 hp
    obtain ⟨kv, out, bad', ⟨rfl, rv, qv⟩, hkv, hout, hgood, hbad, hb00⟩ := hp
    obtain rfl : bad' = true := hb00 rfl
    have nc := nb.moved rv qv
    have nd := nc.vars out
    have t2 := Blk.free nc.nod 3
    have t3 := nc.nod.cell 3
    simp [six] at t3
    clear hgood hbad hb00 ua ub uc ud ue uf ug hdd hdd2
    go_wp2_with fail
    refine (is_bad b s kv (d + 1) 58 _ nd.rd hs hkv).mono ?_
    rintro e w2 ⟨kd, ⟨rfl, r, q⟩, hkd⟩
    have n2 := nd.moved r q
    have hb0 : BW w.heap.size g w (.slice va 0 vc) 0 [] wc := ⟨HF.out.1, HF.out.2⟩
    have hBW := hb0.keep (b := b) (((((((Keeps.refl (may3 b g w.heap.size) wc).atB).atB).atB).trans qv.ofOne).atG).trans q.ofOne) hb
    obtain ⟨xs, hxs⟩ : ∃ xs : List Value, xs = [] := ⟨_, rfl⟩
    rw [← hxs] at hBW
    have HBW := Lib.hid hBW
    clear hb0 hBW hxs t2 t3
    have HB := Lib.hid (IHB.out w2.drew kd (ar ++ out) n2.rd hkd)
    have x4 := n2.nod.cell 4
    have x3 := n2.nod.cell 3
    simp [six] at x4 x3
    have f4 := Blk.free n2.nod 4
    have hadd : ¬ 9223372036854775807 < ar.size + out.size := by omega
    go_upto_region 30 with fail
    go_cut [] (fun wx => ∃ kb a4 m4 xs, NS b w.heap.size g w s kb true (d + 1) 123 k 0 out (.slice a4 1 m4) ar wx ∧ kb ≤ s.size ∧ BW w.heap.size g w (.slice a4 1 m4) 1 xs wx)
    case first =>
      obtain ⟨hi, hz0, hz1, hz2⟩ := HI.out
      go_region_law (first
        | (refine step_append_fresh rfl (.tmp 138) (.tmp 145) 50 rfl 57 i0 (.slice none 0 0) 1 24 Tryz.underlying50 hi hz0 hz1 hz2 rfl (by decide) (.slice va 0 vc) 0 xs (by simp [Act.eval, Act.put]) (HB3.out.own.alloc _) ⟨w3.heap.size, 0, none⟩ 1 1 [.slice ba bn bm] (by simp [Act.eval, Act.put]) rfl (cells_one _ _ _) (slice_oneCell _ _ _) (by unfold maxLen; omega) (by omega) ?_
           intro v4 w4 h4 hg4 hf4
           obtain ⟨a4, m4, rfl⟩ := row_slice (ok := fun _ => True) ⟨h4, fun _ _ => trivial⟩
           have n4 := HN3.out.grow HB3.out hg4
           have y4 : w4.cell? ⟨g, 4, none⟩ = some (.slice va 0 vc) := n4.nod.cell 4
           have z4 := Blk.free n4.nod 4
           have HF4 := Lib.hid (And.intro h4 (And.intro hg4 hf4))
           clear h4 hg4 hf4 n4)
        | (go_simp
           refine (HB.out).mono ?_
           rintro e w3 ⟨kb, ba, bn, bm, ⟨rfl, r3, q3⟩, hk3⟩
           have HN3 := Lib.hid ((n2.drewN 1).moved r3 q3)
           have HB3 := Lib.hid (HBW.out.keep (b := b) (((Keeps.refl (may3 b g w.heap.size) w2).drewN 1).trans q3.ofOne) hb)
           have hgl : g < w3.heap.size := HN3.out.nod.lt
           have x4' : w3.cell? ⟨g, 4, none⟩ = some (.slice va 0 vc) := HN3.out.nod.cell 4))
      all_goals
        go_wp2_with fail
        go_meet
        obtain ⟨h4, hg4, hf4⟩ := HF4.out
        obtain ⟨n5, hW5⟩ := cutB_of HN3.out HB3.out h4 hg4 hf4
        exact ⟨kb, a4, m4, _, n5, hk3, hW5⟩
    case rest =>
      clear x4 x3 f4 HB HBW
      obtain ⟨kb, a4, m4, xs0, n5, hk3, _⟩ := hcut
      have v1 := n5.rd.c3'
      have v2 := Blk.free n5.rd 3
      have n6 := n5.back
      have pz := n6.rd.c1
      have pw := n5.rd.c1
      have m1 := n6.fin (kb : Int)
      have m2 := Blk.free n6.nod 2
      have m3 := n6.nod.cell 2
      have y0 := m1.nod.cell 0
      have y1 := m1.nod.cell 1
      have y2 := m1.nod.cell 2
      have y3 := m1.nod.cell 3
      have y4 := m1.nod.cell 4
      have y5 := m1.nod.cell 5
      have r0 := m1.res.cell 0
      have r1 := m1.res.cell 1
      have r2 := m1.res.cell 2
      have r3 := m1.res.cell 3
      have r4 := m1.res.cell 4
      have r5 := m1.res.cell 5
      have z := fun i => Blk.free m1.res i
      have p1 := n6.rd.c1
      simp [six] at m3 y0 y1 y2 y3 y4 y5 r0 r1 r2 r3 r4 r5
      go_wp2_with fail
      obtain ⟨d1, d2, d3, d4⟩ := m1.done
      refine bodyPost_ret (v := nodeV 123 k kb out a4 1 m4 ar) (res57 _ _ _ _ _ _ _ _ _ _ _ rfl d1) rfl ?_
      exact ⟨_, _, _, _, _, _, _, _, _, ⟨rfl, d2, d3⟩, hk3⟩

set_option maxRecDepth 100000 in
set_option maxHeartbeats 8000000 in
theorem sstep_scopeno2 (ihb : SBodyBad) (b : Nat) (s : ByteArray) (k d : Nat) (ar : ByteArray) (w : World) (h : Sd w b s k false d) (hs : s.size ≤ 80) (hc : at? s k = some 123) (hark : ar.size ≤ k) (hd : d < 4) (hv : declP s (s.size + 1) ar.data.toList [] (k + 1) = none) :
    Calls Tryz.prog 38 #[.pointer (some ⟨b, 0, none⟩), .string ar] w (BadStep b s d w) := by
  obtain ⟨i0, hi, hz0, hz1, hz2⟩ := info_parts Tryz.info57
  have HI := Lib.hid (And.intro hi (And.intro hz0 (And.intro hz1 hz2)))
  have hdz : (d : Int) < 4 := by omega
  have hdd : decide ((4 : Int) < (d : Int) + 1) = false := by simp; omega
  have hlt0 := at?_lt hc
  have har : ar.size ≤ 80 := by omega
  have IHB := Lib.hid (fun w1 kd ar r hkd => ihb b s kd (d + 1) ar 125 w1 r hs hkd)
  have HV := Lib.hid hv
  clear hi hz0 hz1 hz2 ihb hd hlt0 hark hv
  have c0 := h.c0
  have c1 := h.c1
  have f1 := Blk.free h 1
  have hb := h.lt
  have hb2 : ¬ b = w.heap.size := by omega
  have hb3 : ¬ b = w.heap.size + 1 := by omega
  have hb4 : ¬ b = w.heap.size + 1 + 1 := by omega
  have hb5 : ¬ b = w.heap.size + 2 := by omega
  have hl0 : b ≤ w.heap.size := by omega
  have hl1 : b ≤ w.heap.size + 1 := by omega
  have hl2 : b ≤ w.heap.size + 2 := by omega
  have hl3 : b < w.heap.size + 1 := by omega
  have hl4 : b < w.heap.size + 2 := by omega
  have hl5 : b < w.heap.size + 1 + 1 := by omega
  have hl6 : b < w.heap.size + 3 := by omega
  have hl7 : b < w.heap.size + 1 + 1 + 1 := by omega
  have hlt := at?_lt hc
  have hget := at?_get hc hlt
  have hkz : (k : Int) < 80 := by omega
  go_enter Tryz.func38, Tryz.ntmps38
  go_upto_region 1 with fail
  go_cut [5] (fun v5 wc => Cut1 b w s k d 123 ar v5 wc)
  case first =>
    go_region
    all_goals (go_wp2_with fail; go_meet)
    · exact cut1_a b s k d 123 ar w h
    · exact cut1_b b s k d 123 ar w h
  case rest =>
    clear hl0 hl1 hl2 hl3 hl4 hl5 hl6 hl7 hb2 hb3 hb4 hb5 c0 c1 f1 hget hc
    obtain ⟨g, vb, rfl, hns, hown, hfr⟩ := hcut
    obtain ⟨va, vc, rfl⟩ := row_slice (ok := fun _ => True) ⟨hown, fun _ _ => trivial⟩
    have HF := Lib.hid (And.intro hown hfr)
    clear hown hfr
    have e1 : ¬ b = g := by have := hns.hg; omega
    have e2 : ¬ g = b := by omega
    have e3 : ¬ w.heap.size = g := hns.hne
    have e4 : ¬ g = w.heap.size := by omega
    have e5 : ¬ b = w.heap.size := by omega
    have e6 : ¬ w.heap.size = b := by omega
    have n1 := hns.tick
    have d1 := hns.rd.c1
    have x1 := Blk.free hns.rd 1
    have g0 := n1.nod.cell 0
    simp [six] at g0
    have na := n1.deeper
    have nb := na.badly false
    have ua := n1.rd.c3
    have ub := Blk.free n1.rd 3
    have uc := na.rd.c2
    have ud := na.rd.c3'
    have ue := Blk.free na.rd 2
    have uf := n1.rd.c2
    have ug := Blk.free n1.rd 2
    go_wp2_with fail
    refine (vars_any b s (k + 1) (d + 1) ar false _ nb.rd hs hlt har (s.size + 1) (by omega)).mono ?_
    intro e w1 hp
    rw [HV.out] at hp
    obtain ⟨kv, out, bad', ⟨rfl, rv, qv⟩, hkv, hout, hgood, hbad, _⟩ := hp
    have nc := nb.moved rv qv
    have nd := nc.vars out
    have t2 := Blk.free nc.nod 3
    have t3 := nc.nod.cell 3
    simp [six] at t3
    have HI3 := Lib.hid (is_any58 b s kv bad' (d + 1) _ nd.rd hs hkv (fun e => by
      rcases hgood e with ⟨_, h2⟩ | ⟨h1, _⟩
      · cases h2
      · exact h1))
    clear hgood hbad ua ub uc ud ue uf ug
    go_wp2_with fail
    refine (HI3.out).mono ?_
    rintro e w2 ⟨kd, ⟨rfl, r, q⟩, hkd⟩
    have n2 := nd.moved r q
    have hb0 : BW w.heap.size g w (.slice va 0 vc) 0 [] wc := ⟨HF.out.1, HF.out.2⟩
    have hBW := hb0.keep (b := b) (((((((Keeps.refl (may3 b g w.heap.size) wc).atB).atB).atB).trans qv.ofOne).atG).trans q.ofOne) hb
    obtain ⟨xs, hxs⟩ : ∃ xs : List Value, xs = [] := ⟨_, rfl⟩
    rw [← hxs] at hBW
    have HBW := Lib.hid hBW
    clear hb0 hBW hxs t2 t3
    have HB := Lib.hid (IHB.out w2.drew kd (ar ++ out) n2.rd hkd)
    have x4 := n2.nod.cell 4
    have x3 := n2.nod.cell 3
    simp [six] at x4 x3
    have f4 := Blk.free n2.nod 4
    have hadd : ¬ 9223372036854775807 < ar.size + out.size := by omega
    go_upto_region 30 with fail
    go_cut [] (fun wx => ∃ kb a4 m4 xs, NS b w.heap.size g w s kb true (d + 1) 123 k 0 out (.slice a4 1 m4) ar wx ∧ kb ≤ s.size ∧ BW w.heap.size g w (.slice a4 1 m4) 1 xs wx)
    case first =>
      obtain ⟨hi, hz0, hz1, hz2⟩ := HI.out
      go_region_law (first
        | (refine step_append_fresh rfl (.tmp 138) (.tmp 145) 50 rfl 57 i0 (.slice none 0 0) 1 24 Tryz.underlying50 hi hz0 hz1 hz2 rfl (by decide) (.slice va 0 vc) 0 xs (by simp [Act.eval, Act.put]) (HB3.out.own.alloc _) ⟨w3.heap.size, 0, none⟩ 1 1 [.slice ba bn bm] (by simp [Act.eval, Act.put]) rfl (cells_one _ _ _) (slice_oneCell _ _ _) (by unfold maxLen; omega) (by omega) ?_
           intro v4 w4 h4 hg4 hf4
           obtain ⟨a4, m4, rfl⟩ := row_slice (ok := fun _ => True) ⟨h4, fun _ _ => trivial⟩
           have n4 := HN3.out.grow HB3.out hg4
           have y4 : w4.cell? ⟨g, 4, none⟩ = some (.slice va 0 vc) := n4.nod.cell 4
           have z4 := Blk.free n4.nod 4
           have HF4 := Lib.hid (And.intro h4 (And.intro hg4 hf4))
           clear h4 hg4 hf4 n4)
        | (go_simp
           refine (HB.out).mono ?_
           rintro e w3 ⟨kb, ba, bn, bm, ⟨rfl, r3, q3⟩, hk3⟩
           have HN3 := Lib.hid ((n2.drewN 1).moved r3 q3)
           have HB3 := Lib.hid (HBW.out.keep (b := b) (((Keeps.refl (may3 b g w.heap.size) w2).drewN 1).trans q3.ofOne) hb)
           have hgl : g < w3.heap.size := HN3.out.nod.lt
           have x4' : w3.cell? ⟨g, 4, none⟩ = some (.slice va 0 vc) := HN3.out.nod.cell 4))
      all_goals
        go_wp2_with fail
        go_meet
        obtain ⟨h4, hg4, hf4⟩ := HF4.out
        obtain ⟨n5, hW5⟩ := cutB_of HN3.out HB3.out h4 hg4 hf4
        exact ⟨kb, a4, m4, _, n5, hk3, hW5⟩
    case rest =>
      clear x4 x3 f4 HB HBW
      obtain ⟨kb, a4, m4, xs0, n5, hk3, _⟩ := hcut
      have v1 := n5.rd.c3'
      have v2 := Blk.free n5.rd 3
      have n6 := n5.back
      have pz := n6.rd.c1
      have pw := n5.rd.c1
      have m1 := n6.fin (kb : Int)
      have m2 := Blk.free n6.nod 2
      have m3 := n6.nod.cell 2
      have y0 := m1.nod.cell 0
      have y1 := m1.nod.cell 1
      have y2 := m1.nod.cell 2
      have y3 := m1.nod.cell 3
      have y4 := m1.nod.cell 4
      have y5 := m1.nod.cell 5
      have r0 := m1.res.cell 0
      have r1 := m1.res.cell 1
      have r2 := m1.res.cell 2
      have r3 := m1.res.cell 3
      have r4 := m1.res.cell 4
      have r5 := m1.res.cell 5
      have z := fun i => Blk.free m1.res i
      have p1 := n6.rd.c1
      simp [six] at m3 y0 y1 y2 y3 y4 y5 r0 r1 r2 r3 r4 r5
      go_wp2_with fail
      obtain ⟨d1, d2, d3, d4⟩ := m1.done
      refine bodyPost_ret (v := nodeV 123 k kb out a4 1 m4 ar) (res57 _ _ _ _ _ _ _ _ _ _ _ rfl d1) rfl ?_
      exact ⟨_, _, _, _, _, _, _, _, _, ⟨rfl, d2, d3⟩, hk3⟩

end Go.Proofs.YtkfcgamdlckncaaGreat

namespace Go.Proofs.YtkfcgamdlckncaaGreat
set_option linter.unusedVariables false
set_option linter.unusedSimpArgs false
open Go.RowKit

set_option maxRecDepth 100000 in
set_option maxHeartbeats 8000000 in
theorem sstep_scopeno3 (n : Nat) (ih : SBodyOk n) (b : Nat) (s : ByteArray) (k d : Nat) (ar : ByteArray) (w : World) (h : Sd w b s k false d) (hs : s.size ≤ 80) (hc : at? s k = some 123) (hark : ar.size ≤ k) (hd : d < 4) (hn : 4 * (s.size - k) + 2 ≤ n + 1)
    (vs : List UInt8) (k1 : Nat) (hv : declP s (s.size + 1) ar.data.toList [] (k + 1) = some (vs, k1)) (hx : stepsP s n (ar.data.toList ++ vs) (d + 1) 125 k1 = none) :
    Calls Tryz.prog 38 #[.pointer (some ⟨b, 0, none⟩), .string ar] w (BadStep b s d w) := by
  obtain ⟨i0, hi, hz0, hz1, hz2⟩ := info_parts Tryz.info57
  have HI := Lib.hid (And.intro hi (And.intro hz0 (And.intro hz1 hz2)))
  have hdz : (d : Int) < 4 := by omega
  have hdd : decide ((4 : Int) < (d : Int) + 1) = false := by simp; omega
  have hlt0 := at?_lt hc
  have har : ar.size ≤ 80 := by omega
  have hl := declP_len _ _ _ _ _ _ _ hv
  have IH := Lib.hid (fun (out : ByteArray) (ho : vs = out.data.toList) w1 r => ih b s k1 (d + 1) (ar ++ out) 125 w1 r hs hl.1
    (by have : out.size = vs.length := by rw [ho]; simp
        rw [ByteArray.size_append]; simp at hl; omega) (by omega) (by simp at hl; omega))
  have HV := Lib.hid hv
  have HX := Lib.hid hx
  have HD := Lib.hid hd
  clear hi hz0 hz1 hz2 ih hn hx hv hl hd hlt0 hark
  have c0 := h.c0
  have c1 := h.c1
  have f1 := Blk.free h 1
  have hb := h.lt
  have hb2 : ¬ b = w.heap.size := by omega
  have hb3 : ¬ b = w.heap.size + 1 := by omega
  have hb4 : ¬ b = w.heap.size + 1 + 1 := by omega
  have hb5 : ¬ b = w.heap.size + 2 := by omega
  have hl0 : b ≤ w.heap.size := by omega
  have hl1 : b ≤ w.heap.size + 1 := by omega
  have hl2 : b ≤ w.heap.size + 2 := by omega
  have hl3 : b < w.heap.size + 1 := by omega
  have hl4 : b < w.heap.size + 2 := by omega
  have hl5 : b < w.heap.size + 1 + 1 := by omega
  have hl6 : b < w.heap.size + 3 := by omega
  have hl7 : b < w.heap.size + 1 + 1 + 1 := by omega
  have hlt := at?_lt hc
  have hget := at?_get hc hlt
  have hkz : (k : Int) < 80 := by omega
  go_enter Tryz.func38, Tryz.ntmps38
  go_upto_region 1 with fail
  go_cut [5] (fun v5 wc => Cut1 b w s k d 123 ar v5 wc)
  case first =>
    go_region
    all_goals (go_wp2_with fail; go_meet)
    · exact cut1_a b s k d 123 ar w h
    · exact cut1_b b s k d 123 ar w h
  case rest =>
    clear hl0 hl1 hl2 hl3 hl4 hl5 hl6 hl7 hb2 hb3 hb4 hb5 c0 c1 f1 hget hc
    obtain ⟨g, vb, rfl, hns, hown, hfr⟩ := hcut
    obtain ⟨va, vc, rfl⟩ := row_slice (ok := fun _ => True) ⟨hown, fun _ _ => trivial⟩
    have HF := Lib.hid (And.intro hown hfr)
    clear hown hfr
    have e1 : ¬ b = g := by have := hns.hg; omega
    have e2 : ¬ g = b := by omega
    have e3 : ¬ w.heap.size = g := hns.hne
    have e4 : ¬ g = w.heap.size := by omega
    have e5 : ¬ b = w.heap.size := by omega
    have e6 : ¬ w.heap.size = b := by omega
    have n1 := hns.tick
    have d1 := hns.rd.c1
    have x1 := Blk.free hns.rd 1
    have g0 := n1.nod.cell 0
    simp [six] at g0
    have na := n1.deeper
    have nb := na.badly false
    have ua := n1.rd.c3
    have ub := Blk.free n1.rd 3
    have uc := na.rd.c2
    have ud := na.rd.c3'
    have ue := Blk.free na.rd 2
    have uf := n1.rd.c2
    have ug := Blk.free n1.rd 2
    go_wp2_with fail
    refine (vars_any b s (k + 1) (d + 1) ar false _ nb.rd hs hlt har (s.size + 1) (by omega)).mono ?_
    intro e w1 hp
    rw [HV.out] at hp
    obtain ⟨kv, out, bad', ⟨rfl, rv, qv⟩, hkv, hout, hgood, hbad, _⟩ := hp
    cases bad' with
    | true => exact absurd (hbad rfl) (by simp)
    | false =>
    obtain ⟨hcol, hvk⟩ : at? s kv = some 58 ∧ (vs = out.data.toList ∧ k1 = kv + 1) := by
      rcases hgood rfl with ⟨h1, h2⟩ | ⟨_, h2⟩
      · simp only [Option.some.injEq, Prod.mk.injEq] at h2; exact ⟨h1, h2⟩
      · cases h2
    have hkv2 := at?_lt hcol
    have HC := Lib.hid hcol
    have HVK := Lib.hid hvk
    have nc := nb.moved rv qv
    have nd := nc.vars out
    have t2 := Blk.free nc.nod 3
    have t3 := nc.nod.cell 3
    simp [six] at t3
    clear hgood hbad hcol hvk ua ub uc ud ue uf ug
    go_wp2_with fail
    refine (is_yes b s kv false (d + 1) 58 _ nd.rd hs HC.out).mono ?_
    rintro e w2 ⟨rfl, r, q⟩
    have n2 : NS b w.heap.size g w s k1 false (d + 1) 123 k 0 out (.slice va 0 vc) ar w2 := by rw [HVK.out.2]; exact nd.moved r q
    have hb0 : BW w.heap.size g w (.slice va 0 vc) 0 [] wc := ⟨HF.out.1, HF.out.2⟩
    have hBW := hb0.keep (b := b) (((((((Keeps.refl (may3 b g w.heap.size) wc).atB).atB).atB).trans qv.ofOne).atG).trans q.ofOne) hb
    obtain ⟨xs, hxs⟩ : ∃ xs : List Value, xs = [] := ⟨_, rfl⟩
    rw [← hxs] at hBW
    have HBW := Lib.hid hBW
    clear hb0 hBW hxs t2 t3
    have HB := Lib.hid (IH.out out HVK.out.1 w2.drew n2.rd)
    have hcat : (ar ++ out).data.toList = ar.data.toList ++ vs := by rw [ByteArray.data_append, Array.toList_append, HVK.out.1]
    rw [hcat, HX.out] at HB
    clear hcat
    have x4 := n2.nod.cell 4
    have x3 := n2.nod.cell 3
    simp [six] at x4 x3
    have f4 := Blk.free n2.nod 4
    have hadd : ¬ 9223372036854775807 < ar.size + out.size := by omega
    go_upto_region 30 with fail
    go_cut [] (fun wx => ∃ kb a4 m4 xs, NS b w.heap.size g w s kb true (d + 1) 123 k 0 out (.slice a4 1 m4) ar wx ∧ kb ≤ s.size ∧ BW w.heap.size g w (.slice a4 1 m4) 1 xs wx)
    case first =>
      obtain ⟨hi, hz0, hz1, hz2⟩ := HI.out
      go_region_law (first
        | (refine step_append_fresh rfl (.tmp 138) (.tmp 145) 50 rfl 57 i0 (.slice none 0 0) 1 24 Tryz.underlying50 hi hz0 hz1 hz2 rfl (by decide) (.slice va 0 vc) 0 xs (by simp [Act.eval, Act.put]) (HB3.out.own.alloc _) ⟨w3.heap.size, 0, none⟩ 1 1 [.slice ba bn bm] (by simp [Act.eval, Act.put]) rfl (cells_one _ _ _) (slice_oneCell _ _ _) (by unfold maxLen; omega) (by omega) ?_
           intro v4 w4 h4 hg4 hf4
           obtain ⟨a4, m4, rfl⟩ := row_slice (ok := fun _ => True) ⟨h4, fun _ _ => trivial⟩
           have n4 := HN3.out.grow HB3.out hg4
           have y4 : w4.cell? ⟨g, 4, none⟩ = some (.slice va 0 vc) := n4.nod.cell 4
           have z4 := Blk.free n4.nod 4
           have HF4 := Lib.hid (And.intro h4 (And.intro hg4 hf4))
           clear h4 hg4 hf4 n4)
        | (go_simp
           refine (HB.out).mono ?_
           rintro e w3 ⟨kb, ba, bn, bm, ⟨rfl, r3, q3⟩, hk3⟩
           have HN3 := Lib.hid ((n2.drewN 1).moved r3 q3)
           have HB3 := Lib.hid (HBW.out.keep (b := b) (((Keeps.refl (may3 b g w.heap.size) w2).drewN 1).trans q3.ofOne) hb)
           have hgl : g < w3.heap.size := HN3.out.nod.lt
           have x4' : w3.cell? ⟨g, 4, none⟩ = some (.slice va 0 vc) := HN3.out.nod.cell 4))
      all_goals
        go_wp2_with fail
        go_meet
        obtain ⟨h4, hg4, hf4⟩ := HF4.out
        obtain ⟨n5, hW5⟩ := cutB_of HN3.out HB3.out h4 hg4 hf4
        exact ⟨kb, a4, m4, _, n5, hk3, hW5⟩
    case rest =>
      clear x4 x3 f4 HB HBW
      obtain ⟨kb, a4, m4, xs0, n5, hk3, _⟩ := hcut
      have v1 := n5.rd.c3'
      have v2 := Blk.free n5.rd 3
      have n6 := n5.back
      have pz := n6.rd.c1
      have pw := n5.rd.c1
      have m1 := n6.fin (kb : Int)
      have m2 := Blk.free n6.nod 2
      have m3 := n6.nod.cell 2
      have y0 := m1.nod.cell 0
      have y1 := m1.nod.cell 1
      have y2 := m1.nod.cell 2
      have y3 := m1.nod.cell 3
      have y4 := m1.nod.cell 4
      have y5 := m1.nod.cell 5
      have r0 := m1.res.cell 0
      have r1 := m1.res.cell 1
      have r2 := m1.res.cell 2
      have r3 := m1.res.cell 3
      have r4 := m1.res.cell 4
      have r5 := m1.res.cell 5
      have z := fun i => Blk.free m1.res i
      have p1 := n6.rd.c1
      simp [six] at m3 y0 y1 y2 y3 y4 y5 r0 r1 r2 r3 r4 r5
      go_wp2_with fail
      obtain ⟨d1, d2, d3, d4⟩ := m1.done
      refine bodyPost_ret (v := nodeV 123 k kb out a4 1 m4 ar) (res57 _ _ _ _ _ _ _ _ _ _ _ rfl d1) rfl ?_
      exact ⟨_, _, _, _, _, _, _, _, _, ⟨rfl, d2, d3⟩, hk3⟩

end Go.Proofs.YtkfcgamdlckncaaGreat
