/-
  Walks of the model's reader: step, the steps that leave, and two that use a variable.
  Walks of the model's reader: step, a byte that is no kind.
-/
import Derived.Test.YtkfcgamdlckncaaGreatScW
namespace Go.Proofs.YtkfcgamdlckncaaGreat
set_option linter.unusedVariables false
set_option linter.unusedSimpArgs false
open Go.RowKit

set_option maxRecDepth 100000 in
set_option maxHeartbeats 4000000 in
theorem sstep_leave94 (b : Nat) (s : ByteArray) (k d : Nat) (ar : ByteArray) (w : World) (h : Sd w b s k false d) (hs : s.size ≤ 80) (hc : at? s k = some 94) :
    Calls Tryz.prog 38 #[.pointer (some ⟨b, 0, none⟩), .string ar] w (GoodStep b s d w (.mk 94 k (k + 1) [] ar.data.toList .nil) (k + 1)) := by
  have c0 := h.c0
  have c1 := h.c1
  have f1 := Blk.free h 1
  have hb := h.lt
  have hb2 : ¬ b = w.heap.size := by omega
  have hb3 : ¬ b = w.heap.size + 1 := by omega
  have hb4 : ¬ b = w.heap.size + 1 + 1 := by omega
  have hb5 : ¬ b = w.heap.size + 2 := by omega
  have hl0 : b ≤ w.heap.size := by omega
  have hl1 : b ≤ w.heap.size + 1 := by omega
  have hl2 : b ≤ w.heap.size + 2 := by omega
  have hl3 : b < w.heap.size + 1 := by omega
  have hl4 : b < w.heap.size + 2 := by omega
  have hl5 : b < w.heap.size + 1 + 1 := by omega
  have hl6 : b < w.heap.size + 3 := by omega
  have hl7 : b < w.heap.size + 1 + 1 + 1 := by omega
  have hlt := at?_lt hc
  have hget := at?_get hc hlt
  have hkz : (k : Int) < 80 := by omega
  go_enter Tryz.func38, Tryz.ntmps38
  go_upto_region 1 with fail
  go_cut [5] (fun v5 wc => Cut1 b w s k d 94 ar v5 wc)
  case first =>
    go_region
    all_goals (go_wp2_with fail; go_meet)
    · exact cut1_a b s k d 94 ar w h
    · exact cut1_b b s k d 94 ar w h
  case rest =>
    clear hl0 hl1 hl2 hl3 hl4 hl5 hl6 hl7 hb2 hb3 hb4 hb5 c0 c1 f1 hget hc
    obtain ⟨g, vb, rfl, hns, hown, hfr⟩ := hcut
    obtain ⟨va, vc, rfl⟩ := row_slice (ok := fun _ => True) ⟨hown, fun _ _ => trivial⟩
    have HF := Lib.hid (And.intro hown hfr)
    clear hown hfr
    have e1 : ¬ b = g := by have := hns.hg; omega
    have e2 : ¬ g = b := by omega
    have e3 : ¬ w.heap.size = g := hns.hne
    have e4 : ¬ g = w.heap.size := by omega
    have e5 : ¬ b = w.heap.size := by omega
    have e6 : ¬ w.heap.size = b := by omega
    have n1 := hns.tick
    have d1 := hns.rd.c1
    have x1 := Blk.free hns.rd 1
    have g0 := n1.nod.cell 0
    simp [six] at g0
    have m1 := n1.fin ((k : Int) + 1)
    have m2 := Blk.free n1.nod 2
    have m3 := n1.nod.cell 2
    have y0 := m1.nod.cell 0
    have y1 := m1.nod.cell 1
    have y2 := m1.nod.cell 2
    have y3 := m1.nod.cell 3
    have y4 := m1.nod.cell 4
    have y5 := m1.nod.cell 5
    have r0 := m1.res.cell 0
    have r1 := m1.res.cell 1
    have r2 := m1.res.cell 2
    have r3 := m1.res.cell 3
    have r4 := m1.res.cell 4
    have r5 := m1.res.cell 5
    have z := fun i => Blk.free m1.res i
    have p1 := n1.rd.c1'
    simp [six] at m3 y0 y1 y2 y3 y4 y5 r0 r1 r2 r3 r4 r5
    go_wp2_with fail
    obtain ⟨d1, d2, d3, d4⟩ := m1.done
    refine bodyPost_ret (v := nodeV 94 k (k + 1) ⟨#[]⟩ va 0 vc ar) (res57 _ _ _ _ _ _ _ _ _ _ _ rfl d1) rfl ?_
    refine ⟨_, _, _, _, _, _, _, _, ⟨rfl, d2, d3⟩, ?_⟩
    simp only [RepS]
    exact ⟨_, 0, [], rfl, row_may3 (((((Keeps.refl _ wc).atB).atG).ret)) HF.out.1 HF.out.2 hb, rfl⟩

set_option maxRecDepth 100000 in
set_option maxHeartbeats 4000000 in
theorem sstep_leave33 (b : Nat) (s : ByteArray) (k d : Nat) (ar : ByteArray) (w : World) (h : Sd w b s k false d) (hs : s.size ≤ 80) (hc : at? s k = some 33) :
    Calls Tryz.prog 38 #[.pointer (some ⟨b, 0, none⟩), .string ar] w (GoodStep b s d w (.mk 33 k (k + 1) [] ar.data.toList .nil) (k + 1)) := by
  have c0 := h.c0
  have c1 := h.c1
  have f1 := Blk.free h 1
  have hb := h.lt
  have hb2 : ¬ b = w.heap.size := by omega
  have hb3 : ¬ b = w.heap.size + 1 := by omega
  have hb4 : ¬ b = w.heap.size + 1 + 1 := by omega
  have hb5 : ¬ b = w.heap.size + 2 := by omega
  have hl0 : b ≤ w.heap.size := by omega
  have hl1 : b ≤ w.heap.size + 1 := by omega
  have hl2 : b ≤ w.heap.size + 2 := by omega
  have hl3 : b < w.heap.size + 1 := by omega
  have hl4 : b < w.heap.size + 2 := by omega
  have hl5 : b < w.heap.size + 1 + 1 := by omega
  have hl6 : b < w.heap.size + 3 := by omega
  have hl7 : b < w.heap.size + 1 + 1 + 1 := by omega
  have hlt := at?_lt hc
  have hget := at?_get hc hlt
  have hkz : (k : Int) < 80 := by omega
  go_enter Tryz.func38, Tryz.ntmps38
  go_upto_region 1 with fail
  go_cut [5] (fun v5 wc => Cut1 b w s k d 33 ar v5 wc)
  case first =>
    go_region
    all_goals (go_wp2_with fail; go_meet)
    · exact cut1_a b s k d 33 ar w h
    · exact cut1_b b s k d 33 ar w h
  case rest =>
    clear hl0 hl1 hl2 hl3 hl4 hl5 hl6 hl7 hb2 hb3 hb4 hb5 c0 c1 f1 hget hc
    obtain ⟨g, vb, rfl, hns, hown, hfr⟩ := hcut
    obtain ⟨va, vc, rfl⟩ := row_slice (ok := fun _ => True) ⟨hown, fun _ _ => trivial⟩
    have HF := Lib.hid (And.intro hown hfr)
    clear hown hfr
    have e1 : ¬ b = g := by have := hns.hg; omega
    have e2 : ¬ g = b := by omega
    have e3 : ¬ w.heap.size = g := hns.hne
    have e4 : ¬ g = w.heap.size := by omega
    have e5 : ¬ b = w.heap.size := by omega
    have e6 : ¬ w.heap.size = b := by omega
    have n1 := hns.tick
    have d1 := hns.rd.c1
    have x1 := Blk.free hns.rd 1
    have g0 := n1.nod.cell 0
    simp [six] at g0
    have m1 := n1.fin ((k : Int) + 1)
    have m2 := Blk.free n1.nod 2
    have m3 := n1.nod.cell 2
    have y0 := m1.nod.cell 0
    have y1 := m1.nod.cell 1
    have y2 := m1.nod.cell 2
    have y3 := m1.nod.cell 3
    have y4 := m1.nod.cell 4
    have y5 := m1.nod.cell 5
    have r0 := m1.res.cell 0
    have r1 := m1.res.cell 1
    have r2 := m1.res.cell 2
    have r3 := m1.res.cell 3
    have r4 := m1.res.cell 4
    have r5 := m1.res.cell 5
    have z := fun i => Blk.free m1.res i
    have p1 := n1.rd.c1'
    simp [six] at m3 y0 y1 y2 y3 y4 y5 r0 r1 r2 r3 r4 r5
    go_wp2_with fail
    obtain ⟨d1, d2, d3, d4⟩ := m1.done
    refine bodyPost_ret (v := nodeV 33 k (k + 1) ⟨#[]⟩ va 0 vc ar) (res57 _ _ _ _ _ _ _ _ _ _ _ rfl d1) rfl ?_
    refine ⟨_, _, _, _, _, _, _, _, ⟨rfl, d2, d3⟩, ?_⟩
    simp only [RepS]
    exact ⟨_, 0, [], rfl, row_may3 (((((Keeps.refl _ wc).atB).atG).ret)) HF.out.1 HF.out.2 hb, rfl⟩

set_option maxRecDepth 100000 in
set_option maxHeartbeats 4000000 in
theorem sstep_use43 (b : Nat) (s : ByteArray) (k d : Nat) (ar : ByteArray) (w : World) (h : Sd w b s k false d) (hs : s.size ≤ 80) (har : ar.size ≤ 80) (hc : at? s k = some 43) (v : UInt8) (k1 : Nat) (hv : varP s ar.data.toList (k + 1) = some (v, k1)) :
    Calls Tryz.prog 38 #[.pointer (some ⟨b, 0, none⟩), .string ar] w (GoodStep b s d w (.mk 43 k k1 [v] ar.data.toList .nil) k1) := by
  have HV := Lib.hid hv
  obtain ⟨sv, hsv⟩ : ∃ sv, str [v] = .string sv := ⟨_, rfl⟩
  have HSV := Lib.hid hsv
  clear hv hsv
  have c0 := h.c0
  have c1 := h.c1
  have f1 := Blk.free h 1
  have hb := h.lt
  have hb2 : ¬ b = w.heap.size := by omega
  have hb3 : ¬ b = w.heap.size + 1 := by omega
  have hb4 : ¬ b = w.heap.size + 1 + 1 := by omega
  have hb5 : ¬ b = w.heap.size + 2 := by omega
  have hl0 : b ≤ w.heap.size := by omega
  have hl1 : b ≤ w.heap.size + 1 := by omega
  have hl2 : b ≤ w.heap.size + 2 := by omega
  have hl3 : b < w.heap.size + 1 := by omega
  have hl4 : b < w.heap.size + 2 := by omega
  have hl5 : b < w.heap.size + 1 + 1 := by omega
  have hl6 : b < w.heap.size + 3 := by omega
  have hl7 : b < w.heap.size + 1 + 1 + 1 := by omega
  have hlt := at?_lt hc
  have hget := at?_get hc hlt
  have hkz : (k : Int) < 80 := by omega
  go_enter Tryz.func38, Tryz.ntmps38
  go_upto_region 1 with fail
  go_cut [5] (fun v5 wc => Cut1 b w s k d 43 ar v5 wc)
  case first =>
    go_region
    all_goals (go_wp2_with fail; go_meet)
    · exact cut1_a b s k d 43 ar w h
    · exact cut1_b b s k d 43 ar w h
  case rest =>
    clear hl0 hl1 hl2 hl3 hl4 hl5 hl6 hl7 hb2 hb3 hb4 hb5 c0 c1 f1 hget hc
    obtain ⟨g, vb, rfl, hns, hown, hfr⟩ := hcut
    obtain ⟨va, vc, rfl⟩ := row_slice (ok := fun _ => True) ⟨hown, fun _ _ => trivial⟩
    have HF := Lib.hid (And.intro hown hfr)
    clear hown hfr
    have e1 : ¬ b = g := by have := hns.hg; omega
    have e2 : ¬ g = b := by omega
    have e3 : ¬ w.heap.size = g := hns.hne
    have e4 : ¬ g = w.heap.size := by omega
    have e5 : ¬ b = w.heap.size := by omega
    have e6 : ¬ w.heap.size = b := by omega
    have n1 := hns.tick
    have d1 := hns.rd.c1
    have x1 := Blk.free hns.rd 1
    have g0 := n1.nod.cell 0
    simp [six] at g0
    go_wp2_with fail
    refine (svar_some b s (k + 1) false d ar _ n1.rd hs har v k1 HV.out).mono ?_
    rintro e w2 ⟨rfl, r, q⟩
    rw [HSV.out]
    have n2 := n1.moved r q
    have n3 := n2.vars sv
    have t2 := Blk.free n2.nod 3
    have t3 := n2.nod.cell 3
    simp [six] at t3
    have m1 := n3.fin (k1 : Int)
    have m2 := Blk.free n3.nod 2
    have m3 := n3.nod.cell 2
    have y0 := m1.nod.cell 0
    have y1 := m1.nod.cell 1
    have y2 := m1.nod.cell 2
    have y3 := m1.nod.cell 3
    have y4 := m1.nod.cell 4
    have y5 := m1.nod.cell 5
    have r0 := m1.res.cell 0
    have r1 := m1.res.cell 1
    have r2 := m1.res.cell 2
    have r3 := m1.res.cell 3
    have r4 := m1.res.cell 4
    have r5 := m1.res.cell 5
    have z := fun i => Blk.free m1.res i
    have p1 := n3.rd.c1
    simp [six] at m3 y0 y1 y2 y3 y4 y5 r0 r1 r2 r3 r4 r5
    go_wp2_with fail
    obtain ⟨d1, d2, d3, d4⟩ := m1.done
    refine bodyPost_ret (v := nodeV 43 k k1 sv va 0 vc ar) (res57 _ _ _ _ _ _ _ _ _ _ _ rfl d1) rfl ?_
    refine ⟨_, _, _, _, _, _, _, _, ⟨rfl, d2, d3⟩, ?_⟩
    simp only [RepS]
    refine ⟨_, 0, [], ?_, row_may3 ((((((Keeps.refl _ wc).atB).trans q.ofOne).atG).atG).ret) HF.out.1 HF.out.2 hb, rfl⟩
    rw [HSV.out]
    rfl

set_option maxRecDepth 100000 in
set_option maxHeartbeats 4000000 in
theorem sstep_useno43 (b : Nat) (s : ByteArray) (k d : Nat) (ar : ByteArray) (w : World) (h : Sd w b s k false d) (hs : s.size ≤ 80) (har : ar.size ≤ 80) (hc : at? s k = some 43) (hv : varP s ar.data.toList (k + 1) = none) :
    Calls Tryz.prog 38 #[.pointer (some ⟨b, 0, none⟩), .string ar] w (BadStep b s d w) := by
  have HV := Lib.hid hv
  clear hv
  have c0 := h.c0
  have c1 := h.c1
  have f1 := Blk.free h 1
  have hb := h.lt
  have hb2 : ¬ b = w.heap.size := by omega
  have hb3 : ¬ b = w.heap.size + 1 := by omega
  have hb4 : ¬ b = w.heap.size + 1 + 1 := by omega
  have hb5 : ¬ b = w.heap.size + 2 := by omega
  have hl0 : b ≤ w.heap.size := by omega
  have hl1 : b ≤ w.heap.size + 1 := by omega
  have hl2 : b ≤ w.heap.size + 2 := by omega
  have hl3 : b < w.heap.size + 1 := by omega
  have hl4 : b < w.heap.size + 2 := by omega
  have hl5 : b < w.heap.size + 1 + 1 := by omega
  have hl6 : b < w.heap.size + 3 := by omega
  have hl7 : b < w.heap.size + 1 + 1 + 1 := by omega
  have hlt := at?_lt hc
  have hget := at?_get hc hlt
  have hkz : (k : Int) < 80 := by omega
  go_enter Tryz.func38, Tryz.ntmps38
  go_upto_region 1 with fail
  go_cut [5] (fun v5 wc => Cut1 b w s k d 43 ar v5 wc)
  case first =>
    go_region
    all_goals (go_wp2_with fail; go_meet)
    · exact cut1_a b s k d 43 ar w h
    · exact cut1_b b s k d 43 ar w h
  case rest =>
    clear hl0 hl1 hl2 hl3 hl4 hl5 hl6 hl7 hb2 hb3 hb4 hb5 c0 c1 f1 hget hc
    obtain ⟨g, vb, rfl, hns, hown, hfr⟩ := hcut
    obtain ⟨va, vc, rfl⟩ := row_slice (ok := fun _ => True) ⟨hown, fun _ _ => trivial⟩
    have HF := Lib.hid (And.intro hown hfr)
    clear hown hfr
    have e1 : ¬ b = g := by have := hns.hg; omega
    have e2 : ¬ g = b := by omega
    have e3 : ¬ w.heap.size = g := hns.hne
    have e4 : ¬ g = w.heap.size := by omega
    have e5 : ¬ b = w.heap.size := by omega
    have e6 : ¬ w.heap.size = b := by omega
    have n1 := hns.tick
    have d1 := hns.rd.c1
    have x1 := Blk.free hns.rd 1
    have g0 := n1.nod.cell 0
    simp [six] at g0
    go_wp2_with fail
    refine (svar_none b s (k + 1) false d ar _ n1.rd hs hlt har HV.out).mono ?_
    rintro e w2 ⟨rfl, r, q⟩
    obtain ⟨sv, hsv⟩ : ∃ sv, str [97] = .string sv := ⟨_, rfl⟩
    rw [hsv]
    clear hsv
    have n2 := n1.moved r q
    have n3 := n2.vars sv
    have t2 := Blk.free n2.nod 3
    have t3 := n2.nod.cell 3
    simp [six] at t3
    have m1 := n3.fin ((k : Int) + 1)
    have m2 := Blk.free n3.nod 2
    have m3 := n3.nod.cell 2
    have y0 := m1.nod.cell 0
    have y1 := m1.nod.cell 1
    have y2 := m1.nod.cell 2
    have y3 := m1.nod.cell 3
    have y4 := m1.nod.cell 4
    have y5 := m1.nod.cell 5
    have r0 := m1.res.cell 0
    have r1 := m1.res.cell 1
    have r2 := m1.res.cell 2
    have r3 := m1.res.cell 3
    have r4 := m1.res.cell 4
    have r5 := m1.res.cell 5
    have z := fun i => Blk.free m1.res i
    have p1 := n3.rd.c1'
    simp [six] at m3 y0 y1 y2 y3 y4 y5 r0 r1 r2 r3 r4 r5
    go_wp2_with fail
    obtain ⟨d1, d2, d3, d4⟩ := m1.done
    refine bodyPost_ret (v := nodeV 43 k (k + 1) sv va 0 vc ar) (res57 _ _ _ _ _ _ _ _ _ _ _ rfl d1) rfl ?_
    exact ⟨_, _, _, _, _, _, _, _, _, ⟨rfl, d2, d3⟩, hlt⟩

end Go.Proofs.YtkfcgamdlckncaaGreat

namespace Go.Proofs.YtkfcgamdlckncaaGreat
set_option linter.unusedVariables false
set_option linter.unusedSimpArgs false
open Go.RowKit

set_option maxRecDepth 100000 in
set_option maxHeartbeats 8000000 in
theorem sstep_bad (b : Nat) (s : ByteArray) (k d : Nat) (ar : ByteArray) (w : World) (h : Sd w b s k false d) (hs : s.size ≤ 80) (c : UInt8) (hc : at? s k = some c)
    (h1 : ¬ (c = 43 ∨ c = 46 ∨ c = 45 ∨ c = 126)) (h2 : ¬ c = 61) (h3 : ¬ (c = 94 ∨ c = 33)) (h4 : ¬ c = 63) (h5 : ¬ c = 42) (h6 : ¬ c = 123) :
    Calls Tryz.prog 38 #[.pointer (some ⟨b, 0, none⟩), .string ar] w (BadStep b s d w) := by
  obtain ⟨cv, hcv⟩ : ∃ cv : Int, (c.toNat : Int) = cv := ⟨_, rfl⟩
  have e : ∀ m : UInt8, ¬ c = m → (cv == (m.toNat : Int)) = false := fun m hm => by
    rw [beq_eq_false_iff_ne, ← hcv]; exact fun e => hm (UInt8.toNat_inj.1 (Int.ofNat.inj e))
  simp only [not_or] at h1 h3
  have a1 : (cv == 43) = false := e 43 h1.1
  have a2 : (cv == 46) = false := e 46 h1.2.1
  have a3 : (cv == 45) = false := e 45 h1.2.2.1
  have a4 : (cv == 126) = false := e 126 h1.2.2.2
  have a5 : (cv == 61) = false := e 61 h2
  have a6 : (cv == 94) = false := e 94 h3.1
  have a7 : (cv == 33) = false := e 33 h3.2
  have a8 : (cv == 63) = false := e 63 h4
  have a9 : (cv == 42) = false := e 42 h5
  have a10 : (cv == 123) = false := e 123 h6
  clear e h1 h2 h3 h4 h5 h6
  have c0 := h.c0
  have c1 := h.c1
  have f1 := Blk.free h 1
  have hb := h.lt
  have hb2 : ¬ b = w.heap.size := by omega
  have hb3 : ¬ b = w.heap.size + 1 := by omega
  have hb4 : ¬ b = w.heap.size + 1 + 1 := by omega
  have hb5 : ¬ b = w.heap.size + 2 := by omega
  have hl0 : b ≤ w.heap.size := by omega
  have hl1 : b ≤ w.heap.size + 1 := by omega
  have hl2 : b ≤ w.heap.size + 2 := by omega
  have hl3 : b < w.heap.size + 1 := by omega
  have hl4 : b < w.heap.size + 2 := by omega
  have hl5 : b < w.heap.size + 1 + 1 := by omega
  have hl6 : b < w.heap.size + 3 := by omega
  have hl7 : b < w.heap.size + 1 + 1 + 1 := by omega
  have hlt := at?_lt hc
  have hget := at?_get hc hlt
  have hkz : (k : Int) < 80 := by omega
  go_enter Tryz.func38, Tryz.ntmps38
  go_upto_region 1 with fail
  go_cut [5] (fun v5 wc => Cut1 b w s k d cv ar v5 wc)
  case first =>
    go_region
    all_goals (go_wp2_with fail; go_meet)
    · exact cut1_a b s k d cv ar w h
    · exact cut1_b b s k d cv ar w h
  case rest =>
    clear hl0 hl1 hl2 hl3 hl4 hl5 hl6 hl7 hb2 hb3 hb4 hb5 c0 c1 f1 hget hc
    obtain ⟨g, vb, rfl, hns, hown, hfr⟩ := hcut
    obtain ⟨va, vc, rfl⟩ := row_slice (ok := fun _ => True) ⟨hown, fun _ _ => trivial⟩
    have HF := Lib.hid (And.intro hown hfr)
    clear hown hfr
    have e1 : ¬ b = g := by have := hns.hg; omega
    have e2 : ¬ g = b := by omega
    have e3 : ¬ w.heap.size = g := hns.hne
    have e4 : ¬ g = w.heap.size := by omega
    have e5 : ¬ b = w.heap.size := by omega
    have e6 : ¬ w.heap.size = b := by omega
    have n1 := hns.tick
    have d1 := hns.rd.c1
    have x1 := Blk.free hns.rd 1
    have g0 := n1.nod.cell 0
    simp [six] at g0
    have u6 := n1.rd.c2
    have u7 := Blk.free n1.rd 2
    have n2 := n1.badly true
    have pz := n1.rd.c1'
    have m1 := n2.fin ((k : Int) + 1)
    have m2 := Blk.free n2.nod 2
    have m3 := n2.nod.cell 2
    have y0 := m1.nod.cell 0
    have y1 := m1.nod.cell 1
    have y2 := m1.nod.cell 2
    have y3 := m1.nod.cell 3
    have y4 := m1.nod.cell 4
    have y5 := m1.nod.cell 5
    have r0 := m1.res.cell 0
    have r1 := m1.res.cell 1
    have r2 := m1.res.cell 2
    have r3 := m1.res.cell 3
    have r4 := m1.res.cell 4
    have r5 := m1.res.cell 5
    have z := fun i => Blk.free m1.res i
    have p1 := n2.rd.c1'
    simp [six] at m3 y0 y1 y2 y3 y4 y5 r0 r1 r2 r3 r4 r5
    go_wp2_with fail
    obtain ⟨d1, d2, d3, d4⟩ := m1.done
    refine bodyPost_ret (v := nodeV cv k (k + 1) ⟨#[]⟩ va 0 vc ar) (res57 _ _ _ _ _ _ _ _ _ _ _ rfl d1) rfl ?_
    exact ⟨_, _, _, _, _, _, _, _, _, ⟨rfl, d2, d3⟩, hlt⟩

end Go.Proofs.YtkfcgamdlckncaaGreat
