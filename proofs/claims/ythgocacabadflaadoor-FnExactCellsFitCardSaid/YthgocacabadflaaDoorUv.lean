/-
  The program's CellsFit.
-/
import Derived.Test.YthgocacabadflaaDoorUx
import Derived.Test.YthgocacabadflaaDoorRqa
import Derived.Test.YthgocacabadflaaDoorUc
import Derived.StillTailTactics
namespace Go.Proofs.YthgocacabadflaaDoor
set_option linter.unusedVariables false
set_option linter.unusedSimpArgs false
open Go.RowKit

/-! ### the plain account -/
def lfAt (s : List Lf) (i : Nat) : Lf := s.getD i ⟨0, 0, 0⟩
theorem lfAt_get {s : List Lf} {i : Nat} {f : Lf} (h : s[i]? = some f) : lfAt s i = f := by unfold lfAt; simp [h]
def meetsB (f g : Lf) : Bool := decide (f.d < 0) || decide (g.b < f.d)
def clash (s : List Lf) (zs : List Int) (i j : Nat) : Bool := decide (zs.getD j 0 = zs.getD i 0) && meetsB (lfAt s j) (lfAt s i)
def freeTo (s : List Lf) (zs : List Int) (i k : Nat) : Bool := (List.range k).all (fun j => !clash s zs i j)
def okAt (s : List Lf) (zs : List Int) (i : Nat) : Bool := freeTo s zs i i && decide (0 ≤ zs.getD i 0)
def okTo (s : List Lf) (zs : List Int) (k : Nat) : Bool := (List.range k).all (okAt s zs)
def fitV (r : Option (List Ev)) (zs : List Int) : Bool := match r with
  | none => false
  | some l => decide (zs.length = (livesL l).length) && okTo (livesL l) zs (livesL l).length
theorem freeTo_succ (s : List Lf) (zs : List Int) (i k : Nat) : freeTo s zs i (k + 1) = (freeTo s zs i k && !clash s zs i k) := by unfold freeTo; rw [List.range_succ, List.all_append]; simp
theorem okTo_succ (s : List Lf) (zs : List Int) (k : Nat) : okTo s zs (k + 1) = (okTo s zs k && okAt s zs k) := by unfold okTo; rw [List.range_succ, List.all_append]; simp
theorem freeTo_no {s : List Lf} {zs : List Int} {i j k : Nat} (hj : j < k) (h : clash s zs i j = true) : freeTo s zs i k = false := by
  unfold freeTo
  rw [List.all_eq_false]
  exact ⟨j, List.mem_range.2 hj, by rw [h]; decide⟩
theorem okTo_no {s : List Lf} {zs : List Int} {j k : Nat} (hj : j < k) (h : okAt s zs j = false) : okTo s zs k = false := by
  unfold okTo
  rw [List.all_eq_false]
  exact ⟨j, List.mem_range.2 hj, by rw [h]; decide⟩

/-! ### the walks -/
set_option maxRecDepth 100000 in
set_option maxHeartbeats 2000000 in
theorem meets_any (f g : Lf) (w : World) : Calls Tryd.prog 64 #[.agg #[.int .i64 f.b, .int .i64 f.u, .int .i64 f.d], .agg #[.int .i64 g.b, .int .i64 g.u, .int .i64 g.d]] w fun e w' => e = .returned (.bool (meetsB f g)) ∧ Keeps noB w w' := by
  have q0 : Keeps noB w ((w.alloc (.cells #[.int .i64 f.b, .int .i64 f.u, .int .i64 f.d] 41)).alloc (.cells #[.int .i64 g.b, .int .i64 g.u, .int .i64 g.d] 41)) := ((Keeps.refl _ _).alloc _).alloc _
  have HL := Lib.hid (fun W => isLeft_any f.b f.u f.d W)
  have HF : Hid (∀ W, Keeps noB ((w.alloc (.cells #[.int .i64 f.b, .int .i64 f.u, .int .i64 f.d] 41)).alloc (.cells #[.int .i64 g.b, .int .i64 g.u, .int .i64 g.d] 41)) W → W.cell? ⟨w.heap.size, 2, none⟩ = some (.int .i64 f.d) ∧ W.cell? ⟨w.heap.size + 1, 0, none⟩ = some (.int .i64 g.b)) := Lib.hid (fun W q => by
    have b1 := q.blk ((Blk.new w #[.int .i64 f.b, .int .i64 f.u, .int .i64 f.d] 41).alloc _) id
    have b2 := q.blk (Blk.new (w.alloc (.cells #[.int .i64 f.b, .int .i64 f.u, .int .i64 f.d] 41)) #[.int .i64 g.b, .int .i64 g.u, .int .i64 g.d] 41) id
    rw [World.size_alloc] at b2
    exact ⟨(b1.cell 2).trans rfl, (b2.cell 0).trans rfl⟩)
  have HQ := Lib.hid q0
  unfold meetsB
  clear q0
  by_cases hd : f.d < 0
  · rw [decide_eq_true hd] at HL ⊢
    go_enter Tryd.func64, Tryd.ntmps64
    go_wp2_with fail
    refine (HL.out _).mono ?_
    rintro e1 w1 ⟨rfl, q1⟩
    have Q1 := Lib.hid (HQ.out.trans q1)
    clear q1
    go_wp2_with fail
    go_ret
    exact ⟨by simp, Q1.out⟩
  · rw [decide_eq_false hd] at HL ⊢
    go_enter Tryd.func64, Tryd.ntmps64
    go_wp2_with fail
    refine (HL.out _).mono ?_
    rintro e1 w1 ⟨rfl, q1⟩
    obtain ⟨y1, y2⟩ := HF.out _ q1
    have Q1 := Lib.hid (HQ.out.trans q1)
    clear q1
    go_wp2_with fail
    go_ret
    exact ⟨by simp, Q1.out⟩

set_option maxRecDepth 100000 in
set_option maxHeartbeats 8000000 in
theorem mayTake_any (W : World) (H : Nat) (own : Nat → Prop) (l : List Ev) (ve vl : Value) (h : HistAt W H own l ve vl) (v : Value) (n : Nat) (zs : List Int) (ha : ArgI W v n zs) (hn : n = (livesL l).length) (hn6 : n ≤ 600) (i : Nat) (hi : i < n) :
    Calls Tryd.prog 41 #[.pointer (some ⟨H, 0, none⟩), v, .int .i64 (i : Int)] W fun e w' => e = .returned (.bool (okAt (livesL l) zs i)) ∧ Keeps noB W w' := by
  obtain ⟨a, c, rfl, hR⟩ := lrow_at h.lfs
  obtain ⟨hl, p, cv, rfl, hA⟩ := ha
  have r1 := h.blk.cell 1
  simp at r1
  have hHl := h.blk.lt
  generalize livesL l = s at *
  rw [← hn] at r1
  have HR : Hid (∀ j wr, Keeps noB W wr → j < n → ∃ g f, a = some ⟨g, 0, none⟩ ∧ n ≤ c ∧ s[j]? = some f ∧ wr.cell? ⟨g, j * 3, none⟩ = some (.int .i64 f.b) ∧ wr.cell? ⟨g, j * 3 + 1, none⟩ = some (.int .i64 f.u) ∧ wr.cell? ⟨g, j * 3 + 2, none⟩ = some (.int .i64 f.d)) := Lib.hid (fun j wr q hj => by
    obtain ⟨g, f, e1, e2, e3⟩ := hR noB j wr q (fun _ _ e => e) (by omega)
    exact ⟨g, f, e1, by omega, e3⟩)
  have HA : Hid (∀ j wr, Keeps noB W wr → j < n → ∃ b o, p = some ⟨b, o, none⟩ ∧ n ≤ cv ∧ wr.cell? ⟨b, o + j, none⟩ = some (.int .i64 (zs.getD j 0))) := Lib.hid (fun j wr q hj => by
    obtain ⟨b, o, e, h1, h2, h3⟩ := hA j hj
    exact ⟨b, o, e, h1, (q.cell (p := ⟨b, o + j, none⟩) h2 id).trans h3⟩)
  have HH : Hid (∀ wr, Keeps noB W wr → wr.cell? ⟨H, 1, none⟩ = some (.slice a n c)) := Lib.hid (fun wr q => (q.cell (p := ⟨H, 1, none⟩) hHl id).trans r1)
  obtain ⟨b, o, rfl, hcv, _⟩ := HA.out i W (Keeps.refl _ _) hi
  have hi1 : (i : Int) < (n : Int) := by omega
  have hi2 : (i : Int) ≤ (cv : Int) := by omega
  have hi3 : (n : Int) ≤ (cv : Int) := by omega
  have hi0 : (0 : Int) ≤ (i : Int) := by omega
  clear hR hA r1 hHl h hn hl
  go_enter Tryd.func41, Tryd.ntmps41
  go_wp2_with fail
  go_loopw [13] (fun vj wr => ∃ j : Nat, j ≤ i ∧ vj = .int .i64 (j : Int) ∧ freeTo s zs i j = true ∧ Keeps noB W wr) (fun vj _ => i - (intOf vj).toNat)
  case atStart => exact ⟨0, Nat.zero_le _, rfl, rfl, Keeps.refl _ _⟩
  case round =>
    obtain ⟨j, hji, rfl, hfree, hq⟩ := hrel
    by_cases hlt : j < i
    · obtain ⟨b1, o1, e1, _, s1⟩ := HA.out j wr hq (by omega)
      obtain ⟨b2, o2, e2, _, s2⟩ := HA.out i wr hq hi
      obtain ⟨g, f, e3, hc, hf, t1, t2, t3⟩ := HR.out j wr hq (by omega)
      obtain ⟨g', f', e4, _, hf', u1, u2, u3⟩ := HR.out i wr hq hi
      have s3 := HH.out wr hq
      simp only [Option.some.injEq, Addr.mk.injEq, and_true] at e1 e2
      obtain ⟨rfl, rfl⟩ := e1
      obtain ⟨rfl, rfl⟩ := e2
      subst e3
      simp only [Option.some.injEq, Addr.mk.injEq, and_true] at e4
      subst e4
      have hj1 : (j : Int) < (i : Int) := by omega
      have hj2 : (j : Int) < (n : Int) := by omega
      have hj0 : (0 : Int) ≤ (j : Int) := by omega
      have hj6 : (j : Int) ≤ 600 := by omega
      have hcl : clash s zs i j = (decide (zs.getD j 0 = zs.getD i 0) && meetsB f f') := by unfold clash; rw [lfAt_get hf, lfAt_get hf']
      have hfs := freeTo_succ s zs i j
      rw [hfree, Bool.true_and] at hfs
      obtain ⟨x, hx⟩ : ∃ x, x = zs.getD j 0 := ⟨_, rfl⟩
      obtain ⟨y, hy⟩ : ∃ y, y = zs.getD i 0 := ⟨_, rfl⟩
      rw [← hx, ← hy] at hcl
      rw [← hx] at s1
      rw [← hy] at s2
      have HQ := Lib.hid hq
      by_cases hxy : x = y
      · have x1 : (x == y) = true := by simp [hxy]
        have HM := Lib.hid (fun W => meets_any f f' W)
        rw [decide_eq_true hxy, Bool.true_and] at hcl
        cases hm : meetsB f f' with
        | true =>
          rw [hm] at HM hcl
          have HE : Hid (okAt s zs i = false) := Lib.hid (by unfold okAt; rw [freeTo_no hlt hcl]; rfl)
          clear hcl hfs hm hf hf' hx hy hxy hq hfree
          go_wp2_with fail
          refine wp_region_still_tail 21 (by kernel_rfl) (by kernel_rfl) ?_
          simp only [List.take_succ_cons, List.take_zero, List.drop_succ_cons, List.drop_zero]
          change wpStill _ _ (World.drew _) (fun a' => wpList _ _ _ _ a' (World.drew _)) _ _
          have HQD : Hid (Keeps noB W wr.drew) := HQ.out.drew
          have s2' : wr.drew.cell? ⟨b, o + i, none⟩ = some (.int .i64 y) := s2
          have s3' : wr.drew.cell? ⟨H, 1, none⟩ = some (.slice (some ⟨g, 0, none⟩) n c) := s3
          have t1' : wr.drew.cell? ⟨g, j * 3, none⟩ = some (.int .i64 f.b) := t1
          have t2' : wr.drew.cell? ⟨g, j * 3 + 1, none⟩ = some (.int .i64 f.u) := t2
          have t3' : wr.drew.cell? ⟨g, j * 3 + 2, none⟩ = some (.int .i64 f.d) := t3
          have u1' : wr.drew.cell? ⟨g, i * 3, none⟩ = some (.int .i64 f'.b) := u1
          have u2' : wr.drew.cell? ⟨g, i * 3 + 1, none⟩ = some (.int .i64 f'.u) := u2
          have u3' : wr.drew.cell? ⟨g, i * 3 + 2, none⟩ = some (.int .i64 f'.d) := u3
          clear s1 s2 s3 t1 t2 t3 u1 u2 u3
          generalize wr.drew = w3 at *
          repeat still_step
          refine wpStill_nil ?_
          go_wp2_with (go_at_call 64; refine (HM.out _).mono ?_; rintro e5 w5 ⟨rfl, q5⟩; have Q5 := Lib.hid (HQD.out.trans q5); clear q5)
          go_ret
          rw [HE.out]
          exact ⟨rfl, Q5.out⟩
        | false =>
          rw [hm] at HM hcl
          have HE : Hid (freeTo s zs i (j + 1) = true) := Lib.hid (by rw [hfs, hcl]; rfl)
          clear hcl hfs hm hf hf' hx hy hxy hq hfree
          go_wp2_with fail
          refine wp_region_still_tail 21 (by kernel_rfl) (by kernel_rfl) ?_
          simp only [List.take_succ_cons, List.take_zero, List.drop_succ_cons, List.drop_zero]
          change wpStill _ _ (World.drew _) (fun a' => wpList _ _ _ _ a' (World.drew _)) _ _
          have HQD : Hid (Keeps noB W wr.drew) := HQ.out.drew
          have s2' : wr.drew.cell? ⟨b, o + i, none⟩ = some (.int .i64 y) := s2
          have s3' : wr.drew.cell? ⟨H, 1, none⟩ = some (.slice (some ⟨g, 0, none⟩) n c) := s3
          have t1' : wr.drew.cell? ⟨g, j * 3, none⟩ = some (.int .i64 f.b) := t1
          have t2' : wr.drew.cell? ⟨g, j * 3 + 1, none⟩ = some (.int .i64 f.u) := t2
          have t3' : wr.drew.cell? ⟨g, j * 3 + 2, none⟩ = some (.int .i64 f.d) := t3
          have u1' : wr.drew.cell? ⟨g, i * 3, none⟩ = some (.int .i64 f'.b) := u1
          have u2' : wr.drew.cell? ⟨g, i * 3 + 1, none⟩ = some (.int .i64 f'.u) := u2
          have u3' : wr.drew.cell? ⟨g, i * 3 + 2, none⟩ = some (.int .i64 f'.d) := u3
          clear s1 s2 s3 t1 t2 t3 u1 u2 u3
          generalize wr.drew = w3 at *
          repeat still_step
          refine wpStill_nil ?_
          go_wp2_with (go_at_call 64; refine (HM.out _).mono ?_; rintro e5 w5 ⟨rfl, q5⟩; have Q5 := Lib.hid (HQD.out.trans q5); clear q5)
          go_roundw
          case rel => exact ⟨j + 1, hlt, by go_num, HE.out, Q5.out⟩
          case measure => simp [intOf]; omega
      · have x1 : (x == y) = false := by rw [beq_eq_false_iff_ne]; exact hxy
        have HE : Hid (freeTo s zs i (j + 1) = true) := Lib.hid (by rw [hfs, hcl, decide_eq_false hxy]; rfl)
        clear hcl hfs hf hf' hx hy hxy hq hfree
        go_wp2_with fail
        go_quiet (fail)
        go_wp2_with fail
        go_roundw
        case rel => exact ⟨j + 1, hlt, by go_num, HE.out, HQ.out.drewN _⟩
        case measure => simp [intOf]; omega
    · have hji' : j = i := by omega
      obtain ⟨b2, o2, e2, _, s2⟩ := HA.out i wr hq hi
      simp only [Option.some.injEq, Addr.mk.injEq, and_true] at e2
      obtain ⟨rfl, rfl⟩ := e2
      have hj1 : ¬ (j : Int) < (i : Int) := by omega
      obtain ⟨y, hy⟩ : ∃ y, y = zs.getD i 0 := ⟨_, rfl⟩
      rw [← hy] at s2
      have HE : Hid (okAt s zs i = decide (0 ≤ y)) := Lib.hid (by unfold okAt; rw [hji'] at hfree; rw [hfree, hy]; rfl)
      have HQ := Lib.hid hq
      clear hy hq hfree hji'
      go_wp2_with fail
      go_ret
      rw [HE.out]
      exact ⟨rfl, HQ.out⟩

end Go.Proofs.YthgocacabadflaaDoor
