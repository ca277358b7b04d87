/-
  The model's fault of a step; its FaultOf.
-/
import Derived.Test.YtgpaplhbjhbfjaaWnWm
import Derived.Test.YtgpaplhbjhbfjaaWmWm
import Derived.Test.YtgpaplhbjhbfjaaVsm
namespace Go.Proofs.Ytgpaplhbjhbfjaa
set_option linter.unusedVariables false
set_option linter.unusedSimpArgs false
open Go.RowKit

theorem fault_none {s : ByteArray} {at_ : Int} (h : (placeP s at_).map Prod.fst = none) : faultNoP s at_ = -1 := by
  unfold placeP at h
  unfold faultNoP
  cases hp : progP s with
  | none => rfl
  | some x =>
    rw [hp] at h
    simp only at h ⊢
    cases hf : (x.preD 0).find? (fun p => (p.1.beg : Int) == at_) with
    | none => rfl
    | some p => rw [hf] at h; cases h

theorem fault_at {s : ByteArray} {at_ : Int} {z : Nd} (h : (placeP s at_).map Prod.fst = some z) : faultNoP s at_ = (faultK z ((atK s at_).getD Kn.no) : Int) := by
  unfold placeP at h
  unfold faultNoP atK
  cases hp : progP s with
  | none => rw [hp] at h; cases h
  | some x =>
    rw [hp] at h
    simp only at h ⊢
    cases hf : (x.preD 0).find? (fun p => (p.1.beg : Int) == at_) with
    | none => rw [hf] at h; cases h
    | some p =>
      rw [hf] at h
      have e := Option.some.inj h
      have hb := List.find?_some hf
      have hb2 : (p.1.beg : Int) = at_ := by simpa using hb
      simp only
      rw [← hb2, noteI_beg, ← e]
      rfl

theorem atK_wf {s : ByteArray} {at_ : Int} : ((atK s at_).getD Kn.no).Wf := by
  unfold atK
  cases hp : progP s with
  | none => exact wf_no
  | some x =>
    simp only
    cases hn : noteI (notesP x) at_ with
    | none => exact wf_no
    | some k => exact noteI_wf (progP_sp hp) hn

set_option maxRecDepth 100000 in
set_option maxHeartbeats 4000000 in
theorem sfault_any {z : Nd} (hf : z.Fit) (hlt : ∀ v, needK z = some v → ltr v) (k : Kn) (hk : k.Wf) (a : Option Addr) (n m : Nat) (w : World) :
    Calls Try.prog 60 #[.agg #[.int .u8 z.kind.toNat, .int .i64 z.beg, .int .i64 z.fin, .string ⟨z.vars.toArray⟩, .slice a n m, .string ⟨z.scope.toArray⟩], stV k] w (fun e w' => e = .returned (.int .i64 (faultK z k : Int)) ∧ Keeps noB w w') := by
  have HN := Lib.hid (fun w => need_text hf a n m w)
  unfold faultK
  rw [stV_eq]
  have HB : Hid (∀ (o : Obj) (x y : ByteArray) (c : Bool) (w2 : World), Keeps noB ((w.alloc o).alloc (.cells #[.string x, .string y, .bool c] 79)) w2 →
      w2.cell? ⟨w.heap.size + 1, 0, none⟩ = some (.string x) ∧ w2.cell? ⟨w.heap.size + 1, 1, none⟩ = some (.string y) ∧ w2.cell? ⟨w.heap.size + 1, 2, none⟩ = some (.bool c) ∧ Keeps noB w w2) := fun o x y c w2 q => by
    have b0 := Blk.new (w.alloc o) #[.string x, .string y, .bool c] 79
    rw [World.size_alloc] at b0
    have b := q.blk b0 id
    exact ⟨(b.cell 0).trans rfl, (b.cell 1).trans rfl, (b.cell 2).trans rfl, (((Keeps.refl _ _).alloc _).alloc _).trans q⟩
  by_cases hn : k = Kn.no
  · rw [if_pos hn]
    have hl : liveK k = false := by rw [hn]; exact liveK_no
    rw [hl]
    generalize mayB k = a0 at *
    generalize mustB k = b0 at *
    generalize needT (needK z) = nt at *
    clear hn hl hk hlt hf
    go_enter Try.func60, Try.ntmps60
    go_wp2_with (go_at_call 84; refine (HN.out _).mono ?_; rintro e1 w1 ⟨rfl, q1⟩; have hb := HB.out _ _ _ _ _ q1; have ⟨r0, r1, r2, q2⟩ := hb; have Q2 := Lib.hid q2; clear q1 q2 hb)
    go_ret
    exact ⟨rfl, Q2.out⟩
  · rw [if_neg hn]
    have hl := liveK_yes hn
    rw [hl]
    cases hz : needK z with
    | none =>
      rw [hz] at HN
      have hz1 : (needT none).toList.isEmpty = true := by simp [needT]
      generalize needT none = nt at *
      generalize mayB k = a0 at *
      generalize mustB k = b0 at *
      clear hn hl hk hlt hf hz
      go_enter Try.func60, Try.ntmps60
      go_wp2_with (go_at_call 84; refine (HN.out _).mono ?_; rintro e1 w1 ⟨rfl, q1⟩; have hb := HB.out _ _ _ _ _ q1; have ⟨r0, r1, r2, q2⟩ := hb; have Q2 := Lib.hid q2; clear q1 q2 hb)
      go_quiet (fail)
      go_wp2_with fail
      go_ret
      exact ⟨rfl, by first | exact Q2.out.drewN _ | exact Q2.out⟩
    | some v =>
      rw [hz] at HN
      have hv := hlt v hz
      show Calls _ _ _ _ (fun e w' => e = .returned (.int .i64 ((if hasV k.must v = true then 0 else if hasV k.may v = true then 1 else 2 : Nat) : Int)) ∧ Keeps noB w w')
      have hz1 : (needT (some v)).toList.isEmpty = false := by simp [needT]
      have hz2 : (needT (some v)).size = 1 := rfl
      have hz3 : ∀ h, (needT (some v))[0]'h = v := fun h => rfl
      have hfa : (mayB k).data.toList = lets k.may := by unfold mayB mayL; rw [List.toList_toArray]
      have hfm : (mustB k).data.toList = lets k.must := by unfold mustB; rw [mustL_live hn, List.toList_toArray]
      have HM := Lib.hid (fun w => find_any (mustB k) v w (by unfold mustB; rw [size_arr]; have := mustL_len k; omega))
      have HA := Lib.hid (fun w => find_any (mayB k) v w (by unfold mayB; rw [size_arr]; have := mayL_len k; omega))
      have hmem : ∀ s, v ∈ lets s ↔ hasV s v = true := fun s => ⟨fun h => (mem_lets.1 h).2, fun h => mem_lets.2 ⟨hv, h⟩⟩
      cases hM : hasV k.must v with
      | true =>
        rw [if_pos rfl]
        have hf1 : 0 ≤ findI (mustB k) v := findI_mem (by rw [hfm]; exact (hmem _).2 hM)
        generalize findI (mustB k) v = fm at *
        generalize mayB k = a0 at *
        generalize mustB k = b0 at *
        generalize needT (some v) = nt at *
        clear hn hl hk hlt hf hz hfa hfm hmem hM HA hv
        go_enter Try.func60, Try.ntmps60
        go_wp2_with (go_at_call 84; refine (HN.out _).mono ?_; rintro e1 w1 ⟨rfl, q1⟩; have hb := HB.out _ _ _ _ _ q1; have ⟨r0, r1, r2, q2⟩ := hb; have Q2 := Lib.hid q2; clear q1 q2 hb)
        go_quiet ((go_at_call 55; exact Calls.quiet_of_same (HM.out _)))
        go_wp2_with fail
        go_ret
        exact ⟨rfl, by first | exact Q3.out.drewN _ | exact Q2.out.drewN _ | exact Q2.out⟩
      | false =>
        rw [if_neg Bool.false_ne_true]
        have hf1 : findI (mustB k) v = -1 := findI_not (by rw [hfm]; intro h; rw [(hmem _).1 h] at hM; cases hM)
        rw [hf1] at HM
        cases hA : hasV k.may v with
        | true =>
          rw [if_pos rfl]
          have hf2 : 0 ≤ findI (mayB k) v := findI_mem (by rw [hfa]; exact (hmem _).2 hA)
          generalize findI (mayB k) v = fa at *
          generalize mayB k = a0 at *
          generalize mustB k = b0 at *
          generalize needT (some v) = nt at *
          clear hn hl hk hlt hf hz hfa hfm hmem hM hA hv hf1
          go_enter Try.func60, Try.ntmps60
          go_wp2_with (go_at_call 84; refine (HN.out _).mono ?_; rintro e1 w1 ⟨rfl, q1⟩; have hb := HB.out _ _ _ _ _ q1; have ⟨r0, r1, r2, q2⟩ := hb; have Q2 := Lib.hid q2; clear q1 q2 hb)
          go_quiet ((go_at_call 55; exact Calls.quiet_of_same (HM.out _)))
          have e0 : (w1.drewN nq).cell? ⟨w.heap.size + 1, 0, none⟩ = some (.string a0) := r0
          have Q3 := Lib.hid (Q2.out.drewN nq)
          clear r0 r1 r2 Q2
          generalize w1.drewN nq = w2 at *
          go_wp2_with fail
          go_quiet ((go_at_call 55; exact Calls.quiet_of_same (HA.out _)))
          go_wp2_with fail
          go_ret
          exact ⟨rfl, by first | exact Q3.out.drewN _ | exact Q2.out.drewN _ | exact Q2.out⟩
        | false =>
          rw [if_neg Bool.false_ne_true]
          have hf2 : findI (mayB k) v = -1 := findI_not (by rw [hfa]; intro h; rw [(hmem _).1 h] at hA; cases hA)
          rw [hf2] at HA
          generalize mayB k = a0 at *
          generalize mustB k = b0 at *
          generalize needT (some v) = nt at *
          clear hn hl hk hlt hf hz hfa hfm hmem hM hA hv hf1 hf2
          go_enter Try.func60, Try.ntmps60
          go_wp2_with (go_at_call 84; refine (HN.out _).mono ?_; rintro e1 w1 ⟨rfl, q1⟩; have hb := HB.out _ _ _ _ _ q1; have ⟨r0, r1, r2, q2⟩ := hb; have Q2 := Lib.hid q2; clear q1 q2 hb)
          go_quiet ((go_at_call 55; exact Calls.quiet_of_same (HM.out _)))
          have e0 : (w1.drewN nq).cell? ⟨w.heap.size + 1, 0, none⟩ = some (.string a0) := r0
          have Q3 := Lib.hid (Q2.out.drewN nq)
          clear r0 r1 r2 Q2
          generalize w1.drewN nq = w2 at *
          go_wp2_with fail
          go_quiet ((go_at_call 55; exact Calls.quiet_of_same (HA.out _)))
          go_wp2_with fail
          go_ret
          exact ⟨rfl, by first | exact Q3.out.drewN _ | exact Q2.out.drewN _ | exact Q2.out⟩

set_option maxHeartbeats 1000000 in
theorem sfaultOf_any (s : ByteArray) (hs : s.size ≤ 1048576) (at_ : Int) (ha : (Lit.int .i64 at_).wf = true) (w : World) : Calls Try.prog 29 #[.string s, .int .i64 at_] w (fun e w' => e = .returned (.int .i64 (faultNoP s at_)) ∧ Keeps noB w w') := by
  have HC := Lib.hid (sat_any s hs at_ w)
  rw [atP_eq] at HC
  have HF := Lib.hid (fun z => place_fs (s := s) (at_ := at_) (z := z))
  have HS := Lib.hid (fun w => slat_any s hs at_ w)
  have HW := Lib.hid (atK_wf (s := s) (at_ := at_))
  have HE := Lib.hid (And.intro (fun h => fault_none (s := s) (at_ := at_) h) (fun z h => fault_at (s := s) (at_ := at_) (z := z) h))
  generalize (placeP s at_).map Prod.fst = res at *
  generalize (atK s at_).getD Kn.no = kk at *
  generalize (atK s at_).isSome = bv at *
  generalize faultNoP s at_ = fo at *
  clear ha
  go_enter Try.func29, Try.ntmps29
  go_wp2_with fail
  refine HC.out.mono ?_
  rintro e w1 ⟨h, q⟩
  cases res with
  | none =>
    obtain ⟨x0, x1, x2, x3, x4, x5, x6, x7, rfl⟩ := h
    have hnv : nodeV x0 x1 x2 x3 x4 x5 x6 x7 = .agg #[.int .u8 x0, .int .i64 x1, .int .i64 x2, .string x3, .slice x4 x5 x6, .string x7] := rfl
    have e0 := HE.out.1 rfl
    subst e0
    have Q := Lib.hid q
    clear q
    go_wp2_with fail
    go_ret
    exact ⟨rfl, Q.out.alloc _⟩
  | some z =>
    obtain ⟨a, n, m, rfl⟩ := h
    have hnv : nodeV z.kind.toNat z.beg z.fin ⟨z.vars.toArray⟩ a n m ⟨z.scope.toArray⟩ = .agg #[.int .u8 z.kind.toNat, .int .i64 z.beg, .int .i64 z.fin, .string ⟨z.vars.toArray⟩, .slice a n m, .string ⟨z.scope.toArray⟩] := rfl
    have e0 := HE.out.2 z rfl
    subst e0
    have hfs := HF.out z rfl
    have HX := Lib.hid (fun w => sfault_any hfs.2 (fun v hv => need_ltr hfs.1 hfs.2 hv) kk HW.out a n m w)
    rw [stV_eq] at HS HX
    generalize mayB kk = a0 at *
    generalize mustB kk = b0 at *
    generalize liveK kk = c0 at *
    have Q := Lib.hid q
    have HB : Hid (∀ W', Keeps noB (w1.alloc (.cells (six z.kind.toNat z.beg z.fin ⟨z.vars.toArray⟩ (.slice a n m) ⟨z.scope.toArray⟩) 55)) W' → Blk W' w1.heap.size (six z.kind.toNat z.beg z.fin ⟨z.vars.toArray⟩ (.slice a n m) ⟨z.scope.toArray⟩) 55) := fun W' h => h.blk (Blk.new _ _ _) id
    clear hfs q
    go_wp2_with (first
      | (go_at_call 59; refine (HS.out _).mono ?_; rintro e2 w2 ⟨rfl, q2⟩; have n2 := HB.out _ q2; have r0 := n2.cell 0; have r1 := n2.cell 1; have r2 := n2.cell 2; have r3 := n2.cell 3; have r4 := n2.cell 4; have r5 := n2.cell 5; simp [six] at r0 r1 r2 r3 r4 r5; have hlt2 := n2.lt; have hne : ¬ w1.heap.size = w2.heap.size := (by omega); have Q2 := Lib.hid ((Q.out.alloc _).trans q2); clear q2 n2)
      | (go_at_call 60; refine (HX.out _).mono ?_; rintro e3 w3 ⟨rfl, q3⟩))
    go_ret
    exact ⟨rfl, by first | exact Q2.out.trans q3 | exact (Q2.out.alloc _).trans q3⟩

end Go.Proofs.Ytgpaplhbjhbfjaa
