/-
  The model's WithOrder.
-/
import Derived.Test.YtkfcgamdlckncaaOd
namespace Go.Proofs.Ytkfcgamdlckncaa
set_option linter.unusedVariables false
set_option linter.unusedSimpArgs false
open Go.RowKit Go.Shelf

theorem root_vars {w : World} {ok : Nat → Prop} {x : Nd} {c k e : Int} {vs : ByteArray} {a : Option Addr} {n m : Nat} {ar : ByteArray} (h : RepS w ok x (six c k e vs (.slice a n m) ar).toList) : vs = ⟨x.vars.toArray⟩ := by
  obtain ⟨c', k', e', vs', ar', bs⟩ := x
  simp only [RepS] at h
  obtain ⟨vb, nb, xs, heq, _⟩ := h
  simp only [six, str, List.cons.injEq, Value.string.injEq] at heq
  exact heq.2.2.2.1

theorem resWith (W : World) (v b : Value) (tmps : Array Value) (h4 : tmps.getD 4 undef = v) (h5 : tmps.getD 5 undef = b) : (results Try.f26 tmps).run Try.prog W = .ok (.tuple #[v, b]) W := by
  have h4' : tmps[4]?.getD undef = v := by simpa using h4
  have h5' : tmps[5]?.getD undef = b := by simpa using h5
  simp [results, Try.results26, go_sem, h4', h5']

theorem str_same (a b : List UInt8) : ((⟨a.toArray⟩ : ByteArray).toList == (⟨b.toArray⟩ : ByteArray).toList) = decide (a = b) := by
  rw [Lib.toList_data, Lib.toList_data, Bool.eq_iff_iff, beq_iff_eq, decide_eq_true_iff]

set_option maxRecDepth 100000 in
set_option maxHeartbeats 8000000 in
theorem swithOrder_any (p vars : ByteArray) (hs : p.size ≤ 1048576) (hv : vars.size ≤ 1048576) (w : World) :
    Calls Try.prog 26 #[.string p, .string vars] w (TextPost w (withP p vars)) := by
  refine (callsIn_wide (n := 9)).1 ?_
  obtain ⟨F, hF⟩ : ∃ F, F = Fence.wide := ⟨_, rfl⟩
  have hFf : ∀ f, F.fn f := by subst hF; exact fun _ => trivial
  have hdd : ∀ k : Nat, (F.depth.isSome = true → 1 ≤ k) := by subst hF; intro k h; simp [Fence.wide] at h
  have hro : F.round = none := by subst hF; rfl
  have hds : F.depth.isSome = false := by subst hF; rfl
  have HR : Hid (∀ n' w, CallsIn F n' Try.prog 41 #[.string p] w (ReadPostS w (progP p))) := Lib.hid (fun n' w => by rw [hF]; exact callsIn_wide.2 (sread_any p hs w))
  have HS : Hid (∀ n' w (a : ByteArray), a.size ≤ 1048576 → CallsIn F n' Try.prog 45 #[.string a] w (fun e w' => e = .returned (str (sortedOf a.data.toList)) ∧ Keeps noB w w')) := Lib.hid (fun n' w a ha => by rw [hF]; exact callsIn_wide.2 (sorted_any a ha w))
  rw [← hF]
  clear hF
  unfold withP TextPost
  cases hp : progP p with
  | none =>
    rw [hp] at HR
    clear hp
    simp only [Option.bind_none, Option.getD_none, Option.isSome_none]
    refine callsIn_of_wp_marks Try.func26 rfl (hFf _) ?_ hro
    simp only [Try.ntmps26, List.size_toArray, List.length_cons, List.length_nil, Nat.reduceAdd, Nat.reduceSub, Array.replicate_succ, Array.replicate_zero, List.push_toArray, List.append_toArray, List.nil_append, List.cons_append]
    gi_wp2
    refine CallsIn.mono (HR.out _ _) ?_
    rintro e w1 ⟨⟨x0, x1, x2, x3, x4, x5, x6, x7, rfl⟩, q1⟩
    have hnv : nodeV x0 x1 x2 x3 x4 x5 x6 x7 = .agg #[.int .u8 x0, .int .i64 x1, .int .i64 x2, .string x3, .slice x4 x5 x6, .string x7] := rfl
    have HQ := Lib.hid (q1.alloc (.cells #[.int .u8 x0, .int .i64 x1, .int .i64 x2, .string x3, .slice x4 x5 x6, .string x7] 57))
    clear q1
    gi_wp2
    generalize w1.alloc (.cells #[.int .u8 x0, .int .i64 x1, .int .i64 x2, .string x3, .slice x4 x5 x6, .string x7] 57) = w2 at HQ ⊢
    have HSS : Hid (Keeps noB w2 w2.drew) := Lib.hid ((Keeps.refl _ _).drew)
    refine wpIn_region_seqP (fun W => Keeps noB w2 W) [(0, true), (1, true), (2, true), (3, true), (4, true), (5, true), (6, true), (7, true), (8, true), (9, true), (10, true), (11, true), (13, true), (14, true), (12, false), (15, false), (16, true), (17, true)] hro hFf (by kernel_rfl) (by kernel_rfl) (by kernel_rfl) rfl (by kernel_rfl) HSS.out ?_
    refine seqH_take (.bool false) rfl rfl (fun W4 q4 => by go_simp) (fun K hK => ?_)
    go_simp
    refine hK _ ?_
    clear hK K
    refine seqH_take (.bool true) rfl rfl (fun W4 q4 => by go_simp) (fun K hK => ?_)
    go_simp
    refine hK _ ?_
    clear hK K
    refine seqH_take (.bool true) rfl rfl (fun W4 q4 => by go_simp) (fun K hK => ?_)
    go_simp
    refine hK _ ?_
    clear hK K
    refine seqH_skip rfl rfl (fun K hK => ?_)
    go_simp
    refine hK _ ?_
    clear hK K
    refine seqH_skip rfl rfl (fun K hK => ?_)
    go_simp
    refine hK _ ?_
    clear hK K
    refine seqH_skip rfl rfl (fun K hK => ?_)
    go_simp
    refine hK _ ?_
    clear hK K
    refine seqH_skip rfl rfl (fun K hK => ?_)
    go_simp
    refine hK _ ?_
    clear hK K
    refine seqH_skip rfl rfl (fun K hK => ?_)
    go_simp
    refine hK _ ?_
    clear hK K
    refine seqH_skip rfl rfl (fun K hK => ?_)
    go_simp
    refine hK _ ?_
    clear hK K
    refine seqH_take (.bool true) rfl rfl (fun W4 q4 => by go_simp) (fun K hK => ?_)
    go_simp
    refine hK _ ?_
    clear hK K
    refine seqH_take (.bool true) rfl rfl (fun W4 q4 => by go_simp) (fun K hK => ?_)
    go_simp
    refine hK _ ?_
    clear hK K
    refine seqH_skip rfl rfl (fun K hK => ?_)
    go_simp
    refine hK _ ?_
    clear hK K
    refine seqH_skip rfl rfl (fun K hK => ?_)
    go_simp
    refine hK _ ?_
    clear hK K
    refine seqH_skip rfl rfl (fun K hK => ?_)
    go_simp
    refine hK _ ?_
    clear hK K
    refine seqH_loud rfl (fun K hK => ?_)
    gi_wp2
    refine hK _ _ HSS.out ?_
    clear hK K
    refine seqH_loud rfl (fun K hK => ?_)
    gi_wp2
    refine hK _ _ HSS.out ?_
    clear hK K
    refine seqH_skip rfl rfl (fun K hK => ?_)
    go_simp
    refine hK _ ?_
    clear hK K
    refine seqH_take (.bool true) rfl rfl (fun W4 q4 => by go_simp) (fun K hK => ?_)
    go_simp
    refine hK _ ?_
    clear hK K
    simp only [wpSeqH, noPanic]
    gi_wp2
    refine leaves_marks [] _ List.nodup_nil (fun _ h => by cases h) (fun W' q _ => ?_)
    exact ⟨_, resWith W' _ _ _ rfl rfl, rfl, HQ.out.drew.trans (q.mono (fun _ e => by cases e))⟩
  | some x =>
    rw [hp] at HR
    have hri := root_is hp
    simp only [Option.bind_some]
    have HOR := Lib.hid (show orderOk vars.data.toList x.vars = (decide (vars.data.toList.length = x.vars.length) && decide (sortedOf vars.data.toList = sortedOf x.vars)) from rfl)
    have HX := Lib.hid (And.intro hri.room (And.intro hri.short hri.six))
    by_cases hz : vars.data.toList.length = x.vars.length
    · by_cases hso : sortedOf vars.data.toList = sortedOf x.vars
      · have ho : orderOk vars.data.toList x.vars = true := by rw [HOR.out, decide_eq_true hz, decide_eq_true hso]; rfl
        rw [ho]
        simp only [if_true, Option.getD_some, Option.isSome_some]
        have HZ : Hid (((vars.size : Int) != ((⟨x.vars.toArray⟩ : ByteArray).size : Int)) = false) := Lib.hid (by
          have h1 : vars.size = (⟨x.vars.toArray⟩ : ByteArray).size := hz
          rw [h1]; simp)
        have HSO : Hid (decide (sortedOf vars.data.toList = sortedOf (⟨x.vars.toArray⟩ : ByteArray).data.toList) = true) := Lib.hid (decide_eq_true hso)
        have HZ2 : Hid (vars.size = x.vars.length) := Lib.hid hz
        have HD : Hid ((∀ wx, (Op.stringOp .add ⟨#[123]⟩ vars).run Try.prog wx = .ok (.string (⟨#[123]⟩ ++ vars)) wx) ∧ (∀ wx, (Instr.slice 9 (.string p) (some (.int .i64 (1 + (vars.size : Int)))) none none).run Try.prog wx = .ok (.string (p.extract (1 + vars.size) p.size)) wx) ∧ (∀ wx, (Op.stringOp .add (⟨#[123]⟩ ++ vars) (p.extract (1 + vars.size) p.size)).run Try.prog wx = .ok (.string ((⟨#[123]⟩ ++ vars) ++ p.extract (1 + vars.size) p.size)) wx)) := Lib.hid (by
          have hs1 : (⟨#[123]⟩ : ByteArray).size = 1 := rfl
          have hx := HX.out
          have h2 := HZ2.out
          refine ⟨fun wx => run_string_add_sum wx _ _ (by omega), fun wx => ?_, fun wx => run_string_add_sum wx _ _ (by rw [ByteArray.size_append, ByteArray.size_extract]; omega)⟩
          rw [run_slice_string_l (P := Try.prog) wx 9 p Try.underlying9 .i64 (1 + (vars.size : Int)) (by omega) (by omega), show (1 + (vars.size : Int)).toNat = 1 + vars.size by omega])
        clear hp hri HOR hz hso ho
        unfold declB
        refine callsIn_of_wp_marks Try.func26 rfl (hFf _) ?_ hro
        simp only [Try.ntmps26, List.size_toArray, List.length_cons, List.length_nil, Nat.reduceAdd, Nat.reduceSub, Array.replicate_succ, Array.replicate_zero, List.push_toArray, List.append_toArray, List.nil_append, List.cons_append]
        gi_wp2
        refine CallsIn.mono (HR.out _ _) ?_
        rintro e w1 ⟨x0, x1, x2, x3, x4, x5, x6, x7, rfl, hx, q1⟩
        have hnv : nodeV x0 x1 x2 x3 x4 x5 x6 x7 = .agg #[.int .u8 x0, .int .i64 x1, .int .i64 x2, .string x3, .slice x4 x5 x6, .string x7] := rfl
        have HX3 := Lib.hid (root_vars hx)
        have HQ := Lib.hid (q1.alloc (.cells #[.int .u8 x0, .int .i64 x1, .int .i64 x2, .string x3, .slice x4 x5 x6, .string x7] 57))
        have hb := Blk.new w1 #[.int .u8 x0, .int .i64 x1, .int .i64 x2, .string x3, .slice x4 x5 x6, .string x7] 57
        clear q1 hx
        gi_wp2
        generalize w1.alloc (.cells #[.int .u8 x0, .int .i64 x1, .int .i64 x2, .string x3, .slice x4 x5 x6, .string x7] 57) = w2 at HQ hb ⊢
        generalize w1.heap.size = g at *
        have HF0 : Hid (∀ W, Keeps noB w2 W → W.cell? ⟨g, 3, none⟩ = some (.string x3)) := Lib.hid (fun W q => (q.blk hb id).cell 3)
        have HSS : Hid (Keeps noB w2 w2.drew) := Lib.hid ((Keeps.refl _ _).drew)
        have HSZ : Hid (((vars.size : Int) != (x3.size : Int)) = false) := Lib.hid (by rw [HX3.out]; exact HZ.out)
        clear hb
        refine wpIn_region_seqP (fun W => Keeps noB w2 W) [(0, true), (1, true), (2, true), (3, true), (4, true), (5, true), (6, true), (7, true), (8, true), (9, true), (10, true), (11, true), (13, true), (14, true), (12, false), (15, false), (16, true), (17, true)] hro hFf (by kernel_rfl) (by kernel_rfl) (by kernel_rfl) rfl (by kernel_rfl) HSS.out ?_
        refine seqH_take (.bool true) rfl rfl (fun W4 q4 => by go_simp) (fun K hK => ?_)
        go_simp
        refine hK _ ?_
        clear hK K
        refine seqH_take (.bool false) rfl rfl (fun W4 q4 => by go_simp) (fun K hK => ?_)
        go_simp
        refine hK _ ?_
        clear hK K
        refine seqH_take (.bool false) rfl rfl (fun W4 q4 => by go_simp) (fun K hK => ?_)
        go_simp
        refine hK _ ?_
        clear hK K
        refine seqH_take (.string vars) rfl rfl (fun W4 q4 => by go_simp) (fun K hK => ?_)
        go_simp
        refine hK _ ?_
        clear hK K
        refine seqH_take (.int .i64 (vars.size : Int)) rfl rfl (fun W4 q4 => by go_simp) (fun K hK => ?_)
        go_simp
        refine hK _ ?_
        clear hK K
        refine seqH_take (.pointer (some ⟨g, 3, none⟩)) rfl rfl (fun W4 q4 => by go_simp) (fun K hK => ?_)
        go_simp
        refine hK _ ?_
        clear hK K
        refine seqH_take (.string x3) rfl rfl (fun W4 q4 => by have f0 := HF0.out W4 q4; go_simp) (fun K hK => ?_)
        go_simp
        refine hK _ ?_
        clear hK K
        refine seqH_take (.int .i64 (x3.size : Int)) rfl rfl (fun W4 q4 => by go_simp) (fun K hK => ?_)
        go_simp
        refine hK _ ?_
        clear hK K
        refine seqH_take (.bool false) rfl rfl (fun W4 q4 => by have f1 := HSZ.out; go_simp) (fun K hK => ?_)
        go_simp
        refine hK _ ?_
        clear hK K
        refine seqH_take (.bool false) rfl rfl (fun W4 q4 => by go_simp) (fun K hK => ?_)
        go_simp
        refine hK _ ?_
        clear hK K
        refine seqH_take (.bool false) rfl rfl (fun W4 q4 => by go_simp) (fun K hK => ?_)
        go_simp
        refine hK _ ?_
        clear hK K
        refine seqH_take (.string vars) rfl rfl (fun W4 q4 => by go_simp) (fun K hK => ?_)
        go_simp
        refine hK _ ?_
        clear hK K
        refine seqH_take (.pointer (some ⟨g, 3, none⟩)) rfl rfl (fun W4 q4 => by go_simp) (fun K hK => ?_)
        go_simp
        refine hK _ ?_
        clear hK K
        refine seqH_take (.string x3) rfl rfl (fun W4 q4 => by have f0 := HF0.out W4 q4; go_simp) (fun K hK => ?_)
        go_simp
        refine hK _ ?_
        clear hK K
        refine seqH_loud rfl (fun K hK => ?_)
        gi_wp2
        refine CallsIn.mono (HS.out _ _ vars hv) ?_
        rintro e w3 ⟨rfl, q3⟩
        have HQ3 : Hid (Keeps noB w2 w3) := Lib.hid (HSS.out.trans q3)
        clear q3
        obtain ⟨SA, hSA⟩ : ∃ SA : ByteArray, SA = ⟨(sortedOf vars.data.toList).toArray⟩ := ⟨_, rfl⟩
        unfold str
        rw [← hSA]
        have HSA := Lib.hid hSA
        clear hSA
        gi_wp2
        refine hK _ _ HQ3.out ?_
        clear hK K
        refine seqH_loud rfl (fun K hK => ?_)
        gi_wp2
        refine CallsIn.mono (HS.out _ _ x3 (by rw [HX3.out]; have := HX.out.2.2; show x.vars.length ≤ _; omega)) ?_
        rintro e w4 ⟨rfl, q4⟩
        have HQ4 : Hid (Keeps noB w2 w4) := Lib.hid (HQ3.out.trans q4)
        clear q4
        obtain ⟨SB, hSB⟩ : ∃ SB : ByteArray, SB = ⟨(sortedOf x3.data.toList).toArray⟩ := ⟨_, rfl⟩
        unfold str
        rw [← hSB]
        have HSB := Lib.hid hSB
        clear hSB
        have HEQ : Hid ((SA.toList == SB.toList) = true) := Lib.hid (by
          rw [HSA.out, HSB.out, str_same, HX3.out]
          exact HSO.out)
        gi_wp2
        refine hK _ _ HQ4.out ?_
        clear hK K
        refine seqH_take (.bool false) rfl rfl (fun W4 q4 => by have f1 := HEQ.out; go_simp) (fun K hK => ?_)
        go_simp
        refine hK _ ?_
        clear hK K
        refine seqH_take (.bool false) rfl rfl (fun W4 q4 => by go_simp) (fun K hK => ?_)
        go_simp
        refine hK _ ?_
        clear hK K
        simp only [wpSeqH, noPanic]
        have hvs : (vars.size : Int) ≤ 80 := by have := HZ2.out; have := HX.out; omega
        obtain ⟨e1, e2', e3⟩ := HD.out
        obtain ⟨A, hA⟩ : ∃ A : ByteArray, A = ⟨#[123]⟩ ++ vars := ⟨_, rfl⟩
        obtain ⟨B, hB⟩ : ∃ B : ByteArray, B = p.extract (1 + vars.size) p.size := ⟨_, rfl⟩
        rw [← hA] at e1 e3
        rw [← hB] at e2' e3
        have HA := Lib.hid hA
        have HB := Lib.hid hB
        clear hA hB
        gi_wp2
        refine leaves_marks [] _ List.nodup_nil (fun _ h => by cases h) (fun W' q _ => ?_)
        exact ⟨_, resWith W' _ _ _ rfl rfl, by rw [← HA.out, ← HB.out]; rfl, (HQ.out.trans HQ4.out).trans (q.mono (fun _ e => by cases e))⟩
      · have ho : orderOk vars.data.toList x.vars = false := by rw [HOR.out, decide_eq_false hso, Bool.and_false]
        rw [ho]
        simp only [Bool.false_eq_true, if_false, Option.getD_none, Option.isSome_none]
        have HZ : Hid (((vars.size : Int) != ((⟨x.vars.toArray⟩ : ByteArray).size : Int)) = false) := Lib.hid (by
          have h1 : vars.size = (⟨x.vars.toArray⟩ : ByteArray).size := hz
          rw [h1]; simp)
        have HSO : Hid (decide (sortedOf vars.data.toList = sortedOf (⟨x.vars.toArray⟩ : ByteArray).data.toList) = false) := Lib.hid (decide_eq_false hso)
        clear hp hri HOR hz hso ho
        refine callsIn_of_wp_marks Try.func26 rfl (hFf _) ?_ hro
        simp only [Try.ntmps26, List.size_toArray, List.length_cons, List.length_nil, Nat.reduceAdd, Nat.reduceSub, Array.replicate_succ, Array.replicate_zero, List.push_toArray, List.append_toArray, List.nil_append, List.cons_append]
        gi_wp2
        refine CallsIn.mono (HR.out _ _) ?_
        rintro e w1 ⟨x0, x1, x2, x3, x4, x5, x6, x7, rfl, hx, q1⟩
        have hnv : nodeV x0 x1 x2 x3 x4 x5 x6 x7 = .agg #[.int .u8 x0, .int .i64 x1, .int .i64 x2, .string x3, .slice x4 x5 x6, .string x7] := rfl
        have HX3 := Lib.hid (root_vars hx)
        have HQ := Lib.hid (q1.alloc (.cells #[.int .u8 x0, .int .i64 x1, .int .i64 x2, .string x3, .slice x4 x5 x6, .string x7] 57))
        have hb := Blk.new w1 #[.int .u8 x0, .int .i64 x1, .int .i64 x2, .string x3, .slice x4 x5 x6, .string x7] 57
        clear q1 hx
        gi_wp2
        generalize w1.alloc (.cells #[.int .u8 x0, .int .i64 x1, .int .i64 x2, .string x3, .slice x4 x5 x6, .string x7] 57) = w2 at HQ hb ⊢
        generalize w1.heap.size = g at *
        have HF0 : Hid (∀ W, Keeps noB w2 W → W.cell? ⟨g, 3, none⟩ = some (.string x3)) := Lib.hid (fun W q => (q.blk hb id).cell 3)
        have HSS : Hid (Keeps noB w2 w2.drew) := Lib.hid ((Keeps.refl _ _).drew)
        have HSZ : Hid (((vars.size : Int) != (x3.size : Int)) = false) := Lib.hid (by rw [HX3.out]; exact HZ.out)
        clear hb
        refine wpIn_region_seqP (fun W => Keeps noB w2 W) [(0, true), (1, true), (2, true), (3, true), (4, true), (5, true), (6, true), (7, true), (8, true), (9, true), (10, true), (11, true), (13, true), (14, true), (12, false), (15, false), (16, true), (17, true)] hro hFf (by kernel_rfl) (by kernel_rfl) (by kernel_rfl) rfl (by kernel_rfl) HSS.out ?_
        refine seqH_take (.bool true) rfl rfl (fun W4 q4 => by go_simp) (fun K hK => ?_)
        go_simp
        refine hK _ ?_
        clear hK K
        refine seqH_take (.bool false) rfl rfl (fun W4 q4 => by go_simp) (fun K hK => ?_)
        go_simp
        refine hK _ ?_
        clear hK K
        refine seqH_take (.bool false) rfl rfl (fun W4 q4 => by go_simp) (fun K hK => ?_)
        go_simp
        refine hK _ ?_
        clear hK K
        refine seqH_take (.string vars) rfl rfl (fun W4 q4 => by go_simp) (fun K hK => ?_)
        go_simp
        refine hK _ ?_
        clear hK K
        refine seqH_take (.int .i64 (vars.size : Int)) rfl rfl (fun W4 q4 => by go_simp) (fun K hK => ?_)
        go_simp
        refine hK _ ?_
        clear hK K
        refine seqH_take (.pointer (some ⟨g, 3, none⟩)) rfl rfl (fun W4 q4 => by go_simp) (fun K hK => ?_)
        go_simp
        refine hK _ ?_
        clear hK K
        refine seqH_take (.string x3) rfl rfl (fun W4 q4 => by have f0 := HF0.out W4 q4; go_simp) (fun K hK => ?_)
        go_simp
        refine hK _ ?_
        clear hK K
        refine seqH_take (.int .i64 (x3.size : Int)) rfl rfl (fun W4 q4 => by go_simp) (fun K hK => ?_)
        go_simp
        refine hK _ ?_
        clear hK K
        refine seqH_take (.bool false) rfl rfl (fun W4 q4 => by have f1 := HSZ.out; go_simp) (fun K hK => ?_)
        go_simp
        refine hK _ ?_
        clear hK K
        refine seqH_take (.bool false) rfl rfl (fun W4 q4 => by go_simp) (fun K hK => ?_)
        go_simp
        refine hK _ ?_
        clear hK K
        refine seqH_take (.bool false) rfl rfl (fun W4 q4 => by go_simp) (fun K hK => ?_)
        go_simp
        refine hK _ ?_
        clear hK K
        refine seqH_take (.string vars) rfl rfl (fun W4 q4 => by go_simp) (fun K hK => ?_)
        go_simp
        refine hK _ ?_
        clear hK K
        refine seqH_take (.pointer (some ⟨g, 3, none⟩)) rfl rfl (fun W4 q4 => by go_simp) (fun K hK => ?_)
        go_simp
        refine hK _ ?_
        clear hK K
        refine seqH_take (.string x3) rfl rfl (fun W4 q4 => by have f0 := HF0.out W4 q4; go_simp) (fun K hK => ?_)
        go_simp
        refine hK _ ?_
        clear hK K
        refine seqH_loud rfl (fun K hK => ?_)
        gi_wp2
        refine CallsIn.mono (HS.out _ _ vars hv) ?_
        rintro e w3 ⟨rfl, q3⟩
        have HQ3 : Hid (Keeps noB w2 w3) := Lib.hid (HSS.out.trans q3)
        clear q3
        obtain ⟨SA, hSA⟩ : ∃ SA : ByteArray, SA = ⟨(sortedOf vars.data.toList).toArray⟩ := ⟨_, rfl⟩
        unfold str
        rw [← hSA]
        have HSA := Lib.hid hSA
        clear hSA
        gi_wp2
        refine hK _ _ HQ3.out ?_
        clear hK K
        refine seqH_loud rfl (fun K hK => ?_)
        gi_wp2
        refine CallsIn.mono (HS.out _ _ x3 (by rw [HX3.out]; have := HX.out.2.2; show x.vars.length ≤ _; omega)) ?_
        rintro e w4 ⟨rfl, q4⟩
        have HQ4 : Hid (Keeps noB w2 w4) := Lib.hid (HQ3.out.trans q4)
        clear q4
        obtain ⟨SB, hSB⟩ : ∃ SB : ByteArray, SB = ⟨(sortedOf x3.data.toList).toArray⟩ := ⟨_, rfl⟩
        unfold str
        rw [← hSB]
        have HSB := Lib.hid hSB
        clear hSB
        have HEQ : Hid ((SA.toList == SB.toList) = false) := Lib.hid (by
          rw [HSA.out, HSB.out, str_same, HX3.out]
          exact HSO.out)
        gi_wp2
        refine hK _ _ HQ4.out ?_
        clear hK K
        refine seqH_take (.bool true) rfl rfl (fun W4 q4 => by have f1 := HEQ.out; go_simp) (fun K hK => ?_)
        go_simp
        refine hK _ ?_
        clear hK K
        refine seqH_take (.bool true) rfl rfl (fun W4 q4 => by go_simp) (fun K hK => ?_)
        go_simp
        refine hK _ ?_
        clear hK K
        simp only [wpSeqH, noPanic]
        gi_wp2
        refine leaves_marks [] _ List.nodup_nil (fun _ h => by cases h) (fun W' q _ => ?_)
        exact ⟨_, resWith W' _ _ _ rfl rfl, rfl, (HQ.out.trans HQ4.out).trans (q.mono (fun _ e => by cases e))⟩
    · have ho : orderOk vars.data.toList x.vars = false := by rw [HOR.out, decide_eq_false hz, Bool.false_and]
      rw [ho]
      simp only [Bool.false_eq_true, if_false, Option.getD_none, Option.isSome_none]
      have HZ : Hid (((vars.size : Int) != ((⟨x.vars.toArray⟩ : ByteArray).size : Int)) = true) := Lib.hid (by
        have h1 : ¬ vars.size = (⟨x.vars.toArray⟩ : ByteArray).size := hz
        simp; omega)
      clear hp hri HOR hz ho
      refine callsIn_of_wp_marks Try.func26 rfl (hFf _) ?_ hro
      simp only [Try.ntmps26, List.size_toArray, List.length_cons, List.length_nil, Nat.reduceAdd, Nat.reduceSub, Array.replicate_succ, Array.replicate_zero, List.push_toArray, List.append_toArray, List.nil_append, List.cons_append]
      gi_wp2
      refine CallsIn.mono (HR.out _ _) ?_
      rintro e w1 ⟨x0, x1, x2, x3, x4, x5, x6, x7, rfl, hx, q1⟩
      have hnv : nodeV x0 x1 x2 x3 x4 x5 x6 x7 = .agg #[.int .u8 x0, .int .i64 x1, .int .i64 x2, .string x3, .slice x4 x5 x6, .string x7] := rfl
      have HX3 := Lib.hid (root_vars hx)
      have HQ := Lib.hid (q1.alloc (.cells #[.int .u8 x0, .int .i64 x1, .int .i64 x2, .string x3, .slice x4 x5 x6, .string x7] 57))
      have hb := Blk.new w1 #[.int .u8 x0, .int .i64 x1, .int .i64 x2, .string x3, .slice x4 x5 x6, .string x7] 57
      clear q1 hx
      gi_wp2
      generalize w1.alloc (.cells #[.int .u8 x0, .int .i64 x1, .int .i64 x2, .string x3, .slice x4 x5 x6, .string x7] 57) = w2 at HQ hb ⊢
      generalize w1.heap.size = g at *
      have HF0 : Hid (∀ W, Keeps noB w2 W → W.cell? ⟨g, 3, none⟩ = some (.string x3)) := Lib.hid (fun W q => (q.blk hb id).cell 3)
      have HSS : Hid (Keeps noB w2 w2.drew) := Lib.hid ((Keeps.refl _ _).drew)
      have HSZ : Hid (((vars.size : Int) != (x3.size : Int)) = true) := Lib.hid (by rw [HX3.out]; exact HZ.out)
      clear hb
      refine wpIn_region_seqP (fun W => Keeps noB w2 W) [(0, true), (1, true), (2, true), (3, true), (4, true), (5, true), (6, true), (7, true), (8, true), (9, true), (10, true), (11, true), (13, true), (14, true), (12, false), (15, false), (16, true), (17, true)] hro hFf (by kernel_rfl) (by kernel_rfl) (by kernel_rfl) rfl (by kernel_rfl) HSS.out ?_
      refine seqH_take (.bool true) rfl rfl (fun W4 q4 => by go_simp) (fun K hK => ?_)
      go_simp
      refine hK _ ?_
      clear hK K
      refine seqH_take (.bool false) rfl rfl (fun W4 q4 => by go_simp) (fun K hK => ?_)
      go_simp
      refine hK _ ?_
      clear hK K
      refine seqH_take (.bool false) rfl rfl (fun W4 q4 => by go_simp) (fun K hK => ?_)
      go_simp
      refine hK _ ?_
      clear hK K
      refine seqH_take (.string vars) rfl rfl (fun W4 q4 => by go_simp) (fun K hK => ?_)
      go_simp
      refine hK _ ?_
      clear hK K
      refine seqH_take (.int .i64 (vars.size : Int)) rfl rfl (fun W4 q4 => by go_simp) (fun K hK => ?_)
      go_simp
      refine hK _ ?_
      clear hK K
      refine seqH_take (.pointer (some ⟨g, 3, none⟩)) rfl rfl (fun W4 q4 => by go_simp) (fun K hK => ?_)
      go_simp
      refine hK _ ?_
      clear hK K
      refine seqH_take (.string x3) rfl rfl (fun W4 q4 => by have f0 := HF0.out W4 q4; go_simp) (fun K hK => ?_)
      go_simp
      refine hK _ ?_
      clear hK K
      refine seqH_take (.int .i64 (x3.size : Int)) rfl rfl (fun W4 q4 => by go_simp) (fun K hK => ?_)
      go_simp
      refine hK _ ?_
      clear hK K
      refine seqH_take (.bool true) rfl rfl (fun W4 q4 => by have f1 := HSZ.out; go_simp) (fun K hK => ?_)
      go_simp
      refine hK _ ?_
      clear hK K
      refine seqH_take (.bool true) rfl rfl (fun W4 q4 => by go_simp) (fun K hK => ?_)
      go_simp
      refine hK _ ?_
      clear hK K
      refine seqH_take (.bool true) rfl rfl (fun W4 q4 => by go_simp) (fun K hK => ?_)
      go_simp
      refine hK _ ?_
      clear hK K
      refine seqH_skip rfl rfl (fun K hK => ?_)
      go_simp
      refine hK _ ?_
      clear hK K
      refine seqH_skip rfl rfl (fun K hK => ?_)
      go_simp
      refine hK _ ?_
      clear hK K
      refine seqH_skip rfl rfl (fun K hK => ?_)
      go_simp
      refine hK _ ?_
      clear hK K
      refine seqH_loud rfl (fun K hK => ?_)
      gi_wp2
      refine hK _ _ HSS.out ?_
      clear hK K
      refine seqH_loud rfl (fun K hK => ?_)
      gi_wp2
      refine hK _ _ HSS.out ?_
      clear hK K
      refine seqH_skip rfl rfl (fun K hK => ?_)
      go_simp
      refine hK _ ?_
      clear hK K
      refine seqH_take (.bool true) rfl rfl (fun W4 q4 => by go_simp) (fun K hK => ?_)
      go_simp
      refine hK _ ?_
      clear hK K
      simp only [wpSeqH, noPanic]
      gi_wp2
      refine leaves_marks [] _ List.nodup_nil (fun _ h => by cases h) (fun W' q _ => ?_)
      exact ⟨_, resWith W' _ _ _ rfl rfl, rfl, (HQ.out.drew).trans (q.mono (fun _ e => by cases e))⟩
end Go.Proofs.Ytkfcgamdlckncaa
