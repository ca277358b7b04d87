/-
  The model's writer of programs: what becomes of a step that may destroy a value.
  The model's writer of programs: every step of a tree; TidyFlags of the model.
-/
import Derived.Test.YtccpmhjffcceeaaHpW
import Derived.Test.YtccpmhjffcceeaaVm
import Derived.Test.YtccpmhjffcceeaaHlW
import Derived.Test.YtccpmhjffcceeaaZba
import Derived.Deep.Cut
namespace Go.Proofs.Ytccpmhjffcceeaa
set_option linter.unusedVariables false
set_option linter.unusedSimpArgs false
open Go.RowKit Go.Shelf

/-- The model's writer in memory, and the holder that it asks. -/
structure SWrAt (w0 : World) (H : Nat) (x : Nd) : Prop where
  blk : ∃ va vp h, Blk w0 H #[va, vp, .pointer (some ⟨h, 0, none⟩)] 79 ∧ ∃ own l va' vs, HoldAt w0 own h l va' vs ∧ lookL l = notesP x

/-- What the model makes of a step that may destroy a value. -/
def tidyM (k : Kn) (v : UInt8) : List UInt8 := if k = Kn.no then [126, v] else if v ∈ mustL k then [45, v] else if v ∈ mayL k then [126, v] else []

theorem resTidyS (W : World) (v : Value) (tmps : Array Value) (h2 : tmps.getD 4 undef = v) : (results Try.f82 tmps).run Try.prog W = .ok v W := by
  have h' : tmps[4]?.getD undef = v := by simpa using h2
  simp [results, Try.results82, go_sem, h']

/-- The box of the state. -/
def TBoxS (W1 : World) (A : Nat) (MA MU : ByteArray) (LV : Bool) (W : World) : Prop := Keeps noB W1 W ∧ Blk W A #[.string MA, .string MU, .bool LV] 125
theorem TBoxS.quiet {W1 : World} {A : Nat} {MA MU : ByteArray} {LV : Bool} {W W' : World} (h : TBoxS W1 A MA MU LV W) (q : Keeps noB W W') : TBoxS W1 A MA MU LV W' := ⟨h.1.trans q, q.blk h.2 id⟩

set_option maxRecDepth 100000 in
set_option maxHeartbeats 1000000 in
theorem tidyS_any {w0 : World} {H : Nat} {x : Nd} (hw : SWrAt w0 H x) (k e : Nat) (v : UInt8) (kn : Kn) (hkn : notesP x k = some kn) (AR : ByteArray) (a : Option Addr) (n m : Nat) (W : World) (q : Keeps noB w0 W) :
    Calls Try.prog 82 #[.pointer (some ⟨H, 0, none⟩), .agg #[.int .u8 126, .int .i64 (k : Int), .int .i64 (e : Int), .string ⟨#[v]⟩, .slice a n m, .string AR]] W (fun e w' => e = .returned (.string ⟨(tidyM kn v).toArray⟩) ∧ Keeps noB W w') := by
  obtain ⟨va, vp, h, hblk, own, l, va', vs, hold, hll⟩ := hw.blk
  refine (callsIn_wide (n := 9)).1 ?_
  obtain ⟨F, hF⟩ : ∃ F, F = Fence.wide := ⟨_, rfl⟩
  have hFf : ∀ f, F.fn f := by subst hF; exact fun _ => trivial
  have hdd : ∀ k : Nat, (F.depth.isSome = true → 1 ≤ k) := by subst hF; intro k h; simp [Fence.wide] at h
  have hro : F.round = none := by subst hF; rfl
  have hds : F.depth.isSome = false := by subst hF; rfl
  obtain ⟨MA, hMA⟩ : ∃ MA, mayB kn = MA := ⟨_, rfl⟩
  obtain ⟨MU, hMU⟩ : ∃ MU, mustB kn = MU := ⟨_, rfl⟩
  obtain ⟨LV, hLV⟩ : ∃ LV, liveK kn = LV := ⟨_, rfl⟩
  have HAT : Hid (∀ n W, Keeps noB w0 W → CallsIn F n Try.prog 88 #[.pointer (some ⟨h, 0, none⟩), .int .i64 (k : Int)] W (fun e w' => e = .returned (.tuple #[.agg #[.string MA, .string MU, .bool LV], .bool true]) ∧ Keeps noB W w')) := fun n W q => by
    rw [hF]
    have hc := hat_any (k : Int) l W own h va' vs (hold.quiet q)
    rw [hll, noteI_nat, hkn] at hc
    simp only [Option.getD, Option.isSome] at hc
    rw [stV_eq, hMA, hMU, hLV] at hc
    exact callsIn_wide.2 hc
  have hms : MU.size ≤ 6 := by rw [← hMU]; unfold mustB; rw [size_arr]; exact mustL_len kn
  have hmy : MA.size ≤ 6 := by rw [← hMA]; unfold mayB; rw [size_arr]; exact mayL_len kn
  obtain ⟨F1, hF1⟩ : ∃ F1, findI MU v = F1 := ⟨_, rfl⟩
  obtain ⟨F2, hF2⟩ : ∃ F2, findI MA v = F2 := ⟨_, rfl⟩
  have HF1 : Hid (∀ n W, CallsIn F n Try.prog 49 #[.string MU, .int .u8 (v.toNat : Int)] W (fun e w' => e = .returned (.int .i64 F1) ∧ w' = W)) := fun n W => by rw [hF, ← hF1]; exact callsIn_wide.2 (find_any MU v W (by omega))
  have HF2 : Hid (∀ n W, CallsIn F n Try.prog 49 #[.string MA, .int .u8 (v.toNat : Int)] W (fun e w' => e = .returned (.int .i64 F2) ∧ w' = W)) := fun n W => by rw [hF, ← hF2]; exact callsIn_wide.2 (find_any MA v W (by omega))
  have e1 : MU.data.toList = mustL kn := by rw [← hMU]; unfold mustB; rw [List.toList_toArray]
  have e2 : MA.data.toList = mayL kn := by rw [← hMA]; unfold mayB; rw [List.toList_toArray]
  have HD : Hid ((v ∈ mustL kn → 0 ≤ F1) ∧ (¬ v ∈ mustL kn → F1 = -1) ∧ (v ∈ mayL kn → 0 ≤ F2) ∧ (¬ v ∈ mayL kn → F2 = -1)) := by
    rw [← hF1, ← hF2]
    exact ⟨fun h => findI_mem (by rw [e1]; exact h), fun h => findI_not (by rw [e1]; exact h), fun h => findI_mem (by rw [e2]; exact h), fun h => findI_not (by rw [e2]; exact h)⟩
  have HLV : Hid (LV = liveK kn) := Lib.hid hLV.symm
  obtain ⟨W1, hW1⟩ : ∃ W1, W1 = W.alloc (.cells #[.int .u8 126, .int .i64 (k : Int), .int .i64 (e : Int), .string ⟨#[v]⟩, .slice a n m, .string AR] 52) := ⟨_, rfl⟩
  have q1 : Keeps noB W W1 := by rw [hW1]; exact (Keeps.refl _ _).alloc _
  have b1 : Blk W1 W.heap.size #[.int .u8 126, .int .i64 (k : Int), .int .i64 (e : Int), .string ⟨#[v]⟩, .slice a n m, .string AR] 52 := by rw [hW1]; exact Blk.new _ _ _
  obtain ⟨N, hN⟩ : ∃ N, W.heap.size = N := ⟨_, rfl⟩
  rw [hN] at b1
  have HQ : Hid (∀ W', Keeps noB W1 W' → Keeps noB w0 W') := fun W' q' => (q.trans q1).trans q'
  have HQW := Lib.hid q1
  have HL : Hid (∀ W', Keeps noB W1 W' → W'.cell? ⟨N, 1, none⟩ = some (.int .i64 (k : Int)) ∧ W'.cell? ⟨N, 3, none⟩ = some (.string ⟨#[v]⟩) ∧ W'.cell? ⟨H, 2, none⟩ = some (.pointer (some ⟨h, 0, none⟩))) := fun W' q' =>
    ⟨((q'.blk b1 id).cell 1).trans rfl, ((q'.blk b1 id).cell 3).trans rfl, ((((q.trans q1).trans q').blk hblk id).cell 2).trans rfl⟩
  rw [← hF]
  have HF := Lib.hid hF
  clear hF hw hblk hold hll hMA hMU hLV hms hmy hF1 hF2 e1 e2 q q1 b1 hkn
  refine callsIn_of_wp_marks Try.func82 rfl (hFf _) ?_ hro
  simp only [Try.ntmps82, List.size_toArray, List.length_cons, List.length_nil, Nat.reduceAdd, Nat.reduceSub, Array.replicate_succ, Array.replicate_zero, List.push_toArray, List.append_toArray, List.nil_append, List.cons_append]
  gi_wp2
  rw [← hW1]
  clear hW1 hN
  refine wpIn_meet (fun a' w' => ∃ A, a' = ⟨#[.pointer (some ⟨H, 0, none⟩), .agg #[.int .u8 126, .int .i64 (k : Int), .int .i64 (e : Int), .string ⟨#[v]⟩, .slice a n m, .string AR], undef, .pointer (some ⟨N, 0, none⟩), .string ⟨#[]⟩, .pointer (some ⟨A, 0, none⟩), .bool true, .tuple #[.agg #[.string MA, .string MU, .bool LV], .bool true], .pointer (some ⟨H, 0, none⟩), .pointer (some ⟨H, 0, none⟩), .pointer (some ⟨H, 2, none⟩), .pointer (some ⟨h, 0, none⟩), .pointer (some ⟨N, 1, none⟩), .int .i64 (k : Int), .tuple #[.agg #[.string MA, .string MU, .bool LV], .bool true], .agg #[.string MA, .string MU, .bool LV], .bool true, undef, undef, undef, undef, undef, undef, undef, undef, undef, undef, undef, undef, undef, undef, undef, undef, undef, undef, undef, undef, undef, undef, undef, undef, undef, undef, undef, undef, undef], []⟩ ∧ TBoxS W1 A MA MU LV w') ?_ ?_
  · refine wpIn_region_ord (Keeps noB W1) (.read 0 (.read 1 (.read 2 (.read 3 (.read 4 (.read 5 (.fork 6 (.read 7 (.read 8 (.read 9 (.loud 10 (.loud 11 (.read 12 .fin)))))) 10 (.loud 6 (.read 7 (.read 8 (.read 9 (.loud 11 (.read 12 .fin)))))))))))) ) hro hFf (by kernel_rfl) (by kernel_rfl) rfl (by kernel_rfl) ((Keeps.refl noB W1).drew) ?_
    refine ord_read (.pointer (some ⟨H, 0, none⟩)) rfl rfl (fun W4 q4 => by obtain ⟨f1, f3, f4⟩ := HL.out W4 q4; go_simp) (fun K hK => ?_)
    go_simp
    refine hK _ ?_
    clear hK K
    refine ord_read (.pointer (some ⟨H, 0, none⟩)) rfl rfl (fun W4 q4 => by obtain ⟨f1, f3, f4⟩ := HL.out W4 q4; go_simp) (fun K hK => ?_)
    go_simp
    refine hK _ ?_
    clear hK K
    refine ord_read (.pointer (some ⟨H, 2, none⟩)) rfl rfl (fun W4 q4 => by obtain ⟨f1, f3, f4⟩ := HL.out W4 q4; go_simp) (fun K hK => ?_)
    go_simp
    refine hK _ ?_
    clear hK K
    refine ord_read (.pointer (some ⟨h, 0, none⟩)) rfl rfl (fun W4 q4 => by obtain ⟨f1, f3, f4⟩ := HL.out W4 q4; go_simp) (fun K hK => ?_)
    go_simp
    refine hK _ ?_
    clear hK K
    refine ord_read (.pointer (some ⟨N, 1, none⟩)) rfl rfl (fun W4 q4 => by obtain ⟨f1, f3, f4⟩ := HL.out W4 q4; go_simp) (fun K hK => ?_)
    go_simp
    refine hK _ ?_
    clear hK K
    refine ord_read (.int .i64 (k : Int)) rfl rfl (fun W4 q4 => by obtain ⟨f1, f3, f4⟩ := HL.out W4 q4; go_simp) (fun K hK => ?_)
    go_simp
    refine hK _ ?_
    clear hK K
    refine ord_fork ?_ ?_
    · refine ord_loud rfl (fun K hK => ?_)
      gi_wp2
      refine CallsIn.mono (HAT.out _ _ (HQ.out _ ((Keeps.refl noB W1).drew))) ?_
      rintro e1 w2 ⟨rfl, q2⟩
      have Q2 : Hid (Keeps noB W1 w2) := Keeps.trans ((Keeps.refl noB W1).drew) q2
      clear q2
      gi_wp2
      refine hK _ _ Q2.out ?_
      clear hK K
      refine ord_read (.tuple #[.agg #[.string MA, .string MU, .bool LV], .bool true]) rfl rfl (fun W4 q4 => by obtain ⟨f1, f3, f4⟩ := HL.out W4 q4; go_simp) (fun K hK => ?_)
      go_simp
      refine hK _ ?_
      clear hK K
      refine ord_read (.agg #[.string MA, .string MU, .bool LV]) rfl rfl (fun W4 q4 => by obtain ⟨f1, f3, f4⟩ := HL.out W4 q4; go_simp) (fun K hK => ?_)
      go_simp
      refine hK _ ?_
      clear hK K
      refine ord_read (.bool true) rfl rfl (fun W4 q4 => by obtain ⟨f1, f3, f4⟩ := HL.out W4 q4; go_simp) (fun K hK => ?_)
      go_simp
      refine hK _ ?_
      clear hK K
      refine ord_loud rfl (fun K hK => ?_)
      gi_wp2
      refine hK _ _ (Q2.out.alloc _) ?_
      clear hK K
      refine ord_loud rfl (fun K hK => ?_)
      gi_wp2
      refine hK _ _ (Q2.out.alloc _) ?_
      clear hK K
      refine ord_read (.bool true) rfl rfl (fun W4 q4 => by obtain ⟨f1, f3, f4⟩ := HL.out W4 q4; go_simp) (fun K hK => ?_)
      go_simp
      refine hK _ ?_
      clear hK K
      simp only [wpOrd, noPanic]
      exact ⟨w2.heap.size, rfl, Q2.out.alloc _, Blk.new _ _ _⟩
    · refine ord_loud rfl (fun K hK => ?_)
      gi_wp2
      refine hK _ _ (((Keeps.refl noB W1).drew).alloc _) ?_
      clear hK K
      refine ord_loud rfl (fun K hK => ?_)
      gi_wp2
      refine CallsIn.mono (HAT.out _ _ (HQ.out _ (((Keeps.refl noB W1).drew).alloc _))) ?_
      rintro e1 w2 ⟨rfl, q2⟩
      have hb := q2.blk (Blk.new _ #[.string ⟨#[]⟩, .string ⟨#[]⟩, .bool false] 125) id
      have Q2 : Hid (Keeps noB W1 w2) := Keeps.trans (((Keeps.refl noB W1).drew).alloc _) q2
      clear q2
      have z0 := hb.free 0
      have z1 := hb.free 1
      have z2 := hb.free 2
      have c0 := (hb.cell 0).trans rfl
      have c1 := (hb.cell 1).trans rfl
      have c2 := (hb.cell 2).trans rfl
      have HST : Hid (TBoxS W1 W1.heap.size MA MU LV (((w2.setCell ⟨W1.heap.size, 0, none⟩ (.string MA)).setCell ⟨W1.heap.size, 1, none⟩ (.string MU)).setCell ⟨W1.heap.size, 2, none⟩ (.bool LV))) :=
        ⟨((Q2.out.setCell (p := ⟨W1.heap.size, 0, none⟩) (.inr (Nat.le_refl _)) _).setCell (p := ⟨W1.heap.size, 1, none⟩) (.inr (Nat.le_refl _)) _).setCell (p := ⟨W1.heap.size, 2, none⟩) (.inr (Nat.le_refl _)) _, ((hb.set 0 _).set 1 _).set 2 _⟩
      clear hb
      gi_wp2
      refine hK _ _ Q2.out ?_
      clear hK K
      refine ord_read (.tuple #[.agg #[.string MA, .string MU, .bool LV], .bool true]) rfl rfl (fun W4 q4 => by obtain ⟨f1, f3, f4⟩ := HL.out W4 q4; go_simp) (fun K hK => ?_)
      go_simp
      refine hK _ ?_
      clear hK K
      refine ord_read (.agg #[.string MA, .string MU, .bool LV]) rfl rfl (fun W4 q4 => by obtain ⟨f1, f3, f4⟩ := HL.out W4 q4; go_simp) (fun K hK => ?_)
      go_simp
      refine hK _ ?_
      clear hK K
      refine ord_read (.bool true) rfl rfl (fun W4 q4 => by obtain ⟨f1, f3, f4⟩ := HL.out W4 q4; go_simp) (fun K hK => ?_)
      go_simp
      refine hK _ ?_
      clear hK K
      refine ord_loud rfl (fun K hK => ?_)
      gi_wp2
      refine hK _ _ HST.out.1 ?_
      clear hK K
      refine ord_read (.bool true) rfl rfl (fun W4 q4 => by obtain ⟨f1, f3, f4⟩ := HL.out W4 q4; go_simp) (fun K hK => ?_)
      go_simp
      refine hK _ ?_
      clear hK K
      simp only [wpOrd, noPanic]
      exact ⟨W1.heap.size, rfl, HST.out⟩
  · rintro a' w' ⟨A, rfl, hT⟩
    have HT := Lib.hid hT
    have b2 := (hT.2.cell 2).trans rfl
    have f3 := (HL.out _ hT.1).2.1
    clear hT
    have hs1 : (⟨#[v]⟩ : ByteArray).size = 1 := rfl
    by_cases hno : kn = Kn.no
    · have hlv : LV = false := by rw [HLV.out, hno]; exact liveK_no
      have HE : Hid (Ending.returned (.string (⟨#[126]⟩ ++ ⟨#[v]⟩)) = .returned (.string ⟨(tidyM kn v).toArray⟩) ∧ Keeps noB W w') := by
        refine ⟨congrArg Ending.returned (congrArg Value.string (ba_eq ?_)), HQW.out.trans HT.out.1⟩
        unfold tidyM; rw [if_pos hno]; rfl
      subst hlv
      clear hno
      gi_wp2
      refine leaves_marks [] _ List.nodup_nil (fun _ h => by cases h) (fun W' q _ => ?_)
      exact ⟨_, resTidyS W' _ _ rfl, HE.out.1, HE.out.2.trans (q.mono (fun _ e => by cases e))⟩
    · have hlv : LV = true := by rw [HLV.out]; exact liveK_yes hno
      subst hlv
      by_cases hm : v ∈ mustL kn
      · have hf1 := HD.out.1 hm
        have hd1 : decide ((0 : Int) ≤ F1) = true := by simpa using hf1
        have HR : Hid (.string (⟨#[45]⟩ ++ ⟨#[v]⟩) = Value.string ⟨(tidyM kn v).toArray⟩) := Lib.hid (congrArg Value.string (ba_eq (by unfold tidyM; rw [if_neg hno, if_pos hm]; rfl)))
        clear hno hm
        gi_wp2
        refine wpIn_region_ord (TBoxS W1 A MA MU true) (.read 0 (.read 1 (.read 2 (.read 3 (.read 4 (.loud 5 (.read 6 (.read 7 .fin)))))))) hro hFf (by kernel_rfl) (by kernel_rfl) rfl (by kernel_rfl) (HT.out.quiet ((Keeps.refl noB _).drew)) ?_
        refine ord_read (.pointer (some ⟨A, 1, none⟩)) rfl rfl (fun W4 q4 => by obtain ⟨f1, f3, f4⟩ := HL.out W4 q4.1; have b0 : W4.cell? ⟨A, 0, none⟩ = some (.string MA) := (q4.2.cell 0).trans rfl; have b1 : W4.cell? ⟨A, 1, none⟩ = some (.string MU) := (q4.2.cell 1).trans rfl; clear q4; go_simp) (fun K hK => ?_)
        go_simp
        refine hK _ ?_
        clear hK K
        refine ord_read (.string MU) rfl rfl (fun W4 q4 => by obtain ⟨f1, f3, f4⟩ := HL.out W4 q4.1; have b0 : W4.cell? ⟨A, 0, none⟩ = some (.string MA) := (q4.2.cell 0).trans rfl; have b1 : W4.cell? ⟨A, 1, none⟩ = some (.string MU) := (q4.2.cell 1).trans rfl; clear q4; go_simp) (fun K hK => ?_)
        go_simp
        refine hK _ ?_
        clear hK K
        refine ord_read (.pointer (some ⟨N, 3, none⟩)) rfl rfl (fun W4 q4 => by obtain ⟨f1, f3, f4⟩ := HL.out W4 q4.1; have b0 : W4.cell? ⟨A, 0, none⟩ = some (.string MA) := (q4.2.cell 0).trans rfl; have b1 : W4.cell? ⟨A, 1, none⟩ = some (.string MU) := (q4.2.cell 1).trans rfl; clear q4; go_simp) (fun K hK => ?_)
        go_simp
        refine hK _ ?_
        clear hK K
        refine ord_read (.string ⟨#[v]⟩) rfl rfl (fun W4 q4 => by obtain ⟨f1, f3, f4⟩ := HL.out W4 q4.1; have b0 : W4.cell? ⟨A, 0, none⟩ = some (.string MA) := (q4.2.cell 0).trans rfl; have b1 : W4.cell? ⟨A, 1, none⟩ = some (.string MU) := (q4.2.cell 1).trans rfl; clear q4; go_simp) (fun K hK => ?_)
        go_simp
        refine hK _ ?_
        clear hK K
        refine ord_read (.int .u8 (v.toNat : Int)) rfl rfl (fun W4 q4 => by obtain ⟨f1, f3, f4⟩ := HL.out W4 q4.1; have b0 : W4.cell? ⟨A, 0, none⟩ = some (.string MA) := (q4.2.cell 0).trans rfl; have b1 : W4.cell? ⟨A, 1, none⟩ = some (.string MU) := (q4.2.cell 1).trans rfl; clear q4; go_simp; rfl) (fun K hK => ?_)
        go_simp
        refine hK _ ?_
        clear hK K
        refine ord_loud rfl (fun K hK => ?_)
        gi_wp2
        refine CallsIn.mono (HF1.out _ _) ?_
        rintro e1 w5 ⟨rfl, rfl⟩
        gi_wp2
        refine hK _ _ (HT.out.quiet ((Keeps.refl noB _).drew)) ?_
        clear hK K
        refine ord_read (.bool true) rfl rfl (fun W4 q4 => by skip; go_simp) (fun K hK => ?_)
        go_simp
        refine hK _ ?_
        clear hK K
        refine ord_read (.bool true) rfl rfl (fun W4 q4 => by skip; go_simp) (fun K hK => ?_)
        go_simp
        refine hK _ ?_
        clear hK K
        simp only [wpOrd, noPanic]
        have HTn := Lib.hid (HT.out.quiet ((Keeps.refl noB _).drew))
        clear HT
        have HT := HTn
        clear HTn
        gi_wp2
        have HE : Hid (Ending.returned (.string (⟨#[45]⟩ ++ ⟨#[v]⟩)) = .returned (.string ⟨(tidyM kn v).toArray⟩) ∧ Keeps noB W _) := ⟨congrArg Ending.returned HR.out, HQW.out.trans HT.out.1⟩
        refine leaves_marks [] _ List.nodup_nil (fun _ h => by cases h) (fun W' q _ => ?_)
        exact ⟨_, resTidyS W' _ _ rfl, HE.out.1, HE.out.2.trans (q.mono (fun _ e => by cases e))⟩
      · have hf1 := HD.out.2.1 hm
        subst hf1
        gi_wp2
        refine wpIn_region_ord (TBoxS W1 A MA MU true) (.read 0 (.read 1 (.read 2 (.read 3 (.read 4 (.loud 5 (.read 6 (.read 7 .fin)))))))) hro hFf (by kernel_rfl) (by kernel_rfl) rfl (by kernel_rfl) (HT.out.quiet ((Keeps.refl noB _).drew)) ?_
        refine ord_read (.pointer (some ⟨A, 1, none⟩)) rfl rfl (fun W4 q4 => by obtain ⟨f1, f3, f4⟩ := HL.out W4 q4.1; have b0 : W4.cell? ⟨A, 0, none⟩ = some (.string MA) := (q4.2.cell 0).trans rfl; have b1 : W4.cell? ⟨A, 1, none⟩ = some (.string MU) := (q4.2.cell 1).trans rfl; clear q4; go_simp) (fun K hK => ?_)
        go_simp
        refine hK _ ?_
        clear hK K
        refine ord_read (.string MU) rfl rfl (fun W4 q4 => by obtain ⟨f1, f3, f4⟩ := HL.out W4 q4.1; have b0 : W4.cell? ⟨A, 0, none⟩ = some (.string MA) := (q4.2.cell 0).trans rfl; have b1 : W4.cell? ⟨A, 1, none⟩ = some (.string MU) := (q4.2.cell 1).trans rfl; clear q4; go_simp) (fun K hK => ?_)
        go_simp
        refine hK _ ?_
        clear hK K
        refine ord_read (.pointer (some ⟨N, 3, none⟩)) rfl rfl (fun W4 q4 => by obtain ⟨f1, f3, f4⟩ := HL.out W4 q4.1; have b0 : W4.cell? ⟨A, 0, none⟩ = some (.string MA) := (q4.2.cell 0).trans rfl; have b1 : W4.cell? ⟨A, 1, none⟩ = some (.string MU) := (q4.2.cell 1).trans rfl; clear q4; go_simp) (fun K hK => ?_)
        go_simp
        refine hK _ ?_
        clear hK K
        refine ord_read (.string ⟨#[v]⟩) rfl rfl (fun W4 q4 => by obtain ⟨f1, f3, f4⟩ := HL.out W4 q4.1; have b0 : W4.cell? ⟨A, 0, none⟩ = some (.string MA) := (q4.2.cell 0).trans rfl; have b1 : W4.cell? ⟨A, 1, none⟩ = some (.string MU) := (q4.2.cell 1).trans rfl; clear q4; go_simp) (fun K hK => ?_)
        go_simp
        refine hK _ ?_
        clear hK K
        refine ord_read (.int .u8 (v.toNat : Int)) rfl rfl (fun W4 q4 => by obtain ⟨f1, f3, f4⟩ := HL.out W4 q4.1; have b0 : W4.cell? ⟨A, 0, none⟩ = some (.string MA) := (q4.2.cell 0).trans rfl; have b1 : W4.cell? ⟨A, 1, none⟩ = some (.string MU) := (q4.2.cell 1).trans rfl; clear q4; go_simp; rfl) (fun K hK => ?_)
        go_simp
        refine hK _ ?_
        clear hK K
        refine ord_loud rfl (fun K hK => ?_)
        gi_wp2
        refine CallsIn.mono (HF1.out _ _) ?_
        rintro e1 w5 ⟨rfl, rfl⟩
        gi_wp2
        refine hK _ _ (HT.out.quiet ((Keeps.refl noB _).drew)) ?_
        clear hK K
        refine ord_read (.bool false) rfl rfl (fun W4 q4 => by skip; go_simp) (fun K hK => ?_)
        go_simp
        refine hK _ ?_
        clear hK K
        refine ord_read (.bool false) rfl rfl (fun W4 q4 => by skip; go_simp) (fun K hK => ?_)
        go_simp
        refine hK _ ?_
        clear hK K
        simp only [wpOrd, noPanic]
        have HTn := Lib.hid (HT.out.quiet ((Keeps.refl noB _).drew))
        clear HT
        have HT := HTn
        clear HTn
        by_cases hy : v ∈ mayL kn
        · have hf2 := HD.out.2.2.1 hy
          have hd2 : decide (F2 < (0 : Int)) = false := by simpa using hf2
          have HR : Hid (.string (⟨#[126]⟩ ++ ⟨#[v]⟩) = Value.string ⟨(tidyM kn v).toArray⟩) := Lib.hid (congrArg Value.string (ba_eq (by unfold tidyM; rw [if_neg hno, if_neg hm, if_pos hy]; rfl)))
          clear hno hm hy b2
          gi_wp2
          refine wpIn_region_ord (TBoxS W1 A MA MU true) (.read 0 (.read 1 (.read 2 (.read 3 (.read 4 (.loud 5 (.read 6 (.read 7 .fin)))))))) hro hFf (by kernel_rfl) (by kernel_rfl) rfl (by kernel_rfl) (HT.out.quiet ((Keeps.refl noB _).drew)) ?_
          refine ord_read (.pointer (some ⟨A, 0, none⟩)) rfl rfl (fun W4 q4 => by obtain ⟨f1, f3, f4⟩ := HL.out W4 q4.1; have b0 : W4.cell? ⟨A, 0, none⟩ = some (.string MA) := (q4.2.cell 0).trans rfl; have b1 : W4.cell? ⟨A, 1, none⟩ = some (.string MU) := (q4.2.cell 1).trans rfl; clear q4; go_simp) (fun K hK => ?_)
          go_simp
          refine hK _ ?_
          clear hK K
          refine ord_read (.string MA) rfl rfl (fun W4 q4 => by obtain ⟨f1, f3, f4⟩ := HL.out W4 q4.1; have b0 : W4.cell? ⟨A, 0, none⟩ = some (.string MA) := (q4.2.cell 0).trans rfl; have b1 : W4.cell? ⟨A, 1, none⟩ = some (.string MU) := (q4.2.cell 1).trans rfl; clear q4; go_simp) (fun K hK => ?_)
          go_simp
          refine hK _ ?_
          clear hK K
          refine ord_read (.pointer (some ⟨N, 3, none⟩)) rfl rfl (fun W4 q4 => by obtain ⟨f1, f3, f4⟩ := HL.out W4 q4.1; have b0 : W4.cell? ⟨A, 0, none⟩ = some (.string MA) := (q4.2.cell 0).trans rfl; have b1 : W4.cell? ⟨A, 1, none⟩ = some (.string MU) := (q4.2.cell 1).trans rfl; clear q4; go_simp) (fun K hK => ?_)
          go_simp
          refine hK _ ?_
          clear hK K
          refine ord_read (.string ⟨#[v]⟩) rfl rfl (fun W4 q4 => by obtain ⟨f1, f3, f4⟩ := HL.out W4 q4.1; have b0 : W4.cell? ⟨A, 0, none⟩ = some (.string MA) := (q4.2.cell 0).trans rfl; have b1 : W4.cell? ⟨A, 1, none⟩ = some (.string MU) := (q4.2.cell 1).trans rfl; clear q4; go_simp) (fun K hK => ?_)
          go_simp
          refine hK _ ?_
          clear hK K
          refine ord_read (.int .u8 (v.toNat : Int)) rfl rfl (fun W4 q4 => by obtain ⟨f1, f3, f4⟩ := HL.out W4 q4.1; have b0 : W4.cell? ⟨A, 0, none⟩ = some (.string MA) := (q4.2.cell 0).trans rfl; have b1 : W4.cell? ⟨A, 1, none⟩ = some (.string MU) := (q4.2.cell 1).trans rfl; clear q4; go_simp; rfl) (fun K hK => ?_)
          go_simp
          refine hK _ ?_
          clear hK K
          refine ord_loud rfl (fun K hK => ?_)
          gi_wp2
          refine CallsIn.mono (HF2.out _ _) ?_
          rintro e1 w5 ⟨rfl, rfl⟩
          gi_wp2
          refine hK _ _ (HT.out.quiet ((Keeps.refl noB _).drew)) ?_
          clear hK K
          refine ord_read (.bool false) rfl rfl (fun W4 q4 => by skip; go_simp) (fun K hK => ?_)
          go_simp
          refine hK _ ?_
          clear hK K
          refine ord_read (.bool false) rfl rfl (fun W4 q4 => by skip; go_simp) (fun K hK => ?_)
          go_simp
          refine hK _ ?_
          clear hK K
          simp only [wpOrd, noPanic]
          have HTn := Lib.hid (HT.out.quiet ((Keeps.refl noB _).drew))
          clear HT
          have HT := HTn
          clear HTn
          have f3b : (⟨w'.drew.heap, w'.tape, w'.drawn + 1 + 1, w'.drew.os, w'.drew.output⟩ : World).cell? ⟨N, 3, none⟩ = some (.string ⟨#[v]⟩) := (HL.out _ HT.out.1).2.1
          gi_wp2
          have HE : Hid (Ending.returned (.string (⟨#[126]⟩ ++ ⟨#[v]⟩)) = .returned (.string ⟨(tidyM kn v).toArray⟩) ∧ Keeps noB W _) := ⟨congrArg Ending.returned HR.out, HQW.out.trans HT.out.1⟩
          refine leaves_marks [] _ List.nodup_nil (fun _ h => by cases h) (fun W' q _ => ?_)
          exact ⟨_, resTidyS W' _ _ rfl, HE.out.1, HE.out.2.trans (q.mono (fun _ e => by cases e))⟩
        · have hf2 := HD.out.2.2.2 hy
          subst hf2
          have HR : Hid (.string ⟨#[]⟩ = Value.string ⟨(tidyM kn v).toArray⟩) := Lib.hid (congrArg Value.string (ba_eq (by unfold tidyM; rw [if_neg hno, if_neg hm, if_neg hy])))
          clear hno hm hy b2
          gi_wp2
          refine wpIn_region_ord (TBoxS W1 A MA MU true) (.read 0 (.read 1 (.read 2 (.read 3 (.read 4 (.loud 5 (.read 6 (.read 7 .fin)))))))) hro hFf (by kernel_rfl) (by kernel_rfl) rfl (by kernel_rfl) (HT.out.quiet ((Keeps.refl noB _).drew)) ?_
          refine ord_read (.pointer (some ⟨A, 0, none⟩)) rfl rfl (fun W4 q4 => by obtain ⟨f1, f3, f4⟩ := HL.out W4 q4.1; have b0 : W4.cell? ⟨A, 0, none⟩ = some (.string MA) := (q4.2.cell 0).trans rfl; have b1 : W4.cell? ⟨A, 1, none⟩ = some (.string MU) := (q4.2.cell 1).trans rfl; clear q4; go_simp) (fun K hK => ?_)
          go_simp
          refine hK _ ?_
          clear hK K
          refine ord_read (.string MA) rfl rfl (fun W4 q4 => by obtain ⟨f1, f3, f4⟩ := HL.out W4 q4.1; have b0 : W4.cell? ⟨A, 0, none⟩ = some (.string MA) := (q4.2.cell 0).trans rfl; have b1 : W4.cell? ⟨A, 1, none⟩ = some (.string MU) := (q4.2.cell 1).trans rfl; clear q4; go_simp) (fun K hK => ?_)
          go_simp
          refine hK _ ?_
          clear hK K
          refine ord_read (.pointer (some ⟨N, 3, none⟩)) rfl rfl (fun W4 q4 => by obtain ⟨f1, f3, f4⟩ := HL.out W4 q4.1; have b0 : W4.cell? ⟨A, 0, none⟩ = some (.string MA) := (q4.2.cell 0).trans rfl; have b1 : W4.cell? ⟨A, 1, none⟩ = some (.string MU) := (q4.2.cell 1).trans rfl; clear q4; go_simp) (fun K hK => ?_)
          go_simp
          refine hK _ ?_
          clear hK K
          refine ord_read (.string ⟨#[v]⟩) rfl rfl (fun W4 q4 => by obtain ⟨f1, f3, f4⟩ := HL.out W4 q4.1; have b0 : W4.cell? ⟨A, 0, none⟩ = some (.string MA) := (q4.2.cell 0).trans rfl; have b1 : W4.cell? ⟨A, 1, none⟩ = some (.string MU) := (q4.2.cell 1).trans rfl; clear q4; go_simp) (fun K hK => ?_)
          go_simp
          refine hK _ ?_
          clear hK K
          refine ord_read (.int .u8 (v.toNat : Int)) rfl rfl (fun W4 q4 => by obtain ⟨f1, f3, f4⟩ := HL.out W4 q4.1; have b0 : W4.cell? ⟨A, 0, none⟩ = some (.string MA) := (q4.2.cell 0).trans rfl; have b1 : W4.cell? ⟨A, 1, none⟩ = some (.string MU) := (q4.2.cell 1).trans rfl; clear q4; go_simp; rfl) (fun K hK => ?_)
          go_simp
          refine hK _ ?_
          clear hK K
          refine ord_loud rfl (fun K hK => ?_)
          gi_wp2
          refine CallsIn.mono (HF2.out _ _) ?_
          rintro e1 w5 ⟨rfl, rfl⟩
          gi_wp2
          refine hK _ _ (HT.out.quiet ((Keeps.refl noB _).drew)) ?_
          clear hK K
          refine ord_read (.bool true) rfl rfl (fun W4 q4 => by skip; go_simp) (fun K hK => ?_)
          go_simp
          refine hK _ ?_
          clear hK K
          refine ord_read (.bool true) rfl rfl (fun W4 q4 => by skip; go_simp) (fun K hK => ?_)
          go_simp
          refine hK _ ?_
          clear hK K
          simp only [wpOrd, noPanic]
          have HTn := Lib.hid (HT.out.quiet ((Keeps.refl noB _).drew))
          clear HT
          have HT := HTn
          clear HTn
          gi_wp2
          have HE : Hid (Ending.returned (.string ⟨#[]⟩) = .returned (.string ⟨(tidyM kn v).toArray⟩) ∧ Keeps noB W _) := ⟨congrArg Ending.returned HR.out, HQW.out.trans HT.out.1⟩
          refine leaves_marks [] _ List.nodup_nil (fun _ h => by cases h) (fun W' q _ => ?_)
          exact ⟨_, resTidyS W' _ _ rfl, HE.out.1, HE.out.2.trans (q.mono (fun _ e => by cases e))⟩

end Go.Proofs.Ytccpmhjffcceeaa

namespace Go.Proofs.Ytccpmhjffcceeaa
set_option linter.unusedVariables false
set_option linter.unusedSimpArgs false
open Go.RowKit Go.Shelf

/-- What is asked of every step. -/
def SOk (S : Nd → Prop) (l : List Nd) : Prop := ∀ z ∈ l, S z ∧ z.vars.length ≤ 100 ∧ 1 ≤ z.fin ∧ z.fin ≤ 1000

theorem modelV_short {w0 : World} {ok : Nat → Prop} {H : Nat} {pl : Nat → List UInt8} {td : Nd → List UInt8} {S : Nd → Prop} (E : SEnv w0 ok H pl td S) {z : Nd} (hz : S z) (hv : z.vars.length ≤ 100) : ShortAt (modelV pl td) z := by
  refine ⟨?_, ?_, Nat.le_trans hv (by omega), E.plen _⟩
  · show (if z.kind = 126 then [] else pl z.beg).length ≤ 200
    split
    · simp
    · exact E.plen _
  · show (if z.kind = 126 then td z else z.kind :: z.vars).length ≤ 200
    split
    · exact E.tlen z hz
    · rw [List.length_cons]; omega

theorem sbody_of {w0 : World} {ok : Nat → Prop} {H : Nat} {pl : Nat → List UInt8} {td : Nd → List UInt8} {S : Nd → Prop} (E : SEnv w0 ok H pl td S) (hok : ∀ i, ok i → i < w0.heap.size) {y : Nds} (hs : ∀ z ∈ y.list, SStepC w0 ok H (modelV pl td) z) (hS : SOk S y.pre.list) (hl : y.pre.len ≤ 200) :
    SBodyC w0 ok H (modelV pl td) y ∧ (Nds.wr (modelV pl td) y).length ≤ 1000000 := by
  have h1 := Nds.wr_len (modelV pl td) y (fun z hz => modelV_short E (hS z hz).1 (hS z hz).2.1)
  have h2 := list_pre y
  exact ⟨sbodyW_any w0 ok H (modelV pl td) y hs (by omega) (by omega) hok, by omega⟩

mutual
theorem Nd.stepS {w0 : World} {ok : Nat → Prop} {H : Nat} {pl : Nat → List UInt8} {td : Nd → List UInt8} {S : Nd → Prop} (E : SEnv w0 ok H pl td S) (hok : ∀ i, ok i → i < w0.heap.size) : ∀ (x : Nd) (ar : List UInt8) (d : Nat), x.Gr ar d → SOk S x.pre.list → x.pre.len ≤ 200 → SStepC w0 ok H (modelV pl td) x
  | .mk c k e vs sc .nil, ar, d, hg, hS, hl => by
    obtain ⟨h0, h1, h2, h3⟩ := hS (.mk c k e vs sc .nil) (by simp [Nd.pre, Nds.list])
    simp only [Nd.vars] at h1
    simp only [Nd.Gr] at hg
    by_cases hc : c = 126
    · exact wstepS_tilde E hok c k e vs sc hc h0 h1
    · refine wstepS_leaf E hok c k e vs sc ⟨?_, ?_, ?_, hc⟩ ?_ h1
      · rcases hg.2 with ⟨h | h | h | h, _⟩ | ⟨h, _⟩ | ⟨h | h, _⟩ <;> rw [h] <;> decide
      · rcases hg.2 with ⟨h | h | h | h, _⟩ | ⟨h, _⟩ | ⟨h | h, _⟩ <;> rw [h] <;> decide
      · rcases hg.2 with ⟨h | h | h | h, _⟩ | ⟨h, _⟩ | ⟨h | h, _⟩ <;> rw [h] <;> decide
      · intro hh
        rcases hg.2 with ⟨h, _⟩ | ⟨h, _⟩ | ⟨_, h⟩
        · rcases hh with rfl | rfl <;> rcases h with h | h | h | h <;> exact absurd h (by decide)
        · rcases hh with rfl | rfl <;> exact absurd h (by decide)
        · exact h
  | .mk c k e vs sc (.cons y .nil), ar, d, hg, hS, hl => by
    obtain ⟨h0, h1, h2, h3⟩ := hS (.mk c k e vs sc (.cons y .nil)) (by simp [Nd.pre, Nds.list])
    simp only [Nd.vars] at h1
    simp only [Nd.fin] at h2 h3
    simp only [Nd.Gr] at hg
    have hly : y.pre.len ≤ 200 := by simp only [Nd.pre, Bds.pre, Nds.len, Nds.len_app] at hl; omega
    have hSy : SOk S y.pre.list := fun z hz => hS z (by simp only [Nd.pre, Bds.pre, Nds.list, Nds.list_app]; simp [hz])
    rcases hg.2 with ⟨hc, hv, hy⟩ | ⟨hc, hd, hv, hy⟩
    · obtain ⟨hB, hw⟩ := sbody_of E hok (Nds.stepS E hok y _ _ hy hSy hly) hSy hly
      exact wstepS_loop E hok c k e vs sc hc y hB hw
    · obtain ⟨hB, hw⟩ := sbody_of E hok (Nds.stepS E hok y _ _ hy hSy hly) hSy hly
      exact wstepS_scope E hok c k e vs sc hc y ⟨h2, h3⟩ hv.some h1 hB hw
  | .mk c k e vs sc (.cons y (.cons u .nil)), ar, d, hg, hS, hl => by
    simp only [Nd.Gr] at hg
    obtain ⟨_, hc, hv, hy, hu⟩ := hg
    have hly : y.pre.len ≤ 200 := by simp only [Nd.pre, Bds.pre, Nds.len, Nds.len_app] at hl; omega
    have hlu : u.pre.len ≤ 200 := by simp only [Nd.pre, Bds.pre, Nds.len, Nds.len_app] at hl; omega
    have hSy : SOk S y.pre.list := fun z hz => hS z (by simp only [Nd.pre, Bds.pre, Nds.list, Nds.list_app]; simp [hz])
    have hSu : SOk S u.pre.list := fun z hz => hS z (by simp only [Nd.pre, Bds.pre, Nds.list, Nds.list_app]; simp [hz])
    obtain ⟨hB, hw⟩ := sbody_of E hok (Nds.stepS E hok y _ _ hy hSy hly) hSy hly
    obtain ⟨hC, hx⟩ := sbody_of E hok (Nds.stepS E hok u _ _ hu hSu hlu) hSu hlu
    exact wstepS_branch E hok c k e vs sc hc y u hB hC hw hx
  | .mk _ _ _ _ _ (.cons _ (.cons _ (.cons _ _))), ar, d, hg, hS, hl => by simp only [Nd.Gr] at hg
theorem Nds.stepS {w0 : World} {ok : Nat → Prop} {H : Nat} {pl : Nat → List UInt8} {td : Nd → List UInt8} {S : Nd → Prop} (E : SEnv w0 ok H pl td S) (hok : ∀ i, ok i → i < w0.heap.size) : ∀ (x : Nds) (ar : List UInt8) (d : Nat), x.Gr ar d → SOk S x.pre.list → x.pre.len ≤ 200 → ∀ z ∈ x.list, SStepC w0 ok H (modelV pl td) z
  | .nil, ar, d, hg, hS, hl => fun z hz => by cases hz
  | .cons x r, ar, d, hg, hS, hl => by
    simp only [Nds.Gr] at hg
    have h1 := Nd.stepS E hok x _ _ hg.1 (fun z hz => hS z (by simp only [Nds.pre, Nds.list_app]; simp [hz])) (by simp only [Nds.pre, Nds.len_app] at hl; omega)
    have h2 := Nds.stepS E hok r _ _ hg.2 (fun z hz => hS z (by simp only [Nds.pre, Nds.list_app]; simp [hz])) (by simp only [Nds.pre, Nds.len_app] at hl; omega)
    intro z hz
    rcases List.mem_cons.1 hz with e | hz
    · rw [e]; exact h1
    · exact h2 z hz
end

theorem tidyM_eq {s : ByteArray} {x z : Nd} (hp : progP s = some x) (hz : z ∈ x.pre.list) (hk : z.kind = 126) {v : UInt8} (hv : z.vars = [v]) : tidyM (knownJ x z.beg) v = tidyN x z := by
  have hl : ltr v := (step_fit hp hz).vars v (by rw [hv]; simp)
  unfold tidyN plainN
  rw [hk, hv]
  generalize knownJ x z.beg = k
  by_cases hn : k = Kn.no
  · have e : tidyM k v = [126, v] := by unfold tidyM; rw [if_pos hn]
    rw [e, if_neg (fun h => h.2 hn)]
  · have e : tidyM k v = partM k v := by unfold tidyM partM; rw [if_neg hn]
    rw [e, if_pos ⟨rfl, hn⟩, planK_part hn, partM_eq hn hl]
    simp

theorem tilde_vars {s : ByteArray} {x z : Nd} (hp : progP s = some x) (hz : z ∈ x.pre.list) (hk : z.kind = 126) : ∃ v, z.vars = [v] := by
  have hf := (step_fit hp hz).fit
  obtain ⟨c, k, e, vs, ar, bs⟩ := z
  simp only [Nd.kind] at hk
  subst hk
  cases bs with
  | nil =>
    simp only [Nd.Fit] at hf
    rcases hf with ⟨_, v, hv, _⟩ | ⟨h, _⟩ | ⟨h, _⟩
    · exact ⟨v, hv⟩
    · exact absurd h (by decide)
    · rcases h with h | h <;> exact absurd h (by decide)
  | cons y r =>
    cases r with
    | nil =>
      simp only [Nd.Fit] at hf
      rcases hf.1 with ⟨h, _⟩ | h <;> exact absurd h (by decide)
    | cons u r2 =>
      cases r2 with
      | nil => simp only [Nd.Fit] at hf; exact absurd hf.1 (by decide)
      | cons _ _ => simp only [Nd.Fit] at hf

/-- The model's writer asks what the program's knows. -/
theorem stidy_of {s : ByteArray} {x : Nd} (hp : progP s = some x) {w0 : World} {ok : Nat → Prop} {H : Nat} (hw : SWrAt w0 H x) : ∀ z a n m W, z ∈ x.pre.list → z.kind = 126 → RepS w0 ok z (nodeCellsK z (.slice a n m)) → Keeps noB w0 W → Calls Try.prog 82 #[.pointer (some ⟨H, 0, none⟩), nodeA z a n m] W (fun e w' => e = .returned (.string ⟨(tidyN x z).toArray⟩) ∧ Keeps noB W w') := by
  intro z a n m W hz hk _ q
  obtain ⟨v, hv⟩ := tilde_vars hp hz hk
  have h := tidyS_any hw z.beg z.fin v (knownJ x z.beg) (step_fit hp hz).noted ⟨z.scope.toArray⟩ a n m W q
  rw [tidyM_eq hp hz hk hv] at h
  unfold nodeA
  rw [hk, hv]
  exact h

theorem pre_sok {s : ByteArray} {x : Nd} (hp : progP s = some x) : SOk (fun z => z ∈ x.pre.list) x.pre.list := fun z hz => by
  obtain ⟨d, h⟩ := pre_ok hp hz
  have h1 := h.good.lt
  have h2 := h.good.le
  have h3 := (progP_ok hp).2.2.2.2.2
  have h4 := pre_vars hp hz
  exact ⟨hz, by omega, by omega, by omega⟩

set_option maxHeartbeats 1000000 in
/-- Without plans. -/
theorem plan_none (H : Nat) (a : Option Addr) (m : Nat) (k : Int) (W : World) (h0 : W.cell? ⟨H, 0, none⟩ = some (.slice a 0 m)) : Calls Try.prog 80 #[.pointer (some ⟨H, 0, none⟩), .int .i64 k] W (fun e w' => e = .returned (.string ⟨#[]⟩) ∧ Keeps noB W w') := by
  go_enter Try.func80, Try.ntmps80
  go_wp2_with fail
  go_loopw [12] (fun v12 wr => v12 = .int .i64 0 ∧ wr = W) (fun _ _ => 0)
  case atStart => exact ⟨rfl, rfl⟩
  case round =>
    obtain ⟨rfl, rfl⟩ := hrel
    go_wp2_with fail
    go_ret
    exact ⟨rfl, Keeps.refl _ _⟩

theorem tidy_same {s : ByteArray} {x : Nd} (hp : progP s = some x) : x.wr (modelV (fun _ => []) (tidyN x)) = x.wr (tidyV x) := by
  refine Nd.wr_same x (fun z hz => ⟨rfl, ?_, ?_, rfl, rfl⟩)
  · show (if z.kind = 126 then [] else []) = []
    split <;> rfl
  · show (if z.kind = 126 then tidyN x z else z.kind :: z.vars) = tidyN x z
    split
    · rfl
    · rename_i h
      unfold tidyN plainN
      rw [if_neg (fun h' => h h'.1)]

set_option maxRecDepth 100000 in
set_option maxHeartbeats 2000000 in
theorem stidyFlags_any (s : ByteArray) (hs : s.size ≤ 1048576) (w : World) : Calls Try.prog 28 #[.string s] w (RewritePost w (tidyP s)) := by
  have HR := Lib.hid (sread_any s hs w)
  unfold tidyP
  cases hp : progP s with
  | none =>
    rw [hp] at HR
    clear hp
    go_enter Try.func28, Try.ntmps28
    go_wp2_with fail
    refine HR.out.mono ?_
    rintro e w1 ⟨⟨x0, x1, x2, x3, x4, x5, x6, x7, rfl⟩, q1⟩
    have hnv : nodeV x0 x1 x2 x3 x4 x5 x6 x7 = .agg #[.int .u8 x0, .int .i64 x1, .int .i64 x2, .string x3, .slice x4 x5 x6, .string x7] := rfl
    have HQ := Lib.hid q1
    clear q1
    go_wp2_with fail
    go_ret2
    exact ⟨rfl, HQ.out.alloc _⟩
  | some x =>
    rw [hp] at HR
    obtain ⟨_, h2, _, _, _, h6⟩ := progP_ok hp
    have hX := Nd.shC h6 x 0 h2 (progP_sp hp) (progP_fit hp)
    have hfin := h2.good.le
    have hfew := progP_few hp
    have HST : Hid (∀ (w3 : World) (ok : Nat → Prop) (H a : Nat), SWrAt w3 H x → w3.cell? ⟨H, 0, none⟩ = some (.slice (some ⟨a, 0, none⟩) 0 0) → (∀ i, ok i → i < w3.heap.size) → ∀ b n m, RepS w3 ok x (nodeCellsK x (.slice b n m)) → Calls Try.prog 54 #[.pointer (some ⟨H, 0, none⟩), nodeA x b n m] w3 (fun e w' => e = .returned (.string ⟨(x.wr (tidyV x)).toArray⟩) ∧ Keeps noB w3 w')) := by
      intro w3 ok H a hw hc hok b n m hrep
      have hHl : H < w3.heap.size := by obtain ⟨_, _, _, hb, _⟩ := hw.blk; exact hb.lt
      have E : SEnv w3 ok H (fun _ => []) (tidyN x) (fun z => z ∈ x.pre.list) := ⟨fun k W q => plan_none H _ 0 _ W ((q.cell (p := ⟨H, 0, none⟩) hHl id).trans hc), stidy_of hp hw, fun _ => by simp, fun z hz => tidyN_len hp hz⟩
      have h := Nd.stepS E hok x _ _ (progP_gr hp) (pre_sok hp) (by omega) b n m w3 hrep (Keeps.refl _ _)
      rw [tidy_same hp] at h
      exact h
    have HL := Lib.hid (fun w1 ok hok a n m hrep => lfind_any x (progP_sp hp) (by omega) hX w1 ok hok a n m hrep)
    clear hX hfin h2 h6 hp hfew
    go_enter Try.func28, Try.ntmps28
    go_wp2_with fail
    refine HR.out.mono ?_
    rintro e w1 ⟨x0, x1, x2, x3, x4, x5, x6, x7, rfl, hrep, q1⟩
    obtain ⟨c, b, e', vs, ar, bs⟩ := x
    have hr2 := hrep
    simp only [RepS] at hr2
    obtain ⟨vb, n', xs, hcs, _, _⟩ := hr2
    simp [six, u8, i64, str] at hcs
    obtain ⟨rfl, rfl, rfl, rfl, rfl, rfl⟩ := hcs
    have hnv : nodeV (c.toNat : Int) (b : Int) (e' : Int) ⟨vs.toArray⟩ x4 x5 x6 ⟨ar.toArray⟩ = .agg #[.int .u8 (c.toNat : Int), .int .i64 (b : Int), .int .i64 (e' : Int), .string ⟨vs.toArray⟩, .slice x4 x5 x6, .string ⟨ar.toArray⟩] := rfl
    have HREP := Lib.hid (And.intro hrep q1)
    have HN := Lib.hid (Blk.new w1 #[.int .u8 (c.toNat : Int), .int .i64 (b : Int), .int .i64 (e' : Int), .string ⟨vs.toArray⟩, .slice x4 x5 x6, .string ⟨ar.toArray⟩] 52)
    have hL : Hid (∀ w2, Keeps noB w1 w2 → Calls Try.prog 53 #[.agg #[.int .u8 (c.toNat : Int), .int .i64 (b : Int), .int .i64 (e' : Int), .string ⟨vs.toArray⟩, .slice x4 x5 x6, .string ⟨ar.toArray⟩]] w2 (fun e w' => ∃ own h l va vs', e = .returned (.pointer (some ⟨h, 0, none⟩)) ∧ HoldAt w' own h l va vs' ∧ lookL l = notesP (.mk c b e' vs ar bs) ∧ (∀ g, own g → w2.heap.size ≤ g) ∧ Keeps noB w2 w')) := fun w2 q2 => by
      have hh : Hands w1 w2 (fromB w.heap.size) (fun i => i < w2.heap.size) := Hands.of_keeps q2 (fun _ _ _ e => e.elim) (fun i _ hl => Nat.lt_of_lt_of_le hl q2.size)
      exact HL.out w2 (fun i => i < w2.heap.size) (fun _ h => h) x4 x5 x6 (hh.repS _ _ hrep)
    clear hrep q1 HL
    go_wp2_with (go_at_call 53; refine (hL.out _ ((((Keeps.refl _ _).alloc _).alloc _).alloc _)).mono ?_; rintro e2 w2 ⟨own, h, l, va, vs', rfl, hH, hM, _, q2⟩; refine Hid.out ?_)
    refine Lib.hid ?_
    have n2 := q2.blk ((HN.out.alloc (.cells #[] 3)).alloc (.cells #[] 9)) id
    obtain ⟨w3, hw3⟩ : ∃ w3, w3 = w2.alloc (.cells #[.slice (some ⟨w1.heap.size + 1, 0, none⟩) 0 0, .slice (some ⟨w1.heap.size + 1 + 1, 0, none⟩) 0 0, .pointer (some ⟨h, 0, none⟩)] 79) := ⟨_, rfl⟩
    have q3 : Keeps noB w2 w3 := by rw [hw3]; exact (Keeps.refl _ _).alloc _
    have b3 : Blk w3 w2.heap.size #[.slice (some ⟨w1.heap.size + 1, 0, none⟩) 0 0, .slice (some ⟨w1.heap.size + 1 + 1, 0, none⟩) 0 0, .pointer (some ⟨h, 0, none⟩)] 79 := by rw [hw3]; exact Blk.new _ _ _
    have q13 : Keeps noB w1 w3 := (((((Keeps.refl noB w1).alloc _).alloc _).alloc _).trans q2).trans q3
    have n3 := q3.blk n2 id
    have HSTEP : Hid (Calls Try.prog 54 #[.pointer (some ⟨w2.heap.size, 0, none⟩), .agg #[.int .u8 (c.toNat : Int), .int .i64 (b : Int), .int .i64 (e' : Int), .string ⟨vs.toArray⟩, .slice x4 x5 x6, .string ⟨ar.toArray⟩]] w3 (fun e w' => e = .returned (.string ⟨((Nd.mk c b e' vs ar bs).wr (tidyV (Nd.mk c b e' vs ar bs))).toArray⟩) ∧ Keeps noB w w')) := by
      have hh : Hands w1 w3 (fromB w.heap.size) (fun i => i < w3.heap.size) := Hands.of_keeps q13 (fun _ _ _ e => e.elim) (fun i _ hl => Nat.lt_of_lt_of_le hl q13.size)
      refine (HST.out w3 (fun i => i < w3.heap.size) w2.heap.size (w1.heap.size + 1) ⟨_, _, h, b3, own, l, va, vs', hH.quiet q3, hM⟩ ((b3.cell 0).trans rfl) (fun _ h => h) x4 x5 x6 (hh.repS _ _ HREP.out.1)).mono (fun e w' h => ⟨h.1, (HREP.out.2.trans q13).trans h.2⟩)
    have r0 : w3.cell? ⟨w1.heap.size, 0, none⟩ = some (.int .u8 (c.toNat : Int)) := (n3.cell 0).trans rfl
    have r1 : w3.cell? ⟨w1.heap.size, 1, none⟩ = some (.int .i64 (b : Int)) := (n3.cell 1).trans rfl
    have r2 : w3.cell? ⟨w1.heap.size, 2, none⟩ = some (.int .i64 (e' : Int)) := (n3.cell 2).trans rfl
    have r3 : w3.cell? ⟨w1.heap.size, 3, none⟩ = some (.string ⟨vs.toArray⟩) := (n3.cell 3).trans rfl
    have r4 : w3.cell? ⟨w1.heap.size, 4, none⟩ = some (.slice x4 x5 x6) := (n3.cell 4).trans rfl
    have r5 : w3.cell? ⟨w1.heap.size, 5, none⟩ = some (.string ⟨ar.toArray⟩) := (n3.cell 5).trans rfl
    clear n2 n3 q3 b3 q13 hH hM q2 HST hL HN HREP HR
    go_upto_region 5 with fail
    rw [← hw3]
    clear hw3
    go_wp2_with fail
    refine HSTEP.out.mono ?_
    rintro e3 w4 ⟨rfl, q4⟩
    have HE := Lib.hid q4
    clear q4
    go_wp2_with fail
    go_ret2
    exact ⟨rfl, HE.out⟩

end Go.Proofs.Ytccpmhjffcceeaa
