/-
  The program's readEvent.
-/
import Derived.Test.YthgocacabadflaaDoorQa
import Derived.Test.YthgocacabadflaaDoorChecked
import Derived.WalkKit
import Derived.Deep.RegionLaw
import Derived.Deep.RegionWith
import Derived.Deep.QuietTactic
import Derived.BigQuiet
import Derived.BigRegion
import Derived.Outline
import Derived.Deep.DeepCutAuto
import Derived.Deep.Cut
import Derived.Deep.CutBlock
import Derived.Lib.Hide
namespace Go.Proofs.YthgocacabadflaaDoor
set_option linter.unusedVariables false
set_option linter.unusedSimpArgs false
open Go.RowKit

/-- The event of a word, as the program reads it. -/
def rdE : List UInt8 → Option (UInt8 × Int)
  | [] => none
  | k :: d => if k = 43 ∨ k = 46 ∨ k = 45 then (numP d).map (fun v => (k, v)) else none

def RdEPost (w : World) (r : Option (UInt8 × Int)) (e : Ending) (w' : World) : Prop :=
  (match r with
   | some p => e = .returned (.tuple #[.agg #[.int .u8 (p.1.toNat : Int), .int .i64 p.2], .nilIface])
   | none => ∃ tp q, e = .returned (.tuple #[.agg #[.int .u8 0, .int .i64 0], .iface tp q])) ∧ Keeps noB w w'

theorem resRE (W : World) (B : Nat) (a b v : Value) (tmps : Array Value) (h2 : tmps.getD 2 undef = .pointer (some ⟨B, 0, none⟩)) (h3 : tmps.getD 3 undef = v) (ha : W.cell? ⟨B, 0, none⟩ = some a) (hb : W.cell? ⟨B, 1, none⟩ = some b) :
    (results Tryd.f68 tmps).run Tryd.prog W = .ok (.tuple #[.agg #[a, b], v]) W := by
  have h2' : tmps[2]?.getD undef = .pointer (some ⟨B, 0, none⟩) := by simpa using h2
  have h3' : tmps[3]?.getD undef = v := by simpa using h3
  simp [results, Tryd.results68, go_sem, h2', h3', ha, hb]

theorem empty_str {s : ByteArray} (h : s.data.toList = []) : s = ⟨#[]⟩ := by
  cases s
  simp at h
  rw [h]
theorem cons_str {s : ByteArray} {k : UInt8} {d : List UInt8} (h : s.data.toList = k :: d) : s = ⟨(k :: d).toArray⟩ := by
  cases s
  simp at h ⊢
  exact congrArg List.toArray h
theorem tail_str (k : UInt8) (d : List UInt8) : (⟨(k :: d).toArray⟩ : ByteArray).extract 1 (d.length + 1) = ⟨d.toArray⟩ := by
  have h := str_eq7 (a := (⟨(k :: d).toArray⟩ : ByteArray).extract 1 (d.length + 1)) (l := d) (by
    rw [ByteArray.data_extract]
    simp [Array.toList_extract])
  unfold str at h
  injection h

theorem ix_no {k : UInt8} (h : ¬ (k = 43 ∨ k = 46 ∨ k = 45)) : Lib.indexByte [43, 46, 45] k < 0 := by
  simp only [not_or] at h
  have h1 : ¬ (43 : UInt8) = k := fun e => h.1 e.symm
  have h2 : ¬ (46 : UInt8) = k := fun e => h.2.1 e.symm
  have h3 : ¬ (45 : UInt8) = k := fun e => h.2.2 e.symm
  simp [Lib.indexByte, h1, h2, h3]
theorem ix_yes {k : UInt8} (h : k = 43 ∨ k = 46 ∨ k = 45) : ¬ Lib.indexByte [43, 46, 45] k < 0 := by
  rcases h with rfl | rfl | rfl <;> decide

set_option maxRecDepth 100000 in
set_option maxHeartbeats 8000000 in
theorem readE_any (s : ByteArray) (hs : s.size ≤ 1048576) (w : World) (h : Env w) : Calls Tryd.prog 68 #[.string s] w (RdEPost w (rdE s.data.toList)) := by
  obtain ⟨tp, q, h3⟩ := h.e3
  have hsz := h.sz
  have HK0 : Keeps noB w (w.alloc (.cells #[.int .u8 0, .int .i64 0] 63)) := (Keeps.refl _ _).alloc _
  have hB0 := Blk.new w #[.int .u8 0, .int .i64 0] 63
  have HEV := Lib.hid (h.keeps HK0 (fun _ _ e => e))
  have g3 : (w.alloc (.cells #[.int .u8 0, .int .i64 0] 63)).cell? ⟨3, 0, none⟩ = some (.iface tp q) := (HK0.cell (p := ⟨3, 0, none⟩) (show 3 < _ by omega) id).trans h3
  have hs1 : w.heap.size < (w.alloc (.cells #[.int .u8 0, .int .i64 0] 63)).heap.size := by simp
  clear h h3
  go_enter Tryd.func68, Tryd.ntmps68
  go_upto_region 1 with fail
  generalize w.alloc (.cells #[.int .u8 0, .int .i64 0] 63) = W1 at *
  obtain ⟨B, hB⟩ : ∃ B, B = w.heap.size := ⟨_, rfl⟩
  rw [← hB] at hB0 hs1 ⊢
  have HG : Hid (∀ W2, Keeps noB W1 W2 → W2.cell? ⟨3, 0, none⟩ = some (.iface tp q) ∧ W2.cell? ⟨B, 0, none⟩ = some (.int .u8 0) ∧ W2.cell? ⟨B, 1, none⟩ = some (.int .i64 0) ∧ W2.frozen? ⟨B, 0, none⟩ = false ∧ W2.frozen? ⟨B, 1, none⟩ = false) := fun W2 q2 => by
    have b := q2.blk hB0 id
    refine ⟨(q2.cell (p := ⟨3, 0, none⟩) (show 3 < _ by omega) id).trans g3, (b.cell 0).trans rfl, (b.cell 1).trans rfl, b.free 0, b.free 1⟩
  have HS : Hid (∀ W2 x y, Keeps noB W1 W2 → Keeps noB w ((W2.setCell ⟨B, 0, none⟩ x).setCell ⟨B, 1, none⟩ y) ∧ ((W2.setCell ⟨B, 0, none⟩ x).setCell ⟨B, 1, none⟩ y).cell? ⟨B, 0, none⟩ = some x ∧ ((W2.setCell ⟨B, 0, none⟩ x).setCell ⟨B, 1, none⟩ y).cell? ⟨B, 1, none⟩ = some y) := fun W2 x y q2 => by
    have b := ((q2.blk hB0 id).set 0 x).set 1 y
    exact ⟨((HK0.trans q2).setCell (p := ⟨B, 0, none⟩) (.inr (by show _ ≤ B; omega)) _).setCell (p := ⟨B, 1, none⟩) (.inr (by show _ ≤ B; omega)) _, (b.cell 0).trans rfl, (b.cell 1).trans rfl⟩
  have HK := Lib.hid HK0
  obtain ⟨g3', b0, b1, f0, f1⟩ := HG.out W1 (Keeps.refl _ _)
  have hb3 : ¬ 3 = B := by omega
  have hb3' : ¬ B = 3 := by omega
  have HBB := Lib.hid (And.intro hB hs1)
  clear hB hs1 hB0 HK0 g3
  cases hl : s.data.toList with
  | nil =>
    obtain rfl := empty_str hl
    have HE : Hid (RdEPost w none = RdEPost w (rdE [])) := Lib.hid rfl
    clear hl
    go_wp2_with fail
    go_region
    have HZ := Lib.hid (HS.out W1 (.int .u8 0) (.int .i64 0) (Keeps.refl _ _))
    go_wp2_with fail
    exact bodyPost_ret (resRE _ B _ _ _ _ rfl rfl HZ.out.2.1 HZ.out.2.2) rfl ⟨⟨_, _, rfl⟩, HZ.out.1.drew⟩
  | cons k d =>
    obtain rfl := cons_str hl
    have hk0 : 0 < (⟨(k :: d).toArray⟩ : ByteArray).size := by show 0 < ((k :: d).toArray).size; simp
    obtain ⟨kv, hkv1⟩ : ∃ kv : Int, kv = (((⟨(k :: d).toArray⟩ : ByteArray)[0]'hk0).toNat : Int) := ⟨_, rfl⟩
    have hkv : kv = (k.toNat : Int) := hkv1
    have HKV := Lib.hid (And.intro hkv hkv1)
    obtain ⟨ix, hix⟩ : ∃ ix, ix = Lib.indexByte [43, 46, 45] k := ⟨_, rfl⟩
    have HIX : Hid (∀ w, Calls Tryd.prog 79 #[.string ⟨#[43, 46, 45]⟩, .int .u8 (((⟨(k :: d).toArray⟩ : ByteArray)[0]'hk0).toNat : Int)] w fun e w' => e = .returned (.int .i64 ix) ∧ w' = w) := fun w => by
      have h := Tryd.strings_IndexByte ⟨#[43, 46, 45]⟩ kv w
      rw [hkv1] at h
      have e : (((⟨(k :: d).toArray⟩ : ByteArray)[0]'hk0).toNat : Int).toNat.toUInt8 = k := by
        rw [← hkv1, hkv]; simp
      rw [e, ← hix] at h
      exact h
    have htl := tail_str k d
    have hdl : (⟨d.toArray⟩ : ByteArray).size ≤ 1048576 := by
      have e : (⟨(k :: d).toArray⟩ : ByteArray).size = d.length + 1 := by show ((k :: d).toArray).size = _; simp
      have e2 : (⟨d.toArray⟩ : ByteArray).size = d.length := by show (d.toArray).size = _; simp
      omega
    have HAT : Hid (∀ w, Env w → Calls Tryd.prog 80 #[.string ((⟨(k :: d).toArray⟩ : ByteArray).extract 1 (d.length + 1))] w fun e w' =>
        (match Lib.atoiAll d with | .ok v => e = .returned (.tuple #[.int .i64 v, .nilIface]) | _ => ∃ v tp p, e = .returned (.tuple #[.int .i64 v, .iface tp p])) ∧ Keeps noB w w') := fun w hw => by
      rw [htl]; exact atoi_lib ⟨d.toArray⟩ hdl w hw
    by_cases hk : k = 43 ∨ k = 46 ∨ k = 45
    · have hix2 : ¬ ix < 0 := by rw [hix]; exact ix_yes hk
      have hrd : rdE (k :: d) = (numP d).map (fun v => (k, v)) := if_pos hk
      have HRD := Lib.hid hrd
      clear hrd hix hkv hkv1 hl
      cases hat : Lib.atoiAll d
      · rename_i v
        obtain ⟨v0, v1⟩ := atoi_bounds hat
        have HV := Lib.hid (And.intro v0 v1)
        have HAT2 : Hid (∀ w, Env w → Calls Tryd.prog 80 #[.string ((⟨(k :: d).toArray⟩ : ByteArray).extract 1 (d.length + 1))] w fun e w' => e = .returned (.tuple #[.int .i64 v, .nilIface]) ∧ Keeps noB w w') := fun w hw => by
          have h := HAT.out w hw
          rw [hat] at h; exact h
        have hnp : numP d = if Lib.itoa v = d then some v else none := by unfold numP; rw [hat]
        have HNP := Lib.hid hnp
        have hcmp : (((⟨(Lib.itoa v).toArray⟩ : ByteArray).toList != ((⟨(k :: d).toArray⟩ : ByteArray).extract 1 (d.length + 1)).toList)) = !decide (Lib.itoa v = d) := by
          rw [htl, ByteArray.toList_eq, ByteArray.toList_eq]
          by_cases e : Lib.itoa v = d
          · simp [e]
          · simp [e]
        clear hat hnp HAT v0 v1
        have HTL := Lib.hid htl
        clear htl
        obtain ⟨sI, hsI⟩ : ∃ sI : ByteArray, sI = ⟨(Lib.itoa v).toArray⟩ := ⟨_, rfl⟩
        have HIT : Hid (∀ w, Env w → Calls Tryd.prog 71 #[.int .i64 v] w fun e w' => e = .returned (.string sI) ∧ Keeps noB w w') := fun w hw => by
          rw [hsI]; exact itoa_lib v HV.out.1 HV.out.2 w hw
        rw [← hsI] at hcmp
        clear hsI
        by_cases hd : Lib.itoa v = d
        · have hcmp2 : (sI.toList != ((⟨(k :: d).toArray⟩ : ByteArray).extract 1 (d.length + 1)).toList) = false := by rw [hcmp]; simp [hd]
          have hcmp3 : (sI.toList == ((⟨(k :: d).toArray⟩ : ByteArray).extract 1 (d.length + 1)).toList) = true := by simpa using hcmp2
          have HR : Hid (rdE (k :: d) = some (k, v)) := by rw [HRD.out, HNP.out, if_pos hd]; rfl
          clear hcmp hd hk
          go_wp2_with (first | (go_at_call 79; refine (HIX.out _).mono ?_; rintro e w' ⟨rfl, rfl⟩) | (go_at_call 80; refine (HAT2.out _ HEV.out).mono ?_; rintro e w5 ⟨rfl, q5⟩; have Q5 := Lib.hid (And.intro q5 (HEV.out.keeps q5 (fun _ _ e => e))); obtain ⟨d3, d0, d1, d4, d5⟩ := HG.out w5 q5; clear q5))
          go_region_with (go_at_call 71; refine (HIT.out _ (Q5.out.2.keeps ((Keeps.refl noB _).drew) (fun _ _ e => e))).mono ?_; rintro e w6 ⟨rfl, q6⟩; have Q6 := Lib.hid (Q5.out.1.trans (((Keeps.refl noB w5).drew).trans q6)); obtain ⟨c3, c0, c1, c4, c5⟩ := HG.out w6 Q6.out; clear q6)
          all_goals
            simp only [List.getElem_toArray, List.getElem_cons_succ, List.getElem_cons_zero]
            go_simp
            have HZ := Lib.hid (HS.out w6 (.int .u8 (((⟨(k :: d).toArray⟩ : ByteArray)[0]'hk0).toNat : Int)) (.int .i64 v) Q6.out)
            go_wp2_with fail
            refine bodyPost_ret (resRE _ B _ _ _ _ rfl rfl HZ.out.2.1 HZ.out.2.2) rfl ?_
            rw [HR.out]
            exact ⟨rfl, HZ.out.1⟩
        · have hcmp2 : (sI.toList != ((⟨(k :: d).toArray⟩ : ByteArray).extract 1 (d.length + 1)).toList) = true := by rw [hcmp]; simp [hd]
          have hcmp3 : (sI.toList == ((⟨(k :: d).toArray⟩ : ByteArray).extract 1 (d.length + 1)).toList) = false := by simpa using hcmp2
          have HR : Hid (rdE (k :: d) = none) := by rw [HRD.out, HNP.out, if_neg hd]; rfl
          clear hcmp hd hk
          go_wp2_with (first | (go_at_call 79; refine (HIX.out _).mono ?_; rintro e w' ⟨rfl, rfl⟩) | (go_at_call 80; refine (HAT2.out _ HEV.out).mono ?_; rintro e w5 ⟨rfl, q5⟩; have Q5 := Lib.hid (And.intro q5 (HEV.out.keeps q5 (fun _ _ e => e))); obtain ⟨d3, d0, d1, d4, d5⟩ := HG.out w5 q5; clear q5))
          go_region_with (go_at_call 71; refine (HIT.out _ (Q5.out.2.keeps ((Keeps.refl noB _).drew) (fun _ _ e => e))).mono ?_; rintro e w6 ⟨rfl, q6⟩; have Q6 := Lib.hid (Q5.out.1.trans (((Keeps.refl noB w5).drew).trans q6)); obtain ⟨c3, c0, c1, c4, c5⟩ := HG.out w6 Q6.out; clear q6)
          all_goals
            simp only [List.getElem_toArray, List.getElem_cons_succ, List.getElem_cons_zero]
            go_simp
            go_wp2_with fail
            go_region
            have HZ := Lib.hid (HS.out w6 (.int .u8 0) (.int .i64 0) Q6.out)
            go_wp2_with fail
            refine bodyPost_ret (resRE _ B _ _ _ _ rfl rfl HZ.out.2.1 HZ.out.2.2) rfl ?_
            rw [HR.out]
            exact ⟨⟨_, _, rfl⟩, HZ.out.1.drew⟩
      · have HR : Hid (rdE (k :: d) = none) := by rw [HRD.out]; unfold numP; rw [hat]; rfl
        have HAT2 : Hid (∀ w, Env w → Calls Tryd.prog 80 #[.string ((⟨(k :: d).toArray⟩ : ByteArray).extract 1 (d.length + 1))] w fun e w' => (∃ v tp p, e = .returned (.tuple #[.int .i64 v, .iface tp p])) ∧ Keeps noB w w') := fun w hw => by
          have h := HAT.out w hw
          rw [hat] at h; exact h
        clear hat HAT htl
        go_wp2_with (first | (go_at_call 79; refine (HIX.out _).mono ?_; rintro e w' ⟨rfl, rfl⟩) | (go_at_call 80; refine (HAT2.out _ HEV.out).mono ?_; rintro e w5 ⟨⟨v, tp2, p2, rfl⟩, q5⟩; have Q5 := Lib.hid q5; obtain ⟨d3, d0, d1, d4, d5⟩ := HG.out w5 q5; clear q5))
        go_region
        go_wp2_with fail
        go_region
        have HZ := Lib.hid (HS.out w5 (.int .u8 0) (.int .i64 0) Q5.out)
        go_wp2_with fail
        refine bodyPost_ret (resRE _ B _ _ _ _ rfl rfl HZ.out.2.1 HZ.out.2.2) rfl ?_
        rw [HR.out]
        exact ⟨⟨_, _, rfl⟩, HZ.out.1.drew.drew⟩
      · have HR : Hid (rdE (k :: d) = none) := by rw [HRD.out]; unfold numP; rw [hat]; rfl
        have HAT2 : Hid (∀ w, Env w → Calls Tryd.prog 80 #[.string ((⟨(k :: d).toArray⟩ : ByteArray).extract 1 (d.length + 1))] w fun e w' => (∃ v tp p, e = .returned (.tuple #[.int .i64 v, .iface tp p])) ∧ Keeps noB w w') := fun w hw => by
          have h := HAT.out w hw
          rw [hat] at h; exact h
        clear hat HAT htl
        go_wp2_with (first | (go_at_call 79; refine (HIX.out _).mono ?_; rintro e w' ⟨rfl, rfl⟩) | (go_at_call 80; refine (HAT2.out _ HEV.out).mono ?_; rintro e w5 ⟨⟨v, tp2, p2, rfl⟩, q5⟩; have Q5 := Lib.hid q5; obtain ⟨d3, d0, d1, d4, d5⟩ := HG.out w5 q5; clear q5))
        go_region
        go_wp2_with fail
        go_region
        have HZ := Lib.hid (HS.out w5 (.int .u8 0) (.int .i64 0) Q5.out)
        go_wp2_with fail
        refine bodyPost_ret (resRE _ B _ _ _ _ rfl rfl HZ.out.2.1 HZ.out.2.2) rfl ?_
        rw [HR.out]
        exact ⟨⟨_, _, rfl⟩, HZ.out.1.drew.drew⟩
    · have hix2 : ix < 0 := by rw [hix]; exact ix_no hk
      have HR : Hid (rdE (k :: d) = none) := Lib.hid (if_neg hk)
      clear hix hkv hkv1 hl hk htl HAT
      go_wp2_with (go_at_call 79; refine (HIX.out _).mono ?_; rintro e w' ⟨rfl, rfl⟩; obtain ⟨d3, d0, d1, d4, d5⟩ := HG.out _ (Keeps.refl _ _))
      go_region
      have HZ := Lib.hid (HS.out _ (.int .u8 0) (.int .i64 0) (Keeps.refl _ _))
      go_wp2_with fail
      refine bodyPost_ret (resRE _ B _ _ _ _ rfl rfl HZ.out.2.1 HZ.out.2.2) rfl ?_
      rw [HR.out]
      exact ⟨⟨_, _, rfl⟩, HZ.out.1.drew⟩

end Go.Proofs.YthgocacabadflaaDoor
