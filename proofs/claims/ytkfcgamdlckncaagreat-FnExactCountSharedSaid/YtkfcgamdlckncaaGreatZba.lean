/-
  Walks of the model: what is destroyed of variables (l5Plan).
-/
import Derived.Test.YtkfcgamdlckncaaGreatYaW
import Derived.Test.YtkfcgamdlckncaaGreatVgW
import Derived.Deep.QuietTactic
import Derived.BigQuiet
import Derived.Test.YtkfcgamdlckncaaGreatEbV
import Derived.Test.YtkfcgamdlckncaaGreatSqW
import Derived.Test.YtkfcgamdlckncaaGreatVsb
namespace Go.Proofs.YtkfcgamdlckncaaGreat
set_option linter.unusedVariables false
set_option linter.unusedSimpArgs false
open Go.RowKit

/-- What the model says of one variable. -/
def partM (k : Kn) (v : UInt8) : List UInt8 := if v ∈ mustL k then [45, v] else if v ∈ mayL k then [126, v] else []
theorem partM_eq {k : Kn} (h : k ≠ Kn.no) {v : UInt8} (hv : ltr v) : partM k v = partK k v := by
  unfold partM partK
  rw [mustL_live h]
  have e1 : (v ∈ lets k.must) = (hasV k.must v = true) := by rw [mem_lets]; simp [hv]
  have e2 : (v ∈ mayL k) = (hasV k.may v = true) := by unfold mayL; rw [mem_lets]; simp [hv]
  simp only [e1, e2]
theorem partM_no (v : UInt8) : partM Kn.no v = [] := by unfold partM; rw [mustL_no, mayL_no]; simp
theorem partM_len (k : Kn) (v : UInt8) : (partM k v).length ≤ 2 := by
  unfold partM; split
  · exact Nat.le_refl _
  · split
    · exact Nat.le_refl _
    · exact Nat.zero_le _
theorem planM_eq (k : Kn) (vs : List UInt8) (hv : ∀ v ∈ vs, ltr v) : vs.reverse.flatMap (partM k) = planK k vs := by
  by_cases h : k = Kn.no
  · unfold planK; rw [if_pos h, h]
    rw [List.flatMap_eq_nil_iff]
    exact fun v _ => partM_no v
  · rw [planK_part h]
    have : ∀ l : List UInt8, (∀ v ∈ l, ltr v) → l.flatMap (partM k) = l.flatMap (partK k) := by
      intro l
      induction l with
      | nil => intro _; rfl
      | cons a r ih =>
        intro hl
        rw [List.flatMap_cons, List.flatMap_cons, ih (fun v hv => hl v (List.mem_cons_of_mem _ hv)), partM_eq h (hl a (by simp))]
    exact this _ (fun v hv' => hv v (List.mem_reverse.1 hv'))

/-- What is gathered of the variables from a place on. -/
def fromM (k : Kn) (vs : List UInt8) (m : Nat) : List UInt8 := (vs.drop m).reverse.flatMap (partM k)
theorem fromM_zero (k : Kn) (vs : List UInt8) : fromM k vs 0 = vs.reverse.flatMap (partM k) := by unfold fromM; rw [List.drop_zero]
theorem fromM_all (k : Kn) (vs : List UInt8) : fromM k vs vs.length = [] := by unfold fromM; rw [List.drop_length]; rfl
theorem fromM_next (k : Kn) (vs : List UInt8) {j : Nat} {v : UInt8} (h : vs[j]? = some v) : fromM k vs j = fromM k vs (j + 1) ++ partM k v := by
  unfold fromM
  obtain ⟨hl, rfl⟩ := List.getElem?_eq_some_iff.1 h
  rw [List.drop_eq_getElem_cons hl, List.reverse_cons, List.flatMap_append]
  simp
theorem fromM_len (k : Kn) (vs : List UInt8) (m : Nat) : (fromM k vs m).length ≤ 2 * vs.length := by
  unfold fromM
  have : ∀ l : List UInt8, (l.flatMap (partM k)).length ≤ 2 * l.length := by
    intro l
    induction l with
    | nil => exact Nat.le_refl _
    | cons a r ih => rw [List.flatMap_cons, List.length_append, List.length_cons]; have := partM_len k a; omega
  have h := this (vs.drop m).reverse
  rw [List.length_reverse, List.length_drop] at h
  omega

/-- What the loop of l5Plan holds. -/
def PlanS (w : World) (k : Kn) (vs : List UInt8) (vo vi : Value) (wr : World) : Prop :=
  ∃ (m : Nat) (out : ByteArray), m ≤ vs.length ∧ vi = .int .i64 ((m : Int) - 1) ∧ vo = .string out ∧ out.data.toList = fromM k vs m ∧ Blk wr w.heap.size #[.string (mayB k), .string (mustB k), .bool (liveK k)] 60 ∧ Keeps noB w wr

theorem Keeps.drawnN {may : Nat → Prop} {a w : World} (h : Keeps may a w) (n : Nat) : Keeps may a (w.drewN n) := ⟨h.os, h.tape, h.output, h.size, h.block⟩

set_option maxRecDepth 100000 in
set_option maxHeartbeats 4000000 in
theorem splan_any (k : Kn) (vs : List UInt8) (hv : ∀ v ∈ vs, ltr v) (hn : vs.length ≤ 100) (w : World) : Calls Tryz.prog 31 #[.string ⟨vs.toArray⟩, stV k] w (fun e w' => e = .returned (.string ⟨(planK k vs).toArray⟩) ∧ Keeps noB w w') := by
  have HF : Hid ((∀ c w, Calls Tryz.prog 40 #[.string (mustB k), .int .u8 (c.toNat : Int)] w (fun e w' => e = .returned (.int .i64 (findI (mustB k) c)) ∧ w' = w)) ∧ (∀ c w, Calls Tryz.prog 40 #[.string (mayB k), .int .u8 (c.toNat : Int)] w (fun e w' => e = .returned (.int .i64 (findI (mayB k) c)) ∧ w' = w))) := by
    refine ⟨fun c w => find_any (mustB k) c w ?_, fun c w => find_any (mayB k) c w ?_⟩
    · unfold mustB; rw [size_arr]
      by_cases h : k = Kn.no
      · rw [h, mustL_no]; simp
      · rw [mustL_live h]; have := lets_len k.must; omega
    · unfold mayB; rw [size_arr]; have := mayL_len k; omega
  have HD : Hid ((∀ c, c ∈ mustL k → 0 ≤ findI (mustB k) c) ∧ (∀ c, ¬ c ∈ mustL k → findI (mustB k) c = -1) ∧ (∀ c, c ∈ mayL k → 0 ≤ findI (mayB k) c) ∧ (∀ c, ¬ c ∈ mayL k → findI (mayB k) c = -1)) := by
    have e1 : (mustB k).data.toList = mustL k := by unfold mustB; rw [List.toList_toArray]
    have e2 : (mayB k).data.toList = mayL k := by unfold mayB; rw [List.toList_toArray]
    exact ⟨fun c h => findI_mem (by rw [e1]; exact h), fun c h => findI_not (by rw [e1]; exact h), fun c h => findI_mem (by rw [e2]; exact h), fun c h => findI_not (by rw [e2]; exact h)⟩
  have HPL := Lib.hid (planM_eq k vs hv)
  obtain ⟨sv, hsv⟩ : ∃ sv : ByteArray, sv = ⟨vs.toArray⟩ := ⟨_, rfl⟩
  rw [← hsv]
  have hsz : sv.size = vs.length := by rw [hsv]; exact size_arr vs
  have HGET : Hid (∀ (i : Nat) (hi : i < sv.size), vs[i]? = some sv[i]) := fun i hi => by
    subst hsv
    rw [List.getElem?_eq_getElem (by omega)]
    rfl
  have hsz1 : (sv.size : Int) ≤ 100 := by omega
  have HS := Lib.hid hsz
  have b0 := Blk.new w #[.string (mayB k), .string (mustB k), .bool (liveK k)] 60
  have HP : Hid (PlanS w k vs (.string ⟨#[]⟩) (.int .i64 ((sv.size : Int) - 1)) (w.alloc (.cells #[.string (mayB k), .string (mustB k), .bool (liveK k)] 60))) :=
    ⟨vs.length, ⟨#[]⟩, Nat.le_refl _, by rw [hsz], rfl, (fromM_all k vs).symm, b0, (Keeps.refl _ _).alloc _⟩
  rw [stV_eq]
  clear hsv hsz hn hv b0
  go_enter Tryz.func31, Tryz.ntmps31
  go_wp2_with fail
  go_loopw [5, 6] (fun vo vi wr => PlanS w k vs vo vi wr) (fun _ vi _ => ((intOf vi) + 1).toNat)
  case atStart => exact HP.out
  case round =>
    clear HP
    obtain ⟨m, out, hm, rfl, rfl, hout, hb, hq⟩ := hrel
    cases m with
    | zero =>
      have HE : Hid (Value.string out = .string ⟨(planK k vs).toArray⟩) := Lib.hid (str_eq (by rw [hout, fromM_zero]; exact HPL.out))
      have HQ := Lib.hid hq
      have hi0 : ¬ (0 : Int) ≤ ((0 : Nat) : Int) - 1 := by omega
      clear hout hb hq
      go_wp2_with fail
      go_ret
      exact ⟨congrArg Ending.returned HE.out, HQ.out⟩
    | succ j =>
      have hj : j < sv.size := by have := HS.out; omega
      have hge := HGET.out j hj
      have hnx := fromM_next k vs hge
      have hoz : out.size ≤ 200 := by
        have e : out.size = (fromM k vs (j + 1)).length := by rw [← hout]; simp
        rw [e]
        have := fromM_len k vs (j + 1)
        have := HS.out
        omega
      have e0 : (((j + 1 : Nat) : Int) - 1) = (j : Int) := by omega
      rw [e0]
      have hi0 : (0 : Int) ≤ (j : Int) := by omega
      have hi1 : (j : Int) < (sv.size : Int) := by omega
      have h3 : ((j : Int) + 1).toNat = j + 1 := by omega
      have h5 : (j : Int) + 1 ≤ (sv.size : Int) := by omega
      have h6 : (j : Int) ≤ (j : Int) + 1 := by omega
      have h7 : (0 : Int) ≤ (j : Int) + 1 := by omega
      have hxo := extract_one hj
      have hxz : (sv.extract j (j + 1)).size = 1 := by
        have e : (sv.extract j (j + 1)).size = (sv.extract j (j + 1)).data.toList.length := by rw [Array.length_toList]; rfl
        rw [e, hxo]; rfl
      have r0 := hb.cell 0
      have r1 := hb.cell 1
      simp at r0 r1
      have HN : Hid (∀ (o : ByteArray) nq, o.data.toList = fromM k vs j → PlanS w k vs (.string o) (.int .i64 ((j : Int) - 1)) (wr.drewN nq)) := fun o nq ho =>
        ⟨j, o, by omega, rfl, rfl, ho, hb, hq.drawnN nq⟩
      have HN2 : Hid (∀ (o : ByteArray) nq nr, o.data.toList = fromM k vs j → PlanS w k vs (.string o) (.int .i64 ((j : Int) - 1)) ((wr.drewN nq).drewN nr)) := fun o nq nr ho =>
        ⟨j, o, by omega, rfl, rfl, ho, hb, (hq.drawnN nq).drawnN nr⟩
      clear hb hq e0 hge
      obtain ⟨MU, hMU⟩ : ∃ MU, mustB k = MU := ⟨_, rfl⟩
      obtain ⟨MA, hMA⟩ : ∃ MA, mayB k = MA := ⟨_, rfl⟩
      obtain ⟨F1, hF1⟩ : ∃ F1, findI MU sv[j] = F1 := ⟨_, rfl⟩
      obtain ⟨F2, hF2⟩ : ∃ F2, findI MA sv[j] = F2 := ⟨_, rfl⟩
      have HF1 : Hid (∀ w, Calls Tryz.prog 40 #[.string MU, .int .u8 (sv[j].toNat : Int)] w (fun e w' => e = .returned (.int .i64 F1) ∧ w' = w)) := by rw [← hF1, ← hMU]; exact fun w => HF.out.1 sv[j] w
      have HF2 : Hid (∀ w, Calls Tryz.prog 40 #[.string MA, .int .u8 (sv[j].toNat : Int)] w (fun e w' => e = .returned (.int .i64 F2) ∧ w' = w)) := by rw [← hF2, ← hMA]; exact fun w => HF.out.2 sv[j] w
      have HX : Hid ((sv[j] ∈ mustL k → 0 ≤ F1) ∧ (¬ sv[j] ∈ mustL k → F1 = -1) ∧ (sv[j] ∈ mayL k → 0 ≤ F2) ∧ (¬ sv[j] ∈ mayL k → F2 = -1)) := by
        rw [← hF1, ← hF2, ← hMU, ← hMA]; exact ⟨HD.out.1 _, HD.out.2.1 _, HD.out.2.2.1 _, HD.out.2.2.2 _⟩
      rw [hMU] at r1
      rw [hMA] at r0
      clear hF1 hF2 hMU hMA
      by_cases h1 : sv[j] ∈ mustL k
      · have hf1 := HX.out.1 h1
        have hd1 : decide ((0 : Int) ≤ F1) = true := by simpa using hf1
        have hcz : out.size + (⟨#[45]⟩ : ByteArray).size ≤ 9223372036854775807 := by have : (⟨#[45]⟩ : ByteArray).size = 1 := rfl; omega
        have hcz2 : (out ++ ⟨#[45]⟩).size + (sv.extract j (j + 1)).size ≤ 9223372036854775807 := by rw [ByteArray.size_append]; have : (⟨#[45]⟩ : ByteArray).size = 1 := rfl; omega
        have HY : Hid ((out ++ ⟨#[45]⟩ ++ sv.extract j (j + 1)).data.toList = fromM k vs j) := Lib.hid (by
          rw [hnx, ByteArray.data_append, Array.toList_append, ByteArray.data_append, Array.toList_append, hout, hxo]
          unfold partM; rw [if_pos h1]; simp)
        clear hnx hout hxo hoz hxz h1
        go_wp2_with fail
        go_quiet ((go_at_call 40; exact Calls.quiet_of_same (HF1.out _)))
        go_wp2_with fail
        exact ⟨HN.out _ _ HY.out, by simp [intOf]⟩
      · have hf1 := HX.out.2.1 h1
        have hd1 : decide ((0 : Int) ≤ F1) = false := by rw [hf1]; decide
        subst hf1
        by_cases h2 : sv[j] ∈ mayL k
        · have hf2 := HX.out.2.2.1 h2
          have hd2 : decide ((0 : Int) ≤ F2) = true := by simpa using hf2
          have hcz : out.size + (⟨#[126]⟩ : ByteArray).size ≤ 9223372036854775807 := by have : (⟨#[126]⟩ : ByteArray).size = 1 := rfl; omega
          have hcz2 : (out ++ ⟨#[126]⟩).size + (sv.extract j (j + 1)).size ≤ 9223372036854775807 := by rw [ByteArray.size_append]; have : (⟨#[126]⟩ : ByteArray).size = 1 := rfl; omega
          have HY : Hid ((out ++ ⟨#[126]⟩ ++ sv.extract j (j + 1)).data.toList = fromM k vs j) := Lib.hid (by
            rw [hnx, ByteArray.data_append, Array.toList_append, ByteArray.data_append, Array.toList_append, hout, hxo]
            unfold partM; rw [if_neg h1, if_pos h2]; simp)
          clear hnx hout hxo hoz hxz h1 h2
          go_wp2_with fail
          go_quiet ((go_at_call 40; exact Calls.quiet_of_same (HF1.out _)))
          go_wp2_with fail
          have r0' : (wr.drewN nq).cell? ⟨w.heap.size, 0, none⟩ = some (.string MA) := r0
          have HN3 := Lib.hid (fun o nr ho => HN2.out o nq nr ho)
          clear r0 r1 HN HN2 HF1
          generalize wr.drewN nq = wd at *
          go_quiet ((go_at_call 40; exact Calls.quiet_of_same (HF2.out _)))
          go_wp2_with fail
          exact ⟨HN3.out _ _ HY.out, by simp [intOf]⟩
        · have hf2 := HX.out.2.2.2 h2
          subst hf2
          have HY : Hid (out.data.toList = fromM k vs j) := Lib.hid (by
            rw [hnx, hout]; unfold partM; rw [if_neg h1, if_neg h2, List.append_nil])
          clear hnx hout hxo hoz hxz h1 h2
          go_wp2_with fail
          go_quiet ((go_at_call 40; exact Calls.quiet_of_same (HF1.out _)))
          go_wp2_with fail
          have r0' : (wr.drewN nq).cell? ⟨w.heap.size, 0, none⟩ = some (.string MA) := r0
          have HN3 := Lib.hid (fun o nr ho => HN2.out o nq nr ho)
          clear r0 r1 HN HN2 HF1
          generalize wr.drewN nq = wd at *
          go_quiet ((go_at_call 40; exact Calls.quiet_of_same (HF2.out _)))
          go_wp2_with fail
          exact ⟨HN3.out _ _ HY.out, by simp [intOf]⟩

end Go.Proofs.YtkfcgamdlckncaaGreat
