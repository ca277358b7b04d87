/-
  The model's l13Num: a number in decimal.
-/
import Derived.Test.YthgocacabadflaaDoorSw
namespace Go.Proofs.YthgocacabadflaaDoor
set_option linter.unusedVariables false
set_option linter.unusedSimpArgs false
open Go.RowKit

def NumPost (w : World) (r : Option Int) (e : Ending) (w' : World) : Prop :=
  (match r with | none => e = .returned (.tuple #[.int .i64 0, .bool false]) | some v => e = .returned (.tuple #[.int .i64 v, .bool true])) ∧ w' = w

theorem resNum (W : World) (v b : Value) (tmps : Array Value) (h2 : tmps.getD 2 undef = v) (h3 : tmps.getD 3 undef = b) : (results Tryd.f49 tmps).run Tryd.prog W = .ok (.tuple #[v, b]) W := by
  have h2' : tmps[2]?.getD undef = v := by simpa using h2
  have h3' : tmps[3]?.getD undef = b := by simpa using h3
  simp [results, Tryd.results49, go_sem, h2', h3']

/-- What the reading says of the text behind the sign. -/
def numT (neg : Bool) (t : List UInt8) : Option Int :=
  if t = [] ∨ 17 < t.length ∨ (t.head? = some 48 ∧ (1 < t.length ∨ neg = true)) then none
  else if t.all (fun c => decide (isDig c)) then some (if neg then -(valD t : Int) else valD t) else none

theorem numM_neg {l : List UInt8} (h : l.head? = some 45) : numM l = numT true (l.drop 1) := by
  unfold numM numT; simp [h]
theorem numM_pos {l : List UInt8} (h : l.head? ≠ some 45) : numM l = numT false l := by
  unfold numM numT; simp [h]

theorem numT_empty (neg : Bool) {t : List UInt8} (h : t = []) : numT neg t = none := by unfold numT; rw [if_pos (.inl h)]
theorem numT_long (neg : Bool) {t : List UInt8} (h : 17 < t.length) : numT neg t = none := by unfold numT; rw [if_pos (.inr (.inl h))]
theorem numT_zero (neg : Bool) {t : List UInt8} (h : t.head? = some 48) (h2 : 1 < t.length ∨ neg = true) : numT neg t = none := by unfold numT; rw [if_pos (.inr (.inr ⟨h, h2⟩))]
theorem numT_bad (neg : Bool) {t : List UInt8} {i : Nat} {c : UInt8} (h : t[i]? = some c) (hc : ¬ isDig c) : numT neg t = none := by
  unfold numT
  split
  · rfl
  · rw [if_neg]
    intro hall
    have := List.all_eq_true.1 hall c (List.mem_of_getElem? h)
    exact hc (by simpa using this)
theorem numT_good (neg : Bool) {t : List UInt8} (h1 : t ≠ []) (h2 : ¬ 17 < t.length) (h3 : ¬ (t.head? = some 48 ∧ (1 < t.length ∨ neg = true))) (h4 : ∀ c ∈ t, isDig c) : numT neg t = some (if neg then -(valD t : Int) else valD t) := by
  unfold numT
  rw [if_neg (by rintro (h | h | h); exact h1 h; exact h2 h; exact h3 h), if_pos (List.all_eq_true.2 (fun c hc => by simpa using h4 c hc))]

theorem valD_take {t : List UInt8} {i : Nat} {c : UInt8} (h : t[i]? = some c) : valD (t.take (i + 1)) = valD (t.take i) * 10 + (c.toNat - 48) := by
  rw [List.take_add_one, h]; exact valD_snoc _ _

theorem wrap64_neg17 {n : Nat} (h : n < 10 ^ 17) : wrap64 (-(n : Int)) = -(n : Int) := by
  have : (10 : Nat) ^ 17 = 100000000000000000 := by decide
  unfold wrap64; omega

/-- What the loop of l13Num holds. -/
def NumAt (t : List UInt8) (vn vi : Value) : Prop :=
  ∃ (i n : Nat), i ≤ t.length ∧ vi = .int .i64 (i : Int) ∧ vn = .int .i64 (n : Int) ∧ n = valD (t.take i) ∧ n < 10 ^ i ∧ ∀ c ∈ t.take i, isDig c

set_option maxRecDepth 100000 in
set_option maxHeartbeats 4000000 in
theorem num_neg (s : ByteArray) (hs : s.size ≤ 1048576) (h : s.data.toList.head? = some 45) (w : World) : Calls Tryd.prog 49 #[.string s] w (NumPost w (numM s.data.toList)) := by
  have hlen : s.data.toList.length = s.size := by simp
  have hpos : 0 < s.size := by
    rw [← hlen]
    cases hl : s.data.toList with
    | nil => rw [hl] at h; cases h
    | cons c r => simp
  have h0 : s[0] = 45 := by
    have := at_str hpos
    rw [List.head?_eq_getElem?, this] at h
    exact Option.some.inj h
  have e45 : ((s[0].toNat : Int) == 45) = true := by rw [h0]; rfl
  have eps : (0 : Int) < (s.size : Int) := by omega
  have ep1 : (1 : Int) ≤ (s.size : Int) := by omega
  have htl : (s.extract 1 s.size).data.toList = s.data.toList.drop 1 := by
    rw [cut_str, ← hlen, List.take_of_length_le (by simp)]
  have HM : Hid (numM s.data.toList = numT true (s.extract 1 s.size).data.toList) := by rw [htl]; exact numM_neg h
  have HT : Hid ((s.extract 1 s.size).data.toList.length = (s.extract 1 s.size).size) := Lib.hid (by simp)
  clear h hlen htl h0
  go_enter Tryd.func49, Tryd.ntmps49
  go_upto_region 4 with fail
  obtain ⟨t, ht⟩ : ∃ t, t = s.extract 1 s.size := ⟨_, rfl⟩
  rw [← ht] at HM HT ⊢
  clear ht
  by_cases h0 : t.size = 0
  · have e0 : ((t.size : Int) == 0) = true := by simp [h0]
    have HE := Lib.hid (numT_empty true (t := t.data.toList) (List.eq_nil_of_length_eq_zero (by rw [HT.out]; exact h0)))
    rw [← HM.out] at HE
    clear h0
    go_wp2_with fail
    refine bodyPost_ret (resNum _ _ _ _ rfl rfl) rfl ?_
    rw [HE.out]; exact ⟨rfl, rfl⟩
  by_cases h17 : 17 < t.size
  · have e0 : ((t.size : Int) == 0) = false := by rw [beq_eq_false_iff_ne]; omega
    have e17 : (17 : Int) < (t.size : Int) := by omega
    have HE := Lib.hid (numT_long true (t := t.data.toList) (by rw [HT.out]; exact h17))
    rw [← HM.out] at HE
    go_wp2_with fail
    refine bodyPost_ret (resNum _ _ _ _ rfl rfl) rfl ?_
    rw [HE.out]; exact ⟨rfl, rfl⟩
  have hpos : 0 < t.size := by omega
  have e0 : ((t.size : Int) == 0) = false := by rw [beq_eq_false_iff_ne]; omega
  have e17 : ¬ (17 : Int) < (t.size : Int) := by omega
  have e0p : (0 : Int) < (t.size : Int) := by omega
  have hhd : t.data.toList.head? = some t[0] := by rw [List.head?_eq_getElem?]; exact at_str hpos
  by_cases h48 : t[0] = 48 ∧ (1 < t.size ∨ true = true)
  · have e48 : ((t[0].toNat : Int) == 48) = true := by rw [h48.1]; rfl
    have HE := Lib.hid (numT_zero true (t := t.data.toList) (by rw [hhd, h48.1]) (by rw [HT.out]; exact h48.2))
    rw [← HM.out] at HE
    clear h48 hhd
    by_cases e1 : (1 : Int) < (t.size : Int)
    all_goals
      go_wp2_with fail
      refine bodyPost_ret (resNum _ _ _ _ rfl rfl) rfl ?_
      rw [HE.out]; exact ⟨rfl, rfl⟩
  have HG : Hid ((∀ c ∈ t.data.toList, isDig c) → numM s.data.toList = some (-(valD t.data.toList : Int))) := fun hd => by
    rw [HM.out, numT_good true (by intro e; rw [e] at hhd; cases hhd) (by rw [HT.out]; exact h17) (by rw [hhd, HT.out]; rintro ⟨e1, e2⟩; exact h48 ⟨Option.some.inj e1, e2⟩) hd]; rfl
  have HB : Hid (∀ i c, t.data.toList[i]? = some c → ¬ isDig c → numM s.data.toList = none) := fun i c h1 h2 => by rw [HM.out]; exact numT_bad true h1 h2
  have HP : Hid (NumAt t.data.toList (.int .i64 0) (.int .i64 0)) := ⟨0, 0, Nat.zero_le _, rfl, rfl, by simp [valD], by decide, by simp⟩
  have hgo : (((t[0].toNat : Int) == 48) = false) ∨ (((t[0].toNat : Int) == 48) = true) := by
    by_cases e : t[0] = 48
    · exact absurd ⟨e, .inr rfl⟩ h48
    · exact .inl (by rw [beq_eq_false_iff_ne]; exact fun e2 => e (UInt8.toNat_inj.1 (Int.ofNat.inj e2)))
  have hgo : ((t[0].toNat : Int) == 48) = false := by
    rcases hgo with h | h
    · exact h
    · exact absurd ⟨UInt8.toNat_inj.1 (Int.ofNat.inj (by simpa using h)), .inr rfl⟩ h48
  clear h48 hhd h17
  go_wp2_with fail
  go_loop [5, 6] (fun vn vi => NumAt t.data.toList vn vi) (fun _ vi => t.size - (intOf vi).toNat)
  case atStart => exact HP.out
  case round =>
    clear HP
    obtain ⟨i, n, hin, rfl, rfl, hn, hlt10, hdg⟩ := hrel
    clear hgo e45
    rw [HT.out] at hin
    by_cases hlt : i < t.size
    · have hi1 : (i : Int) < (t.size : Int) := by omega
      have hat := at_str hlt
      have hp16 : 10 ^ i ≤ 10 ^ 16 := Nat.pow_le_pow_right (by decide) (by omega)
      have hn16 : (n : Int) < 10000000000000000 := by have := Nat.lt_of_lt_of_le hlt10 hp16; omega
      have HA := Lib.hid (And.intro hat (And.intro hn (And.intro hlt10 hdg)))
      have h256 : (t[i].toNat : Int) < 256 := by have := t[i].toNat_lt; omega
      have hge0 : (0 : Int) ≤ (t[i].toNat : Int) := by omega
      clear hat hp16 hlt10 hdg hn
      by_cases h1 : (t[i].toNat : Int) < 48
      · have HE := Lib.hid (HB.out i t[i] HA.out.1 (fun e => by have := e.1; omega))
        go_wp2_with fail
        refine bodyPost_ret (resNum _ _ _ _ rfl rfl) rfl ?_
        rw [HE.out]; exact ⟨rfl, rfl⟩
      · by_cases h2 : (57 : Int) < (t[i].toNat : Int)
        · have HE := Lib.hid (HB.out i t[i] HA.out.1 (fun e => by have := e.2; omega))
          go_wp2_with fail
          refine bodyPost_ret (resNum _ _ _ _ rfl rfl) rfl ?_
          rw [HE.out]; exact ⟨rfl, rfl⟩
        · have HN : Hid (NumAt t.data.toList (.int .i64 ((n : Int) * 10 + ((t[i].toNat : Int) - 48))) (.int .i64 ((i : Int) + 1))) := by
            obtain ⟨ha, hn, hl, hd⟩ := HA.out
            refine ⟨i + 1, n * 10 + (t[i].toNat - 48), by rw [HT.out]; omega, by go_num, congrArg (Value.int .i64) (by omega), by rw [valD_take ha, ← hn], by rw [Nat.pow_succ]; omega, ?_⟩
            rw [List.take_add_one, ha]
            intro c hc
            rcases List.mem_append.1 hc with hc | hc
            · exact hd c hc
            · simp at hc; subst hc; unfold isDig; omega
          go_wp2_with fail
          go_round
          case rel => exact HN.out
          case measure => simp [intOf]; omega
    · have hi1 : ¬ (i : Int) < (t.size : Int) := by omega
      have HE : Hid (numM s.data.toList = some (-(n : Int))) := by
        rw [List.take_of_length_le (by rw [HT.out]; omega)] at hn hdg
        rw [hn]; exact HG.out hdg
      have HW : Hid (wrap64 (-(n : Int)) = -(n : Int)) := Lib.hid (wrap64_neg17 (Nat.lt_of_lt_of_le hlt10 (Nat.pow_le_pow_right (by decide) (by omega))))
      clear hn hdg hlt10
      go_wp2_with fail
      refine bodyPost_ret (resNum _ _ _ _ rfl rfl) rfl ?_
      rw [HE.out]; exact ⟨congrArg (fun z => Ending.returned (.tuple #[.int .i64 z, .bool true])) HW.out, rfl⟩

set_option maxRecDepth 100000 in
set_option maxHeartbeats 4000000 in
theorem num_pos (s : ByteArray) (hs : s.size ≤ 1048576) (h : s.data.toList.head? ≠ some 45) (w : World) : Calls Tryd.prog 49 #[.string s] w (NumPost w (numM s.data.toList)) := by
  have hlen : s.data.toList.length = s.size := by simp
  have HM := Lib.hid (numM_pos h)
  have HT := Lib.hid hlen
  have hsg : ¬ (0 : Int) < (s.size : Int) ∨ ((0 : Int) < (s.size : Int) ∧ ∃ hp : 0 < s.size, ((s[0].toNat : Int) == 45) = false) := by
    by_cases hp : 0 < s.size
    · refine .inr ⟨by omega, hp, ?_⟩
      rw [List.head?_eq_getElem?, at_str hp] at h
      rw [beq_eq_false_iff_ne]
      exact fun e => h (congrArg some (UInt8.toNat_inj.1 (Int.ofNat.inj e)))
    · exact .inl (by omega)
  clear h hlen
  rcases hsg with e00 | ⟨e00, hp, e45⟩
  · have h0 : s.size = 0 := by omega
    have e0 : ((s.size : Int) == 0) = true := by simp [h0]
    have HE := Lib.hid (numT_empty false (t := s.data.toList) (List.eq_nil_of_length_eq_zero (by rw [HT.out]; exact h0)))
    rw [← HM.out] at HE
    clear h0
    go_enter Tryd.func49, Tryd.ntmps49
    go_wp2_with fail
    refine bodyPost_ret (resNum _ _ _ _ rfl rfl) rfl ?_
    rw [HE.out]; exact ⟨rfl, rfl⟩
  · go_enter Tryd.func49, Tryd.ntmps49
    go_upto_region 4 with fail
    by_cases h0 : s.size = 0
    · have e0 : ((s.size : Int) == 0) = true := by simp [h0]
      have HE := Lib.hid (numT_empty false (t := s.data.toList) (List.eq_nil_of_length_eq_zero (by rw [HT.out]; exact h0)))
      rw [← HM.out] at HE
      clear h0
      go_wp2_with fail
      refine bodyPost_ret (resNum _ _ _ _ rfl rfl) rfl ?_
      rw [HE.out]; exact ⟨rfl, rfl⟩
    by_cases h17 : 17 < s.size
    · have e0 : ((s.size : Int) == 0) = false := by rw [beq_eq_false_iff_ne]; omega
      have e17 : (17 : Int) < (s.size : Int) := by omega
      have HE := Lib.hid (numT_long false (t := s.data.toList) (by rw [HT.out]; exact h17))
      rw [← HM.out] at HE
      go_wp2_with fail
      refine bodyPost_ret (resNum _ _ _ _ rfl rfl) rfl ?_
      rw [HE.out]; exact ⟨rfl, rfl⟩
    have hpos : 0 < s.size := by omega
    have e0 : ((s.size : Int) == 0) = false := by rw [beq_eq_false_iff_ne]; omega
    have e17 : ¬ (17 : Int) < (s.size : Int) := by omega
    have e0p : (0 : Int) < (s.size : Int) := by omega
    have hhd : s.data.toList.head? = some s[0] := by rw [List.head?_eq_getElem?]; exact at_str hpos
    by_cases h48 : s[0] = 48 ∧ (1 < s.size ∨ false = true)
    · have e48 : ((s[0].toNat : Int) == 48) = true := by rw [h48.1]; rfl
      have HE := Lib.hid (numT_zero false (t := s.data.toList) (by rw [hhd, h48.1]) (by rw [HT.out]; exact h48.2))
      rw [← HM.out] at HE
      have e1 : (1 : Int) < (s.size : Int) := by have h := h48.2; simp at h; omega
      clear h48 hhd
      go_wp2_with fail
      refine bodyPost_ret (resNum _ _ _ _ rfl rfl) rfl ?_
      rw [HE.out]; exact ⟨rfl, rfl⟩
    have HG : Hid ((∀ c ∈ s.data.toList, isDig c) → numM s.data.toList = some ((valD s.data.toList : Int))) := fun hd => by
      rw [HM.out, numT_good false (by intro e; rw [e] at hhd; cases hhd) (by rw [HT.out]; exact h17) (by rw [hhd, HT.out]; rintro ⟨e1, e2⟩; exact h48 ⟨Option.some.inj e1, e2⟩) hd]; rfl
    have HB : Hid (∀ i c, s.data.toList[i]? = some c → ¬ isDig c → numM s.data.toList = none) := fun i c h1 h2 => by rw [HM.out]; exact numT_bad false h1 h2
    have HP : Hid (NumAt s.data.toList (.int .i64 0) (.int .i64 0)) := ⟨0, 0, Nat.zero_le _, rfl, rfl, by simp [valD], by decide, by simp⟩
    have hgo : (((s[0].toNat : Int) == 48) = false) ∨ (((s[0].toNat : Int) == 48) = true ∧ ¬ (1 : Int) < (s.size : Int)) := by
      by_cases e : s[0] = 48
      · exact .inr ⟨by rw [e]; rfl, fun e1 => h48 ⟨e, .inl (by omega)⟩⟩
      · exact .inl (by rw [beq_eq_false_iff_ne]; exact fun e2 => e (UInt8.toNat_inj.1 (Int.ofNat.inj e2)))
    clear h48 hhd h17
    rcases hgo with hgo | ⟨hgo, e1⟩
    ·
      go_wp2_with fail
      go_loop [5, 6] (fun vn vi => NumAt s.data.toList vn vi) (fun _ vi => s.size - (intOf vi).toNat)
      case atStart => exact HP.out
      case round =>
        clear HP
        obtain ⟨i, n, hin, rfl, rfl, hn, hlt10, hdg⟩ := hrel
        clear hgo e45
        rw [HT.out] at hin
        by_cases hlt : i < s.size
        · have hi1 : (i : Int) < (s.size : Int) := by omega
          have hat := at_str hlt
          have hp16 : 10 ^ i ≤ 10 ^ 16 := Nat.pow_le_pow_right (by decide) (by omega)
          have hn16 : (n : Int) < 10000000000000000 := by have := Nat.lt_of_lt_of_le hlt10 hp16; omega
          have HA := Lib.hid (And.intro hat (And.intro hn (And.intro hlt10 hdg)))
          have h256 : (s[i].toNat : Int) < 256 := by have := s[i].toNat_lt; omega
          have hge0 : (0 : Int) ≤ (s[i].toNat : Int) := by omega
          clear hat hp16 hlt10 hdg hn
          by_cases h1 : (s[i].toNat : Int) < 48
          · have HE := Lib.hid (HB.out i s[i] HA.out.1 (fun e => by have := e.1; omega))
            go_wp2_with fail
            refine bodyPost_ret (resNum _ _ _ _ rfl rfl) rfl ?_
            rw [HE.out]; exact ⟨rfl, rfl⟩
          · by_cases h2 : (57 : Int) < (s[i].toNat : Int)
            · have HE := Lib.hid (HB.out i s[i] HA.out.1 (fun e => by have := e.2; omega))
              go_wp2_with fail
              refine bodyPost_ret (resNum _ _ _ _ rfl rfl) rfl ?_
              rw [HE.out]; exact ⟨rfl, rfl⟩
            · have HN : Hid (NumAt s.data.toList (.int .i64 ((n : Int) * 10 + ((s[i].toNat : Int) - 48))) (.int .i64 ((i : Int) + 1))) := by
                obtain ⟨ha, hn, hl, hd⟩ := HA.out
                refine ⟨i + 1, n * 10 + (s[i].toNat - 48), by rw [HT.out]; omega, by go_num, congrArg (Value.int .i64) (by omega), by rw [valD_take ha, ← hn], by rw [Nat.pow_succ]; omega, ?_⟩
                rw [List.take_add_one, ha]
                intro c hc
                rcases List.mem_append.1 hc with hc | hc
                · exact hd c hc
                · simp at hc; subst hc; unfold isDig; omega
              go_wp2_with fail
              go_round
              case rel => exact HN.out
              case measure => simp [intOf]; omega
        · have hi1 : ¬ (i : Int) < (s.size : Int) := by omega
          have HE : Hid (numM s.data.toList = some ((n : Int))) := by
            rw [List.take_of_length_le (by rw [HT.out]; omega)] at hn hdg
            rw [hn]; exact HG.out hdg
          clear hn hdg hlt10
          go_wp2_with fail
          refine bodyPost_ret (resNum _ _ _ _ rfl rfl) rfl ?_
          rw [HE.out]; exact ⟨rfl, rfl⟩
    ·
      go_wp2_with fail
      go_loop [5, 6] (fun vn vi => NumAt s.data.toList vn vi) (fun _ vi => s.size - (intOf vi).toNat)
      case atStart => exact HP.out
      case round =>
        clear HP
        obtain ⟨i, n, hin, rfl, rfl, hn, hlt10, hdg⟩ := hrel
        clear hgo e45
        rw [HT.out] at hin
        by_cases hlt : i < s.size
        · have hi1 : (i : Int) < (s.size : Int) := by omega
          have hat := at_str hlt
          have hp16 : 10 ^ i ≤ 10 ^ 16 := Nat.pow_le_pow_right (by decide) (by omega)
          have hn16 : (n : Int) < 10000000000000000 := by have := Nat.lt_of_lt_of_le hlt10 hp16; omega
          have HA := Lib.hid (And.intro hat (And.intro hn (And.intro hlt10 hdg)))
          have h256 : (s[i].toNat : Int) < 256 := by have := s[i].toNat_lt; omega
          have hge0 : (0 : Int) ≤ (s[i].toNat : Int) := by omega
          clear hat hp16 hlt10 hdg hn
          by_cases h1 : (s[i].toNat : Int) < 48
          · have HE := Lib.hid (HB.out i s[i] HA.out.1 (fun e => by have := e.1; omega))
            go_wp2_with fail
            refine bodyPost_ret (resNum _ _ _ _ rfl rfl) rfl ?_
            rw [HE.out]; exact ⟨rfl, rfl⟩
          · by_cases h2 : (57 : Int) < (s[i].toNat : Int)
            · have HE := Lib.hid (HB.out i s[i] HA.out.1 (fun e => by have := e.2; omega))
              go_wp2_with fail
              refine bodyPost_ret (resNum _ _ _ _ rfl rfl) rfl ?_
              rw [HE.out]; exact ⟨rfl, rfl⟩
            · have HN : Hid (NumAt s.data.toList (.int .i64 ((n : Int) * 10 + ((s[i].toNat : Int) - 48))) (.int .i64 ((i : Int) + 1))) := by
                obtain ⟨ha, hn, hl, hd⟩ := HA.out
                refine ⟨i + 1, n * 10 + (s[i].toNat - 48), by rw [HT.out]; omega, by go_num, congrArg (Value.int .i64) (by omega), by rw [valD_take ha, ← hn], by rw [Nat.pow_succ]; omega, ?_⟩
                rw [List.take_add_one, ha]
                intro c hc
                rcases List.mem_append.1 hc with hc | hc
                · exact hd c hc
                · simp at hc; subst hc; unfold isDig; omega
              go_wp2_with fail
              go_round
              case rel => exact HN.out
              case measure => simp [intOf]; omega
        · have hi1 : ¬ (i : Int) < (s.size : Int) := by omega
          have HE : Hid (numM s.data.toList = some ((n : Int))) := by
            rw [List.take_of_length_le (by rw [HT.out]; omega)] at hn hdg
            rw [hn]; exact HG.out hdg
          clear hn hdg hlt10
          go_wp2_with fail
          refine bodyPost_ret (resNum _ _ _ _ rfl rfl) rfl ?_
          rw [HE.out]; exact ⟨rfl, rfl⟩

theorem num_any (s : ByteArray) (hs : s.size ≤ 1048576) (w : World) : Calls Tryd.prog 49 #[.string s] w (NumPost w (numM s.data.toList)) := by
  by_cases h : s.data.toList.head? = some 45
  · exact num_neg s hs h w
  · exact num_pos s hs h w

end Go.Proofs.YthgocacabadflaaDoor
