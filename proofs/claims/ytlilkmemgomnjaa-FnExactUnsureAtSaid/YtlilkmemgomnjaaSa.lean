/-
  Walks of the model's reader: l13Find, l1In, is, variable.
-/
import Derived.Test.YtlilkmemgomnjaaIcW
import Derived.Deep.LoopGhost
import Derived.Outline
import Derived.IntWalk
namespace Go.Proofs.Ytlilkmemgomnjaa
set_option linter.unusedVariables false
set_option linter.unusedSimpArgs false
open Go.RowKit

/-- The model's reader's block: its text, the next byte, whether it is bad, the scopes. -/
def Sd (w : World) (b : Nat) (s : ByteArray) (k : Nat) (bad : Bool) (d : Nat) : Prop :=
  Blk w b #[.string s, .int .i64 k, .bool bad, .int .i64 d] 94

section
variable {w : World} {b : Nat} {s : ByteArray} {k d : Nat} {bad : Bool}
theorem Sd.c0 (h : Sd w b s k bad d) : w.cell? ⟨b, 0, none⟩ = some (.string s) := Blk.cell h 0
theorem Sd.c1 (h : Sd w b s k bad d) : w.cell? ⟨b, 1, none⟩ = some (.int .i64 k) := Blk.cell h 1
theorem Sd.c1' (h : Sd w b s (k + 1) bad d) : w.cell? ⟨b, 1, none⟩ = some (.int .i64 ((k : Int) + 1)) := Blk.cell h 1
theorem Sd.c2 (h : Sd w b s k bad d) : w.cell? ⟨b, 2, none⟩ = some (.bool bad) := Blk.cell h 2
theorem Sd.c3 (h : Sd w b s k bad d) : w.cell? ⟨b, 3, none⟩ = some (.int .i64 d) := Blk.cell h 3
theorem Sd.c3' (h : Sd w b s k bad (d + 1)) : w.cell? ⟨b, 3, none⟩ = some (.int .i64 ((d : Int) + 1)) := Blk.cell h 3
theorem Sd.lt (h : Sd w b s k bad d) : b < w.heap.size := Blk.lt h
theorem Sd.alloc (h : Sd w b s k bad d) (o : Obj) : Sd (w.alloc o) b s k bad d := Blk.alloc h o
theorem Sd.drewN (h : Sd w b s k bad d) (n : Nat) : Sd (w.drewN n) b s k bad d := h
theorem Sd.keeps {may : Nat → Prop} {w' : World} (h : Sd w b s k bad d) (hk : Keeps may w w') (hm : ¬ may b) : Sd w' b s k bad d := hk.blk h hm
theorem Sd.set1 (h : Sd w b s k bad d) : Sd (w.setCell ⟨b, 1, none⟩ (.int .i64 ((k : Int) + 1))) b s (k + 1) bad d := Blk.set h 1 _
theorem Sd.set2 (h : Sd w b s k bad d) (bad' : Bool) : Sd (w.setCell ⟨b, 2, none⟩ (.bool bad')) b s k bad' d := Blk.set h 2 _
theorem Sd.set3 (h : Sd w b s k bad d) : Sd (w.setCell ⟨b, 3, none⟩ (.int .i64 ((d : Int) + 1))) b s k bad (d + 1) := Blk.set h 3 _
theorem Sd.set3' (h : Sd w b s k bad (d + 1)) : Sd (w.setCell ⟨b, 3, none⟩ (.int .i64 (d : Int))) b s k bad d := Blk.set h 3 _
end

/-- The model's reader has gone on: the answer is v. -/
def MovedS (b : Nat) (s : ByteArray) (k : Nat) (bad : Bool) (d : Nat) (w : World) (v : Value) (e : Ending) (w' : World) : Prop :=
  e = .returned v ∧ Sd w' b s k bad d ∧ Keeps (oneB b) w w'

theorem mem_at (a : ByteArray) (c : UInt8) : c ∈ a.data.toList ↔ ∃ j, at? a j = some c := by
  rw [List.mem_iff_getElem?]
  constructor
  · rintro ⟨j, hj⟩
    have hlt : j < a.size := by
      have := (List.getElem?_eq_some_iff.1 hj).1
      simpa using this
    refine ⟨j, ?_⟩
    rw [at?_some hlt]
    rw [List.getElem?_eq_getElem (by simpa using hlt)] at hj
    exact hj
  · rintro ⟨j, hj⟩
    have hlt := at?_lt hj
    refine ⟨j, ?_⟩
    rw [at?_some hlt] at hj
    rw [List.getElem?_eq_getElem (by simpa using hlt)]
    exact hj

theorem extract_one {s : ByteArray} {k : Nat} (h : k < s.size) : (s.extract k (k + 1)).data.toList = [s[k]] := by
  simp only [ByteArray.data_extract, Array.toList_extract, List.extract_eq_take_drop]
  rw [Nat.add_sub_cancel_left, List.take_one, List.head?_drop, List.getElem?_eq_getElem (by simpa using h)]
  rfl

/-- Where a byte is first, or -1. -/
def findI (a : ByteArray) (c : UInt8) : Int := match a.data.toList.findIdx? (· == c) with | some k => (k : Int) | none => -1

theorem findI_at {a : ByteArray} {c : UInt8} {k : Nat} (h : at? a k = some c) (hno : ∀ j, j < k → at? a j ≠ some c) : findI a c = k := by
  have hlt := at?_lt h
  have hk := at?_get h hlt
  have : a.data.toList.findIdx? (· == c) = some k := by
    rw [List.findIdx?_eq_some_iff_getElem]
    refine ⟨by simpa using hlt, by rw [beq_iff_eq]; exact hk, fun j hj => ?_⟩
    have := hno j hj
    rw [at?_some (by omega : j < a.size)] at this
    simp only [beq_iff_eq, Array.getElem_toList]
    exact fun e => this (congrArg some e)
  simp [findI, this]

theorem findI_none {a : ByteArray} {c : UInt8} (hno : ∀ j, j < a.size → at? a j ≠ some c) : findI a c = -1 := by
  have : a.data.toList.findIdx? (· == c) = none := by
    rw [List.findIdx?_eq_none_iff]
    intro x hx
    obtain ⟨j, hj⟩ := (mem_at a x).1 hx
    rw [beq_eq_false_iff_ne]
    rintro rfl
    exact hno j (at?_lt hj) hj
  simp [findI, this]

theorem findI_mem {a : ByteArray} {c : UInt8} (h : c ∈ a.data.toList) : 0 ≤ findI a c := by
  unfold findI
  split
  · omega
  · rename_i hn
    rw [List.findIdx?_eq_none_iff] at hn
    have := hn c h
    simp at this

theorem findI_not {a : ByteArray} {c : UInt8} (h : ¬ c ∈ a.data.toList) : findI a c = -1 :=
  findI_none fun j _ e => h ((mem_at a c).2 ⟨j, e⟩)

set_option maxRecDepth 100000 in
set_option maxHeartbeats 1000000 in
theorem find_any (a : ByteArray) (c : UInt8) (w : World) (ha : a.size ≤ 1048576) : Calls Try.prog 49 #[.string a, .int .u8 (c.toNat : Int)] w fun e w' => e = .returned (.int .i64 (findI a c)) ∧ w' = w := by
  obtain ⟨cv, hcv⟩ : ∃ cv : Int, (c.toNat : Int) = cv := ⟨_, rfl⟩
  obtain ⟨fi, hfi⟩ : ∃ fi : Int, findI a c = fi := ⟨_, rfl⟩
  rw [hcv, hfi]
  have HC := Lib.hid hcv
  have HF := Lib.hid hfi
  clear hcv hfi
  go_enter Try.func49, Try.ntmps49
  go_wp2_with fail
  go_loop [5] (fun i => ∃ k : Nat, k ≤ a.size ∧ i = .int .i64 k ∧ ∀ j, j < k → at? a j ≠ some c) (fun i => a.size - (intOf i).toNat)
  case atStart => exact ⟨0, Nat.zero_le _, rfl, fun j hj => by omega⟩
  case round =>
    obtain ⟨k, hk, rfl, hno⟩ := hrel
    have HN := Lib.hid hno
    clear hno
    by_cases hlt : k < a.size
    · by_cases hc : a[k] = c
      · have hcc : ((a[k].toNat : Int) == cv) = true := by rw [← HC.out, hc]; simp
        have HD : Hid ((k : Int) = fi) := by rw [← HF.out]; exact (findI_at (by rw [at?_some hlt, hc]) HN.out).symm
        clear hc
        go_wp2_with fail
        go_ret
        exact ⟨congrArg (fun n => Ending.returned (.int .i64 n)) HD.out, rfl⟩
      · have hcc : ((a[k].toNat : Int) == cv) = false := by
          rw [← HC.out, beq_eq_false_iff_ne]; exact fun e => hc (UInt8.toNat_inj.1 (Int.ofNat.inj e))
        have HD := Lib.hid hc
        clear hc
        go_wp2_with fail
        go_round
        case rel =>
          refine ⟨k + 1, by omega, by go_num, fun j hj => ?_⟩
          by_cases e : j = k
          · subst e; rw [at?_some hlt]; exact fun e => HD.out (Option.some.inj e)
          · exact HN.out j (by omega)
        case measure => simp [intOf]; omega
    · have HD : Hid ((-1 : Int) = fi) := by rw [← HF.out]; exact (findI_none (fun j hj => HN.out j (by omega))).symm
      go_wp2_with fail
      go_ret
      exact ⟨congrArg (fun n => Ending.returned (.int .i64 n)) HD.out, rfl⟩

set_option maxRecDepth 100000 in
set_option maxHeartbeats 1000000 in
theorem is_yes (b : Nat) (s : ByteArray) (k : Nat) (bad : Bool) (d : Nat) (c : UInt8) (w : World) (h : Sd w b s k bad d) (hs : s.size ≤ 80) (hc : at? s k = some c) :
    Calls Try.prog 80 #[.pointer (some ⟨b, 0, none⟩), .int .u8 (c.toNat : Int)] w (MovedS b s (k + 1) bad d w (.tuple #[])) := by
  have c0 := h.c0
  have c1 := h.c1
  have f1 := Blk.free h 1
  have hk := at?_lt hc
  have he := at?_get hc hk
  obtain ⟨cv, hcv⟩ : ∃ cv : Int, (c.toNat : Int) = cv := ⟨_, rfl⟩
  have hcc : ((s[k].toNat : Int) == cv) = true := by rw [he, ← hcv]; simp
  have hlt : decide (k < s.size) = true := by simpa using hk
  rw [hcv]
  clear hcv he hc
  go_enter Try.func80, Try.ntmps80
  go_wp2_with fail
  go_quiet (fail)
  go_wp2_with fail
  go_end0
  exact ⟨rfl, (h.drewN _).set1, ((Keeps.refl _ _).drewN _).one⟩

set_option maxRecDepth 100000 in
set_option maxHeartbeats 1000000 in
theorem is_no (b : Nat) (s : ByteArray) (k : Nat) (bad : Bool) (d : Nat) (c : UInt8) (w : World) (h : Sd w b s k bad d) (hs : s.size ≤ 80) (hk : k ≤ s.size) (hc : at? s k ≠ some c) :
    Calls Try.prog 80 #[.pointer (some ⟨b, 0, none⟩), .int .u8 (c.toNat : Int)] w (MovedS b s k true d w (.tuple #[])) := by
  have c0 := h.c0
  have c1 := h.c1
  have c2 := h.c2
  have f2 := Blk.free h 2
  rcases Nat.lt_or_ge k s.size with hlt | hge
  · obtain ⟨cv, hcv⟩ : ∃ cv : Int, (c.toNat : Int) = cv := ⟨_, rfl⟩
    have hcc : ((s[k].toNat : Int) == cv) = false := by
      rw [at?_some hlt] at hc
      rw [beq_eq_false_iff_ne, ← hcv]; exact fun e => hc (by rw [UInt8.toNat_inj.1 (Int.ofNat.inj e)])
    have hd : decide (k < s.size) = true := by simpa using hlt
    rw [hcv]
    clear hcv hc
    go_enter Try.func80, Try.ntmps80
    go_wp2_with fail
    go_quiet (fail)
    go_wp2_with fail
    go_end0
    exact ⟨rfl, (h.drewN _).set2 true, ((Keeps.refl _ _).drewN _).one⟩
  · have hd : decide (k < s.size) = false := by simpa using hge
    generalize (c.toNat : Int) = cv
    clear hc
    go_enter Try.func80, Try.ntmps80
    go_wp2_with fail
    go_quiet (fail)
    go_wp2_with fail
    go_end0
    exact ⟨rfl, (h.drewN _).set2 true, ((Keeps.refl _ _).drewN _).one⟩

set_option maxRecDepth 100000 in
set_option maxHeartbeats 1000000 in
theorem svar_some (b : Nat) (s : ByteArray) (k : Nat) (bad : Bool) (d : Nat) (ar : ByteArray) (w : World) (h : Sd w b s k bad d) (hs : s.size ≤ 80) (har : ar.size ≤ 80) (v : UInt8) (k1 : Nat) (hv : varP s ar.data.toList k = some (v, k1)) :
    Calls Try.prog 79 #[.pointer (some ⟨b, 0, none⟩), .string ar] w (MovedS b s k1 bad d w (str [v])) := by
  have c0 := h.c0
  have c1 := h.c1
  have f1 := Blk.free h 1
  obtain ⟨rfl, hk, hm⟩ := varP_some hv
  have hvv : s[k] = v := by
    unfold varP at hv
    rw [at?_some hk] at hv
    simp only at hv
    split at hv
    · simp only [Option.some.injEq, Prod.mk.injEq] at hv; exact hv.1
    · cases hv
  have hd : decide (s.size ≤ k) = false := by simpa using hk
  have HV := Lib.hid hvv
  have hf : 0 ≤ findI ar s[k] := findI_mem (by rw [hvv]; exact hm)
  have HM := Lib.hid hm
  clear hv hvv hm
  go_enter Try.func79, Try.ntmps79
  go_wp2_with fail
  go_quiet ((go_at_call 49; exact Calls.quiet_of_same (find_any ar s[k] _ (by omega))))
  go_wp2_with fail
  have hkz : (k : Int) ≤ 80 := by omega
  have h1 : IntKind.i64.wrap ((k : Int) + 1 - 1) = (k : Int) := by rw [show (k : Int) + 1 - 1 = (k : Int) from by omega]; exact IntWalk.i64_in _ (by omega)
  have h1' : IntKind.i64.wrap ((k : Int)) = (k : Int) := IntWalk.i64_in _ (by omega)
  have h2 : (k : Int) + 1 - 1 = (k : Int) := by omega
  have h3 : ((k : Int) + 1).toNat = k + 1 := by omega
  have h4 : (0 : Int) ≤ (k : Int) + 1 := by omega
  have h5 : (k : Int) + 1 ≤ (s.size : Int) := by omega
  have h6 : (k : Int) ≤ (k : Int) + 1 := by omega
  have h7 : (k : Int) < (s.size : Int) := by omega
  go_quiet (fail)
  go_wp2_with fail
  go_ret
  exact ⟨congrArg Ending.returned (str_of (by rw [extract_one hk, HV.out])), ((h.drewN _).set1).drewN _, (((Keeps.refl _ _).drewN _).one).drewN _⟩

set_option maxRecDepth 100000 in
set_option maxHeartbeats 2000000 in
theorem svar_none (b : Nat) (s : ByteArray) (k : Nat) (bad : Bool) (d : Nat) (ar : ByteArray) (w : World) (h : Sd w b s k bad d) (hs : s.size ≤ 80) (hk : k ≤ s.size) (har : ar.size ≤ 80) (hv : varP s ar.data.toList k = none) :
    Calls Try.prog 79 #[.pointer (some ⟨b, 0, none⟩), .string ar] w (MovedS b s k true d w (str [97])) := by
  have c0 := h.c0
  have c1 := h.c1
  have c2 := h.c2
  have f2 := Blk.free h 2
  rcases Nat.lt_or_ge k s.size with hlt | hge
  · have hm : ¬ s[k] ∈ ar.data.toList := by
      unfold varP at hv
      rw [at?_some hlt] at hv
      simp only at hv
      split at hv
      · cases hv
      · assumption
    have hd : decide (s.size ≤ k) = false := by simpa using hlt
    have hf : findI ar s[k] < 0 := by rw [findI_not hm]; omega
    clear hv hm
    go_enter Try.func79, Try.ntmps79
    go_wp2_with fail
    go_quiet ((go_at_call 49; exact Calls.quiet_of_same (find_any ar s[k] _ (by omega))))
    go_wp2_with fail
    go_ret
    exact ⟨rfl, (h.drewN _).set2 true, ((Keeps.refl _ _).drewN _).one⟩
  · have hd : decide (s.size ≤ k) = true := by simpa using hge
    clear hv
    go_enter Try.func79, Try.ntmps79
    go_wp2_with fail
    go_quiet (fail)
    go_wp2_with fail
    go_ret
    exact ⟨rfl, (h.drewN _).set2 true, ((Keeps.refl _ _).drewN _).one⟩

end Go.Proofs.Ytlilkmemgomnjaa
