/-
  Walks of the model's reader: l13Find, l1In, is, variable.
  Walks of the model's reader: step.
  Walks of the model's reader: step, where bodies are read: what is known of the list of bodies.
-/
import Derived.Test.YtkfcgamdlckncaaGreatIcW
import Derived.Deep.LoopGhost
import Derived.Outline
import Derived.IntWalk
import Derived.Test.YtkfcgamdlckncaaGreatPureW
import Derived.Test.YtkfcgamdlckncaaGreatMemW
import Derived.Deep.DeepCutAuto
import Derived.Deep.RegionLaw
namespace Go.Proofs.YtkfcgamdlckncaaGreat
set_option linter.unusedVariables false
set_option linter.unusedSimpArgs false
open Go.RowKit

/-- The model's reader's block: its text, the next byte, whether it is bad, the scopes. -/
def Sd (w : World) (b : Nat) (s : ByteArray) (k : Nat) (bad : Bool) (d : Nat) : Prop :=
  Blk w b #[.string s, .int .i64 k, .bool bad, .int .i64 d] 86

section
variable {w : World} {b : Nat} {s : ByteArray} {k d : Nat} {bad : Bool}
theorem Sd.c0 (h : Sd w b s k bad d) : w.cell? ⟨b, 0, none⟩ = some (.string s) := Blk.cell h 0
theorem Sd.c1 (h : Sd w b s k bad d) : w.cell? ⟨b, 1, none⟩ = some (.int .i64 k) := Blk.cell h 1
theorem Sd.c1' (h : Sd w b s (k + 1) bad d) : w.cell? ⟨b, 1, none⟩ = some (.int .i64 ((k : Int) + 1)) := Blk.cell h 1
theorem Sd.c2 (h : Sd w b s k bad d) : w.cell? ⟨b, 2, none⟩ = some (.bool bad) := Blk.cell h 2
theorem Sd.c3 (h : Sd w b s k bad d) : w.cell? ⟨b, 3, none⟩ = some (.int .i64 d) := Blk.cell h 3
theorem Sd.c3' (h : Sd w b s k bad (d + 1)) : w.cell? ⟨b, 3, none⟩ = some (.int .i64 ((d : Int) + 1)) := Blk.cell h 3
theorem Sd.lt (h : Sd w b s k bad d) : b < w.heap.size := Blk.lt h
theorem Sd.alloc (h : Sd w b s k bad d) (o : Obj) : Sd (w.alloc o) b s k bad d := Blk.alloc h o
theorem Sd.drewN (h : Sd w b s k bad d) (n : Nat) : Sd (w.drewN n) b s k bad d := h
theorem Sd.keeps {may : Nat → Prop} {w' : World} (h : Sd w b s k bad d) (hk : Keeps may w w') (hm : ¬ may b) : Sd w' b s k bad d := hk.blk h hm
theorem Sd.set1 (h : Sd w b s k bad d) : Sd (w.setCell ⟨b, 1, none⟩ (.int .i64 ((k : Int) + 1))) b s (k + 1) bad d := Blk.set h 1 _
theorem Sd.set2 (h : Sd w b s k bad d) (bad' : Bool) : Sd (w.setCell ⟨b, 2, none⟩ (.bool bad')) b s k bad' d := Blk.set h 2 _
theorem Sd.set3 (h : Sd w b s k bad d) : Sd (w.setCell ⟨b, 3, none⟩ (.int .i64 ((d : Int) + 1))) b s k bad (d + 1) := Blk.set h 3 _
theorem Sd.set3' (h : Sd w b s k bad (d + 1)) : Sd (w.setCell ⟨b, 3, none⟩ (.int .i64 (d : Int))) b s k bad d := Blk.set h 3 _
end

/-- The model's reader has gone on: the answer is v. -/
def MovedS (b : Nat) (s : ByteArray) (k : Nat) (bad : Bool) (d : Nat) (w : World) (v : Value) (e : Ending) (w' : World) : Prop :=
  e = .returned v ∧ Sd w' b s k bad d ∧ Keeps (oneB b) w w'

theorem mem_at (a : ByteArray) (c : UInt8) : c ∈ a.data.toList ↔ ∃ j, at? a j = some c := by
  rw [List.mem_iff_getElem?]
  constructor
  · rintro ⟨j, hj⟩
    have hlt : j < a.size := by
      have := (List.getElem?_eq_some_iff.1 hj).1
      simpa using this
    refine ⟨j, ?_⟩
    rw [at?_some hlt]
    rw [List.getElem?_eq_getElem (by simpa using hlt)] at hj
    exact hj
  · rintro ⟨j, hj⟩
    have hlt := at?_lt hj
    refine ⟨j, ?_⟩
    rw [at?_some hlt] at hj
    rw [List.getElem?_eq_getElem (by simpa using hlt)]
    exact hj

theorem extract_one {s : ByteArray} {k : Nat} (h : k < s.size) : (s.extract k (k + 1)).data.toList = [s[k]] := by
  simp only [ByteArray.data_extract, Array.toList_extract, List.extract_eq_take_drop]
  rw [Nat.add_sub_cancel_left, List.take_one, List.head?_drop, List.getElem?_eq_getElem (by simpa using h)]
  rfl

/-- Where a byte is first, or -1. -/
def findI (a : ByteArray) (c : UInt8) : Int := match a.data.toList.findIdx? (· == c) with | some k => (k : Int) | none => -1

theorem findI_at {a : ByteArray} {c : UInt8} {k : Nat} (h : at? a k = some c) (hno : ∀ j, j < k → at? a j ≠ some c) : findI a c = k := by
  have hlt := at?_lt h
  have hk := at?_get h hlt
  have : a.data.toList.findIdx? (· == c) = some k := by
    rw [List.findIdx?_eq_some_iff_getElem]
    refine ⟨by simpa using hlt, by rw [beq_iff_eq]; exact hk, fun j hj => ?_⟩
    have := hno j hj
    rw [at?_some (by omega : j < a.size)] at this
    simp only [beq_iff_eq, Array.getElem_toList]
    exact fun e => this (congrArg some e)
  simp [findI, this]

theorem findI_none {a : ByteArray} {c : UInt8} (hno : ∀ j, j < a.size → at? a j ≠ some c) : findI a c = -1 := by
  have : a.data.toList.findIdx? (· == c) = none := by
    rw [List.findIdx?_eq_none_iff]
    intro x hx
    obtain ⟨j, hj⟩ := (mem_at a x).1 hx
    rw [beq_eq_false_iff_ne]
    rintro rfl
    exact hno j (at?_lt hj) hj
  simp [findI, this]

theorem findI_mem {a : ByteArray} {c : UInt8} (h : c ∈ a.data.toList) : 0 ≤ findI a c := by
  unfold findI
  split
  · omega
  · rename_i hn
    rw [List.findIdx?_eq_none_iff] at hn
    have := hn c h
    simp at this

theorem findI_not {a : ByteArray} {c : UInt8} (h : ¬ c ∈ a.data.toList) : findI a c = -1 :=
  findI_none fun j _ e => h ((mem_at a c).2 ⟨j, e⟩)

set_option maxRecDepth 100000 in
set_option maxHeartbeats 1000000 in
theorem find_any (a : ByteArray) (c : UInt8) (w : World) (ha : a.size ≤ 1048576) : Calls Tryz.prog 40 #[.string a, .int .u8 (c.toNat : Int)] w fun e w' => e = .returned (.int .i64 (findI a c)) ∧ w' = w := by
  obtain ⟨cv, hcv⟩ : ∃ cv : Int, (c.toNat : Int) = cv := ⟨_, rfl⟩
  obtain ⟨fi, hfi⟩ : ∃ fi : Int, findI a c = fi := ⟨_, rfl⟩
  rw [hcv, hfi]
  have HC := Lib.hid hcv
  have HF := Lib.hid hfi
  clear hcv hfi
  go_enter Tryz.func40, Tryz.ntmps40
  go_wp2_with fail
  go_loop [5] (fun i => ∃ k : Nat, k ≤ a.size ∧ i = .int .i64 k ∧ ∀ j, j < k → at? a j ≠ some c) (fun i => a.size - (intOf i).toNat)
  case atStart => exact ⟨0, Nat.zero_le _, rfl, fun j hj => by omega⟩
  case round =>
    obtain ⟨k, hk, rfl, hno⟩ := hrel
    have HN := Lib.hid hno
    clear hno
    by_cases hlt : k < a.size
    · by_cases hc : a[k] = c
      · have hcc : ((a[k].toNat : Int) == cv) = true := by rw [← HC.out, hc]; simp
        have HD : Hid ((k : Int) = fi) := by rw [← HF.out]; exact (findI_at (by rw [at?_some hlt, hc]) HN.out).symm
        clear hc
        go_wp2_with fail
        go_ret
        exact ⟨congrArg (fun n => Ending.returned (.int .i64 n)) HD.out, rfl⟩
      · have hcc : ((a[k].toNat : Int) == cv) = false := by
          rw [← HC.out, beq_eq_false_iff_ne]; exact fun e => hc (UInt8.toNat_inj.1 (Int.ofNat.inj e))
        have HD := Lib.hid hc
        clear hc
        go_wp2_with fail
        go_round
        case rel =>
          refine ⟨k + 1, by omega, by go_num, fun j hj => ?_⟩
          by_cases e : j = k
          · subst e; rw [at?_some hlt]; exact fun e => HD.out (Option.some.inj e)
          · exact HN.out j (by omega)
        case measure => simp [intOf]; omega
    · have HD : Hid ((-1 : Int) = fi) := by rw [← HF.out]; exact (findI_none (fun j hj => HN.out j (by omega))).symm
      go_wp2_with fail
      go_ret
      exact ⟨congrArg (fun n => Ending.returned (.int .i64 n)) HD.out, rfl⟩

set_option maxRecDepth 100000 in
set_option maxHeartbeats 1000000 in
theorem is_yes (b : Nat) (s : ByteArray) (k : Nat) (bad : Bool) (d : Nat) (c : UInt8) (w : World) (h : Sd w b s k bad d) (hs : s.size ≤ 80) (hc : at? s k = some c) :
    Calls Tryz.prog 57 #[.pointer (some ⟨b, 0, none⟩), .int .u8 (c.toNat : Int)] w (MovedS b s (k + 1) bad d w (.tuple #[])) := by
  have c0 := h.c0
  have c1 := h.c1
  have f1 := Blk.free h 1
  have hk := at?_lt hc
  have he := at?_get hc hk
  obtain ⟨cv, hcv⟩ : ∃ cv : Int, (c.toNat : Int) = cv := ⟨_, rfl⟩
  have hcc : ((s[k].toNat : Int) == cv) = true := by rw [he, ← hcv]; simp
  have hlt : decide (k < s.size) = true := by simpa using hk
  rw [hcv]
  clear hcv he hc
  go_enter Tryz.func57, Tryz.ntmps57
  go_wp2_with fail
  go_quiet (fail)
  go_wp2_with fail
  go_end0
  exact ⟨rfl, (h.drewN _).set1, ((Keeps.refl _ _).drewN _).one⟩

set_option maxRecDepth 100000 in
set_option maxHeartbeats 1000000 in
theorem is_no (b : Nat) (s : ByteArray) (k : Nat) (bad : Bool) (d : Nat) (c : UInt8) (w : World) (h : Sd w b s k bad d) (hs : s.size ≤ 80) (hk : k ≤ s.size) (hc : at? s k ≠ some c) :
    Calls Tryz.prog 57 #[.pointer (some ⟨b, 0, none⟩), .int .u8 (c.toNat : Int)] w (MovedS b s k true d w (.tuple #[])) := by
  have c0 := h.c0
  have c1 := h.c1
  have c2 := h.c2
  have f2 := Blk.free h 2
  rcases Nat.lt_or_ge k s.size with hlt | hge
  · obtain ⟨cv, hcv⟩ : ∃ cv : Int, (c.toNat : Int) = cv := ⟨_, rfl⟩
    have hcc : ((s[k].toNat : Int) == cv) = false := by
      rw [at?_some hlt] at hc
      rw [beq_eq_false_iff_ne, ← hcv]; exact fun e => hc (by rw [UInt8.toNat_inj.1 (Int.ofNat.inj e)])
    have hd : decide (k < s.size) = true := by simpa using hlt
    rw [hcv]
    clear hcv hc
    go_enter Tryz.func57, Tryz.ntmps57
    go_wp2_with fail
    go_quiet (fail)
    go_wp2_with fail
    go_end0
    exact ⟨rfl, (h.drewN _).set2 true, ((Keeps.refl _ _).drewN _).one⟩
  · have hd : decide (k < s.size) = false := by simpa using hge
    generalize (c.toNat : Int) = cv
    clear hc
    go_enter Tryz.func57, Tryz.ntmps57
    go_wp2_with fail
    go_quiet (fail)
    go_wp2_with fail
    go_end0
    exact ⟨rfl, (h.drewN _).set2 true, ((Keeps.refl _ _).drewN _).one⟩

set_option maxRecDepth 100000 in
set_option maxHeartbeats 1000000 in
theorem svar_some (b : Nat) (s : ByteArray) (k : Nat) (bad : Bool) (d : Nat) (ar : ByteArray) (w : World) (h : Sd w b s k bad d) (hs : s.size ≤ 80) (har : ar.size ≤ 80) (v : UInt8) (k1 : Nat) (hv : varP s ar.data.toList k = some (v, k1)) :
    Calls Tryz.prog 56 #[.pointer (some ⟨b, 0, none⟩), .string ar] w (MovedS b s k1 bad d w (str [v])) := by
  have c0 := h.c0
  have c1 := h.c1
  have f1 := Blk.free h 1
  obtain ⟨rfl, hk, hm⟩ := varP_some hv
  have hvv : s[k] = v := by
    unfold varP at hv
    rw [at?_some hk] at hv
    simp only at hv
    split at hv
    · simp only [Option.some.injEq, Prod.mk.injEq] at hv; exact hv.1
    · cases hv
  have hd : decide (s.size ≤ k) = false := by simpa using hk
  have HV := Lib.hid hvv
  have hf : 0 ≤ findI ar s[k] := findI_mem (by rw [hvv]; exact hm)
  have HM := Lib.hid hm
  clear hv hvv hm
  go_enter Tryz.func56, Tryz.ntmps56
  go_wp2_with fail
  go_quiet ((go_at_call 40; exact Calls.quiet_of_same (find_any ar s[k] _ (by omega))))
  go_wp2_with fail
  have hkz : (k : Int) ≤ 80 := by omega
  have h1 : IntKind.i64.wrap ((k : Int) + 1 - 1) = (k : Int) := by rw [show (k : Int) + 1 - 1 = (k : Int) from by omega]; exact IntWalk.i64_in _ (by omega)
  have h1' : IntKind.i64.wrap ((k : Int)) = (k : Int) := IntWalk.i64_in _ (by omega)
  have h2 : (k : Int) + 1 - 1 = (k : Int) := by omega
  have h3 : ((k : Int) + 1).toNat = k + 1 := by omega
  have h4 : (0 : Int) ≤ (k : Int) + 1 := by omega
  have h5 : (k : Int) + 1 ≤ (s.size : Int) := by omega
  have h6 : (k : Int) ≤ (k : Int) + 1 := by omega
  have h7 : (k : Int) < (s.size : Int) := by omega
  go_quiet (fail)
  go_wp2_with fail
  go_ret
  exact ⟨congrArg Ending.returned (str_of (by rw [extract_one hk, HV.out])), ((h.drewN _).set1).drewN _, (((Keeps.refl _ _).drewN _).one).drewN _⟩

set_option maxRecDepth 100000 in
set_option maxHeartbeats 2000000 in
theorem svar_none (b : Nat) (s : ByteArray) (k : Nat) (bad : Bool) (d : Nat) (ar : ByteArray) (w : World) (h : Sd w b s k bad d) (hs : s.size ≤ 80) (hk : k ≤ s.size) (har : ar.size ≤ 80) (hv : varP s ar.data.toList k = none) :
    Calls Tryz.prog 56 #[.pointer (some ⟨b, 0, none⟩), .string ar] w (MovedS b s k true d w (str [97])) := by
  have c0 := h.c0
  have c1 := h.c1
  have c2 := h.c2
  have f2 := Blk.free h 2
  rcases Nat.lt_or_ge k s.size with hlt | hge
  · have hm : ¬ s[k] ∈ ar.data.toList := by
      unfold varP at hv
      rw [at?_some hlt] at hv
      simp only at hv
      split at hv
      · cases hv
      · assumption
    have hd : decide (s.size ≤ k) = false := by simpa using hlt
    have hf : findI ar s[k] < 0 := by rw [findI_not hm]; omega
    clear hv hm
    go_enter Tryz.func56, Tryz.ntmps56
    go_wp2_with fail
    go_quiet ((go_at_call 40; exact Calls.quiet_of_same (find_any ar s[k] _ (by omega))))
    go_wp2_with fail
    go_ret
    exact ⟨rfl, (h.drewN _).set2 true, ((Keeps.refl _ _).drewN _).one⟩
  · have hd : decide (s.size ≤ k) = true := by simpa using hge
    clear hv
    go_enter Tryz.func56, Tryz.ntmps56
    go_wp2_with fail
    go_quiet (fail)
    go_wp2_with fail
    go_ret
    exact ⟨rfl, (h.drewN _).set2 true, ((Keeps.refl _ _).drewN _).one⟩

end Go.Proofs.YtkfcgamdlckncaaGreat

namespace Go.Proofs.YtkfcgamdlckncaaGreat
set_option linter.unusedVariables false
set_option linter.unusedSimpArgs false
open Go.RowKit

/-- A node's six cells. -/
def six (c k e : Int) (vs : ByteArray) (vb : Value) (ar : ByteArray) : Array Value := #[.int .u8 c, .int .i64 k, .int .i64 e, .string vs, vb, .string ar]

/-- What 'step' holds: the reader at b, its result's block N, its node's block g; 'w': the world in which the call began. -/
structure NS (b N g : Nat) (w : World) (s : ByteArray) (k : Nat) (bad : Bool) (d : Nat) (c k0 e0 : Int) (vs : ByteArray) (vb : Value) (ar : ByteArray) (wc : World) : Prop where
  rd : Sd wc b s k bad d
  res : Blk wc N (six 0 0 0 ⟨#[]⟩ (.slice none 0 0) ⟨#[]⟩) 52
  nod : Blk wc g (six c k0 e0 vs vb ar) 52
  keeps : Keeps (oneB b) w wc
  hb : b < w.heap.size
  hN : w.heap.size ≤ N
  hg : w.heap.size ≤ g
  hne : N ≠ g

section
variable {b N g : Nat} {w wc : World} {s : ByteArray} {k d : Nat} {bad : Bool} {c k0 e0 : Int} {vs : ByteArray} {vb : Value} {ar : ByteArray}

theorem NS.tick (h : NS b N g w s k bad d c k0 e0 vs vb ar wc) : NS b N g w s (k + 1) bad d c k0 e0 vs vb ar (wc.setCell ⟨b, 1, none⟩ (.int .i64 ((k : Int) + 1))) :=
  have hN := h.hN
  have hg := h.hg
  have hb := h.hb
  ⟨h.rd.set1, h.res.setOther (by simp; omega) _, h.nod.setOther (by simp; omega) _, h.keeps.one, hb, hN, hg, h.hne⟩
theorem NS.badly (h : NS b N g w s k bad d c k0 e0 vs vb ar wc) (bad' : Bool) : NS b N g w s k bad' d c k0 e0 vs vb ar (wc.setCell ⟨b, 2, none⟩ (.bool bad')) :=
  have hN := h.hN
  have hg := h.hg
  have hb := h.hb
  ⟨h.rd.set2 _, h.res.setOther (by simp; omega) _, h.nod.setOther (by simp; omega) _, h.keeps.one, hb, hN, hg, h.hne⟩
theorem NS.deeper (h : NS b N g w s k bad d c k0 e0 vs vb ar wc) : NS b N g w s k bad (d + 1) c k0 e0 vs vb ar (wc.setCell ⟨b, 3, none⟩ (.int .i64 ((d : Int) + 1))) :=
  have hN := h.hN
  have hg := h.hg
  have hb := h.hb
  ⟨h.rd.set3, h.res.setOther (by simp; omega) _, h.nod.setOther (by simp; omega) _, h.keeps.one, hb, hN, hg, h.hne⟩
theorem NS.back (h : NS b N g w s k bad (d + 1) c k0 e0 vs vb ar wc) : NS b N g w s k bad d c k0 e0 vs vb ar (wc.setCell ⟨b, 3, none⟩ (.int .i64 (d : Int))) :=
  have hN := h.hN
  have hg := h.hg
  have hb := h.hb
  ⟨h.rd.set3', h.res.setOther (by simp; omega) _, h.nod.setOther (by simp; omega) _, h.keeps.one, hb, hN, hg, h.hne⟩
theorem NS.moved (h : NS b N g w s k bad d c k0 e0 vs vb ar wc) {w2 : World} {k' : Nat} {bad' : Bool} (r : Sd w2 b s k' bad' d) (q : Keeps (oneB b) wc w2) : NS b N g w s k' bad' d c k0 e0 vs vb ar w2 :=
  have hN := h.hN
  have hg := h.hg
  have hb := h.hb
  ⟨r, q.blk h.res (by simp [oneB]; omega), q.blk h.nod (by simp [oneB]; omega), h.keeps.trans q, hb, hN, hg, h.hne⟩
theorem NS.node (h : NS b N g w s k bad d c k0 e0 vs vb ar wc) (i : Nat) (u : Value) {c' k0' e0' : Int} {vs' : ByteArray} {vb' : Value} {ar' : ByteArray} (e : (six c k0 e0 vs vb ar).setIfInBounds i u = six c' k0' e0' vs' vb' ar') :
    NS b N g w s k bad d c' k0' e0' vs' vb' ar' (wc.setCell ⟨g, i, none⟩ u) :=
  have hN := h.hN
  have hg := h.hg
  have hb := h.hb
  have hne := h.hne
  ⟨h.rd.setOther (a := ⟨g, i, none⟩) (by simp; omega) _, h.res.setOther (by simp; omega) _, e ▸ h.nod.set i u, h.keeps.setCell (.inr hg) _, hb, hN, hg, hne⟩
theorem NS.vars (h : NS b N g w s k bad d c k0 e0 vs vb ar wc) (vs' : ByteArray) : NS b N g w s k bad d c k0 e0 vs' vb ar (wc.setCell ⟨g, 3, none⟩ (.string vs')) := h.node 3 _ rfl
theorem NS.fin (h : NS b N g w s k bad d c k0 e0 vs vb ar wc) (e : Int) : NS b N g w s k bad d c k0 e vs vb ar (wc.setCell ⟨g, 2, none⟩ (.int .i64 e)) := h.node 2 _ rfl
theorem NS.bodies (h : NS b N g w s k bad d c k0 e0 vs vb ar wc) (v : Value) : NS b N g w s k bad d c k0 e0 vs v ar (wc.setCell ⟨g, 4, none⟩ v) := h.node 4 _ rfl
theorem NS.drewN (h : NS b N g w s k bad d c k0 e0 vs vb ar wc) (n : Nat) : NS b N g w s k bad d c k0 e0 vs vb ar (wc.drewN n) := ⟨h.rd, h.res, h.nod, h.keeps.drewN n, h.hb, h.hN, h.hg, h.hne⟩
end

/-- What the first statement leaves: the node's address; the empty list of bodies. -/
def Cut1 (b : Nat) (w : World) (s : ByteArray) (k d : Nat) (c : Int) (ar : ByteArray) (v5 : Value) (wc : World) : Prop :=
  ∃ g vb, v5 = .pointer (some ⟨g, 0, none⟩) ∧ NS b w.heap.size g w s k false d c k 0 ⟨#[]⟩ vb ar wc ∧ wc.ownsRow 0 57 1 vb 0 [] ∧ ∀ i, vb.ownBlock = some i → w.heap.size ≤ i ∧ i ≠ g ∧ i ≠ w.heap.size

theorem cut1_a (b : Nat) (s : ByteArray) (k d : Nat) (c : Int) (ar : ByteArray) (w : World) (h : Sd w b s k false d) :
    Cut1 b w s k d c ar (.pointer (some ⟨w.heap.size + 1 + 1, 0, none⟩))
      (((w.alloc (.cells (six 0 0 0 ⟨#[]⟩ (.slice none 0 0) ⟨#[]⟩) 52)).alloc (.cells #[] 57)).alloc (.cells (six c k 0 ⟨#[]⟩ (.slice (some ⟨w.heap.size + 1, 0, none⟩) 0 0) ar) 52)).drew := by
  have hb := h.lt
  refine ⟨w.heap.size + 1 + 1, _, rfl, ⟨((h.alloc _).alloc _).alloc _, ((Blk.new w _ _).alloc _).alloc _, blk_new (by simp) _ _, ((((Keeps.refl _ w).alloc _).alloc _).alloc _).drewN 1, hb, Nat.le_refl _, by omega, by omega⟩, ?_, ?_⟩
  · have := ((World.ownsRow_made (e := 57) (size := 1) (base := 0) (w.alloc (.cells (six 0 0 0 ⟨#[]⟩ (.slice none 0 0) ⟨#[]⟩) 52)) #[] 0 (Nat.zero_le _) (by simp [maxLen]) rfl).alloc (.cells (six c k 0 ⟨#[]⟩ (.slice (some ⟨w.heap.size + 1, 0, none⟩) 0 0) ar) 52)).drew
    rw [World.size_alloc] at this
    exact this
  · intro i hi
    simp [Value.ownBlock] at hi
    subst hi
    omega

theorem cut1_b (b : Nat) (s : ByteArray) (k d : Nat) (c : Int) (ar : ByteArray) (w : World) (h : Sd w b s k false d) :
    Cut1 b w s k d c ar (.pointer (some ⟨w.heap.size + 1, 0, none⟩))
      (((w.alloc (.cells (six 0 0 0 ⟨#[]⟩ (.slice none 0 0) ⟨#[]⟩) 52)).alloc (.cells (six c k 0 ⟨#[]⟩ (.slice (some ⟨w.heap.size + 1 + 1, 0, none⟩) 0 0) ar) 52)).alloc (.cells #[] 57)).drew := by
  have hb := h.lt
  refine ⟨w.heap.size + 1, _, rfl, ⟨((h.alloc _).alloc _).alloc _, ((Blk.new w _ _).alloc _).alloc _, (blk_new (by simp) _ _).alloc _, ((((Keeps.refl _ w).alloc _).alloc _).alloc _).drewN 1, hb, Nat.le_refl _, by omega, by omega⟩, ?_, ?_⟩
  · have := (World.ownsRow_made (e := 57) (size := 1) (base := 0) ((w.alloc (.cells (six 0 0 0 ⟨#[]⟩ (.slice none 0 0) ⟨#[]⟩) 52)).alloc (.cells (six c k 0 ⟨#[]⟩ (.slice (some ⟨w.heap.size + 1 + 1, 0, none⟩) 0 0) ar) 52)) #[] 0 (Nat.zero_le _) (by simp [maxLen]) rfl).drew
    simp only [World.size_alloc] at this
    exact this
  · intro i hi
    simp [Value.ownBlock] at hi
    subst hi
    omega

/-- The world behind 'return n': the node's cells in the result's block. -/
def retW (W : World) (N : Nat) (c k0 e0 : Int) (vs : ByteArray) (vb : Value) (ar : ByteArray) : World :=
  (((((W.setCell ⟨N, 0, none⟩ (.int .u8 c)).setCell ⟨N, 1, none⟩ (.int .i64 k0)).setCell ⟨N, 2, none⟩ (.int .i64 e0)).setCell ⟨N, 3, none⟩ (.string vs)).setCell ⟨N, 4, none⟩ vb).setCell ⟨N, 5, none⟩ (.string ar)

theorem NS.done {b N g : Nat} {w wc : World} {s : ByteArray} {k d : Nat} {bad : Bool} {c k0 e0 : Int} {vs : ByteArray} {vb : Value} {ar : ByteArray} (h : NS b N g w s k bad d c k0 e0 vs vb ar wc) :
    Blk (retW wc N c k0 e0 vs vb ar) N (six c k0 e0 vs vb ar) 52 ∧ Sd (retW wc N c k0 e0 vs vb ar) b s k bad d ∧ Keeps (oneB b) w (retW wc N c k0 e0 vs vb ar) ∧ Keeps (oneB N) wc (retW wc N c k0 e0 vs vb ar) := by
  have hN := h.hN
  have hb := h.hb
  refine ⟨(((((h.res.set 0 _).set 1 _).set 2 _).set 3 _).set 4 _).set 5 _, ?_, ?_, (((((((Keeps.refl _ wc).one).one).one).one).one).one)⟩
  · exact (((((h.rd.setOther (a := ⟨N, 0, none⟩) (by simp; omega) _).setOther (a := ⟨N, 1, none⟩) (by simp; omega) _).setOther (a := ⟨N, 2, none⟩) (by simp; omega) _).setOther (a := ⟨N, 3, none⟩) (by simp; omega) _).setOther (a := ⟨N, 4, none⟩) (by simp; omega) _).setOther (a := ⟨N, 5, none⟩) (by simp; omega) _
  · exact (((((h.keeps.setCell (p := ⟨N, 0, none⟩) (.inr hN) _).setCell (p := ⟨N, 1, none⟩) (.inr hN) _).setCell (p := ⟨N, 2, none⟩) (.inr hN) _).setCell (p := ⟨N, 3, none⟩) (.inr hN) _).setCell (p := ⟨N, 4, none⟩) (.inr hN) _).setCell (p := ⟨N, 5, none⟩) (.inr hN) _

/-- A node's value. -/
def nodeV (c k e : Int) (vs : ByteArray) (a : Option Addr) (n m : Nat) (ar : ByteArray) : Value := .agg #[.int .u8 c, .int .i64 k, .int .i64 e, .string vs, .slice a n m, .string ar]

def BadStep (b : Nat) (s : ByteArray) (d : Nat) (w : World) (e : Ending) (w' : World) : Prop :=
  ∃ k c k0 e0 vs a n m ar, MovedS b s k true d w (nodeV c k0 e0 vs a n m ar) e w' ∧ k ≤ s.size

def GoodStep (b : Nat) (s : ByteArray) (d : Nat) (w : World) (x : Nd) (k : Nat) (e : Ending) (w' : World) : Prop :=
  ∃ c k0 e0 vs a n m ar, MovedS b s k false d w (nodeV c k0 e0 vs a n m ar) e w' ∧ RepS w' (fromB w.heap.size) x (six c k0 e0 vs (.slice a n m) ar).toList

def StepPostS (b : Nat) (s : ByteArray) (d : Nat) (w : World) (res : Option (Nd × Nat)) (e : Ending) (w' : World) : Prop :=
  match res with
  | none => BadStep b s d w e w'
  | some (x, k) => GoodStep b s d w x k e w'

/-- The blocks that a step of the model's writes: the reader, its node, its result. -/
def may3 (b g N : Nat) : Nat → Prop := fun i => i = b ∨ i = g ∨ i = N
theorem Keeps.ofOne {b g N : Nat} {a w : World} (h : Keeps (oneB b) a w) : Keeps (may3 b g N) a w := h.mono (fun _ e => .inl e)
theorem Keeps.atB {b g N : Nat} {a w : World} (h : Keeps (may3 b g N) a w) {i : Nat} {u : Value} : Keeps (may3 b g N) a (w.setCell ⟨b, i, none⟩ u) := h.setCell (p := ⟨b, i, none⟩) (.inl (.inl rfl)) u
theorem Keeps.atG {b g N : Nat} {a w : World} (h : Keeps (may3 b g N) a w) {i : Nat} {u : Value} : Keeps (may3 b g N) a (w.setCell ⟨g, i, none⟩ u) := h.setCell (p := ⟨g, i, none⟩) (.inl (.inr (.inl rfl))) u
theorem Keeps.atN {b g N : Nat} {a w : World} (h : Keeps (may3 b g N) a w) {i : Nat} {u : Value} : Keeps (may3 b g N) a (w.setCell ⟨N, i, none⟩ u) := h.setCell (p := ⟨N, i, none⟩) (.inl (.inr (.inr rfl))) u
theorem Keeps.ret {b g N : Nat} {a w : World} (h : Keeps (may3 b g N) a w) {c k0 e0 : Int} {vs : ByteArray} {vb : Value} {ar : ByteArray} : Keeps (may3 b g N) a (retW w N c k0 e0 vs vb ar) := (((((h.atN).atN).atN).atN).atN).atN

/-- A row of the call's own stays, whatever of these three is written. -/
theorem row_may3 {b g N B : Nat} {a w : World} (q : Keeps (may3 b g N) a w) {e : TypeId} {size : Nat} {v : Value} {n : Nat} {xs : List Value} (ho : a.ownsRow 0 e size v n xs)
    (hf : ∀ i, v.ownBlock = some i → B ≤ i ∧ i ≠ g ∧ i ≠ N) (hb : b < B) : Row w (fromB B) e size v n xs :=
  ⟨q.ownsRow ho (fun i hi _ e => by have := hf i hi; rcases e with e | e | e <;> omega), fun i hi => (hf i hi).1⟩

theorem res57 (W : World) (N : Nat) (c k e : Int) (vs : ByteArray) (a : Option Addr) (n m : Nat) (ar : ByteArray) (tmps : Array Value) (ht : tmps.getD 4 undef = .pointer (some ⟨N, 0, none⟩))
    (hb : Blk W N (six c k e vs (.slice a n m) ar) 52) : (results Tryz.f38 tmps).run Tryz.prog W = .ok (nodeV c k e vs a n m ar) W := by
  have q0 := hb.cell 0
  have q1 := hb.cell 1
  have q2 := hb.cell 2
  have q3 := hb.cell 3
  have q4 := hb.cell 4
  have q5 := hb.cell 5
  simp [six] at q0 q1 q2 q3 q4 q5
  have ht' : tmps[4]?.getD undef = .pointer (some ⟨N, 0, none⟩) := by simpa using ht
  simp [results, Tryz.results38, go_sem, ht', q0, q1, q2, q3, q4, q5, nodeV]

end Go.Proofs.YtkfcgamdlckncaaGreat

namespace Go.Proofs.YtkfcgamdlckncaaGreat
set_option linter.unusedVariables false
set_option linter.unusedSimpArgs false
open Go.RowKit

theorem Tryz.info57 : (Tryz.prog.info? 57).map (fun i => (i.zero, i.size, i.bytes)) = some (some (.slice none 0 0), 1, 24) := by kernel_rfl

/-- append as one step of a region that draws. -/
theorem step_append_fresh {P : Program} {ops : Array Oper} {o : Oper} {a : Act} {w : World} {K : Act → World → Prop} {Q : Exit → Act → World → Prop} {E : Prop}
    (hgd : o.guard = none) (s x : Operand) (t : TypeId) (ho : o.op = .call { callee := .builtin .append, args := #[s, x], argTypes := #[t, t] })
    (e : TypeId) (i : TypeInfo) (z : Value) (size bytes : Nat) (ht : P.underlying t = some (.slice e)) (hi : P.info? e = some i) (hz : i.zero = some z)
    (hsize : i.size = size) (hby : i.bytes = bytes) (hzs : z.cells.size = size) (hsz : 0 < size)
    (v : Value) (n : Nat) (xs : List Value) (hs : a.eval s = v) (hown : w.ownsRow 0 e size v n xs)
    (ad : Addr) (m c : Nat) (news : List Value) (hx : a.eval x = .slice (some ad) m c) (hl : news.length = m * size) (hnews : ∀ j u, news[j]? = some u → w.cell? (ad.add j) = some u) (h1 : ∀ u ∈ news, u.oneCell' = true)
    (h63 : n + m ≤ maxLen) (hbytes : (n + m) * bytes ≤ 140737488355328)
    (h : ∀ v' w', w'.ownsRow 0 e size v' (n + m) (xs ++ news) → w.grownBy w' v.ownBlock → Fresh w v v' → K (a.put o.dst v') w') :
    if Region.wanted o (yielded ops a.tmps) = true then Oper.wp P o a w K Q else E := by
  have hw : Region.wanted o (yielded ops a.tmps) = true := by simp [Region.wanted, hgd]
  rw [if_pos hw]
  obtain ⟨v', w', hr, h2, h3, h4⟩ := run_append_fresh (P := P) w t o.type e i z size bytes ht hi hz hsize hby hzs hsz v n xs hown ad m c news hl hnews h1 h63 hbytes
  unfold Oper.wp execOp
  simp only [ho, resolve, invoke, builtin, Sem.run_bind, Sem.run_pure, Result.andThen_ok, List.map_toArray, List.map_cons, List.map_nil, hs, hx, hr]
  exact h v' w' h2 h3 h4

theorem cells_one (w : World) (v : Value) (t : TypeId) : ∀ j u, [v][j]? = some u → (w.alloc (.cells #[v] t)).cell? ((⟨w.heap.size, 0, none⟩ : Addr).add j) = some u := by
  intro j u hu
  cases j with
  | zero => simp at hu; subst hu; exact (Blk.new w _ _).cell 0
  | succ j => simp at hu

theorem slice_oneCell (a : Option Addr) (n m : Nat) : ∀ u ∈ [Value.slice a n m], u.oneCell' = true := by
  intro u hu; simp at hu; subst hu; rfl

def Bds.snoc : Bds → Nds → Bds
  | .nil, x => .cons x .nil
  | .cons y r, x => .cons y (r.snoc x)

theorem repSB_snoc {w : World} {ok : Nat → Prop} {x : Nds} {v : Value} {m : Nat} {cs : List Value} (hr : Row w ok 52 6 v m cs) (hv : RepSL w ok x cs) : ∀ (bs : Bds) (xs : List Value), RepSB w ok bs xs → RepSB w ok (bs.snoc x) (xs ++ [v])
  | .nil, xs, h => by
    simp only [RepSB] at h; subst h
    simp only [Bds.snoc, RepSB, List.nil_append]
    exact ⟨v, [], m, cs, rfl, ⟨hr, hv⟩, rfl⟩
  | .cons y r, xs, h => by
    simp only [RepSB] at h
    obtain ⟨u, ur, n, ds, rfl, h1, h2⟩ := h
    simp only [Bds.snoc, RepSB, List.cons_append]
    exact ⟨u, _, n, ds, rfl, h1, repSB_snoc hr hv r ur h2⟩

/-- The list of bodies as a row of the call's own: where it may lie. -/
structure BW (N g : Nat) (w : World) (vb : Value) (n : Nat) (xs : List Value) (wx : World) : Prop where
  own : wx.ownsRow 0 57 1 vb n xs
  at' : ∀ i, vb.ownBlock = some i → w.heap.size ≤ i ∧ i ≠ g ∧ i ≠ N

/-- The blocks in which bodies may lie: none that the call itself writes. -/
def okB (N g : Nat) (w : World) (vb : Value) : Nat → Prop := fun i => w.heap.size ≤ i ∧ i ≠ g ∧ i ≠ N ∧ vb.ownBlock ≠ some i

theorem BW.keep {N g b : Nat} {w : World} {vb : Value} {n : Nat} {xs : List Value} {wx wy : World} (h : BW N g w vb n xs wx) (q : Keeps (may3 b g N) wx wy) (hb : b < w.heap.size) : BW N g w vb n xs wy :=
  ⟨q.ownsRow h.own (fun i hi _ e => by have := h.at' i hi; rcases e with e | e | e <;> omega), h.at'⟩

/-- One more body. -/
theorem BW.grow {N g : Nat} {w : World} {vb vb' vx : Value} {n : Nat} {xs : List Value} {w3 w4 : World} (h : BW N g w vb n xs w3) (h4 : w4.ownsRow 0 57 1 vb' (n + 1) (xs ++ [vx])) (hf : Fresh (w3.alloc (.cells #[vx] 57)) vb vb')
    (hw : w.heap.size ≤ w3.heap.size) (hg : g < w3.heap.size) (hN : N < w3.heap.size) : BW N g w vb' (n + 1) (xs ++ [vx]) w4 :=
  ⟨h4, fun i hi => by
    rcases hf with e | e
    · exact h.at' i (e ▸ hi)
    · have := e i hi
      simp at this
      omega⟩

theorem NS.grow {b N g : Nat} {w w3 w4 : World} {s : ByteArray} {k d : Nat} {bad : Bool} {c k0 e0 : Int} {vs : ByteArray} {vb vn : Value} {ar : ByteArray} {o : Obj} {n : Nat} {xs : List Value}
    (h : NS b N g w s k bad d c k0 e0 vs vn ar w3) (hB : BW N g w vb n xs w3) (hg : (w3.alloc o).grownBy w4 vb.ownBlock) : NS b N g w s k bad d c k0 e0 vs vn ar w4 := by
  have hN := h.hN
  have hg' := h.hg
  have hb := h.hb
  have q : Keeps (fun i => vb.ownBlock = some i) w3 w4 := ((Keeps.refl _ w3).alloc _).grown hg (fun i hi => .inl hi)
  exact ⟨h.rd.keeps q (fun e => by have := hB.at' b e; omega), q.blk h.res (fun e => (hB.at' N e).2.2 rfl), q.blk h.nod (fun e => (hB.at' g e).2.1 rfl),
    h.keeps.transNew q (fun i hi e => by have := hB.at' i e; omega), hb, hN, hg', h.hne⟩

/-- The bodies that have been read so far. -/
def BS (N g : Nat) (w : World) (bs : Bds) (vb : Value) (n : Nat) (wx : World) : Prop :=
  ∃ xs, BW N g w vb n xs wx ∧ RepSB wx (okB N g w vb) bs xs

theorem BS.keep {N g b : Nat} {w : World} {vb : Value} {n : Nat} {bs : Bds} {wx wy : World} (h : BS N g w bs vb n wx) (q : Keeps (may3 b g N) wx wy) (hb : b < w.heap.size) : BS N g w bs vb n wy := by
  obtain ⟨xs, h1, h2⟩ := h
  exact ⟨xs, h1.keep q hb, (Hands.of_keeps q (fun i hi _ e => by obtain ⟨a1, a2, a3, _⟩ := hi; rcases e with e | e | e <;> omega) (fun i hi _ => hi)).repSB bs xs h2⟩

/-- The bodies behind one more: 'w2': ahead of the body's call; 'w3': behind it; 'w4': behind the append. -/
theorem BS.grow {N g b : Nat} {w : World} {vb vb' vx : Value} {n : Nat} {bs : Bds} {w2 w3 w4 : World} {x : Nds} {m : Nat} {cs : List Value} (h : BS N g w bs vb n w2) (hb : b < w.heap.size) (hw : w.heap.size ≤ w2.heap.size) (hgl : g < w2.heap.size) (hNl : N < w2.heap.size)
    (q : Keeps (oneB b) w2 w3) (hr : Row w3 (fromB w2.heap.size) 52 6 vx m cs) (hx : RepSL w3 (fromB w2.heap.size) x cs)
    {xs : List Value} (hB : BW N g w vb n xs w3) (hxs : ∀ ys, BW N g w vb n ys w3 → ys = xs)
    (h4 : w4.ownsRow 0 57 1 vb' (n + 1) (xs ++ [vx])) (hgr : (w3.alloc (.cells #[vx] 57)).grownBy w4 vb.ownBlock) (hf : Fresh (w3.alloc (.cells #[vx] 57)) vb vb') :
    BS N g w (bs.snoc x) vb' (n + 1) w4 := by
  have hs3 := q.size
  have hk := h.keep (b := b) (wy := w3) (q.mono (fun i e => .inl e)) hb
  obtain ⟨ys, h1, h2⟩ := hk
  obtain rfl := hxs ys h1
  have hvlt : ∀ i, vb.ownBlock = some i → i < w2.heap.size := by
    obtain ⟨zs, z1, _⟩ := h
    exact fun i hi => (z1.own.lt i hi).2
  have qa : Keeps (fun i => vb.ownBlock = some i) w3 w4 := ((Keeps.refl _ w3).alloc _).grown hgr (fun i hi => .inl hi)
  refine ⟨ys ++ [vx], h1.grow h4 hf (by omega) (by omega) (by omega), ?_⟩
  have hnew : ∀ i, i < w3.heap.size → vb.ownBlock ≠ some i → vb'.ownBlock ≠ some i := by
    intro i hi hne e
    rcases hf with h5 | h5
    · exact hne (h5 ▸ e)
    · have := h5 i e; simp at this; omega
  have hho : Hands w3 w4 (okB N g w vb) (okB N g w vb') :=
    Hands.of_keeps qa (fun i hi _ e => hi.2.2.2 e) (fun i hi hl => ⟨hi.1, hi.2.1, hi.2.2.1, hnew i hl hi.2.2.2⟩)
  have hhn : Hands w3 w4 (fromB w2.heap.size) (okB N g w vb') :=
    Hands.of_keeps qa (fun i hi _ e => by have := hvlt i e; simp [fromB] at hi; omega)
      (fun i hi hl => ⟨by simp [fromB] at hi; omega, by simp [fromB] at hi; omega, by simp [fromB] at hi; omega, hnew i hl (fun e => by have := hvlt i e; simp [fromB] at hi; omega)⟩)
  exact repSB_snoc (hhn.row _ _ _ _ _ hr) (hhn.repSL x cs hx) bs ys (hho.repSB bs ys h2)

/-- A row's cells are told by its value. -/
theorem ownsRow_unique {w : World} {e : TypeId} {size : Nat} {v : Value} {n : Nat} {xs ys : List Value} (h1 : w.ownsRow 0 e size v n xs) (h2 : w.ownsRow 0 e size v n ys) : xs = ys := by
  rcases h1.2 with ⟨rfl, rfl⟩ | ⟨g, cap, cur, rfl, _, hc, _, _, _, ht⟩
  · have a := h1.1; have b := h2.1
    have a' : xs = [] := List.eq_nil_of_length_eq_zero (by simpa using a)
    have b' : ys = [] := List.eq_nil_of_length_eq_zero (by simpa using b)
    rw [a', b']
  · rcases h2.2 with ⟨e, _⟩ | ⟨g', cap', cur', e, _, hc', _, _, _, ht'⟩
    · cases e
    · injection e with e1 e2 e3
      injection e1 with e1
      injection e1 with e1
      subst e1
      rw [hc] at hc'
      injection hc' with hc'
      injection hc' with hc'
      subst hc'
      rw [← ht, ← ht']

def BadBody (b : Nat) (s : ByteArray) (d : Nat) (w : World) (e : Ending) (w' : World) : Prop :=
  ∃ k a n m, MovedS b s k true d w (.slice a n m) e w' ∧ k ≤ s.size
def GoodBody (b : Nat) (s : ByteArray) (d : Nat) (w : World) (x : Nds) (k : Nat) (e : Ending) (w' : World) : Prop :=
  ∃ a n m cs, MovedS b s k false d w (.slice a n m) e w' ∧ Row w' (fromB w.heap.size) 52 6 (.slice a n m) n cs ∧ RepSL w' (fromB w.heap.size) x cs
def BodyPostS (b : Nat) (s : ByteArray) (d : Nat) (w : World) (res : Option (Nds × Nat)) (e : Ending) (w' : World) : Prop :=
  match res with
  | none => BadBody b s d w e w'
  | some (x, k) => GoodBody b s d w x k e w'

def SStepOk (n : Nat) : Prop := ∀ (b : Nat) (s : ByteArray) (k d : Nat) (ar : ByteArray) (w : World), Sd w b s k false d → s.size ≤ 80 → k < s.size → ar.size ≤ k → d ≤ 4 → 4 * (s.size - k) + 3 ≤ n →
  Calls Tryz.prog 38 #[.pointer (some ⟨b, 0, none⟩), .string ar] w (StepPostS b s d w (stepP s n ar.data.toList d k))
def SBodyOk (n : Nat) : Prop := ∀ (b : Nat) (s : ByteArray) (k d : Nat) (ar : ByteArray) (c : UInt8) (w : World), Sd w b s k false d → s.size ≤ 80 → k ≤ s.size → ar.size ≤ k → d ≤ 4 → 4 * (s.size - k) + 4 ≤ n →
  Calls Tryz.prog 58 #[.pointer (some ⟨b, 0, none⟩), .string ar, .int .u8 (c.toNat : Int)] w (BodyPostS b s d w (stepsP s n ar.data.toList d c k))
def SBodyBad : Prop := ∀ (b : Nat) (s : ByteArray) (k d : Nat) (ar : ByteArray) (c : UInt8) (w : World), Sd w b s k true d → s.size ≤ 80 → k ≤ s.size →
  Calls Tryz.prog 58 #[.pointer (some ⟨b, 0, none⟩), .string ar, .int .u8 (c.toNat : Int)] w (BadBody b s d w)

end Go.Proofs.YtkfcgamdlckncaaGreat
