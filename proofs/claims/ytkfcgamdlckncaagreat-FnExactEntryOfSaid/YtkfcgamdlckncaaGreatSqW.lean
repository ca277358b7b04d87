/-
  The model's reader: step and body joined in one induction.
  The model's face to its reader: l1Read, ProgramValid.
-/
import Derived.Test.YtkfcgamdlckncaaGreatSdW
import Derived.Test.YtkfcgamdlckncaaGreatSda
import Derived.Test.YtkfcgamdlckncaaGreatSe
import Derived.Test.YtkfcgamdlckncaaGreatSiW
import Derived.Test.YtkfcgamdlckncaaGreatSlW
namespace Go.Proofs.YtkfcgamdlckncaaGreat
set_option linter.unusedVariables false
set_option linter.unusedSimpArgs false
open Go.RowKit

theorem sstep_ok (n : Nat) (ih : ∀ m, m < n → SBodyOk m) : SStepOk n := by
  intro b s k d ar w h hs hk har hd hn
  have har' : ar.size ≤ 80 := by omega
  have hc := at?_some hk
  generalize s[k] = c at hc
  cases n with
  | zero => omega
  | succ n =>
  rw [stepP, hc]
  simp only
  split
  · rename_i h1
    cases hv : varP s ar.data.toList (k + 1) with
    | none =>
      rcases h1 with rfl | rfl | rfl | rfl
      · exact sstep_useno43 b s k d ar w h hs har' hc hv
      · exact sstep_useno46 b s k d ar w h hs har' hc hv
      · exact sstep_useno45 b s k d ar w h hs har' hc hv
      · exact sstep_useno126 b s k d ar w h hs har' hc hv
    | some p =>
      obtain ⟨v, k1⟩ := p
      rcases h1 with rfl | rfl | rfl | rfl
      · exact sstep_use43 b s k d ar w h hs har' hc v k1 hv
      · exact sstep_use46 b s k d ar w h hs har' hc v k1 hv
      · exact sstep_use45 b s k d ar w h hs har' hc v k1 hv
      · exact sstep_use126 b s k d ar w h hs har' hc v k1 hv
  split
  · rename_i h1 h2
    subst h2
    cases hv : moveP s ar.data.toList (k + 1) with
    | none => exact sstep_moveno b s k d ar w h hs har' hc hv
    | some p => obtain ⟨v, u, k2⟩ := p; exact sstep_move b s k d ar w h hs har' hc v u k2 hv
  split
  · rename_i h1 h2 h3
    rcases h3 with rfl | rfl
    · exact sstep_leave94 b s k d ar w h hs hc
    · exact sstep_leave33 b s k d ar w h hs hc
  split
  · rename_i h1 h2 h3 h4
    subst h4
    cases n with
    | zero => omega
    | succ n =>
    have hb := ih n (by omega)
    rw [brackP]
    cases hi : isP s 91 (k + 1) with
    | none => exact sstep_branchno4 sbody_bad b s k d ar w h hs hc (isP_none hi)
    | some k1 =>
      obtain ⟨hc1, rfl, _⟩ := isP_some hi
      simp only
      cases hx : stepsP s n ar.data.toList d 93 (k + 1 + 1) with
      | none => exact sstep_branchno3 n hb sbody_bad b s k d ar w h hs hc har hd (by omega) hc1 hx
      | some p =>
        obtain ⟨x, k2⟩ := p
        simp only
        rw [brackP]
        cases hj : isP s 91 k2 with
        | none => exact sstep_branchno1 n hb sbody_bad b s k d ar w h hs hc har hd (by omega) hc1 x k2 hx (isP_none hj)
        | some k3 =>
          obtain ⟨hc2, rfl, _⟩ := isP_some hj
          simp only
          cases hy : stepsP s n ar.data.toList d 93 (k2 + 1) with
          | none => exact sstep_branchno2 n hb b s k d ar w h hs hc har hd (by omega) hc1 x k2 hx hc2 hy
          | some p =>
            obtain ⟨y, k4⟩ := p
            exact sstep_branch n hb b s k d ar w h hs hc har hd (by omega) hc1 x k2 hx hc2 y k4 hy
  split
  · rename_i h1 h2 h3 h4 h5
    subst h5
    cases n with
    | zero => omega
    | succ n =>
    have hb := ih n (by omega)
    rw [brackP]
    cases hi : isP s 91 (k + 1) with
    | none => exact sstep_loopno1 sbody_bad b s k d ar w h hs hc (isP_none hi)
    | some k1 =>
      obtain ⟨hc1, rfl, _⟩ := isP_some hi
      simp only
      cases hx : stepsP s n ar.data.toList d 93 (k + 1 + 1) with
      | none => exact sstep_loopno2 n hb b s k d ar w h hs hc har hd (by omega) hc1 hx
      | some p =>
        obtain ⟨x, k2⟩ := p
        exact sstep_loop n hb b s k d ar w h hs hc har hd (by omega) hc1 x k2 hx
  split
  · rename_i h1 h2 h3 h4 h5 h6
    subst h6
    cases n with
    | zero => omega
    | succ n =>
    have hb := ih n (by omega)
    rw [scopeP]
    by_cases h4' : 4 ≤ d
    · rw [if_pos h4']
      exact sstep_scopeno1 sbody_bad b s k d ar w h hs hc har (by omega)
    · rw [if_neg h4']
      cases hv : declP s (s.size + 1) ar.data.toList [] (k + 1) with
      | none => exact sstep_scopeno2 sbody_bad b s k d ar w h hs hc har (by omega) hv
      | some p =>
        obtain ⟨vs, k1⟩ := p
        simp only
        cases hx : stepsP s n (ar.data.toList ++ vs) (d + 1) 125 k1 with
        | none => exact sstep_scopeno3 n hb b s k d ar w h hs hc har (by omega) (by omega) vs k1 hv hx
        | some p =>
          obtain ⟨x, k2⟩ := p
          exact sstep_scope n hb b s k d ar w h hs hc har (by omega) (by omega) vs k1 hv x k2 hx
  · rename_i h1 h2 h3 h4 h5 h6
    exact sstep_bad b s k d ar w h hs c hc h1 h2 h3 h4 h5 h6

theorem all_sok (n : Nat) : SStepOk n ∧ SBodyOk n := by
  induction n using Nat.strongRecOn with
  | _ n ih => exact ⟨sstep_ok n (fun m hm => (ih m hm).2), sbody_ok n (fun m hm => (ih m hm).1)⟩

end Go.Proofs.YtkfcgamdlckncaaGreat

namespace Go.Proofs.YtkfcgamdlckncaaGreat
set_option linter.unusedVariables false
set_option linter.unusedSimpArgs false
open Go.RowKit

/-- l1Read: the node's value and whether there is one. -/
def ReadPostS (w : World) (res : Option Nd) (e : Ending) (w' : World) : Prop :=
  match res with
  | none => (∃ c k0 e0 vs a n m ar, e = .returned (.tuple #[nodeV c k0 e0 vs a n m ar, .bool false])) ∧ Keeps noB w w'
  | some x => ∃ c k0 e0 vs a n m ar, e = .returned (.tuple #[nodeV c k0 e0 vs a n m ar, .bool true]) ∧ RepS w' (fromB w.heap.size) x (six c k0 e0 vs (.slice a n m) ar).toList ∧ Keeps noB w w'

theorem res40 (W : World) (N : Nat) (c k e : Int) (vs : ByteArray) (a : Option Addr) (n m : Nat) (ar : ByteArray) (bv : Bool) (tmps : Array Value) (ht : tmps.getD 2 undef = .pointer (some ⟨N, 0, none⟩)) (hv : tmps.getD 3 undef = .bool bv)
    (hb : Blk W N (six c k e vs (.slice a n m) ar) 52) : (results Tryz.f27 tmps).run Tryz.prog W = .ok (.tuple #[nodeV c k e vs a n m ar, .bool bv]) W := by
  have q0 := hb.cell 0
  have q1 := hb.cell 1
  have q2 := hb.cell 2
  have q3 := hb.cell 3
  have q4 := hb.cell 4
  have q5 := hb.cell 5
  simp [six] at q0 q1 q2 q3 q4 q5
  have ht' : tmps[2]?.getD undef = .pointer (some ⟨N, 0, none⟩) := by simpa using ht
  have hv' : tmps[3]?.getD undef = .bool bv := by simpa using hv
  simp [results, Tryz.results27, go_sem, ht', hv', q0, q1, q2, q3, q4, q5, nodeV]

theorem notEmpty {s : ByteArray} (h : 0 < s.size) : s.toList.isEmpty = false := by
  rw [Go.ByteArray.toList_eq]
  have : s.data.toList ≠ [] := fun e => by
    have h2 := congrArg List.length e
    simp at h2
    rw [h2] at h
    exact absurd h (by decide)
  simpa using this

theorem zero6 (w : World) : Blk (w.alloc (.cells (six 0 0 0 ⟨#[]⟩ (.slice none 0 0) ⟨#[]⟩) 52)) w.heap.size (six 0 0 0 ⟨#[]⟩ (.slice none 0 0) ⟨#[]⟩) 52 := Blk.new _ _ _

set_option maxRecDepth 100000 in
set_option maxHeartbeats 4000000 in
theorem sread_long (s : ByteArray) (hs : 80 < s.size) (hs' : s.size ≤ 1048576) (hc : at? s 0 = some 123) (w : World) : Calls Tryz.prog 27 #[.string s] w (ReadPostS w none) := by
  have hz : (80 : Int) < (s.size : Int) := by omega
  have hlt := at?_lt hc
  have hget := at?_get hc hlt
  have hemp := notEmpty hlt
  clear hc
  go_enter Tryz.func27, Tryz.ntmps27
  go_wp2_with fail
  refine bodyPost_ret (res40 _ w.heap.size 0 0 0 ⟨#[]⟩ none 0 0 ⟨#[]⟩ false _ rfl rfl (zero6 w)) rfl ?_
  exact ⟨⟨_, _, _, _, _, _, _, _, rfl⟩, (Keeps.refl _ w).alloc _⟩

set_option maxRecDepth 100000 in
set_option maxHeartbeats 4000000 in
theorem sread_empty (s : ByteArray) (hs : s.size = 0) (w : World) : Calls Tryz.prog 27 #[.string s] w (ReadPostS w none) := by
  have hemp : s.toList.isEmpty = true := by
    rw [Go.ByteArray.toList_eq]
    have : s.data.toList = [] := List.eq_nil_of_length_eq_zero (by simpa using hs)
    simpa using this
  clear hs
  go_enter Tryz.func27, Tryz.ntmps27
  go_wp2_with fail
  refine bodyPost_ret (res40 _ w.heap.size 0 0 0 ⟨#[]⟩ none 0 0 ⟨#[]⟩ false _ rfl rfl (zero6 w)) rfl ?_
  exact ⟨⟨_, _, _, _, _, _, _, _, rfl⟩, (Keeps.refl _ w).alloc _⟩

set_option maxRecDepth 100000 in
set_option maxHeartbeats 4000000 in
theorem sread_brace (s : ByteArray) (hlt : 0 < s.size) (hc : at? s 0 ≠ some 123) (w : World) : Calls Tryz.prog 27 #[.string s] w (ReadPostS w none) := by
  have hemp := notEmpty hlt
  obtain ⟨c, hget⟩ : ∃ c, s[0] = c := ⟨_, rfl⟩
  have hne : ((c.toNat : Int) != 123) = true := by
    rw [at?_some hlt, hget] at hc
    rw [bne_iff_ne]
    intro e
    apply hc
    have : c.toNat = (123 : UInt8).toNat := by have h2 : ((123 : UInt8).toNat : Int) = 123 := rfl; omega
    rw [UInt8.toNat_inj.1 this]
  have hne' : ((c.toNat : Int) == 123) = false := by rw [beq_eq_false_iff_ne]; rw [bne_iff_ne] at hne; exact hne
  clear hc
  go_enter Tryz.func27, Tryz.ntmps27
  go_wp2_with fail
  refine bodyPost_ret (res40 _ w.heap.size 0 0 0 ⟨#[]⟩ none 0 0 ⟨#[]⟩ false _ rfl rfl (zero6 w)) rfl ?_
  exact ⟨⟨_, _, _, _, _, _, _, _, rfl⟩, (Keeps.refl _ w).alloc _⟩

theorem blk_ret {W : World} {N : Nat} {c0 k00 e00 : Int} {vs0 : ByteArray} {vb0 : Value} {ar0 : ByteArray} (h : Blk W N (six c0 k00 e00 vs0 vb0 ar0) 52) {c k0 e0 : Int} {vs : ByteArray} {vb : Value} {ar : ByteArray} :
    Blk (retW W N c k0 e0 vs vb ar) N (six c k0 e0 vs vb ar) 52 := (((((h.set 0 _).set 1 _).set 2 _).set 3 _).set 4 _).set 5 _
theorem keeps_ret {w W : World} (h : Keeps noB w W) {c k0 e0 : Int} {vs : ByteArray} {vb : Value} {ar : ByteArray} : Keeps noB w (retW W w.heap.size c k0 e0 vs vb ar) :=
  (((((h.setCell (p := ⟨w.heap.size, 0, none⟩) (.inr (Nat.le_refl _)) _).setCell (p := ⟨w.heap.size, 1, none⟩) (.inr (Nat.le_refl _)) _).setCell (p := ⟨w.heap.size, 2, none⟩) (.inr (Nat.le_refl _)) _).setCell (p := ⟨w.heap.size, 3, none⟩) (.inr (Nat.le_refl _)) _).setCell (p := ⟨w.heap.size, 4, none⟩) (.inr (Nat.le_refl _)) _).setCell (p := ⟨w.heap.size, 5, none⟩) (.inr (Nat.le_refl _)) _
theorem keeps_retN {W : World} {N : Nat} {c k0 e0 : Int} {vs : ByteArray} {vb : Value} {ar : ByteArray} : Keeps (oneB N) W (retW W N c k0 e0 vs vb ar) := (((((((Keeps.refl _ W).one).one).one).one).one).one)

/-- The world in which the model's reader has been laid. -/
def worldS (s : ByteArray) (w : World) : World :=
  (w.alloc (.cells (six 0 0 0 ⟨#[]⟩ (.slice none 0 0) ⟨#[]⟩) 52)).alloc (.cells #[.string s, .int .i64 0, .bool false, .int .i64 0] 86)

theorem sd0 (s : ByteArray) (w : World) : Sd (worldS s w) (w.heap.size + 1) s 0 false 0 := blk_new (by simp) _ _
theorem resS (s : ByteArray) (w : World) : Blk (worldS s w) w.heap.size (six 0 0 0 ⟨#[]⟩ (.slice none 0 0) ⟨#[]⟩) 52 := (zero6 w).alloc _
theorem keepsS (s : ByteArray) (w : World) : Keeps noB w (worldS s w) := ((Keeps.refl _ w).alloc _).alloc _
theorem sizeS (s : ByteArray) (w : World) : (worldS s w).heap.size = w.heap.size + 2 := by simp [worldS]

theorem keepsNewS {w w0 w1 : World} {b : Nat} (q0 : Keeps noB w w0) (hb : w.heap.size ≤ b) (q : Keeps (oneB b) w0 w1) : Keeps noB w w1 :=
  q0.transNew q (fun i hi e => by simp [oneB] at e; omega)

theorem step_is_scope (s : ByteArray) (n : Nat) (hc : at? s 0 = some 123) : stepP s (n + 1) [] 0 0 = scopeP s n [] 0 0 := by
  rw [stepP, hc]
  simp

set_option maxRecDepth 100000 in
set_option maxHeartbeats 4000000 in
theorem sread_bad (s : ByteArray) (hs : s.size ≤ 80) (hc : at? s 0 = some 123) (hp : scopeP s (8 * s.size + 8) [] 0 0 = none) (w : World) : Calls Tryz.prog 27 #[.string s] w (ReadPostS w none) := by
  have hz : (s.size : Int) ≤ 80 := by omega
  have hlt := at?_lt hc
  have hget := at?_get hc hlt
  have hemp := notEmpty hlt
  have H := Lib.hid ((all_sok (8 * s.size + 9)).1 (w.heap.size + 1) s 0 0 ⟨#[]⟩ (worldS s w) (sd0 s w) hs hlt (Nat.zero_le _) (by omega) (by omega))
  have e0 : stepP s (8 * s.size + 9) (ByteArray.mk #[]).data.toList 0 0 = none := by rw [← hp]; exact step_is_scope s _ hc
  rw [e0] at H
  have HN := Lib.hid (resS s w)
  have HK := Lib.hid (keepsS s w)
  clear hc hp e0
  go_enter Tryz.func27, Tryz.ntmps27
  go_wp2_with fail
  refine H.out.mono ?_
  rintro e w2 ⟨k, x0, x1, x2, x3, x4, x5, x6, x7, ⟨rfl, r, q⟩, hk⟩
  have hnv : nodeV x0 x1 x2 x3 x4 x5 x6 x7 = .agg #[.int .u8 x0, .int .i64 x1, .int .i64 x2, .string x3, .slice x4 x5 x6, .string x7] := rfl
  have n1 := q.blk HN.out (by simp [oneB])
  have c1 := r.c1
  have c2 := r.c2
  have hb1 := r.lt
  have hb2 : ¬ w.heap.size + 1 = w2.heap.size := by omega
  have hb3 := n1.lt
  have hb4 : ¬ w.heap.size = w2.heap.size := by omega
  have r0 := n1.cell 0
  have r1 := n1.cell 1
  have r2 := n1.cell 2
  have r3 := n1.cell 3
  have r4 := n1.cell 4
  have r5 := n1.cell 5
  simp [six] at r0 r1 r2 r3 r4 r5
  have z := fun i => Blk.free n1 i
  go_wp2_with fail
  refine bodyPost_ret (res40 _ w.heap.size 0 0 0 ⟨#[]⟩ none 0 0 ⟨#[]⟩ false _ rfl rfl ((blk_ret n1).alloc _)) rfl ?_
  exact ⟨⟨_, _, _, _, _, _, _, _, rfl⟩, (keeps_ret (keepsNewS HK.out (Nat.le_succ _) q)).alloc _⟩

set_option maxRecDepth 100000 in
set_option maxHeartbeats 4000000 in
theorem sread_short (s : ByteArray) (hs : s.size ≤ 80) (hc : at? s 0 = some 123) (x : Nd) (k : Nat) (hp : scopeP s (8 * s.size + 8) [] 0 0 = some (x, k)) (hk : k ≠ s.size) (w : World) : Calls Tryz.prog 27 #[.string s] w (ReadPostS w none) := by
  have hz : (s.size : Int) ≤ 80 := by omega
  have hlt := at?_lt hc
  have hget := at?_get hc hlt
  have hemp := notEmpty hlt
  have H := Lib.hid ((all_sok (8 * s.size + 9)).1 (w.heap.size + 1) s 0 0 ⟨#[]⟩ (worldS s w) (sd0 s w) hs hlt (Nat.zero_le _) (by omega) (by omega))
  have e0 : stepP s (8 * s.size + 9) (ByteArray.mk #[]).data.toList 0 0 = some (x, k) := by rw [← hp]; exact step_is_scope s _ hc
  rw [e0] at H
  have HN := Lib.hid (resS s w)
  have HK := Lib.hid (keepsS s w)
  have hkn : decide (k = s.size) = false := by simpa using hk
  have hkm : ((k : Int) != (s.size : Int)) = true := by rw [bne_iff_ne]; omega
  have hkm' : ((k : Int) == (s.size : Int)) = false := by rw [beq_eq_false_iff_ne]; omega
  clear hc hp e0 hk
  go_enter Tryz.func27, Tryz.ntmps27
  go_wp2_with fail
  refine H.out.mono ?_
  rintro e w2 ⟨x0, x1, x2, x3, x4, x5, x6, x7, ⟨rfl, r, q⟩, _⟩
  have hnv : nodeV x0 x1 x2 x3 x4 x5 x6 x7 = .agg #[.int .u8 x0, .int .i64 x1, .int .i64 x2, .string x3, .slice x4 x5 x6, .string x7] := rfl
  have n1 := q.blk HN.out (by simp [oneB])
  have c1 := r.c1
  have c2 := r.c2
  have hb1 := r.lt
  have hb2 : ¬ w.heap.size + 1 = w2.heap.size := by omega
  have hb3 := n1.lt
  have hb4 : ¬ w.heap.size = w2.heap.size := by omega
  have r0 := n1.cell 0
  have r1 := n1.cell 1
  have r2 := n1.cell 2
  have r3 := n1.cell 3
  have r4 := n1.cell 4
  have r5 := n1.cell 5
  simp [six] at r0 r1 r2 r3 r4 r5
  have z := fun i => Blk.free n1 i
  go_wp2_with fail
  refine bodyPost_ret (res40 _ w.heap.size 0 0 0 ⟨#[]⟩ none 0 0 ⟨#[]⟩ false _ rfl rfl ((blk_ret n1).alloc _)) rfl ?_
  exact ⟨⟨_, _, _, _, _, _, _, _, rfl⟩, (keeps_ret (keepsNewS HK.out (Nat.le_succ _) q)).alloc _⟩

set_option maxRecDepth 100000 in
set_option maxHeartbeats 4000000 in
theorem sread_good (s : ByteArray) (hs : s.size ≤ 80) (hc : at? s 0 = some 123) (x : Nd) (hp : scopeP s (8 * s.size + 8) [] 0 0 = some (x, s.size)) (w : World) : Calls Tryz.prog 27 #[.string s] w (ReadPostS w (some x)) := by
  have hz : (s.size : Int) ≤ 80 := by omega
  have hlt := at?_lt hc
  have hget := at?_get hc hlt
  have hemp := notEmpty hlt
  have H := Lib.hid ((all_sok (8 * s.size + 9)).1 (w.heap.size + 1) s 0 0 ⟨#[]⟩ (worldS s w) (sd0 s w) hs hlt (Nat.zero_le _) (by omega) (by omega))
  have e0 : stepP s (8 * s.size + 9) (ByteArray.mk #[]).data.toList 0 0 = some (x, s.size) := by rw [← hp]; exact step_is_scope s _ hc
  rw [e0] at H
  have HN := Lib.hid (resS s w)
  have HK := Lib.hid (keepsS s w)
  clear hc hp e0
  go_enter Tryz.func27, Tryz.ntmps27
  go_wp2_with fail
  refine H.out.mono ?_
  rintro e w2 ⟨x0, x1, x2, x3, x4, x5, x6, x7, ⟨rfl, r, q⟩, hx⟩
  have HX := Lib.hid hx
  clear hx
  have hnv : nodeV x0 x1 x2 x3 x4 x5 x6 x7 = .agg #[.int .u8 x0, .int .i64 x1, .int .i64 x2, .string x3, .slice x4 x5 x6, .string x7] := rfl
  have n1 := q.blk HN.out (by simp [oneB])
  have c1 := r.c1
  have c2 := r.c2
  have hb1 := r.lt
  have hb2 : ¬ w.heap.size + 1 = w2.heap.size := by omega
  have hb3 := n1.lt
  have hb4 : ¬ w.heap.size = w2.heap.size := by omega
  have r0 := n1.cell 0
  have r1 := n1.cell 1
  have r2 := n1.cell 2
  have r3 := n1.cell 3
  have r4 := n1.cell 4
  have r5 := n1.cell 5
  simp [six] at r0 r1 r2 r3 r4 r5
  have z := fun i => Blk.free n1 i
  go_wp2_with fail
  refine bodyPost_ret (res40 _ w.heap.size x0 x1 x2 x3 x4 x5 x6 x7 true _ rfl rfl ((blk_ret n1).alloc _)) rfl ?_
  have qn := (keeps_retN (W := w2) (N := w.heap.size) (c := x0) (k0 := x1) (e0 := x2) (vs := x3) (vb := .slice x4 x5 x6) (ar := x7)).alloc (.cells (six x0 x1 x2 x3 (.slice x4 x5 x6) x7) 52)
  have sz := sizeS s w
  refine ⟨_, _, _, _, _, _, _, _, rfl, ?_, (keeps_ret (keepsNewS HK.out (Nat.le_succ _) q)).alloc _⟩
  exact (Hands.of_keeps (ok' := fromB w.heap.size) qn (fun i hi _ e => by simp [oneB, fromB] at hi e; omega) (fun i hi _ => by simp [fromB] at hi ⊢; omega)).repS x _ HX.out

/-- l1Read, whatever the text. -/
theorem sread_any (s : ByteArray) (hs : s.size ≤ 1048576) (w : World) : Calls Tryz.prog 27 #[.string s] w (ReadPostS w (progP s)) := by
  by_cases hc : at? s 0 = some 123
  · by_cases hl : s.size > 80
    · have e : progP s = none := by unfold progP; rw [if_pos hl]
      rw [e]
      exact sread_long s hl hs hc w
    cases hp : scopeP s (8 * s.size + 8) [] 0 0 with
    | none =>
      have e : progP s = none := by unfold progP; rw [if_neg hl, if_pos hc, hp]
      rw [e]
      exact sread_bad s (by omega) hc hp w
    | some p =>
      obtain ⟨x, k⟩ := p
      by_cases hk : k = s.size
      · have e : progP s = some x := by unfold progP; rw [if_neg hl, if_pos hc, hp]; simp [hk]
        subst hk
        rw [e]
        exact sread_good s (by omega) hc x hp w
      · have e : progP s = none := by unfold progP; rw [if_neg hl, if_pos hc, hp]; simp [hk]
        rw [e]
        exact sread_short s (by omega) hc x k hp hk w
  · have e : progP s = none := by
      unfold progP
      by_cases hl : s.size > 80
      · rw [if_pos hl]
      · rw [if_neg hl, if_neg hc]
    rw [e]
    by_cases h0 : s.size = 0
    · exact sread_empty s h0 w
    · exact sread_brace s (by omega) hc w

end Go.Proofs.YtkfcgamdlckncaaGreat
