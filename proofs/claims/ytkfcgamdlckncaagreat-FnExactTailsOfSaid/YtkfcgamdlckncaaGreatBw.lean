/-
  Walks of the library: slices.Backward over bytes, and the iterator that it hands back.
-/
import Derived.Test.YtkfcgamdlckncaaGreatRf
import Derived.Test.YtkfcgamdlckncaaGreatProg
import Derived.WalkKit
import Derived.Lib.Hide
import Derived.Outline
import Derived.Shelf.Abstract
import Derived.RangeFuncSeq
import Derived.RangeFuncLeaves
import Derived.TacticsInMore
import Derived.LoopIn
import Derived.OwnWalkIn
import Derived.RangeFuncBox
import Derived.RangeFuncCalls
import Derived.Lib.ConvBytes
import Derived.Test.YtkfcgamdlckncaaGreatMemW
namespace Go.Proofs.YtkfcgamdlckncaaGreat
set_option linter.unusedVariables false
set_option linter.unusedSimpArgs false
open Go.RowKit

attribute [local go_sem] Oper.semAt_some

theorem backward_any (a : Option Addr) (n c : Nat) (w : World) : Calls Tryz.prog 69 #[.slice a n c] w
    fun e w' => e = .returned (.func (.func 91) #[] #[ptr w.heap.size]) ∧ w' = w.alloc (.cells #[.slice a n c] 80) := by
  go_enter Tryz.func69, Tryz.ntmps69
  go_wp2
  go_ret
  exact ⟨rfl, rfl⟩

/-- What is yielded of the first m bytes, from the last one on. -/
def backTo (l : List UInt8) : Nat → List (Nat × UInt8)
  | 0 => []
  | m + 1 => (m, l.getD m 0) :: backTo l m

def encB (p : Nat × UInt8) (args : Array Value) : Prop := args = #[.int .i64 (p.1 : Int), .int .u8 (p.2.toNat : Int)]

/-- The bytes that are gone through: n of them, in block R; B: the box. -/
structure BackAt (W : World) (B R n c : Nat) (l : List UInt8) : Prop where
  box : Blk W B #[.slice (some ⟨R, 0, none⟩) n c] 80
  len : l.length = n
  cap : n ≤ c
  lt : R < W.heap.size
  cell : ∀ i, i < n → W.cell? ⟨R, i, none⟩ = some (.int .u8 ((l.getD i 0).toNat : Int))

/-- What the loop of the iterator holds. -/
def BackLoop (J : List (Nat × UInt8) → (Nat → Prop) → World → Prop) (lb B R n c : Nat) (l : List UInt8) (own : Nat → Prop) (W : World) (a : Act) (wr : World) : Prop :=
  ∃ (m : Nat) (done : List (Nat × UInt8)) (own' : Nat → Prop) (u2 u4 u5 u6 u7 u8 u9 u10 u11 u12 u13 u14 u15 u16 u17 u18 : Value),
    a = { tmps := #[.func (.yield lb) #[] #[], .pointer (some ⟨B, 0, none⟩), u2, .int .i64 ((m : Int) - 1), u4, u5, u6, u7, u8, u9, u10, u11, u12, u13, u14, u15, u16, u17, u18], defers := [] } ∧
    m ≤ n ∧ backTo l n = done ++ backTo l m ∧ J done own' wr ∧ Owns own own' W wr

set_option maxRecDepth 100000 in
set_option maxHeartbeats 4000000 in
theorem back_iter (W : World) (B R n c : Nat) (l : List UInt8) (h : BackAt W B R n c l) (hn : n ≤ 1000) : IterAt Tryz.prog 91 #[ptr B] (backTo l n) encB (fun k => k = B ∨ k = R) W := by
  intro lb J Jx own hJ hJx hown hprot hR h0 n0
  obtain ⟨F, hF⟩ : ∃ F, F = Fence.wide := ⟨_, rfl⟩
  have hFf : ∀ f, F.fn f := by subst hF; exact fun _ => trivial
  have hdd : ∀ k : Nat, (F.depth.isSome = true → 1 ≤ k) := by subst hF; intro k h; simp [Fence.wide] at h
  have hro : F.round = none := by subst hF; rfl
  have hds : F.depth.isSome = false := by subst hF; rfl
  rw [← hF]
  have HF := Lib.hid hF
  clear hF
  refine callsIn_of_wp_marks Tryz.func91 rfl (hFf _) ?_ hro
  simp only [Tryz.ntmps91, List.size_toArray, List.length_cons, List.length_nil, Nat.reduceAdd, Nat.reduceSub, Array.replicate_succ, Array.replicate_zero, List.push_toArray, List.append_toArray, List.nil_append, List.cons_append]
  have HH := Lib.hid h
  have r0 := h.box.cell 0
  simp at r0
  have hBl := h.box.lt
  have hRl := h.lt
  have hnB : ¬ own B := hprot B (.inl rfl)
  have hnR : ¬ own R := hprot R (.inr rfl)
  have HR := Lib.hid hR
  clear h hR
  unfold ptr
  gi_wp2
  refine wpIn_loop (BackLoop J lb B R n c l own W) (fun a _ => (intOf (a.tmps.getD 3 undef) + 1).toNat) ?_ ?_
  · exact ⟨n, [], own, _, _, _, _, _, _, _, _, _, _, _, _, _, _, _, _, rfl, Nat.le_refl _, rfl, h0, Owns.refl hown⟩
  · rintro a wr ⟨m, done, own', u2, u4, u5, u6, u7, u8, u9, u10, u11, u12, u13, u14, u15, u16, u17, u18, rfl, hmn, hall, hj, ho⟩
    have hW := ho.keeps.size
    have r0' := (ho.keeps.cell (p := ⟨B, 0, none⟩) hBl hnB).trans r0
    cases m with
    | zero =>
      have HE : Hid (∀ W', Keeps (fun k => k ∈ []) wr W' → IterEnds J Jx (backTo l n) own W (.returned (.tuple #[])) W') := by
        intro W' q
        refine ⟨_, own', rfl, ho.ahead q (fun i e => by cases e), .inl ?_⟩
        rw [hall]
        rw [show backTo l 0 = [] from rfl, List.append_nil]
        exact hJ _ _ _ _ hj (q.mono (fun _ e => by cases e))
      clear hj ho hall r0'
      gi_wp2
      refine leaves_marks [] wr List.nodup_nil (fun _ h => by cases h) (fun W' q _ => ?_)
      exact ⟨_, results_none rfl _ _ _, HE.out _ q⟩
    | succ m =>
      have e1 : ((m + 1 : Nat) : Int) - 1 = (m : Int) := by omega
      rw [e1]
      have hcell := (ho.keeps.cell (p := ⟨R, m, none⟩) hRl hnR).trans (HH.out.cell m (by omega))
      have hcap := HH.out.cap
      have hmc : (m : Int) < (n : Int) := by omega
      have hm0 : (0 : Int) ≤ (m : Int) := by omega
      obtain ⟨fn, tmps, assign, body, hy, hRd⟩ := HR.out (n0 - 1) done (m, l.getD m 0) (backTo l m) #[.int .i64 (m : Int), .int .u8 ((l.getD m 0).toNat : Int)] own' wr hall rfl hj ho.lt
      rw [← HF.out] at hRd
      have HA := Lib.hid (And.intro hall (And.intro hj ho))
      generalize ((l.getD m 0).toNat : Int) = cv at hcell hy
      clear hall hj ho e1
      gi_wp2
      refine hRd.mono ?_
      clear hRd hy hcell r0'
      rintro e W1 ⟨own1, ho1, (⟨rfl, hj1⟩ | ⟨rfl, hj1⟩)⟩
      · have HE : Hid (∀ (u2 u4 u5 u6 u7 u8 u9 u10 u11 u12 u13 u14 u15 u16 u17 u18 : Value), BackLoop J lb B R n c l own W { tmps := #[.func (.yield lb) #[] #[], .pointer (some ⟨B, 0, none⟩), u2, .int .i64 ((m : Int) - 1), u4, u5, u6, u7, u8, u9, u10, u11, u12, u13, u14, u15, u16, u17, u18], defers := [] } W1) :=
          fun u2 u4 u5 u6 u7 u8 u9 u10 u11 u12 u13 u14 u15 u16 u17 u18 => ⟨m, done ++ [(m, l.getD m 0)], own1, u2, u4, u5, u6, u7, u8, u9, u10, u11, u12, u13, u14, u15, u16, u17, u18, rfl, by omega, by rw [HA.out.1]; simp [backTo], hj1, HA.out.2.2.trans ho1⟩
        clear hj1 ho1
        gi_wp2
        refine ⟨HE.out _ _ _ _ _ _ _ _ _ _ _ _ _ _ _ _, ?_⟩
        simp [intOf]
      · have HE : Hid (∀ W', Keeps (fun k => k ∈ []) W1 W' → IterEnds J Jx (backTo l n) own W (.returned (.tuple #[])) W') := by
          intro W' q
          refine ⟨_, own1, rfl, (HA.out.2.2.trans ho1).ahead q (fun i e => by cases e), .inr ⟨done ++ [(m, l.getD m 0)], backTo l m, by rw [HA.out.1]; simp [backTo], hJx _ _ _ _ hj1 (q.mono (fun _ e => by cases e))⟩⟩
        clear hj1 ho1
        gi_wp2
        refine leaves_marks [] W1 List.nodup_nil (fun _ h => by cases h) (fun W' q _ => ?_)
        exact ⟨_, results_none rfl _ _ _, HE.out _ q⟩

theorem backTo_cons (v : UInt8) (r : List UInt8) : ∀ m : Nat, m ≤ r.length → backTo (v :: r) (m + 1) = (backTo r m).map (fun p => (p.1 + 1, p.2)) ++ [(0, v)]
  | 0, _ => rfl
  | m + 1, h => by
    have ih := backTo_cons v r m (by omega)
    rw [backTo, ih]
    simp [backTo]

theorem backTo_mem {l : List UInt8} : ∀ {m : Nat}, m ≤ l.length → ∀ p ∈ backTo l m, p.2 ∈ l
  | 0, _, p, hp => by cases hp
  | m + 1, h, p, hp => by
    rcases List.mem_cons.1 hp with rfl | hp
    · have hm : m < l.length := by omega
      simp [List.getD, hm]
    · exact backTo_mem (by omega) p hp

theorem backTo_len (l : List UInt8) : ∀ m : Nat, (backTo l m).length = m
  | 0 => rfl
  | m + 1 => by rw [backTo, List.length_cons, backTo_len l m]

theorem BackAt.keeps {W W' : World} {B R n c : Nat} {l : List UInt8} (h : BackAt W B R n c l) (q : Keeps noB W W') : BackAt W' B R n c l :=
  ⟨q.blk h.box id, h.len, h.cap, Nat.lt_of_lt_of_le h.lt q.size, fun i hi => (q.cell (p := ⟨R, i, none⟩) h.lt id).trans (h.cell i hi)⟩

/-- A text as bytes of its own. -/
theorem bytes_own (w : World) (ls : ByteArray) (hs : ls.size ≤ 1000) : ∃ C W2, (convert 9 80 (.string ls)).run Tryz.prog w = .ok (.slice (some ⟨w.heap.size, 0, none⟩) ls.size C) W2 ∧ Keeps noB w W2 ∧ W2.heap.size = w.heap.size + 1 ∧ ls.size ≤ C ∧
    ∀ i, i < ls.size → W2.cell? ⟨w.heap.size, i, none⟩ = some (.int .u8 ((ls.data.toList.getD i 0).toNat : Int)) := by
  refine ⟨_, _, Lib.run_convert_string_bytes w 9 80 5 ls Tryz.underlying9 Tryz.underlying80 Tryz.underlying5, ?_, Lib.bytesWorld_size w _ ls, grownCap_ge _ _ _ _, fun i hi => Lib.bytesWorld_cell w _ ls i hi⟩
  exact ⟨rfl, rfl, rfl, by rw [Lib.bytesWorld_size]; omega, fun k hk _ => Lib.bytesWorld_at_old w _ ls k hk⟩

end Go.Proofs.YtkfcgamdlckncaaGreat
