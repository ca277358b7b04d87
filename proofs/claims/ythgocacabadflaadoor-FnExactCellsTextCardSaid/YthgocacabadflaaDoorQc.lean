/-
  Walks of the library: strings.SplitSeq at a space, and the iterator that it hands back.
-/
import Derived.Test.YthgocacabadflaaDoorQa
import Derived.Test.YthgocacabadflaaDoorRl
import Derived.Test.YthgocacabadflaaDoorChecked
import Derived.WalkKit
import Derived.Outline
import Derived.Lib.Hide
import Derived.RangeFuncSeq
import Derived.RangeFuncLeaves
import Derived.TacticsInMore
import Derived.LoopIn
import Derived.OwnWalkIn
import Derived.RangeFuncBox
import Derived.RangeFuncCalls
namespace Go.Proofs.YthgocacabadflaaDoor
set_option linter.unusedVariables false
set_option linter.unusedSimpArgs false
open Go.RowKit

attribute [local go_sem] Oper.semAt_some

theorem cutl_str (s : ByteArray) (f i : Nat) : (s.extract f i).data.toList = (s.data.toList.drop f).take (i - f) := by
  rw [ByteArray.data_extract]
  simp [Array.toList_extract]

theorem index_cases (c : UInt8) : ∀ l : List UInt8, (Lib.indexByte l c = -1 ∧ c ∉ l) ∨ (∃ i : Nat, Lib.indexByte l c = (i : Int) ∧ i < l.length ∧ c ∉ l.take i ∧ l = l.take i ++ c :: l.drop (i + 1))
  | [] => .inl ⟨rfl, by simp⟩
  | x :: r => by
    by_cases h : x = c
    · subst h
      exact .inr ⟨0, by simp [Lib.indexByte], by simp, by simp, by simp⟩
    · rcases index_cases c r with ⟨h1, h2⟩ | ⟨i, h1, h2, h3, h4⟩
      · refine .inl ⟨by simp [Lib.indexByte, h, h1], ?_⟩
        intro hm; rcases List.mem_cons.1 hm with hm | hm
        · exact h hm.symm
        · exact h2 hm
      · refine .inr ⟨i + 1, ?_, by simp; omega, ?_, ?_⟩
        · simp only [Lib.indexByte, h1]
          have : ¬ (i : Int) < 0 := by omega
          simp [h, this]
        · rw [List.take_succ_cons]
          intro hm; rcases List.mem_cons.1 hm with hm | hm
          · exact h hm.symm
          · exact h3 hm
        · rw [List.take_succ_cons, List.drop_succ_cons, List.cons_append, ← h4]

theorem split_any (s : ByteArray) (w : World) : Calls Tryd.prog 78 #[.string s, .string ⟨#[32]⟩, .int .i64 0] w
    fun e w' => e = .returned (.func (.func 94) #[] #[ptr (w.heap.size + 1), ptr w.heap.size, ptr (w.heap.size + 2)]) ∧
      w' = ((w.alloc (.cells #[.string s] 9)).alloc (.cells #[.string ⟨#[32]⟩] 9)).alloc (.cells #[.int .i64 0] 3) := by
  go_enter Tryd.func78, Tryd.ntmps78
  go_wp2
  go_ret
  exact ⟨rfl, rfl⟩

theorem splitSeq_any (s : ByteArray) (w : World) : Calls Tryd.prog 67 #[.string s, .string ⟨#[32]⟩] w
    fun e w' => e = .returned (.func (.func 94) #[] #[ptr (w.heap.size + 1), ptr w.heap.size, ptr (w.heap.size + 2)]) ∧
      w' = ((w.alloc (.cells #[.string s] 9)).alloc (.cells #[.string ⟨#[32]⟩] 9)).alloc (.cells #[.int .i64 0] 3) := by
  go_enter Tryd.func67, Tryd.ntmps67
  go_wp2_with (go_at_call 78; refine (split_any _ _).mono ?_; rintro e w' ⟨rfl, rfl⟩)
  go_ret
  exact ⟨rfl, rfl⟩

def encS (x : List UInt8) (args : Array Value) : Prop := args = #[str x]

/-- The three boxes of the iterator: what is left of the text, the space, 0. -/
structure SplitAt (W : World) (B : Nat) (z : ByteArray) : Prop where
  box : Blk W B #[.string z] 9
  sep : Blk W (B + 1) #[.string ⟨#[32]⟩] 9
  save : Blk W (B + 2) #[.int .i64 0] 3

theorem SplitAt.keeps {W W' : World} {B : Nat} {z : ByteArray} {may : Nat → Prop} (h : SplitAt W B z) (q : Keeps may W W') (h0 : ¬ may B) (h1 : ¬ may (B + 1)) (h2 : ¬ may (B + 2)) : SplitAt W' B z := ⟨q.blk h.box h0, q.blk h.sep h1, q.blk h.save h2⟩

def prot3 (B : Nat) : Nat → Prop := fun k => k = B ∨ k = B + 1 ∨ k = B + 2

/-- What the loop of the iterator holds. -/
def SplitLoop (J : List (List UInt8) → (Nat → Prop) → World → Prop) (s : List UInt8) (lb B : Nat) (own : Nat → Prop) (W : World) (a : Act) (wr : World) : Prop :=
  ∃ (done : List (List UInt8)) (z : ByteArray) (own' : Nat → Prop) (u4 u5 u6 u7 u8 u9 u10 u11 u12 u13 u14 u15 u16 u17 u18 u19 u20 u21 u22 u23 u24 u25 u26 u27 u28 u29 u30 u31 u32 u33 u34 u35 u36 u37 u38 u39 u40 u41 u42 u43 u44 u45 u46 u47 u48 u49 u50 u51 : Value),
    a = { tmps := #[.func (.yield lb) #[] #[], .pointer (some ⟨B + 1, 0, none⟩), .pointer (some ⟨B, 0, none⟩), .pointer (some ⟨B + 2, 0, none⟩), u4, u5, u6, u7, u8, u9, u10, u11, u12, u13, u14, u15, u16, u17, u18, u19, u20, u21, u22, u23, u24, u25, u26, u27, u28, u29, u30, u31, u32, u33, u34, u35, u36, u37, u38, u39, u40, u41, u42, u43, u44, u45, u46, u47, u48, u49, u50, u51], defers := [] } ∧
    cutAt 32 s = done ++ cutAt 32 z.data.toList ∧ z.size ≤ 1048576 ∧ SplitAt wr B z ∧ J done own' wr ∧ OwnsL B own own' W wr

def leftN (B : Nat) (w : World) : Nat := match w.cell? ⟨B, 0, none⟩ with | some (.string z) => z.size | _ => 0

set_option maxRecDepth 100000 in
set_option maxHeartbeats 8000000 in
theorem split_iter (W : World) (B : Nat) (s : ByteArray) (hs : s.size ≤ 1048576) (h : SplitAt W B s) : IterAtL Tryd.prog B 94 #[ptr (B + 1), ptr B, ptr (B + 2)] (cutAt 32 s.data.toList) encS (prot3 B) W := by
  intro lb J Jx own hJ hJx hown hprot hR h0 n0
  obtain ⟨F, hF⟩ : ∃ F, F = Fence.wide := ⟨_, rfl⟩
  have hFf : ∀ f, F.fn f := by subst hF; exact fun _ => trivial
  have hdd : ∀ k : Nat, (F.depth.isSome = true → 1 ≤ k) := by subst hF; intro k h; simp [Fence.wide] at h
  have hro : F.round = none := by subst hF; rfl
  have hds : F.depth.isSome = false := by subst hF; rfl
  have HIX : Hid (∀ m w (z : ByteArray), CallsIn F m Tryd.prog 96 #[.string z, .string ⟨#[32]⟩] w fun e w' => e = .returned (.int .i64 (Lib.indexByte z.data.toList 32)) ∧ w' = w) := fun m w z => by
    rw [hF]; exact callsIn_wide.2 (Tryd.strings_Index_one z 32 w)
  rw [← hF]
  have HF := Lib.hid hF
  clear hF
  refine callsIn_of_wp_marks Tryd.func94 rfl (hFf _) ?_ hro
  simp only [Tryd.ntmps94, List.size_toArray, List.length_cons, List.length_nil, Nat.reduceAdd, Nat.reduceSub, Array.replicate_succ, Array.replicate_zero, List.push_toArray, List.append_toArray, List.nil_append, List.cons_append]
  have HH := Lib.hid h
  have hBlt : B + 2 < W.heap.size := h.save.lt
  have hnB : ∀ own', OwnsL B own own' W W → True := fun _ _ => trivial
  have HNO : Hid (∀ own' wr, OwnsL B own own' W wr → ¬ own' B ∧ ¬ own' (B + 1) ∧ ¬ own' (B + 2)) := fun own' wr ho => by
    refine ⟨fun e => ?_, fun e => ?_, fun e => ?_⟩
    · rcases ho.more _ e with h | h
      · exact hprot B (.inl rfl) h
      · omega
    · rcases ho.more _ e with h | h
      · exact hprot (B + 1) (.inr (.inl rfl)) h
      · omega
    · rcases ho.more _ e with h | h
      · exact hprot (B + 2) (.inr (.inr rfl)) h
      · omega
  have HR := Lib.hid hR
  have r1 := (h.sep).cell 0
  simp at r1
  clear h hR hnB
  unfold ptr
  gi_wp2
  refine wpIn_loop (SplitLoop J s.data.toList lb B own W) (fun _ w => leftN B w) ?_ ?_
  · exact ⟨[], s, own, _, _, _, _, _, _, _, _, _, _, _, _, _, _, _, _, _, _, _, _, _, _, _, _, _, _, _, _, _, _, _, _, _, _, _, _, _, _, _, _, _, _, _, _, _, _, _, _, rfl, rfl, hs, HH.out, h0, ⟨fun _ h => .inl h, hown, Keeps.refl _ _⟩⟩
  · rintro a wr ⟨done, z, own', u4, u5, u6, u7, u8, u9, u10, u11, u12, u13, u14, u15, u16, u17, u18, u19, u20, u21, u22, u23, u24, u25, u26, u27, u28, u29, u30, u31, u32, u33, u34, u35, u36, u37, u38, u39, u40, u41, u42, u43, u44, u45, u46, u47, u48, u49, u50, u51, rfl, hcut, hz, hat, hj, ho⟩
    obtain ⟨n1, n2, n3⟩ := HNO.out own' wr ho
    have c0 := hat.box.cell 0
    have c1 := hat.sep.cell 0
    have c2 := hat.save.cell 0
    have z0 := hat.box.free 0
    simp at c0 c1 c2
    have hle : leftN B wr = z.size := by unfold leftN; rw [c0]
    have hzl : z.data.toList.length = z.size := by simp
    rcases index_cases 32 z.data.toList with ⟨hix, hno⟩ | ⟨i, hix, hil, hno, hzz⟩
    · -- the last word
      have hall : cutAt 32 s.data.toList = done ++ z.data.toList :: [] := by rw [hcut, cutAt_none 32 _ hno]
      obtain ⟨fn2, tmps2, assign2, body2, hy2, hR2⟩ := HR.out (n0 - 1) done z.data.toList [] #[.string z] own' wr hall (by unfold encS; rw [str_eq7 rfl]) hj ho.lt
      rw [← HF.out] at hR2
      have HO := Lib.hid ho
      have HALL := Lib.hid hall
      have HIX2 : Hid (∀ m w, CallsIn F m Tryd.prog 96 #[.string z, .string ⟨#[32]⟩] w fun e w' => e = .returned (.int .i64 (-1)) ∧ w' = w) := fun m w => by
        have h := HIX.out m w z; rw [hix] at h; exact h
      clear hcut hno hix hall ho hj hat hle hzl z0
      gi_wp2
      refine (HIX2.out _ _).mono ?_
      rintro e w5 ⟨rfl, rfl⟩
      gi_wp2
      refine (show RoundIn F _ _ _ _ _ _ _ _ _ from hR2).mono ?_
      clear hR2 hy2
      rintro e W1 ⟨own1, ho1, hres⟩
      have HE : Hid (∀ W', Keeps (fun k => k ∈ []) W1 W' → IterEndsL B J Jx (cutAt 32 s.data.toList) own W (.returned (.tuple #[])) W') := by
        intro W' q
        refine ⟨_, own1, rfl, (HO.out.transR (by omega) ho1).ahead q (fun i e => by cases e), ?_⟩
        rcases hres with ⟨_, hj1⟩ | ⟨_, hj1⟩
        · exact .inl (by rw [HALL.out]; exact hJ _ _ _ _ hj1 (q.mono (fun _ e => by cases e)))
        · exact .inr ⟨done ++ [z.data.toList], [], by rw [HALL.out]; simp, hJx _ _ _ _ hj1 (q.mono (fun _ e => by cases e))⟩
      have hv : ∃ b : Bool, e = .returned (.bool b) := by rcases hres with ⟨h, _⟩ | ⟨h, _⟩ <;> exact ⟨_, h⟩
      obtain ⟨b, rfl⟩ := hv
      clear hres ho1
      gi_wp2
      refine leaves_marks [] W1 List.nodup_nil (fun _ h => by cases h) (fun W' q _ => ?_)
      exact ⟨_, results_none rfl _ _ _, HE.out _ q⟩
    · have hzd : cutAt 32 z.data.toList = z.data.toList.take i :: cutAt 32 (z.data.toList.drop (i + 1)) := by
        conv => lhs; rw [hzz, cutAt_some 32 _ _ hno]
      have hall : cutAt 32 s.data.toList = done ++ z.data.toList.take i :: cutAt 32 (z.data.toList.drop (i + 1)) := by rw [hcut, hzd]
      have hf1 : (z.extract 0 i).data.toList = z.data.toList.take i := by rw [cutl_str]; simp
      have hf2 : (z.extract (i + 1) z.size).data.toList = z.data.toList.drop (i + 1) := by rw [cutl_str, ← hzl, List.take_of_length_le (by simp)]
      have hf2s : (z.extract (i + 1) z.size).size ≤ 1048576 ∧ (z.extract (i + 1) z.size).size < z.size := by
        have e : (z.extract (i + 1) z.size).size = (z.extract (i + 1) z.size).data.toList.length := by simp
        rw [e, hf2, List.length_drop]; omega
      obtain ⟨fn2, tmps2, assign2, body2, hy2, hR2⟩ := HR.out (n0 - 1) done (z.data.toList.take i) (cutAt 32 (z.data.toList.drop (i + 1))) #[.string (z.extract 0 i)] own' wr hall (by unfold encS; rw [str_eq7 hf1]) hj ho.lt
      rw [← HF.out] at hR2
      have HO := Lib.hid ho
      have HALL := Lib.hid hall
      have HIX2 : Hid (∀ m w, CallsIn F m Tryd.prog 96 #[.string z, .string ⟨#[32]⟩] w fun e w' => e = .returned (.int .i64 (i : Int)) ∧ w' = w) := fun m w => by
        have h := HIX.out m w z; rw [hix] at h; exact h
      have hi0 : ¬ (i : Int) < 0 := by omega
      have hi0' : (0 : Int) ≤ (i : Int) := by omega
      have hiz : (i : Int) ≤ (z.size : Int) := by omega
      have hiz1 : (i : Int) + 1 ≤ (z.size : Int) := by omega
      have HAT := Lib.hid hat
      have HF2 := Lib.hid (And.intro hf2 (And.intro hf2s hle))
      clear hcut hno hix hall ho hj hat hle hzz hzd hf1 hf2 hf2s hzl
      gi_wp2
      refine (HIX2.out _ _).mono ?_
      rintro e w5 ⟨rfl, rfl⟩
      gi_wp2
      refine (show RoundIn F _ _ _ _ _ _ _ _ _ from hR2).mono ?_
      clear hR2 hy2
      rintro e W1 ⟨own1, ho1, (⟨rfl, hj1⟩ | ⟨rfl, hj1⟩)⟩
      · have hO1 := HO.out.transR (by omega) ho1
        obtain ⟨m1, m2, m3⟩ := HNO.out own1 W1 hO1
        have a1 : SplitAt W1 B z := HAT.out.keeps ho1.keeps n1 n2 n3
        have d0 := a1.box.cell 0
        have d1 := a1.sep.cell 0
        have y0 := a1.box.free 0
        simp at d0 d1
        have HE : Hid (∀ u4 u5 u6 u7 u8 u9 u10 u11 u12 u13 u14 u15 u16 u17 u18 u19 u20 u21 u22 u23 u24 u25 u26 u27 u28 u29 u30 u31 u32 u33 u34 u35 u36 u37 u38 u39 u40 u41 u42 u43 u44 u45 u46 u47 u48 u49 u50 u51 : Value, SplitLoop J s.data.toList lb B own W { tmps := #[.func (.yield lb) #[] #[], .pointer (some ⟨B + 1, 0, none⟩), .pointer (some ⟨B, 0, none⟩), .pointer (some ⟨B + 2, 0, none⟩), u4, u5, u6, u7, u8, u9, u10, u11, u12, u13, u14, u15, u16, u17, u18, u19, u20, u21, u22, u23, u24, u25, u26, u27, u28, u29, u30, u31, u32, u33, u34, u35, u36, u37, u38, u39, u40, u41, u42, u43, u44, u45, u46, u47, u48, u49, u50, u51], defers := [] } (W1.setCell ⟨B, 0, none⟩ (.string (z.extract (i + 1) z.size)))) := by
          intro u4 u5 u6 u7 u8 u9 u10 u11 u12 u13 u14 u15 u16 u17 u18 u19 u20 u21 u22 u23 u24 u25 u26 u27 u28 u29 u30 u31 u32 u33 u34 u35 u36 u37 u38 u39 u40 u41 u42 u43 u44 u45 u46 u47 u48 u49 u50 u51
          have qs : Keeps (fun k => k = B) W1 (W1.setCell ⟨B, 0, none⟩ (.string (z.extract (i + 1) z.size))) := (Keeps.refl (oneB B) W1).setCell (p := ⟨B, 0, none⟩) (.inl (show oneB B B from rfl)) _
          refine ⟨done ++ [z.data.toList.take i], z.extract (i + 1) z.size, own1, u4, u5, u6, u7, u8, u9, u10, u11, u12, u13, u14, u15, u16, u17, u18, u19, u20, u21, u22, u23, u24, u25, u26, u27, u28, u29, u30, u31, u32, u33, u34, u35, u36, u37, u38, u39, u40, u41, u42, u43, u44, u45, u46, u47, u48, u49, u50, u51, rfl, ?_, HF2.out.2.1.1, ⟨a1.box.set 0 _, qs.blk a1.sep (fun e => by omega), qs.blk a1.save (fun e => by omega)⟩, ?_, ?_⟩
          · rw [HALL.out, HF2.out.1]; simp
          · exact hJ _ _ _ _ hj1 (qs.mono (fun k e => by rw [e]; exact ⟨Nat.le_refl _, m1⟩))
          · exact hO1.ahead qs (fun k e => by rw [e]; exact Nat.le_refl _)
        have HL : Hid (leftN B (W1.setCell ⟨B, 0, none⟩ (.string (z.extract (i + 1) z.size))) < leftN B w5) := by
          rw [HF2.out.2.2]
          have e : leftN B (W1.setCell ⟨B, 0, none⟩ (.string (z.extract (i + 1) z.size))) = (z.extract (i + 1) z.size).size := by
            have h := (a1.box.set 0 (.string (z.extract (i + 1) z.size))).cell 0
            simp at h
            unfold leftN; rw [h]
          rw [e]; exact HF2.out.2.1.2
        clear hj1 ho1 hO1 a1
        gi_wp2
        exact ⟨HE.out _ _ _ _ _ _ _ _ _ _ _ _ _ _ _ _ _ _ _ _ _ _ _ _ _ _ _ _ _ _ _ _ _ _ _ _ _ _ _ _ _ _ _ _ _ _ _ _, HL.out⟩
      · have HE : Hid (∀ W', Keeps (fun k => k ∈ []) W1 W' → IterEndsL B J Jx (cutAt 32 s.data.toList) own W (.returned (.tuple #[])) W') := by
          intro W' q
          refine ⟨_, own1, rfl, (HO.out.transR (by omega) ho1).ahead q (fun i e => by cases e), .inr ⟨done ++ [z.data.toList.take i], cutAt 32 (z.data.toList.drop (i + 1)), by rw [HALL.out]; simp, hJx _ _ _ _ hj1 (q.mono (fun _ e => by cases e))⟩⟩
        clear hj1 ho1
        gi_wp2
        refine leaves_marks [] W1 List.nodup_nil (fun _ h => by cases h) (fun W' q _ => ?_)
        exact ⟨_, results_none rfl _ _ _, HE.out _ q⟩

end Go.Proofs.YthgocacabadflaaDoor
