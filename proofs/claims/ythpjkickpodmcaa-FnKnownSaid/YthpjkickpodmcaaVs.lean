/-
  Walks of the model's holder: l3At; what it says against what is known.
-/
import Derived.Test.YthpjkickpodmcaaVsb
namespace Go.Proofs.Ythpjkickpodmcaa
set_option linter.unusedVariables false
set_option linter.unusedSimpArgs false
open Go.RowKit

/-! ### l3At -/
/-- What is noted at a point of a text. -/
def atK (s : ByteArray) (at_ : Int) : Option Kn := match progP s with | none => none | some x => noteI (notesP x) at_

theorem resLat (W : World) (N : Nat) (a b : ByteArray) (c bv : Bool) (tmps : Array Value) (ht : tmps.getD 4 undef = .pointer (some ⟨N, 0, none⟩)) (hv : tmps.getD 5 undef = .bool bv)
    (q0 : W.cell? ⟨N, 0, none⟩ = some (.string a)) (q1 : W.cell? ⟨N, 1, none⟩ = some (.string b)) (q2 : W.cell? ⟨N, 2, none⟩ = some (.bool c)) : (results Try.f52 tmps).run Try.prog W = .ok (.tuple #[.agg #[.string a, .string b, .bool c], .bool bv]) W := by
  have ht' : tmps[4]?.getD undef = .pointer (some ⟨N, 0, none⟩) := by simpa using ht
  have hv' : tmps[5]?.getD undef = .bool bv := by simpa using hv
  simp [results, Try.results52, go_sem, ht', hv', q0, q1, q2]

set_option maxRecDepth 100000 in
set_option maxHeartbeats 2000000 in
theorem slat_any (s : ByteArray) (hs : s.size ≤ 1048576) (at_ : Int) (w : World) : Calls Try.prog 52 #[.string s, .int .i64 at_] w (fun e w' => e = .returned (.tuple #[stV ((atK s at_).getD Kn.no), .bool (atK s at_).isSome]) ∧ Keeps noB w w') := by
  have H := Lib.hid (sread_any s hs (w.alloc (.cells #[.string ⟨#[]⟩, .string ⟨#[]⟩, .bool false] 86)))
  have HZ := Lib.hid (Blk.new w #[.string ⟨#[]⟩, .string ⟨#[]⟩, .bool false] 86)
  have q0 : Keeps noB w (w.alloc (.cells #[.string ⟨#[]⟩, .string ⟨#[]⟩, .bool false] 86)) := (Keeps.refl _ _).alloc _
  have HQ0 := Lib.hid q0
  clear q0
  unfold atK
  cases hp : progP s with
  | none =>
    rw [hp] at H
    show Calls _ _ _ _ (fun e w' => e = .returned (.tuple #[stV Kn.no, .bool false]) ∧ Keeps noB w w')
    rw [stV_no]
    clear hp
    go_enter Try.func52, Try.ntmps52
    go_wp2_with fail
    refine H.out.mono ?_
    rintro e w1 ⟨⟨x0, x1, x2, x3, x4, x5, x6, x7, rfl⟩, q1⟩
    have hnv : nodeV x0 x1 x2 x3 x4 x5 x6 x7 = .agg #[.int .u8 x0, .int .i64 x1, .int .i64 x2, .string x3, .slice x4 x5 x6, .string x7] := rfl
    have n1 := q1.blk HZ.out id
    have hn1 := n1.lt
    have hn2 : ¬ w.heap.size = w1.heap.size := by omega
    have r0 : w1.cell? ⟨w.heap.size, 0, none⟩ = some (.string ⟨#[]⟩) := (n1.cell 0).trans rfl
    have r1 : w1.cell? ⟨w.heap.size, 1, none⟩ = some (.string ⟨#[]⟩) := (n1.cell 1).trans rfl
    have r2 : w1.cell? ⟨w.heap.size, 2, none⟩ = some (.bool false) := (n1.cell 2).trans rfl
    have z := fun i => Blk.free n1 i
    have HF := Lib.hid (fun (o : Obj) (x y u : Value) => (((n1.set 0 x).set 1 y).set 2 u).alloc o)
    have HK : Hid (∀ (o : Obj) (x y u : Value), Keeps noB w ((((w1.setCell ⟨w.heap.size, 0, none⟩ x).setCell ⟨w.heap.size, 1, none⟩ y).setCell ⟨w.heap.size, 2, none⟩ u).alloc o)) := fun o x y u =>
      ((((HQ0.out.trans q1).setCell (p := ⟨w.heap.size, 0, none⟩) (.inr (Nat.le_refl _)) _).setCell (p := ⟨w.heap.size, 1, none⟩) (.inr (Nat.le_refl _)) _).setCell (p := ⟨w.heap.size, 2, none⟩) (.inr (Nat.le_refl _)) _).alloc o
    clear n1 q1
    go_wp2_with fail
    exact bodyPost_ret (resLat _ w.heap.size ⟨#[]⟩ ⟨#[]⟩ false false _ rfl rfl (((HF.out _ _ _ _).cell 0).trans rfl) (((HF.out _ _ _ _).cell 1).trans rfl) (((HF.out _ _ _ _).cell 2).trans rfl)) rfl ⟨rfl, HK.out _ _ _ _⟩
  | some x =>
    rw [hp] at H
    show Calls _ _ _ _ (fun e w' => e = .returned (.tuple #[stV ((noteI (notesP x) at_).getD Kn.no), .bool (noteI (notesP x) at_).isSome]) ∧ Keeps noB w w')
    obtain ⟨_, h2, _, _, _, h6⟩ := progP_ok hp
    have hX := Nd.shC h6 x 0 h2 (progP_sp hp) (progP_fit hp)
    have hfin := h2.good.le
    have HL := Lib.hid (fun w1 ok hok a n m hrep => lfind_any x (progP_sp hp) (by omega) hX w1 ok hok a n m hrep)
    have HA : Hid (∀ l w1 own h va vs, HoldAt w1 own h l va vs → lookL l = notesP x → Calls Try.prog 72 #[.pointer (some ⟨h, 0, none⟩), .int .i64 at_] w1 (fun e w' => e = .returned (.tuple #[.agg #[.string (mayB ((noteI (notesP x) at_).getD Kn.no)), .string (mustB ((noteI (notesP x) at_).getD Kn.no)), .bool (liveK ((noteI (notesP x) at_).getD Kn.no))], .bool (noteI (notesP x) at_).isSome]) ∧ Keeps noB w1 w')) := fun l w1 own h va vs hH hM => by
      have := hat_any at_ l w1 own h va vs hH
      rw [hM, stV_eq] at this
      exact this
    rw [stV_eq]
    generalize (noteI (notesP x) at_).getD Kn.no = r at *
    generalize (noteI (notesP x) at_).isSome = bv at *
    clear hX hfin h2 h6 hp
    go_enter Try.func52, Try.ntmps52
    go_wp2_with fail
    refine H.out.mono ?_
    rintro e w1 ⟨x0, x1, x2, x3, x4, x5, x6, x7, rfl, hrep, q1⟩
    have hnv : nodeV x0 x1 x2 x3 x4 x5 x6 x7 = .agg #[.int .u8 x0, .int .i64 x1, .int .i64 x2, .string x3, .slice x4 x5 x6, .string x7] := rfl
    have hL : Hid (∀ w2, Keeps noB w1 w2 → Calls Try.prog 71 #[.agg #[.int .u8 x0, .int .i64 x1, .int .i64 x2, .string x3, .slice x4 x5 x6, .string x7]] w2 (fun e w' => ∃ own h l va vs, e = .returned (.pointer (some ⟨h, 0, none⟩)) ∧ HoldAt w' own h l va vs ∧ lookL l = notesP x ∧ (∀ g, own g → w2.heap.size ≤ g) ∧ Keeps noB w2 w')) := fun w2 q2 => by
      obtain ⟨c, b, e', vs, ar, bs⟩ := x
      have hr2 := hrep
      simp only [RepS] at hr2
      obtain ⟨vb, n', xs, hcs, _, _⟩ := hr2
      simp [six, u8, i64, str] at hcs
      obtain ⟨rfl, rfl, rfl, rfl, rfl, rfl⟩ := hcs
      have hh : Hands w1 w2 (fromB (w.alloc (.cells #[.string ⟨#[]⟩, .string ⟨#[]⟩, .bool false] 86)).heap.size) (fun i => i < w2.heap.size) := Hands.of_keeps q2 (fun _ _ _ e => e.elim) (fun i _ hl => Nat.lt_of_lt_of_le hl q2.size)
      exact HL.out w2 (fun i => i < w2.heap.size) (fun _ h => h) x4 x5 x6 (hh.repS _ _ hrep)
    have n1 := q1.blk HZ.out id
    have hn1 := n1.lt
    have hn2 : ¬ w.heap.size = w1.heap.size := by omega
    have HN := Lib.hid n1
    have HQ := Lib.hid (HQ0.out.trans q1)
    clear n1 q1 hrep HL
    go_wp2_with (first
      | (go_at_call 71; refine (hL.out _ ((Keeps.refl _ _).alloc _)).mono ?_; rintro e2 w2 ⟨own, h, l, va, vs, rfl, hH, hM, _, q2⟩
         have hb2 := q2.blk (HN.out.alloc _) id
         have HQ2 := Lib.hid ((HQ.out.alloc _).trans q2)
         have HB2 := Lib.hid hb2
         have HA2 := Lib.hid (HA.out l w2 own h va vs hH hM)
         clear hH hM q2 hb2)
      | (go_at_call 72; refine HA2.out.mono ?_; rintro e3 w3 ⟨rfl, q3⟩
         have n3 := q3.blk HB2.out id
         have r0 : w3.cell? ⟨w.heap.size, 0, none⟩ = some (.string ⟨#[]⟩) := (n3.cell 0).trans rfl
         have r1 : w3.cell? ⟨w.heap.size, 1, none⟩ = some (.string ⟨#[]⟩) := (n3.cell 1).trans rfl
         have r2 : w3.cell? ⟨w.heap.size, 2, none⟩ = some (.bool false) := (n3.cell 2).trans rfl
         have z := fun i => Blk.free n3 i
         have HF := Lib.hid (fun (x y u : Value) => ((n3.set 0 x).set 1 y).set 2 u)
         have HK : Hid (∀ (x y u : Value), Keeps noB w (((w3.setCell ⟨w.heap.size, 0, none⟩ x).setCell ⟨w.heap.size, 1, none⟩ y).setCell ⟨w.heap.size, 2, none⟩ u)) := fun x y u =>
           (((HQ2.out.trans q3).setCell (p := ⟨w.heap.size, 0, none⟩) (.inr (Nat.le_refl _)) _).setCell (p := ⟨w.heap.size, 1, none⟩) (.inr (Nat.le_refl _)) _).setCell (p := ⟨w.heap.size, 2, none⟩) (.inr (Nat.le_refl _)) _
         clear n3 q3))
    exact bodyPost_ret (resLat _ w.heap.size _ _ _ bv _ rfl rfl (((HF.out _ _ _).cell 0).trans rfl) (((HF.out _ _ _).cell 1).trans rfl) (((HF.out _ _ _).cell 2).trans rfl)) rfl ⟨rfl, HK.out _ _ _⟩

/-! ### the faces -/
theorem known_at (s : ByteArray) (at_ : Int) : knownP s at_ = seenK (atK s at_) := by
  unfold knownP atK
  cases progP s <;> rfl
theorem may_at (s : ByteArray) (at_ : Int) : mayT (knownP s at_) = mayB ((atK s at_).getD Kn.no) := by
  rw [known_at]
  cases h : atK s at_ with
  | none => simp only [seenK, mayT, Option.getD]; unfold mayB; rw [mayL_no]
  | some k =>
    simp only [seenK, Option.getD]
    by_cases hn : k = Kn.no
    · rw [if_pos hn, hn]; simp only [mayT]; unfold mayB; rw [mayL_no]
    · rw [if_neg hn]; rfl
theorem must_at (s : ByteArray) (at_ : Int) : mustT (knownP s at_) = mustB ((atK s at_).getD Kn.no) := by
  rw [known_at]
  cases h : atK s at_ with
  | none => simp only [seenK, mustT, Option.getD]; unfold mustB; rw [mustL_no]
  | some k =>
    simp only [seenK, Option.getD]
    by_cases hn : k = Kn.no
    · rw [if_pos hn, hn]; simp only [mustT]; unfold mustB; rw [mustL_no]
    · rw [if_neg hn]; simp only [mustT]; unfold mustB; rw [mustL_live hn]
theorem some_at (s : ByteArray) (at_ : Int) : (knownP s at_).isSome = ((atK s at_).isSome && liveK ((atK s at_).getD Kn.no)) := by
  rw [known_at]
  cases h : atK s at_ with
  | none => rfl
  | some k =>
    simp only [seenK, Option.getD]
    by_cases hn : k = Kn.no
    · rw [if_pos hn, hn, liveK_no]; rfl
    · rw [if_neg hn, liveK_yes hn]; rfl

end Go.Proofs.Ythpjkickpodmcaa
