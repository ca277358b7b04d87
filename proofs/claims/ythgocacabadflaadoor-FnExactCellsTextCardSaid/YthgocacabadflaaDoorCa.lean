/-
  The program's contents.format: the text of what the first cells have.
-/
import Derived.Test.YthgocacabadflaaDoorBe
import Derived.Test.YthgocacabadflaaDoorQb
import Derived.Test.YthgocacabadflaaDoorPg
import Derived.WalkKit
import Derived.Lib.Hide
namespace Go.Proofs.YthgocacabadflaaDoor
set_option linter.unusedVariables false
set_option linter.unusedSimpArgs false
open Go.RowKit
open Go.Lib (decDigits)

theorem itoa_natC (u : Nat) : Lib.itoa (u : Int) = decDigits u := by unfold Lib.itoa; rw [if_neg (by omega)]; simp
theorem BuildAt.stabC {B : Nat} {own : Nat → Prop} {b : Nat} {l : List UInt8} {W W' : World} (h : BuildAt W own b l) (q : Keeps (fun k => B ≤ k ∧ ¬ own k) W W') : BuildAt W' own b l := by
  obtain ⟨p, v, hp, hb, hrow, hob, hv⟩ := h
  exact ⟨p, v, hp, q.blk hb (fun e => e.2 hob), q.ownsRow hrow (fun g hg _ e => e.2 (hv g hg).1), hob, hv⟩

/-- The text of a cell, and of the first cells. -/
def cellW (v : Nat) : List UInt8 := if v = 0 then [46] else decDigits v
def rowB (ins : Nat → Nat) : Nat → List UInt8
  | 0 => []
  | n + 1 => (if n = 0 then [] else rowB ins n ++ [32]) ++ cellW (ins n)
theorem cellW_len {v : Nat} (h : v < 1000) : 1 ≤ (cellW v).length ∧ (cellW v).length ≤ 3 := by
  unfold cellW
  by_cases h0 : v = 0
  · rw [if_pos h0]; simp
  · rw [if_neg h0]
    refine ⟨?_, dec_len h⟩
    have hne : decDigits v ≠ [] := by unfold decDigits; split <;> simp
    cases hd : decDigits v with
    | nil => exact absurd hd hne
    | cons a r => simp
theorem rowB_len {ins : Nat → Nat} (h : ∀ i, ins i < 1000) : ∀ n, (rowB ins n).length ≤ 4 * n
  | 0 => by simp [rowB]
  | n + 1 => by
    have ih := rowB_len h n
    have := (cellW_len (h n)).2
    unfold rowB
    rw [List.length_append]
    split <;> simp <;> omega
theorem rowB_ne {ins : Nat → Nat} (h : ∀ i, ins i < 1000) {n : Nat} (hn : n ≠ 0) : rowB ins n ≠ [] := by
  cases n with
  | zero => exact absurd rfl hn
  | succ n =>
    unfold rowB
    have := (cellW_len (h n)).1
    intro e
    have h2 : ((if n = 0 then [] else rowB ins n ++ [32]) ++ cellW (ins n)).length = 0 := by rw [e]; rfl
    rw [List.length_append] at h2
    omega

/-- What the loop of contents.format holds. -/
def CfAt (B : Nat) (ins : Nat → Nat) (N : Nat) (w1 : World) (vi : Value) (wr : World) : Prop :=
  ∃ (i : Nat) (own : Nat → Prop), i ≤ N ∧ vi = .int .i64 (i : Int) ∧ BuildAt wr own B (rowB ins i) ∧ Owns (oneB B) own w1 wr

set_option maxRecDepth 100000 in
set_option maxHeartbeats 8000000 in
theorem cformat_any (R N : Nat) (ins : Nat → Nat) (w : World) (hE : Env w) (hN : N ≤ 600) (hN0 : N ≠ 0) (hins : ∀ i, ins i < 1000) (hR : R < w.heap.size) (hc : ∀ i, i < 600 → w.cell? ⟨R, 1 + i, none⟩ = some (.int .i64 (ins i : Int))) :
    Calls Tryd.prog 65 #[.pointer (some ⟨R, 1, none⟩), .int .i64 (N : Int)] w fun e w' => e = .returned (.string ⟨(rowB ins N).toArray⟩) ∧ Keeps noB w w' := by
  have hz12 := hE.sz
  obtain ⟨B, hB⟩ : ∃ B, B = w.heap.size := ⟨_, rfl⟩
  have HWB : Hid (∀ c : Int, c = 32 ∨ c = 46 → ∀ own W l, BuildAt W own B l → (∀ k, own k → k < W.heap.size) → l.length ≤ 100000000 → Calls Tryd.prog 56 #[.pointer (some ⟨B, 0, none⟩), .int .u8 c] W (WrotePost W own B (l ++ [UInt8.ofNat c.toNat]) .nilIface)) := Lib.hid (fun c hc own W l h h2 h3 => by
    rcases hc with rfl | rfl
    · exact writeByte_any B l 32 own W h h2 h3
    · exact writeByte_any B l 46 own W h h2 h3)
  have HWS : Hid (∀ own W l s, BuildAt W own B l → (∀ k, own k → k < W.heap.size) → l.length + s.size ≤ 100000000 → Calls Tryd.prog 57 #[.pointer (some ⟨B, 0, none⟩), .string s] W (WrotePost W own B (l ++ s.data.toList) (.tuple #[.int .i64 (s.size : Int), .nilIface]))) := Lib.hid (fun own W l s h h2 h3 => writeString_any B l s own W h h2 h3)
  have HST : Hid (∀ own W l, BuildAt W own B l → l ≠ [] → Calls Tryd.prog 47 #[.pointer (some ⟨B, 0, none⟩)] W fun e w' => e = .returned (.string ⟨l.toArray⟩) ∧ Keeps own W w') := Lib.hid (fun own W l h h2 => bstring_any B l own W h h2)
  obtain ⟨w1, hw1⟩ : ∃ w1, w1 = w.alloc (.cells #[.pointer none, .slice none 0 0] 74) := ⟨_, rfl⟩
  have q01 : Keeps noB w w1 := by rw [hw1]; exact (Keeps.refl _ _).alloc _
  have bB : Blk w1 B #[.pointer none, .slice none 0 0] 74 := by rw [hw1, hB]; exact Blk.new _ _ _
  have hs1 : w1.heap.size = B + 1 := by rw [hw1, hB]; simp
  have HP : Hid (CfAt B ins N w1 (.int .i64 0) w1) := Lib.hid ⟨0, oneB B, Nat.zero_le _, rfl, ⟨_, _, .inl rfl, bB, ⟨rfl, .inl ⟨rfl, rfl⟩⟩, rfl, fun g hg => by simp [Value.ownBlock] at hg⟩, Owns.refl (fun k hk => by have : k = B := hk; omega)⟩
  have hown : ∀ own wr, Owns (oneB B) own w1 wr → ∀ k, own k → B ≤ k := fun own wr q k hk => by
    rcases q.more k hk with h | h
    · have : k = B := h; omega
    · omega
  have HC : Hid (∀ own wr, Owns (oneB B) own w1 wr → (∀ i, i < 600 → wr.cell? ⟨R, 1 + i, none⟩ = some (.int .i64 (ins i : Int))) ∧ Env wr ∧ Keeps noB w wr) := Lib.hid (fun own wr q => by
    refine ⟨fun i hi => ?_, (hE.keeps q01 (fun _ _ e => e)).keeps q.keeps (fun k hk e => by have : k = B := e; omega), q01.transNew q.keeps (fun k hk e => by have : k = B := e; omega)⟩
    have c0 := (q01.cell (p := ⟨R, 1 + i, none⟩) hR id).trans (hc i hi)
    exact (q.keeps.cell (p := ⟨R, 1 + i, none⟩) (by show R < _; omega) (fun e => by have : R = B := e; omega)).trans c0)
  have HOW := Lib.hid hown
  have HIN := Lib.hid (And.intro hins (And.intro hN0 (And.intro hs1 hz12)))
  have HLE := Lib.hid (fun i => rowB_len hins i)
  have HB := Lib.hid hB
  have HW1 := Lib.hid hw1
  have hNi : (N : Int) ≤ 600 := by omega
  have hNj : ¬ (600 : Int) < (N : Int) := by omega
  have hNn : ¬ (N : Int) < 0 := by omega
  have hNm : (0 : Int) ≤ (N : Int) := by omega
  have hR2 := Lib.hid hR
  clear hE hins hc hB hw1 q01 bB hs1 hz12 hown hN0 hR
  go_enter Tryd.func65, Tryd.ntmps65
  go_wp2_with fail
  rw [← HW1.out, ← HB.out]
  go_loopw [13] (fun vi wr => CfAt B ins N w1 vi wr) (fun vi _ => N - (intOf vi).toNat)
  case atStart => exact HP.out
  case round =>
    clear HP
    obtain ⟨i, own, hin, rfl, hb, ho⟩ := hrel
    by_cases hlt : i < N
    · have hi1 : (i : Int) < (N : Int) := by omega
      have hi6 : (i : Int) ≤ 600 := by omega
      have hcell := (HC.out own wr ho).1 i (by omega)
      have hE1 := (HC.out own wr ho).2.1
      have hlen := HLE.out i
      have hci := HIN.out.1 i
      obtain ⟨v, hv⟩ : ∃ v, v = ins i := ⟨_, rfl⟩
      rw [← hv] at hcell hci
      obtain ⟨x, hx⟩ : ∃ x : Int, x = (v : Int) := ⟨_, rfl⟩
      rw [← hx] at hcell
      have hnext : rowB ins (i + 1) = (if i = 0 then [] else rowB ins i ++ [32]) ++ cellW v := by rw [hv]; rfl
      obtain ⟨T, hT⟩ : ∃ T, T = rowB ins i := ⟨_, rfl⟩
      rw [← hT] at hb hlen hnext
      have hTl : T.length ≤ 2400 := by omega
      have hT0 : i = 0 → T = [] := fun h => by rw [hT, h]; rfl
      have HO := Lib.hid (And.intro hb (And.intro ho hE1))
      clear hb ho hE1 hT hlen
      by_cases hi0 : i = 0
      · have hz : ¬ (0 : Int) < (i : Int) := by omega
        obtain ⟨T2, hT2⟩ : ∃ T2 : List UInt8, T2 = [] := ⟨_, rfl⟩
        rw [hT0 hi0, ← hT2] at HO
        rw [← hT2] at hnext
        have hTl2 : T2.length ≤ 2400 := by rw [hT2]; simp
        have HI0 := Lib.hid hi0
        clear hT2 hi0
        by_cases hz0 : v = 0
        · have hx0 : (x == 0) = true := by rw [hx, hz0]; rfl
          have hcw : cellW v = [46] := by unfold cellW; rw [if_pos hz0]
          have HF := Lib.hid (And.intro hnext hcw)
          clear hx hv hci hnext hcw hz0 hT0
          go_wp2_with fail
          refine (HWB.out 46 (.inr rfl) _ _ _ HO.out.1 HO.out.2.1.lt (by omega)).mono ?_
          rintro e w5 ⟨rfl, own5, ho5, hb5⟩
          have HE : Hid (CfAt B ins N w1 (.int .i64 ((i : Int) + 1)) w5) := Lib.hid ⟨i + 1, own5, hlt, by go_num, by rw [HF.out.1, HF.out.2, if_pos HI0.out]; exact hb5, HO.out.2.1.trans ho5⟩
          clear ho5 hb5
          go_wp2_with fail
          go_roundw
          case rel => exact HE.out
          case measure => simp [intOf]; omega
        · have hx0 : (x == 0) = false := by rw [hx, beq_eq_false_iff_ne]; omega
          obtain ⟨D, hD⟩ : ∃ D : ByteArray, D = ⟨(decDigits v).toArray⟩ := ⟨_, rfl⟩
          have hDs : D.size ≤ 3 := by rw [hD]; show (decDigits v).toArray.size ≤ 3; simpa using dec_len hci
          have HIT : Hid (∀ W, Env W → Calls Tryd.prog 71 #[.int .i64 x] W fun e w' => e = .returned (.string D) ∧ Keeps noB W w') := Lib.hid (fun W hW => by
            rw [hD, ← itoa_natC, hx]
            exact itoa_lib (v : Int) (by omega) (by omega) W hW)
          have hcw : cellW v = D.data.toList := by unfold cellW; rw [if_neg hz0, hD]
          have HF := Lib.hid (And.intro hnext hcw)
          clear hx hv hci hnext hcw hz0 hT0 hD
          go_wp2_with fail
          refine (HIT.out _ HO.out.2.2).mono ?_
          rintro e w6 ⟨rfl, q6⟩
          have H6 := Lib.hid q6
          clear q6
          go_wp2_with fail
          refine (HWS.out _ _ _ D (HO.out.1.stabC (B := 0) (H6.out.mono (fun _ e => e.elim))) (fun k hk => Nat.lt_of_lt_of_le (HO.out.2.1.lt k hk) H6.out.size) (by first | omega | (simp; omega))).mono ?_
          rintro e w5 ⟨rfl, own5, ho5, hb5⟩
          have HE : Hid (CfAt B ins N w1 (.int .i64 ((i : Int) + 1)) w5) := Lib.hid ⟨i + 1, own5, hlt, by go_num, by rw [HF.out.1, HF.out.2, if_pos HI0.out]; exact hb5, (HO.out.2.1.ahead H6.out (fun _ e => e.elim)).trans ho5⟩
          clear ho5 hb5
          go_wp2_with fail
          go_roundw
          case rel => exact HE.out
          case measure => simp [intOf]; omega
      · have hz : (0 : Int) < (i : Int) := by omega
        by_cases hz0 : v = 0
        · have hx0 : (x == 0) = true := by rw [hx, hz0]; rfl
          have hcw : cellW v = [46] := by unfold cellW; rw [if_pos hz0]
          have HF := Lib.hid (And.intro hnext hcw)
          clear hx hv hci hnext hcw hz0 hT0
          go_wp2_with fail
          refine (HWB.out 32 (.inl rfl) _ _ _ HO.out.1 HO.out.2.1.lt (by omega)).mono ?_
          rintro e w4 ⟨rfl, own4, ho4, hb4⟩
          have H4 := Lib.hid (And.intro ho4 hb4)
          clear ho4 hb4
          go_wp2_with fail
          refine (HWB.out 46 (.inr rfl) _ _ _ H4.out.2 H4.out.1.lt (by rw [List.length_append]; show T.length + 1 ≤ _; omega)).mono ?_
          rintro e w5 ⟨rfl, own5, ho5, hb5⟩
          have HE : Hid (CfAt B ins N w1 (.int .i64 ((i : Int) + 1)) w5) := Lib.hid ⟨i + 1, own5, hlt, by go_num, by rw [HF.out.1, HF.out.2, if_neg hi0]; exact hb5, (HO.out.2.1.trans H4.out.1).trans ho5⟩
          clear ho5 hb5
          go_wp2_with fail
          go_roundw
          case rel => exact HE.out
          case measure => simp [intOf]; omega
        · have hx0 : (x == 0) = false := by rw [hx, beq_eq_false_iff_ne]; omega
          obtain ⟨D, hD⟩ : ∃ D : ByteArray, D = ⟨(decDigits v).toArray⟩ := ⟨_, rfl⟩
          have hDs : D.size ≤ 3 := by rw [hD]; show (decDigits v).toArray.size ≤ 3; simpa using dec_len hci
          have HIT : Hid (∀ W, Env W → Calls Tryd.prog 71 #[.int .i64 x] W fun e w' => e = .returned (.string D) ∧ Keeps noB W w') := Lib.hid (fun W hW => by
            rw [hD, ← itoa_natC, hx]
            exact itoa_lib (v : Int) (by omega) (by omega) W hW)
          have hcw : cellW v = D.data.toList := by unfold cellW; rw [if_neg hz0, hD]
          have HF := Lib.hid (And.intro hnext hcw)
          clear hx hv hci hnext hcw hz0 hT0 hD
          go_wp2_with fail
          refine (HWB.out 32 (.inl rfl) _ _ _ HO.out.1 HO.out.2.1.lt (by omega)).mono ?_
          rintro e w4 ⟨rfl, own4, ho4, hb4⟩
          have H4 := Lib.hid (And.intro ho4 hb4)
          clear ho4 hb4
          go_wp2_with fail
          refine (HIT.out _ (HC.out _ _ (HO.out.2.1.trans H4.out.1)).2.1).mono ?_
          rintro e w6 ⟨rfl, q6⟩
          have H6 := Lib.hid q6
          clear q6
          go_wp2_with fail
          refine (HWS.out _ _ _ D (H4.out.2.stabC (B := 0) (H6.out.mono (fun _ e => e.elim))) (fun k hk => Nat.lt_of_lt_of_le (H4.out.1.lt k hk) H6.out.size) (by rw [List.length_append]; show T.length + 1 + _ ≤ _; omega)).mono ?_
          rintro e w5 ⟨rfl, own5, ho5, hb5⟩
          have HE : Hid (CfAt B ins N w1 (.int .i64 ((i : Int) + 1)) w5) := Lib.hid ⟨i + 1, own5, hlt, by go_num, by rw [HF.out.1, HF.out.2, if_neg hi0]; exact hb5, ((HO.out.2.1.trans H4.out.1).ahead H6.out (fun _ e => e.elim)).trans ho5⟩
          clear ho5 hb5
          go_wp2_with fail
          go_roundw
          case rel => exact HE.out
          case measure => simp [intOf]; omega
    · have hi1 : ¬ (i : Int) < (N : Int) := by omega
      have hiN : i = N := by omega
      subst hiN
      have hne := rowB_ne HIN.out.1 HIN.out.2.1
      have HO := Lib.hid (And.intro hb (And.intro ho hne))
      clear hb ho hne
      go_wp2_with fail
      refine (HST.out _ _ _ HO.out.1 HO.out.2.2).mono ?_
      rintro e w5 ⟨rfl, q5⟩
      have HE : Hid (Keeps noB w w5) := Lib.hid ((HC.out _ _ HO.out.2.1).2.2.transNew q5 (fun k hk e => by have := HOW.out _ _ HO.out.2.1 k e; have := HB.out; omega))
      clear q5
      go_wp2_with fail
      go_ret
      exact ⟨rfl, HE.out⟩

end Go.Proofs.YthgocacabadflaaDoor
