/-
  Walks of the law's own helper markText.
-/
import Derived.Test.YtkfcgamdlckncaaTaa
import Derived.Test.YtkfcgamdlckncaaTz
namespace Go.Proofs.Ytkfcgamdlckncaa
set_option linter.unusedVariables false
set_option linter.unusedSimpArgs false
open Go.RowKit

/-- The text with which the laws mark a string. -/
def markT (k : Nat) : List UInt8 := 109 :: Lib.decDigits k

/-- What the loop of markText holds. -/
def MarkTAt (w : World) (n : Nat) (v0 v3 : Value) (wr : World) : Prop :=
  ∃ (m : Nat) (out : ByteArray), v0 = .int .i64 (m : Int) ∧ v3 = .string out ∧ (m ≠ 0 → Lib.decDigits m ++ out.data.toList = Lib.decDigits n) ∧ (m = 0 → out.data.toList = Lib.decDigits n) ∧ out.size + m ≤ n ∧ Keeps noB w wr

set_option maxRecDepth 100000 in
set_option maxHeartbeats 2000000 in
theorem markText_any (n : Nat) (hn : n ≤ 1000000) (h0 : 0 < n) (w : World) : Calls Try.prog 57 #[.int .i64 (n : Int)] w (fun e w' => e = .returned (str (markT n)) ∧ Keeps noB w w') := by
  have HP : Hid (MarkTAt w n (.int .i64 (n : Int)) (.string ⟨#[]⟩) w) := ⟨n, ⟨#[]⟩, rfl, rfl, fun _ => List.append_nil _, fun e => by omega, Nat.le_of_eq (Nat.zero_add n), Keeps.refl _ _⟩
  have hn2 : ¬ (n : Int) ≤ 0 := by omega
  go_enter Try.func57, Try.ntmps57
  go_wp2_with fail
  go_loopw [0, 3] (fun v0 v3 wr => MarkTAt w n v0 v3 wr) (fun v0 _ _ => (intOf v0).toNat)
  case atStart => exact HP.out
  case round =>
    clear HP hn2
    obtain ⟨m, out, rfl, rfl, hd, hd0, hmn, q⟩ := hrel
    have hos' : 1 + out.size ≤ 9223372036854775807 := by omega
    by_cases h9 : 0 < m
    · obtain ⟨c, hce⟩ : ∃ c, UInt8.ofNat (48 + m % 10) = c := ⟨_, rfl⟩
      have hc := digit_nat (k := m % 10) (by omega)
      rw [hce] at hc
      have hconv := fun W => conv_new W wr.heap.size c
      rw [hc] at hconv
      have ht : (m : Int).tmod 10 = ((m % 10 : Nat) : Int) := (Int.ofNat_tmod m 10).symm
      have hq : (m : Int).tdiv 10 = ((m / 10 : Nat) : Int) := (Int.ofNat_tdiv m 10).symm
      have hdm := hd (by omega)
      have HN : Hid (∀ W, Keeps noB wr W → MarkTAt w n (.int .i64 ((m / 10 : Nat) : Int)) (.string (⟨#[c]⟩ ++ out)) W ∧ (intOf (.int .i64 ((m / 10 : Nat) : Int))).toNat < (intOf (.int .i64 (m : Int))).toNat) := fun W qq =>
        ⟨⟨m / 10, _, rfl, rfl, fun hne => by
          rw [ByteArray.data_append, Array.toList_append, ← List.append_assoc]
          show (Lib.decDigits (m / 10) ++ [c]) ++ _ = _
          rw [← hce, ← dec_big (by omega)]; exact hdm, fun he => by
          have hml : m % 10 = m := by omega
          rw [ByteArray.data_append, Array.toList_append, ← hdm, dec_small (by omega), ← hce, hml], by rw [ByteArray.size_append]; show 1 + out.size + _ ≤ _; omega, q.trans qq⟩, by simp [intOf]; omega⟩
      have hr0 : (0 : Int) ≤ ((m % 10 : Nat) : Int) := by omega
      have hr1 : ((m % 10 : Nat) : Int) ≤ 9 := by omega
      have hq0 : (0 : Int) ≤ ((m / 10 : Nat) : Int) := by omega
      have hq1 : ((m / 10 : Nat) : Int) ≤ 1000000 := by omega
      have hm1 : (m : Int) ≤ 1000000 := by omega
      have h9' : (0 : Int) < (m : Int) := by omega
      have hwr : IntKind.u8.wrap (48 + ((m % 10 : Nat) : Int)) = 48 + ((m % 10 : Nat) : Int) := by rw [IntKind.wrap]; simp [IntKind.signed, IntKind.bits]; omega
      clear hd hd0 hc q h9 hce hmn hdm
      generalize ((m % 10 : Nat) : Int) = r at *
      generalize ((m / 10 : Nat) : Int) = d at *
      go_wp2_with fail
      refine HN.out _ ((Keeps.refl _ _).alloc _)
    · have hm0 : m = 0 := by omega
      subst hm0
      have HE : Hid (Value.string (⟨#[109]⟩ ++ out) = str (markT n) ∧ Keeps noB w wr) :=
        ⟨str_eq (by rw [ByteArray.data_append, Array.toList_append, hd0 rfl]; rfl), q⟩
      clear hd hd0 q h9 hmn
      go_wp2_with fail
      go_ret
      exact ⟨congrArg Ending.returned HE.out.1, HE.out.2⟩

end Go.Proofs.Ytkfcgamdlckncaa
