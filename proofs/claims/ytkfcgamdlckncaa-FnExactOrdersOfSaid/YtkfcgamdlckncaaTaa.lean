/-
  The digits of a number.
-/
import Derived.Test.YtkfcgamdlckncaaPureW
import Derived.Lib.ItoaNum
namespace Go.Proofs.Ytkfcgamdlckncaa
set_option linter.unusedVariables false
set_option linter.unusedSimpArgs false

theorem dec_small {n : Nat} (h : n ≤ 9) : Lib.decDigits n = [UInt8.ofNat (48 + n)] := by rw [Lib.decDigits, dif_pos (by omega)]
theorem dec_big {n : Nat} (h : 9 < n) : Lib.decDigits n = Lib.decDigits (n / 10) ++ [UInt8.ofNat (48 + n % 10)] := by rw [Lib.decDigits, dif_neg (by omega)]

theorem dec_len : ∀ (j u : Nat), u < 10 ^ (j + 1) → (Lib.decDigits u).length ≤ j + 1
  | 0, u, h => by
    have h9 : u ≤ 9 := by rw [Nat.zero_add, Nat.pow_one] at h; omega
    rw [dec_small h9]; exact Nat.le_refl _
  | j + 1, u, h => by
    by_cases h9 : u ≤ 9
    · rw [dec_small h9]; simp
    · rw [dec_big (by omega), List.length_append]
      have := dec_len j (u / 10) (by rw [Nat.pow_succ] at h; omega)
      simp; omega

theorem digit_nat {k : Nat} (h : k ≤ 9) : ((UInt8.ofNat (48 + k)).toNat : Int) = 48 + (k : Int) := by
  rw [UInt8.toNat_ofNat']
  omega

end Go.Proofs.Ytkfcgamdlckncaa
