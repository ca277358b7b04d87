/-
  The model's l13Dec: a number in decimal.
-/
import Derived.Test.YthgocacabadflaaDoorSx
namespace Go.Proofs.YthgocacabadflaaDoor
set_option linter.unusedVariables false
set_option linter.unusedSimpArgs false
open Go.RowKit
open Go.Lib (decDigits)

theorem conv_byte (w : World) (c : UInt8) (n : Int) (hn : n = (c.toNat : Int)) : (convert 72 9 (.slice (some ⟨w.heap.size, 0, none⟩) 1 1)).run Tryd.prog (w.alloc (.cells #[.int .u8 n] 5)) = .ok (.string ⟨#[c]⟩) (w.alloc (.cells #[.int .u8 n] 5)) := by
  subst hn
  have h := fun hh => run_convert_bytes_back (P := Tryd.prog) (w.alloc (.cells #[.int .u8 (c.toNat : Int)] 5)) 72 9 5 ⟨w.heap.size, 0, none⟩ 1 [c] Tryd.underlying72 Tryd.underlying5 Tryd.underlying9 hh
  refine h (fun j hj => ?_)
  obtain rfl : j = 0 := by simpa using hj
  exact cells_one w (.int .u8 (c.toNat : Int)) 5 0 _ rfl

/-- What the loop of l13Dec holds. -/
def DcAt (n0 : Nat) (w : World) (v0 v3 : Value) (wr : World) : Prop :=
  ∃ (m : Nat) (d : List UInt8), v0 = .int .i64 (m : Int) ∧ v3 = str d ∧ decDigits n0 = decDigits m ++ d ∧ m ≤ n0 ∧ Keeps noB w wr

set_option maxRecDepth 100000 in
set_option maxHeartbeats 2000000 in
theorem dec_any (n0 : Nat) (h : n0 < 1000) (w : World) : Calls Tryd.prog 44 #[.int .i64 (n0 : Int)] w fun e w' => e = .returned (str (decDigits n0)) ∧ Keeps noB w w' := by
  have HP : Hid (DcAt n0 w (.int .i64 (n0 : Int)) (.string ⟨#[]⟩) w) := ⟨n0, [], rfl, rfl, by simp, Nat.le_refl _, Keeps.refl _ _⟩
  have h0 : ¬ (n0 : Int) < 0 := by omega
  have h1 : ¬ (n0 : Int) < -9223372036854775807 := by omega
  go_enter Tryd.func44, Tryd.ntmps44
  go_wp2_with fail
  clear h0 h1
  go_loopw [0, 3] (fun v0 v3 wr => DcAt n0 w v0 v3 wr) (fun v0 _ _ => (intOf v0).toNat)
  case atStart => exact HP.out
  case round =>
    clear HP
    obtain ⟨m, d, rfl, rfl, hd, hm, hq⟩ := hrel
    have hd3 : (⟨d.toArray⟩ : ByteArray).size ≤ 3 := by
      have h1 := dec_len h
      rw [hd, List.length_append] at h1
      have e : (⟨d.toArray⟩ : ByteArray).size = d.length := by show d.toArray.size = _; simp
      omega
    unfold str
    have HD := Lib.hid (And.intro hd hq)
    by_cases h9 : 9 < m
    · have h91 : (9 : Int) < (m : Int) := by omega
      have hm6 : (m : Int) ≤ 1000 := by omega
      have hm0 : (0 : Int) ≤ (m : Int) := by omega
      obtain ⟨c, hc⟩ : ∃ c, c = UInt8.ofNat (48 + m % 10) := ⟨_, rfl⟩
      have hcv := conv_byte wr c (48 + (m : Int) % 10) (by rw [hc, dig_nat (by omega)]; omega)
      have HC := Lib.hid hc
      clear hc
      have hs1 : (⟨#[c]⟩ : ByteArray).size = 1 := rfl
      have hs2 : (⟨#[c]⟩ : ByteArray).size + (⟨d.toArray⟩ : ByteArray).size ≤ 9223372036854775807 := by omega
      have hs3 : 1 + (⟨d.toArray⟩ : ByteArray).size ≤ 9223372036854775807 := by omega
      clear hd hq
      go_wp2_with fail
      have hrel : DcAt n0 w (.int .i64 ((m : Int) / 10)) (.string (⟨#[c]⟩ ++ ⟨d.toArray⟩)) (wr.alloc (.cells #[.int .u8 (48 + (m : Int) % 10)] 5)) := by
        refine ⟨m / 10, c :: d, by simp, ?_, ?_, by omega, HD.out.2.alloc _⟩
        · unfold str
          congr 1
        · rw [HD.out.1, dec_big (by omega : ¬ m < 10), HC.out]; simp
      go_roundw
      case rel => exact hrel
      case measure => simp [intOf]; omega
    · have h91 : ¬ (9 : Int) < (m : Int) := by omega
      have hm0 : (0 : Int) ≤ (m : Int) := by omega
      obtain ⟨c, hc⟩ : ∃ c, c = UInt8.ofNat (48 + m) := ⟨_, rfl⟩
      have hcv := conv_byte wr c (48 + (m : Int)) (by rw [hc, dig_nat (by omega)]; omega)
      have HC := Lib.hid hc
      clear hc
      have hs1 : (⟨#[c]⟩ : ByteArray).size = 1 := rfl
      have hs2 : (⟨#[c]⟩ : ByteArray).size + (⟨d.toArray⟩ : ByteArray).size ≤ 9223372036854775807 := by omega
      have hs3 : 1 + (⟨d.toArray⟩ : ByteArray).size ≤ 9223372036854775807 := by omega
      clear hd hq
      go_wp2_with fail
      go_ret
      refine ⟨?_, HD.out.2.alloc _⟩
      rw [HD.out.1, dec_small (by omega : m < 10), ← HC.out]
      rfl

end Go.Proofs.YthgocacabadflaaDoor
