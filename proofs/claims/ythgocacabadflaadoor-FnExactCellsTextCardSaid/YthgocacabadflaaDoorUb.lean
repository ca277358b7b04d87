/-
  The model's l8Free and l8Count.
-/
import Derived.Test.YthgocacabadflaaDoorUa
import Derived.Test.YthgocacabadflaaDoorSv
namespace Go.Proofs.YthgocacabadflaaDoor
set_option linter.unusedVariables false
set_option linter.unusedSimpArgs false
open Go.RowKit

theorem inB_mem (l : List Nat) (n : Nat) : inB l (n : Int) = decide (n ∈ l) := by
  unfold inB
  by_cases h : n ∈ l
  · rw [decide_eq_true h, List.any_eq_true]
    exact ⟨n, h, by simp⟩
  · rw [decide_eq_false h, List.any_eq_false]
    intro m hm e
    have e : (m : Int) = (n : Int) := of_decide_eq_true e
    have : m = n := by omega
    exact h (this ▸ hm)

set_option maxRecDepth 100000 in
set_option maxHeartbeats 4000000 in
theorem free_any (v : Value) (T : List Nat) (w : World) (h : NRow w v T) (hl : T.length ≤ 1000) : Calls Tryd.prog 63 #[v] w fun e w' => e = .returned (.int .i64 (freeN T : Int)) ∧ w' = w := by
  have HIN := Lib.hid (fun n : Int => in_any v T n w h (by omega))
  obtain ⟨a, c, rfl⟩ := h.shape
  obtain ⟨N, hN⟩ : ∃ N, N = T.length := ⟨_, rfl⟩
  have HN := Lib.hid hN
  rw [← hN] at hl HIN ⊢
  clear h hN
  go_enter Tryd.func63, Tryd.ntmps63
  go_wp2_with fail
  go_loopw [3] (fun vn wr => ∃ n : Nat, n ≤ N ∧ vn = .int .i64 (n : Int) ∧ (∀ m, m < n → m ∈ T) ∧ wr = w) (fun vn _ => N + 1 - (intOf vn).toNat)
  case atStart => exact ⟨0, Nat.zero_le _, rfl, fun m h => absurd h (Nat.not_lt_zero _), rfl⟩
  case round =>
    obtain ⟨n, hn, rfl, hall, rfl⟩ := hrel
    by_cases hm : n ∈ T
    · have hall1 : ∀ m, m < n + 1 → m ∈ T := fun m h => by
        by_cases e : m = n
        · rw [e]; exact hm
        · exact hall m (by omega)
      have hn1 : n + 1 ≤ N := by rw [HN.out]; exact cover_len (n + 1) T hall1
      have HI : Hid (Calls Tryd.prog 50 #[.slice a N c, .int .i64 (n : Int)] wr fun e w' => e = .returned (.bool true) ∧ w' = wr) := by
        have := HIN.out (n : Int)
        rw [inB_mem, decide_eq_true hm] at this
        exact this
      have HE := Lib.hid hall1
      clear hm hall hall1
      go_wp2_with (go_at_call 50; refine HI.out.mono ?_; rintro e w5 ⟨rfl, rfl⟩)
      go_roundw
      case rel => exact ⟨n + 1, hn1, by go_num, HE.out, by trivial⟩
      case measure => simp [intOf]; omega
    · have HI : Hid (Calls Tryd.prog 50 #[.slice a N c, .int .i64 (n : Int)] wr fun e w' => e = .returned (.bool false) ∧ w' = wr) := by
        have := HIN.out (n : Int)
        rw [inB_mem, decide_eq_false hm] at this
        exact this
      have HE : Hid (freeN T = n) := (freeN_is T).one ⟨hm, hall⟩
      clear hm hall
      go_wp2_with (go_at_call 50; refine HI.out.mono ?_; rintro e w5 ⟨rfl, rfl⟩)
      go_ret
      rw [HE.out]; exact ⟨rfl, rfl⟩

set_option maxRecDepth 100000 in
set_option maxHeartbeats 4000000 in
theorem count_any (v : Value) (T : List Nat) (w : World) (h : NRow w v T) (hl : T.length ≤ 1000) (hb : ∀ c ∈ T, c ≤ 1000000) : Calls Tryd.prog 39 #[v] w fun e w' => e = .returned (.int .i64 (cntN T : Int)) ∧ w' = w := by
  obtain ⟨a, c, rfl⟩ := h.shape
  obtain ⟨N, hN⟩ : ∃ N, N = T.length := ⟨_, rfl⟩
  have HR : Hid (∀ i, i < N → ∃ g m, a = some ⟨g, 0, none⟩ ∧ N ≤ c ∧ T[i]? = some m ∧ w.cell? ⟨g, i, none⟩ = some (.int .i64 (m : Int))) := fun i hi => by
    obtain ⟨g, d, e, hc, hg, hh⟩ := h.get (by omega)
    simp only [Value.slice.injEq, true_and] at e
    obtain ⟨rfl, rfl⟩ := e
    have hm := List.getElem?_eq_getElem (l := T) (i := i) (by omega)
    exact ⟨g, _, rfl, by omega, hm, (hh i _ hm).1⟩
  have HN := Lib.hid hN
  have HB := Lib.hid hb
  rw [← hN] at hl ⊢
  clear h hN hb
  go_enter Tryd.func39, Tryd.ntmps39
  go_wp2_with fail
  go_loop [3, 8] (fun vo vi => ∃ i : Nat, i ≤ N ∧ vi = .int .i64 (i : Int) ∧ vo = .int .i64 (cntN (T.take i) : Int)) (fun _ vi => N - (intOf vi).toNat)
  case atStart => exact ⟨0, Nat.zero_le _, rfl, rfl⟩
  case round =>
    obtain ⟨i, hin, rfl, rfl⟩ := hrel
    obtain ⟨S, hS⟩ : ∃ S, S = cntN (T.take i) := ⟨_, rfl⟩
    have hSb : S ≤ 1000001 := by rw [hS]; exact cntN_le.2 (fun c hc => by have := HB.out c (List.mem_of_mem_take hc); omega)
    rw [← hS]
    by_cases hlt : i < N
    · obtain ⟨g, m, rfl, hc, hm, r1⟩ := HR.out i hlt
      have hi1 : (i : Int) < (N : Int) := by omega
      have hmb := HB.out m (List.mem_of_getElem? hm)
      have HE : Hid (cntN (T.take (i + 1)) = max S (m + 1)) := Lib.hid (by rw [List.take_add_one, hm]; show cntN (T.take i ++ [m]) = _; rw [cntN_snoc, hS])
      have hmx : ((max S (m + 1) : Nat) : Int) = if (S : Int) < (m : Int) + 1 then (m : Int) + 1 else (S : Int) := by split <;> omega
      have HMX := Lib.hid hmx
      clear hS hm hmx
      go_wp2_with fail
      go_round
      case rel => exact ⟨i + 1, hlt, by go_num, by rw [HE.out, HMX.out]⟩
      case measure => simp [intOf]; omega
    · have HE : Hid (cntN T = S) := by
        rw [List.take_of_length_le (by have := HN.out; omega)] at hS; exact Lib.hid hS.symm
      have hi1 : ¬ (i : Int) < (N : Int) := by omega
      clear hS
      go_wp2_with fail
      go_ret
      rw [HE.out]; exact ⟨rfl, rfl⟩

end Go.Proofs.YthgocacabadflaaDoor
