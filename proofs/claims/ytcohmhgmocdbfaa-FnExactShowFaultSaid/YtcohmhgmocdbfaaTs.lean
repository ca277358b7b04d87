/-
  Walks of the model: AllChoices.
-/
import Derived.Test.YtcohmhgmocdbfaaTr
import Derived.Test.YtcohmhgmocdbfaaSz
namespace Go.Proofs.Ytcohmhgmocdbfaa
set_option linter.unusedVariables false
set_option linter.unusedSimpArgs false
open Go.RowKit

theorem resAllS (W : World) (v b : Value) (tmps : Array Value) (h4 : tmps.getD 4 undef = v) (h5 : tmps.getD 5 undef = b) : (results Try.f41 tmps).run Try.prog W = .ok (.tuple #[v, b]) W := by
  have h4' : tmps[4]?.getD undef = v := by simpa using h4
  have h5' : tmps[5]?.getD undef = b := by simpa using h5
  simp [results, Try.results41, go_sem, h4', h5']

set_option maxRecDepth 100000 in
set_option maxHeartbeats 2000000 in
theorem sall_any (s : ByteArray) (hs : s.size ≤ 1048576) (n : Int) (w : World) : Calls Try.prog 41 #[.string s, .int .i64 n] w (AllPost w (allP s n)) := by
  have HV := Lib.hid (specValid s hs w)
  have HIN := Lib.hid (fun w => in_any n 0 6 w)
  unfold allP
  cases hp : progP s with
  | none =>
    have HV : Hid (Calls Try.prog 12 #[.string s] w (fun e w' => e = .returned (.bool false) ∧ Keeps noB w w')) := by
      have := HV.out; rw [hp] at this; exact this
    clear hp
    go_enter Try.func41, Try.ntmps41
    go_wp2_with (go_at_call 12; refine HV.out.mono ?_; rintro e w1 ⟨rfl, q⟩; have HQ := Lib.hid q; clear q)
    refine bodyPost_ret (resAllS _ _ _ _ rfl rfl) rfl ?_
    exact ⟨_, [], rfl, ⟨World.ownsRow_made w1 #[] 0 (Nat.zero_le _) (by simp [maxLen]) rfl, fun g e => by have := HQ.out.size; simp [Value.ownBlock] at e; subst e; exact this⟩, HQ.out.alloc _, Nat.zero_le _, rfl, fun _ h => by cases h⟩
  | some x =>
    have HV : Hid (Calls Try.prog 12 #[.string s] w (fun e w' => e = .returned (.bool true) ∧ Keeps noB w w')) := by
      have := HV.out; rw [hp] at this; exact this
    by_cases hn : 0 ≤ n ∧ n ≤ 6
    · simp only [if_pos hn]
      obtain ⟨k, rfl⟩ : ∃ k : Nat, n = (k : Int) := ⟨n.toNat, by omega⟩
      have hk : k ≤ 6 := by omega
      have HA := Lib.hid (fun w => l2All_any s hs k hk x hp w)
      have HF := Lib.hid (rights_few x k hk)
      have hin : inR (k : Int) 0 6 = true := by simp [inR]; omega
      have HIN : Hid (∀ w, Calls Try.prog 57 #[.int .i64 (k : Int), .int .i64 0, .int .i64 6] w fun e w' => e = .returned (.bool true) ∧ w' = w) := fun w => by
        have := HIN.out w; rw [hin] at this; exact this
      have hkn : (k : Int).toNat = k := by omega
      rw [hkn]
      generalize x.rights (x.upTo k) = l at HA HF ⊢
      clear hp hn hin hkn
      go_enter Try.func41, Try.ntmps41
      go_wp2_with (first
        | (go_at_call 12; refine HV.out.mono ?_; rintro e w1 ⟨rfl, q⟩; have HQ := Lib.hid q; clear q)
        | (go_at_call 57; refine (HIN.out _).mono ?_; rintro e w2 ⟨rfl, rfl⟩)
        | (go_at_call 58; refine (HA.out _).mono ?_; rintro e w3 ⟨v, rfl, hrow, q3⟩; have HE := Lib.hid (And.intro hrow q3); clear hrow q3))
      refine bodyPost_ret (resAllS _ _ _ _ rfl rfl) rfl ?_
      exact ⟨_, l, rfl, ⟨HE.out.1.1, fun g hg => Nat.le_trans HQ.out.size (HE.out.1.2 g hg).1⟩, HQ.out.trans HE.out.2, HF.out.1, rfl, HF.out.2⟩
    · simp only [if_neg hn]
      have hin : inR n 0 6 = false := by
        rw [Bool.eq_false_iff]
        intro e
        simp [inR] at e
        exact hn e
      have HIN : Hid (∀ w, Calls Try.prog 57 #[.int .i64 n, .int .i64 0, .int .i64 6] w fun e w' => e = .returned (.bool false) ∧ w' = w) := fun w => by
        have := HIN.out w; rw [hin] at this; exact this
      clear hp hn hin
      go_enter Try.func41, Try.ntmps41
      go_wp2_with (first
        | (go_at_call 12; refine HV.out.mono ?_; rintro e w1 ⟨rfl, q⟩; have HQ := Lib.hid q; clear q)
        | (go_at_call 57; refine (HIN.out _).mono ?_; rintro e w2 ⟨rfl, rfl⟩))
      refine bodyPost_ret (resAllS _ _ _ _ rfl rfl) rfl ?_
      exact ⟨_, [], rfl, ⟨World.ownsRow_made _ #[] 0 (Nat.zero_le _) (by simp [maxLen]) rfl, fun g e => by have := HQ.out.size; simp [Value.ownBlock] at e; subst e; exact this⟩, HQ.out.alloc _, Nat.zero_le _, rfl, fun _ h => by cases h⟩

end Go.Proofs.Ytcohmhgmocdbfaa
