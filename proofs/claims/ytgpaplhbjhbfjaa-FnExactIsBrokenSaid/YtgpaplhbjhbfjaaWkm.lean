/-
  The program's StepsWith, IsSafe, IsBroken.
-/
import Derived.Test.YtgpaplhbjhbfjaaWgm
namespace Go.Proofs.Ytgpaplhbjhbfjaa
set_option linter.unusedVariables false
set_option linter.unusedSimpArgs false
open Go.RowKit Go.Shelf

theorem by_any (s : ByteArray) (hs : s.size ≤ 1048576) (w : World) : Calls Try.prog 65 #[.string s] w (ByPost w (progP s)) := by
  cases hp : progP s with
  | none => exact by_none s hs hp w
  | some x => exact by_some s hs x hp w

/-- What a look-up among the steps by their faults finds. -/
theorem by_look {w w' : World} {x : Nd} {e : Ending} (h : ByPost w (some x) e w') : ∃ m, e = .returned (.tuple #[.map (some m), .bool true]) ∧ Keeps noB w w' ∧
    ∀ j : Nat, j < 81 → ∃ a c, (Instr.lookup 91 (.map (some m)) (.int .i64 (j : Int)) false).run Try.prog w' = .ok (.slice a (byN x (x.preD 0) j).length c) w' ∧
      Row w' (fromB w.heap.size) 3 1 (.slice a (byN x (x.preD 0) j).length c) (byN x (x.preD 0) j).length ((byN x (x.preD 0) j).map fun k => i64 k) := by
  obtain ⟨m, M, rfl, h1, h2, h3, h4⟩ := h
  refine ⟨m, rfl, h4, fun j hj => ?_⟩
  have hl := h1.look Try.underlying3 Try.underlying91 (t := 91) (zeroSl w') j hj
  have hr : Row w' (fromB w.heap.size) 3 1 (vAt M j) (byN x (x.preD 0) j).length ((byN x (x.preD 0) j).map fun k => i64 k) := ⟨h2 j, fun g hg => h3 j g hg⟩
  obtain ⟨a, c, hv⟩ := row_shape hr
  rw [hv] at hr
  refine ⟨a, c, ?_, hr⟩
  rw [hl]
  exact congrArg (fun v => Result.ok v w') hv

theorem isFault_any (f : Int) (w : World) : Calls Try.prog 66 #[.int .i64 f] w (fun e w' => e = .returned (.bool (decide (0 ≤ f ∧ f ≤ 3))) ∧ w' = w) := by
  by_cases h0 : 0 ≤ f
  · by_cases h1 : f ≤ 3
    · have hd : decide (0 ≤ f ∧ f ≤ 3) = true := by simp [h0, h1]
      have h2 : f < 4 := by omega
      rw [hd]
      go_enter Try.func66, Try.ntmps66
      go_wp2_with fail
      go_ret
      exact ⟨rfl, rfl⟩
    · have hd : decide (0 ≤ f ∧ f ≤ 3) = false := by simp [h1]
      have h2 : ¬ f < 4 := by omega
      rw [hd]
      go_enter Try.func66, Try.ntmps66
      go_wp2_with fail
      go_ret
      exact ⟨rfl, rfl⟩
  · have hd : decide (0 ≤ f ∧ f ≤ 3) = false := by simp [h0]
    rw [hd]
    go_enter Try.func66, Try.ntmps66
    go_wp2_with fail
    go_ret
    exact ⟨rfl, rfl⟩

theorem resWith (W : World) (v : Value) (b : Bool) (tmps : Array Value) (h2 : tmps.getD 4 undef = v) (h3 : tmps.getD 5 undef = .bool b) : (results Try.f32 tmps).run Try.prog W = .ok (.tuple #[v, .bool b]) W := by
  have h2' : tmps[4]?.getD undef = v := by simpa using h2
  have h3' : tmps[5]?.getD undef = .bool b := by simpa using h3
  simp [results, Try.results32, go_sem, h2', h3']

set_option maxRecDepth 100000 in
set_option maxHeartbeats 2000000 in
theorem stepsWith_any (s : ByteArray) (hs : s.size ≤ 1048576) (f : Int) (w : World) : Calls Try.prog 32 #[.string s, .int .i64 f] w (NumsPost w (withP s f)) := by
  have HC := Lib.hid (fun w => by_any s hs w)
  have HI := Lib.hid (fun w => isFault_any f w)
  unfold withP
  cases hp : progP s with
  | none =>
    rw [hp] at HC
    clear hp hs
    go_enter Try.func32, Try.ntmps32
    go_wp2_with (go_at_call 65; refine (HC.out _).mono ?_; rintro e1 w1 ⟨rfl, q1⟩)
    refine bodyPost_ret (resWith _ (.slice none 0 0) false _ rfl rfl) rfl ?_
    exact ⟨_, _, [], rfl, ⟨⟨rfl, .inl ⟨rfl, rfl⟩⟩, fun g hg => by simp [Value.ownBlock] at hg⟩, q1, rfl, rfl⟩
  | some x =>
    rw [hp] at HC
    simp only
    clear hp hs
    by_cases hf : 0 ≤ f ∧ f ≤ 3
    · have hd : decide (0 ≤ f ∧ f ≤ 3) = true := by simp [hf]
      rw [hd] at HI
      rw [if_pos hf]
      obtain ⟨k, rfl⟩ := Int.eq_ofNat_of_zero_le hf.1
      have hk : k < 81 := by omega
      have HX : Hid (some ((withL x (Int.toNat (k : Int)) (x.preD 0)).map (fun p => p.1.beg)) = some (byN x (x.preD 0) k)) := rfl
      rw [HX.out]
      clear hf hd
      go_enter Try.func32, Try.ntmps32
      go_wp2_with (first
        | (go_at_call 65; refine (HC.out _).mono ?_; rintro e1 w1 h1; obtain ⟨m, rfl, q1, hl⟩ := by_look h1; obtain ⟨sa, sc, hlk, hrow⟩ := hl k hk; generalize hnn : (byN x (x.preD 0) k).length = nn at hlk; have HR := Lib.hid hrow; have HNN := Lib.hid hnn; have HQ := Lib.hid q1; clear hrow h1 hl q1 hnn)
        | (go_at_call 66; refine (HI.out _).mono ?_; rintro e2 w2 ⟨rfl, rfl⟩))
      refine bodyPost_ret (resWith _ _ true _ rfl rfl) rfl ?_
      refine ⟨_, true, (byN x (x.preD 0) k).map fun k => i64 k, rfl, ?_, HQ.out, rfl, rfl⟩
      have h := HR.out
      rw [HNN.out] at h
      rw [List.length_map, HNN.out]
      exact h
    · have hd : decide (0 ≤ f ∧ f ≤ 3) = false := by simp; omega
      rw [hd] at HI
      rw [if_neg hf]
      clear hf hd
      go_enter Try.func32, Try.ntmps32
      go_wp2_with (first
        | (go_at_call 65; refine (HC.out _).mono ?_; rintro e1 w1 h1; obtain ⟨m, rfl, q1, hl⟩ := by_look h1; have HQ := Lib.hid q1; clear h1 hl q1)
        | (go_at_call 66; refine (HI.out _).mono ?_; rintro e2 w2 ⟨rfl, rfl⟩))
      refine bodyPost_ret (resWith _ (.slice none 0 0) false _ rfl rfl) rfl ?_
      exact ⟨_, _, [], rfl, ⟨⟨rfl, .inl ⟨rfl, rfl⟩⟩, fun g hg => by simp [Value.ownBlock] at hg⟩, HQ.out, rfl, rfl⟩

theorem byN_empty (x : Nd) (l : List PN) (j : Nat) : (withL x j l).isEmpty = ((byN x l j).length == 0) := by
  unfold byN
  rw [List.length_map]
  cases withL x j l <;> simp

set_option maxRecDepth 100000 in
set_option maxHeartbeats 2000000 in
theorem isSafe_any (s : ByteArray) (hs : s.size ≤ 1048576) (w : World) : Calls Try.prog 37 #[.string s] w (fun e w' => e = .returned (.bool (safeP s)) ∧ Keeps noB w w') := by
  have HC := Lib.hid (fun w => by_any s hs w)
  unfold safeP
  cases hp : progP s with
  | none =>
    rw [hp] at HC
    clear hp hs
    go_enter Try.func37, Try.ntmps37
    go_wp2_with (go_at_call 65; refine (HC.out _).mono ?_; rintro e1 w1 ⟨rfl, q1⟩)
    go_ret
    exact ⟨rfl, q1⟩
  | some x =>
    rw [hp] at HC
    simp only
    rw [byN_empty, byN_empty]
    obtain ⟨n1, hn1⟩ : ∃ n1, n1 = (byN x (x.preD 0) 1).length := ⟨_, rfl⟩
    obtain ⟨n2, hn2⟩ : ∃ n2, n2 = (byN x (x.preD 0) 2).length := ⟨_, rfl⟩
    rw [← hn1, ← hn2]
    have HN1 := Lib.hid hn1
    have HN2 := Lib.hid hn2
    clear hp hs hn1 hn2
    have HL : Hid (∀ n : Nat, decide ((n : Int) = 0) = (n == 0) ∧ ((n : Int) == 0) = (n == 0)) := fun n => by
      by_cases h : n = 0
      · subst h; exact ⟨rfl, rfl⟩
      · have e : ¬ (n : Int) = 0 := by omega
        exact ⟨by rw [decide_eq_false e, beq_eq_false_iff_ne.2 h], by rw [beq_eq_false_iff_ne.2 e, beq_eq_false_iff_ne.2 h]⟩
    go_enter Try.func37, Try.ntmps37
    go_wp2_with fail
    refine (HC.out _).mono ?_
    rintro e1 w1 h1
    obtain ⟨m, rfl, q1, hl⟩ := by_look h1
    obtain ⟨sa1, sc1, hlk1, _⟩ := hl 1 (by omega)
    obtain ⟨sa2, sc2, hlk2, _⟩ := hl 2 (by omega)
    have HQ := Lib.hid q1
    rw [← HN1.out] at hlk1
    rw [← HN2.out] at hlk2
    clear HN1 HN2
    have hlk1' : (Instr.lookup 91 (.map (some m)) (.int .i64 1) false).run Try.prog w1 = .ok (.slice sa1 n1 sc1) w1 := hlk1
    have hlk2' : (Instr.lookup 91 (.map (some m)) (.int .i64 2) false).run Try.prog w1 = .ok (.slice sa2 n2 sc2) w1 := hlk2
    clear h1 hl q1 hlk1 hlk2
    cases hb1 : (n1 == 0) with
    | true =>
      obtain rfl : n1 = 0 := by simpa using hb1
      cases hb2 : (n2 == 0) with
      | true =>
        obtain rfl : n2 = 0 := by simpa using hb2
        go_wp2_with fail
        go_ret
        exact ⟨rfl, HQ.out⟩
      | false =>
        have hn2 : ((n2 : Int) == 0) = false := by rw [(HL.out n2).2, hb2]
        have HZ : Hid (false = ((0 : Nat) == 0 && n2 == 0)) := Lib.hid (by rw [hb2]; rfl)
        clear hb2
        go_wp2_with fail
        go_ret
        exact ⟨congrArg (fun b => Ending.returned (.bool b)) HZ.out, HQ.out⟩
    | false =>
      have hn1 : ((n1 : Int) == 0) = false := by rw [(HL.out n1).2, hb1]
      have HZ : Hid (false = (n1 == 0 && n2 == 0)) := Lib.hid (by rw [hb1]; rfl)
      clear hb1
      go_wp2_with fail
      go_ret
      exact ⟨congrArg (fun b => Ending.returned (.bool b)) HZ.out, HQ.out⟩

set_option maxRecDepth 100000 in
set_option maxHeartbeats 2000000 in
theorem isBroken_any (s : ByteArray) (hs : s.size ≤ 1048576) (w : World) : Calls Try.prog 39 #[.string s] w (fun e w' => e = .returned (.bool (brokenP s)) ∧ Keeps noB w w') := by
  have HC := Lib.hid (fun w => by_any s hs w)
  unfold brokenP
  cases hp : progP s with
  | none =>
    rw [hp] at HC
    clear hp hs
    go_enter Try.func39, Try.ntmps39
    go_wp2_with (go_at_call 65; refine (HC.out _).mono ?_; rintro e1 w1 ⟨rfl, q1⟩)
    go_ret
    exact ⟨rfl, q1⟩
  | some x =>
    rw [hp] at HC
    simp only
    rw [byN_empty]
    obtain ⟨n2, hn2⟩ : ∃ n2, n2 = (byN x (x.preD 0) 2).length := ⟨_, rfl⟩
    rw [← hn2]
    have HN2 := Lib.hid hn2
    clear hp hs hn2
    go_enter Try.func39, Try.ntmps39
    go_wp2_with fail
    refine (HC.out _).mono ?_
    rintro e1 w1 h1
    obtain ⟨m, rfl, q1, hl⟩ := by_look h1
    obtain ⟨sa2, sc2, hlk2, _⟩ := hl 2 (by omega)
    have HQ := Lib.hid q1
    rw [← HN2.out] at hlk2
    clear HN2
    have hlk2' : (Instr.lookup 91 (.map (some m)) (.int .i64 2) false).run Try.prog w1 = .ok (.slice sa2 n2 sc2) w1 := hlk2
    clear h1 hl q1 hlk2
    cases hb2 : (n2 == 0) with
    | true =>
      obtain rfl : n2 = 0 := by simpa using hb2
      go_wp2_with fail
      go_ret
      exact ⟨rfl, HQ.out⟩
    | false =>
      have hne : ¬ n2 = 0 := by simpa using hb2
      have hn2 : (0 : Int) < (n2 : Int) := by omega
      have hn3 : 0 < n2 := by omega
      have HZ : Hid (true = !(n2 == 0)) := Lib.hid (by rw [hb2]; rfl)
      clear hb2 hne
      go_wp2_with fail
      go_ret
      exact ⟨congrArg (fun b => Ending.returned (.bool b)) HZ.out, HQ.out⟩

end Go.Proofs.Ytgpaplhbjhbfjaa
