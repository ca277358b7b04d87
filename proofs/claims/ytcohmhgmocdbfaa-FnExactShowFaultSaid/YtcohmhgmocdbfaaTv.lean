/-
  The model's ShowFault.
-/
import Derived.Test.YtcohmhgmocdbfaaTs
import Derived.Test.YtcohmhgmocdbfaaTlb
import Derived.Test.YtcohmhgmocdbfaaPs
namespace Go.Proofs.Ytcohmhgmocdbfaa
set_option linter.unusedVariables false
set_option linter.unusedSimpArgs false
open Go.RowKit

theorem resShowS (W : World) (x : ByteArray) (v : Bool) (tmps : Array Value) (h1 : tmps.getD 2 undef = .string x) (h2 : tmps.getD 3 undef = .bool v) : (results Try.f24 tmps).run Try.prog W = .ok (.tuple #[.string x, .bool v]) W := by
  have h1' : tmps[2]?.getD undef = .string x := by simpa using h1
  have h2' : tmps[3]?.getD undef = .bool v := by simpa using h2
  simp [results, Try.results24, go_sem, h1', h2']

/-- What the loop over the choices holds. -/
def ShLoop (s : ByteArray) (w1 : World) (l : List (List UInt8)) (vi : Value) (wr : World) : Prop :=
  ∃ i : Nat, i ≤ l.length ∧ vi = .int .i64 (i : Int) ∧ (∀ c ∈ l.take i, (exitP s ⟨c.toArray⟩ == 4) = false) ∧ Keeps noB w1 wr

set_option maxRecDepth 100000 in
set_option maxHeartbeats 2000000 in
theorem sshowFault_any (s : ByteArray) (hs : s.size ≤ 1048576) (w : World) : Calls Try.prog 24 #[.string s] w (fun e w' => e = .returned (.tuple #[.string (showT (showP s)), .bool (showP s).isSome]) ∧ Keeps noB w w') := by
  have HA := Lib.hid (fun w => sall_any s hs 6 w)
  have HX := Lib.hid (fun (c : List UInt8) (hc : c.length ≤ 6) w => sexit_any s ⟨c.toArray⟩ hs (by simp [ByteArray.size]; omega) w)
  obtain ⟨R, hR⟩ : ∃ R, R = showP s := ⟨_, rfl⟩
  rw [← hR]
  have HR := Lib.hid hR
  clear hR
  go_enter Try.func24, Try.ntmps24
  go_wp2_with fail
  refine (HA.out _).mono ?_
  rintro e w1 ⟨v, l, rfl, hrow, q1, hl, hll, hc6⟩
  obtain ⟨a, cp, rfl⟩ := row_shape hrow
  have HRW := Lib.hid hrow
  have HL := Lib.hid (And.intro hll hc6)
  have HQ := Lib.hid q1
  obtain ⟨n, hn⟩ : ∃ n, n = l.length := ⟨_, rfl⟩
  rw [← hn] at hl ⊢
  have HNL := Lib.hid hn
  have hn1 : (n : Int) ≤ 1000 := by omega
  have HP : Hid (ShLoop s w1 l (.int .i64 0) w1) := ⟨0, Nat.zero_le _, rfl, (fun c hc => by simp at hc), Keeps.refl _ _⟩
  generalize (allP s 6).isSome = bv at *
  clear hrow q1 hll hc6 hl hn
  go_wp2_with fail
  go_loopw [15] (fun v15 wr => ShLoop s w1 l v15 wr) (fun v15 _ => n - (intOf v15).toNat)
  case atStart => exact HP.out
  case round =>
    clear HP
    obtain ⟨i, hil, rfl, hno, qr⟩ := hrel
    rw [← HNL.out] at hil
    by_cases hi : i < n
    · obtain ⟨gB, cc, hv, hg1, hg2, hcell⟩ := row_get HRW.out (by rw [← HNL.out]; omega)
      obtain ⟨c, hc⟩ : ∃ c, l[i]? = some c := ⟨_, List.getElem?_eq_getElem (by rw [← HNL.out]; exact hi)⟩
      have hcm : c ∈ l := List.mem_of_getElem? hc
      have hc6 := HL.out.2 c hcm
      obtain ⟨rfl, rfl⟩ : a = some ⟨gB, 0, none⟩ ∧ cp = cc := by simpa using hv
      have s0 : wr.cell? ⟨gB, i, none⟩ = some (.string ⟨c.toArray⟩) := (qr.cell (p := ⟨gB, i, none⟩) hg2 id).trans (hcell i _ (by simp [strsC, hc, str]))
      have hi0 : (0 : Int) ≤ (i : Int) := by omega
      have hi1 : (i : Int) < (n : Int) := by omega
      have HC := Lib.hid (HX.out c hc6)
      have HNO := Lib.hid (And.intro hno (And.intro qr (And.intro hc hcm)))
      clear hno qr hv hg1 hg2 hcell hc hcm hc6 HX hil
      obtain ⟨cs, hcs⟩ : ∃ cs : ByteArray, cs = ⟨c.toArray⟩ := ⟨_, rfl⟩
      rw [← hcs] at s0 HC
      have HCS := Lib.hid hcs
      clear hcs
      cases hk : (exitP s cs == 4) with
      | true =>
        have hk2 : exitP s cs = 4 := by simpa using hk
        rw [hk2] at HC
        have HK := Lib.hid hk
        clear hk hk2
        go_wp2_with (go_at_call 42; refine (HC.out _).mono ?_; rintro e2 w2 ⟨rfl, q2⟩)
        obtain ⟨hno, qr, hc, hcm⟩ := HNO.out
        have hlt := (List.getElem?_eq_some_iff.1 hc).1
        have e1 : (allP s 6).getD [] = l.take i ++ [c] ++ l.drop (i + 1) := by
          rw [← HL.out.1, List.append_assoc, List.singleton_append]
          have h2 := (List.getElem?_eq_some_iff.1 hc).2
          rw [← h2, ← List.drop_eq_getElem_cons hlt, List.take_append_drop]
        have e2 : R = some c := by
          rw [HR.out]
          exact show_some e1 hno (by rw [← HCS.out]; exact HK.out)
        refine bodyPost_ret (resShowS _ cs true _ rfl rfl) rfl ⟨?_, (HQ.out.trans qr).trans q2⟩
        rw [e2, HCS.out]
        rfl
      | false =>
        have HK := Lib.hid hk
        have HN : Hid (∀ W, Keeps noB wr W → ShLoop s w1 l (.int .i64 ((i : Int) + 1)) W) := fun W q => by
          obtain ⟨hno, qr, hc, hcm⟩ := HNO.out
          refine ⟨i + 1, (List.getElem?_eq_some_iff.1 hc).1, by simp, fun c' hc' => ?_, qr.trans q⟩
          rw [List.take_add_one, hc] at hc'
          rcases List.mem_append.1 hc' with h | h
          · exact hno c' h
          · simp at h; rw [h, ← HCS.out]; exact HK.out
        generalize exitP s cs = ex at *
        go_wp2_with (go_at_call 42; refine (HC.out _).mono ?_; rintro e2 w2 ⟨rfl, q2⟩)
        exact ⟨HN.out _ q2, by simp [intOf]; omega⟩
    · have hd : ¬ (i : Int) < (n : Int) := by omega
      have hie : l.take i = l := List.take_of_length_le (by rw [← HNL.out]; omega)
      rw [hie] at hno
      have e2 : R = none := by
        rw [HR.out]
        exact show_none (by rw [← HL.out.1]; exact hno)
      subst e2
      have HQR := Lib.hid qr
      clear hno qr hie
      go_wp2_with fail
      exact bodyPost_ret (resShowS _ ⟨#[]⟩ false _ rfl rfl) rfl ⟨rfl, HQ.out.trans HQR.out⟩

end Go.Proofs.Ytcohmhgmocdbfaa
