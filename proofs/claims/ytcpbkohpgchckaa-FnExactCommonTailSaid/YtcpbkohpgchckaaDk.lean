/-
  The model's CommonTail.
-/
import Derived.Test.YtcpbkohpgchckaaDj
import Derived.Test.YtcpbkohpgchckaaDf
import Derived.BigQuiet
import Derived.Deep.QuietTactic
namespace Go.Proofs.Ytcpbkohpgchckaa
set_option linter.unusedVariables false
set_option linter.unusedSimpArgs false
open Go.RowKit

theorem resSCommon (W : World) (v b : Value) (tmps : Array Value) (h4 : tmps.getD 6 undef = v) (h5 : tmps.getD 7 undef = b) : (results Try.f39 tmps).run Try.prog W = .ok (.tuple #[v, b]) W := by
  have h4' : tmps[6]?.getD undef = v := by simpa using h4
  have h5' : tmps[7]?.getD undef = b := by simpa using h5
  simp [results, Try.results39, go_sem, h4', h5']

/-- What the loop of CommonTail holds. -/
def CommAt (x y : List UInt8) (w : World) (vn : Value) (wr : World) : Prop :=
  ∃ n : Nat, vn = .int .i64 (n : Int) ∧ n % 2 = 0 ∧ n ≤ x.length ∧ n ≤ y.length ∧ endN x n = endN y n ∧ Keeps noB w wr

theorem ext_end {X : ByteArray} {x : List UInt8} (h : X.data.toList = x) {m l : Nat} (hl : X.size = l) (hm : m ≤ l) : (X.extract m l).toList = x.drop m := by
  rw [Go.ByteArray.toList_eq, ByteArray.data_extract, Array.toList_extract, h]
  have hx : x.length = l := by rw [← h, ← hl, Array.length_toList]; rfl
  simp [List.extract]
  rw [List.take_of_length_le (by rw [List.length_drop]; omega)]
theorem ext_str {X : ByteArray} {x : List UInt8} (h : X.data.toList = x) {m l : Nat} (hl : X.size = l) (hm : m ≤ l) : X.extract m l = ⟨(x.drop m).toArray⟩ := by
  have := ext_end h hl hm
  rw [Go.ByteArray.toList_eq] at this
  apply ByteArray.ext
  apply Array.ext'
  simpa using this

set_option maxRecDepth 100000 in
set_option maxHeartbeats 4000000 in
theorem scommon_any (s : ByteArray) (hs : s.size ≤ 1048576) (a b : Int) (w : World) : Calls Try.prog 39 #[.string s, .int .i64 a, .int .i64 b] w (CommonEnds w (commonP s a b)) := by
  have HA := Lib.hid (fun w => l9At_any s hs a w)
  have HB := Lib.hid (fun w => l9At_any s hs b w)
  unfold CleanEnds at HA HB
  have HFA := Lib.hid (fun c (h : cleanupP s a = some c) => cleanup_fit h)
  have HFB := Lib.hid (fun c (h : cleanupP s b = some c) => cleanup_fit h)
  unfold commonP
  cases hA : cleanupP s a with
  | none =>
    rw [hA] at HA
    obtain ⟨tb, htb⟩ : ∃ tb, ((cleanupP s b).getD []).toArray = tb := ⟨_, rfl⟩
    obtain ⟨bv, hbv⟩ : ∃ bv, (cleanupP s b).isSome = bv := ⟨_, rfl⟩
    rw [htb, hbv] at HB
    clear hA htb hbv HFA HFB
    show Calls Try.prog 39 #[.string s, .int .i64 a, .int .i64 b] w (CommonEnds w none)
    go_enter Try.func39, Try.ntmps39
    go_wp2_with fail
    refine (HA.out _).mono ?_
    rintro e w1 ⟨rfl, q1⟩
    go_wp2_with fail
    refine (HB.out _).mono ?_
    rintro e w2 ⟨rfl, q2⟩
    go_wp2_with fail
    refine bodyPost_ret (resSCommon _ (.string ⟨#[]⟩) (.bool false) _ rfl rfl) rfl ?_
    exact ⟨rfl, q1.trans q2⟩
  | some ca =>
    cases hB : cleanupP s b with
    | none =>
      rw [hA] at HA
      rw [hB] at HB
      clear hA hB HFA HFB
      show Calls Try.prog 39 #[.string s, .int .i64 a, .int .i64 b] w (CommonEnds w none)
      go_enter Try.func39, Try.ntmps39
      go_wp2_with fail
      refine (HA.out _).mono ?_
      rintro e w1 ⟨rfl, q1⟩
      go_wp2_with fail
      refine (HB.out _).mono ?_
      rintro e w2 ⟨rfl, q2⟩
      go_wp2_with fail
      refine bodyPost_ret (resSCommon _ (.string ⟨#[]⟩) (.bool false) _ rfl rfl) rfl ?_
      exact ⟨rfl, q1.trans q2⟩
    | some cb =>
      obtain ⟨hla, hpa⟩ := HFA.out ca hA
      obtain ⟨hlb, hpb⟩ := HFB.out cb hB
      rw [hA] at HA
      rw [hB] at HB
      show Calls Try.prog 39 #[.string s, .int .i64 a, .int .i64 b] w (CommonEnds w (some (comT ca cb)))
      have HCM := Lib.hid (comT_com ca cb)
      obtain ⟨CT, hCT⟩ : ∃ CT, comT ca cb = CT := ⟨_, rfl⟩
      rw [hCT] at HCM ⊢
      obtain ⟨X, hX⟩ : ∃ X : ByteArray, X = ⟨ca.toArray⟩ := ⟨_, rfl⟩
      obtain ⟨Y, hY⟩ : ∃ Y : ByteArray, Y = ⟨cb.toArray⟩ := ⟨_, rfl⟩
      have HX : Hid (X.data.toList = ca ∧ X.size = ca.length ∧ Y.data.toList = cb ∧ Y.size = cb.length) := Lib.hid ⟨by rw [hX], by rw [hX]; rfl, by rw [hY], by rw [hY]; rfl⟩
      have e1 : ((some ca).getD []).toArray = ca.toArray := rfl
      have e2 : ((some cb).getD []).toArray = cb.toArray := rfl
      rw [e1, ← hX] at HA
      rw [e2, ← hY] at HB
      obtain ⟨lx, hlx⟩ : ∃ lx, X.size = lx := ⟨_, rfl⟩
      obtain ⟨ly, hly⟩ : ∃ ly, Y.size = ly := ⟨_, rfl⟩
      have HLX := Lib.hid (And.intro hlx hly)
      have hx160 : lx ≤ 160 := by rw [← hlx, HX.out.2.1]; exact hla
      have hy160 : ly ≤ 160 := by rw [← hly, HX.out.2.2.2]; exact hlb
      clear hA hB HFA HFB hCT hX hY hla hpa hlb hpb e1 e2
      go_enter Try.func39, Try.ntmps39
      go_wp2_with fail
      refine (HA.out _).mono ?_
      rintro e w1 ⟨rfl, q1⟩
      have Q1 := Lib.hid q1
      clear q1
      go_wp2_with fail
      refine (HB.out _).mono ?_
      rintro e w2 ⟨rfl, q2⟩
      have Q2 := Lib.hid (Q1.out.trans q2)
      clear q2
      have HP : Hid (CommAt ca cb w (.int .i64 0) w2) := Lib.hid ⟨0, rfl, rfl, Nat.zero_le _, Nat.zero_le _, by unfold endN; simp, Q2.out⟩
      go_upto_region 6 with fail
      go_loopw [12] (fun vn wr => CommAt ca cb w vn wr) (fun vn _ => lx - (intOf vn).toNat)
      case atStart => exact HP.out
      case round =>
        clear HP
        obtain ⟨n, rfl, hn2, hnx, hny, hne, hq⟩ := hrel
        rw [← HX.out.2.1, HLX.out.1] at hnx
        rw [← HX.out.2.2.2, HLX.out.2] at hny
        have hn160 : (n : Int) ≤ 160 := by omega
        have HN := Lib.hid (And.intro hn2 (And.intro hnx (And.intro hny (And.intro hne hq))))
        clear hne hq hn2
        have hlca : ca.length = lx := by rw [← HX.out.2.1, HLX.out.1]
        have hlcb : cb.length = ly := by rw [← HX.out.2.2.2, HLX.out.2]
        -- the end
        have HEND : Hid ((n + 2 ≤ ca.length → n + 2 ≤ cb.length → endN ca (n + 2) ≠ endN cb (n + 2)) → X.extract (lx - n) lx = ⟨CT.toArray⟩) := fun hstop => by
          have e := HCM.out.eq (com_of_stop HN.out.1 (by omega) (by omega) HN.out.2.2.2.1 hstop)
          rw [ext_str HX.out.1 HLX.out.1 (by omega), e]
          unfold endN
          rw [hlca]
        have HE1 : Hid (n + 2 ≤ lx → (X.extract (lx - n - 2) lx).toList = endN ca (n + 2)) := fun h => by
          rw [ext_end HX.out.1 HLX.out.1 (by omega)]; unfold endN; rw [hlca]; congr 1
        have HE2 : Hid (n + 2 ≤ ly → (Y.extract (ly - n - 2) ly).toList = endN cb (n + 2)) := fun h => by
          rw [ext_end HX.out.2.2.1 HLX.out.2 (by omega)]; unfold endN; rw [hlcb]; congr 1
        have HLC := Lib.hid (And.intro hlca hlcb)
        clear hlca hlcb
        by_cases h1 : n + 2 ≤ lx
        · have c1 : ((n : Int) + 2 ≤ (lx : Int)) := by omega
          have d1 : decide ((n : Int) + 2 ≤ (lx : Int)) = true := by simpa using c1
          by_cases h2 : n + 2 ≤ ly
          · have c2 : ((n : Int) + 2 ≤ (ly : Int)) := by omega
            have d2 : decide ((n : Int) + 2 ≤ (ly : Int)) = true := by simpa using c2
            by_cases h3 : endN ca (n + 2) = endN cb (n + 2)
            · have hcmp : ((X.extract (lx - n - 2) lx).toList == (Y.extract (ly - n - 2) ly).toList) = true := by rw [HE1.out h1, HE2.out h2, h3]; simp
              have HNX : Hid (∀ nq, CommAt ca cb w (.int .i64 ((n : Int) + 2)) (wr.drewN nq)) := fun nq => by
                obtain ⟨k1, k2, k3, k4, k5⟩ := HN.out
                exact ⟨n + 2, by simp, by omega, by rw [HLC.out.1]; exact h1, by rw [HLC.out.2]; exact h2, h3, k5.drawnN nq⟩
              clear h3
              go_wp2_with fail
              go_quiet (fail)
              go_wp2_with fail
              go_roundw
              case rel => exact HNX.out _
              case measure => simp [intOf]; omega
            · have hcmp : ((X.extract (lx - n - 2) lx).toList == (Y.extract (ly - n - 2) ly).toList) = false := by rw [HE1.out h1, HE2.out h2]; simpa using h3
              have HR := Lib.hid (HEND.out (fun _ _ => h3))
              clear h3
              go_wp2_with fail
              go_quiet (fail)
              go_wp2_with fail
              refine bodyPost_ret (resSCommon _ (.string (X.extract (lx - n) lx)) (.bool true) _ rfl rfl) rfl ?_
              rw [HR.out]
              exact ⟨rfl, HN.out.2.2.2.2.drawnN _⟩
          · have c2 : ¬ ((n : Int) + 2 ≤ (ly : Int)) := by omega
            have d2 : decide ((n : Int) + 2 ≤ (ly : Int)) = false := by simpa using c2
            have HR := Lib.hid (HEND.out (fun _ h => absurd h (by rw [HLC.out.2]; exact h2)))
            go_wp2_with fail
            go_quiet (fail)
            go_wp2_with fail
            refine bodyPost_ret (resSCommon _ (.string (X.extract (lx - n) lx)) (.bool true) _ rfl rfl) rfl ?_
            rw [HR.out]
            exact ⟨rfl, HN.out.2.2.2.2.drawnN _⟩
        · have c1 : ¬ ((n : Int) + 2 ≤ (lx : Int)) := by omega
          have d1 : decide ((n : Int) + 2 ≤ (lx : Int)) = false := by simpa using c1
          have HR := Lib.hid (HEND.out (fun h _ => absurd h (by rw [HLC.out.1]; exact h1)))
          go_wp2_with fail
          go_quiet (fail)
          go_wp2_with fail
          refine bodyPost_ret (resSCommon _ (.string (X.extract (lx - n) lx)) (.bool true) _ rfl rfl) rfl ?_
          rw [HR.out]
          exact ⟨rfl, HN.out.2.2.2.2.drawnN _⟩

end Go.Proofs.Ytcpbkohpgchckaa
