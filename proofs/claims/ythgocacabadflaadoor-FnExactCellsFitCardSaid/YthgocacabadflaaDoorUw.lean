/-
  The program's CellsFit: the face.
-/
import Derived.Test.YthgocacabadflaaDoorUv
namespace Go.Proofs.YthgocacabadflaaDoor
set_option linter.unusedVariables false
set_option linter.unusedSimpArgs false
open Go.RowKit

def FitP (w : World) (b : Bool) (e : Ending) (w' : World) : Prop := e = .returned (.bool b) ∧ Keeps noB w w'

set_option maxRecDepth 100000 in
set_option maxHeartbeats 8000000 in
theorem cellsFit_any (s : ByteArray) (hs : s.size ≤ 1048576) (v : Value) (n : Nat) (zs : List Int) (w : World) (hE : Env w) (ha : ArgI w v n zs) :
    Calls Tryd.prog 22 #[.string s, v] w (FitP w (fitV (readP s) zs)) := by
  have H := Lib.hid (historyOf_any s hs w hE)
  obtain ⟨hl, p, cv, rfl, hA⟩ := ha
  have HA : Hid (∀ wr, Keeps noB w wr → ArgI wr (.slice p n cv) n zs) := Lib.hid (fun wr q => ArgI.keeps ⟨hl, p, cv, rfl, hA⟩ q)
  clear hE hA
  cases hr : readP s with
  | none =>
    rw [hr] at H
    go_enter Tryd.func22, Tryd.ntmps22
    go_wp2_with fail
    refine H.out.mono ?_
    rintro e w1 ⟨⟨tp, q, rfl⟩, q1⟩
    have HQ := Lib.hid q1
    clear q1
    go_wp2_with fail
    go_ret
    exact ⟨rfl, HQ.out⟩
  | some l =>
    obtain ⟨hg, hgl⟩ := readP_good hr
    rw [hr] at H
    have h6 : (livesL l).length ≤ 600 := by have := hg.says.made; have := hg.says.le; omega
    have HM := Lib.hid (fun W H own ve vl h i hn hi (ha : ArgI W (.slice p n cv) n zs) => mayTake_any W H own l ve vl h (.slice p n cv) n zs ha hn (by omega) i hi)
    by_cases hn : n = (livesL l).length
    · have HFV : Hid (fitV (some l) zs = okTo (livesL l) zs n) := Lib.hid (by unfold fitV; dsimp only; rw [hl, decide_eq_true hn, Bool.true_and, hn])
      rw [HFV.out]
      have HN := Lib.hid hn
      have hn6 : n ≤ 600 := by omega
      have hnn : ((n : Int) != (n : Int)) = false := by simp
      clear hg hgl hr hn h6 hl
      go_enter Tryd.func22, Tryd.ntmps22
      go_wp2_with fail
      refine H.out.mono ?_
      rintro e w1 ⟨⟨H1, own, ve, vl, rfl, hh, _⟩, q1⟩
      obtain ⟨al, cl, rfl⟩ := hh.shape.2
      have r1 := hh.blk.cell 1
      simp at r1
      rw [← HN.out] at r1
      have HH := Lib.hid hh
      have HQ := Lib.hid q1
      clear q1 hh
      go_wp2_with fail
      clear r1
      go_loopw [27] (fun vi wr => ∃ i : Nat, i ≤ n ∧ vi = .int .i64 (i : Int) ∧ okTo (livesL l) zs i = true ∧ Keeps noB w1 wr) (fun vi _ => n - (intOf vi).toNat)
      case atStart => exact ⟨0, Nat.zero_le _, rfl, rfl, Keeps.refl _ _⟩
      case round =>
        obtain ⟨i, hin, rfl, hok, hq⟩ := hrel
        by_cases hlt : i < n
        · have hi1 : (i : Int) < (n : Int) := by omega
          have HC := Lib.hid (HM.out wr H1 own ve (.slice al (livesL l).length cl) (HH.out.keeps hq (fun _ _ e => e)) i HN.out hlt (HA.out wr (HQ.out.trans hq)))
          have hs1 := okTo_succ (livesL l) zs i
          rw [hok, Bool.true_and] at hs1
          have HQR := Lib.hid hq
          cases hk : okAt (livesL l) zs i with
          | true =>
            rw [hk] at HC hs1
            have HS := Lib.hid hs1
            clear hs1 hk hok hq
            go_wp2_with fail
            refine HC.out.mono ?_
            rintro e5 w5 ⟨rfl, q5⟩
            have Q5 := Lib.hid (HQR.out.trans q5)
            clear q5
            go_wp2_with fail
            go_roundw
            case rel => exact ⟨i + 1, hlt, by go_num, HS.out, Q5.out⟩
            case measure => simp [intOf]; omega
          | false =>
            rw [hk] at HC
            have HS : Hid (okTo (livesL l) zs n = false) := Lib.hid (okTo_no hlt hk)
            clear hs1 hk hok hq
            go_wp2_with fail
            refine HC.out.mono ?_
            rintro e5 w5 ⟨rfl, q5⟩
            have Q5 := Lib.hid (HQR.out.trans q5)
            clear q5
            go_wp2_with fail
            go_ret
            rw [HS.out]
            exact ⟨rfl, HQ.out.trans Q5.out⟩
        · have hi1 : ¬ (i : Int) < (n : Int) := by omega
          have HS : Hid (okTo (livesL l) zs n = true) := Lib.hid (by rw [show n = i by omega]; exact hok)
          have HQR := Lib.hid hq
          clear hok hq
          go_wp2_with fail
          go_ret
          rw [HS.out]
          exact ⟨rfl, HQ.out.trans HQR.out⟩
    · have HFV : Hid (fitV (some l) zs = false) := Lib.hid (by unfold fitV; dsimp only; rw [hl, decide_eq_false hn, Bool.false_and])
      rw [HFV.out]
      obtain ⟨m, hm⟩ : ∃ m, m = (livesL l).length := ⟨_, rfl⟩
      have hnm : ((n : Int) != (m : Int)) = true := by rw [bne_iff_ne]; omega
      have HMM := Lib.hid hm
      clear hg hgl hr hn h6 hl hm HM
      go_enter Tryd.func22, Tryd.ntmps22
      go_wp2_with fail
      refine H.out.mono ?_
      rintro e w1 ⟨⟨H1, own, ve, vl, rfl, hh, _⟩, q1⟩
      obtain ⟨al, cl, rfl⟩ := hh.shape.2
      have r1 := hh.blk.cell 1
      simp at r1
      rw [← HMM.out] at r1
      have HQ := Lib.hid q1
      clear q1 hh
      go_wp2_with fail
      go_ret
      exact ⟨rfl, HQ.out⟩

end Go.Proofs.YthgocacabadflaaDoor
