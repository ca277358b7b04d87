/-
  The model's CellsFit.
-/
import Derived.Test.YthgocacabadflaaDoorUw
import Derived.Test.YthgocacabadflaaDoorRa
namespace Go.Proofs.YthgocacabadflaaDoor
set_option linter.unusedVariables false
set_option linter.unusedSimpArgs false
open Go.RowKit

set_option maxRecDepth 100000 in
set_option maxHeartbeats 16000000 in
theorem scellsFit_any (s : ByteArray) (hs : s.size ≤ 1048576) (v : Value) (n : Nat) (zs : List Int) (w : World) (ha : ArgI w v n zs) :
    Calls Tryd.prog 20 #[.string s, v] w (FitP w (fitV (readP s) zs)) := by
  have hgl : Good ((readP s).getD []) ∧ ((readP s).getD []).length ≤ 600 := by
    cases hr : readP s with
    | none => exact ⟨.nil, by simp⟩
    | some l => exact readP_good hr
  obtain ⟨hl, p, cv, rfl, hA⟩ := ha
  have hv : fitV (readP s) zs = ((readP s).isSome && (decide (n = (livesL ((readP s).getD [])).length) && okTo (livesL ((readP s).getD [])) zs (livesL ((readP s).getD [])).length)) := by
    cases readP s with
    | none => rfl
    | some l => show (decide (zs.length = _) && _) = (true && _); rw [Bool.true_and, hl]; rfl
  obtain ⟨hg, hgl⟩ := hgl
  have H := Lib.hid (read_any s hs w)
  unfold ReadPost at H
  rw [hv]
  generalize (readP s).getD [] = l at *
  generalize (readP s).isSome = bv at *
  have HL := Lib.hid (fun v w h => lives_any v l hg hgl w h)
  have h6 : (livesL l).length ≤ 600 := by have := hg.says.made; have := hg.says.le; omega
  generalize livesL l = L at *
  obtain ⟨m, hm⟩ : ∃ m, m = L.length := ⟨_, rfl⟩
  rw [← hm] at h6 ⊢
  have HM := Lib.hid hm
  have HA : Hid (∀ j wr, Keeps noB w wr → j < n → ∃ b o, p = some ⟨b, o, none⟩ ∧ n ≤ cv ∧ b < wr.heap.size ∧ wr.cell? ⟨b, o + j, none⟩ = some (.int .i64 (zs.getD j 0))) := Lib.hid (fun j wr q hj => by
    obtain ⟨b, o, e, h1, h2, h3⟩ := hA j hj
    exact ⟨b, o, e, h1, Nat.lt_of_lt_of_le h2 q.size, (q.cell (p := ⟨b, o + j, none⟩) h2 id).trans h3⟩)
  clear hg hgl hv hA hl hm
  go_enter Tryd.func20, Tryd.ntmps20
  go_wp2_with fail
  refine H.out.mono ?_
  rintro e w1 ⟨v, rfl, hrow, _, q1⟩
  have HQ := Lib.hid q1
  have HRW := Lib.hid hrow
  clear q1 hrow
  go_wp2_with fail
  refine (HL.out _ _ HRW.out).mono ?_
  rintro e w2 ⟨v2, rfl, hrow2, hf2, q2⟩
  have HQ2 := Lib.hid (HQ.out.trans q2)
  obtain ⟨a, c, rfl, hR⟩ := lrow_at hrow2
  have HR : Hid (∀ i wr, Keeps noB w2 wr → i < m → ∃ g f, a = some ⟨g, 0, none⟩ ∧ m ≤ c ∧ g < wr.heap.size ∧ L[i]? = some f ∧ wr.cell? ⟨g, i * 3, none⟩ = some (.int .i64 f.b) ∧ wr.cell? ⟨g, i * 3 + 1, none⟩ = some (.int .i64 f.u) ∧ wr.cell? ⟨g, i * 3 + 2, none⟩ = some (.int .i64 f.d)) := Lib.hid (fun i wr q hi => by
    have hm := HM.out
    obtain ⟨g, f, e1, e2, e3, e4⟩ := hR noB i wr q (fun _ _ e => e) (by omega)
    subst e1
    have := (hrow2.lt g rfl).2
    exact ⟨g, f, rfl, by omega, Nat.lt_of_lt_of_le this q.size, e3, e4⟩)
  rw [← HM.out]
  clear q2 hrow2 hf2 hR HRW HL H HQ
  cases bv with
  | false =>
    go_wp2_with fail
    go_ret
    exact ⟨by simp, HQ2.out⟩
  | true =>
    by_cases hn : n = m
    · have HV : Hid ((true && (decide (n = m) && okTo L zs m)) = okTo L zs m) := Lib.hid (by rw [decide_eq_true hn]; simp)
      rw [HV.out]
      subst hn
      have hnn : ((n : Int) != (n : Int)) = false := by simp
      go_wp2_with fail
      go_loopw [30] (fun vi wr => ∃ i : Nat, i ≤ n ∧ vi = .int .i64 (i : Int) ∧ okTo L zs i = true ∧ Keeps noB w2 wr) (fun vi _ => n - (intOf vi).toNat)
      case atStart => exact ⟨0, Nat.zero_le _, rfl, rfl, Keeps.refl _ _⟩
      case round =>
        obtain ⟨i, hin, rfl, hok, hq⟩ := hrel
        by_cases hlt : i < n
        · have hi1 : (i : Int) < (n : Int) := by omega
          have hi0 : (0 : Int) ≤ (i : Int) := by omega
          obtain ⟨b, o, rfl, hcv, hbl, s1⟩ := HA.out i wr (HQ2.out.trans hq) hlt
          obtain ⟨g, f, rfl, hc, hgl, hf, t1, t2, t3⟩ := HR.out i wr hq hlt
          have hb1 : ¬ b = wr.heap.size := by omega
          have hi2 : (n : Int) ≤ (c : Int) := by omega
          have hi3 : (n : Int) ≤ (cv : Int) := by omega
          have hi4 : (i : Int) ≤ (c : Int) := by omega
          have hos := okTo_succ L zs i
          rw [hok, Bool.true_and] at hos
          obtain ⟨y, hy⟩ : ∃ y, y = zs.getD i 0 := ⟨_, rfl⟩
          rw [← hy] at s1
          have HQR := Lib.hid hq
          by_cases hy0 : y < 0
          · have HS : Hid (okTo L zs n = false) := Lib.hid (okTo_no hlt (by unfold okAt; rw [← hy, decide_eq_false (show ¬ (0 : Int) ≤ y by omega), Bool.and_false]))
            clear hos hy hf hok hq
            go_wp2_with fail
            go_ret
            rw [HS.out]
            exact ⟨rfl, HQ2.out.trans (HQR.out.alloc _)⟩
          · have hok' : okAt L zs i = freeTo L zs i i := by unfold okAt; rw [← hy, decide_eq_true (show (0 : Int) ≤ y by omega), Bool.and_true]
            rw [hok'] at hos
            have HS := Lib.hid (And.intro hos (And.intro hok' (And.intro hy hf)))
            obtain ⟨wA, hwA⟩ : ∃ wA, wA = wr.alloc (.cells #[.int .i64 f.b, .int .i64 f.u, .int .i64 f.d] 41) := ⟨_, rfl⟩
            have bA : Blk wA wr.heap.size #[.int .i64 f.b, .int .i64 f.u, .int .i64 f.d] 41 := by rw [hwA]; exact Blk.new _ _ _
            have hqA : Keeps noB w2 wA := by rw [hwA]; exact hq.alloc _
            obtain ⟨B, hB⟩ : ∃ B, B = wr.heap.size := ⟨_, rfl⟩
            rw [← hB] at bA hb1
            have HAA := Lib.hid (And.intro bA (And.intro hqA (And.intro hwA hB)))
            clear hos hok' hy hf hok hq bA hqA hwA
            go_wp2_with fail
            rw [← HAA.out.2.2.1, ← HAA.out.2.2.2]
            obtain ⟨wO, hwO⟩ : ∃ w', w' = wr := ⟨_, rfl⟩
            clear s1 t1 t2 t3 hbl hgl hb1 hB HQR
            go_loopw [44] (fun vk wr => ∃ k : Nat, k ≤ i ∧ vk = .int .i64 (k : Int) ∧ freeTo L zs i k = true ∧ Keeps noB wA wr) (fun vk _ => i - (intOf vk).toNat)
            case atStart => exact ⟨0, Nat.zero_le _, rfl, rfl, Keeps.refl _ _⟩
            case round =>
              obtain ⟨k, hki, rfl, hfree, hq⟩ := hrel
              have hqw := (HQ2.out.trans HAA.out.2.1).trans hq
              by_cases hlt2 : k < i
              · obtain ⟨b1, o1, e1, _, hbl, s1⟩ := HA.out i wr hqw hlt
                obtain ⟨b2, o2, e2, _, _, s2⟩ := HA.out k wr hqw (by omega)
                obtain ⟨g', f', e3, _, hgl, hf', t1, t2, t3⟩ := HR.out k wr (HAA.out.2.1.trans hq) (by omega)
                simp only [Option.some.injEq, Addr.mk.injEq, and_true] at e1 e2 e3
                obtain ⟨rfl, rfl⟩ := e1
                obtain ⟨rfl, rfl⟩ := e2
                subst e3
                have bA := hq.blk HAA.out.1 id
                have r0 := bA.cell 0
                simp at r0
                have hB1 : B < wr.heap.size := bA.lt
                have hB2 : ¬ B = wr.heap.size := by omega
                have hb1 : ¬ b = wr.heap.size := by omega
                have hk1 : (k : Int) < (i : Int) := by omega
                have hk2 : (k : Int) < (n : Int) := by omega
                have hk0 : (0 : Int) ≤ (k : Int) := by omega
                have hk6 : (k : Int) ≤ 600 := by omega
                have hcl : clash L zs i k = (decide (zs.getD k 0 = y) && meetsB f' f) := by unfold clash; rw [lfAt_get hf', lfAt_get HS.out.2.2.2, ← HS.out.2.2.1]
                rw [← HS.out.2.2.1] at s1
                have hfs := freeTo_succ L zs i k
                rw [hfree, Bool.true_and] at hfs
                obtain ⟨x, hx⟩ : ∃ x, x = zs.getD k 0 := ⟨_, rfl⟩
                rw [← hx] at hcl s2
                have HNO : Hid (clash L zs i k = true → okTo L zs n = false) := Lib.hid (fun h => okTo_no hlt (by rw [HS.out.2.1]; exact freeTo_no hlt2 h))
                have HYES : Hid (clash L zs i k = false → freeTo L zs i (k + 1) = true) := Lib.hid (fun h => by rw [hfs, h]; rfl)
                have HQR := Lib.hid hq
                by_cases hxy : x = y
                · have x1 : (y == x) = true := by simp [hxy]
                  rw [decide_eq_true hxy, Bool.true_and] at hcl
                  unfold meetsB at hcl
                  by_cases hd : f'.d < 0
                  · have HS2 := Lib.hid (HNO.out (by rw [hcl, decide_eq_true hd]; rfl))
                    clear hcl hfs hx hxy hq hfree hqw bA hf'
                    go_wp2_with fail
                    go_quiet (fail)
                    go_wp2_with fail
                    go_ret
                    rw [HS2.out]
                    exact ⟨rfl, (HQ2.out.trans HAA.out.2.1).trans ((HQR.out.alloc _).drewN _)⟩
                  · by_cases hgt : f.b < f'.d
                    · have HS2 := Lib.hid (HNO.out (by rw [hcl, decide_eq_true hgt, Bool.or_true]))
                      clear hcl hfs hx hxy hq hfree hqw bA hf'
                      go_wp2_with fail
                      go_quiet (fail)
                      go_wp2_with fail
                      go_ret
                      rw [HS2.out]
                      exact ⟨rfl, (HQ2.out.trans HAA.out.2.1).trans ((HQR.out.alloc _).drewN _)⟩
                    · have HS2 := Lib.hid (HYES.out (by rw [hcl, decide_eq_false hd, decide_eq_false hgt]; rfl))
                      clear hcl hfs hx hxy hq hfree hqw bA hf'
                      go_wp2_with fail
                      go_quiet (fail)
                      go_wp2_with fail
                      go_roundw
                      case rel => exact ⟨k + 1, hlt2, by go_num, HS2.out, (HQR.out.alloc _).drewN _⟩
                      case measure => simp [intOf]; omega
                · have x1 : (y == x) = false := by rw [beq_eq_false_iff_ne]; exact fun e => hxy e.symm
                  have HS2 := Lib.hid (HYES.out (by rw [hcl, decide_eq_false hxy]; rfl))
                  clear hcl hfs hx hxy hq hfree hqw bA hf'
                  go_wp2_with fail
                  go_quiet (fail)
                  go_wp2_with fail
                  go_roundw
                  case rel => exact ⟨k + 1, hlt2, by go_num, HS2.out, (HQR.out.alloc _).drewN _⟩
                  case measure => simp [intOf]; omega
              · have hki' : k = i := by omega
                have HS2 : Hid (okTo L zs (i + 1) = true) := Lib.hid (by rw [HS.out.1]; rw [hki'] at hfree; exact hfree)
                have HQR := Lib.hid (HAA.out.2.1.trans hq)
                have hk1 : ¬ (k : Int) < (i : Int) := by omega
                clear hq hfree hki' hqw
                go_wp2_with fail
                go_roundw
                case rel => exact ⟨i + 1, hlt, by go_num, HS2.out, HQR.out⟩
                case measure => simp [intOf]; omega
        · have hi1 : ¬ (i : Int) < (n : Int) := by omega
          have HS : Hid (okTo L zs n = true) := Lib.hid (by rw [show n = i by omega]; exact hok)
          have HQR := Lib.hid hq
          clear hok hq
          go_wp2_with fail
          go_ret
          rw [HS.out]
          exact ⟨rfl, HQ2.out.trans HQR.out⟩
    · have HV : Hid ((true && (decide (n = m) && okTo L zs m)) = false) := Lib.hid (by rw [decide_eq_false hn]; simp)
      rw [HV.out]
      have hnm : ((n : Int) != (m : Int)) = true := by rw [bne_iff_ne]; omega
      go_wp2_with fail
      go_ret
      exact ⟨by simp; exact fun e => absurd e hn, HQ2.out⟩

end Go.Proofs.YthgocacabadflaaDoor
