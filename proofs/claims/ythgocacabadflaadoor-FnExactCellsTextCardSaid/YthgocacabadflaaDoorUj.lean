/-
  container/heap at the program's free list: down.
-/
import Derived.Test.YthgocacabadflaaDoorUi
namespace Go.Proofs.YthgocacabadflaaDoor
set_option linter.unusedVariables false
set_option linter.unusedSimpArgs false
open Go.RowKit

/-- What down's loop holds. -/
def DnAt (W : World) (F : Nat) (own : Nat → Prop) (L : List Nat) (n nx : Nat) (v vi : Value) (wr : World) : Prop :=
  ∃ (i : Nat) (L' : List Nat), vi = .int .i64 (i : Int) ∧ i ≤ n ∧ L'.length = n + 1 ∧ L'.Perm L ∧ nth L' n = nth L n ∧ DnF (nth L') n i ∧ FreeAt wr F own L' nx v ∧ Keeps own W wr

def DnPost (W : World) (F : Nat) (own : Nat → Prop) (L : List Nat) (n nx : Nat) (v : Value) (e : Ending) (w' : World) : Prop :=
  (∃ b, e = .returned (.bool b)) ∧ ∃ L', L'.Perm L ∧ nth L' n = nth L n ∧ HeapF (nth L') n ∧ FreeAt w' F own L' nx v ∧ Keeps own W w'

set_option maxRecDepth 100000 in
set_option maxHeartbeats 16000000 in
theorem down_any (W : World) (F : Nat) (own : Nat → Prop) (L : List Nat) (n nx : Nat) (v : Value) (h : FreeAt W F own L nx v) (hn : L.length = n + 1) (hl : n < 1000) (hd : DnF (nth L) n 0) :
    Calls Tryd.prog 156 #[.iface 196 (.pointer (some ⟨F, 0, none⟩)), .int .i64 0, .int .i64 (n : Int)] W (DnPost W F own L n nx v) := by
  have HP : Hid (DnAt W F own L n nx v (.int .i64 0) W) := ⟨0, L, rfl, Nat.zero_le _, hn, List.Perm.refl _, rfl, hd, h, Keeps.refl _ _⟩
  have HL := Lib.hid (fun (W : World) (L : List Nat) (h : NRow W v L) => less_any W v L h)
  have HS := Lib.hid (fun (W : World) (L : List Nat) (h : NRow W v L) => swap_any W v L h)
  clear h hd hn
  go_enter Tryd.func156, Tryd.ntmps156
  go_wp2_with fail
  go_loopw [7] (fun vi wr => DnAt W F own L n nx v vi wr) (fun vi _ => n + 1 - (intOf vi).toNat)
  case atStart => exact HP.out
  case round =>
    clear HP
    obtain ⟨i, L', rfl, hin, hlen, hp, hnn, hd, hf, hq⟩ := hrel
    have hl' : L'.length ≤ 1000 := by omega
    have hcell : wr.cell? ⟨F, 0, none⟩ = some v := (hf.blk.cell 0).trans rfl
    have hi0 : (0 : Int) ≤ (i : Int) := by omega
    have hi6 : (i : Int) ≤ 1000 := by omega
    have hn6 : (n : Int) ≤ 1000 := by omega
    have hkid : ∀ k, 0 < k → par k = i → k = 2 * i + 1 ∨ k = 2 * i + 2 := fun k h0 h => by unfold par at h; omega
    have HDONE : Hid ((∀ k, 0 < k → k < n → par k = i → nth L' i ≤ nth L' k) → ∀ (b : Bool) (w5 : World), Keeps noB wr w5 → DnPost W F own L n nx v (.returned (.bool b)) w5) := Lib.hid (fun hh b w5 q =>
      ⟨⟨b, rfl⟩, L', hp, hnn, hd.done hh, hf.keeps q (fun _ _ e => e), hq.trans (q.mono (fun _ e => e.elim))⟩)
    have HML : Hid (∀ W', Keeps noB wr W' → (method (Tryd.prog.types.size + Made.depth) 196 (.pointer (some ⟨F, 0, none⟩)) "Less").run Tryd.prog W' = .ok (157, v) W') := Lib.hid (fun W' q => mLess F W' v ((q.cell (p := ⟨F, 0, none⟩) hf.blk.lt id).trans hcell))
    have HMS : Hid (∀ W', Keeps noB wr W' → (method (Tryd.prog.types.size + Made.depth) 196 (.pointer (some ⟨F, 0, none⟩)) "Swap").run Tryd.prog W' = .ok (158, v) W') := Lib.hid (fun W' q => mSwap F W' v ((q.cell (p := ⟨F, 0, none⟩) hf.blk.lt id).trans hcell))
    have HLT : Hid (∀ W', Keeps noB wr W' → ∀ a b, a < n + 1 → b < n + 1 → Calls Tryd.prog 157 #[v, .int .i64 (a : Int), .int .i64 (b : Int)] W' fun e w' => e = .returned (.bool (decide (nth L' a < nth L' b))) ∧ Keeps noB wr w') := Lib.hid (fun W' q a b ha hb =>
      (HL.out W' L' (hf.row.keeps q (fun _ _ e => e)) (by omega) a b (by omega) (by omega)).mono (fun e w' h => ⟨h.1, q.trans h.2⟩))
    have HSW : Hid (∀ j, par j = i → 0 < j → j < n → (∀ k, 0 < k → k < n → par k = i → nth L' j ≤ nth L' k) → nth L' j < nth L' i → ∀ W', Keeps noB wr W' →
        Calls Tryd.prog 158 #[v, .int .i64 (i : Int), .int .i64 (j : Int)] W' fun e w' => e = .returned (.tuple #[]) ∧ DnAt W F own L n nx v (.int .i64 (j : Int)) w') := Lib.hid (fun j hj j0 jn hmin hlt W' q =>
      (HS.out W' L' (hf.row.keeps q (fun _ _ e => e)) (by omega) i j (by omega) (by omega)).mono (fun e w6 h => by
        obtain ⟨he, hr, q6⟩ := h
        have hij := par_lt j0
        rw [hj] at hij
        have hls : (swL L' i j).length = L'.length := swL_len _ _ _
        refine ⟨he, j, swL L' i j, rfl, by omega, by rw [hls, hlen], (swL_perm (by omega) (by omega)).trans hp, ?_, ?_, (hf.keeps q (fun _ _ e => e)).turn hr q6, (hq.trans (q.mono (fun _ e => e.elim))).trans (q6.mono (fun g hg => (hf.ownR g hg).1))⟩
        · rw [swL_nth (by omega) (by omega), swp_o (show n ≠ i by omega) (show n ≠ j by omega), hnn]
        · rw [swL_nth (by omega) (by omega)]
          exact hd.step hj j0 jn hmin hlt))
    have p1 : par (2 * i + 1) = i := by unfold par; omega
    have p2 : par (2 * i + 2) = i := by unfold par; omega
    clear hp hnn hd hf hq hcell
    by_cases hA : n ≤ 2 * i + 1
    · have hA1 : (n : Int) ≤ 2 * (i : Int) + 1 := by omega
      have HE := Lib.hid (HDONE.out (fun k h0 hk h => by rcases hkid k h0 h with e | e <;> omega))
      clear hkid hA
      go_wp2_with fail
      go_ret
      exact HE.out _ _ (Keeps.refl _ _)
    · have hA1 : ¬ (n : Int) ≤ 2 * (i : Int) + 1 := by omega
      have hA2 : ¬ 2 * (i : Int) + 1 < 0 := by omega
      have c1 : ((2 * i + 1 : Nat) : Int) = 2 * (i : Int) + 1 := by omega
      have c2 : ((2 * i + 2 : Nat) : Int) = 2 * (i : Int) + 1 + 1 := by omega
      have hm0 := HML.out wr (Keeps.refl _ _)
      simp [go_sem] at hm0
      by_cases hB : 2 * i + 2 < n
      · have hB1 : 2 * (i : Int) + 1 + 1 < (n : Int) := by omega
        have H1 := Lib.hid (HLT.out wr (Keeps.refl _ _) (2 * i + 2) (2 * i + 1) (by omega) (by omega))
        rw [c1, c2] at H1
        by_cases hC : nth L' (2 * i + 2) < nth L' (2 * i + 1)
        · rw [decide_eq_true hC] at H1
          have hmin : ∀ k, 0 < k → k < n → par k = i → nth L' (2 * i + 2) ≤ nth L' k := fun k h0 hk h => by rcases hkid k h0 h with e | e <;> rw [e] <;> omega
          have H2 := Lib.hid (fun W' q => HLT.out W' q (2 * i + 2) i (by omega) (by omega))
          rw [c2] at H2
          have H3 := Lib.hid (HSW.out (2 * i + 2) p2 (by omega) (by omega) hmin)
          rw [c2] at H3
          by_cases hD : nth L' (2 * i + 2) < nth L' i
          · rw [decide_eq_true hD] at H2
            have H3 := Lib.hid (H3.out hD)
            clear hkid hmin hA hB hD hC
            go_wp2_with fail
            refine H1.out.mono ?_
            rintro e5 w5 ⟨rfl, q5⟩
            have Q5 := Lib.hid q5
            have hm5 := HML.out w5 q5
            clear q5
            simp [go_sem] at hm5
            go_wp2_with fail
            refine (H2.out _ Q5.out).mono ?_
            rintro e6 w6 ⟨rfl, q6⟩
            have Q6 := Lib.hid q6
            have hm6 := HMS.out w6 q6
            clear q6
            simp [go_sem] at hm6
            go_wp2_with fail
            refine (H3.out _ Q6.out).mono ?_
            rintro e7 w7 ⟨rfl, hr7⟩
            have HE := Lib.hid hr7
            clear hr7
            go_wp2_with fail
            go_roundw
            case rel => exact HE.out
            case measure => simp [intOf]; omega
          · rw [decide_eq_false hD] at H2
            have HE := Lib.hid (HDONE.out (fun k h0 hk h => Nat.le_trans (by omega) (hmin k h0 hk h)))
            clear hkid hmin hA hB hD hC
            go_wp2_with fail
            refine H1.out.mono ?_
            rintro e5 w5 ⟨rfl, q5⟩
            have Q5 := Lib.hid q5
            have hm5 := HML.out w5 q5
            clear q5
            simp [go_sem] at hm5
            go_wp2_with fail
            refine (H2.out _ Q5.out).mono ?_
            rintro e6 w6 ⟨rfl, q6⟩
            have Q6 := Lib.hid q6
            clear q6
            go_wp2_with fail
            go_ret
            exact HE.out _ _ Q6.out
        · rw [decide_eq_false hC] at H1
          have hmin : ∀ k, 0 < k → k < n → par k = i → nth L' (2 * i + 1) ≤ nth L' k := fun k h0 hk h => by rcases hkid k h0 h with e | e <;> rw [e] <;> omega
          have H2 := Lib.hid (fun W' q => HLT.out W' q (2 * i + 1) i (by omega) (by omega))
          rw [c1] at H2
          have H3 := Lib.hid (HSW.out (2 * i + 1) p1 (by omega) (by omega) hmin)
          rw [c1] at H3
          by_cases hD : nth L' (2 * i + 1) < nth L' i
          · rw [decide_eq_true hD] at H2
            have H3 := Lib.hid (H3.out hD)
            clear hkid hmin hA hB hD hC
            go_wp2_with fail
            refine H1.out.mono ?_
            rintro e5 w5 ⟨rfl, q5⟩
            have Q5 := Lib.hid q5
            have hm5 := HML.out w5 q5
            clear q5
            simp [go_sem] at hm5
            go_wp2_with fail
            refine (H2.out _ Q5.out).mono ?_
            rintro e6 w6 ⟨rfl, q6⟩
            have Q6 := Lib.hid q6
            have hm6 := HMS.out w6 q6
            clear q6
            simp [go_sem] at hm6
            go_wp2_with fail
            refine (H3.out _ Q6.out).mono ?_
            rintro e7 w7 ⟨rfl, hr7⟩
            have HE := Lib.hid hr7
            clear hr7
            go_wp2_with fail
            go_roundw
            case rel => exact HE.out
            case measure => simp [intOf]; omega
          · rw [decide_eq_false hD] at H2
            have HE := Lib.hid (HDONE.out (fun k h0 hk h => Nat.le_trans (by omega) (hmin k h0 hk h)))
            clear hkid hmin hA hB hD hC
            go_wp2_with fail
            refine H1.out.mono ?_
            rintro e5 w5 ⟨rfl, q5⟩
            have Q5 := Lib.hid q5
            have hm5 := HML.out w5 q5
            clear q5
            simp [go_sem] at hm5
            go_wp2_with fail
            refine (H2.out _ Q5.out).mono ?_
            rintro e6 w6 ⟨rfl, q6⟩
            have Q6 := Lib.hid q6
            clear q6
            go_wp2_with fail
            go_ret
            exact HE.out _ _ Q6.out
      · have hB1 : ¬ 2 * (i : Int) + 1 + 1 < (n : Int) := by omega
        have hmin : ∀ k, 0 < k → k < n → par k = i → nth L' (2 * i + 1) ≤ nth L' k := fun k h0 hk h => by rcases hkid k h0 h with e | e
                                                                                                          · rw [e]; exact Nat.le_refl _
                                                                                                          · omega
        have H2 := Lib.hid (fun W' q => HLT.out W' q (2 * i + 1) i (by omega) (by omega))
        rw [c1] at H2
        have H3 := Lib.hid (HSW.out (2 * i + 1) p1 (by omega) (by omega) hmin)
        rw [c1] at H3
        by_cases hD : nth L' (2 * i + 1) < nth L' i
        · rw [decide_eq_true hD] at H2
          have H3 := Lib.hid (H3.out hD)
          clear hkid hmin hA hB hD
          have Q5 := Lib.hid (Keeps.refl noB wr)
          go_wp2_with fail
          refine (H2.out _ Q5.out).mono ?_
          rintro e6 w6 ⟨rfl, q6⟩
          have Q6 := Lib.hid q6
          have hm6 := HMS.out w6 q6
          clear q6
          simp [go_sem] at hm6
          go_wp2_with fail
          refine (H3.out _ Q6.out).mono ?_
          rintro e7 w7 ⟨rfl, hr7⟩
          have HE := Lib.hid hr7
          clear hr7
          go_wp2_with fail
          go_roundw
          case rel => exact HE.out
          case measure => simp [intOf]; omega
        · rw [decide_eq_false hD] at H2
          have HE := Lib.hid (HDONE.out (fun k h0 hk h => Nat.le_trans (by omega) (hmin k h0 hk h)))
          clear hkid hmin hA hB hD
          have Q5 := Lib.hid (Keeps.refl noB wr)
          go_wp2_with fail
          refine (H2.out _ Q5.out).mono ?_
          rintro e6 w6 ⟨rfl, q6⟩
          have Q6 := Lib.hid q6
          clear q6
          go_wp2_with fail
          go_ret
          exact HE.out _ _ Q6.out

end Go.Proofs.YthgocacabadflaaDoor
