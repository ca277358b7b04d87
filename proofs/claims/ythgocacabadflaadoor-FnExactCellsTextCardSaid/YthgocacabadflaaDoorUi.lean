/-
  container/heap at the program's free list: up.
-/
import Derived.Test.YthgocacabadflaaDoorUh
namespace Go.Proofs.YthgocacabadflaaDoor
set_option linter.unusedVariables false
set_option linter.unusedSimpArgs false
open Go.RowKit

theorem mLess (F : Nat) (W : World) (v : Value) (h : W.cell? ⟨F, 0, none⟩ = some v) : (method (Tryd.prog.types.size + Made.depth) 196 (.pointer (some ⟨F, 0, none⟩)) "Less").run Tryd.prog W = .ok (157, v) W :=
  meth_at (e := 54) (by kernel_rfl) (by kernel_rfl) (fun w => by kernel_rfl) h (of_decide_eq_true (by kernel_rfl))
theorem mSwap (F : Nat) (W : World) (v : Value) (h : W.cell? ⟨F, 0, none⟩ = some v) : (method (Tryd.prog.types.size + Made.depth) 196 (.pointer (some ⟨F, 0, none⟩)) "Swap").run Tryd.prog W = .ok (158, v) W :=
  meth_at (e := 54) (by kernel_rfl) (by kernel_rfl) (fun w => by kernel_rfl) h (of_decide_eq_true (by kernel_rfl))
theorem mLen (F : Nat) (W : World) (v : Value) (h : W.cell? ⟨F, 0, none⟩ = some v) : (method (Tryd.prog.types.size + Made.depth) 196 (.pointer (some ⟨F, 0, none⟩)) "Len").run Tryd.prog W = .ok (153, v) W :=
  meth_at (e := 54) (by kernel_rfl) (by kernel_rfl) (fun w => by kernel_rfl) h (of_decide_eq_true (by kernel_rfl))
theorem mPush (F : Nat) (W : World) : (method (Tryd.prog.types.size + Made.depth) 196 (.pointer (some ⟨F, 0, none⟩)) "Push").run Tryd.prog W = .ok (167, .pointer (some ⟨F, 0, none⟩)) W := by kernel_rfl
theorem mPop (F : Nat) (W : World) : (method (Tryd.prog.types.size + Made.depth) 196 (.pointer (some ⟨F, 0, none⟩)) "Pop").run Tryd.prog W = .ok (166, .pointer (some ⟨F, 0, none⟩)) W := by kernel_rfl

/-- What up's loop holds. -/
def UpAt (W : World) (F : Nat) (own : Nat → Prop) (L : List Nat) (nx : Nat) (v vj : Value) (wr : World) : Prop :=
  ∃ (j : Nat) (L' : List Nat), vj = .int .i64 (j : Int) ∧ j < L'.length ∧ L'.Perm L ∧ UpF (nth L') L'.length j ∧ FreeAt wr F own L' nx v ∧ Keeps own W wr

set_option maxRecDepth 100000 in
set_option maxHeartbeats 8000000 in
theorem up_any (W : World) (F : Nat) (own : Nat → Prop) (L : List Nat) (nx : Nat) (v : Value) (h : FreeAt W F own L nx v) (hl : L.length ≤ 1000) (j : Nat) (hj : j < L.length) (hu : UpF (nth L) L.length j) :
    Calls Tryd.prog 155 #[.iface 196 (.pointer (some ⟨F, 0, none⟩)), .int .i64 (j : Int)] W fun e w' =>
      e = .returned (.tuple #[]) ∧ ∃ L', L'.Perm L ∧ HeapL L' ∧ FreeAt w' F own L' nx v ∧ Keeps own W w' := by
  have HP : Hid (UpAt W F own L nx v (.int .i64 (j : Int)) W) := ⟨j, L, rfl, hj, List.Perm.refl _, hu, h, Keeps.refl _ _⟩
  have HL := Lib.hid (fun (W : World) (L : List Nat) (h : NRow W v L) => less_any W v L h)
  have HS := Lib.hid (fun (W : World) (L : List Nat) (h : NRow W v L) => swap_any W v L h)
  clear h hj hu
  go_enter Tryd.func155, Tryd.ntmps155
  go_wp2_with fail
  go_loopw [1] (fun vj wr => UpAt W F own L nx v vj wr) (fun vj _ => (intOf vj).toNat)
  case atStart => exact HP.out
  case round =>
    clear HP
    obtain ⟨j, L', rfl, hj, hp, hu, hf, hq⟩ := hrel
    have hl' : L'.length ≤ 1000 := by rw [hp.length_eq]; exact hl
    have hcell : wr.cell? ⟨F, 0, none⟩ = some v := (hf.blk.cell 0).trans rfl
    cases j with
    | zero =>
      have HE : Hid (∃ L', L'.Perm L ∧ HeapL L' ∧ FreeAt wr F own L' nx v ∧ Keeps own W wr) := ⟨L', hp, hu.done (fun h => absurd h (Nat.lt_irrefl _)), hf, hq⟩
      clear hj hp hu hf hq hl' hcell
      go_wp2_with fail
      go_end0
      exact ⟨rfl, HE.out⟩
    | succ k =>
      obtain ⟨p, hpk⟩ : ∃ p, p = k / 2 := ⟨_, rfl⟩
      have hpar : par (k + 1) = p := by unfold par; omega
      have hp1 : p < k + 1 := by omega
      have hdv : (k : Int) / 2 = (p : Int) := by omega
      have hki : (((k + 1 : Nat)) : Int) = (k : Int) + 1 := by omega
      have hk6 : (k : Int) ≤ 1000 := by omega
      have hk0 : (0 : Int) ≤ (k : Int) := by omega
      have hne : ((p : Int) == (k : Int) + 1) = false := by rw [beq_eq_false_iff_ne]; omega
      have hml := mLess F wr v hcell
      simp [go_sem] at hml
      have HLS := Lib.hid (HL.out wr L' hf.row hl' (k + 1) p hj (by omega))
      rw [hki] at HLS
      have HSW : Hid (∀ W', Keeps noB wr W' → (method (Tryd.prog.types.size + Made.depth) 196 (.pointer (some ⟨F, 0, none⟩)) "Swap").run Tryd.prog W' = .ok (158, v) W' ∧
          Calls Tryd.prog 158 #[v, .int .i64 (p : Int), .int .i64 ((k : Int) + 1)] W' fun e w' => e = .returned (.tuple #[]) ∧ NRow w' v (swL L' p (k + 1)) ∧ Keeps (fun g => v.ownBlock = some g) W' w') := Lib.hid (fun W' q => by
        have h := HS.out W' L' (hf.row.keeps q (fun _ _ e => e)) hl' p (k + 1) (by omega) hj
        rw [hki] at h
        exact ⟨mSwap F W' v ((q.cell (p := ⟨F, 0, none⟩) hf.blk.lt id).trans hcell), h⟩)
      rw [hki]
      by_cases hlt : nth L' (k + 1) < nth L' p
      · have HU : Hid (∀ W' w6, Keeps noB wr W' → NRow w6 v (swL L' p (k + 1)) → Keeps (fun g => v.ownBlock = some g) W' w6 → UpAt W F own L nx v (.int .i64 (p : Int)) w6) := Lib.hid (fun W' w6 q hr q6 => by
          have hlen : (swL L' p (k + 1)).length = L'.length := swL_len _ _ _
          refine ⟨p, swL L' p (k + 1), rfl, by rw [hlen]; omega, (swL_perm (by omega) hj).trans hp, ?_, (hf.keeps q (fun _ _ e => e)).turn hr q6, (hq.trans (q.mono (fun _ e => e.elim))).trans (q6.mono (fun g hg => (hf.ownR g hg).1))⟩
          rw [hlen, swL_nth (by omega) hj, ← hpar]
          exact hu.step (by omega) hj (by rw [hpar]; exact hlt))
        rw [decide_eq_true hlt] at HLS
        clear hj hp hu hf hq hl' hcell hpk hpar hlt
        go_wp2_with (first | (go_at_call 157; refine HLS.out.mono ?_; rintro e5 w5 ⟨rfl, q5⟩; obtain ⟨hms, hsw⟩ := HSW.out _ q5; have Q5 := Lib.hid q5; have HSW2 := Lib.hid hsw; clear q5 hsw; simp [go_sem] at hms) | (go_at_call 158; refine HSW2.out.mono ?_; rintro e6 w6 ⟨rfl, hr6, q6⟩; have HE := Lib.hid (HU.out _ _ Q5.out hr6 q6); clear hr6 q6))
        go_roundw
        case rel => exact HE.out
        case measure => simp [intOf]; omega
      · have HE : Hid (∀ w5, Keeps noB wr w5 → ∃ L', L'.Perm L ∧ HeapL L' ∧ FreeAt w5 F own L' nx v ∧ Keeps own W w5) := Lib.hid (fun w5 q => ⟨L', hp, hu.done (fun _ => by rw [hpar]; omega), hf.keeps q (fun _ _ e => e), hq.trans (q.mono (fun _ e => e.elim))⟩)
        rw [decide_eq_false hlt] at HLS
        clear hj hp hu hf hq hl' hcell hpk hpar hlt
        go_wp2_with (go_at_call 157; refine HLS.out.mono ?_; rintro e5 w5 ⟨rfl, q5⟩; have Q5 := Lib.hid q5; clear q5)
        go_end0
        exact ⟨rfl, HE.out _ Q5.out⟩

end Go.Proofs.YthgocacabadflaaDoor
