/-
  EarlyEvents, on both sides.
-/
import Derived.Test.YthgocacabadflaaDoorAd
import Derived.Test.YthgocacabadflaaDoorAf
namespace Go.Proofs.YthgocacabadflaaDoor
set_option linter.unusedVariables false
set_option linter.unusedSimpArgs false
open Go.RowKit

/-- What EarlyEvents answers. -/
def earlyT : Option (List Ev) → ByteArray
  | none => ⟨#[]⟩
  | some l => textT (earlyU l l.length)
def EarlyP (w : World) (r : Option (List Ev)) (e : Ending) (w' : World) : Prop := e = .returned (.tuple #[.string (earlyT r), .bool r.isSome]) ∧ Keeps noB w w'

theorem earlyU_ok {l : List Ev} (hg : Good l) (hl : l.length ≤ 600) : (earlyU l l.length).length ≤ 1200 ∧ (∀ e ∈ earlyU l l.length, e.n < 1000) ∧ ∀ e ∈ earlyU l l.length, e.k = 43 ∨ e.k = 46 ∨ e.k = 45 := by
  have hall : ∀ e ∈ earlyU l l.length, e.n < 1000 ∧ (e.k = 43 ∨ e.k = 46 ∨ e.k = 45) := fun e he => by
    unfold earlyU at he
    obtain ⟨i, _, he⟩ := List.mem_flatMap.1 he
    unfold earlyAt at he
    cases hc : l[i]? with
    | none => rw [hc] at he; cases he
    | some x =>
      rw [hc] at he
      dsimp only at he
      have hx := ev_index hg hc
      have hk := fits_kind (hg.at i x hc).2
      have hxn : x.n < 1000 := by have := hg.says.made; have := hg.says.le; omega
      by_cases h45 : x.k = 45
      · rw [if_pos h45] at he; cases he
      · rw [if_neg h45] at he
        rcases List.mem_cons.1 he with he | he
        · rw [he]; exact ⟨hxn, hk⟩
        · cases hf : (livesL l)[x.n - 1]? with
          | none => rw [hf] at he; cases he
          | some f =>
            rw [hf] at he
            dsimp only at he
            by_cases hc2 : f.u = (i : Int) ∧ 0 ≤ f.d
            · rw [if_pos hc2] at he
              obtain rfl := List.mem_singleton.1 he
              exact ⟨hxn, .inr (.inr rfl)⟩
            · rw [if_neg hc2] at he; cases he
  exact ⟨by have := earlyU_len l l.length; omega, fun e he => (hall e he).1, fun e he => (hall e he).2⟩

set_option maxRecDepth 100000 in
set_option maxHeartbeats 4000000 in
theorem searlyEvents_any (s : ByteArray) (hs : s.size ≤ 1048576) (w : World) : Calls Tryd.prog 11 #[.string s] w (EarlyP w (readP s)) := by
  cases hr : readP s with
  | none =>
    have H := Lib.hid (read_any s hs w)
    rw [hr] at H
    go_enter Tryd.func11, Tryd.ntmps11
    go_wp2_with fail
    refine H.out.mono ?_
    rintro e w1 ⟨v, rfl, _, _, q1⟩
    have HQ := Lib.hid q1
    clear q1
    go_wp2_with fail
    refine bodyPost_ret (resSEarly _ _ _ _ rfl rfl) rfl ?_
    exact ⟨rfl, HQ.out⟩
  | some l => exact searly_any s hs textT (fun L v w h1 h2 h3 => stext_any L v w h1 h2 h3) l hr w

theorem resEarly (W : World) (v b : Value) (tmps : Array Value) (h2 : tmps.getD 2 undef = v) (h3 : tmps.getD 3 undef = b) : (results Tryd.f12 tmps).run Tryd.prog W = .ok (.tuple #[v, b]) W := by
  have h2' : tmps[2]?.getD undef = v := by simpa using h2
  have h3' : tmps[3]?.getD undef = b := by simpa using h3
  simp [results, Tryd.results12, go_sem, h2', h3']

set_option maxRecDepth 100000 in
set_option maxHeartbeats 4000000 in
theorem earlyEvents_any (s : ByteArray) (hs : s.size ≤ 1048576) (w : World) (hE : Env w) : Calls Tryd.prog 12 #[.string s] w (EarlyP w (readP s)) := by
  have H := Lib.hid (historyOf_any s hs w hE)
  have HEE := Lib.hid hE
  clear hE
  cases hr : readP s with
  | none =>
    rw [hr] at H
    go_enter Tryd.func12, Tryd.ntmps12
    go_wp2_with fail
    refine H.out.mono ?_
    rintro e w1 ⟨⟨tp, q, rfl⟩, q1⟩
    have HQ := Lib.hid q1
    clear q1
    go_wp2_with fail
    refine bodyPost_ret (resEarly _ _ _ _ rfl rfl) rfl ?_
    exact ⟨rfl, HQ.out⟩
  | some l =>
    obtain ⟨hg, hl⟩ := readP_good hr
    rw [hr] at H
    obtain ⟨u1, u2, u3⟩ := earlyU_ok hg hl
    have HL := Lib.hid (fun w H own ve vl h => early_any w H own l ve vl h hg hl)
    have HFM := Lib.hid (fun v w h hE => format_any (earlyU l l.length) v w u1 u2 u3 h hE)
    have hval : earlyT (some l) = textT (earlyU l l.length) := rfl
    have HV := Lib.hid hval
    generalize hUU : earlyU l l.length = U at *
    clear hg hl hr hval u1 u2 u3 hUU
    go_enter Tryd.func12, Tryd.ntmps12
    go_wp2_with fail
    refine H.out.mono ?_
    rintro e w1 ⟨⟨H1, own, ve, vl, rfl, hh, _⟩, q1⟩
    have HQ := Lib.hid q1
    have HH := Lib.hid hh
    clear q1 hh
    go_wp2_with fail
    refine (HL.out _ _ _ _ _ HH.out).mono ?_
    rintro e w2 ⟨v2, rfl, hrow2, _, q2⟩
    have HQ2 := Lib.hid (HQ.out.trans q2)
    obtain ⟨a, c, hv⟩ := row_shape (ok := fun _ => True) ⟨hrow2, fun _ _ => trivial⟩
    subst hv
    have HR := Lib.hid hrow2
    clear q2 hrow2 HH
    go_wp2_with fail
    refine (HFM.out _ _ HR.out (HEE.out.keeps HQ2.out (fun _ _ e => e))).mono ?_
    rintro e w3 ⟨rfl, q3⟩
    have HQ3 := Lib.hid (HQ2.out.trans q3)
    clear q3
    go_wp2_with fail
    refine bodyPost_ret (resEarly _ _ _ _ rfl rfl) rfl ?_
    exact ⟨by rw [HV.out]; rfl, HQ3.out⟩

end Go.Proofs.YthgocacabadflaaDoor
