/-
  IdleOf, on both sides.
-/
import Derived.Test.YtnjkaojgcnepdaaDoorQh
import Derived.Test.YtnjkaojgcnepdaaDoorRa
import Derived.Test.YtnjkaojgcnepdaaDoorRb
namespace Go.Proofs.YtnjkaojgcnepdaaDoor
set_option linter.unusedVariables false
set_option linter.unusedSimpArgs false
open Go.RowKit

/-! ### the plain account -/
def idleE (f : Lf) : Int := if 0 ≤ f.d then f.d - f.u - 1 else 0
def idleT : List Lf → Int
  | [] => 0
  | f :: r => idleE f + idleT r
def idleF : List Lf → Int
  | [] => 0
  | f :: r => (f.d - f.u - 1) + idleF r
theorem idleT_snoc : ∀ (s : List Lf) (f : Lf), idleT (s ++ [f]) = idleT s + idleE f
  | [], f => by show idleE f + 0 = 0 + idleE f; omega
  | x :: r, f => by show idleE x + idleT (r ++ [f]) = idleE x + idleT r + idleE f; rw [idleT_snoc r f]; omega
theorem idleF_snoc : ∀ (s : List Lf) (f : Lf), idleF (s ++ [f]) = idleF s + (f.d - f.u - 1)
  | [], f => by show (f.d - f.u - 1) + 0 = 0 + (f.d - f.u - 1); omega
  | x :: r, f => by show (x.d - x.u - 1) + idleF (r ++ [f]) = (x.d - x.u - 1) + idleF r + (f.d - f.u - 1); rw [idleF_snoc r f]; omega
theorem idleF_over : ∀ s : List Lf, idleF (s.filter overL) = idleT s
  | [] => rfl
  | f :: r => by
    have ih := idleF_over r
    by_cases h : 0 ≤ f.d
    · rw [List.filter_cons_of_pos (by unfold overL; exact decide_eq_true h)]
      show (f.d - f.u - 1) + idleF (r.filter overL) = idleE f + idleT r
      unfold idleE
      rw [if_pos h, ih]
    · rw [List.filter_cons_of_neg (by unfold overL; simp [h])]
      show idleF (r.filter overL) = idleE f + idleT r
      unfold idleE
      rw [if_neg h, ih]; omega

/-- What a life of at most 600 events is. -/
def Lf.ok (f : Lf) : Prop := 0 ≤ f.u ∧ f.u ≤ 600 ∧ -1 ≤ f.d ∧ f.d ≤ 600 ∧ (f.d < 0 ∨ f.u < f.d)
theorem lives_ok {l : List Ev} (hg : Good l) (hl : l.length ≤ 600) : ∀ f ∈ livesL l, f.ok := fun f hf => by
  obtain ⟨i, hi⟩ := List.getElem?_of_mem hf
  have := hg.says.bnd i f hi
  unfold Lf.ok; omega
theorem idleT_le : ∀ s : List Lf, (∀ f ∈ s, f.ok) → 0 ≤ idleT s ∧ idleT s ≤ 600 * (s.length : Int)
  | [], _ => by show (0 : Int) ≤ 0 ∧ (0 : Int) ≤ _; simp
  | f :: r, h => by
    have ih := idleT_le r (fun x hx => h x (by simp [hx]))
    have h0 := h f (by simp)
    show 0 ≤ idleE f + idleT r ∧ idleE f + idleT r ≤ 600 * ((r.length + 1 : Nat) : Int)
    unfold Lf.ok at h0
    unfold idleE
    split <;> omega

def idleV : Option (List Ev) → Int
  | none => -1
  | some l => idleT (livesL l)

def IntP (w : World) (v : Int) (e : Ending) (w' : World) : Prop := e = .returned (.int .i64 v) ∧ Keeps noB w w'

/-- What the loops hold. -/
def IdAt (s : List Lf) (F : List Lf → Int) (w : World) (vo vi : Value) (wr : World) : Prop :=
  ∃ i : Nat, i ≤ s.length ∧ vi = .int .i64 (i : Int) ∧ vo = .int .i64 (F (s.take i)) ∧ Keeps noB w wr

theorem lrow_get {w : World} {v : Value} {s : List Lf} (h : LRow w v s) : ∃ a c, v = .slice a s.length c ∧ ∀ i wr, Keeps noB w wr → i < s.length → ∃ g f, a = some ⟨g, 0, none⟩ ∧ s.length ≤ c ∧ s[i]? = some f ∧ wr.cell? ⟨g, i * 3, none⟩ = some (.int .i64 f.b) ∧ wr.cell? ⟨g, i * 3 + 1, none⟩ = some (.int .i64 f.u) ∧ wr.cell? ⟨g, i * 3 + 2, none⟩ = some (.int .i64 f.d) := by
  obtain ⟨a, c, rfl⟩ := row_shape (ok := fun _ => True) ⟨h, fun _ _ => trivial⟩
  refine ⟨a, c, rfl, fun i wr q hi => ?_⟩
  obtain ⟨g, d, e, hc, hgl, hh⟩ := row_capM (ok := fun _ => True) h (by omega)
  simp only [Value.slice.injEq, true_and] at e
  obtain ⟨rfl, rfl⟩ := e
  have hm := List.getElem?_eq_getElem (l := s) (i := i) (by omega)
  obtain ⟨g0, g1, g2⟩ := lfC_get s i _ hm
  rw [show 3 * i = i * 3 by omega] at g0 g1 g2
  exact ⟨g, _, rfl, hc, hm, (q.cell (p := ⟨g, i * 3, none⟩) hgl id).trans (hh _ _ g0).1, (q.cell (p := ⟨g, i * 3 + 1, none⟩) hgl id).trans (hh _ _ g1).1, (q.cell (p := ⟨g, i * 3 + 2, none⟩) hgl id).trans (hh _ _ g2).1⟩

set_option maxRecDepth 100000 in
set_option maxHeartbeats 8000000 in
theorem sidle_any (s : ByteArray) (hs : s.size ≤ 1048576) (w : World) : Calls Tryd.prog 27 #[.string s] w (IntP w (idleV (readP s))) := by
  have H := Lib.hid (read_any s hs w)
  cases hr : readP s with
  | none =>
    rw [hr] at H
    go_enter Tryd.func27, Tryd.ntmps27
    go_wp2_with fail
    refine H.out.mono ?_
    rintro e w1 ⟨v, rfl, _, _, q1⟩
    have HQ := Lib.hid q1
    clear q1
    go_wp2_with fail
    go_ret
    exact ⟨rfl, HQ.out⟩
  | some l =>
    obtain ⟨hg, hl⟩ := readP_good hr
    rw [hr] at H
    have HL := Lib.hid (fun v w h => lives_any v l hg hl w h)
    have HOK := Lib.hid (lives_ok hg hl)
    have hle : (livesL l).length ≤ 600 := by have := hg.says.made; have := hg.says.le; omega
    show Calls _ _ _ _ (IntP w (idleT (livesL l)))
    generalize livesL l = L at *
    clear hg hl hr
    go_enter Tryd.func27, Tryd.ntmps27
    go_wp2_with fail
    refine H.out.mono ?_
    rintro e w1 ⟨v, rfl, hrow, _, q1⟩
    have HQ := Lib.hid q1
    have HRW := Lib.hid hrow
    clear q1 hrow
    go_wp2_with fail
    refine (HL.out _ _ HRW.out).mono ?_
    rintro e w2 ⟨v2, rfl, hrow2, _, q2⟩
    have HQ2 := Lib.hid (HQ.out.trans q2)
    obtain ⟨a, c, rfl, hR⟩ := lrow_get hrow2
    obtain ⟨N, hN⟩ : ∃ N, N = L.length := ⟨_, rfl⟩
    have HR := Lib.hid hR
    rw [← hN] at HR hle ⊢
    have HN := Lib.hid hN
    clear q2 hrow2 hR hN HRW
    have HP : Hid (IdAt L idleT w2 (.int .i64 0) (.int .i64 0) w2) := ⟨0, Nat.zero_le _, rfl, rfl, Keeps.refl _ _⟩
    go_wp2_with fail
    go_loopw [5, 18] (fun vo vi wr => IdAt L idleT w2 vo vi wr) (fun _ vi _ => N - (intOf vi).toNat)
    case atStart => exact HP.out
    case round =>
      clear HP
      obtain ⟨i, hin, rfl, rfl, hq⟩ := hrel
      rw [← HN.out] at hin
      have hb := idleT_le (L.take i) (fun f hf => HOK.out f (List.mem_of_mem_take hf))
      have hbl : (L.take i).length ≤ 600 := by rw [List.length_take]; have := HN.out; omega
      obtain ⟨S, hS⟩ : ∃ S, S = idleT (L.take i) := ⟨_, rfl⟩
      rw [← hS] at hb ⊢
      by_cases hlt : i < N
      · obtain ⟨g, f, rfl, hc, hm, r1, r2, r3⟩ := HR.out i wr hq hlt
        have hi1 : (i : Int) < (N : Int) := by omega
        have hi2 : (N : Int) ≤ (c : Int) := by omega
        have hok := HOK.out f (List.mem_of_getElem? hm)
        unfold Lf.ok at hok
        obtain ⟨o1, o2, o3, o4, o5⟩ := hok
        have hstep : idleT (L.take (i + 1)) = S + idleE f := by rw [List.take_add_one, hm]; show idleT (L.take i ++ [f]) = _; rw [idleT_snoc, hS]
        obtain ⟨b1, b2⟩ := hb
        have b3 : S ≤ 360000 := by omega
        by_cases hd : 0 ≤ f.d
        · have HE : Hid (∀ W', Keeps noB wr W' → IdAt L idleT w2 (.int .i64 (S + f.d - f.u - 1)) (.int .i64 ((i : Int) + 1)) W') := fun W' q => by
            refine ⟨i + 1, by rw [← HN.out]; omega, by go_num, ?_, hq.trans q⟩
            rw [hstep]; unfold idleE; rw [if_pos hd, show S + f.d - f.u - 1 = S + (f.d - f.u - 1) by omega]
          clear hstep hm hS hbl hq b2 o5
          go_wp2_with fail
          go_roundw
          case rel => exact HE.out _ ((Keeps.refl _ _).alloc _)
          case measure => simp [intOf]; omega
        · have HE : Hid (∀ W', Keeps noB wr W' → IdAt L idleT w2 (.int .i64 S) (.int .i64 ((i : Int) + 1)) W') := fun W' q => by
            refine ⟨i + 1, by rw [← HN.out]; omega, by go_num, ?_, hq.trans q⟩
            rw [hstep]; unfold idleE; rw [if_neg hd, show S + 0 = S by omega]
          clear hstep hm hS hbl hq b2 o5
          go_wp2_with fail
          go_roundw
          case rel => exact HE.out _ ((Keeps.refl _ _).alloc _)
          case measure => simp [intOf]; omega
      · have HE : Hid (IntP w (idleT L) (.returned (.int .i64 S)) wr) := by
          rw [List.take_of_length_le (by have := HN.out; omega)] at hS
          rw [hS]; exact ⟨rfl, HQ2.out.trans hq⟩
        have hi1 : ¬ (i : Int) < (N : Int) := by omega
        clear hS hq hb hbl
        go_wp2_with fail
        go_ret
        exact HE.out

set_option maxRecDepth 100000 in
set_option maxHeartbeats 8000000 in
theorem idleOf_any (s : ByteArray) (hs : s.size ≤ 1048576) (w : World) (hE : Env w) : Calls Tryd.prog 28 #[.string s] w (IntP w (idleV (readP s))) := by
  have H := Lib.hid (historyOf_any s hs w hE)
  clear hE
  cases hr : readP s with
  | none =>
    rw [hr] at H
    go_enter Tryd.func28, Tryd.ntmps28
    go_wp2_with fail
    refine H.out.mono ?_
    rintro e w1 ⟨⟨tp, q, rfl⟩, q1⟩
    have HQ := Lib.hid q1
    clear q1
    go_wp2_with fail
    go_ret
    exact ⟨rfl, HQ.out⟩
  | some l =>
    obtain ⟨hg, hl⟩ := readP_good hr
    rw [hr] at H
    have HL := Lib.hid (fun w H own ve vl h => lives_overL w H own l ve vl h hg hl)
    have HOK : Hid (∀ f ∈ (livesL l).filter overL, f.ok ∧ 0 ≤ f.d) := Lib.hid (fun f hf => by
      obtain ⟨h1, h2⟩ := List.mem_filter.1 hf
      exact ⟨lives_ok hg hl f h1, by unfold overL at h2; exact of_decide_eq_true h2⟩)
    have hle : ((livesL l).filter overL).length ≤ 600 := by have := hg.says.made; have := hg.says.le; have := List.length_filter_le overL (livesL l); omega
    have hval : idleV (some l) = idleF ((livesL l).filter overL) := (idleF_over (livesL l)).symm
    rw [hval]
    generalize (livesL l).filter overL = L at *
    clear hg hl hr hval
    go_enter Tryd.func28, Tryd.ntmps28
    go_wp2_with fail
    refine H.out.mono ?_
    rintro e w1 ⟨⟨H1, own, ve, vl, rfl, hh, _⟩, q1⟩
    have HQ := Lib.hid q1
    have HH := Lib.hid hh
    clear q1 hh
    go_wp2_with fail
    refine (HL.out _ _ _ _ _ HH.out).mono ?_
    rintro e w2 ⟨v2, rfl, hrow2, _, q2⟩
    have HQ2 := Lib.hid (HQ.out.trans q2)
    obtain ⟨a, c, rfl, hR⟩ := lrow_get hrow2
    obtain ⟨N, hN⟩ : ∃ N, N = L.length := ⟨_, rfl⟩
    have HR := Lib.hid hR
    rw [← hN] at HR hle ⊢
    have HN := Lib.hid hN
    clear q2 hrow2 hR hN HH
    have HP : Hid (IdAt L idleF w2 (.int .i64 0) (.int .i64 0) w2) := ⟨0, Nat.zero_le _, rfl, rfl, Keeps.refl _ _⟩
    go_wp2_with fail
    go_loopw [5, 18] (fun vo vi wr => IdAt L idleF w2 vo vi wr) (fun _ vi _ => N - (intOf vi).toNat)
    case atStart => exact HP.out
    case round =>
      clear HP
      obtain ⟨i, hin, rfl, rfl, hq⟩ := hrel
      rw [← HN.out] at hin
      have hb : 0 ≤ idleF (L.take i) ∧ idleF (L.take i) ≤ 360000 := by
        have e : idleF (L.take i) = idleT (L.take i) := by
          rw [← idleF_over, List.filter_eq_self.2 (fun f hf => by unfold overL; exact decide_eq_true (HOK.out f (List.mem_of_mem_take hf)).2)]
        have := idleT_le (L.take i) (fun f hf => (HOK.out f (List.mem_of_mem_take hf)).1)
        have : (L.take i).length ≤ 600 := by rw [List.length_take]; have := HN.out; omega
        omega
      obtain ⟨S, hS⟩ : ∃ S, S = idleF (L.take i) := ⟨_, rfl⟩
      rw [← hS] at hb ⊢
      by_cases hlt : i < N
      · obtain ⟨g, f, rfl, hc, hm, r1, r2, r3⟩ := HR.out i wr hq hlt
        have hi1 : (i : Int) < (N : Int) := by omega
        have hi2 : (N : Int) ≤ (c : Int) := by omega
        obtain ⟨hok, hd⟩ := HOK.out f (List.mem_of_getElem? hm)
        unfold Lf.ok at hok
        obtain ⟨o1, o2, o3, o4, o5⟩ := hok
        have hstep : idleF (L.take (i + 1)) = S + (f.d - f.u - 1) := by rw [List.take_add_one, hm]; show idleF (L.take i ++ [f]) = _; rw [idleF_snoc, hS]
        obtain ⟨b1, b2⟩ := hb
        have HI := Lib.hid (fun W => idle_any f.b f.u f.d o1 o2 hd o4 W)
        have HE : Hid (∀ W', Keeps noB wr W' → IdAt L idleF w2 (.int .i64 (S + (f.d - f.u - 1))) (.int .i64 ((i : Int) + 1)) W') := fun W' q => by
          refine ⟨i + 1, by rw [← HN.out]; omega, by go_num, ?_, hq.trans q⟩
          rw [hstep]
        clear hstep hm hS hq o5
        go_wp2_with (go_at_call 43; refine (HI.out _).mono ?_; rintro e w5 ⟨rfl, q5⟩; have Q5 := Lib.hid (((Keeps.refl noB wr).alloc _).trans q5); clear q5)
        go_roundw
        case rel => exact HE.out _ Q5.out
        case measure => simp [intOf]; omega
      · have HE : Hid (IntP w (idleF L) (.returned (.int .i64 S)) wr) := by
          rw [List.take_of_length_le (by have := HN.out; omega)] at hS
          rw [hS]; exact ⟨rfl, HQ2.out.trans hq⟩
        have hi1 : ¬ (i : Int) < (N : Int) := by omega
        clear hS hq hb
        go_wp2_with fail
        go_ret
        exact HE.out

end Go.Proofs.YtnjkaojgcnepdaaDoor
