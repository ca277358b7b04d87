/-
  The model's CellsText.
-/
import Derived.Test.YthgocacabadflaaDoorCh
import Derived.Test.YthgocacabadflaaDoorCg
import Derived.Test.YthgocacabadflaaDoorSb
import Derived.Test.YthgocacabadflaaDoorRt
namespace Go.Proofs.YthgocacabadflaaDoor
set_option linter.unusedVariables false
set_option linter.unusedSimpArgs false
open Go.RowKit
open Go.Lib (decDigits)

theorem resSCt (W : World) (v b : Value) (tmps : Array Value) (h2 : tmps.getD 2 undef = v) (h3 : tmps.getD 3 undef = b) : (results Tryd.f29 tmps).run Tryd.prog W = .ok (.tuple #[v, b]) W := by
  have h2' : tmps[2]?.getD undef = v := by simpa using h2
  have h3' : tmps[3]?.getD undef = b := by simpa using h3
  simp [results, Tryd.results29, go_sem, h2', h3']

theorem madeN_takeC (l : List Ev) (k : Nat) : madeN (l.take k) ≤ madeN l := by
  unfold madeN
  exact List.Sublist.length_le ((List.take_sublist k l).filter _)
theorem ba_list {B : ByteArray} {L : List UInt8} (h : B.data.toList = L) : B = ⟨L.toArray⟩ := by
  apply ByteArray.ext
  apply Array.ext'
  rw [h]
theorem ba_size {B : ByteArray} {L : List UInt8} (h : B.data.toList = L) : B.size = L.length := by
  rw [← h, Array.length_toList]; rfl
theorem ba_app (A B : ByteArray) : (A ++ B).data.toList = A.data.toList ++ B.data.toList := by
  rw [ByteArray.data_append, Array.toList_append]
theorem valC_len (O : List Nat) (c : Nat) : ∀ (A : List Nat), (∀ n ∈ A, n < 1000) → (valC O c A).length ≤ 3 := fun A h => by
  unfold valC
  have : ∀ (A : List Nat) (v : List UInt8), v.length ≤ 3 → (∀ n ∈ A, n < 1000) → (A.foldl (fun v n => if nth O (n - 1) = c then decDigits n else v) v).length ≤ 3 := by
    intro A
    induction A with
    | nil => intro v hv _; exact hv
    | cons a r ih =>
      intro v hv h
      rw [List.foldl_cons]
      refine ih _ ?_ (fun n hn => h n (by simp [hn]))
      split
      · exact dec_len (h a (by simp))
      · exact hv
  exact this A _ (by simp) h

def OtAt (w3 : World) (T : Nat → List UInt8) (N : Nat) (vo vi : Value) (wr : World) : Prop := ∃ (i : Nat) (B : ByteArray), i ≤ N ∧ vi = .int .i64 (i : Int) ∧ vo = .string B ∧ B.data.toList = T i ∧ Keeps noB w3 wr
def MtAt (w4 : World) (SL : List UInt8) (ins : Nat → Nat) (C : Nat) (vo vi : Value) (wr : World) : Prop := ∃ (c : Nat) (B : ByteArray), c ≤ C ∧ vi = .int .i64 (c : Int) ∧ vo = .string B ∧ B.data.toList = SL ++ rowB ins c ∧ Keeps noB w4 wr
def VtAt (wc : World) (O : List Nat) (c : Nat) (A : List Nat) (vv vj : Value) (wr : World) : Prop := ∃ (j : Nat) (B : ByteArray), j ≤ A.length ∧ vj = .int .i64 (j : Int) ∧ vv = .string B ∧ B.data.toList = valC O c (A.take j) ∧ Keeps noB wc wr

set_option maxRecDepth 100000 in
set_option maxHeartbeats 16000000 in
theorem scellsText_any (s : ByteArray) (hs : s.size ≤ 1048576) (w : World) : Calls Tryd.prog 29 #[.string s] w (CtP w (readP s)) := by
  have H := Lib.hid (read_any s hs w)
  cases hr : readP s with
  | none =>
    rw [hr] at H
    go_enter Tryd.func29, Tryd.ntmps29
    go_wp2_with fail
    refine H.out.mono ?_
    rintro e w1 ⟨v, rfl, _, _, q1⟩
    have HQ := Lib.hid q1
    clear q1
    go_wp2_with fail
    refine bodyPost_ret (resSCt _ _ _ _ rfl rfl) rfl ?_
    exact ⟨rfl, HQ.out⟩
  | some l =>
    obtain ⟨hg, hl⟩ := readP_good hr
    rw [hr] at H
    obtain ⟨N, hN⟩ : ∃ N, N = l.length := ⟨_, rfl⟩
    obtain ⟨O, hO⟩ : ∃ O, O = (cellsS freeN l).O := ⟨_, rfl⟩
    obtain ⟨C, hC⟩ : ∃ C, C = cellN freeN l := ⟨_, rfl⟩
    obtain ⟨T, hT⟩ : ∃ T, T = ctext freeN l C := ⟨_, rfl⟩
    obtain ⟨mL, hmL⟩ : ∃ mL, mL = (livesL l).length := ⟨_, rfl⟩
    obtain ⟨nO, hnO⟩ : ∃ nO, nO = O.length := ⟨_, rfl⟩
    have hmade : O.length = madeN l := by rw [hO]; exact (cinv picks_free hg).len
    have hml := hg.says.made
    have hle := hg.says.le
    have hC6 : C ≤ 600 := by
      rw [hC]
      by_cases h0 : l = []
      · subst h0; exact Nat.le_trans (cntN_le.2 (fun c h => by cases h)) (Nat.zero_le 600)
      · exact (cellN_bnd picks_free hg hl h0).1
    have HL := Lib.hid (fun v w h => lives_any v l hg hl w h)
    have HCL : Hid (∀ v w, ERow w v l → Calls Tryd.prog 37 #[v] w (WithoutPost w O)) := Lib.hid (fun v w h => by rw [hO]; exact scells_any v l hg hl w h)
    have HCN : Hid (∀ v w, NRow w v O → Calls Tryd.prog 39 #[v] w fun e w' => e = .returned (.int .i64 (C : Int)) ∧ w' = w) := Lib.hid (fun v w h => by
      have hb := cellsO_len picks_free hg hl
      rw [← hO] at hb
      rw [hC]
      unfold cellN
      rw [← hO]
      exact count_any v O w h (by omega) (fun c hc => by have := hb.2 c hc; omega))
    have HAL : Hid (∀ i, i < N → ∀ v w, LRow w v (livesL l) → Calls Tryd.prog 43 #[v, .int .i64 (i : Int)] w (WithoutPost w (aliveL (l.take (i + 1))))) := Lib.hid (fun i hi v w h => by
      have := alive_any v (livesL l) (i : Int) w h (by omega)
      rwa [alive_sel hg (by omega)] at this)
    have HAN : Hid (∀ i, i < N → (aliveL (l.take (i + 1))).length ≤ 600) := Lib.hid (fun i hi => by
      have := selN_len (atK (i : Int)) 0 (livesL l)
      rw [alive_sel hg (by omega)] at this
      omega)
    have HV : Hid (∀ i c, valC O c (aliveL (l.take (i + 1))) = cellW (insS freeN (l.take (i + 1)) c)) := Lib.hid (fun i c => by rw [hO]; exact valC_is picks_free hg (i + 1) c)
    have HAB : Hid (∀ i n, n ∈ aliveL (l.take (i + 1)) → 1 ≤ n ∧ n - 1 < O.length ∧ n < 1000) := Lib.hid (fun i n hn => by
      have h1 := alive_bnd (hg.take (i + 1)) hn
      have h2 := madeN_takeC l (i + 1)
      omega)
    have HTX : Hid (T 0 = [] ∧ (∀ i, T (i + 1) = (if T i = [] then [] else T i ++ [59]) ++ rowB (insS freeN (l.take (i + 1))) C) ∧ (∀ i, (T i).length ≤ 2401 * i) ∧ ∀ i, i ≠ 0 → i ≤ N → T i ≠ []) := Lib.hid (by
      rw [hT]
      refine ⟨rfl, fun i => rfl, fun i => ctext_len freeN hg hl hC6 i, fun i hi hiN => ?_⟩
      have h0 : l ≠ [] := by rintro rfl; simp at hN; omega
      exact ctext_ne freeN hg hl (by rw [hC]; exact (cellN_bnd picks_free hg hl h0).2) hi)
    have HEND : Hid (cellsT (some l) = if l = [] then ⟨#[45]⟩ else ⟨(T N).toArray⟩) := Lib.hid (by rw [hT, hC, hN]; rfl)
    have HRL : Hid (∀ i c, (rowB (insS freeN (l.take (i + 1))) c).length ≤ 4 * c) := Lib.hid (fun i c => rowB_len (fun j => insS_lt freeN hg hl (i + 1) j) c)
    have HD := Lib.hid (fun n w h => dec_any n h w)
    have HN := Lib.hid (And.intro hN (And.intro hmL hnO))
    rw [← hN] at hl
    clear hg hr hN hO hC hT hmL hnO hmade hml hle
    go_enter Tryd.func29, Tryd.ntmps29
    go_wp2_with fail
    refine H.out.mono ?_
    rintro e w1 ⟨v, rfl, hrow0, _, q1⟩
    have hrow : ERow w1 v l := hrow0
    clear hrow0
    obtain ⟨a, c0, hv⟩ := row_shape (ok := fun _ => True) ⟨hrow, fun _ _ => trivial⟩
    rw [← HN.out.1] at hv
    subst hv
    have HRW := Lib.hid (And.intro hrow q1)
    clear hrow q1
    go_wp2_with fail
    refine (HL.out _ _ HRW.out.1).mono ?_
    rintro e w2 ⟨v2, rfl, hrow2, _, q2⟩
    obtain ⟨a2, c2, hv2⟩ := row_shape (ok := fun _ => True) ⟨hrow2, fun _ _ => trivial⟩
    rw [← HN.out.2.1] at hv2
    subst hv2
    have HR2 := Lib.hid (And.intro hrow2 q2)
    clear hrow2 q2
    go_wp2_with fail
    refine (HCL.out _ _ (HRW.out.1.keepsE HR2.out.2 (fun _ _ e => e))).mono ?_
    rintro e w3 ⟨v3, rfl, hrow3, _, q3⟩
    obtain ⟨a3, c3, hv3⟩ := hrow3.shape
    rw [← HN.out.2.2] at hv3
    subst hv3
    have HR3 := Lib.hid (And.intro hrow3 q3)
    have HP : Hid (OtAt w3 T N (.string ⟨#[]⟩) (.int .i64 0) w3) := Lib.hid ⟨0, ⟨#[]⟩, Nat.zero_le _, rfl, rfl, by rw [HTX.out.1], Keeps.refl _ _⟩
    clear hrow3 q3
    go_wp2_with fail
    go_loopw [8, 28] (fun vo vi wr => OtAt w3 T N vo vi wr) (fun _ vi _ => N - (intOf vi).toNat)
    case atStart => exact HP.out
    case round =>
      clear HP
      obtain ⟨i, X, hin, rfl, rfl, hX, hq⟩ := hrel
      by_cases hlt : i < N
      · have hi1 : (i : Int) < (N : Int) := by omega
        have hi6 : (i : Int) ≤ 600 := by omega
        have hXs : X.size ≤ 1440600 := by rw [ba_size hX]; have := HTX.out.2.2.1 i; omega
        have hs1 : X.size + (⟨#[59]⟩ : ByteArray).size ≤ 9223372036854775807 := by show X.size + 1 ≤ _; omega
        have hs2 : X.size + 1 ≤ 9223372036854775807 := by omega
        have hs3 : ¬ 9223372036854775807 < X.size + 1 := by omega
        have HQ := Lib.hid hq
        obtain ⟨ins, hins⟩ : ∃ ins, ins = insS freeN (l.take (i + 1)) := ⟨_, rfl⟩
        obtain ⟨A, hA⟩ : ∃ A, A = aliveL (l.take (i + 1)) := ⟨_, rfl⟩
        obtain ⟨nA, hnA⟩ : ∃ nA, nA = A.length := ⟨_, rfl⟩
        have HA4 : Hid (Calls Tryd.prog 43 #[.slice a2 mL c2, .int .i64 (i : Int)] wr (WithoutPost wr A)) := Lib.hid (by rw [hA]; exact HAL.out i hlt _ _ (show LRow _ _ _ from (HR3.out.2.trans hq).ownsRow HR2.out.1 (fun _ _ _ e => e)))
        have HIA : Hid ((∀ c, valC O c A = cellW (ins c)) ∧ (∀ n, n ∈ A → 1 ≤ n ∧ n - 1 < O.length ∧ n < 1000) ∧ (∀ c, (rowB ins c).length ≤ 4 * c) ∧ nA = A.length) := Lib.hid (by rw [hins, hA]; exact ⟨HV.out i, HAB.out i, HRL.out i, by rw [hnA, hA]⟩)
        have hnA6 : nA ≤ 600 := by rw [hnA, hA]; exact HAN.out i hlt
        have HNX : Hid (∀ SL, SL = (if T i = [] then [] else T i ++ [59]) → SL ++ rowB ins C = T (i + 1)) := Lib.hid (fun SL h => by rw [h, hins]; exact (HTX.out.2.1 i).symm)
        have HXX := Lib.hid hX
        clear hX hq hins hA hnA
        by_cases hi0 : i = 0
        · have hz : ¬ (0 : Int) < (i : Int) := by omega
          obtain ⟨S, hS⟩ : ∃ S, S = X := ⟨_, rfl⟩
          obtain ⟨SL, hSL⟩ : ∃ SL, SL = S.data.toList := ⟨_, rfl⟩
          have HSL : Hid (SL = (if T i = [] then [] else T i ++ [59]) ∧ SL.length ≤ 1440601 ∧ S.data.toList = SL) := Lib.hid ⟨by rw [hSL, hS, HXX.out, hi0, HTX.out.1]; rfl, by rw [hSL, ← ba_size rfl, hS]; omega, hSL.symm⟩
          clear hSL hi0
          go_wp2_with fail
          rw [← hS]
          clear hS hs1 hs2 hs3 hXs
          refine HA4.out.mono ?_
          rintro e w4 ⟨v4, rfl, hrow4, _, q4⟩
          obtain ⟨a4, c4, hv4⟩ := hrow4.shape
          rw [← HIA.out.2.2.2] at hv4
          subst hv4
          have HR4 := Lib.hid (And.intro hrow4 (HQ.out.trans q4))
          clear hrow4 q4
          go_wp2_with fail
          refine (HCN.out _ _ (HR3.out.1.keeps HR4.out.2 (fun _ _ => id))).mono ?_
          rintro e w4' ⟨rfl, rfl⟩
          have HP2 : Hid (MtAt w4' SL ins C (.string S) (.int .i64 0) w4') := Lib.hid ⟨0, S, Nat.zero_le _, rfl, rfl, by rw [HSL.out.2.2]; simp [rowB], Keeps.refl _ _⟩
          go_wp2_with fail
          go_loopw [8, 40] (fun vo vi wr => MtAt w4' SL ins C vo vi wr) (fun _ vi _ => C - (intOf vi).toNat)
          case atStart => exact HP2.out
          case round =>
            clear HP2
            obtain ⟨c, B, hcn, rfl, rfl, hB, hq⟩ := hrel
            by_cases hltc : c < C
            · have hc1 : (c : Int) < (C : Int) := by omega
              have hc6 : (c : Int) ≤ 600 := by omega
              have hBs : B.size ≤ 1443001 := by rw [ba_size hB, List.length_append]; have := HIA.out.2.2.1 c; have := HSL.out.2.1; omega
              have HB := Lib.hid (And.intro hB hq)
              obtain ⟨wc, hwc⟩ : ∃ wc, wc = wr := ⟨_, rfl⟩
              rw [← hwc] at HB
              have HP3 : Hid (VtAt wc O c A (.string ⟨#[46]⟩) (.int .i64 0) wr) := Lib.hid ⟨0, ⟨#[46]⟩, Nat.zero_le _, rfl, rfl, rfl, by rw [hwc]; exact Keeps.refl _ _⟩
              clear hB hq
              go_wp2_with fail
              clear hwc
              go_loopw [12, 45] (fun vv vj wr => VtAt wc O c A vv vj wr) (fun _ vj _ => nA - (intOf vj).toNat)
              case atStart => exact HP3.out
              case round =>
                clear HP3
                obtain ⟨j, V, hjn, rfl, rfl, hV, hq⟩ := hrel
                rw [← HIA.out.2.2.2] at hjn
                by_cases hltj : j < nA
                · have hj1 : (j : Int) < (nA : Int) := by omega
                  have hj6 : (j : Int) ≤ 600 := by omega
                  have hjl : j < A.length := by rw [← HIA.out.2.2.2]; exact hltj
                  obtain ⟨g4, c4', e4, hcc4, hg4, t4, _⟩ := HR4.out.1.at hjl
                  simp only [Value.slice.injEq] at e4
                  obtain ⟨rfl, hx4, rfl⟩ := e4
                  have hnm : nth A j ∈ A := List.mem_of_getElem? (nth_some hjl)
                  obtain ⟨hn1, hn2, hn3⟩ := HIA.out.2.1 _ hnm
                  obtain ⟨m, hm⟩ : ∃ m, nth A j = m + 1 := ⟨nth A j - 1, by omega⟩
                  have hmO : m < O.length := by omega
                  obtain ⟨g3, c3', e3, hcc3, hg3, t3, _⟩ := HR3.out.1.at hmO
                  simp only [Value.slice.injEq] at e3
                  obtain ⟨rfl, hx3, rfl⟩ := e3
                  have hqc : Keeps noB w4' wr := HB.out.2.trans hq
                  have y4 := (hqc.cell (p := ⟨g4, j, none⟩) hg4 id).trans t4
                  have y3 := ((HR4.out.2.trans hqc).cell (p := ⟨g3, m, none⟩) hg3 id).trans t3
                  have hmi : ((nth A j : Nat) : Int) = (m : Int) + 1 := by omega
                  rw [hmi] at y4
                  have hj2 : (nA : Int) ≤ (c4 : Int) := by rw [HIA.out.2.2.2]; omega
                  have hm1 : (m : Int) < (nO : Int) := by rw [HN.out.2.2]; omega
                  have hm2 : (nO : Int) ≤ (c3 : Int) := by rw [HN.out.2.2]; omega
                  have hm0 : (0 : Int) ≤ (m : Int) := by omega
                  have hm6 : (m : Int) ≤ 1000 := by omega
                  have hvs : valC O c (A.take (j + 1)) = if nth O m = c then decDigits (m + 1) else valC O c (A.take j) := by
                    rw [List.take_add_one, nth_some hjl]
                    show valC O c (A.take j ++ [nth A j]) = _
                    rw [valC_snoc, hm]
                    rfl
                  have HDC := Lib.hid (HD.out (m + 1) wr (by omega))
                  obtain ⟨o, ho⟩ : ∃ o, o = nth O m := ⟨_, rfl⟩
                  rw [← ho] at y3 hvs
                  have HS := Lib.hid (And.intro hV (And.intro hq hvs))
                  clear hx3 hx4 hV hq hqc t4 t3 hcc4 hcc3 hnm hn1 hn2 hn3 hm hmO hmi hvs ho hjl hg3 hg4
                  by_cases hoc : o = c
                  · have x1 : ((o : Int) == (c : Int)) = true := by rw [hoc]; simp
                    have HOC := Lib.hid hoc
                    clear hoc
                    go_wp2_with fail
                    refine HDC.out.mono ?_
                    rintro e w6 ⟨rfl, q6⟩
                    have HE : Hid (VtAt wc O c A (str (decDigits (m + 1))) (.int .i64 ((j : Int) + 1)) w6) := Lib.hid ⟨j + 1, ⟨(decDigits (m + 1)).toArray⟩, by rw [← HIA.out.2.2.2]; exact hltj, by go_num, rfl, by rw [HS.out.2.2, if_pos HOC.out], HS.out.2.1.trans q6⟩
                    clear q6
                    go_wp2_with fail
                    go_roundw
                    case rel => exact HE.out
                    case measure => simp [intOf]; omega
                  · have x1 : ((o : Int) == (c : Int)) = false := by rw [beq_eq_false_iff_ne]; omega
                    have HE : Hid (VtAt wc O c A (.string V) (.int .i64 ((j : Int) + 1)) wr) := Lib.hid ⟨j + 1, V, by rw [← HIA.out.2.2.2]; exact hltj, by go_num, rfl, by rw [HS.out.2.2, if_neg hoc]; exact HS.out.1, HS.out.2.1⟩
                    go_wp2_with fail
                    go_roundw
                    case rel => exact HE.out
                    case measure => simp [intOf]; omega
                · have hj1 : ¬ (j : Int) < (nA : Int) := by omega
                  have hjA : A.take j = A := List.take_of_length_le (by rw [← HIA.out.2.2.2]; omega)
                  rw [hjA, HIA.out.1 c] at hV
                  have hVs : V.size ≤ 3 := by
                    rw [ba_size hV, ← HIA.out.1 c]
                    exact valC_len O c A (fun n hn => (HIA.out.2.1 n hn).2.2)
                  have hrn : rowB ins (c + 1) = (if c = 0 then [] else rowB ins c ++ [32]) ++ cellW (ins c) := rfl
                  have HS := Lib.hid (And.intro hV (And.intro (HB.out.2.trans hq) hrn))
                  clear hV hq hrn hjA
                  have k1 : B.size + V.size ≤ 9223372036854775807 := by omega
                  have k2 : ¬ 9223372036854775807 < B.size + V.size := by omega
                  have k3 : B.size + 1 ≤ 9223372036854775807 := by omega
                  have k4 : ¬ 9223372036854775807 < B.size + 1 := by omega
                  have k5 : B.size + 1 + V.size ≤ 9223372036854775807 := by omega
                  have k6 : ¬ 9223372036854775807 < B.size + 1 + V.size := by omega
                  by_cases hc0 : c = 0
                  · have hz2 : ¬ (0 : Int) < (c : Int) := by omega
                    have HE : Hid (MtAt w4' SL ins C (.string (B ++ V)) (.int .i64 ((c : Int) + 1)) wr) := Lib.hid ⟨c + 1, B ++ V, hltc, by go_num, rfl, by rw [ba_app, HB.out.1, HS.out.1, HS.out.2.2, if_pos hc0, hc0]; simp [rowB], HS.out.2.1⟩
                    have HC0 := Lib.hid hc0
                    clear hc0
                    go_wp2_with fail
                    go_roundw
                    case rel => exact HE.out
                    case measure => simp [intOf]; omega
                  · have hz2 : (0 : Int) < (c : Int) := by omega
                    have HE : Hid (MtAt w4' SL ins C (.string (B ++ ⟨#[32]⟩ ++ V)) (.int .i64 ((c : Int) + 1)) wr) := Lib.hid ⟨c + 1, B ++ ⟨#[32]⟩ ++ V, hltc, by go_num, rfl, by rw [ba_app, ba_app, HB.out.1, HS.out.1, HS.out.2.2, if_neg hc0]; simp, HS.out.2.1⟩
                    go_wp2_with fail
                    go_roundw
                    case rel => exact HE.out
                    case measure => simp [intOf]; omega
            · have hc1 : ¬ (c : Int) < (C : Int) := by omega
              have hcC : c = C := by omega
              have HE : Hid (OtAt w3 T N (.string B) (.int .i64 ((i : Int) + 1)) wr) := Lib.hid ⟨i + 1, B, hlt, by go_num, rfl, by rw [hB, hcC]; exact HNX.out SL HSL.out.1, HR4.out.2.trans hq⟩
              clear hB hq hcC
              go_wp2_with fail
              go_roundw
              case rel => exact HE.out
              case measure => simp [intOf]; omega
        · have hz : (0 : Int) < (i : Int) := by omega
          obtain ⟨S, hS⟩ : ∃ S, S = X ++ ⟨#[59]⟩ := ⟨_, rfl⟩
          obtain ⟨SL, hSL⟩ : ∃ SL, SL = S.data.toList := ⟨_, rfl⟩
          have HSL : Hid (SL = (if T i = [] then [] else T i ++ [59]) ∧ SL.length ≤ 1440601 ∧ S.data.toList = SL) := Lib.hid ⟨by rw [hSL, hS, ba_app, HXX.out, if_neg (HTX.out.2.2.2 i hi0 (by omega))], by rw [hSL, ← ba_size rfl, hS, ByteArray.size_append]; show X.size + 1 ≤ _; omega, hSL.symm⟩
          clear hSL
          go_wp2_with fail
          rw [← hS]
          clear hS hs1 hs2 hs3 hXs
          refine HA4.out.mono ?_
          rintro e w4 ⟨v4, rfl, hrow4, _, q4⟩
          obtain ⟨a4, c4, hv4⟩ := hrow4.shape
          rw [← HIA.out.2.2.2] at hv4
          subst hv4
          have HR4 := Lib.hid (And.intro hrow4 (HQ.out.trans q4))
          clear hrow4 q4
          go_wp2_with fail
          refine (HCN.out _ _ (HR3.out.1.keeps HR4.out.2 (fun _ _ => id))).mono ?_
          rintro e w4' ⟨rfl, rfl⟩
          have HP2 : Hid (MtAt w4' SL ins C (.string S) (.int .i64 0) w4') := Lib.hid ⟨0, S, Nat.zero_le _, rfl, rfl, by rw [HSL.out.2.2]; simp [rowB], Keeps.refl _ _⟩
          go_wp2_with fail
          go_loopw [8, 40] (fun vo vi wr => MtAt w4' SL ins C vo vi wr) (fun _ vi _ => C - (intOf vi).toNat)
          case atStart => exact HP2.out
          case round =>
            clear HP2
            obtain ⟨c, B, hcn, rfl, rfl, hB, hq⟩ := hrel
            by_cases hltc : c < C
            · have hc1 : (c : Int) < (C : Int) := by omega
              have hc6 : (c : Int) ≤ 600 := by omega
              have hBs : B.size ≤ 1443001 := by rw [ba_size hB, List.length_append]; have := HIA.out.2.2.1 c; have := HSL.out.2.1; omega
              have HB := Lib.hid (And.intro hB hq)
              obtain ⟨wc, hwc⟩ : ∃ wc, wc = wr := ⟨_, rfl⟩
              rw [← hwc] at HB
              have HP3 : Hid (VtAt wc O c A (.string ⟨#[46]⟩) (.int .i64 0) wr) := Lib.hid ⟨0, ⟨#[46]⟩, Nat.zero_le _, rfl, rfl, rfl, by rw [hwc]; exact Keeps.refl _ _⟩
              clear hB hq
              go_wp2_with fail
              clear hwc
              go_loopw [12, 45] (fun vv vj wr => VtAt wc O c A vv vj wr) (fun _ vj _ => nA - (intOf vj).toNat)
              case atStart => exact HP3.out
              case round =>
                clear HP3
                obtain ⟨j, V, hjn, rfl, rfl, hV, hq⟩ := hrel
                rw [← HIA.out.2.2.2] at hjn
                by_cases hltj : j < nA
                · have hj1 : (j : Int) < (nA : Int) := by omega
                  have hj6 : (j : Int) ≤ 600 := by omega
                  have hjl : j < A.length := by rw [← HIA.out.2.2.2]; exact hltj
                  obtain ⟨g4, c4', e4, hcc4, hg4, t4, _⟩ := HR4.out.1.at hjl
                  simp only [Value.slice.injEq] at e4
                  obtain ⟨rfl, hx4, rfl⟩ := e4
                  have hnm : nth A j ∈ A := List.mem_of_getElem? (nth_some hjl)
                  obtain ⟨hn1, hn2, hn3⟩ := HIA.out.2.1 _ hnm
                  obtain ⟨m, hm⟩ : ∃ m, nth A j = m + 1 := ⟨nth A j - 1, by omega⟩
                  have hmO : m < O.length := by omega
                  obtain ⟨g3, c3', e3, hcc3, hg3, t3, _⟩ := HR3.out.1.at hmO
                  simp only [Value.slice.injEq] at e3
                  obtain ⟨rfl, hx3, rfl⟩ := e3
                  have hqc : Keeps noB w4' wr := HB.out.2.trans hq
                  have y4 := (hqc.cell (p := ⟨g4, j, none⟩) hg4 id).trans t4
                  have y3 := ((HR4.out.2.trans hqc).cell (p := ⟨g3, m, none⟩) hg3 id).trans t3
                  have hmi : ((nth A j : Nat) : Int) = (m : Int) + 1 := by omega
                  rw [hmi] at y4
                  have hj2 : (nA : Int) ≤ (c4 : Int) := by rw [HIA.out.2.2.2]; omega
                  have hm1 : (m : Int) < (nO : Int) := by rw [HN.out.2.2]; omega
                  have hm2 : (nO : Int) ≤ (c3 : Int) := by rw [HN.out.2.2]; omega
                  have hm0 : (0 : Int) ≤ (m : Int) := by omega
                  have hm6 : (m : Int) ≤ 1000 := by omega
                  have hvs : valC O c (A.take (j + 1)) = if nth O m = c then decDigits (m + 1) else valC O c (A.take j) := by
                    rw [List.take_add_one, nth_some hjl]
                    show valC O c (A.take j ++ [nth A j]) = _
                    rw [valC_snoc, hm]
                    rfl
                  have HDC := Lib.hid (HD.out (m + 1) wr (by omega))
                  obtain ⟨o, ho⟩ : ∃ o, o = nth O m := ⟨_, rfl⟩
                  rw [← ho] at y3 hvs
                  have HS := Lib.hid (And.intro hV (And.intro hq hvs))
                  clear hx3 hx4 hV hq hqc t4 t3 hcc4 hcc3 hnm hn1 hn2 hn3 hm hmO hmi hvs ho hjl hg3 hg4
                  by_cases hoc : o = c
                  · have x1 : ((o : Int) == (c : Int)) = true := by rw [hoc]; simp
                    have HOC := Lib.hid hoc
                    clear hoc
                    go_wp2_with fail
                    refine HDC.out.mono ?_
                    rintro e w6 ⟨rfl, q6⟩
                    have HE : Hid (VtAt wc O c A (str (decDigits (m + 1))) (.int .i64 ((j : Int) + 1)) w6) := Lib.hid ⟨j + 1, ⟨(decDigits (m + 1)).toArray⟩, by rw [← HIA.out.2.2.2]; exact hltj, by go_num, rfl, by rw [HS.out.2.2, if_pos HOC.out], HS.out.2.1.trans q6⟩
                    clear q6
                    go_wp2_with fail
                    go_roundw
                    case rel => exact HE.out
                    case measure => simp [intOf]; omega
                  · have x1 : ((o : Int) == (c : Int)) = false := by rw [beq_eq_false_iff_ne]; omega
                    have HE : Hid (VtAt wc O c A (.string V) (.int .i64 ((j : Int) + 1)) wr) := Lib.hid ⟨j + 1, V, by rw [← HIA.out.2.2.2]; exact hltj, by go_num, rfl, by rw [HS.out.2.2, if_neg hoc]; exact HS.out.1, HS.out.2.1⟩
                    go_wp2_with fail
                    go_roundw
                    case rel => exact HE.out
                    case measure => simp [intOf]; omega
                · have hj1 : ¬ (j : Int) < (nA : Int) := by omega
                  have hjA : A.take j = A := List.take_of_length_le (by rw [← HIA.out.2.2.2]; omega)
                  rw [hjA, HIA.out.1 c] at hV
                  have hVs : V.size ≤ 3 := by
                    rw [ba_size hV, ← HIA.out.1 c]
                    exact valC_len O c A (fun n hn => (HIA.out.2.1 n hn).2.2)
                  have hrn : rowB ins (c + 1) = (if c = 0 then [] else rowB ins c ++ [32]) ++ cellW (ins c) := rfl
                  have HS := Lib.hid (And.intro hV (And.intro (HB.out.2.trans hq) hrn))
                  clear hV hq hrn hjA
                  have k1 : B.size + V.size ≤ 9223372036854775807 := by omega
                  have k2 : ¬ 9223372036854775807 < B.size + V.size := by omega
                  have k3 : B.size + 1 ≤ 9223372036854775807 := by omega
                  have k4 : ¬ 9223372036854775807 < B.size + 1 := by omega
                  have k5 : B.size + 1 + V.size ≤ 9223372036854775807 := by omega
                  have k6 : ¬ 9223372036854775807 < B.size + 1 + V.size := by omega
                  by_cases hc0 : c = 0
                  · have hz2 : ¬ (0 : Int) < (c : Int) := by omega
                    have HE : Hid (MtAt w4' SL ins C (.string (B ++ V)) (.int .i64 ((c : Int) + 1)) wr) := Lib.hid ⟨c + 1, B ++ V, hltc, by go_num, rfl, by rw [ba_app, HB.out.1, HS.out.1, HS.out.2.2, if_pos hc0, hc0]; simp [rowB], HS.out.2.1⟩
                    have HC0 := Lib.hid hc0
                    clear hc0
                    go_wp2_with fail
                    go_roundw
                    case rel => exact HE.out
                    case measure => simp [intOf]; omega
                  · have hz2 : (0 : Int) < (c : Int) := by omega
                    have HE : Hid (MtAt w4' SL ins C (.string (B ++ ⟨#[32]⟩ ++ V)) (.int .i64 ((c : Int) + 1)) wr) := Lib.hid ⟨c + 1, B ++ ⟨#[32]⟩ ++ V, hltc, by go_num, rfl, by rw [ba_app, ba_app, HB.out.1, HS.out.1, HS.out.2.2, if_neg hc0]; simp, HS.out.2.1⟩
                    go_wp2_with fail
                    go_roundw
                    case rel => exact HE.out
                    case measure => simp [intOf]; omega
            · have hc1 : ¬ (c : Int) < (C : Int) := by omega
              have hcC : c = C := by omega
              have HE : Hid (OtAt w3 T N (.string B) (.int .i64 ((i : Int) + 1)) wr) := Lib.hid ⟨i + 1, B, hlt, by go_num, rfl, by rw [hB, hcC]; exact HNX.out SL HSL.out.1, HR4.out.2.trans hq⟩
              clear hB hq hcC
              go_wp2_with fail
              go_roundw
              case rel => exact HE.out
              case measure => simp [intOf]; omega
      · have hi1 : ¬ (i : Int) < (N : Int) := by omega
        have hiN : i = N := by omega
        subst hiN
        by_cases hl0 : l = []
        · have hi00 : i = 0 := by rw [HN.out.1, hl0]; rfl
          have hXe : X = ⟨#[]⟩ := by
            rw [hi00, HTX.out.1] at hX
            exact ba_list hX
          have HE : Hid (CtP w (some l) (.returned (.tuple #[.string ⟨#[45]⟩, .bool true])) wr) := Lib.hid ⟨by rw [HEND.out, if_pos hl0]; rfl, ((HRW.out.2.trans HR2.out.2).trans HR3.out.2).trans hq⟩
          subst hXe
          clear hX hq hl0 hi00
          go_wp2_with fail
          refine bodyPost_ret (resSCt _ _ _ _ rfl rfl) rfl ?_
          exact HE.out
        · have hi00 : i ≠ 0 := by rw [HN.out.1]; simpa using hl0
          have hne := HTX.out.2.2.2 i hi00 (Nat.le_refl _)
          have hX2 := ba_list hX
          have hXl : X.toList = T i := by rw [ByteArray.toList_eq]; exact hX
          have hx1 : X.toList.isEmpty = false := by rw [hXl]; simpa using hne
          have hx2 : (X.toList == []) = false := by rw [hXl, beq_eq_false_iff_ne]; exact hne
          have HE : Hid (CtP w (some l) (.returned (.tuple #[.string X, .bool true])) wr) := Lib.hid ⟨by rw [HEND.out, if_neg hl0, ← hX2]; rfl, ((HRW.out.2.trans HR2.out.2).trans HR3.out.2).trans hq⟩
          clear hX hq hl0 hne hX2 hXl
          go_wp2_with fail
          refine bodyPost_ret (resSCt _ _ _ _ rfl rfl) rfl ?_
          exact HE.out

end Go.Proofs.YthgocacabadflaaDoor
