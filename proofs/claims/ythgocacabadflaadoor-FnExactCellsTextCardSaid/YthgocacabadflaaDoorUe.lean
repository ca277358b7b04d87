/-
  The model's cells of values: l8Stack.
-/
import Derived.Test.YthgocacabadflaaDoorUd
import Derived.Test.YthgocacabadflaaDoorRa
namespace Go.Proofs.YthgocacabadflaaDoor
set_option linter.unusedVariables false
set_option linter.unusedSimpArgs false
open Go.RowKit

set_option maxRecDepth 100000 in
set_option maxHeartbeats 16000000 in
theorem sstack_any (v : Value) (l : List Ev) (hg : Good l) (hl : l.length ≤ 600) (w : World) (h : ERow w v l) : Calls Tryd.prog 42 #[v] w (WithoutPost w (cellsS cntN l).O) := by
  obtain ⟨i0, hi, hz0, hz1, hz2⟩ := info_parts Tryd.infoI3
  have HI := Lib.hid (And.intro hi (And.intro hz0 (And.intro hz1 hz2)))
  obtain ⟨a, c, rfl⟩ := row_shape (ok := fun _ => True) ⟨h, fun _ _ => trivial⟩
  obtain ⟨N, hN⟩ : ∃ N, N = l.length := ⟨_, rfl⟩
  have HPK : Hid (∀ (v : Value) (T : List Nat) (w : World), NRow w v T → T.length ≤ 600 → (∀ c ∈ T, c ≤ 600) → Calls Tryd.prog 39 #[v] w fun e w' => e = .returned (.int .i64 (cntN T : Int)) ∧ w' = w) :=
    Lib.hid (fun v T w h hl hb => count_any v T w h (by omega) (fun c hc => by have := hb c hc; omega))
  have HWO := Lib.hid (fun (v : Value) (T : List Nat) (n : Int) (w : World) (h : NRow w v T) (hl : T.length ≤ 100000) => without_any v T n w h hl)
  have o1 := World.ownsRow_made w #[] 0 (e := 3) (size := 1) (Nat.zero_le _) (by simp [maxLen]) rfl
  have o2 := World.ownsRow_made (w.alloc (.cells #[] 3)) #[] 0 (e := 3) (size := 1) (Nat.zero_le _) (by simp [maxLen]) rfl
  have HP : Hid (CsAt w l cntN (.slice (some ⟨w.heap.size, 0, none⟩) 0 0) (.slice (some ⟨w.heap.size + 1, 0, none⟩) 0 0) (.int .i64 0) ((w.alloc (.cells #[] 3)).alloc (.cells #[] 3))) := by
    refine ⟨0, Nat.zero_le _, rfl, ?_, ?_, fun g hg => by simp [Value.ownBlock] at hg; omega, fun g hg => by simp [Value.ownBlock] at hg; omega, fun g hg hg2 => by simp [Value.ownBlock] at hg hg2; omega, ((Keeps.refl noB w).alloc _).alloc _⟩
    · exact ((Keeps.refl noB _).alloc _).ownsRow o1 (fun _ _ _ e => e)
    · rw [World.size_alloc] at o2; exact o2
  have HR : Hid (∀ i wr, Keeps noB w wr → i < N → ∃ g e, a = some ⟨g, 0, none⟩ ∧ N ≤ c ∧ l[i]? = some e ∧ wr.cell? ⟨g, i * 2, none⟩ = some (.int .u8 (e.k.toNat : Int)) ∧ wr.cell? ⟨g, i * 2 + 1, none⟩ = some (.int .i64 (e.n : Int))) := fun i wr q hi => by
    obtain ⟨g, d, e, hc, hgl, hh⟩ := row_capM (ok := fun _ => True) h (by omega)
    simp only [Value.slice.injEq, true_and] at e
    obtain ⟨rfl, rfl⟩ := e
    have hm := List.getElem?_eq_getElem (l := l) (i := i) (by omega)
    obtain ⟨g0, g1⟩ := evC_get l i _ hm
    rw [show 2 * i = i * 2 by omega] at g0 g1
    exact ⟨g, _, rfl, by omega, hm, (q.cell (p := ⟨g, i * 2, none⟩) hgl id).trans (hh _ _ g0).1, (q.cell (p := ⟨g, i * 2 + 1, none⟩) hgl id).trans (hh _ _ g1).1⟩
  have HN := Lib.hid hN
  have HG := Lib.hid hg
  have HBD := Lib.hid (fun i => cs_bounds picks_cnt hg hl i)
  rw [← hN] at hl ⊢
  clear h hN o1 o2 hi hz0 hz1 hz2 hg
  go_enter Tryd.func42, Tryd.ntmps42
  go_wp2_with fail
  go_loopw [3, 4, 12] (fun vo vt vi wr => CsAt w l cntN vo vt vi wr) (fun _ _ vi _ => N - (intOf vi).toNat)
  case atStart => exact HP.out
  case round =>
    clear HP
    obtain ⟨i, hin, rfl, hro, hrt, hfo, hft, hap, hq⟩ := hrel
    rw [← HN.out] at hin
    have hbd := HBD.out i
    obtain ⟨s, hs⟩ : ∃ s, s = cellsS cntN (l.take i) := ⟨_, rfl⟩
    rw [← hs] at hro hrt hbd
    obtain ⟨hbT, hbO, hbTc, hbOc⟩ := hbd
    obtain ⟨ao, co, rfl⟩ := hro.shape
    obtain ⟨at', ct, rfl⟩ := hrt.shape
    by_cases hlt : i < N
    · obtain ⟨gl, e, rfl, hc, hm, r1, r2⟩ := HR.out i wr hq hlt
      have hi1 : (i : Int) < (N : Int) := by omega
      have hi2 : (N : Int) ≤ (c : Int) := by omega
      have hgi := HG.out.take i
      have hfit := (HG.out.at i e hm).2
      have hstep := cellsS_take (pick := cntN) hm
      rw [← hs] at hstep
      have hci := cinv picks_cnt hgi
      rw [← hs] at hci
      obtain ⟨nO, hnO⟩ : ∃ nO, nO = s.O.length := ⟨_, rfl⟩
      obtain ⟨nT, hnT⟩ : ∃ nT, nT = s.T.length := ⟨_, rfl⟩
      obtain ⟨kv, hkv⟩ : ∃ kv : Int, kv = (e.k.toNat : Int) := ⟨_, rfl⟩
      have hk43 : (kv == 43) = decide (e.k = 43) := by rw [hkv]; exact byte_is e.k 43
      have hk45 : (kv == 45) = decide (e.k = 45) := by rw [hkv]; exact byte_is e.k 45
      rw [← hkv] at r1
      rcases hfit with ⟨h43, hn⟩ | ⟨hk, hn⟩
      · have x1 : (kv == 43) = true := by rw [hk43]; simp [h43]
        obtain ⟨p, hp⟩ : ∃ p, p = cntN s.T := ⟨_, rfl⟩
        have hstep' : cellsS cntN (l.take (i + 1)) = ⟨s.T ++ [p], s.O ++ [p]⟩ := by rw [hstep]; unfold cellStep; rw [if_pos h43, hp]
        have HCALL : Hid (∀ W, Keeps noB wr W → Calls Tryd.prog 39 #[.slice at' nT ct] W fun e w' => e = .returned (.int .i64 (p : Int)) ∧ w' = W) := fun W q => by
          rw [hp, hnT]; exact HPK.out _ _ W (hrt.keeps q (fun _ _ e => e)) hbT hbTc
        obtain ⟨LT, hLT⟩ : ∃ LT, LT = s.T.map i64 := ⟨_, rfl⟩
        obtain ⟨LO, hLO⟩ : ∃ LO, LO = s.O.map i64 := ⟨_, rfl⟩
        have HOT : Hid (wr.ownsRow 0 3 1 (.slice at' nT ct) nT LT) := by rw [hnT, hLT]; exact hrt
        have HOO : Hid (wr.ownsRow 0 3 1 (.slice ao nO co) nO LO) := by rw [hnO, hLO]; exact hro
        rw [← hnO] at hfo hap hbO
        rw [← hnT] at hft hap hbT
        have HS := Lib.hid (And.intro hfo (And.intro hft (And.intro hap (And.intro hq hstep'))))
        have HEQ := Lib.hid (And.intro hnO (And.intro hnT (And.intro hLT hLO)))
        rw [← hnO, ← hnT]
        clear hstep hstep' hm hro hrt hfo hft hap hq h43 hn hk43 hk45 hkv hLT hLO hnO hnT hci hgi hs hp hbTc hbOc
        obtain ⟨hi1', hz0, hz1, hz2⟩ := HI.out
        go_wp2_with (first | (go_at_call 39; refine (HCALL.out _ ((Keeps.refl noB wr).alloc _)).mono ?_; rintro e5 w5 ⟨rfl, rfl⟩) | (at_builtin; refine wpList_append_fresh _ rfl _ _ 25 rfl 3 i0 _ 1 8 Tryd.underlying25 hi1' hz0 hz1 hz2 rfl (by decide) (.slice at' nT ct) nT LT rfl ((((Keeps.refl noB wr).alloc _).alloc _).ownsRow HOT.out (fun _ _ _ e => e)) ⟨wr.heap.size + 1, 0, none⟩ 1 1 [.int .i64 (p : Int)] rfl rfl (by have h := cells_one (wr.alloc (.cells #[.int .u8 kv, .int .i64 (e.n : Int)] 39)) (.int .i64 (p : Int)) 3; rw [World.size_alloc] at h; exact h) (by intro u hu; simp at hu; subst hu; rfl) (by unfold maxLen; omega) (by omega) ?_))
        intro v' w3 hown' hgrow hfresh
        have qa : Keeps (fun g => (Value.slice at' nT ct).ownBlock = some g) wr w3 := (((Keeps.refl _ wr).alloc _).alloc _).grown hgrow (fun g hg => .inl hg)
        have hT3 : NRow w3 v' (s.T ++ [p]) := NRow.app HEQ.out.2.1 HEQ.out.2.2.1 hown'
        have hf3 : ∀ g, v'.ownBlock = some g → (Value.slice at' nT ct).ownBlock = some g ∨ wr.heap.size ≤ g := fun g hg => by
          rcases hfresh with h | h
          · exact .inl (h ▸ hg)
          · have := h g hg; simp at this; exact .inr (by omega)
        have hO3 : w3.ownsRow 0 3 1 (.slice ao nO co) nO LO := qa.ownsRow HOO.out (fun g hg _ e => HS.out.2.2.1 g hg e)
        have H3 := Lib.hid (And.intro qa (And.intro hT3 hf3))
        have HO3 := Lib.hid hO3
        obtain ⟨a2, c2, rfl⟩ := row_shape (ok := fun _ => True) ⟨hown', fun _ _ => trivial⟩
        clear hown' hgrow hfresh qa hT3 hf3 hO3
        go_wp2_with (at_builtin; refine wpList_append_fresh _ rfl _ _ 25 rfl 3 i0 _ 1 8 Tryd.underlying25 hi1' hz0 hz1 hz2 rfl (by decide) (.slice ao nO co) nO LO rfl (((Keeps.refl noB w3).alloc _).ownsRow HO3.out (fun _ _ _ e => e)) ⟨w3.heap.size, 0, none⟩ 1 1 [.int .i64 (p : Int)] rfl rfl (cells_one w3 (.int .i64 (p : Int)) 3) (by intro u hu; simp at hu; subst hu; rfl) (by unfold maxLen; omega) (by omega) ?_)
        intro v4 w4 hown4 hgrow4 hfresh4
        have hnew : CsAt w l cntN v4 (.slice a2 (nT + 1) c2) (.int .i64 ((i : Int) + 1)) w4 := by
          obtain ⟨h1, h2, h3, h4, h5⟩ := HS.out
          obtain ⟨k1, k2, k3⟩ := H3.out
          have qb : Keeps (fun g => (Value.slice ao nO co).ownBlock = some g) w3 w4 := (((Keeps.refl _ w3).alloc _)).grown hgrow4 (fun g hg => .inl hg)
          have hO4 : NRow w4 v4 (s.O ++ [p]) := NRow.app HEQ.out.1 HEQ.out.2.2.2 hown4
          have hOlt : ∀ g, (Value.slice ao nO co).ownBlock = some g → g < wr.heap.size := fun g hg => (HOO.out.lt g hg).2
          have hne : ∀ g, (Value.slice ao nO co).ownBlock = some g → (Value.slice a2 (nT + 1) c2).ownBlock ≠ some g := fun g hg e => by
            rcases k3 g e with h | h
            · exact h3 g hg h
            · have := hOlt g hg; omega
          have hs3 := k1.size
          have hs4 := h4.size
          refine ⟨i + 1, by rw [← HN.out]; omega, by go_num, by rw [h5]; exact hO4, ?_, ?_, ?_, ?_, ?_⟩
          · rw [h5]; exact k2.keeps qb (fun g hg e => hne g e hg)
          · intro g hg
            rcases hfresh4 with h | h
            · exact h1 g (h ▸ hg)
            · have := h g hg; simp at this; omega
          · intro g hg
            rcases k3 g hg with h | h
            · exact h2 g h
            · omega
          · intro g hg e
            rcases hfresh4 with h | h
            · exact hne g (h ▸ hg) e
            · have h6 := h g hg; simp at h6
              have := (k2.lt g e).2
              omega
          · exact (h4.transNew k1 (fun i hi e => by have := h2 i e; omega)).transNew qb (fun i hi e => by have := h1 i e; omega)
        obtain ⟨a4, c4, rfl⟩ := row_shape (ok := fun _ => True) ⟨hown4, fun _ _ => trivial⟩
        have HE := Lib.hid hnew
        clear hown4 hgrow4 hfresh4 hnew H3 HO3
        go_wp2_with fail
        go_roundw
        case rel => exact HE.out
        case measure => simp [intOf]; omega
      · have h43 : ¬ e.k = 43 := by rcases hk with h | h <;> (rw [h]; decide)
        have x1 : (kv == 43) = false := by rw [hk43]; simp [h43]
        by_cases h45 : e.k = 45
        · have x2 : (kv == 45) = true := by rw [hk45]; simp [h45]
          obtain ⟨hn1, hnl, hcT⟩ := hci.cell hgi hn
          obtain ⟨m, hmn⟩ : ∃ m, e.n = m + 1 := ⟨e.n - 1, by omega⟩
          have hml : m < nO := by omega
          obtain ⟨gO, cO, e1, hcO, hgO, hcellO⟩ := hro.get (by omega)
          simp only [Value.slice.injEq, true_and] at e1
          obtain ⟨rfl, rfl⟩ := e1
          obtain ⟨cv, hcv⟩ : ∃ cv, cv = nth s.O m := ⟨_, rfl⟩
          have rO := (hcellO m cv (by rw [hcv]; exact nth_some (by omega))).1
          rw [hmn, show ((m + 1 : Nat) : Int) = (m : Int) + 1 by omega] at r2
          have hcn : (nO : Int) ≤ (co : Int) := by omega
          have hmi : (m : Int) < (nO : Int) := by omega
          have hm0 : (0 : Int) ≤ (m : Int) := by omega
          have hm6 : (m : Int) ≤ 600 := by omega
          have hstep' : cellsS cntN (l.take (i + 1)) = ⟨outN s.T (cv : Int), s.O⟩ := by
            rw [hstep]; unfold cellStep; rw [if_neg h43, if_pos h45, show e.n - 1 = m by omega, ← hcv]
            congr 1
            rw [← out_nat (v := (cv : Int)) (by omega)]
            simp
          have HCALL : Hid (∀ W, Keeps noB wr W → Calls Tryd.prog 51 #[.slice at' nT ct, .int .i64 (cv : Int)] W (WithoutPost W (outN s.T (cv : Int)))) := fun W q => by
            rw [hnT]; exact HWO.out _ _ _ W (hrt.keeps q (fun _ _ e => e)) (by omega)
          have HS := Lib.hid (And.intro hro (And.intro hfo (And.intro hft (And.intro hap (And.intro hq hstep')))))
          have HNO := Lib.hid hnO
          have t0 : gO < wr.heap.size := hgO
          have t1 : ¬ gO = wr.heap.size := by omega
          have q0 := Lib.hid ((Keeps.refl noB wr).alloc (.cells #[.int .u8 kv, .int .i64 ((m : Int) + 1)] 39))
          rw [← hnO, ← hnT]
          clear hstep hstep' hm hro hrt hfo hft hap hq h43 h45 hk hn hk43 hk45 hkv hnO hnT hci hgi hs hbTc hbOc hn1 hnl hcT hmn hcellO hcv hgO
          go_wp2_with (go_at_call 51; refine (HCALL.out _ q0.out).mono ?_; rintro e5 w5 ⟨v5, rfl, h5r, h5f, q5⟩; obtain ⟨a5, c5, rfl⟩ := h5r.shape; have H5 := Lib.hid (And.intro h5r (And.intro h5f (q0.out.trans q5))); clear h5r h5f q5)
          have HE : Hid (CsAt w l cntN (.slice (some ⟨gO, 0, none⟩) nO co) (.slice a5 (outN s.T (cv : Int)).length c5) (.int .i64 ((i : Int) + 1)) w5) := by
            obtain ⟨h0, h1, h2, h3, h4, h5⟩ := HS.out
            obtain ⟨k1, k2, k3⟩ := H5.out
            rw [HNO.out] at *
            have hs0 := h4.size
            refine ⟨i + 1, by rw [← HN.out]; omega, by go_num, by rw [h5]; exact h0.keeps k3 (fun _ _ e => e), by rw [h5]; exact k1, h1, fun g hg => ?_, fun g hg e => ?_, h4.trans k3⟩
            · have := k2 g hg; simp at this; omega
            · have := k2 g e; simp at this
              have := (h0.lt g hg).2
              omega
          obtain ⟨n5, hn5⟩ : ∃ n5, n5 = (outN s.T (cv : Int)).length := ⟨_, rfl⟩
          rw [← hn5] at HE ⊢
          clear hn5 H5
          go_wp2_with fail
          go_roundw
          case rel => exact HE.out
          case measure => simp [intOf]; omega
        · have x2 : (kv == 45) = false := by rw [hk45]; simp [h45]
          have hstep' : cellsS cntN (l.take (i + 1)) = s := by rw [hstep]; unfold cellStep; rw [if_neg h43, if_neg h45]
          have HE : Hid (∀ W', Keeps noB wr W' → CsAt w l cntN (.slice ao s.O.length co) (.slice at' s.T.length ct) (.int .i64 ((i : Int) + 1)) W') := fun W' q =>
            ⟨i + 1, by rw [← HN.out]; omega, by go_num, by rw [hstep']; exact hro.keeps q (fun _ _ e => e), by rw [hstep']; exact hrt.keeps q (fun _ _ e => e), hfo, hft, hap, hq.trans q⟩
          rw [← hnO, ← hnT] at HE ⊢
          clear hstep hstep' hm hro hrt hfo hft hap hq h43 h45 hk hn hk43 hk45 hkv hnO hnT hci hgi hs hbTc hbOc
          go_wp2_with fail
          go_roundw
          case rel => exact HE.out _ ((Keeps.refl _ _).alloc _)
          case measure => simp [intOf]; omega
    · have HE : Hid (WithoutPost w (cellsS cntN l).O (.returned (.slice ao s.O.length co)) wr) := by
        have e : cellsS cntN l = s := by rw [hs, List.take_of_length_le (by have := HN.out; omega)]
        rw [e]
        exact ⟨_, rfl, hro, hfo, hq⟩
      have hi1 : ¬ (i : Int) < (N : Int) := by omega
      obtain ⟨nO, hnO⟩ : ∃ nO, nO = s.O.length := ⟨_, rfl⟩
      obtain ⟨nT, hnT⟩ : ∃ nT, nT = s.T.length := ⟨_, rfl⟩
      rw [← hnO] at HE
      rw [← hnO, ← hnT]
      clear hro hrt hfo hft hap hq hnO hnT hs hbTc hbOc hbT hbO
      go_wp2_with fail
      go_ret
      exact HE.out

end Go.Proofs.YthgocacabadflaaDoor
