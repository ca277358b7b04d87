/-
  The program's early events: the walk.
-/
import Derived.Test.YthgocacabadflaaDoorAc
import Derived.Deep.Cut
namespace Go.Proofs.YthgocacabadflaaDoor
set_option linter.unusedVariables false
set_option linter.unusedSimpArgs false
open Go.RowKit

set_option maxRecDepth 100000 in
set_option maxHeartbeats 16000000 in
theorem early_any (w : World) (H : Nat) (own : Nat → Prop) (l : List Ev) (ve vl : Value) (h : HistAt w H own l ve vl) (hg : Good l) (hl : l.length ≤ 600) :
    Calls Tryd.prog 36 #[.pointer (some ⟨H, 0, none⟩)] w (EvPost w (earlyU l l.length)) := by
  obtain ⟨i0, hi, hz0, hz1, hz2⟩ := info_parts Tryd.infoV63
  have HI := Lib.hid (And.intro hi (And.intro hz0 (And.intro hz1 hz2)))
  have HL := Lib.hid (lives_overL w H own l ve vl h hg hl)
  have HSO := Lib.hid (fun (w : World) (g cap : Nat) (s : List Lf) (h : LRow w (.slice (some ⟨g, 0, none⟩) s.length cap) s) (hn : 0 < s.length) (hl : s.length ≤ 600) => sort_lives w g cap s h hn hl)
  have HS0 := Lib.hid (fun p cp w => sort_nil p cp (.func (.func 61) #[] #[]) w)
  have HH := Lib.hid (And.intro h (And.intro hg hl))
  have hov : ((livesL l).filter overL).length ≤ 600 := by have := hg.says.made; have := hg.says.le; have := List.length_filter_le overL (livesL l); omega
  have HOV := Lib.hid hov
  clear h hg hl hi hz0 hz1 hz2 hov
  go_enter Tryd.func36, Tryd.ntmps36
  go_wp2_with fail
  refine HL.out.mono ?_
  rintro e w1 ⟨v1, rfl, hrow1, hf1, q1⟩
  obtain ⟨p, cap, hv⟩ := row_shape (ok := fun _ => True) ⟨hrow1, fun _ _ => trivial⟩
  obtain ⟨m, hm⟩ : ∃ m, m = ((livesL l).filter overL).length := ⟨_, rfl⟩
  rw [← hm] at hv
  subst hv
  -- the sort, on both ways
  have HSORT : Hid (Calls Tryd.prog 60 #[.slice p m cap, .func (.func 61) #[] #[]] w1 fun e w' =>
      e = .returned (.tuple #[]) ∧ ∃ S g, Srt l S ∧ S.length = m ∧ OvAt g S 0 (.slice p m cap) ∧ (∀ k f, S[k]? = some f → ∀ wr, Keeps noB w' wr → wr.cell? ⟨g, 3 * k, none⟩ = some (.int .i64 f.b) ∧ wr.cell? ⟨g, 3 * k + 1, none⟩ = some (.int .i64 f.u) ∧ wr.cell? ⟨g, 3 * k + 2, none⟩ = some (.int .i64 f.d) ∧ g < wr.heap.size) ∧ Keeps noB w w') := Lib.hid (by
    by_cases h0 : m = 0
    · have hnil : (livesL l).filter overL = [] := List.eq_nil_of_length_eq_zero (by omega)
      subst h0
      refine (HS0.out p cap w1).mono ?_
      rintro e w' ⟨rfl, rfl⟩
      refine ⟨rfl, [], 0, Srt.of HH.out.2.1 (by rw [hnil]) List.Pairwise.nil, rfl, ⟨p, cap, rfl, fun h => absurd h (Nat.not_lt_zero _)⟩, fun k f hk => by simp at hk, q1⟩
    · obtain ⟨g, c', e, hc, hgl, _⟩ := row_capM (ok := fun _ => True) hrow1 (by omega)
      rw [← hm] at e hc
      simp only [Value.slice.injEq, true_and] at e
      obtain ⟨rfl, rfl⟩ := e
      have hfg := hf1 g rfl
      have hcon := HSO.out w1 g cap ((livesL l).filter overL) (by rw [← hm]; exact hrow1) (by omega) HOV.out
      rw [← hm] at hcon
      refine hcon.mono ?_
      rintro e w' ⟨rfl, S, hp, hs, hr, q⟩
      have hSl : S.length = m := by rw [hp.length_eq, hm]
      refine ⟨rfl, S, g, Srt.of HH.out.2.1 hp hs, hSl, ⟨some ⟨g, 0, none⟩, cap, by rw [Nat.sub_zero, hSl], fun _ => ⟨rfl, by omega⟩⟩, fun k f hk wr qr => ?_, q1.transNew q (fun i hi e => by have e : i = g := e; omega)⟩
      obtain ⟨g2, c2, e2, _, hg2, hh⟩ := row_capM (ok := fun _ => True) hr (by omega)
      simp only [Value.slice.injEq, Option.some.injEq, Addr.mk.injEq, and_true, true_and] at e2
      obtain ⟨rfl, _, rfl⟩ := e2
      obtain ⟨g0, g1, g3⟩ := lfC_get S k f hk
      exact ⟨(qr.cell (p := ⟨g, 3 * k, none⟩) hg2 id).trans (hh _ _ g0).1, (qr.cell (p := ⟨g, 3 * k + 1, none⟩) hg2 id).trans (hh _ _ g1).1, (qr.cell (p := ⟨g, 3 * k + 2, none⟩) hg2 id).trans (hh _ _ g3).1, Nat.lt_of_lt_of_le hg2 qr.size⟩)
  clear hrow1 hf1 q1 hm
  go_wp2_with fail
  refine HSORT.out.mono ?_
  rintro e w2 ⟨rfl, S, g, hS, hSm, hOv, hcells, q2⟩
  have hh2 := HH.out.1.keeps q2 (fun _ _ e => e)
  obtain ⟨ae, ce, hve⟩ := hh2.shape.1
  subst hve
  obtain ⟨N, hN⟩ : ∃ N, N = l.length := ⟨_, rfl⟩
  have r0 := hh2.blk.cell 0
  simp at r0
  rw [← hN] at r0
  have h0 : H < w2.heap.size := hh2.blk.lt
  have hN6 : N ≤ 600 := by have := HH.out.2.2; omega
  have HR : Hid (∀ i wr, Keeps noB w2 wr → i < N → ∃ g e, ae = some ⟨g, 0, none⟩ ∧ N ≤ ce ∧ l[i]? = some e ∧ wr.cell? ⟨g, i * 2, none⟩ = some (.int .u8 (e.k.toNat : Int)) ∧ wr.cell? ⟨g, i * 2 + 1, none⟩ = some (.int .i64 (e.n : Int))) := Lib.hid (fun i wr q hi => by
    obtain ⟨g', d, e, hc, hgl, hk⟩ := row_capM (ok := fun _ => True) hh2.evs (by omega)
    simp only [Value.slice.injEq, true_and] at e
    obtain ⟨rfl, rfl⟩ := e
    have hm := List.getElem?_eq_getElem (l := l) (i := i) (by omega)
    obtain ⟨g0, g1⟩ := evC_get l i _ hm
    rw [show 2 * i = i * 2 by omega] at g0 g1
    exact ⟨g', _, rfl, by omega, hm, (q.cell (p := ⟨g', i * 2, none⟩) hgl id).trans (hk _ _ g0).1, (q.cell (p := ⟨g', i * 2 + 1, none⟩) hgl id).trans (hk _ _ g1).1⟩)
  have HN := Lib.hid hN
  have HC := Lib.hid (And.intro hS (And.intro hSm (And.intro hcells (And.intro q2 hh2))))
  have HP : Hid (EaAt w2 g l S (.slice p m cap) (.slice none 0 0) (.int .i64 0) w2) := Lib.hid
    ⟨0, 0, Nat.zero_le _, rfl, ⟨Nat.zero_le _, fun f hf => by simp at hf, fun f hf => by
      have hf : f ∈ S := by simpa using hf
      obtain ⟨hf1, _⟩ := List.mem_filter.1 (hS.perm.mem_iff.1 hf)
      obtain ⟨j, hj⟩ := List.getElem?_of_mem hf1
      have := HH.out.2.1.says.bnd j f hj
      omega⟩, hOv, ⟨rfl, .inl ⟨rfl, rfl⟩⟩, fun g hg => by simp [Value.ownBlock] at hg, Keeps.refl _ _⟩
  have HVO := Lib.hid (fun W (q : Keeps noB w2 W) f j hj => valueOf_any W H own l (.slice ae l.length ce) vl (hh2.keeps q (fun _ _ e => e)) HH.out.2.1 HH.out.2.2 f j hj)
  clear hS hSm hOv hcells q2 hh2 hN
  go_wp2_with fail
  go_loopw [3, 4, 16] (fun vo vl vi wr => EaAt w2 g l S vo vl vi wr) (fun _ _ vi _ => N - (intOf vi).toNat)
  case atStart => exact HP.out
  case round =>
    clear HP r0
    obtain ⟨i, k, hin, rfl, ht, hov, hrow, hfr, hq⟩ := hrel
    rw [← HN.out] at hin
    obtain ⟨po, co, hvo, hpo⟩ := hov
    obtain ⟨U, hU⟩ : ∃ U, U = earlyU l i := ⟨_, rfl⟩
    rw [← hU] at hrow
    have hUl : U.length ≤ 1200 := by rw [hU]; have := earlyU_len l i; omega
    obtain ⟨n, hn⟩ : ∃ n, n = U.length := ⟨_, rfl⟩
    obtain ⟨al, cl, hvl⟩ := row_shape (ok := fun _ => True) ⟨hrow, fun _ _ => trivial⟩
    rw [← hn] at hvl hUl
    subst hvl
    subst hvo
    by_cases hlt : i < N
    · obtain ⟨g', e, rfl, hc, hm, r1, r2⟩ := HR.out i wr hq hlt
      have hi1 : (i : Int) < (N : Int) := by omega
      have hi2 : (N : Int) ≤ (ce : Int) := by omega
      have hi6 : (i : Int) ≤ 600 := by omega
      have hnext := earlyU_next l i
      rw [← hU] at hnext
      obtain ⟨kv, hkv⟩ : ∃ kv : Int, kv = (e.k.toNat : Int) := ⟨_, rfl⟩
      have hk45 : (kv != 45) = !decide (e.k = 45) := by have h := byte_is e.k 45; rw [show (((45 : UInt8).toNat : Nat) : Int) = 45 from rfl] at h; rw [hkv, bne, h]
      rw [← hkv] at r1
      obtain ⟨EL, hEL⟩ : ∃ EL, EL = evC U := ⟨_, rfl⟩
      have HOW : Hid (∀ W', Keeps noB wr W' → W'.ownsRow 0 63 2 (.slice al n cl) n EL) := Lib.hid (fun W' q => by rw [hEL]; have h := hrow.keeps2 q; unfold VRow at h; rw [← hn] at h; exact h)
      have HS : Hid (∀ W w3 v', Keeps noB wr W → w3.ownsRow 0 63 2 v' (n + 1) (EL ++ [.int .u8 kv, .int .i64 (e.n : Int)]) → W.grownBy w3 (Value.slice al n cl).ownBlock → Fresh W (.slice al n cl) v' → VRow w3 v' (U ++ [e]) ∧ (∀ g, v'.ownBlock = some g → w2.heap.size ≤ g) ∧ Keeps noB w2 w3) := Lib.hid (fun W w3 v' q h1 h2 h3 =>
        VRow.step (k := e.k) (m := e.n) hfr hq q hn hEL (by rw [hkv]) rfl h1 h2 h3)
      cases hSk : S[k]? with
      | none =>
        have hks : ¬ k < S.length := by rw [List.getElem?_eq_none_iff] at hSk; omega
        have HKS := Lib.hid hks
        have hmm : S.length - k = 0 := by omega
        have HMM := Lib.hid hmm
        rw [hmm]
        clear hmm hks
        obtain ⟨ht', hall⟩ := ht.no HC.out.1 (i := i) (fun f2 h2 => by rw [hSk] at h2; cases h2)
        have hat := early_no hm hall
        have HT := Lib.hid (And.intro ht' (And.intro hat hnext))
        by_cases h45 : e.k = 45
        · have x1 : (kv != 45) = false := by rw [hk45]; simp [h45]
          have HE : Hid (∀ W', Keeps noB wr W' → EaAt w2 g l S (.slice po 0 co) (.slice al n cl) (.int .i64 ((i : Int) + 1)) W') := Lib.hid (fun W' q =>
            ⟨i + 1, k, by rw [← HN.out]; omega, by go_num, ht', ⟨po, co, by rw [HMM.out], fun h => absurd h HKS.out⟩, by rw [hnext, hat, if_pos h45, List.append_nil]; exact hrow.keeps2 q, hfr, hq.trans q⟩)
          have HCC := Lib.hid (And.intro hq hSk)
          clear hat hnext hall hk45 h45 hkv hm hU hn hrow hfr hq ht ht' hpo hEL HS HOW hSk HT
          go_wp2_with fail
          go_roundw
          case rel => exact HE.out _ ((Keeps.refl _ _).alloc _)
          case measure => simp [intOf]; omega
        · have x1 : (kv != 45) = true := by rw [hk45]; simp [h45]
          have hn1 := hn
          have HF := Lib.hid (And.intro h45 (And.intro hn1 hSk))
          clear hat hnext hall hk45 h45 hkv hm hU hn hn1 hrow hfr hq ht ht' hpo hEL hSk
          obtain ⟨hi1', hz0, hz1, hz2⟩ := HI.out
          go_wp2_with (at_builtin; refine wpList_append_fresh _ rfl _ _ 49 rfl 63 i0 _ 2 16 Tryd.underlying49 hi1' hz0 hz1 hz2 rfl (by decide) (.slice al n cl) n EL rfl (HOW.out _ (((Keeps.refl noB wr).alloc _).alloc _)) ⟨wr.heap.size + 1, 0, none⟩ 1 1 [.int .u8 kv, .int .i64 (e.n : Int)] rfl rfl (by have h := cells_all (wr.alloc (.cells #[.int .u8 kv, .int .i64 (e.n : Int)] 63)) #[.int .u8 kv, .int .i64 (e.n : Int)] 63; rw [World.size_alloc] at h; exact h) (by intro u hu; simp at hu; rcases hu with rfl | rfl <;> rfl) (by unfold maxLen; omega) (by omega) ?_)
          intro v' w3 hown hgrow hfresh
          have h3 := HS.out _ w3 v' (((Keeps.refl noB wr).alloc _).alloc _) hown hgrow hfresh
          obtain ⟨a3, c3, hv3⟩ := row_shape (ok := fun _ => True) ⟨hown, fun _ _ => trivial⟩
          subst hv3
          have H3 := Lib.hid h3
          have HE : Hid (∀ W', Keeps noB w3 W' → EaAt w2 g l S (.slice po 0 co) (.slice a3 (n + 1) c3) (.int .i64 ((i : Int) + 1)) W') := Lib.hid (fun W' q =>
            ⟨i + 1, k, by rw [← HN.out]; omega, by go_num, HT.out.1, ⟨po, co, by rw [HMM.out], fun h => absurd h HKS.out⟩, by rw [HT.out.2.2, HT.out.2.1, if_neg HF.out.1]; exact H3.out.1.keeps2 q, H3.out.2.1, H3.out.2.2.trans q⟩)
          clear hown hgrow hfresh h3
          go_wp2_with fail
          go_roundw
          case rel => exact HE.out _ (Keeps.refl _ _)
          case measure => simp [intOf]; omega
      | some f =>
        have hkS := (List.getElem?_eq_some_iff.1 hSk).1
        obtain ⟨hpoe, hco⟩ := hpo hkS
        obtain ⟨mm, hmm⟩ : ∃ mm, mm = S.length - k := ⟨_, rfl⟩
        rw [hpoe]
        rw [← hmm] at hpo hco ⊢
        have HMM := Lib.hid hmm
        have hm0 : (0 : Int) < (mm : Int) := by omega
        have hm1 : (1 : Int) ≤ (mm : Int) := by omega
        have hmc : (mm : Int) ≤ (co : Int) := by omega
        have hm00 : 0 < mm := by omega
        rw [hmm] at hco
        have hkS2 := Lib.hid hkS
        clear hmm hpoe hkS
        by_cases hu : f.u = (i : Int)
        · have y1 : (f.u == (i : Int)) = true := by simp [hu]
          have hfS : f ∈ (livesL l).filter overL := HC.out.1.perm.mem_iff.1 (List.mem_of_getElem? hSk)
          obtain ⟨h45, hat, j, hj, hjn⟩ := early_yes HH.out.2.1 hm hfS hu
          have ht' := ht.yes HC.out.1 hSk hu
          have x1 : (kv != 45) = true := by rw [hk45]; simp [h45]
          have hj6 : j ≤ 600 := by have := (List.getElem?_eq_some_iff.1 hj).1; have := HH.out.2.1.says.made; have := HH.out.2.1.says.le; have := HH.out.2.2; omega
          have HF := Lib.hid (And.intro ht' (And.intro hat (And.intro hnext (And.intro hj (And.intro hjn (And.intro hSk hn))))))
          clear hat hnext hk45 h45 hkv hm hU hn hrow hfr hq ht ht' hpo hEL hSk hfS hj hjn
          obtain ⟨hi1', hz0, hz1, hz2⟩ := HI.out
          go_wp2_with (at_builtin; refine wpList_append_fresh _ rfl _ _ 49 rfl 63 i0 _ 2 16 Tryd.underlying49 hi1' hz0 hz1 hz2 rfl (by decide) (.slice al n cl) n EL rfl (HOW.out _ (((Keeps.refl noB wr).alloc _).alloc _)) ⟨wr.heap.size + 1, 0, none⟩ 1 1 [.int .u8 kv, .int .i64 (e.n : Int)] rfl rfl (by have h := cells_all (wr.alloc (.cells #[.int .u8 kv, .int .i64 (e.n : Int)] 63)) #[.int .u8 kv, .int .i64 (e.n : Int)] 63; rw [World.size_alloc] at h; exact h) (by intro u hu; simp at hu; rcases hu with rfl | rfl <;> rfl) (by unfold maxLen; omega) (by omega) ?_)
          intro v' w3 hown hgrow hfresh
          have h3 := HS.out _ w3 v' (((Keeps.refl noB wr).alloc _).alloc _) hown hgrow hfresh
          obtain ⟨a3, c3, hv3⟩ := row_shape (ok := fun _ => True) ⟨hown, fun _ _ => trivial⟩
          subst hv3
          have H3 := Lib.hid h3
          obtain ⟨c0, c1, c2, cg⟩ := HC.out.2.2.1 k f HF.out.2.2.2.2.2.1 w3 H3.out.2.2
          have HVC := Lib.hid (HVO.out w3 H3.out.2.2 f j HF.out.2.2.2.1)
          rw [hu] at c1 HVC
          clear hown hgrow hfresh h3 hu y1
          go_wp2_with fail
          refine HVC.out.mono ?_
          rintro e5 w5 ⟨rfl, q5⟩
          have Q5 := Lib.hid q5
          obtain ⟨EL3, hEL3⟩ : ∃ EL3, EL3 = evC (U ++ [e]) := ⟨_, rfl⟩
          have hn3 : n + 1 = (U ++ [e]).length := by rw [List.length_append, ← HF.out.2.2.2.2.2.2]; rfl
          have HOW3 : Hid (∀ W', Keeps noB w5 W' → W'.ownsRow 0 63 2 (.slice a3 (n + 1) c3) (n + 1) EL3) := Lib.hid (fun W' q => by rw [hEL3]; have h := H3.out.1.keeps2 (Q5.out.trans q); unfold VRow at h; rw [← hn3] at h; exact h)
          have HS3 : Hid (∀ W w6 v', Keeps noB w5 W → w6.ownsRow 0 63 2 v' (n + 1 + 1) (EL3 ++ [.int .u8 45, .int .i64 ((j : Int) + 1)]) → W.grownBy w6 (Value.slice a3 (n + 1) c3).ownBlock → Fresh W (.slice a3 (n + 1) c3) v' → VRow w6 v' (earlyU l (i + 1)) ∧ (∀ g, v'.ownBlock = some g → w2.heap.size ≤ g) ∧ Keeps noB w2 w6) := Lib.hid (fun W w6 v' q h1 h2 h3 => by
            have h := VRow.step (k := 45) (m := e.n) H3.out.2.1 (H3.out.2.2.trans Q5.out) q hn3 hEL3 rfl (by rw [HF.out.2.2.2.2.1]; rfl) h1 h2 h3
            rw [HF.out.2.2.1, HF.out.2.1, show U ++ [e, (⟨45, e.n⟩ : Ev)] = (U ++ [e]) ++ [⟨45, e.n⟩] by simp]
            exact h)
          have hw5 : w3.heap.size ≤ w5.heap.size := q5.size
          clear q5 hEL3 c0 c1 c2 cg hn3
          go_wp2_with (at_builtin; refine wpList_append_fresh _ rfl _ _ 49 rfl 63 i0 _ 2 16 Tryd.underlying49 hi1' hz0 hz1 hz2 rfl (by decide) (.slice a3 (n + 1) c3) (n + 1) EL3 rfl (HOW3.out _ ((Keeps.refl noB w5).alloc _)) ⟨w5.heap.size, 0, none⟩ 1 1 [.int .u8 45, .int .i64 ((j : Int) + 1)] rfl rfl (cells_all w5 #[.int .u8 45, .int .i64 ((j : Int) + 1)] 63) (by intro u hu; simp at hu; rcases hu with rfl | rfl <;> rfl) (by unfold maxLen; omega) (by omega) ?_)
          intro v6 w6 hown6 hgrow6 hfresh6
          have h6 := HS3.out _ w6 v6 ((Keeps.refl noB w5).alloc _) hown6 hgrow6 hfresh6
          obtain ⟨a6, c6, hv6⟩ := row_shape (ok := fun _ => True) ⟨hown6, fun _ _ => trivial⟩
          subst hv6
          have H6 := Lib.hid h6
          clear hown6 hgrow6 hfresh6 h6 hw5
          have HE : Hid (EaAt w2 g l S (.slice (if co = 1 then some ⟨g, 3 * k, none⟩ else some ⟨g, 3 * k + 3, none⟩) (mm - 1) (co - 1)) (.slice a6 (n + 1 + 1) c6) (.int .i64 ((i : Int) + 1)) w6) := Lib.hid
            ⟨i + 1, k + 1, by rw [← HN.out]; omega, by go_num, HF.out.1, ⟨_, co - 1, by rw [HMM.out, Nat.sub_sub], fun h => ⟨by rw [if_neg (by have := HMM.out; omega), show 3 * (k + 1) = 3 * k + 3 by omega], by have := HMM.out; omega⟩⟩, H6.out.1, H6.out.2.1, H6.out.2.2⟩
          go_wp2_with fail
          go_roundw
          case rel => exact HE.out
          case measure => simp [intOf]; omega
        · have y1 : (f.u == (i : Int)) = false := by rw [beq_eq_false_iff_ne]; exact hu
          obtain ⟨ht', hall⟩ := ht.no HC.out.1 (i := i) (fun f2 h2 => by rw [hSk] at h2; rw [← Option.some.inj h2]; exact hu)
          have hat := early_no hm hall
          have HT := Lib.hid (And.intro ht' (And.intro hat hnext))
          by_cases h45 : e.k = 45
          · have x1 : (kv != 45) = false := by rw [hk45]; simp [h45]
            have HE : Hid (∀ W', Keeps noB wr W' → EaAt w2 g l S (.slice (some ⟨g, 3 * k, none⟩) mm co) (.slice al n cl) (.int .i64 ((i : Int) + 1)) W') := Lib.hid (fun W' q =>
              ⟨i + 1, k, by rw [← HN.out]; omega, by go_num, ht', ⟨_, co, by rw [HMM.out], fun _ => ⟨rfl, hco⟩⟩, by rw [hnext, hat, if_pos h45, List.append_nil]; exact hrow.keeps2 q, hfr, hq.trans q⟩)
            have HCC := Lib.hid (And.intro hq hSk)
            clear hat hnext hall hk45 h45 hkv hm hU hn hrow hfr hq ht ht' hpo hEL HS HOW hSk HT
            obtain ⟨_, c1, _, cg⟩ := HC.out.2.2.1 k f HCC.out.2 wr HCC.out.1
            have cg1 : ¬ g = wr.heap.size := by omega
            go_wp2_with fail
            go_roundw
            case rel => exact HE.out _ ((Keeps.refl _ _).alloc _)
            case measure => simp [intOf]; omega
          · have x1 : (kv != 45) = true := by rw [hk45]; simp [h45]
            have hn1 := hn
            have HF := Lib.hid (And.intro h45 (And.intro hn1 hSk))
            clear hat hnext hall hk45 h45 hkv hm hU hn hn1 hrow hfr hq ht ht' hpo hEL hSk
            obtain ⟨hi1', hz0, hz1, hz2⟩ := HI.out
            go_wp2_with (at_builtin; refine wpList_append_fresh _ rfl _ _ 49 rfl 63 i0 _ 2 16 Tryd.underlying49 hi1' hz0 hz1 hz2 rfl (by decide) (.slice al n cl) n EL rfl (HOW.out _ (((Keeps.refl noB wr).alloc _).alloc _)) ⟨wr.heap.size + 1, 0, none⟩ 1 1 [.int .u8 kv, .int .i64 (e.n : Int)] rfl rfl (by have h := cells_all (wr.alloc (.cells #[.int .u8 kv, .int .i64 (e.n : Int)] 63)) #[.int .u8 kv, .int .i64 (e.n : Int)] 63; rw [World.size_alloc] at h; exact h) (by intro u hu; simp at hu; rcases hu with rfl | rfl <;> rfl) (by unfold maxLen; omega) (by omega) ?_)
            intro v' w3 hown hgrow hfresh
            have h3 := HS.out _ w3 v' (((Keeps.refl noB wr).alloc _).alloc _) hown hgrow hfresh
            obtain ⟨a3, c3, hv3⟩ := row_shape (ok := fun _ => True) ⟨hown, fun _ _ => trivial⟩
            subst hv3
            have H3 := Lib.hid h3
            have HE : Hid (∀ W', Keeps noB w3 W' → EaAt w2 g l S (.slice (some ⟨g, 3 * k, none⟩) mm co) (.slice a3 (n + 1) c3) (.int .i64 ((i : Int) + 1)) W') := Lib.hid (fun W' q =>
              ⟨i + 1, k, by rw [← HN.out]; omega, by go_num, HT.out.1, ⟨_, co, by rw [HMM.out], fun _ => ⟨rfl, hco⟩⟩, by rw [HT.out.2.2, HT.out.2.1, if_neg HF.out.1]; exact H3.out.1.keeps2 q, H3.out.2.1, H3.out.2.2.trans q⟩)
            clear hown hgrow hfresh h3
            obtain ⟨_, c1, _, cg⟩ := HC.out.2.2.1 k f HF.out.2.2 w3 H3.out.2.2
            go_wp2_with fail
            go_roundw
            case rel => exact HE.out _ (Keeps.refl _ _)
            case measure => simp [intOf]; omega
    · have hi1 : ¬ (i : Int) < (N : Int) := by omega
      have HE : Hid (EvPost w (earlyU l l.length) (.returned (.slice al n cl)) wr) := Lib.hid (by
        have hil : i = l.length := by have := HN.out; omega
        rw [hil] at hU
        rw [← hU]
        have hs := HC.out.2.2.2.1.size
        exact ⟨_, rfl, hrow, fun g hg => Nat.le_trans hs (hfr g hg), HC.out.2.2.2.1.trans hq⟩)
      clear hU hn hrow hfr hq ht hpo
      go_wp2_with fail
      go_ret
      exact HE.out

end Go.Proofs.YthgocacabadflaaDoor
