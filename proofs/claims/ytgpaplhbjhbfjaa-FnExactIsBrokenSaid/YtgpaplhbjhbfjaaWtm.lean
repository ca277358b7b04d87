/-
  The model's StepsWith, IsSafe, IsBroken.
-/
import Derived.Test.YtgpaplhbjhbfjaaWwm
import Derived.Test.YtgpaplhbjhbfjaaWsm
namespace Go.Proofs.Ytgpaplhbjhbfjaa
set_option linter.unusedVariables false
set_option linter.unusedSimpArgs false
open Go.RowKit

theorem resWithS (W : World) (v b : Value) (tmps : Array Value) (h2 : tmps.getD 4 undef = v) (h3 : tmps.getD 5 undef = b) : (results Try.f31 tmps).run Try.prog W = .ok (.tuple #[v, b]) W := by
  have h2' : tmps[4]?.getD undef = v := by simpa using h2
  have h3' : tmps[5]?.getD undef = b := by simpa using h3
  simp [results, Try.results31, go_sem, h2', h3']

set_option maxRecDepth 100000 in
set_option maxHeartbeats 4000000 in
theorem swith_none (s : ByteArray) (hs : s.size ≤ 1048576) (hp : progP s = none) (f : Int) (w : World) : Calls Try.prog 31 #[.string s, .int .i64 f] w (NumsPost w none) := by
  have H := Lib.hid (sread_any s hs (w.alloc (.cells #[] 3)))
  rw [hp] at H
  clear hp
  go_enter Try.func31, Try.ntmps31
  go_wp2_with fail
  refine H.out.mono ?_
  rintro e w1 ⟨⟨x0, x1, x2, x3, x4, x5, x6, x7, rfl⟩, q1⟩
  have hnv : nodeV x0 x1 x2 x3 x4 x5 x6 x7 = .agg #[.int .u8 x0, .int .i64 x1, .int .i64 x2, .string x3, .slice x4 x5 x6, .string x7] := rfl
  go_wp2_with fail
  refine bodyPost_ret (resWithS _ _ _ _ rfl rfl) rfl ?_
  refine ⟨_, _, [], rfl, ⟨?_, ?_⟩, (((Keeps.refl _ w).alloc _).trans q1).alloc _, rfl, rfl⟩
  · exact ((q1.ownsRow (World.ownsRow_made w #[] 0 (Nat.zero_le _) (by simp [maxLen]) rfl) (fun _ _ _ e => e))).alloc _
  · intro g hg; simp [Value.ownBlock] at hg; simp [fromB]; omega

set_option maxRecDepth 100000 in
set_option maxHeartbeats 4000000 in
theorem swith_some (s : ByteArray) (hs : s.size ≤ 1048576) (x : Nd) (hp : progP s = some x) (f : Nat) (hf : f ≤ 3) (w : World) : Calls Try.prog 31 #[.string s, .int .i64 (f : Int)] w (NumsPost w (some (pickN (fun z => faultZ x z == f) x.pre.list))) := by
  obtain ⟨i0, hi, hz0, hz1, hz2⟩ := info_parts Try.infoI3
  have HI := Lib.hid (And.intro hi (And.intro hz0 (And.intro hz1 hz2)))
  have H := Lib.hid (sread_any s hs (w.alloc (.cells #[] 3)))
  rw [hp] at H
  obtain ⟨_, h2, _, _, _, h6⟩ := progP_ok hp
  have hX := Nd.shC h6 x 0 h2 (progP_sp hp) (progP_fit hp)
  have hfin := h2.good.le
  have HL := Lib.hid (fun w1 ok hok a n m hrep => lfind_any x (progP_sp hp) (by omega) hX w1 ok hok a n m hrep)
  have HF := Lib.hid (progP_few hp)
  have HNZ : Hid (∀ z ∈ x.pre.list, noteI (notesP x) (z.beg : Int) = some (knownZ x z) ∧ z.Sp ∧ z.Fit ∧ (knownZ x z).Wf) := fun z hz => by
    refine ⟨by rw [noteI_beg]; exact noted_P hp hz, (Nd.fs_pre x (progP_sp hp) (progP_fit hp) z hz).1, (Nd.fs_pre x (progP_sp hp) (progP_fit hp) z hz).2, knownZ_wf hp hz⟩
  have HIN : Hid (∀ w, Calls Try.prog 62 #[.int .i64 (f : Int), .int .i64 0, .int .i64 3] w (fun e w' => e = .returned (.bool true) ∧ w' = w)) := fun w => by
    have h := in_any (f : Int) 0 3 w
    have e : inR (f : Int) 0 3 = true := by simp [inR]; omega
    rwa [e] at h
  obtain ⟨keep, hkeep⟩ : ∃ keep : Nd → Bool, keep = fun z => faultZ x z == f := ⟨_, rfl⟩
  rw [← hkeep]
  have HKP := Lib.hid hkeep
  clear hi hz0 hz1 hz2 hX hfin h2 h6 hp hkeep
  go_enter Try.func31, Try.ntmps31
  go_wp2_with fail
  refine H.out.mono ?_
  rintro e w1 ⟨x0, x1, x2, x3, x4, x5, x6, x7, rfl, hx, q1⟩
  have hnv : nodeV x0 x1 x2 x3 x4 x5 x6 x7 = .agg #[.int .u8 x0, .int .i64 x1, .int .i64 x2, .string x3, .slice x4 x5 x6, .string x7] := rfl
  have HX := Lib.hid hx
  have hL : Hid (∀ w2, Keeps noB w1 w2 → Calls Try.prog 63 #[.agg #[.int .u8 x0, .int .i64 x1, .int .i64 x2, .string x3, .slice x4 x5 x6, .string x7]] w2 (fun e w' => ∃ own h l va vs, e = .returned (.pointer (some ⟨h, 0, none⟩)) ∧ HoldAt w' own h l va vs ∧ lookL l = notesP x ∧ (∀ g, own g → w2.heap.size ≤ g) ∧ Keeps noB w2 w')) := fun w2 q2 => by
    obtain ⟨c, b, e', vs, ar, bs⟩ := x
    have hr2 := hx
    simp only [RepS] at hr2
    obtain ⟨vb, n', xs, hcs, _, _⟩ := hr2
    simp [six, u8, i64, str] at hcs
    obtain ⟨rfl, rfl, rfl, rfl, rfl, rfl⟩ := hcs
    have hh : Hands w1 w2 (fromB (w.alloc (.cells #[] 3)).heap.size) (fun i => i < w2.heap.size) := Hands.of_keeps q2 (fun _ _ _ e => e.elim) (fun i _ hl => Nat.lt_of_lt_of_le hl q2.size)
    exact HL.out w2 (fun i => i < w2.heap.size) (fun _ h => h) x4 x5 x6 (hh.repS _ _ hx)
  clear hx
  have hw1 := q1.size
  have hw0 : (w.alloc (.cells #[] 3)).heap.size = w.heap.size + 1 := by simp
  have HE : Hid (∀ W, Keeps noB w1 W → Calls Try.prog 48 #[.agg #[.int .u8 x0, .int .i64 x1, .int .i64 x2, .string x3, .slice x4 x5 x6, .string x7]] W (EachPost W (fun g => w.heap.size + 1 ≤ g ∧ g < w1.heap.size) x)) := fun W qW =>
    each_all x.pre.len x _ W (fun g => w.heap.size + 1 ≤ g ∧ g < w1.heap.size) rfl (by have := HF.out; omega)
      ((Hands.of_keeps (ok := fromB (w.alloc (.cells #[] 3)).heap.size) qW (fun g _ _ e => e) (fun g hg hl => ⟨by simpa [fromB, hw0] using hg, hl⟩)).repS x _ HX.out) (fun g hg => by have := hg.2; have := qW.size; omega)
  have HB : Hid (∀ W', Keeps noB (w1.alloc (.cells #[.int .u8 x0, .int .i64 x1, .int .i64 x2, .string x3, .slice x4 x5 x6, .string x7] 55)) W' → Blk W' w1.heap.size #[.int .u8 x0, .int .i64 x1, .int .i64 x2, .string x3, .slice x4 x5 x6, .string x7] 55) := fun W' h => h.blk (Blk.new _ _ _) id
  have HQ1 := Lib.hid q1
  clear q1
  go_wp2_with (first
    | (go_at_call 62; refine (HIN.out _).mono ?_; rintro e3 w3 ⟨rfl, rfl⟩)
    | (go_at_call 63; refine (hL.out _ ((Keeps.refl _ _).alloc _)).mono ?_; rintro e2 wF ⟨own, h, l, va, vs, rfl, hH, hM, hO, q2⟩; have n2 := HB.out _ q2; have r0 := n2.cell 0; have r1 := n2.cell 1; have r2 := n2.cell 2; have r3 := n2.cell 3; have r4 := n2.cell 4; have r5 := n2.cell 5; simp at r0 r1 r2 r3 r4 r5; have HHF := Lib.hid (And.intro hH (And.intro hM hO)); have QF := Lib.hid (((Keeps.refl noB w1).alloc _).trans q2); clear q2 n2 hH hM hO))
  refine (HE.out _ QF.out).mono ?_
  rintro e w2 ⟨v, rfl, hout⟩
  obtain ⟨hp0, cs, hown, hrep, hfrom, q2⟩ := hout
  obtain ⟨g, n, hv, _, hg, hcell⟩ := row_at (ok := fun _ => True) ⟨hown, fun _ _ => trivial⟩ hp0
  subst hv
  have hwF := QF.out.size
  have hwF2 := q2.size
  have hgf : wF.heap.size ≤ g := hfrom g rfl
  have qq : Keeps noB (w.alloc (.cells #[] 3)) w2 := (HQ1.out.trans QF.out).trans q2
  have HH2 : Hid (HoldAt w2 own h l va vs ∧ lookL l = notesP x ∧ ∀ g, own g → g ≠ w.heap.size) := ⟨HHF.out.1.quiet q2, HHF.out.2.1, fun g hg e => by have := HHF.out.2.2 g hg; simp at this; omega⟩
  have HP : Hid (PickAt w w2 (fun i => w.heap.size + 1 ≤ i) keep x.pre.list cs (x.pre.len + 1) (.slice (some ⟨w.heap.size, 0, none⟩) 0 0) (.int .i64 0) w2) := by
    refine ⟨0, [], x.pre, rfl, rfl, by rw [Nds.list_len]; omega, rfl, ?_, ?_, ?_, by have := qq.size; omega, ((Keeps.refl _ w).alloc _).trans qq, Keeps.refl _ _⟩
    · exact (Hands.of_keeps (ok := fun g => w.heap.size + 1 ≤ g ∧ g < w1.heap.size) (Keeps.refl noB w2) (fun g _ _ e => e) (fun g hg _ => hg.1)).repSL _ _ (by simpa using hrep)
    · exact qq.ownsRow (World.ownsRow_made w #[] 0 (Nat.zero_le _) (by simp [maxLen]) rfl) (fun _ _ _ e => e)
    · intro g hg; exact .inl (by simpa [Value.ownBlock] using hg.symm)
  have hpl : x.pre.len ≤ 80 := by have := HF.out; omega
  rw [hw0] at hw1
  have HR := Lib.hid (And.intro hcell (And.intro hown hg))
  have HWS := Lib.hid (And.intro hwF (And.intro hwF2 (And.intro hgf hw1)))
  clear hown hrep hfrom q2 hcell qq hw1 hwF hwF2 hgf hw0 hg
  go_upto_region 7 with fail
  go_loopg [6, 33] (x.pre.len + 1) (fun g v vi wr => PickAt w w2 (fun i => w.heap.size + 1 ≤ i) keep x.pre.list cs g v vi wr)
  case atStart => exact HP.out
  case round =>
    clear HP
    obtain ⟨i, pre, y, rfl, hi, hgk, hpre, hy, hrow, hfr, hww, hq, hq2⟩ := hrel
    cases gk with
    | zero => rw [← hpre] at hgk; simp at hgk; omega
    | succ gk =>
    have hil := congrArg List.length hpre
    rw [List.length_append, Nds.list_len, Nds.list_len, ← hi] at hil
    have hnl := pickN_len keep pre
    obtain ⟨L, hLd⟩ : ∃ L, L = pickN keep pre := ⟨_, rfl⟩
    rw [← hLd] at hrow hnl
    obtain ⟨nL, hnL⟩ : ∃ nL, nL = L.length := ⟨_, rfl⟩
    rw [← hnL] at hrow hnl
    obtain ⟨a, c, rfl⟩ := row_slice (ok := fun _ => True) ⟨hrow, fun _ _ => trivial⟩
    cases y with
    | nil =>
      simp only [Nds.len] at hil
      have hd : ¬ i < x.pre.len := by omega
      simp only [Nds.list, List.append_nil] at hpre
      have HO := Lib.hid (And.intro hpre (And.intro hrow (And.intro hfr (And.intro hq (And.intro hLd hnL)))))
      clear hpre hrow hfr hq hq2 hy hLd hnL
      go_wp2_with fail
      refine bodyPost_ret (resWithS _ _ _ _ rfl rfl) rfl ?_
      obtain ⟨h1, h2, h3, h4, h5, h6⟩ := HO.out
      refine ⟨_, _, L.map fun k => i64 k, rfl, ⟨?_, ?_⟩, h4, rfl, by rw [h5, ← h1]⟩
      · rw [List.length_map, ← h6]; exact h2
      · intro v hv; have := h3 v (by simpa using hv); show w.heap.size ≤ v; omega
    | cons z y3 =>
      simp only [Nds.len] at hil
      have hd : i < x.pre.len := by omega
      have hzm : z ∈ x.pre.list := by rw [← hpre]; simp [Nds.list]
      have hcw : ∀ j u, cs[j]? = some u → wr.cell? ⟨g, j, none⟩ = some u := fun j u hu =>
        (hq2.cell (p := ⟨g, j, none⟩) HR.out.2.2 (fun e => by simp [oneB] at e; have := HWS.out; omega)).trans (HR.out.1 j u hu)
      obtain ⟨⟨na, nn, nm, hn⟩, hy3⟩ := node_at hcw hy
      have s0 : wr.cell? ⟨g, i * 6, none⟩ = some (.int .u8 _) := hn.s0
      have s1 : wr.cell? ⟨g, i * 6 + 1, none⟩ = some (.int .i64 _) := hn.s1
      have s2 : wr.cell? ⟨g, i * 6 + 2, none⟩ = some (.int .i64 _) := hn.s2
      have s3 : wr.cell? ⟨g, i * 6 + 3, none⟩ = some (.string _) := hn.s3
      have s4 := hn.s4
      have s5 : wr.cell? ⟨g, i * 6 + 5, none⟩ = some (.string _) := hn.s5
      have HA : Hid (∀ W, Keeps noB wr W → Calls Try.prog 64 #[.pointer (some ⟨h, 0, none⟩), .int .i64 (z.beg : Int)] W (fun e w' => e = .returned (.tuple #[.agg #[.string (mayB (knownZ x z)), .string (mustB (knownZ x z)), .bool (liveK (knownZ x z))], .bool true]) ∧ Keeps noB W w')) := fun W qW => by
        have hh := hat_any (z.beg : Int) l W own h va vs ((HH2.out.1.keeps hq2 (fun k hk e => HH2.out.2.2 k hk e)).quiet qW)
        rw [HH2.out.2.1, (HNZ.out z hzm).1] at hh
        exact hh
      have hkz : keep z = (faultZ x z == f) := by rw [HKP.out]
      have hsn := pickN_snoc keep pre z
      rw [hkz, ← hLd] at hsn
      have HFZ : Hid (∀ W, Calls Try.prog 60 #[.agg #[.int .u8 z.kind.toNat, .int .i64 z.beg, .int .i64 z.fin, .string ⟨z.vars.toArray⟩, .slice na nn nm, .string ⟨z.scope.toArray⟩], .agg #[.string (mayB (knownZ x z)), .string (mustB (knownZ x z)), .bool (liveK (knownZ x z))]] W (fun e w' => e = .returned (.int .i64 (faultZ x z : Int)) ∧ Keeps noB W w')) := fun W => by
        obtain ⟨_, h1, h2, h3⟩ := HNZ.out z hzm
        exact sfault_any h2 (fun v hv => need_ltr h1 h2 hv) (knownZ x z) h3 na nn nm W
      have HB2 : Hid (∀ W', Keeps noB (wr.alloc (.cells #[.int .u8 z.kind.toNat, .int .i64 z.beg, .int .i64 z.fin, .string ⟨z.vars.toArray⟩, .slice na nn nm, .string ⟨z.scope.toArray⟩] 55)) W' → Blk W' wr.heap.size #[.int .u8 z.kind.toNat, .int .i64 z.beg, .int .i64 z.fin, .string ⟨z.vars.toArray⟩, .slice na nn nm, .string ⟨z.scope.toArray⟩] 55) := fun W' h => h.blk (Blk.new _ _ _) id
      have HSN := Lib.hid hsn
      have hn80 : nL ≤ 80 := by omega
      generalize mayB (knownZ x z) = ma at *
      generalize mustB (knownZ x z) = mu at *
      generalize liveK (knownZ x z) = lv at *
      generalize faultZ x z = fz at *
      have HO := Lib.hid (And.intro hpre (And.intro hrow (And.intro hfr (And.intro hq (And.intro hq2 (And.intro hy3 (And.intro hi (And.intro hil hnL))))))))
      clear hpre hrow hfr hq hq2 hy hcw hn hy3 hil hi hkz hsn hLd hnL
      obtain ⟨hi1, hz0, hz1, hz2⟩ := HI.out
      by_cases hff : fz = f
      · have heq : ((fz : Int) == (f : Int)) = true := by rw [hff]; simp
        have heq2 : (fz == f) = true := by rw [hff]; simp
        rw [heq2, if_pos rfl] at HSN
        clear hff heq2
        go_upto_region 11 with (first
          | (go_at_call 64; refine (HA.out _ ((Keeps.refl _ _).alloc _)).mono ?_; rintro e4 w4 ⟨rfl, q4⟩; have n4 := HB2.out _ q4; have t0 := n4.cell 0; have t1 := n4.cell 1; have t2 := n4.cell 2; have t3 := n4.cell 3; have t4 := n4.cell 4; have t5 := n4.cell 5; simp at t0 t1 t2 t3 t4 t5; have hlt4 := n4.lt; have hne : ¬ wr.heap.size = w4.heap.size := (by omega); have Q4 := Lib.hid q4; have N4 := Lib.hid n4; clear q4 n4)
          | (go_at_call 60; refine (HFZ.out _).mono ?_; rintro e5 w5 ⟨rfl, q5⟩; have n5 := q5.blk (N4.out.alloc _) id; have t6 : w5.cell? ⟨wr.heap.size, 1, none⟩ = some (.int .i64 z.beg) := ((n5.cell 1).trans rfl); have hlt5 := n5.lt; have hne5 : ¬ wr.heap.size = w5.heap.size := (by omega); have Q5 := Lib.hid q5; clear q5 n5))
        go_wp2_with (at_builtin; refine wpList_append_fresh _ rfl _ _ 24 rfl 3 i0 _ 1 8 Try.underlying24 hi1 hz0 hz1 hz2 rfl (by decide) (.slice a nL c) nL (L.map fun k => i64 k) rfl ?own ⟨w5.heap.size, 0, none⟩ 1 1 [i64 z.beg] rfl ?c1 ?c2 ?c3 ?c4 ?c5 ?_)
        case own => exact (((((((Keeps.refl noB wr).alloc _).trans Q4.out).alloc _).trans Q5.out).alloc _)).ownsRow HO.out.2.1 (fun _ _ _ e => e)
        case c1 => rfl
        case c2 => exact cells_one w5 (i64 z.beg) 3
        case c3 => intro u hu; simp at hu; subst hu; rfl
        case c4 => unfold maxLen; omega
        case c5 => omega
        intro v' w3 hown' hgrow hfresh
        have hnew : PickAt w w2 (fun i => w.heap.size + 1 ≤ i) keep x.pre.list cs gk v' (.int .i64 ((i + 1 : Nat) : Int)) w3 := by
          obtain ⟨hpre, hrow, hfr, hq, hq2, hy3, hi, hil, hnL⟩ := HO.out
          have hqs := hq.size
          have hqs2 := hq2.size
          have hq4 := Q4.out.size
          have hq5 := Q5.out.size
          have qa : Keeps (fun g => (Value.slice a nL c).ownBlock = some g) wr w3 := ((((((Keeps.refl _ wr).alloc _).trans (Q4.out.mono (fun _ e => e.elim))).alloc _).trans (Q5.out.mono (fun _ e => e.elim))).alloc _).grown hgrow (fun g hg => .inl hg)
          have e : pickN keep (pre ++ [z]) = L ++ [z.beg] := HSN.out
          refine ⟨i + 1, pre ++ [z], y3, rfl, by simp [hi], by omega, by rw [← hpre]; simp [Nds.list], hy3, ?_, ?_, hww, ?_, ?_⟩
          · rw [e, List.length_append, List.map_append, ← hnL]; exact hown'
          · intro g hg
            rcases hfresh with h | h
            · exact hfr g (h ▸ hg)
            · have := h g hg; simp at this hq4 hq5; omega
          · exact hq.transNew qa (fun i hi e => by have := hfr i e; omega)
          · exact hq2.transNew qa (fun i hi e => by have := hfr i e; simp only [oneB]; omega)
        obtain ⟨a', c', rfl⟩ := row_slice (ok := fun _ => True) ⟨hown', fun _ _ => trivial⟩
        have HN := Lib.hid hnew
        clear hown' hgrow hfresh hnew
        go_wp2_with fail
        go_roundg gk
        case measure => omega
        case rel => exact HN.out
      · have heq : ((fz : Int) == (f : Int)) = false := by simp; omega
        have heq2 : (fz == f) = false := by simp [hff]
        rw [heq2, if_neg Bool.false_ne_true, List.append_nil] at HSN
        clear hff heq2
        go_wp2_with (first
          | (go_at_call 64; refine (HA.out _ ((Keeps.refl _ _).alloc _)).mono ?_; rintro e4 w4 ⟨rfl, q4⟩; have n4 := HB2.out _ q4; have t0 := n4.cell 0; have t1 := n4.cell 1; have t2 := n4.cell 2; have t3 := n4.cell 3; have t4 := n4.cell 4; have t5 := n4.cell 5; simp at t0 t1 t2 t3 t4 t5; have hlt4 := n4.lt; have hne : ¬ wr.heap.size = w4.heap.size := (by omega); have Q4 := Lib.hid q4; have N4 := Lib.hid n4; clear q4 n4)
          | (go_at_call 60; refine (HFZ.out _).mono ?_; rintro e5 w5 ⟨rfl, q5⟩; have n5 := q5.blk (N4.out.alloc _) id; have t6 : w5.cell? ⟨wr.heap.size, 1, none⟩ = some (.int .i64 z.beg) := ((n5.cell 1).trans rfl); have hlt5 := n5.lt; have hne5 : ¬ wr.heap.size = w5.heap.size := (by omega); have Q5 := Lib.hid q5; clear q5 n5))
        have hnew : PickAt w w2 (fun i => w.heap.size + 1 ≤ i) keep x.pre.list cs gk (.slice a nL c) (.int .i64 ((i + 1 : Nat) : Int)) w5 := by
          obtain ⟨hpre, hrow, hfr, hq, hq2, hy3, hi, hil, hnL⟩ := HO.out
          have hqs2 := hq2.size
          have qa : Keeps noB wr w5 := ((((Keeps.refl noB wr).alloc _).trans Q4.out).alloc _).trans Q5.out
          have e : pickN keep (pre ++ [z]) = L := HSN.out
          refine ⟨i + 1, pre ++ [z], y3, rfl, by simp [hi], by omega, by rw [← hpre]; simp [Nds.list], hy3, ?_, hfr, hww, hq.trans qa, hq2.transNew qa (fun i hi e => e.elim)⟩
          rw [e, ← hnL]
          exact qa.ownsRow hrow (fun _ _ _ e => e)
        have HN := Lib.hid hnew
        clear hnew
        go_roundg gk
        case measure => omega
        case rel => exact HN.out

set_option maxRecDepth 100000 in
set_option maxHeartbeats 4000000 in
theorem swith_out (s : ByteArray) (hs : s.size ≤ 1048576) (x : Nd) (hp : progP s = some x) (f : Int) (hf : ¬ (0 ≤ f ∧ f ≤ 3)) (w : World) : Calls Try.prog 31 #[.string s, .int .i64 f] w (NumsPost w none) := by
  have H := Lib.hid (sread_any s hs (w.alloc (.cells #[] 3)))
  rw [hp] at H
  have HIN : Hid (∀ w, Calls Try.prog 62 #[.int .i64 f, .int .i64 0, .int .i64 3] w (fun e w' => e = .returned (.bool false) ∧ w' = w)) := fun w => by
    have h := in_any f 0 3 w
    have e : inR f 0 3 = false := by simp [inR]; omega
    rwa [e] at h
  clear hp hf
  go_enter Try.func31, Try.ntmps31
  go_wp2_with fail
  refine H.out.mono ?_
  rintro e w1 ⟨x0, x1, x2, x3, x4, x5, x6, x7, rfl, hx, q1⟩
  have hnv : nodeV x0 x1 x2 x3 x4 x5 x6 x7 = .agg #[.int .u8 x0, .int .i64 x1, .int .i64 x2, .string x3, .slice x4 x5 x6, .string x7] := rfl
  clear hx
  go_wp2_with (go_at_call 62; refine (HIN.out _).mono ?_; rintro e3 w3 ⟨rfl, rfl⟩)
  refine bodyPost_ret (resWithS _ _ _ _ rfl rfl) rfl ?_
  refine ⟨_, _, [], rfl, ⟨?_, ?_⟩, (((Keeps.refl _ w).alloc _).trans q1).alloc _, rfl, rfl⟩
  · exact ((q1.ownsRow (World.ownsRow_made w #[] 0 (Nat.zero_le _) (by simp [maxLen]) rfl) (fun _ _ _ e => e))).alloc _
  · intro g hg; simp [Value.ownBlock] at hg; simp [fromB]; omega

theorem sstepsWith_any (s : ByteArray) (hs : s.size ≤ 1048576) (f : Int) (w : World) : Calls Try.prog 31 #[.string s, .int .i64 f] w (NumsPost w (withP s f)) := by
  unfold withP
  cases hp : progP s with
  | none => exact swith_none s hs hp f w
  | some x =>
    simp only
    by_cases hf : 0 ≤ f ∧ f ≤ 3
    · rw [if_pos hf]
      obtain ⟨k, rfl⟩ := Int.eq_ofNat_of_zero_le hf.1
      have h := swith_some s hs x hp k (by omega) w
      rw [← pick_preD (fun z => faultZ x z == k) x 0] at h
      exact h
    · rw [if_neg hf]; exact swith_out s hs x hp f hf w

/-- How many places a list has. -/
def numsL (res : Option (List Nat)) : Nat := (res.getD []).length

theorem nums_slice {w w' : World} {res : Option (List Nat)} {e : Ending} (h : NumsPost w res e w') : ∃ a c, e = .returned (.tuple #[.slice a (numsL res) c, .bool res.isSome]) ∧ Keeps noB w w' := by
  obtain ⟨v, b, xs, rfl, hrow, hk, rfl, hxs⟩ := h
  have e2 : xs.length = numsL res := by
    rw [hxs]
    cases res with
    | none => rfl
    | some l => simp [numsL]
  rw [e2] at hrow
  obtain ⟨a, c, rfl⟩ := row_shape hrow
  exact ⟨a, c, rfl, hk⟩

theorem with_few (s : ByteArray) (f : Int) : numsL (withP s f) ≤ 80 := by
  unfold withP
  cases hp : progP s with
  | none => simp [numsL]
  | some x =>
    have h1 := (progP_few hp).1
    have h6 := progP_ok hp
    have h2 := Nd.preD_len x 0
    simp only
    split
    · simp only [numsL, Option.getD, List.length_map]
      refine Nat.le_trans (List.length_filter_le _ _) ?_
      have := h6.2.2.2.2.2
      omega
    · simp [numsL]

theorem with_at {s : ByteArray} {x : Nd} (hp : progP s = some x) (f : Nat) (hf : f ≤ 3) : withP s (f : Int) = some ((withL x f (x.preD 0)).map (fun p => p.1.beg)) := by
  unfold withP
  rw [hp]
  simp only
  rw [if_pos (by omega)]
  rfl

theorem safe_eq (s : ByteArray) : safeP s = ((withP s 1).isSome && (numsL (withP s 1) + numsL (withP s 2) == 0)) := by
  unfold safeP
  cases hp : progP s with
  | none => unfold withP; rw [hp]; rfl
  | some x =>
    have e1 : withP s 1 = _ := with_at hp 1 (by omega)
    have e2 : withP s 2 = _ := with_at hp 2 (by omega)
    rw [e1, e2]
    simp only [numsL, Option.getD, Option.isSome, List.length_map, Bool.true_and]
    generalize withL x 1 (x.preD 0) = a
    generalize withL x 2 (x.preD 0) = b
    cases a <;> cases b <;> simp

theorem broken_eq (s : ByteArray) : brokenP s = !(numsL (withP s 2) == 0) := by
  unfold brokenP
  cases hp : progP s with
  | none => unfold withP; rw [hp]; rfl
  | some x =>
    have e2 : withP s 2 = _ := with_at hp 2 (by omega)
    rw [e2]
    simp only [numsL, Option.getD, List.length_map]
    generalize withL x 2 (x.preD 0) = b
    cases b <;> simp

theorem broken_none {s : ByteArray} {f : Int} (h : (withP s f).isSome = false) : numsL (withP s f) = 0 := by
  cases h2 : withP s f with
  | none => rfl
  | some l => rw [h2] at h; cases h

set_option maxRecDepth 100000 in
set_option maxHeartbeats 1000000 in
theorem sisSafe_any (s : ByteArray) (hs : s.size ≤ 1048576) (w : World) : Calls Try.prog 36 #[.string s] w (fun e w' => e = .returned (.bool (safeP s)) ∧ Keeps noB w w') := by
  have H1 := Lib.hid (fun w => (sstepsWith_any s hs 1 w).mono (fun e w' h => nums_slice h))
  have H2 := Lib.hid (fun w => (sstepsWith_any s hs 2 w).mono (fun e w' h => nums_slice h))
  have h1 := with_few s 1
  have h2 := with_few s 2
  rw [safe_eq]
  generalize numsL (withP s 1) = n1 at *
  generalize numsL (withP s 2) = n2 at *
  generalize (withP s 1).isSome = b1 at *
  generalize (withP s 2).isSome = b2 at *
  have hn1 : (n1 : Int) ≤ 80 := by omega
  have hn2 : (n2 : Int) ≤ 80 := by omega
  have hn3 : (0 : Int) ≤ (n1 : Int) + (n2 : Int) := by omega
  have hn4 : (n1 : Int) + (n2 : Int) ≤ 160 := by omega
  have hn5 : ((n1 : Int) + (n2 : Int) == 0) = (n1 + n2 == 0) := by
    by_cases h : n1 + n2 = 0
    · have e : (n1 : Int) + (n2 : Int) = 0 := by omega
      rw [e, h]; rfl
    · have e : ¬ (n1 : Int) + (n2 : Int) = 0 := by omega
      rw [beq_eq_false_iff_ne.2 e, beq_eq_false_iff_ne.2 h]
  have HN5 := Lib.hid hn5
  generalize (n1 + n2 == 0) = r at *
  clear h1 h2 hs
  cases b1
  all_goals
    go_enter Try.func36, Try.ntmps36
    go_wp2_with fail
    refine (H1.out _).mono ?_
    rintro e1 w1 ⟨a1, c1, rfl, q1⟩
    go_wp2_with fail
    refine (H2.out _).mono ?_
    rintro e2 w2 ⟨a2, c2, rfl, q2⟩
    go_wp2_with fail
    go_ret
    exact ⟨rfl, q1.trans q2⟩

set_option maxRecDepth 100000 in
set_option maxHeartbeats 1000000 in
theorem sisBroken_any (s : ByteArray) (hs : s.size ≤ 1048576) (w : World) : Calls Try.prog 38 #[.string s] w (fun e w' => e = .returned (.bool (brokenP s)) ∧ Keeps noB w w') := by
  have H2 := Lib.hid (fun w => (sstepsWith_any s hs 2 w).mono (fun e w' h => nums_slice h))
  rw [broken_eq]
  generalize numsL (withP s 2) = n2 at *
  generalize (withP s 2).isSome = b2 at *
  have hn5 : Hid (decide (0 < n2) = !(n2 == 0)) := by
    by_cases h : n2 = 0
    · rw [h]; exact rfl
    · have e : 0 < n2 := by omega
      have e2 : (n2 == 0) = false := beq_eq_false_iff_ne.2 h
      exact Lib.hid (by rw [decide_eq_true e, e2]; rfl)
  generalize (!(n2 == 0)) = r at *
  clear hs
  go_enter Try.func38, Try.ntmps38
  go_wp2_with fail
  refine (H2.out _).mono ?_
  rintro e2 w2 ⟨a2, c2, rfl, q2⟩
  go_wp2_with fail
  go_ret
  exact ⟨congrArg (fun b => Ending.returned (.bool b)) hn5.out, q2⟩

end Go.Proofs.Ytgpaplhbjhbfjaa
