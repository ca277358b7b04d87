/-
  The model's DeadSteps.
-/
import Derived.Test.YtgpaplhbjhbfjaaWrWm
import Derived.Test.YtgpaplhbjhbfjaaVsm
namespace Go.Proofs.Ytgpaplhbjhbfjaa
set_option linter.unusedVariables false
set_option linter.unusedSimpArgs false
open Go.RowKit

/-- Where those of some steps begin that are to be kept. -/
def pickN (keep : Nd → Bool) (l : List Nd) : List Nat := (l.filter keep).map Nd.beg
theorem pickN_snoc (keep : Nd → Bool) (l : List Nd) (z : Nd) : pickN keep (l ++ [z]) = pickN keep l ++ (if keep z then [z.beg] else []) := by
  unfold pickN
  rw [List.filter_append, List.map_append]
  cases h : keep z <;> simp [h]
theorem pickN_len (keep : Nd → Bool) (l : List Nd) : (pickN keep l).length ≤ l.length := by
  unfold pickN; rw [List.length_map]; exact List.length_filter_le _ _

theorem pick_preD (keep : Nd → Bool) (x : Nd) (d : Nat) : ((x.preD d).filter (fun p => keep p.1)).map (fun p => p.1.beg) = pickN keep x.pre.list := by
  unfold pickN
  rw [← Nd.preD_fst x d, List.filter_map, List.map_map]
  rfl

/-- What a loop over steps has gathered. -/
def PickAt (w w1 : World) (ok : Nat → Prop) (keep : Nd → Bool) (all : List Nd) (cs : List Value) (g : Nat) (v vi : Value) (wr : World) : Prop :=
  ∃ (i : Nat) (pre : List Nd) (y : Nds), vi = .int .i64 i ∧ i = pre.length ∧ all.length < i + g ∧ pre ++ y.list = all ∧ RepSL w1 ok y (cs.drop (i * 6)) ∧
    wr.ownsRow 0 3 1 v (pickN keep pre).length ((pickN keep pre).map fun k => i64 k) ∧ (∀ g, v.ownBlock = some g → g = w.heap.size ∨ w1.heap.size ≤ g) ∧ w.heap.size < w1.heap.size ∧ Keeps noB w wr ∧ Keeps (oneB w.heap.size) w1 wr

theorem resDeadS (W : World) (v b : Value) (tmps : Array Value) (h2 : tmps.getD 2 undef = v) (h3 : tmps.getD 3 undef = b) : (results Try.f40 tmps).run Try.prog W = .ok (.tuple #[v, b]) W := by
  have h2' : tmps[2]?.getD undef = v := by simpa using h2
  have h3' : tmps[3]?.getD undef = b := by simpa using h3
  simp [results, Try.results40, go_sem, h2', h3']

set_option maxRecDepth 100000 in
set_option maxHeartbeats 4000000 in
theorem sdead_none (s : ByteArray) (hs : s.size ≤ 1048576) (hp : progP s = none) (w : World) : Calls Try.prog 40 #[.string s] w (NumsPost w none) := by
  have H := Lib.hid (sread_any s hs (w.alloc (.cells #[] 3)))
  rw [hp] at H
  clear hp
  go_enter Try.func40, Try.ntmps40
  go_wp2_with fail
  refine H.out.mono ?_
  rintro e w1 ⟨⟨x0, x1, x2, x3, x4, x5, x6, x7, rfl⟩, q1⟩
  have hnv : nodeV x0 x1 x2 x3 x4 x5 x6 x7 = .agg #[.int .u8 x0, .int .i64 x1, .int .i64 x2, .string x3, .slice x4 x5 x6, .string x7] := rfl
  go_wp2_with fail
  refine bodyPost_ret (resDeadS _ _ _ _ rfl rfl) rfl ?_
  refine ⟨_, _, [], rfl, ⟨?_, ?_⟩, (((Keeps.refl _ w).alloc _).trans q1).alloc _, rfl, rfl⟩
  · exact ((q1.ownsRow (World.ownsRow_made w #[] 0 (Nat.zero_le _) (by simp [maxLen]) rfl) (fun _ _ _ e => e))).alloc _
  · intro g hg; simp [Value.ownBlock] at hg; simp [fromB]; omega

set_option maxRecDepth 100000 in
set_option maxHeartbeats 4000000 in
theorem sdead_some (s : ByteArray) (hs : s.size ≤ 1048576) (x : Nd) (hp : progP s = some x) (w : World) : Calls Try.prog 40 #[.string s] w (NumsPost w (some (pickN (fun z => decide (knownZ x z = Kn.no)) x.pre.list))) := by
  obtain ⟨i0, hi, hz0, hz1, hz2⟩ := info_parts Try.infoI3
  have HI := Lib.hid (And.intro hi (And.intro hz0 (And.intro hz1 hz2)))
  have H := Lib.hid (sread_any s hs (w.alloc (.cells #[] 3)))
  rw [hp] at H
  obtain ⟨_, h2, _, _, _, h6⟩ := progP_ok hp
  have hX := Nd.shC h6 x 0 h2 (progP_sp hp) (progP_fit hp)
  have hfin := h2.good.le
  have HL := Lib.hid (fun w1 ok hok a n m hrep => lfind_any x (progP_sp hp) (by omega) hX w1 ok hok a n m hrep)
  have HF := Lib.hid (progP_few hp)
  have HNZ : Hid (∀ z ∈ x.pre.list, noteI (notesP x) (z.beg : Int) = some (knownZ x z)) := fun z hz => by rw [noteI_beg]; exact noted_P hp hz
  obtain ⟨keep, hkeep⟩ : ∃ keep : Nd → Bool, keep = fun z => decide (knownZ x z = Kn.no) := ⟨_, rfl⟩
  rw [← hkeep]
  have HKP := Lib.hid hkeep
  clear hi hz0 hz1 hz2 hX hfin h2 h6 hp hkeep
  go_enter Try.func40, Try.ntmps40
  go_wp2_with fail
  refine H.out.mono ?_
  rintro e w1 ⟨x0, x1, x2, x3, x4, x5, x6, x7, rfl, hx, q1⟩
  have hnv : nodeV x0 x1 x2 x3 x4 x5 x6 x7 = .agg #[.int .u8 x0, .int .i64 x1, .int .i64 x2, .string x3, .slice x4 x5 x6, .string x7] := rfl
  have HX := Lib.hid hx
  have hL : Hid (∀ w2, Keeps noB w1 w2 → Calls Try.prog 63 #[.agg #[.int .u8 x0, .int .i64 x1, .int .i64 x2, .string x3, .slice x4 x5 x6, .string x7]] w2 (fun e w' => ∃ own h l va vs, e = .returned (.pointer (some ⟨h, 0, none⟩)) ∧ HoldAt w' own h l va vs ∧ lookL l = notesP x ∧ (∀ g, own g → w2.heap.size ≤ g) ∧ Keeps noB w2 w')) := fun w2 q2 => by
    obtain ⟨c, b, e', vs, ar, bs⟩ := x
    have hr2 := hx
    simp only [RepS] at hr2
    obtain ⟨vb, n', xs, hcs, _, _⟩ := hr2
    simp [six, u8, i64, str] at hcs
    obtain ⟨rfl, rfl, rfl, rfl, rfl, rfl⟩ := hcs
    have hh : Hands w1 w2 (fromB (w.alloc (.cells #[] 3)).heap.size) (fun i => i < w2.heap.size) := Hands.of_keeps q2 (fun _ _ _ e => e.elim) (fun i _ hl => Nat.lt_of_lt_of_le hl q2.size)
    exact HL.out w2 (fun i => i < w2.heap.size) (fun _ h => h) x4 x5 x6 (hh.repS _ _ hx)
  clear hx
  have hw1 := q1.size
  have hw0 : (w.alloc (.cells #[] 3)).heap.size = w.heap.size + 1 := by simp
  have HE : Hid (∀ W, Keeps noB w1 W → Calls Try.prog 48 #[.agg #[.int .u8 x0, .int .i64 x1, .int .i64 x2, .string x3, .slice x4 x5 x6, .string x7]] W (EachPost W (fun g => w.heap.size + 1 ≤ g ∧ g < w1.heap.size) x)) := fun W qW =>
    each_all x.pre.len x _ W (fun g => w.heap.size + 1 ≤ g ∧ g < w1.heap.size) rfl (by have := HF.out; omega)
      ((Hands.of_keeps (ok := fromB (w.alloc (.cells #[] 3)).heap.size) qW (fun g _ _ e => e) (fun g hg hl => ⟨by simpa [fromB, hw0] using hg, hl⟩)).repS x _ HX.out) (fun g hg => by have := hg.2; have := qW.size; omega)
  have HB : Hid (∀ W', Keeps noB (w1.alloc (.cells #[.int .u8 x0, .int .i64 x1, .int .i64 x2, .string x3, .slice x4 x5 x6, .string x7] 55)) W' → Blk W' w1.heap.size #[.int .u8 x0, .int .i64 x1, .int .i64 x2, .string x3, .slice x4 x5 x6, .string x7] 55) := fun W' h => h.blk (Blk.new _ _ _) id
  have HQ1 := Lib.hid q1
  clear q1
  go_wp2_with (go_at_call 63; refine (hL.out _ ((Keeps.refl _ _).alloc _)).mono ?_; rintro e2 wF ⟨own, h, l, va, vs, rfl, hH, hM, hO, q2⟩; have n2 := HB.out _ q2; have r0 := n2.cell 0; have r1 := n2.cell 1; have r2 := n2.cell 2; have r3 := n2.cell 3; have r4 := n2.cell 4; have r5 := n2.cell 5; simp at r0 r1 r2 r3 r4 r5; have HHF := Lib.hid (And.intro hH (And.intro hM hO)); have QF := Lib.hid (((Keeps.refl noB w1).alloc _).trans q2); clear q2 n2 hH hM hO)
  refine (HE.out _ QF.out).mono ?_
  rintro e w2 ⟨v, rfl, hout⟩
  obtain ⟨hp0, cs, hown, hrep, hfrom, q2⟩ := hout
  obtain ⟨g, n, hv, _, hg, hcell⟩ := row_at (ok := fun _ => True) ⟨hown, fun _ _ => trivial⟩ hp0
  subst hv
  have hwF := QF.out.size
  have hwF2 := q2.size
  have hgf : wF.heap.size ≤ g := hfrom g rfl
  have qq : Keeps noB (w.alloc (.cells #[] 3)) w2 := (HQ1.out.trans QF.out).trans q2
  have HH2 : Hid (HoldAt w2 own h l va vs ∧ lookL l = notesP x ∧ ∀ g, own g → g ≠ w.heap.size) := ⟨HHF.out.1.quiet q2, HHF.out.2.1, fun g hg e => by have := HHF.out.2.2 g hg; simp at this; omega⟩
  have HP : Hid (PickAt w w2 (fun i => w.heap.size + 1 ≤ i) keep x.pre.list cs (x.pre.len + 1) (.slice (some ⟨w.heap.size, 0, none⟩) 0 0) (.int .i64 0) w2) := by
    refine ⟨0, [], x.pre, rfl, rfl, by rw [Nds.list_len]; omega, rfl, ?_, ?_, ?_, by have := qq.size; omega, ((Keeps.refl _ w).alloc _).trans qq, Keeps.refl _ _⟩
    · exact (Hands.of_keeps (ok := fun g => w.heap.size + 1 ≤ g ∧ g < w1.heap.size) (Keeps.refl noB w2) (fun g _ _ e => e) (fun g hg _ => hg.1)).repSL _ _ (by simpa using hrep)
    · exact qq.ownsRow (World.ownsRow_made w #[] 0 (Nat.zero_le _) (by simp [maxLen]) rfl) (fun _ _ _ e => e)
    · intro g hg; exact .inl (by simpa [Value.ownBlock] using hg.symm)
  have hpl : x.pre.len ≤ 80 := by have := HF.out; omega
  rw [hw0] at hw1
  have HR := Lib.hid (And.intro hcell (And.intro hown hg))
  have HWS := Lib.hid (And.intro hwF (And.intro hwF2 (And.intro hgf hw1)))
  clear hown hrep hfrom q2 hcell qq hw1 hwF hwF2 hgf hw0 hg
  go_upto_region 7 with fail
  go_loopg [4, 26] (x.pre.len + 1) (fun g v vi wr => PickAt w w2 (fun i => w.heap.size + 1 ≤ i) keep x.pre.list cs g v vi wr)
  case atStart => exact HP.out
  case round =>
    clear HP
    obtain ⟨i, pre, y, rfl, hi, hgk, hpre, hy, hrow, hfr, hww, hq, hq2⟩ := hrel
    cases gk with
    | zero => rw [← hpre] at hgk; simp at hgk; omega
    | succ gk =>
    have hil := congrArg List.length hpre
    rw [List.length_append, Nds.list_len, Nds.list_len, ← hi] at hil
    have hnl := pickN_len keep pre
    obtain ⟨L, hLd⟩ : ∃ L, L = pickN keep pre := ⟨_, rfl⟩
    rw [← hLd] at hrow hnl
    obtain ⟨nL, hnL⟩ : ∃ nL, nL = L.length := ⟨_, rfl⟩
    rw [← hnL] at hrow hnl
    obtain ⟨a, c, rfl⟩ := row_slice (ok := fun _ => True) ⟨hrow, fun _ _ => trivial⟩
    cases y with
    | nil =>
      simp only [Nds.len] at hil
      have hd : ¬ i < x.pre.len := by omega
      simp only [Nds.list, List.append_nil] at hpre
      have HO := Lib.hid (And.intro hpre (And.intro hrow (And.intro hfr (And.intro hq (And.intro hLd hnL)))))
      clear hpre hrow hfr hq hq2 hy hLd hnL
      go_wp2_with fail
      refine bodyPost_ret (resDeadS _ _ _ _ rfl rfl) rfl ?_
      obtain ⟨h1, h2, h3, h4, h5, h6⟩ := HO.out
      refine ⟨_, _, L.map fun k => i64 k, rfl, ⟨?_, ?_⟩, h4, rfl, by rw [h5, ← h1]⟩
      · rw [List.length_map, ← h6]; exact h2
      · intro v hv; have := h3 v (by simpa using hv); show w.heap.size ≤ v; omega
    | cons z y3 =>
      simp only [Nds.len] at hil
      have hd : i < x.pre.len := by omega
      have hzm : z ∈ x.pre.list := by rw [← hpre]; simp [Nds.list]
      have hcw : ∀ j u, cs[j]? = some u → wr.cell? ⟨g, j, none⟩ = some u := fun j u hu =>
        (hq2.cell (p := ⟨g, j, none⟩) HR.out.2.2 (fun e => by simp [oneB] at e; have := HWS.out; omega)).trans (HR.out.1 j u hu)
      obtain ⟨⟨na, nn, nm, hn⟩, hy3⟩ := node_at hcw hy
      have s0 : wr.cell? ⟨g, i * 6, none⟩ = some (.int .u8 _) := hn.s0
      have s1 : wr.cell? ⟨g, i * 6 + 1, none⟩ = some (.int .i64 _) := hn.s1
      have s2 : wr.cell? ⟨g, i * 6 + 2, none⟩ = some (.int .i64 _) := hn.s2
      have s3 : wr.cell? ⟨g, i * 6 + 3, none⟩ = some (.string _) := hn.s3
      have s4 := hn.s4
      have s5 : wr.cell? ⟨g, i * 6 + 5, none⟩ = some (.string _) := hn.s5
      have HA : Hid (∀ W, Keeps noB wr W → Calls Try.prog 64 #[.pointer (some ⟨h, 0, none⟩), .int .i64 (z.beg : Int)] W (fun e w' => e = .returned (.tuple #[.agg #[.string (mayB (knownZ x z)), .string (mustB (knownZ x z)), .bool (liveK (knownZ x z))], .bool true]) ∧ Keeps noB W w')) := fun W qW => by
        have hh := hat_any (z.beg : Int) l W own h va vs ((HH2.out.1.keeps hq2 (fun k hk e => HH2.out.2.2 k hk e)).quiet qW)
        rw [HH2.out.2.1, HNZ.out z hzm] at hh
        exact hh
      have hkz : keep z = !liveK (knownZ x z) := by rw [HKP.out]; unfold liveK; by_cases hk : knownZ x z = Kn.no <;> simp [hk]
      have hsn := pickN_snoc keep pre z
      rw [hkz, ← hLd] at hsn
      have HB2 : Hid (∀ W', Keeps noB (wr.alloc (.cells #[.int .u8 z.kind.toNat, .int .i64 z.beg, .int .i64 z.fin, .string ⟨z.vars.toArray⟩, .slice na nn nm, .string ⟨z.scope.toArray⟩] 55)) W' → Blk W' wr.heap.size #[.int .u8 z.kind.toNat, .int .i64 z.beg, .int .i64 z.fin, .string ⟨z.vars.toArray⟩, .slice na nn nm, .string ⟨z.scope.toArray⟩] 55) := fun W' h => h.blk (Blk.new _ _ _) id
      have HSN := Lib.hid hsn
      have hn80 : nL ≤ 80 := by omega
      generalize mayB (knownZ x z) = ma at *
      generalize mustB (knownZ x z) = mu at *
      have HO := Lib.hid (And.intro hpre (And.intro hrow (And.intro hfr (And.intro hq (And.intro hq2 (And.intro hy3 (And.intro hi (And.intro hil hnL))))))))
      clear hpre hrow hfr hq hq2 hy hcw hn hy3 hil hi hkz hsn hLd hnL
      obtain ⟨hi1, hz0, hz1, hz2⟩ := HI.out
      cases hlv : liveK (knownZ x z) with
      | true =>
        rw [hlv] at HA HSN
        clear hlv
        go_wp2_with (go_at_call 64; refine (HA.out _ ((Keeps.refl _ _).alloc _)).mono ?_; rintro e4 w4 ⟨rfl, q4⟩; have Q4 := Lib.hid q4; clear q4)
        have hnew : PickAt w w2 (fun i => w.heap.size + 1 ≤ i) keep x.pre.list cs gk (.slice a nL c) (.int .i64 ((i + 1 : Nat) : Int)) (w4.alloc (.cells #[.string ma, .string mu, .bool true] 79)) := by
          obtain ⟨hpre, hrow, hfr, hq, hq2, hy3, hi, hil, hnL⟩ := HO.out
          have hqs2 := hq2.size
          have qa : Keeps noB wr (w4.alloc (.cells #[.string ma, .string mu, .bool true] 79)) := (((Keeps.refl noB wr).alloc _).trans Q4.out).alloc _
          have e : pickN keep (pre ++ [z]) = L := by rw [HSN.out]; simp
          refine ⟨i + 1, pre ++ [z], y3, rfl, by simp [hi], by omega, by rw [← hpre]; simp [Nds.list], hy3, ?_, hfr, hww, hq.trans qa, hq2.transNew qa (fun i hi e => e.elim)⟩
          rw [e, ← hnL]
          exact qa.ownsRow hrow (fun _ _ _ e => e)
        have HN := Lib.hid hnew
        clear hnew
        go_roundg gk
        case measure => omega
        case rel => exact HN.out
      | false =>
        rw [hlv] at HA HSN
        clear hlv
        go_upto_region 11 with (go_at_call 64; refine (HA.out _ ((Keeps.refl _ _).alloc _)).mono ?_; rintro e4 w4 ⟨rfl, q4⟩; have n4 := HB2.out _ q4; have t1 := n4.cell 1; simp at t1; have hlt4 := n4.lt; have hne : ¬ wr.heap.size = w4.heap.size := (by omega); have Q4 := Lib.hid q4; clear q4 n4)
        go_wp2_with (at_builtin; refine wpList_append_fresh _ rfl _ _ 24 rfl 3 i0 _ 1 8 Try.underlying24 hi1 hz0 hz1 hz2 rfl (by decide) (.slice a nL c) nL (L.map fun k => i64 k) rfl ?own ⟨w4.heap.size + 1, 0, none⟩ 1 1 [i64 z.beg] rfl ?c1 ?c2 ?c3 ?c4 ?c5 ?_)
        case own => exact (((((Keeps.refl noB wr).alloc _).trans Q4.out).alloc _).alloc _).ownsRow HO.out.2.1 (fun _ _ _ e => e)
        case c1 => rfl
        case c2 =>
          intro j u hu
          have h := cells_one (w4.alloc (.cells #[.string ma, .string mu, .bool false] 79)) (i64 z.beg) 3 j u hu
          rw [World.size_alloc] at h
          exact h
        case c3 => intro u hu; simp at hu; subst hu; rfl
        case c4 => unfold maxLen; omega
        case c5 => omega
        intro v' w3 hown' hgrow hfresh
        have hnew : PickAt w w2 (fun i => w.heap.size + 1 ≤ i) keep x.pre.list cs gk v' (.int .i64 ((i + 1 : Nat) : Int)) w3 := by
          obtain ⟨hpre, hrow, hfr, hq, hq2, hy3, hi, hil, hnL⟩ := HO.out
          have hqs := hq.size
          have hqs2 := hq2.size
          have hq4 := Q4.out.size
          have qa : Keeps (fun g => (Value.slice a nL c).ownBlock = some g) wr w3 := (((((Keeps.refl _ wr).alloc _).trans (Q4.out.mono (fun _ e => e.elim))).alloc _).alloc _).grown hgrow (fun g hg => .inl hg)
          have e : pickN keep (pre ++ [z]) = L ++ [z.beg] := by rw [HSN.out]; simp
          refine ⟨i + 1, pre ++ [z], y3, rfl, by simp [hi], by omega, by rw [← hpre]; simp [Nds.list], hy3, ?_, ?_, hww, ?_, ?_⟩
          · rw [e, List.length_append, List.map_append, ← hnL]; exact hown'
          · intro g hg
            rcases hfresh with h | h
            · exact hfr g (h ▸ hg)
            · have := h g hg; simp at this hq4; omega
          · exact hq.transNew qa (fun i hi e => by have := hfr i e; omega)
          · exact hq2.transNew qa (fun i hi e => by have := hfr i e; simp only [oneB]; omega)
        obtain ⟨a', c', rfl⟩ := row_slice (ok := fun _ => True) ⟨hown', fun _ _ => trivial⟩
        have HN := Lib.hid hnew
        clear hown' hgrow hfresh hnew
        go_wp2_with fail
        go_roundg gk
        case measure => omega
        case rel => exact HN.out

theorem sdead_any (s : ByteArray) (hs : s.size ≤ 1048576) (w : World) : Calls Try.prog 40 #[.string s] w (NumsPost w (deadP s)) := by
  unfold deadP
  cases hp : progP s with
  | none => exact sdead_none s hs hp w
  | some x =>
    have h := sdead_some s hs x hp w
    rw [← pick_preD (fun z => decide (knownZ x z = Kn.no)) x 0] at h
    exact h

end Go.Proofs.Ytgpaplhbjhbfjaa
