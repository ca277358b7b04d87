/-
  The model's l9Exits: where exits begin, and their cleanups.
-/
import Derived.Test.YtkfcgamdlckncaaGreatDa
import Derived.Test.YtkfcgamdlckncaaGreatZba
import Derived.Test.YtkfcgamdlckncaaGreatWqV
import Derived.Test.YtkfcgamdlckncaaGreatEbV
import Derived.Test.YtkfcgamdlckncaaGreatVsb
namespace Go.Proofs.YtkfcgamdlckncaaGreat
set_option linter.unusedVariables false
set_option linter.unusedSimpArgs false
open Go.RowKit

theorem Tryz.infoS99 : (Tryz.prog.info? 9).map (fun i => (i.zero, i.size, i.bytes)) = some (some (.string ⟨#[]⟩), 1, 16) := by kernel_rfl

/-- The cells of the two rows. -/
def begC (l : List Pt) : List Value := l.map (fun q => i64 q.1)
def clnC (l : List Pt) : List Value := l.map (fun q => Value.string ⟨q.2.toArray⟩)
theorem begC_snoc (l : List Pt) (q : Pt) : begC (l ++ [q]) = begC l ++ [i64 q.1] := by unfold begC; rw [List.map_append]; rfl
theorem clnC_snoc (l : List Pt) (q : Pt) : clnC (l ++ [q]) = clnC l ++ [Value.string ⟨q.2.toArray⟩] := by unfold clnC; rw [List.map_append]; rfl

/-- Two rows of different types lie apart. -/
theorem rows_apart9 {w : World} {b1 b2 : Nat} {e1 e2 : TypeId} {s1 s2 n1 n2 : Nat} {v1 v2 : Value} {x1 x2 : List Value} (h1 : w.ownsRow b1 e1 s1 v1 n1 x1) (h2 : w.ownsRow b2 e2 s2 v2 n2 x2) (hne : e1 ≠ e2) {g : Nat} (hg : v1.ownBlock = some g) : v2.ownBlock ≠ some g := by
  intro hg2
  rcases h1.2 with ⟨rfl, _⟩ | ⟨g1, c1, cur1, rfl, _, hh1, _⟩
  · simp [Value.ownBlock] at hg
  · rcases h2.2 with ⟨rfl, _⟩ | ⟨g2, c2, cur2, rfl, _, hh2, _⟩
    · simp [Value.ownBlock] at hg2
    · simp [Value.ownBlock] at hg hg2
      subst hg
      subst hg2
      rw [hh1] at hh2
      injection hh2 with hh2
      injection hh2 with _ hh2
      exact hne hh2

def twoM (m : Nat) : Nat → Prop := fun k => k = m ∨ k = m + 1

/-- What the loop over steps has gathered. -/
def ExAt (w w1 : World) (ok : Nat → Prop) (x : Nd) (all : List Nd) (cs : List Value) (g : Nat) (v5 v6 vi : Value) (wr : World) : Prop :=
  ∃ (i : Nat) (pre : List Nd) (y : Nds), vi = .int .i64 i ∧ i = pre.length ∧ all.length < i + g ∧ pre ++ y.list = all ∧ RepSL w1 ok y (cs.drop (i * 6)) ∧
    wr.ownsRow 0 3 1 v5 (exitsU x pre).length (begC (exitsU x pre)) ∧ wr.ownsRow 0 9 1 v6 (exitsU x pre).length (clnC (exitsU x pre)) ∧
    (∀ g, v5.ownBlock = some g → twoM w.heap.size g ∨ w1.heap.size ≤ g) ∧ (∀ g, v6.ownBlock = some g → twoM w.heap.size g ∨ w1.heap.size ≤ g) ∧ w.heap.size + 1 < w1.heap.size ∧ Keeps noB w wr ∧ Keeps (twoM w.heap.size) w1 wr

/-- The answer of l9Exits. -/
def ExitsPostS (w : World) (res : Option (List Pt)) (e : Ending) (w' : World) : Prop :=
  ∃ v1 v2, e = .returned (.tuple #[v1, v2, .bool res.isSome]) ∧ Row w' (fromB w.heap.size) 3 1 v1 (res.getD []).length (begC (res.getD [])) ∧ Row w' (fromB w.heap.size) 9 1 v2 (res.getD []).length (clnC (res.getD [])) ∧ Keeps noB w w'

theorem resEx (W : World) (a b c : Value) (tmps : Array Value) (h2 : tmps.getD 2 undef = a) (h3 : tmps.getD 3 undef = b) (h4 : tmps.getD 4 undef = c) : (results Tryz.f15 tmps).run Tryz.prog W = .ok (.tuple #[a, b, c]) W := by
  have h2' : tmps[2]?.getD undef = a := by simpa using h2
  have h3' : tmps[3]?.getD undef = b := by simpa using h3
  have h4' : tmps[4]?.getD undef = c := by simpa using h4
  simp [results, Tryz.results15, go_sem, h2', h3', h4']

set_option maxRecDepth 100000 in
set_option maxHeartbeats 4000000 in
theorem sex_none (s : ByteArray) (hs : s.size ≤ 1048576) (hp : progP s = none) (w : World) : Calls Tryz.prog 15 #[.string s] w (ExitsPostS w none) := by
  have H := Lib.hid (sread_any s hs ((w.alloc (.cells #[] 3)).alloc (.cells #[] 9)))
  rw [hp] at H
  clear hp
  go_enter Tryz.func15, Tryz.ntmps15
  go_wp2_with fail
  refine H.out.mono ?_
  rintro e w1 ⟨⟨x0, x1, x2, x3, x4, x5, x6, x7, rfl⟩, q1⟩
  have hnv : nodeV x0 x1 x2 x3 x4 x5 x6 x7 = .agg #[.int .u8 x0, .int .i64 x1, .int .i64 x2, .string x3, .slice x4 x5 x6, .string x7] := rfl
  have o1 := World.ownsRow_made w #[] 0 (e := 3) (size := 1) (Nat.zero_le _) (by simp [maxLen]) rfl
  have o2 := World.ownsRow_made (w.alloc (.cells #[] 3)) #[] 0 (e := 9) (size := 1) (Nat.zero_le _) (by simp [maxLen]) rfl
  rw [World.size_alloc] at o2
  have HX := Lib.hid (And.intro (q1.ownsRow (o1.alloc (.cells #[] 9)) (fun _ _ _ e => e)) (And.intro (q1.ownsRow o2 (fun _ _ _ e => e)) (((Keeps.refl noB w).alloc _).alloc _ |>.trans q1)))
  clear q1 o1 o2
  go_wp2_with fail
  refine bodyPost_ret (resEx _ (.slice (some ⟨w.heap.size, 0, none⟩) 0 0) (.slice (some ⟨w.heap.size + 1, 0, none⟩) 0 0) (.bool false) _ rfl rfl rfl) rfl ?_
  refine ⟨_, _, rfl, ⟨HX.out.1.alloc _, ?_⟩, ⟨HX.out.2.1.alloc _, ?_⟩, HX.out.2.2.alloc _⟩
  all_goals
    intro g hg
    simp [Value.ownBlock] at hg
    simp [fromB]
    omega

set_option maxRecDepth 100000 in
set_option maxHeartbeats 4000000 in
theorem sex_some (s : ByteArray) (hs : s.size ≤ 1048576) (x : Nd) (hp : progP s = some x) (w : World) : Calls Tryz.prog 15 #[.string s] w (ExitsPostS w (some (exitsL x))) := by
  obtain ⟨i0, hi, hz0, hz1, hz2⟩ := info_parts Tryz.infoI3
  obtain ⟨i1, hiS, hzS0, hzS1, hzS2⟩ := info_parts Tryz.infoS99
  have HI := Lib.hid (And.intro hi (And.intro hz0 (And.intro hz1 hz2)))
  have HIS := Lib.hid (And.intro hiS (And.intro hzS0 (And.intro hzS1 hzS2)))
  have H := Lib.hid (sread_any s hs ((w.alloc (.cells #[] 3)).alloc (.cells #[] 9)))
  rw [hp] at H
  obtain ⟨_, h2, _, _, _, h6⟩ := progP_ok hp
  have hX := Nd.shC h6 x 0 h2 (progP_sp hp) (progP_fit hp)
  have hfin := h2.good.le
  have HL := Lib.hid (fun w1 ok hok a n m hrep => lfind_any x (progP_sp hp) (by omega) hX w1 ok hok a n m hrep)
  have HF := Lib.hid (progP_few hp)
  have HNZ : Hid (∀ z ∈ x.pre.list, noteI (notesP x) (z.beg : Int) = some (knownJ x z.beg) ∧ StepFit x z) := fun z hz => by
    have h := step_fit hp hz
    refine ⟨?_, h⟩
    unfold noteI; rw [if_pos (by omega)]; exact h.noted
  clear hi hz0 hz1 hz2 hiS hzS0 hzS1 hzS2 hX hfin h2 h6 hp
  go_enter Tryz.func15, Tryz.ntmps15
  go_wp2_with fail
  refine H.out.mono ?_
  rintro e w1 ⟨x0, x1, x2, x3, x4, x5, x6, x7, rfl, hx, q1⟩
  have hnv : nodeV x0 x1 x2 x3 x4 x5 x6 x7 = .agg #[.int .u8 x0, .int .i64 x1, .int .i64 x2, .string x3, .slice x4 x5 x6, .string x7] := rfl
  have HX := Lib.hid hx
  have hL : Hid (∀ w2, Keeps noB w1 w2 → Calls Tryz.prog 28 #[.agg #[.int .u8 x0, .int .i64 x1, .int .i64 x2, .string x3, .slice x4 x5 x6, .string x7]] w2 (fun e w' => ∃ own h l va vs, e = .returned (.pointer (some ⟨h, 0, none⟩)) ∧ HoldAt w' own h l va vs ∧ lookL l = notesP x ∧ (∀ g, own g → w2.heap.size ≤ g) ∧ Keeps noB w2 w')) := fun w2 q2 => by
    obtain ⟨c, b, e', vs, ar, bs⟩ := x
    have hr2 := hx
    simp only [RepS] at hr2
    obtain ⟨vb, n', xs, hcs, _, _⟩ := hr2
    simp [six, u8, i64, str] at hcs
    obtain ⟨rfl, rfl, rfl, rfl, rfl, rfl⟩ := hcs
    have hh : Hands w1 w2 (fromB ((w.alloc (.cells #[] 3)).alloc (.cells #[] 9)).heap.size) (fun i => i < w2.heap.size) := Hands.of_keeps q2 (fun _ _ _ e => e.elim) (fun i _ hl => Nat.lt_of_lt_of_le hl q2.size)
    exact HL.out w2 (fun i => i < w2.heap.size) (fun _ h => h) x4 x5 x6 (hh.repS _ _ hx)
  clear hx
  have hw1 := q1.size
  have hw0 : ((w.alloc (.cells #[] 3)).alloc (.cells #[] 9)).heap.size = w.heap.size + 2 := by simp
  have HE : Hid (∀ W, Keeps noB w1 W → Calls Tryz.prog 29 #[.agg #[.int .u8 x0, .int .i64 x1, .int .i64 x2, .string x3, .slice x4 x5 x6, .string x7]] W (EachPost W (fun g => w.heap.size + 2 ≤ g ∧ g < w1.heap.size) x)) := fun W qW =>
    each_all x.pre.len x _ W (fun g => w.heap.size + 2 ≤ g ∧ g < w1.heap.size) rfl (by have := HF.out; omega)
      ((Hands.of_keeps (ok := fromB ((w.alloc (.cells #[] 3)).alloc (.cells #[] 9)).heap.size) qW (fun g _ _ e => e) (fun g hg hl => ⟨by simpa [fromB, hw0] using hg, hl⟩)).repS x _ HX.out) (fun g hg => by have := hg.2; have := qW.size; omega)
  have HB : Hid (∀ W', Keeps noB (w1.alloc (.cells #[.int .u8 x0, .int .i64 x1, .int .i64 x2, .string x3, .slice x4 x5 x6, .string x7] 52)) W' → Blk W' w1.heap.size #[.int .u8 x0, .int .i64 x1, .int .i64 x2, .string x3, .slice x4 x5 x6, .string x7] 52) := fun W' h => h.blk (Blk.new _ _ _) id
  have HQ1 := Lib.hid q1
  clear q1
  go_wp2_with (go_at_call 28; refine (hL.out _ ((Keeps.refl _ _).alloc _)).mono ?_; rintro e2 wF ⟨own, h, l, va, vs, rfl, hH, hM, hO, q2⟩; have n2 := HB.out _ q2; have r0 := n2.cell 0; have r1 := n2.cell 1; have r2 := n2.cell 2; have r3 := n2.cell 3; have r4 := n2.cell 4; have r5 := n2.cell 5; simp at r0 r1 r2 r3 r4 r5; have HHF := Lib.hid (And.intro hH (And.intro hM hO)); have QF := Lib.hid (((Keeps.refl noB w1).alloc _).trans q2); clear q2 n2 hH hM hO)
  refine (HE.out _ QF.out).mono ?_
  rintro e w2 ⟨v, rfl, hout⟩
  obtain ⟨hp0, cs, hown, hrep, hfrom, q2⟩ := hout
  obtain ⟨g, n, hv, _, hg, hcell⟩ := row_at (ok := fun _ => True) ⟨hown, fun _ _ => trivial⟩ hp0
  subst hv
  have hwF := QF.out.size
  have hwF2 := q2.size
  have hgf : wF.heap.size ≤ g := hfrom g rfl
  have qq : Keeps noB ((w.alloc (.cells #[] 3)).alloc (.cells #[] 9)) w2 := (HQ1.out.trans QF.out).trans q2
  have HH2 : Hid (HoldAt w2 own h l va vs ∧ lookL l = notesP x ∧ ∀ g, own g → ¬ twoM w.heap.size g) := ⟨HHF.out.1.quiet q2, HHF.out.2.1, fun g hg e => by have := HHF.out.2.2 g hg; unfold twoM at e; simp at this; omega⟩
  have HP : Hid (ExAt w w2 (fun i => w.heap.size + 2 ≤ i) x x.pre.list cs (x.pre.len + 1) (.slice (some ⟨w.heap.size, 0, none⟩) 0 0) (.slice (some ⟨w.heap.size + 1, 0, none⟩) 0 0) (.int .i64 0) w2) := by
    have o1 := (World.ownsRow_made w #[] 0 (e := 3) (size := 1) (Nat.zero_le _) (by simp [maxLen]) rfl).alloc (.cells #[] 9)
    have o2 := World.ownsRow_made (w.alloc (.cells #[] 3)) #[] 0 (e := 9) (size := 1) (Nat.zero_le _) (by simp [maxLen]) rfl
    rw [World.size_alloc] at o2
    refine ⟨0, [], x.pre, rfl, rfl, by rw [Nds.list_len]; omega, rfl, ?_, ?_, ?_, ?_, ?_, by have := qq.size; omega, (((Keeps.refl _ w).alloc _).alloc _).trans qq, Keeps.refl _ _⟩
    · exact (Hands.of_keeps (ok := fun g => w.heap.size + 2 ≤ g ∧ g < w1.heap.size) (Keeps.refl noB w2) (fun g _ _ e => e) (fun g hg _ => hg.1)).repSL _ _ (by simpa using hrep)
    · exact qq.ownsRow o1 (fun _ _ _ e => e)
    · exact qq.ownsRow o2 (fun _ _ _ e => e)
    · intro g hg; exact .inl (.inl (by simpa [Value.ownBlock] using hg.symm))
    · intro g hg; exact .inl (.inr (by simpa [Value.ownBlock] using hg.symm))
  have hpl : x.pre.len ≤ 80 := by have := HF.out; omega
  rw [hw0] at hw1
  have HR := Lib.hid (And.intro hcell (And.intro hown hg))
  have HWS := Lib.hid (And.intro hwF (And.intro hwF2 (And.intro hgf hw1)))
  clear hown hrep hfrom q2 hcell qq hw1 hwF hwF2 hgf hw0 hg
  go_upto_region 7 with fail
  go_loopg [5, 6, 30] (x.pre.len + 1) (fun g v5 v6 vi wr => ExAt w w2 (fun i => w.heap.size + 2 ≤ i) x x.pre.list cs g v5 v6 vi wr)
  case atStart => exact HP.out
  case round =>
    clear HP
    obtain ⟨i, pre, y, rfl, hi, hgk, hpre, hy, hrow, hrow6, hfr, hfr6, hww, hq, hq2⟩ := hrel
    cases gk with
    | zero => rw [← hpre] at hgk; simp at hgk; omega
    | succ gk =>
    have hil := congrArg List.length hpre
    rw [List.length_append, Nds.list_len, Nds.list_len, ← hi] at hil
    have hnl := exitsU_len x pre
    obtain ⟨L, hLd⟩ : ∃ L, L = exitsU x pre := ⟨_, rfl⟩
    rw [← hLd] at hrow hrow6 hnl
    obtain ⟨nL, hnL⟩ : ∃ nL, nL = L.length := ⟨_, rfl⟩
    rw [← hnL] at hrow hrow6 hnl
    obtain ⟨a, c, rfl⟩ := row_slice (ok := fun _ => True) ⟨hrow, fun _ _ => trivial⟩
    obtain ⟨a6, c6, rfl⟩ := row_slice (ok := fun _ => True) ⟨hrow6, fun _ _ => trivial⟩
    cases y with
    | nil =>
      simp only [Nds.len] at hil
      have hd : ¬ i < x.pre.len := by omega
      simp only [Nds.list, List.append_nil] at hpre
      have HO := Lib.hid (And.intro hpre (And.intro hrow (And.intro hrow6 (And.intro hfr (And.intro hfr6 (And.intro hq (And.intro hLd hnL)))))))
      clear hpre hrow hrow6 hfr hfr6 hq hq2 hy hLd hnL
      go_wp2_with fail
      refine bodyPost_ret (resEx _ (.slice a nL c) (.slice a6 nL c6) (.bool true) _ rfl rfl rfl) rfl ?_
      obtain ⟨h1, h2, h3, h4, h5, h6, h7, h8⟩ := HO.out
      have e : (some (exitsL x)).getD [] = L := by rw [h7, h1]; rfl
      refine ⟨_, _, rfl, ⟨?_, ?_⟩, ⟨?_, ?_⟩, h6⟩
      · rw [e, ← h8]; exact h2
      · intro v hv; have := h4 v (by simpa using hv); unfold twoM at this; show w.heap.size ≤ v; omega
      · rw [e, ← h8]; exact h3
      · intro v hv; have := h5 v (by simpa using hv); unfold twoM at this; show w.heap.size ≤ v; omega
    | cons z y3 =>
      simp only [Nds.len] at hil
      have hd : i < x.pre.len := by omega
      have hzm : z ∈ x.pre.list := by rw [← hpre]; simp [Nds.list]
      have hcw : ∀ j u, cs[j]? = some u → wr.cell? ⟨g, j, none⟩ = some u := fun j u hu =>
        (hq2.cell (p := ⟨g, j, none⟩) HR.out.2.2 (fun e => by simp [twoM] at e; have := HWS.out; omega)).trans (HR.out.1 j u hu)
      obtain ⟨⟨na, nn, nm, hn⟩, hy3⟩ := node_at hcw hy
      have s0 : wr.cell? ⟨g, i * 6, none⟩ = some (.int .u8 _) := hn.s0
      have s1 : wr.cell? ⟨g, i * 6 + 1, none⟩ = some (.int .i64 _) := hn.s1
      have s2 : wr.cell? ⟨g, i * 6 + 2, none⟩ = some (.int .i64 _) := hn.s2
      have s3 : wr.cell? ⟨g, i * 6 + 3, none⟩ = some (.string _) := hn.s3
      have s4 := hn.s4
      have s5 : wr.cell? ⟨g, i * 6 + 5, none⟩ = some (.string _) := hn.s5
      obtain ⟨kk, hkk⟩ : ∃ kk, knownJ x z.beg = kk := ⟨_, rfl⟩
      obtain ⟨hnt, hfit⟩ := HNZ.out z hzm
      rw [hkk] at hnt
      have HA : Hid (∀ W, Keeps noB wr W → Calls Tryz.prog 30 #[.pointer (some ⟨h, 0, none⟩), .int .i64 (z.beg : Int)] W (fun e w' => e = .returned (.tuple #[.agg #[.string (mayB kk), .string (mustB kk), .bool (liveK kk)], .bool true]) ∧ Keeps noB W w')) := fun W qW => by
        have hh := hat_any (z.beg : Int) l W own h va vs ((HH2.out.1.keeps hq2 (fun k hk e => HH2.out.2.2 k hk e)).quiet qW)
        rw [HH2.out.2.1, hnt] at hh
        exact hh
      have HPLN : Hid (leavesN z = true → ∀ W, Calls Tryz.prog 31 #[.string ⟨z.scope.toArray⟩, .agg #[.string (mayB kk), .string (mustB kk), .bool (liveK kk)]] W (fun e w' => e = .returned (.string ⟨(planZ x z).toArray⟩) ∧ Keeps noB W w')) := fun hlv W => by
        have h1 := hfit.uns
        have h2 := hfit.unsl
        rw [hfit.leave hlv] at h1 h2
        have h3 := splan_any kk z.scope h1 (by omega) W
        rw [stV_eq] at h3
        unfold planZ
        rw [hkk]
        exact h3
      have hsn : exitsU x (pre ++ [z]) = L ++ (if (leavesN z && liveK kk) = true then [(z.beg, planZ x z)] else []) := by
        rw [exitsU_app, exitsU_one, hLd]
        unfold exitOk
        rw [hkk]
      have HB2 : Hid (∀ W', Keeps noB (wr.alloc (.cells #[.int .u8 z.kind.toNat, .int .i64 z.beg, .int .i64 z.fin, .string ⟨z.vars.toArray⟩, .slice na nn nm, .string ⟨z.scope.toArray⟩] 52)) W' → Blk W' wr.heap.size #[.int .u8 z.kind.toNat, .int .i64 z.beg, .int .i64 z.fin, .string ⟨z.vars.toArray⟩, .slice na nn nm, .string ⟨z.scope.toArray⟩] 52) := fun W' h => h.blk (Blk.new _ _ _) id
      have HSN := Lib.hid hsn
      have hn80 : nL ≤ 80 := by omega
      obtain ⟨lv, hlv⟩ : ∃ lv, liveK kk = lv := ⟨_, rfl⟩
      rw [hlv] at HA HSN HPLN
      obtain ⟨PZ, hPZ⟩ : ∃ PZ, planZ x z = PZ := ⟨_, rfl⟩
      rw [hPZ] at HPLN HSN
      obtain ⟨SC, hSC⟩ : ∃ SC : ByteArray, ⟨z.scope.toArray⟩ = SC := ⟨_, rfl⟩
      rw [hSC] at HPLN HB2 s5
      obtain ⟨SV, hSV⟩ : ∃ SV : ByteArray, ⟨z.vars.toArray⟩ = SV := ⟨_, rfl⟩
      rw [hSV] at HB2 s3
      generalize mayB kk = ma at *
      generalize mustB kk = mu at *
      have hap : ∀ g, (Value.slice a nL c).ownBlock = some g → (Value.slice a6 nL c6).ownBlock ≠ some g := fun g hg => rows_apart9 hrow hrow6 (by decide) hg
      have hlt5 : ∀ g, (Value.slice a nL c).ownBlock = some g → g < wr.heap.size := fun g hg => (hrow.lt g hg).2
      have hlt6 : ∀ g, (Value.slice a6 nL c6).ownBlock = some g → g < wr.heap.size := fun g hg => (hrow6.lt g hg).2
      have HAP := Lib.hid (And.intro hap (And.intro hlt5 hlt6))
      have HO := Lib.hid (And.intro hpre (And.intro hrow (And.intro hrow6 (And.intro hfr (And.intro hfr6 (And.intro hq (And.intro hq2 (And.intro hy3 (And.intro hi (And.intro hil hnL))))))))))
      have hkb : ∃ b94 b33 : Bool, ((z.kind.toNat : Int) == 94) = b94 ∧ ((z.kind.toNat : Int) == 33) = b33 ∧ leavesN z = (b94 || b33) := by
        refine ⟨_, _, rfl, rfl, ?_⟩
        unfold leavesN
        have e1 : ((z.kind.toNat : Int) == 94) = (z.kind == 94) := by
          rw [Bool.eq_iff_iff, beq_iff_eq, beq_iff_eq]
          exact ⟨fun e => UInt8.toNat_inj.1 (by have : (94 : UInt8).toNat = 94 := rfl; omega), fun e => by rw [e]; rfl⟩
        have e2 : ((z.kind.toNat : Int) == 33) = (z.kind == 33) := by
          rw [Bool.eq_iff_iff, beq_iff_eq, beq_iff_eq]
          exact ⟨fun e => UInt8.toNat_inj.1 (by have : (33 : UInt8).toNat = 33 := rfl; omega), fun e => by rw [e]; rfl⟩
        rw [e1, e2]
      obtain ⟨b94, b33, h94, h33, hle⟩ := hkb
      rw [hle] at HSN HPLN
      -- a step that is no exit
      have HNO : Hid ((((b94 || b33) && lv) = false) → ∀ W, Keeps noB wr W → ExAt w w2 (fun i => w.heap.size + 2 ≤ i) x x.pre.list cs gk (.slice a nL c) (.slice a6 nL c6) (.int .i64 ((i + 1 : Nat) : Int)) W) := fun hno W qa => by
        obtain ⟨hpre, hrow, hrow6, hfr, hfr6, hq, hq2, hy3, hi, hil, hnL⟩ := HO.out
        have e : exitsU x (pre ++ [z]) = L := by rw [HSN.out, if_neg (by rw [hno]; decide), List.append_nil]
        refine ⟨i + 1, pre ++ [z], y3, rfl, by simp [hi], by omega, by rw [← hpre]; simp [Nds.list], hy3, ?_, ?_, hfr, hfr6, hww, hq.trans qa, hq2.transNew qa (fun i hi e => e.elim)⟩
        · rw [e, ← hnL]; exact qa.ownsRow hrow (fun _ _ _ e => e)
        · rw [e, ← hnL]; exact qa.ownsRow hrow6 (fun _ _ _ e => e)
      clear hpre hrow hrow6 hfr hfr6 hq hq2 hy hcw hn hy3 hil hi hsn hLd hnL hkk hlv hPZ hSC hSV hnt hfit hap hlt5 hlt6 hle
      obtain ⟨hi1, hz0, hz1, hz2⟩ := HI.out
      cases lv with
      | false =>
        have HN := Lib.hid (HNO.out (by simp))
        clear HNO
        go_wp2_with (go_at_call 30; refine (HA.out _ ((Keeps.refl _ _).alloc _)).mono ?_; rintro e4 w4 ⟨rfl, q4⟩; have Q4 := Lib.hid q4; clear q4)
        have HX := Lib.hid (HN.out _ ((((Keeps.refl noB wr).alloc _).trans Q4.out).alloc (.cells #[.string ma, .string mu, .bool false] 60)))
        go_roundg gk
        case measure => omega
        case rel => exact HX.out
      | true =>
        cases hbb : (b94 || b33) with
        | false =>
          have HN := Lib.hid (HNO.out (by rw [hbb]; rfl))
          obtain ⟨rfl, rfl⟩ : b94 = false ∧ b33 = false := by simpa using hbb
          clear HNO hbb
          go_wp2_with (go_at_call 30; refine (HA.out _ ((Keeps.refl _ _).alloc _)).mono ?_; rintro e4 w4 ⟨rfl, q4⟩; have n4 := HB2.out _ q4; have t0 := n4.cell 0; simp at t0; have hlt4 := n4.lt; have hne : ¬ wr.heap.size = w4.heap.size := (by omega); have Q4 := Lib.hid q4; clear q4 n4)
          have HX := Lib.hid (HN.out _ ((((Keeps.refl noB wr).alloc _).trans Q4.out).alloc (.cells #[.string ma, .string mu, .bool true] 60)))
          go_roundg gk
          case measure => omega
          case rel => exact HX.out
        | true =>
          rw [hbb] at HSN HPLN
          have HPL := Lib.hid (HPLN.out rfl)
          have HSN2 : Hid (exitsU x (pre ++ [z]) = L ++ [(z.beg, PZ)]) := Lib.hid (by rw [HSN.out]; rfl)
          clear HNO HPLN HSN
          have hzk : (b94 = true ∨ (b94 = false ∧ b33 = true)) := by cases b94 <;> simp_all
          clear hbb
          rcases hzk with rfl | ⟨rfl, rfl⟩
          all_goals
            go_upto_region 11 with (go_at_call 30; refine (HA.out _ ((Keeps.refl _ _).alloc _)).mono ?_; rintro e4 w4 ⟨rfl, q4⟩; have n4 := HB2.out _ q4; have t0 := n4.cell 0; have t1 := n4.cell 1; have t5 := n4.cell 5; simp at t0 t1 t5; have hlt4 := n4.lt; have hne : ¬ wr.heap.size = w4.heap.size := (by omega); have Q4 := Lib.hid q4; have N4 := Lib.hid n4; clear q4 n4)
            obtain ⟨w5, hw5⟩ : ∃ w5, w5 = w4.alloc (.cells #[.string ma, .string mu, .bool true] 60) := ⟨_, rfl⟩
            have HQ5 : Hid (Keeps noB wr w5 ∧ w5.heap.size = w4.heap.size + 1 ∧ Blk w5 wr.heap.size #[.int .u8 z.kind.toNat, .int .i64 z.beg, .int .i64 z.fin, .string SV, .slice na nn nm, .string SC] 52 ∧ Blk w5 w4.heap.size #[.string ma, .string mu, .bool true] 60) := Lib.hid (by
              rw [hw5]
              exact ⟨(((Keeps.refl noB wr).alloc _).trans Q4.out).alloc _, by simp, N4.out.alloc _, Blk.new _ _ _⟩)
            rw [← hw5]
            have u1 : w5.cell? ⟨wr.heap.size, 1, none⟩ = some (.int .i64 (z.beg : Int)) := (HQ5.out.2.2.1.cell 1).trans rfl
            clear hw5 t0 t1 t5
            go_wp2_with (at_builtin; refine wpList_append_fresh _ rfl _ _ 31 rfl 3 i0 _ 1 8 Tryz.underlying31 hi1 hz0 hz1 hz2 rfl (by decide) (.slice a nL c) nL (begC L) rfl ?own ⟨w5.heap.size, 0, none⟩ 1 1 [i64 z.beg] rfl ?c1 ?c2 ?c3 ?c4 ?c5 ?_)
            case own => exact (HQ5.out.1.ownsRow HO.out.2.1 (fun _ _ _ e => e)).alloc _
            case c1 => rfl
            case c2 => exact cells_one w5 (i64 z.beg) 3
            case c3 => intro u hu; simp at hu; subst hu; rfl
            case c4 => unfold maxLen; omega
            case c5 => omega
            intro v' wA hownA hgrowA hfreshA
            have qA : Keeps (fun g => (Value.slice a nL c).ownBlock = some g) w5 wA := ((Keeps.refl _ w5).alloc _).grown hgrowA (fun g hg => .inl hg)
            obtain ⟨a', c', rfl⟩ := row_slice (ok := fun _ => True) ⟨hownA, fun _ _ => trivial⟩
            have HA1 : Hid (wA.ownsRow 0 3 1 (.slice a' (nL + 1) c') (nL + 1) (begC L ++ [i64 z.beg]) ∧ Keeps (fun g => (Value.slice a nL c).ownBlock = some g) w5 wA ∧ ∀ g, (Value.slice a' (nL + 1) c').ownBlock = some g → (Value.slice a nL c).ownBlock = some g ∨ w5.heap.size ≤ g) := ⟨hownA, qA, fun g hg => by
              rcases hfreshA with h | h
              · exact .inl (h ▸ hg)
              · exact .inr (by have := h g hg; simp at this; omega)⟩
            clear hownA qA hgrowA hfreshA
            have nw : ¬ (Value.slice a nL c).ownBlock = some wr.heap.size := fun e => by have := HAP.out.2.1 _ e; omega
            have n4' : ¬ (Value.slice a nL c).ownBlock = some w4.heap.size := fun e => by have := HAP.out.2.1 _ e; omega
            have HBK : Hid (Blk wA wr.heap.size #[.int .u8 z.kind.toNat, .int .i64 z.beg, .int .i64 z.fin, .string SV, .slice na nn nm, .string SC] 52 ∧ Blk wA w4.heap.size #[.string ma, .string mu, .bool true] 60) := Lib.hid ⟨HA1.out.2.1.blk HQ5.out.2.2.1 nw, HA1.out.2.1.blk HQ5.out.2.2.2 n4'⟩
            have u5 : wA.cell? ⟨wr.heap.size, 5, none⟩ = some (.string SC) := (HBK.out.1.cell 5).trans rfl
            have r0 : wA.cell? ⟨w4.heap.size, 0, none⟩ = some (.string ma) := (HBK.out.2.cell 0).trans rfl
            have r1 : wA.cell? ⟨w4.heap.size, 1, none⟩ = some (.string mu) := (HBK.out.2.cell 1).trans rfl
            have r2 : wA.cell? ⟨w4.heap.size, 2, none⟩ = some (.bool true) := (HBK.out.2.cell 2).trans rfl
            clear u1 nw n4'
            obtain ⟨hiS1, hyS0, hyS1, hyS2⟩ := HIS.out
            obtain ⟨PB, hPB⟩ : ∃ PB : ByteArray, ⟨PZ.toArray⟩ = PB := ⟨_, rfl⟩
            rw [hPB] at HPL
            have HPB := Lib.hid hPB
            clear hPB
            go_wp2_with (first
              | (go_at_call 31; refine (HPL.out _).mono ?_; rintro e6 w6 ⟨rfl, q6⟩; have Q6 := Lib.hid q6; clear q6)
              | (at_builtin; refine wpList_append_fresh _ rfl _ _ 22 rfl 9 i1 _ 1 16 Tryz.underlying22 hiS1 hyS0 hyS1 hyS2 rfl (by decide) (.slice a6 nL c6) nL (clnC L) rfl ?own ⟨w6.heap.size, 0, none⟩ 1 1 [.string PB] rfl ?c1 ?c2 ?c3 ?c4 ?c5 ?_))
            case own => exact (Q6.out.ownsRow (HA1.out.2.1.ownsRow (HQ5.out.1.ownsRow HO.out.2.2.1 (fun _ _ _ e => e)) (fun g hg _ e => HAP.out.1 g e hg)) (fun _ _ _ e => e)).alloc _
            case c1 => rfl
            case c2 => exact cells_one w6 (.string PB) 9
            case c3 => intro u hu; simp at hu; subst hu; rfl
            case c4 => unfold maxLen; omega
            case c5 => omega
            intro v6' wB hownB hgrowB hfreshB
            have qB : Keeps (fun g => (Value.slice a6 nL c6).ownBlock = some g) w6 wB := ((Keeps.refl _ w6).alloc _).grown hgrowB (fun g hg => .inl hg)
            obtain ⟨a6', c6', rfl⟩ := row_slice (ok := fun _ => True) ⟨hownB, fun _ _ => trivial⟩
            have hnew : ExAt w w2 (fun i => w.heap.size + 2 ≤ i) x x.pre.list cs gk (.slice a' (nL + 1) c') (.slice a6' (nL + 1) c6') (.int .i64 ((i + 1 : Nat) : Int)) wB := by
              obtain ⟨hpre, hrow, hrow6, hfr, hfr6, hq, hq2, hy3, hi, hil, hnL⟩ := HO.out
              obtain ⟨hownA, qA, hdA⟩ := HA1.out
              have q5 := HQ5.out.1
              have hs5 := q5.size
              have hsA := qA.size
              have hs6 := Q6.out.size
              have hqs := hq.size
              have hqs2 := hq2.size
              have hd56 : ∀ g, (Value.slice a' (nL + 1) c').ownBlock = some g → (Value.slice a6 nL c6).ownBlock ≠ some g := fun g hg e => by
                rcases hdA g hg with h | h
                · exact HAP.out.1 g h e
                · have := HAP.out.2.2 g e; omega
              have hdB : ∀ g, (Value.slice a6' (nL + 1) c6').ownBlock = some g → (Value.slice a6 nL c6).ownBlock = some g ∨ w6.heap.size ≤ g := fun g hg => by
                rcases hfreshB with h | h
                · exact .inl (h ▸ hg)
                · exact .inr (by have := h g hg; simp at this; omega)
              refine ⟨i + 1, pre ++ [z], y3, rfl, by simp [hi], by omega, by rw [← hpre]; simp [Nds.list], hy3, ?_, ?_, ?_, ?_, hww, ?_, ?_⟩
              · rw [HSN2.out, List.length_append, begC_snoc, ← hnL]
                exact qB.ownsRow (Q6.out.ownsRow hownA (fun _ _ _ e => e)) (fun g hg _ e => hd56 g hg e)
              · rw [HSN2.out, List.length_append, clnC_snoc, ← hnL, HPB.out]
                exact hownB
              · intro g hg
                rcases hdA g hg with h | h
                · exact hfr g h
                · exact .inr (by omega)
              · intro g hg
                rcases hdB g hg with h | h
                · exact hfr6 g h
                · exact .inr (by omega)
              · exact (((hq.trans q5).transNew qA (fun i hi e => by have h := hfr i e; unfold twoM at h; omega)).trans Q6.out).transNew qB (fun i hi e => by have h := hfr6 i e; unfold twoM at h; omega)
              · exact (((hq2.transNew q5 (fun i hi e => e.elim)).transNew qA (fun i hi e => (hfr i e).elim id (fun h => by omega))).transNew Q6.out (fun i hi e => e.elim)).transNew qB (fun i hi e => (hfr6 i e).elim id (fun h => by omega))
            have HN := Lib.hid hnew
            clear hownB hgrowB hfreshB qB hnew
            go_wp2_with fail
            go_roundg gk
            case measure => omega
            case rel => exact HN.out

theorem sexits_any (s : ByteArray) (hs : s.size ≤ 1048576) (w : World) : Calls Tryz.prog 15 #[.string s] w (ExitsPostS w (exitsP s)) := by
  unfold exitsP
  cases hp : progP s with
  | none => exact sex_none s hs hp w
  | some x => exact sex_some s hs x hp w

end Go.Proofs.YtkfcgamdlckncaaGreat
