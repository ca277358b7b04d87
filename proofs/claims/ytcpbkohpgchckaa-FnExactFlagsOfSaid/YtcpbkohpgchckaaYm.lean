/-
  The model's FlagsOf.
-/
import Derived.Test.YtcpbkohpgchckaaYl
import Derived.Test.YtcpbkohpgchckaaVsb
import Derived.Deep.QuietTactic
import Derived.BigQuiet
namespace Go.Proofs.Ytcpbkohpgchckaa
set_option linter.unusedVariables false
set_option linter.unusedSimpArgs false
open Go.RowKit

/-- The answer of FlagsOf. -/
def FlagsPost (o : Option (List UInt8)) (w : World) (e : Ending) (w' : World) : Prop :=
  (match o with
   | none => e = .returned (.tuple #[.string ⟨#[]⟩, .bool false])
   | some l => e = .returned (.tuple #[str l, .bool true])) ∧ Keeps noB w w'

theorem resSFlags (W : World) (v b : Value) (tmps : Array Value) (h2 : tmps.getD 2 undef = v) (h3 : tmps.getD 3 undef = b) : (results Try.f28 tmps).run Try.prog W = .ok (.tuple #[v, b]) W := by
  have h2' : tmps[2]?.getD undef = v := by simpa using h2
  have h3' : tmps[3]?.getD undef = b := by simpa using h3
  simp [results, Try.results28, go_sem, h2', h3']

theorem fit_tilde {z : Nd} (h : z.Fit) (hk : z.kind = 126) : ∃ v, z.vars = [v] := by
  obtain ⟨c, b, e, vs, ar, bs⟩ := z
  have hk : c = 126 := hk
  subst hk
  match bs, h with
  | .nil, h =>
    simp only [Nd.Fit] at h
    rcases h with ⟨_, v, hv, _⟩ | ⟨h, _⟩ | ⟨h, _⟩
    · exact ⟨v, hv⟩
    · exact absurd h (by decide)
    · exact absurd h (by decide)
  | .cons x .nil, h =>
    simp only [Nd.Fit] at h
    rcases h.1 with ⟨h, _⟩ | h
    · exact absurd h (by decide)
    · exact absurd h (by decide)
  | .cons x (.cons y .nil), h =>
    simp only [Nd.Fit] at h
    exact absurd h.1 (by decide)
  | .cons x (.cons y (.cons u r)), h => exact absurd h (by simp [Nd.Fit])

set_option maxRecDepth 100000 in
set_option maxHeartbeats 4000000 in
theorem sflags_none (s : ByteArray) (hs : s.size ≤ 1048576) (hp : progP s = none) (w : World) : Calls Try.prog 28 #[.string s] w (FlagsPost none w) := by
  have H := Lib.hid (sread_any s hs w)
  rw [hp] at H
  clear hp
  go_enter Try.func28, Try.ntmps28
  go_wp2_with fail
  refine H.out.mono ?_
  rintro e w1 ⟨⟨x0, x1, x2, x3, x4, x5, x6, x7, rfl⟩, q1⟩
  have hnv : nodeV x0 x1 x2 x3 x4 x5 x6 x7 = .agg #[.int .u8 x0, .int .i64 x1, .int .i64 x2, .string x3, .slice x4 x5 x6, .string x7] := rfl
  go_wp2_with fail
  exact bodyPost_ret (resSFlags _ _ _ _ rfl rfl) rfl ⟨rfl, q1.alloc _⟩

/-- What the loops over the plans hold. -/
def FlO (w2 : World) (x : Nd) (vo vi : Value) (wr : World) : Prop :=
  ∃ (done todo : List Pt) (o : ByteArray), x.pts = done ++ todo ∧ vi = .int .i64 done.length ∧ vo = .string o ∧ o.data.toList = plansFl x done ∧ wr = w2
def FlI (w2 : World) (ps : List (Bool × UInt8)) (O : List UInt8) (vo vi : Value) (wr : World) : Prop :=
  ∃ (d r : List (Bool × UInt8)) (i : Nat) (o : ByteArray), ps = d ++ r ∧ i = 2 * d.length ∧ vi = .int .i64 (i : Int) ∧ vo = .string o ∧ o.data.toList = O ++ tildes d ∧ wr = w2
/-- What the loop over the steps holds. -/
def FlS (w w2 : World) (x : Nd) (ok : Nat → Prop) (cs : List Value) (g : Nat) (vo vi : Value) (wr : World) : Prop :=
  ∃ (i : Nat) (pre : List Nd) (y : Nds) (o : ByteArray), vi = .int .i64 i ∧ i = pre.length ∧ x.pre.list.length < i + g ∧ pre ++ y.list = x.pre.list ∧ RepSL w2 ok y (cs.drop (i * 6)) ∧
    vo = .string o ∧ o.data.toList = plansFl x x.pts ++ pre.flatMap (stepFl x) ∧ Keeps noB w wr ∧ Keeps noB w2 wr

theorem tildes_len (ps : List (Bool × UInt8)) : (tildes ps).length ≤ ps.length := by
  unfold tildes; rw [List.length_map]; exact List.length_filter_le _ _
theorem stepFl_len (x m : Nd) (hf : m.Fit) (hs : m.Sp) : (stepFl x m).length ≤ 1 := by
  by_cases hk : m.kind = 126
  · obtain ⟨v, hv⟩ := fit_tilde hf hk
    rw [stepFl_one x m v (vars_ltr hs hf v (by rw [hv]; simp)) hk hv]
    split <;> simp
  · rw [stepFl_other x m hk]; simp

set_option maxRecDepth 100000 in
set_option maxHeartbeats 4000000 in
theorem sflags_some (s : ByteArray) (hs : s.size ≤ 1048576) (x : Nd) (hp : progP s = some x) (w : World) : Calls Try.prog 28 #[.string s] w (FlagsPost (some (sortedOf (flagsL x))) w) := by
  have H := Lib.hid (sread_any s hs w)
  rw [hp] at H
  have HE5 := Lib.hid (fun W => seach5_some s hs x hp W)
  have HF := Lib.hid (pts_few hp)
  have HFW := Lib.hid (progP_few hp)
  obtain ⟨_, h2, _, _, _, h6⟩ := progP_ok hp
  have hX := Nd.shC h6 x 0 h2 (progP_sp hp) (progP_fit hp)
  have hfin := h2.good.le
  have HL := Lib.hid (fun w1 ok hok a n m hrep => lfind_any x (progP_sp hp) (by omega) hX w1 ok hok a n m hrep)
  have HPR : Hid (∀ p ∈ x.pts, ∃ ps : List (Bool × UInt8), planK (knownJ x p.1) p.2 = ps.flatMap pairB ∧ (∀ q ∈ ps, ltr q.2) ∧ ps.length ≤ 80) := fun p hm => by
    obtain ⟨h1, h2, _⟩ := progP_pts hp p hm
    obtain ⟨ps, g1, g2, g3⟩ := pairs_plan (knownJ x p.1) p.2 h1
    exact ⟨ps, g1, g2, by omega⟩
  have HNZ : Hid (∀ z ∈ x.pre.list, noteI (notesP x) (z.beg : Int) = some (knownJ x z.beg) ∧ z.Sp ∧ z.Fit) := fun z hz => by
    have hm : (z.beg, unsaidN z) ∈ x.pts := (Nd.pts_own x _).2 ⟨z, hz, by unfold ownPts; simp⟩
    refine ⟨by rw [noteI_nat]; exact (pts_P hp hm).1, ?_⟩
    exact pre_fs _ x rfl (progP_sp hp) (progP_fit hp) z hz
  have HLE : Hid (∀ pre post, x.pts = pre ++ post → (plansFl x pre).length ≤ 80 * 81) := fun pre post h => by
    have h81 : pre.length ≤ 81 := by have := congrArg List.length h; rw [List.length_append] at this; have := HF.out; omega
    have hm : ∀ p ∈ pre, (tilB (planK (knownJ x p.1) p.2)).length ≤ 80 := fun p hp' => by
      obtain ⟨ps, g1, g2, g3⟩ := HPR.out p (by rw [h]; simp [hp'])
      rw [g1, tilB_pairs]; have := tildes_len ps; omega
    have hgen : ∀ l : List Pt, (∀ p ∈ l, (tilB (planK (knownJ x p.1) p.2)).length ≤ 80) → (plansFl x l).length ≤ 80 * l.length := by
      intro l
      induction l with
      | nil => intro _; simp [plansFl]
      | cons p r ih =>
        intro hh
        have h1 := ih (fun q hq => hh q (by simp [hq]))
        have h2 := hh p (by simp)
        have e : plansFl x (p :: r) = tilB (planK (knownJ x p.1) p.2) ++ plansFl x r := by unfold plansFl; rw [List.flatMap_cons]
        rw [e, List.length_append, List.length_cons]; omega
    have := hgen pre hm
    omega
  have HSL : Hid (∀ pre post : List Nd, pre ++ post = x.pre.list → (plansFl x x.pts ++ pre.flatMap (stepFl x)).length ≤ 7000) := fun pre post h => by
    have h1 := HLE.out x.pts [] (by simp)
    have hgen : ∀ l : List Nd, (∀ z ∈ l, (stepFl x z).length ≤ 1) → (l.flatMap (stepFl x)).length ≤ l.length := by
      intro l
      induction l with
      | nil => intro _; simp
      | cons p r ih =>
        intro hh
        have h1 := ih (fun q hq => hh q (by simp [hq]))
        have h2 := hh p (by simp)
        rw [List.flatMap_cons, List.length_append, List.length_cons]; omega
    have h2 := hgen pre (fun z hz => stepFl_len x z (HNZ.out z (by rw [← h]; simp [hz])).2.2 (HNZ.out z (by rw [← h]; simp [hz])).2.1)
    have h3 := congrArg List.length h
    rw [List.length_append, Nds.list_len] at h3
    have h4 := HFW.out
    rw [List.length_append]
    omega
  have hpos : 0 < x.pts.length := by rw [Nd.pts_eq]; simp
  clear hX hfin h2 h6 hp
  go_enter Try.func28, Try.ntmps28
  go_wp2_with fail
  refine H.out.mono ?_
  rintro e w1 ⟨x0, x1, x2, x3, x4, x5, x6, x7, rfl, hx, q1⟩
  have hnv : nodeV x0 x1 x2 x3 x4 x5 x6 x7 = .agg #[.int .u8 x0, .int .i64 x1, .int .i64 x2, .string x3, .slice x4 x5 x6, .string x7] := rfl
  have HX := Lib.hid hx
  have hL : Hid (∀ w2, Keeps noB w1 w2 → Calls Try.prog 57 #[.agg #[.int .u8 x0, .int .i64 x1, .int .i64 x2, .string x3, .slice x4 x5 x6, .string x7]] w2 (fun e w' => ∃ own h l va vs, e = .returned (.pointer (some ⟨h, 0, none⟩)) ∧ HoldAt w' own h l va vs ∧ lookL l = notesP x ∧ (∀ g, own g → w2.heap.size ≤ g) ∧ Keeps noB w2 w')) := fun w2 q2 => by
    obtain ⟨c, b, e', vs, ar, bs⟩ := x
    have hr2 := hx
    simp only [RepS] at hr2
    obtain ⟨vb, n', xs, hcs, _, _⟩ := hr2
    simp [six, u8, i64, str] at hcs
    obtain ⟨rfl, rfl, rfl, rfl, rfl, rfl⟩ := hcs
    have hh : Hands w1 w2 (fromB w.heap.size) (fun i => i < w2.heap.size) := Hands.of_keeps q2 (fun _ _ _ e => e.elim) (fun i _ hl => Nat.lt_of_lt_of_le hl q2.size)
    exact HL.out w2 (fun i => i < w2.heap.size) (fun _ h => h) x4 x5 x6 (hh.repS _ _ hx)
  clear hx
  have HEC : Hid (∀ W, Keeps noB w1 W → Calls Try.prog 45 #[.agg #[.int .u8 x0, .int .i64 x1, .int .i64 x2, .string x3, .slice x4 x5 x6, .string x7]] W (EachPost W (fun g => w.heap.size ≤ g ∧ g < w1.heap.size) x)) := fun W qW =>
    each_all x.pre.len x _ W (fun g => w.heap.size ≤ g ∧ g < w1.heap.size) rfl (by have := HFW.out; omega)
      ((Hands.of_keeps (ok := fromB w.heap.size) qW (fun g _ _ e => e) (fun g hg hl => ⟨by simpa [fromB] using hg, hl⟩)).repS x _ HX.out) (fun g hg => by have := hg.2; have := qW.size; omega)
  have HB : Hid (∀ W', Keeps noB (w1.alloc (.cells #[.int .u8 x0, .int .i64 x1, .int .i64 x2, .string x3, .slice x4 x5 x6, .string x7] 55)) W' → Blk W' w1.heap.size #[.int .u8 x0, .int .i64 x1, .int .i64 x2, .string x3, .slice x4 x5 x6, .string x7] 55) := fun W' h => h.blk (Blk.new _ _ _) id
  have HQ1 := Lib.hid q1
  clear q1
  go_wp2_with fail
  refine (HE5.out _).mono ?_
  rintro e w2 ⟨v1, v2, v3, n, c1, c2, c3, rfl, hr1, hr2, hr3, q2, hn, hc1, hc2, hc3⟩
  obtain ⟨a1, k1, rfl⟩ := row_shape hr1
  obtain ⟨g2, k2, rfl, hb2, hg2, hcell2⟩ := row_get hr2 (by omega)
  obtain ⟨a3, k3, rfl⟩ := row_shape hr3
  have HW : Hid (Keeps noB w w2 ∧ n = x.pts.length ∧ (∀ j u, (plC x x.pts)[j]? = some u → w2.cell? ⟨g2, j, none⟩ = some u) ∧ Keeps noB w1 w2) := ⟨(HQ1.out.alloc _).trans q2, hn, by rw [← hc2]; exact hcell2, ((Keeps.refl noB w1).alloc _).trans q2⟩
  have nB := HB.out w2 q2
  have hn81 : n ≤ 81 := by have := HF.out; omega
  clear hr1 hr2 hr3 q2 hn hc1 hc2 hc3 hcell2 hg2 hb2
  go_upto_region 7 with fail
  go_loopw [4, 33] (fun vo vi wr => FlO w2 x vo vi wr) (fun _ vi _ => n - (intOf vi).toNat)
  case atStart => exact ⟨[], x.pts, ⟨#[]⟩, rfl, rfl, rfl, rfl, rfl⟩
  case round =>
    obtain ⟨done, todo, o, hpt, rfl, rfl, ho, hwr⟩ := hrel
    subst hwr
    have hpl := congrArg List.length hpt
    rw [List.length_append, ← HW.out.2.1] at hpl
    have hol : o.size ≤ 6480 := by
      have e : o.size = (plansFl x done).length := by rw [← ho]; simp
      rw [e]; exact HLE.out done todo hpt
    cases todo with
    | nil =>
      have hd : ¬ done.length < n := by simp at hpl; omega
      rw [List.append_nil] at hpt
      rw [← hpt] at ho
      have HB3 : Hid (∀ W', Keeps noB wr W' → Blk W' w1.heap.size #[.int .u8 x0, .int .i64 x1, .int .i64 x2, .string x3, .slice x4 x5 x6, .string x7] 55) := fun W' h => h.blk nB id
      have r0 := nB.cell 0; have r1 := nB.cell 1; have r2 := nB.cell 2; have r3 := nB.cell 3; have r4 := nB.cell 4; have r5 := nB.cell 5
      simp at r0 r1 r2 r3 r4 r5
      clear nB hpt hpl
      have HOO := Lib.hid ho
      clear ho
      go_wp2_with (go_at_call 57; refine (hL.out _ HW.out.2.2.2).mono ?_; rintro e2 wF ⟨own, h, l, va, vs, rfl, hH, hM, hO, q2⟩; have n2 := HB3.out _ q2; have t0 := n2.cell 0; have t1 := n2.cell 1; have t2 := n2.cell 2; have t3 := n2.cell 3; have t4 := n2.cell 4; have t5 := n2.cell 5; simp at t0 t1 t2 t3 t4 t5; have HHF := Lib.hid (And.intro hH (And.intro hM hO)); have QF := Lib.hid q2; clear q2 n2 hH hM hO)
      refine (HEC.out _ (HW.out.2.2.2.trans QF.out)).mono ?_
      rintro e w3 ⟨v, rfl, hout⟩
      obtain ⟨hp0, cs, hown, hrep, hfrom, q3⟩ := hout
      obtain ⟨g, n', hv, _, hg, hcell⟩ := row_at (ok := fun _ => True) ⟨hown, fun _ _ => trivial⟩ hp0
      subst hv
      have HH2 : Hid (HoldAt w3 own h l va vs ∧ lookL l = notesP x) := ⟨HHF.out.1.quiet q3, HHF.out.2.1⟩
      have qq : Keeps noB w w3 := (HW.out.1.trans QF.out).trans q3
      have HP : Hid (FlS w w3 x (fun i => w.heap.size ≤ i) cs (x.pre.len + 1) (.string o) (.int .i64 0) w3) := by
        refine ⟨0, [], x.pre, o, rfl, rfl, by rw [Nds.list_len]; omega, rfl, ?_, rfl, by rw [HOO.out]; simp, qq, Keeps.refl _ _⟩
        exact (Hands.of_keeps (ok := fun g => w.heap.size ≤ g ∧ g < w1.heap.size) (Keeps.refl noB w3) (fun g _ _ e => e) (fun g hg _ => hg.1)).repSL _ _ (by simpa using hrep)
      have hpl80 : x.pre.len ≤ 80 := by have := HFW.out; omega
      have HR := Lib.hid (And.intro hcell hg)
      clear hown hrep hfrom q3 hcell qq hg hol
      go_upto_region 17 with fail
      go_loopg [4, 61] (x.pre.len + 1) (fun g vo vi wr => FlS w w3 x (fun i => w.heap.size ≤ i) cs g vo vi wr)
      case atStart => exact HP.out
      case round =>
        clear HP HOO
        obtain ⟨i, pre, y, o, rfl, hi, hgk, hpre, hy, rfl, ho, hq, hq2⟩ := hrel
        cases gk with
        | zero => rw [← hpre] at hgk; simp at hgk; omega
        | succ gk =>
        have hil := congrArg List.length hpre
        rw [List.length_append, Nds.list_len, Nds.list_len, ← hi] at hil
        have hol : o.size ≤ 7000 := by
          have e : o.size = (plansFl x x.pts ++ pre.flatMap (stepFl x)).length := by rw [← ho]; simp
          rw [e]; exact HSL.out pre y.list hpre
        cases y with
        | nil =>
          simp only [Nds.len] at hil
          have hd : ¬ i < x.pre.len := by omega
          simp only [Nds.list, List.append_nil] at hpre
          have hoe : sortedOf o.data.toList = sortedOf (flagsL x) := by rw [ho, hpre]; rfl
          have HSO : Hid (∀ W, Calls Try.prog 48 #[.string o] W (fun e w' => e = .returned (str (sortedOf (flagsL x))) ∧ Keeps noB W w')) := fun W => by
            have h5 := sorted_any o (by omega) W
            rwa [hoe] at h5
          have HQQ := Lib.hid hq
          clear hpre ho hoe hq hq2 hy
          go_wp2_with (go_at_call 48; refine (HSO.out _).mono ?_; rintro e5 w5 ⟨rfl, q5⟩; have Q5 := Lib.hid q5; clear q5)
          exact bodyPost_ret (resSFlags _ _ _ _ rfl rfl) rfl ⟨rfl, HQQ.out.trans Q5.out⟩
        | cons z y3 =>
          simp only [Nds.len] at hil
          have hd : i < x.pre.len := by omega
          have hzm : z ∈ x.pre.list := by rw [← hpre]; simp [Nds.list]
          have hcw : ∀ j u, cs[j]? = some u → wr.cell? ⟨g, j, none⟩ = some u := fun j u hu =>
            (hq2.cell (p := ⟨g, j, none⟩) HR.out.2 (fun e => e.elim)).trans (HR.out.1 j u hu)
          obtain ⟨⟨na, nn, nm, hn⟩, hy3⟩ := node_at hcw hy
          have s0 : wr.cell? ⟨g, i * 6, none⟩ = some (.int .u8 _) := hn.s0
          have s1 : wr.cell? ⟨g, i * 6 + 1, none⟩ = some (.int .i64 _) := hn.s1
          have s2 : wr.cell? ⟨g, i * 6 + 2, none⟩ = some (.int .i64 _) := hn.s2
          have s3 : wr.cell? ⟨g, i * 6 + 3, none⟩ = some (.string _) := hn.s3
          have s4 := hn.s4
          have s5 : wr.cell? ⟨g, i * 6 + 5, none⟩ = some (.string _) := hn.s5
          obtain ⟨hz1, hz2, hz3⟩ := HNZ.out z hzm
          obtain ⟨k, hk⟩ : ∃ k, k = knownJ x z.beg := ⟨_, rfl⟩
          rw [← hk] at hz1
          have HA : Hid (∀ W, Keeps noB wr W → Calls Try.prog 58 #[.pointer (some ⟨h, 0, none⟩), .int .i64 (z.beg : Int)] W (fun e w' => e = .returned (.tuple #[.agg #[.string (mayB k), .string (mustB k), .bool (liveK k)], .bool true]) ∧ Keeps noB W w')) := fun W qW => by
            have hh := hat_any (z.beg : Int) l W own h va vs ((HH2.out.1.quiet hq2).quiet qW)
            rw [HH2.out.2, hz1] at hh
            exact hh
          have HB2 : Hid (∀ W', Keeps noB (wr.alloc (.cells #[.int .u8 z.kind.toNat, .int .i64 z.beg, .int .i64 z.fin, .string ⟨z.vars.toArray⟩, .slice na nn nm, .string ⟨z.scope.toArray⟩] 55)) W' → Blk W' wr.heap.size #[.int .u8 z.kind.toNat, .int .i64 z.beg, .int .i64 z.fin, .string ⟨z.vars.toArray⟩, .slice na nn nm, .string ⟨z.scope.toArray⟩] 55) := fun W' h => h.blk (Blk.new _ _ _) id
          have HN : Hid (∀ (o' : ByteArray) W, o'.data.toList = o.data.toList ++ stepFl x z → Keeps noB wr W → FlS w w3 x (fun i => w.heap.size ≤ i) cs gk (.string o') (.int .i64 ((i + 1 : Nat) : Int)) W) := fun o' W ho' qW =>
            ⟨i + 1, pre ++ [z], y3, o', rfl, by simp [hi], by omega, by rw [← hpre]; simp [Nds.list], hy3, rfl, by rw [ho', ho]; simp, hq.trans qW, hq2.trans qW⟩
          have hi80 : i ≤ 80 := by omega
          have HZ := Lib.hid (And.intro hz2 (And.intro hz3 hk))
          clear hpre ho hq hq2 hy hcw hn hy3 hi hil hgk hz1 hz2 hz3 hk hzm
          go_upto_region 20 with (go_at_call 58; refine (HA.out _ ((Keeps.refl _ _).alloc _)).mono ?_; rintro e4 w4 ⟨rfl, q4⟩; have n4 := HB2.out _ q4; have t1 := n4.cell 1; simp at t1; have hlt4 := n4.lt; have hne : ¬ wr.heap.size = w4.heap.size := (by omega); have N4 := Lib.hid n4; have Q4 := Lib.hid q4; clear q4 n4)
          have B5 := N4.out.alloc (.cells #[.string (mayB k), .string (mustB k), .bool (liveK k)] 84)
          have S5 := Blk.new w4 #[.string (mayB k), .string (mustB k), .bool (liveK k)] 84
          have HK5 : Hid (Keeps noB wr (w4.alloc (.cells #[.string (mayB k), .string (mustB k), .bool (liveK k)] 84))) := (((Keeps.refl noB wr).alloc _).trans Q4.out).alloc _
          have u0 := B5.cell 0
          have u3 := B5.cell 3
          have u10 := S5.cell 0
          have u11' := S5.cell 1
          simp only [List.size_toArray, List.length_cons, List.length_nil, List.getElem?_toArray, List.getElem?_cons_zero, List.getElem?_cons_succ, Nat.zero_add, Nat.reduceAdd, Nat.reduceLT, forall_const] at u0 u3 u10 u11'
          clear B5 S5 t1 hlt4 hne N4 Q4
          generalize w4.alloc (.cells #[.string (mayB k), .string (mustB k), .bool (liveK k)] 84) = W5 at *
          obtain ⟨vb, hvb⟩ : ∃ vb : ByteArray, vb = ⟨z.vars.toArray⟩ := ⟨_, rfl⟩
          rw [← hvb] at u3
          by_cases hkd : z.kind = 126
          · have hb1 : ((z.kind.toNat : Int) == 126) = true := by rw [hkd]; rfl
            obtain ⟨v, hv⟩ := fit_tilde HZ.out.2.1 hkd
            have hlv := vars_ltr HZ.out.1 HZ.out.2.1 v (by rw [hv]; simp)
            have hst : stepFl x z = if v ∈ mustL k then [] else if v ∈ mayL k then [v] else [] := by
              unfold stepFl
              rw [if_pos hkd, hv, ← HZ.out.2.2, ← planM_eq k [v] (by simpa using hlv)]
              show tilB (partM k v ++ []) = _
              unfold partM
              split
              · simp [tilB]
              · split <;> simp [tilB]
            rw [hv] at hvb
            have hvz : 0 < vb.size := by rw [hvb, size_arr]; simp
            have hvz1 : vb.size = 1 := by rw [hvb, size_arr]; simp
            have hvz2 : (0 : Int) < (vb.size : Int) := by omega
            have hv0 : vb[0] = v := by subst hvb; rfl
            have hvd : vb.data.toList = [v] := by rw [hvb]
            obtain ⟨MU, hMU⟩ : ∃ MU, mustB k = MU := ⟨_, rfl⟩
            obtain ⟨MA, hMA⟩ : ∃ MA, mayB k = MA := ⟨_, rfl⟩
            obtain ⟨F1, hF1⟩ : ∃ F1, findI MA vb[0] = F1 := ⟨_, rfl⟩
            obtain ⟨F2, hF2⟩ : ∃ F2, findI MU vb[0] = F2 := ⟨_, rfl⟩
            have HF1 : Hid (∀ w, Calls Try.prog 52 #[.string MA, .int .u8 (vb[0].toNat : Int)] w (fun e w' => e = .returned (.int .i64 F1) ∧ w' = w)) := by
              rw [← hF1, ← hMA]; exact fun w => find_any (mayB k) _ w (by unfold mayB; rw [size_arr]; have := mayL_len k; omega)
            have HF2 : Hid (∀ w, Calls Try.prog 52 #[.string MU, .int .u8 (vb[0].toNat : Int)] w (fun e w' => e = .returned (.int .i64 F2) ∧ w' = w)) := by
              rw [← hF2, ← hMU]; exact fun w => find_any (mustB k) _ w (by unfold mustB; rw [size_arr]; have := mustL_len k; omega)
            have HXM : Hid ((v ∈ mustL k → 0 ≤ F2) ∧ (¬ v ∈ mustL k → F2 = -1) ∧ (v ∈ mayL k → 0 ≤ F1) ∧ (¬ v ∈ mayL k → F1 = -1)) := by
              have e1 : (mustB k).data.toList = mustL k := by unfold mustB; rw [List.toList_toArray]
              have e2 : (mayB k).data.toList = mayL k := by unfold mayB; rw [List.toList_toArray]
              rw [← hF1, ← hF2, ← hMU, ← hMA, hv0]
              exact ⟨fun h => findI_mem (by rw [e1]; exact h), fun h => findI_not (by rw [e1]; exact h), fun h => findI_mem (by rw [e2]; exact h), fun h => findI_not (by rw [e2]; exact h)⟩
            rw [hMU] at u11'
            rw [hMA] at u10
            clear hF1 hF2 hMU hMA hv hvb hv0
            by_cases h2 : v ∈ mayL k
            · have hf1 := HXM.out.2.2.1 h2
              have hd1 : decide ((0 : Int) ≤ F1) = true := by simpa using hf1
              by_cases h1 : v ∈ mustL k
              · have hf2 := HXM.out.1 h1
                have hd2 : decide (F2 < (0 : Int)) = false := by simpa using hf2
                rw [if_pos h1] at hst
                have HE : Hid (∀ nq, FlS w w3 x (fun i => w.heap.size ≤ i) cs gk (.string o) (.int .i64 ((i + 1 : Nat) : Int)) (W5.drewN nq)) := fun nq => HN.out o _ (by rw [hst, List.append_nil]) (HK5.out.drawnN nq)
                clear hst h1 h2 hvd
                go_quiet (first
                  | (go_at_call 52; with_reducible exact Calls.quiet_of_same (HF1.out _))
                  | (go_at_call 52; with_reducible exact Calls.quiet_of_same (HF2.out _)))
                go_wp2_with fail
                go_roundg gk
                case measure => omega
                case rel => exact HE.out _
              · have hf2 := HXM.out.2.1 h1
                subst hf2
                rw [if_neg h1, if_pos h2] at hst
                have HE : Hid (∀ nq, FlS w w3 x (fun i => w.heap.size ≤ i) cs gk (.string (o ++ vb)) (.int .i64 ((i + 1 : Nat) : Int)) (W5.drewN nq)) := fun nq => HN.out _ _ (by rw [hst, ByteArray.data_append, Array.toList_append, hvd]) (HK5.out.drawnN nq)
                have hcz : o.size + vb.size ≤ 9223372036854775807 := by omega
                clear hst h1 h2 hvd
                go_quiet (first
                  | (go_at_call 52; with_reducible exact Calls.quiet_of_same (HF1.out _))
                  | (go_at_call 52; with_reducible exact Calls.quiet_of_same (HF2.out _)))
                have u3' : (W5.drewN nq).cell? ⟨wr.heap.size, 3, none⟩ = some (.string vb) := u3
                go_wp2_with fail
                go_roundg gk
                case measure => omega
                case rel => exact HE.out _
            · have hf1 := HXM.out.2.2.2 h2
              subst hf1
              have hst2 : stepFl x z = [] := by rw [hst]; split <;> simp [h2]
              have HE : Hid (∀ nq, FlS w w3 x (fun i => w.heap.size ≤ i) cs gk (.string o) (.int .i64 ((i + 1 : Nat) : Int)) (W5.drewN nq)) := fun nq => HN.out o _ (by rw [hst2, List.append_nil]) (HK5.out.drawnN nq)
              clear hst hst2 h2 hvd
              go_quiet (first
                | (go_at_call 52; with_reducible exact Calls.quiet_of_same (HF1.out _))
                | (go_at_call 52; with_reducible exact Calls.quiet_of_same (HF2.out _)))
              go_wp2_with fail
              go_roundg gk
              case measure => omega
              case rel => exact HE.out _
          · have hb1 : ((z.kind.toNat : Int) == 126) = false := by
              have h : z.kind.toNat ≠ 126 := fun e => hkd (UInt8.toNat_inj.1 (by simpa using e))
              simp; omega
            have HE : Hid (∀ nq, FlS w w3 x (fun i => w.heap.size ≤ i) cs gk (.string o) (.int .i64 ((i + 1 : Nat) : Int)) (W5.drewN nq)) := fun nq => HN.out o _ (by rw [stepFl_other x z hkd, List.append_nil]) (HK5.out.drawnN nq)
            generalize (z.kind.toNat : Int) = kd at *
            go_quiet (fail)
            go_wp2_with fail
            go_roundg gk
            case measure => omega
            case rel => exact HE.out _
    | cons p todo =>
      obtain ⟨wO, rfl⟩ : ∃ w', w' = wr := ⟨_, rfl⟩
      have hd : done.length < n := by simp at hpl; omega
      have hpm : p ∈ x.pts := by rw [hpt]; simp
      obtain ⟨ps, hps, hlt, hpl80⟩ := HPR.out p hpm
      obtain ⟨l, hl⟩ : ∃ l, l = ps.flatMap pairB := ⟨_, rfl⟩
      obtain ⟨sv, hsv⟩ : ∃ sv : ByteArray, sv = ⟨l.toArray⟩ := ⟨_, rfl⟩
      have s2 : wO.cell? ⟨g2, done.length, none⟩ = some (.string sv) := HW.out.2.2.1 _ _ (by rw [hpt, hsv, hl, ← hps]; simp [plC])
      have hsz : sv.size = 2 * ps.length := by rw [hsv, size_arr, hl, pairs_len]
      have HGET : Hid (∀ (i : Nat) (hi : i < sv.size), l[i]? = some sv[i]) := fun i hi => by
        subst hsv
        rw [List.getElem?_eq_getElem (by rw [size_arr] at hi; exact hi)]
        rfl
      have hsn := plansFl_snoc x done p
      rw [hps, tilB_pairs] at hsn
      have HNX : Hid (∀ o' : ByteArray, o'.data.toList = plansFl x done ++ tildes ps → FlO wO x (.string o') (.int .i64 ((done.length + 1 : Nat) : Int)) wO) := fun o' ho' =>
        ⟨done ++ [p], todo, o', by rw [hpt]; simp, by simp, rfl, by rw [hsn, ho'], rfl⟩
      obtain ⟨O, hO⟩ : ∃ O, O = plansFl x done := ⟨_, rfl⟩
      rw [← hO] at HNX ho
      have hOl : O.length ≤ 6480 := by rw [hO]; exact HLE.out done (p :: todo) hpt
      have HP0 : Hid (FlI wO ps O (.string o) (.int .i64 0) wO) := ⟨[], ps, 0, o, rfl, rfl, rfl, rfl, by rw [ho]; simp [tildes], rfl⟩
      have HLL := Lib.hid hl
      have HSZ := Lib.hid hsz
      have hsz160 : sv.size ≤ 160 := by omega
      clear hpt hpl hpm hps hlt hl hsv hsn hO hsz ho hol
      go_upto_region 10 with fail
      go_loopw [4, 12] (fun vo vi W => FlI wO ps O vo vi W) (fun _ vi _ => sv.size - (intOf vi).toNat)
      case atStart => exact HP0.out
      case round =>
        clear HP0
        obtain ⟨d, r, i, o, hdr, hi, rfl, rfl, ho, hwr⟩ := hrel
        subst hwr
        have hdl := congrArg List.length hdr
        rw [List.length_append] at hdl
        have hol : o.size ≤ 7000 := by
          have e : o.size = (O ++ tildes d).length := by rw [← ho]; simp
          rw [e, List.length_append]; have := tildes_len d; omega
        cases r with
        | nil =>
          have hend : ¬ i < sv.size := by have := HSZ.out; simp at hdl; omega
          rw [List.append_nil] at hdr
          have HN := Lib.hid (HNX.out o (by rw [hdr]; exact ho))
          clear hdr hi hdl ho
          go_wp2_with fail
          go_roundw
          case rel => exact HN.out
          case measure => simp [intOf]; omega
        | cons q r =>
          have hin : i + 1 < sv.size := by have := HSZ.out; simp at hdl; omega
          have hin0 : i < sv.size := by omega
          have hget := HGET.out i hin0
          have hget1 := HGET.out (i + 1) hin
          have e1 : l[i]? = some (if q.1 then 45 else 126) := by rw [HLL.out, hdr, hi]; exact pairs_get d r q
          have e2 : l[i + 1]? = some q.2 := by rw [HLL.out, hdr, hi]; exact pairs_two d r q
          rw [e1] at hget
          rw [e2] at hget1
          injection hget with hget
          injection hget1 with hget1
          have hi1 : (i : Int) < (sv.size : Int) := by omega
          have hi160 : i ≤ 160 := by omega
          have hts := tildes_snoc d q
          have HN : Hid (∀ o' : ByteArray, o'.data.toList = O ++ tildes (d ++ [q]) → FlI wr ps O (.string o') (.int .i64 ((i + 2 : Nat) : Int)) wr) := fun o' h1 =>
            ⟨d ++ [q], r, i + 2, o', by rw [hdr]; simp, by simp; omega, rfl, rfl, h1, rfl⟩
          have hbyte : sv[i] = if q.1 then 45 else 126 := hget.symm
          cases hq : q.1 with
          | true =>
            rw [hq] at hbyte hts
            have hb1 : ((sv[i].toNat : Int) == 126) = false := by rw [hbyte]; rfl
            have HE := Lib.hid (HN.out o (by rw [hts, ho]; simp))
            clear hdr hi hdl hget hget1 hbyte HN hq e1 e2 hts ho
            go_wp2_with fail
            exact ⟨HE.out, by simp [intOf]; omega⟩
          | false =>
            rw [hq] at hbyte hts
            have hb1 : ((sv[i].toNat : Int) == 126) = true := by rw [hbyte]; rfl
            have hxo := extract_one hin
            have hxz : (sv.extract (i + 1) (i + 2)).size = 1 := by
              have e : (sv.extract (i + 1) (i + 2)).size = (sv.extract (i + 1) (i + 2)).data.toList.length := by rw [Array.length_toList]; rfl
              rw [e, hxo]; rfl
            have hcz : o.size + (sv.extract (i + 1) (i + 2)).size ≤ 9223372036854775807 := by omega
            have HE := Lib.hid (HN.out (o ++ sv.extract (i + 1) (i + 2)) (by rw [hts, ByteArray.data_append, Array.toList_append, ho, hxo, ← hget1]; simp))
            have h3 : ((i : Int) + 1).toNat = i + 1 := by omega
            have h3' : ((i : Int) + 2).toNat = i + 2 := by omega
            have h5 : (i : Int) + 2 ≤ (sv.size : Int) := by omega
            have h6 : (i : Int) + 1 ≤ (i : Int) + 2 := by omega
            have h7 : (0 : Int) ≤ (i : Int) + 1 := by omega
            clear hdr hi hdl hget hget1 hbyte HN hq e1 e2 hts ho hxo hxz
            go_wp2_with fail
            exact ⟨HE.out, by simp [intOf]; omega⟩

theorem sflags_any (s : ByteArray) (hs : s.size ≤ 1048576) (w : World) : Calls Try.prog 28 #[.string s] w (FlagsPost (flagsP s) w) := by
  unfold flagsP
  cases hp : progP s with
  | none => exact sflags_none s hs hp w
  | some x => exact sflags_some s hs x hp w

end Go.Proofs.Ytcpbkohpgchckaa
