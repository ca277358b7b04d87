/-
  The model's l1Each: all steps of a step, in order.
-/
import Derived.Test.YtkfcgamdlckncaaGreatSqW
import Derived.Test.YtkfcgamdlckncaaGreatPureW
namespace Go.Proofs.YtkfcgamdlckncaaGreat
set_option linter.unusedVariables false
set_option linter.unusedSimpArgs false
open Go.RowKit

theorem repSL_len {w : World} {ok : Nat → Prop} : ∀ (x : Nds) (cs : List Value), RepSL w ok x cs → cs.length = 6 * x.len
  | .nil, cs, h => by simp only [RepSL] at h; subst h; rfl
  | .cons (.mk c k e vs ar bs) r, cs, h => by
    simp only [RepSL, RepS] at h
    obtain ⟨c1, c2, rfl, ⟨vb, n, xs, rfl, _⟩, h2⟩ := h
    simp only [List.length_append, repSL_len r c2 h2, List.length_cons, List.length_nil, Nds.len]
    omega

theorem repS_six {w : World} {ok : Nat → Prop} {x : Nd} {cs : List Value} (h : RepS w ok x cs) : ∃ c k e vs a n m ar, cs = (six c k e vs (.slice a n m) ar).toList := by
  cases x with
  | mk c k e vs ar bs =>
    simp only [RepS] at h
    obtain ⟨vb, n, xs, rfl, hr, _⟩ := h
    obtain ⟨a, m, rfl⟩ := row_slice hr
    exact ⟨_, _, _, _, _, _, _, _, rfl⟩

theorem repSL_app {w : World} {ok : Nat → Prop} : ∀ (x y : Nds) (c1 c2 : List Value), RepSL w ok x c1 → RepSL w ok y c2 → RepSL w ok (x.app y) (c1 ++ c2)
  | .nil, y, c1, c2, h1, h2 => by simp only [RepSL] at h1; subst h1; simpa [Nds.app] using h2
  | .cons x r, y, c1, c2, h1, h2 => by
    simp only [RepSL] at h1
    obtain ⟨d1, d2, rfl, h3, h4⟩ := h1
    simp only [Nds.app, RepSL]
    exact ⟨d1, d2 ++ c2, by simp, h3, repSL_app r y d2 c2 h4 h2⟩

theorem repSB_len {w : World} {ok : Nat → Prop} : ∀ (x : Bds) (xs : List Value), RepSB w ok x xs → (x = .nil ∧ xs = []) ∨ ∃ y r v vr n cs, x = .cons y r ∧ xs = v :: vr ∧ Row w ok 52 6 v n cs ∧ RepSL w ok y cs ∧ RepSB w ok r vr
  | .nil, xs, h => by simp only [RepSB] at h; exact .inl ⟨rfl, h⟩
  | .cons y r, xs, h => by
    simp only [RepSB] at h
    obtain ⟨v, vr, n, cs, h1, ⟨h2, h3⟩, h4⟩ := h
    exact .inr ⟨y, r, v, vr, n, cs, rfl, h1, h2, h3, h4⟩

/-- A row whose cells are asked for lies in a block. -/
theorem row_at {w : World} {ok : Nat → Prop} {e : TypeId} {size : Nat} {v : Value} {n : Nat} {xs : List Value} (h : Row w ok e size v n xs) (hn : 0 < n) :
    ∃ g c, v = .slice (some ⟨g, 0, none⟩) n c ∧ ok g ∧ g < w.heap.size ∧ ∀ j u, xs[j]? = some u → w.cell? ⟨g, j, none⟩ = some u := by
  obtain ⟨h1, h2⟩ := h
  have hc : ∀ g, v.ownBlock = some g → ∀ j u, xs[j]? = some u → w.cell? ((⟨g, 0, none⟩ : Addr).add j) = some u := fun g hg => h1.cells hg
  rcases h1.2 with ⟨rfl, rfl⟩ | ⟨g, cap, cur, rfl, _⟩
  · omega
  · refine ⟨g, cap, rfl, h2 g rfl, (h1.lt g rfl).2, fun j u hj => ?_⟩
    have := hc g rfl j u hj
    have hadd : (⟨g, 0, none⟩ : Addr).add j = ⟨g, j, none⟩ := by unfold Addr.add; split <;> simp_all
    rw [hadd] at this
    exact this

theorem repSL_oneCell {w : World} {ok : Nat → Prop} : ∀ (x : Nds) (cs : List Value), RepSL w ok x cs → ∀ u ∈ cs, u.oneCell' = true
  | .nil, cs, h, u, hu => by simp only [RepSL] at h; subst h; cases hu
  | .cons x r, cs, h, u, hu => by
    simp only [RepSL] at h
    obtain ⟨c1, c2, rfl, h1, h2⟩ := h
    rcases List.mem_append.1 hu with h | h
    · obtain ⟨c, k, e, vs, a, n, m, ar, rfl⟩ := repS_six h1
      exact six_oneCell _ _ _ _ _ _ _ _ u h
    · exact repSL_oneCell r c2 h2 u h

/-- What l1Each has put into its list. -/
def OutAt (w : World) (ok : Nat → Prop) (pre : Nds) (v : Value) (wr : World) : Prop :=
  0 < pre.len ∧ ∃ cs, wr.ownsRow 0 52 6 v pre.len cs ∧ RepSL wr ok pre cs ∧ (∀ g, v.ownBlock = some g → w.heap.size ≤ g) ∧ Keeps noB w wr

def EachPost (w : World) (ok : Nat → Prop) (x : Nd) (e : Ending) (w' : World) : Prop := ∃ v, e = .returned v ∧ OutAt w ok x.pre v w'

def EachOk (n : Nat) : Prop := ∀ (x : Nd) (cs : List Value) (w : World) (ok : Nat → Prop), x.pre.len = n → n ≤ 200 → RepS w ok x cs → (∀ g, ok g → g < w.heap.size) → Calls Tryz.prog 29 #[.agg cs.toArray] w (EachPost w ok x)

/-- The list of one node. -/
theorem out_one {w : World} {ok : Nat → Prop} {x : Nd} {cs : List Value} (h : RepS w ok x cs) (hok : ∀ g, ok g → g < w.heap.size) (w1 : World) (q : Keeps noB w w1) :
    OutAt w ok (.cons x .nil) (.slice (some ⟨w1.heap.size, 0, none⟩) 1 1) (w1.alloc (.cells cs.toArray 52)) := by
  refine ⟨Nat.succ_pos _, cs, ?_, ?_, ?_, q.alloc _⟩
  · obtain ⟨c, k, e, vs, a, n, m, ar, rfl⟩ := repS_six h
    exact ⟨rfl, .inr ⟨_, 1, _, rfl, Nat.zero_le _, Blk.new w1 _ 52, Nat.le_refl _, by simp [maxLen], rfl, rfl⟩⟩
  · simp only [RepSL]
    exact ⟨cs, [], by simp, (Hands.of_keeps (ok' := ok) (q.alloc _) (fun g _ _ e => e) (fun g hg _ => hg)).repS x _ h, rfl⟩
  · intro g hg; simp [Value.ownBlock] at hg; have := q.size; omega

theorem OutAt.more {w w1 w2 w3 : World} {ok : Nat → Prop} {pre : Nds} {v v' : Value} {z : Nd} {cs cs2 : List Value} (hok : ∀ g, ok g → g < w.heap.size) (hp : 0 < pre.len)
    (hown : w1.ownsRow 0 52 6 v pre.len cs) (hrep : RepSL w1 ok pre cs) (hfrom : ∀ g, v.ownBlock = some g → w.heap.size ≤ g) (q : Keeps noB w w1)
    (q2 : Keeps noB w1 w2) (hrep2 : RepSL w2 ok z.pre cs2)
    (hown' : w3.ownsRow 0 52 6 v' (pre.len + z.pre.len) (cs ++ cs2)) (hg : w2.grownBy w3 v.ownBlock) (hf : Fresh w2 v v') : OutAt w ok (pre.app z.pre) v' w3 := by
  have qa : Keeps (fun g => v.ownBlock = some g) w2 w3 := (Keeps.refl _ w2).grown hg (fun g hg => .inl hg)
  have hl : ∀ g, ok g → ¬ v.ownBlock = some g := fun g hg e => by have := hok g hg; have := hfrom g e; omega
  refine ⟨by rw [Nds.len_app]; omega, cs ++ cs2, by rw [Nds.len_app]; exact hown', repSL_app _ _ _ _ ?_ ?_, ?_, ?_⟩
  · exact (Hands.of_keeps (ok' := ok) qa (fun g hg _ e => hl g hg e) (fun g hg _ => hg)).repSL _ _ ((Hands.of_keeps (ok' := ok) q2 (fun g _ _ e => e) (fun g hg _ => hg)).repSL _ _ hrep)
  · exact (Hands.of_keeps (ok' := ok) qa (fun g hg _ e => hl g hg e) (fun g hg _ => hg)).repSL _ _ hrep2
  · intro g hg'
    rcases hf with h | h
    · exact hfrom g (h ▸ hg')
    · have := h g hg'; have := q.size; have := q2.size; omega
  · exact (q.trans q2).transNew qa (fun i hi e => by have := hfrom i e; omega)

end Go.Proofs.YtkfcgamdlckncaaGreat

namespace Go.Proofs.YtkfcgamdlckncaaGreat
set_option linter.unusedVariables false
set_option linter.unusedSimpArgs false
open Go.RowKit

theorem bds_zero {w : World} {ok : Nat → Prop} {bs : Bds} {xs : List Value} (h : RepSB w ok bs xs) (h0 : xs = []) : bs.pre = .nil := by
  rcases repSB_len bs xs h with ⟨rfl, _⟩ | ⟨y, r, v, vr, n, cs, _, h1, _⟩
  · rfl
  · subst h0; cases h1

theorem row_small {w : World} {ok : Nat → Prop} {e : TypeId} {size : Nat} {v : Value} {n : Nat} {xs : List Value} (h : Row w ok e size v n xs) : n ≤ maxLen := by
  rcases h.1.2 with ⟨_, h2⟩ | ⟨g, cap, cur, _, _, _, h2, h3, _⟩
  · omega
  · omega

theorem wrap_next {i n : Nat} (h : i < n) (hn : n ≤ maxLen) : wrap64 ((i : Int) + 1) = ((i + 1 : Nat) : Int) := by
  unfold maxLen at hn; unfold wrap64; omega

/-- What the outer loop holds. -/
def OuterAt (w : World) (ok : Nat → Prop) (all : Nds) (nb : Nat) (xs : List Value) (g : Nat) (v vi : Value) (wr : World) : Prop :=
  ∃ (i : Nat) (pre : Nds) (bs : Bds), vi = .int .i64 i ∧ i + (xs.drop i).length = nb ∧ nb < i + g ∧ pre.app bs.pre = all ∧ RepSB w ok bs (xs.drop i) ∧ OutAt w ok pre v wr

/-- What the inner loop holds. -/
def InnerAt (w : World) (ok : Nat → Prop) (all rest : Nds) (m : Nat) (cs : List Value) (g : Nat) (v vi : Value) (wr : World) : Prop :=
  ∃ (i : Nat) (pre y : Nds), vi = .int .i64 i ∧ i + y.len = m ∧ m < i + g ∧ (pre.app y.pre).app rest = all ∧ RepSL w ok y (cs.drop (i * 6)) ∧ OutAt w ok pre v wr

theorem OutAt.slice {w : World} {ok : Nat → Prop} {pre : Nds} {v : Value} {wr : World} (h : OutAt w ok pre v wr) : ∃ a n m, v = .slice a n m := by
  obtain ⟨_, cs, h1, _⟩ := h
  obtain ⟨a, m, rfl⟩ := row_slice (ok := fun _ => True) ⟨h1, fun _ _ => trivial⟩
  exact ⟨_, _, _, rfl⟩

theorem OutAt.keeps {w : World} {ok : Nat → Prop} {pre : Nds} {v : Value} {wr : World} (h : OutAt w ok pre v wr) : Keeps noB w wr := h.2.choose_spec.2.2.2

theorem OutAt.alloc {w : World} {ok : Nat → Prop} {pre : Nds} {v : Value} {wr : World} (h : OutAt w ok pre v wr) (o : Obj) : OutAt w ok pre v (wr.alloc o) := by
  obtain ⟨h0, cs, h1, h2, h3, h4⟩ := h
  exact ⟨h0, cs, h1.alloc o, (Hands.of_keeps (ok' := ok) ((Keeps.refl noB wr).alloc o) (fun g _ _ e => e) (fun g hg _ => hg)).repSL _ _ h2, h3, h4.alloc o⟩

theorem outer_start {w : World} {ok : Nat → Prop} {c : UInt8} {k e : Nat} {vs ar : List UInt8} {bs : Bds} {nb : Nat} {ab : Option Addr} {cb : Nat} {xs : List Value}
    (hr : Row w ok 57 1 (.slice ab nb cb) nb xs) (hb : RepSB w ok bs xs) (hx : RepS w ok (.mk c k e vs ar bs) [u8 c, i64 k, i64 e, str vs, .slice ab nb cb, str ar]) (hok : ∀ g, ok g → g < w.heap.size) (o : Obj) :
    OuterAt w ok (Nd.mk c k e vs ar bs).pre nb xs (nb + 1) (.slice (some ⟨w.heap.size + 1, 0, none⟩) 1 1) (.int .i64 0) ((w.alloc o).alloc (.cells #[u8 c, i64 k, i64 e, str vs, .slice ab nb cb, str ar] 52)) := by
  refine ⟨0, .cons (.mk c k e vs ar bs) .nil, bs, rfl, ?_, by omega, by simp [Nds.app, Nd.pre], by simpa using hb, ?_⟩
  · have := hr.1.1; simp at this ⊢; omega
  · have := out_one hx hok (w.alloc o) ((Keeps.refl _ w).alloc o)
    simpa using this

set_option maxRecDepth 100000 in
set_option maxHeartbeats 4000000 in
theorem each_ok (N : Nat) (ih : ∀ m, m < N → EachOk m) : EachOk N := by
  rintro ⟨c, k, e, vs, ar, bs⟩ cs w ok hlen hN h hok
  have hx := h
  simp only [RepS] at h
  obtain ⟨vb, nb, xs, rfl, hrow, hbs⟩ := h
  obtain ⟨ab, cb, rfl⟩ := row_slice hrow
  obtain ⟨i0, hi, hz0, hz1, hz2⟩ := info_parts Tryz.info52
  have HI := Lib.hid (And.intro hi (And.intro hz0 (And.intro hz1 hz2)))
  have HX := Lib.hid hx
  have HB := Lib.hid (And.intro hrow hbs)
  have HL := Lib.hid hlen
  have IH := Lib.hid ih
  clear hi hz0 hz1 hz2 hx hrow hbs ih hlen
  go_enter Tryz.func29, Tryz.ntmps29
  go_upto_region 3 with fail
  go_loopg [3, 13] (nb + 1) (fun g v vi wr => OuterAt w ok (Nd.mk c k e vs ar bs).pre nb xs g v vi wr)
  case atStart => exact outer_start HB.out.1 HB.out.2 HX.out hok _
  case round =>
    obtain ⟨i, pre, bs2, rfl, hi, hg, hpre, hbs2, hout⟩ := hrel
    cases gk with
    | zero => omega
    | succ go =>
    rcases repSB_len _ _ hbs2 with ⟨rfl, hnil⟩ | ⟨y, r, v, vr, m, cs, rfl, hcons, hrow, hy, hr⟩
    · rw [hnil] at hi
      simp only [List.length_nil] at hi
      obtain ⟨a, n, m, rfl⟩ := hout.slice
      have HO := Lib.hid (And.intro hpre hout)
      clear hpre hout hbs2 hnil
      go_wp2_with fail
      go_ret
      obtain ⟨g1, g2⟩ := HO.out
      refine ⟨_, rfl, ?_⟩
      rw [← g1]
      simpa [Bds.pre, Nds.app_nil] using g2
    · rw [hcons] at hi
      simp only [List.length_cons] at hi
      obtain ⟨av, cv, rfl⟩ := row_slice hrow
      obtain ⟨gb, cb', hab, hokb, hgb, hcell⟩ := row_at HB.out.1 (by omega)
      injection hab with hab hab1 hab2
      subst hab
      have hci : w.cell? ⟨gb, i, none⟩ = some (.slice av m cv) := hcell i _ (by
        have h0 : (xs.drop i)[0]? = some (.slice av m cv) := by rw [hcons]; rfl
        simpa using h0)
      have hci1 : wr.cell? ⟨gb, i, none⟩ = some (.slice av m cv) := (hout.keeps.cell (p := ⟨gb, i, none⟩) hgb id).trans hci
      have hvr : xs.drop (i + 1) = vr := by
        have := congrArg List.tail hcons
        simpa using this
      have hyl := repSL_len _ _ hy
      have hml : m = y.len := by have := hrow.1.1; omega
      have HC := Lib.hid (And.intro hrow (And.intro hr (And.intro hpre (And.intro hvr (And.intro hml hi)))))
      have HP : Hid (InnerAt w ok (Nd.mk c k e vs ar bs).pre r.pre m cs (m + 1) u3 (.int .i64 0) wr) := by
        refine ⟨0, pre, y, rfl, by omega, by omega, ?_, by simpa using hy, hout⟩
        rw [Nds.app_app]; exact hpre
      obtain ⟨ao, no, mo, rfl⟩ := hout.slice
      have hlt : i < nb := by omega
      clear hab1 hab2 hcell hbs2 hcons hpre hvr hml hyl hrow hr hy hout hi hci
      go_upto_region 6 with fail
      go_loopg [3, 19] (m + 1) (fun g v vi wr => InnerAt w ok (Nd.mk c k e vs ar bs).pre r.pre m cs g v vi wr)
      case atStart => exact HP.out
      case round =>
        clear HP
        obtain ⟨j, pre2, y2, rfl, hj, hg2, hpre2, hy2, hout2⟩ := hrel
        cases gk with
        | zero => omega
        | succ gk =>
        cases y2 with
        | nil =>
          simp only [Nds.len] at hj
          obtain ⟨ao2, no2, mo2, rfl⟩ := hout2.slice
          have hd : ¬ j < m := by omega
          have HO := Lib.hid (And.intro hpre2 hout2)
          clear hci1 hpre2 hout2 hy2
          go_wp2_with fail
          go_roundg go
          case measure => omega
          case rel =>
            obtain ⟨c1, c2, c3, c4, c5, c6⟩ := HC.out
            obtain ⟨g1, g2⟩ := HO.out
            refine ⟨i + 1, pre2, r, by rw [wrap_next hlt (row_small HB.out.1)], ?_, by omega, ?_, by rw [c4]; exact c2, g2⟩
            · rw [c4]; omega
            · rw [← g1]; simp [Nds.pre, Nds.app_nil]
        | cons z y3 =>
          simp only [Nds.len] at hj
          have hd : j < m := by omega
          obtain ⟨c1, c2, c3, c4, c5, c6⟩ := HC.out
          obtain ⟨gv, cv', hav, hokv, hgv, hcell⟩ := row_at c1 (by omega)
          injection hav with hav hav1 hav2
          subst hav
          simp only [RepSL] at hy2
          obtain ⟨d1, d2, hd12, hz, hy3⟩ := hy2
          have hd1 := repS_six hz
          obtain ⟨x0, x1, x2, x3, x4, x5, x6, x7, rfl⟩ := hd1
          have hcs : ∀ i u, (six x0 x1 x2 x3 (.slice x4 x5 x6) x7).toList[i]? = some u → wr.cell? ⟨gv, j * 6 + i, none⟩ = some u := by
            intro i u hu
            refine (hout2.keeps.cell (p := ⟨gv, j * 6 + i, none⟩) hgv id).trans (hcell _ _ ?_)
            have h0 : (cs.drop (j * 6))[i]? = some u := by
              rw [hd12, List.getElem?_append_left (by
                have := (List.getElem?_eq_some_iff.1 hu).1
                exact this)]
              exact hu
            simpa using h0
          have s0 : wr.cell? ⟨gv, j * 6, none⟩ = some (.int .u8 x0) := hcs 0 _ rfl
          have s1 : wr.cell? ⟨gv, j * 6 + 1, none⟩ = some (.int .i64 x1) := hcs 1 _ rfl
          have s2 : wr.cell? ⟨gv, j * 6 + 2, none⟩ = some (.int .i64 x2) := hcs 2 _ rfl
          have s3 : wr.cell? ⟨gv, j * 6 + 3, none⟩ = some (.string x3) := hcs 3 _ rfl
          have s4 : wr.cell? ⟨gv, j * 6 + 4, none⟩ = some (.slice x4 x5 x6) := hcs 4 _ rfl
          have s5 : wr.cell? ⟨gv, j * 6 + 5, none⟩ = some (.string x7) := hcs 5 _ rfl
          have hzl : 0 < z.pre.len ∧ pre2.len + z.pre.len ≤ 200 ∧ z.pre.len < N := by
            have h1 := congrArg Nds.len hpre2
            simp only [Nds.pre, Nds.len_app] at h1
            have h2 := HL.out
            have h3 : 0 < z.pre.len := by cases z; simp [Nd.pre, Nds.len]
            have h4 := hout2.1
            omega
          have HZ := Lib.hid (And.intro hzl.1 (hzl.2.1))
          have HE := Lib.hid (IH.out _ hzl.2.2 z _ (wr.alloc (.cells (six x0 x1 x2 x3 (.slice x4 x5 x6) x7) 52)) ok rfl (by omega)
            ((Hands.of_keeps (ok' := ok) ((hout2.keeps).alloc _) (fun g _ _ e => e) (fun g hg _ => hg)).repS z _ hz) (fun g hg => by have := hok g hg; have := hout2.keeps.size; simp; omega))
          clear hzl
          obtain ⟨ao2, no2, mo2, rfl⟩ := hout2.slice
          have HO := Lib.hid (And.intro hpre2 (And.intro hout2 (And.intro hz (And.intro hy3 hd12))))
          clear hci1 hpre2 hout2 hz hy3 hd12 c1 c2 c3 c4 c5 c6 hcs hcell hav1 hav2
          go_upto_region 8 with fail
          go_wp2_with fail
          refine (HE.out).mono ?_
          rintro e w2 ⟨v2, rfl, hout3⟩
          obtain ⟨hp1, cs1, hown1, hrep1, hfrom1, hq1⟩ := HO.out.2.1
          obtain ⟨_, cs2, hown2, hrep2, hfrom2, hq2⟩ := hout3
          obtain ⟨g2, n2, hv2, _, _, _⟩ := row_at (ok := fun _ => True) ⟨hown2, fun _ _ => trivial⟩ HZ.out.1
          subst hv2
          obtain ⟨hi, hz0, hz1, hz2⟩ := HI.out
          go_wp2_with (at_builtin; refine wpList_append_fresh _ rfl _ _ 57 rfl 52 i0 _ 6 80 Tryz.underlying57 hi hz0 hz1 hz2 rfl (by decide) (.slice ao2 no2 mo2) pre2.len cs1 rfl ?own ⟨g2, 0, none⟩ z.pre.len n2 cs2 rfl ?c1 ?c2 ?c3 ?c4 ?c5 ?_)
          case own => exact ((((Keeps.refl noB wr).alloc _).trans hq2).ownsRow hown1 (fun _ _ _ e => e))
          case c1 => exact hown2.1
          case c2 => exact hown2.cells (g := g2) rfl
          case c3 => exact repSL_oneCell _ _ hrep2
          case c4 => have := HZ.out.2; unfold maxLen; omega
          case c5 => have := HZ.out.2; omega
          intro v' w3 hown' hgrow hfresh
          have hout4 := OutAt.more hok hp1 hown1 hrep1 hfrom1 hq1 (((Keeps.refl noB wr).alloc _).trans hq2) hrep2 hown' hgrow hfresh
          obtain ⟨a', n', cc', rfl⟩ := hout4.slice
          have H4 := Lib.hid hout4
          clear hown1 hrep1 hfrom1 hq1 hown2 hrep2 hfrom2 hq2 hown' hgrow hfresh hout4 hi hz0 hz1 hz2
          go_wp2_with fail
          go_roundg gk
          case measure => omega
          case rel =>
            obtain ⟨h1, _, _, h4, h5⟩ := HO.out
            refine ⟨j + 1, pre2.app z.pre, y3, by rw [wrap_next hd (row_small HC.out.1)], by omega, by omega, ?_, ?_, H4.out⟩
            · rw [← h1]; simp [Nds.pre, Nds.app_app]
            · have e1 : cs.drop ((j + 1) * 6) = (cs.drop (j * 6)).drop 6 := by rw [List.drop_drop, Nat.succ_mul]
              rw [e1, h5]
              exact h4

theorem each_all (N : Nat) : EachOk N := Nat.strongRecOn N (fun n ih => each_ok n ih)

end Go.Proofs.YtkfcgamdlckncaaGreat

namespace Go.Proofs.YtkfcgamdlckncaaGreat
set_option linter.unusedVariables false
set_option linter.unusedSimpArgs false
open Go.RowKit

theorem Tryz.info3 : (Tryz.prog.info? 3).map (fun i => (i.zero, i.size, i.bytes)) = some (some (.int .i64 0), 1, 8) := by kernel_rfl

/-- The six cells of a node in a row of nodes. -/
structure NodeAt (w : World) (g o : Nat) (x : Nd) (a : Option Addr) (n m : Nat) : Prop where
  s0 : w.cell? ⟨g, o, none⟩ = some (u8 x.kind)
  s1 : w.cell? ⟨g, o + 1, none⟩ = some (i64 x.beg)
  s2 : w.cell? ⟨g, o + 2, none⟩ = some (i64 x.fin)
  s3 : w.cell? ⟨g, o + 3, none⟩ = some (str x.vars)
  s4 : w.cell? ⟨g, o + 4, none⟩ = some (.slice a n m)
  s5 : w.cell? ⟨g, o + 5, none⟩ = some (str x.scope)

theorem node_at {w wr : World} {ok : Nat → Prop} {g j : Nat} {cs : List Value} {z : Nd} {r : Nds} (hcell : ∀ j u, cs[j]? = some u → wr.cell? ⟨g, j, none⟩ = some u) (h : RepSL w ok (.cons z r) (cs.drop (j * 6))) :
    (∃ a n m, NodeAt wr g (j * 6) z a n m) ∧ RepSL w ok r (cs.drop ((j + 1) * 6)) := by
  cases z with
  | mk c k e vs ar bs =>
  simp only [RepSL, RepS] at h
  obtain ⟨d1, d2, hd, ⟨vb, n, xs, rfl, hr, _⟩, h2⟩ := h
  obtain ⟨a, m, rfl⟩ := row_slice hr
  have hcs : ∀ i u, [u8 c, i64 k, i64 e, str vs, Value.slice a n m, str ar][i]? = some u → wr.cell? ⟨g, j * 6 + i, none⟩ = some u := by
    intro i u hu
    refine hcell _ _ ?_
    have h0 : (cs.drop (j * 6))[i]? = some u := by
      rw [hd, List.getElem?_append_left (by
        have := (List.getElem?_eq_some_iff.1 hu).1
        exact this)]
      exact hu
    simpa using h0
  refine ⟨⟨a, n, m, hcs 0 _ rfl, hcs 1 _ rfl, hcs 2 _ rfl, hcs 3 _ rfl, hcs 4 _ rfl, hcs 5 _ rfl⟩, ?_⟩
  have e1 : cs.drop ((j + 1) * 6) = (cs.drop (j * 6)).drop 6 := by rw [List.drop_drop, Nat.succ_mul]
  rw [e1, hd]
  exact h2

end Go.Proofs.YtkfcgamdlckncaaGreat
