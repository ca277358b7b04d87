/-
  Walks of the program: inner.
-/
import Derived.Test.YtmdpnhkdbkclgaaIj
import Derived.Test.YtmdpnhkdbkclgaaIw
import Derived.StillTailTactics
import Derived.Test.YtmdpnhkdbkclgaaProg
import Derived.WalkKit
import Derived.Lib.Hide
import Derived.Deep.RegionWith
import Derived.Deep.RegionLaw
import Derived.Deep.LoopGhost
import Derived.Deep.Cut
import Derived.Deep.DeepCutAuto
import Derived.BigQuiet
import Derived.Deep.QuietTactic
import Derived.Outline
import Derived.Deep.CutBlock
namespace Go.Proofs.Ytmdpnhkdbkclgaa
set_option linter.unusedVariables false
set_option linter.unusedSimpArgs false
open Go.RowKit

/-- 'inner' hands back the places of what stands in a step. -/
def KidsPost (w : World) (ok : Nat → Prop) (x : Nd) (d : Nat) (e : Ending) (w' : World) : Prop :=
  ∃ a n m cs, e = .returned (.slice a n m) ∧ n = x.bodies.kids.length ∧ Row w' (fromB w.heap.size) 48 3 (.slice a n m) n cs ∧ PlacesAt w ok (inD x.kind d) x.bodies.kids cs ∧ Keeps noB w w'

theorem Keeps.drewN {may : Nat → Prop} {a w : World} (h : Keeps may a w) (n : Nat) : Keeps may a (w.drewN n) := ⟨h.os, h.tape, h.output, h.size, h.block⟩


theorem Try.info48 : (Try.prog.info? 48).map (fun i => (i.zero, i.size, i.bytes)) = some (some (.agg #[.nilIface, .string ⟨#[]⟩, .int .i64 0]), 3, 40) := by kernel_rfl

/-- Ahead of the places: what stands in the step, and what is around it. -/
def KidsCut (w : World) (ok : Nat → Prop) (x : Nd) (d : Nat) (v3 v4 v5 : Value) (wc : World) : Prop :=
  ∃ a m us, v3 = .slice a x.bodies.kids.length m ∧ Row wc (fun g => ok g ∨ w.heap.size ≤ g) 46 1 (.slice a x.bodies.kids.length m) x.bodies.kids.length us ∧ KidsI w ok x.bodies.kids us ∧ Keeps noB w wc ∧
    ∃ sv dv, v4 = .string sv ∧ v5 = .int .i64 dv ∧ (x.bodies.kids ≠ [] → .string sv = str (x.scope ++ x.vars) ∧ dv = (inD x.kind d : Int))

/-- What the loop over the steps has made. -/
def PlaceLoop (w wc : World) (ok : Nat → Prop) (x : Nd) (d nk : Nat) (v9 v58 : Value) (wr : World) : Prop :=
  ∃ (pre post : List Nd) (cs : List Value), x.bodies.kids = pre ++ post ∧ v58 = .int .i64 pre.length ∧ v9 = .slice (some ⟨wc.heap.size, 0, none⟩) pre.length nk ∧ wr.ownsRow w.heap.size 48 3 v9 pre.length cs ∧
    PlacesAt w ok (inD x.kind d) pre cs ∧ Keeps noB wc wr ∧ wc.heap.size < wr.heap.size

set_option maxRecDepth 100000 in
set_option maxHeartbeats 4000000 in
theorem inner_any (s : ByteArray) (x : Nd) (d : Nat) (v : Value) (ok : Nat → Prop) (w : World) (hN : x.pre.len ≤ 200) (hx : x.Ok s d) (hs : s.size ≤ 80) (hr : RepI w ok x v) (hok : ∀ k, ok k → k < w.heap.size) :
    Calls Try.prog 58 #[placeV v x.scope d] w (KidsPost w ok x d) := by
  obtain ⟨ty, g, rfl⟩ := rep_iface _ _ _ _ hr
  obtain ⟨ss, hss⟩ : ∃ ss, str x.scope = .string ss := ⟨_, rfl⟩
  have hpv : placeV (.iface ty (ptr g)) x.scope d = .agg #[.iface ty (ptr g), .string ss, .int .i64 (d : Int)] := by unfold placeV; rw [hss]; rfl
  rw [hpv]
  clear hpv
  have HR := Lib.hid hr
  have HS := Lib.hid hss
  clear hr hss
  have c0 := (Blk.new w #[.iface ty (ptr g), .string ss, .int .i64 (d : Int)] 48).cell 0
  go_enter Try.func58, Try.ntmps58
  go_upto_region 2 with fail
  go_cut [4, 5] (fun v4 v5 wc => v4 = .string ss ∧ v5 = .int .i64 (d : Int) ∧ Keeps noB w wc ∧ Blk wc w.heap.size #[.iface ty (ptr g), .string ss, .int .i64 (d : Int)] 48)
  case first =>
    go_quiet (fail)
    go_wp2_with fail
    go_meet
    exact ⟨rfl, rfl, ((Keeps.refl _ w).alloc _).drewN _, Blk.new w _ _⟩
  case rest =>
    obtain ⟨rfl, rfl, q1, b1⟩ := hcut
    have r0 := b1.cell 0
    simp at r0
    clear c0
    go_upto_block 0 with fail
    go_cut [3, 4, 5] (fun v3 v4 v5 wc => KidsCut w ok x d v3 v4 v5 wc)
    case first =>
      have hr := HR.out
      have hss := HS.out
      clear HR HS
      cases x with
      | mk c k e vs ar bs =>
      cases bs with
      | nil =>
        simp only [RepI] at hr
        have HK : Hid (∀ wc, Keeps noB w wc → KidsCut w ok (.mk c k e vs ar .nil) d (.slice none 0 0) (.string ss) (.int .i64 d) wc) := fun wc q =>
          ⟨none, 0, [], rfl, ⟨⟨rfl, .inl ⟨rfl, rfl⟩⟩, fun g hg => by simp [Value.ownBlock] at hg⟩, rfl, q, ss, d, rfl, rfl, fun e => (e rfl).elim⟩
        obtain ⟨g', hg', h1⟩ := hr
        rcases h1 with ⟨_, t, _, h3, _⟩ | ⟨_, t, u, _, h3, _⟩ | ⟨_, _, h3, _⟩
        all_goals
          obtain ⟨rfl, rfl⟩ : ty = _ ∧ g = g' := by simpa [ptr] using h3
          clear h3
        · have a1 := isVB (ptr g)
          have a2 := isVO (ptr g)
          have a3 := isVS (ptr g)
          go_wp2_with fail
          go_meet
          exact HK.out _ q1
        · have a1 := isVB (ptr g)
          have a2 := isVO (ptr g)
          have a3 := isVS (ptr g)
          go_wp2_with fail
          go_meet
          exact HK.out _ q1
        · have a1 := isLB (ptr g)
          have a2 := isLO (ptr g)
          have a3 := isLS (ptr g)
          go_wp2_with fail
          go_meet
          exact HK.out _ q1
      | cons y1 bs =>
      cases bs with
      | nil =>
        simp only [RepI] at hr
        obtain ⟨vx, n, xs, ⟨g', hg', h1⟩, hrow, hrl⟩ := hr
        obtain ⟨ax, mx, rfl⟩ := row_shape hrow
        have hxl := (KidsI.of_repIL hrl).len
        have hrn := hrow.1.1
        obtain rfl : n = y1.list.length := by omega
        have hk1 : (Nd.mk c k e vs ar (.cons y1 .nil)).bodies.kids = y1.list := by simp [Nd.bodies, Bds.kids]
        have HC : Hid (∀ wc, Keeps noB w wc → ∀ sv dv, .string sv = str (ar ++ vs) → dv = (inD c d : Int) → KidsCut w ok (.mk c k e vs ar (.cons y1 .nil)) d (.slice ax y1.list.length mx) (.string sv) (.int .i64 dv) wc) := by
          intro wc q sv dv h3 h4
          unfold KidsCut
          rw [hk1]
          exact ⟨ax, mx, xs, rfl, (Hands.of_keeps q (fun _ _ _ => id) (fun g hg _ => .inl hg)).row _ _ _ _ _ hrow, KidsI.of_repIL hrl, q, sv, dv, rfl, rfl, fun _ => ⟨h3, h4⟩⟩
        clear hrow hrl hxl hrn hk1
        rcases h1 with ⟨rfl, rfl, h3, hb⟩ | ⟨rfl, h3, hb⟩
        all_goals
          obtain ⟨rfl, rfl⟩ : ty = _ ∧ g = g' := by simpa [ptr] using h3
          clear h3
          have hbw := q1.blk hb id
          have r1 := hbw.cell 0
          have r2 := hbw.cell 1
          have r3 := hbw.cell 2
        · simp at r1 r2 r3
          have a1 := isOB (ptr g)
          have a2 := isOO (ptr g)
          unfold ptr at a1 a2 r0 ⊢
          go_wp2_with fail
          go_meet
          exact HC.out _ q1 _ _ (by rw [List.append_nil]; exact hss.symm) rfl
        · have r4 := hbw.cell 3
          simp at r1 r2 r3 r4
          obtain ⟨sv, hsv⟩ : ∃ sv, str vs = .string sv := ⟨_, rfl⟩
          rw [hsv] at r3
          have e1 : ss = ⟨ar.toArray⟩ := by unfold str at hss; injection hss with h; exact h.symm
          have e2 : sv = ⟨vs.toArray⟩ := by unfold str at hsv; injection hsv with h; exact h.symm
          have hg := hx.good
          have hroom := hg.room
          have hle := hg.le
          simp only [Nd.scope, Nd.vars, Nd.fin] at hroom hle
          have hz : ss.size + sv.size ≤ 80 := by rw [e1, e2]; simp only [ByteArray.size, List.size_toArray]; omega
          have hadd : ¬ 9223372036854775807 < ss.size + sv.size := by omega
          have hd5 : (d : Int) ≤ 4 := by have := hg.shal; omega
          have HSV : Hid (Value.string (ss ++ sv) = str (ar ++ vs)) := by
            subst e1 e2; unfold str; congr 1
          clear hsv hss hbw hb e1 e2 hg hroom hle hz
          have a1 := isSB (ptr g)
          have a2 := isSO (ptr g)
          have a3 := isSS (ptr g)
          unfold ptr at a1 a2 a3 r0 ⊢
          go_wp2_with fail
          go_meet
          exact HC.out _ q1 _ _ HSV.out (by unfold inD; rfl)
      | cons y2 bs =>
      cases bs with
      | cons y3 bs => simp only [RepI] at hr
      | nil =>
        simp only [RepI] at hr
        obtain ⟨vx, vy, n, xs, m, ys, ⟨g', hg', rfl, rfl, h3, hb⟩, ⟨hrx, hlx⟩, hry, hly⟩ := hr
        obtain ⟨rfl, rfl⟩ : ty = _ ∧ g = g' := by simpa [ptr] using h3
        clear h3
        obtain ⟨ax, mx, rfl⟩ := row_shape hrx
        obtain ⟨ay, my, rfl⟩ := row_shape hry
        have hkx := KidsI.of_repIL hlx
        have hky := KidsI.of_repIL hly
        obtain rfl : n = y1.list.length := by have := hkx.len; have := hrx.1.1; omega
        obtain rfl : m = y2.list.length := by have := hky.len; have := hry.1.1; omega
        have hk1 : (Nd.mk 63 k e [] ar (.cons y1 (.cons y2 .nil))).bodies.kids = y1.list ++ y2.list := by simp [Nd.bodies, Bds.kids]
        have hkn := kids_len (Nd.mk 63 k e [] ar (.cons y1 (.cons y2 .nil)))
        rw [hk1, List.length_append] at hkn
        have hbw := q1.blk hb id
        have r2 := hbw.cell 2
        have r3 := hbw.cell 3
        simp at r2 r3
        have HC : Hid (∀ wc w2 a m, Keeps noB w wc → Keeps noB wc w2 → w2.ownsRow wc.heap.size 46 1 (.slice a (y1.list.length + y2.list.length) m) (y1.list.length + y2.list.length) (xs ++ ys) →
            KidsCut w ok (.mk 63 k e [] ar (.cons y1 (.cons y2 .nil))) d (.slice a (y1.list.length + y2.list.length) m) (.string ss) (.int .i64 d) w2) := by
          intro wc w2 a m q q2 ho
          unfold KidsCut
          rw [hk1, List.length_append]
          refine ⟨a, m, xs ++ ys, rfl, ⟨⟨ho.1, ho.2.imp id (fun ⟨g, c, cur, h1, _, h3⟩ => ⟨g, c, cur, h1, Nat.zero_le _, h3⟩)⟩, fun g hg => .inr ?_⟩, hkx.app hky, q.trans q2, ss, d, rfl, rfl, fun _ => ⟨by rw [← hss]; simp [Nd.scope, Nd.vars], by unfold inD; rfl⟩⟩
          have := q.size; have := (ho.lt g hg).1; omega
        have HX : Hid (∀ wc, Keeps noB w wc → Row wc (fun _ => True) 46 1 (.slice ax y1.list.length mx) y1.list.length xs ∧ Row wc (fun _ => True) 46 1 (.slice ay y2.list.length my) y2.list.length ys) := fun wc q =>
          ⟨⟨q.ownsRow hrx.1 (fun _ _ _ => id), fun _ _ => trivial⟩, q.ownsRow hry.1 (fun _ _ _ => id), fun _ _ => trivial⟩
        have HO1 := Lib.hid hkx.one
        have HO2 := Lib.hid hky.one
        have HL : Hid (y1.list.length + y2.list.length ≤ 1000) := Lib.hid (by omega)
        clear hrx hry hlx hly hkx hky hk1 hkn hbw hb hss
        have a1 := isBB (ptr g)
        unfold ptr at a1 r0 ⊢
        go_wp2_with fail
        go_still_tail 8, (by kernel_rfl)
        change wpList _ _ _ _ _ wc.drew
        have q2 : Keeps noB w wc.drew := q1.drew
        clear q1
        generalize wc.drew = wd at q2 ⊢
        have bq := Blk.new wd #[.slice ax y1.list.length mx, .slice ay y2.list.length my] 61
        have qa := q2.alloc (.cells #[.slice ax y1.list.length mx, .slice ay y2.list.length my] 61)
        have HB := Lib.hid (And.intro bq qa)
        clear bq qa
        go_wp2_with fail
        refine (concat_any wd.heap.size _ _ _ _ xs ys _ (fun _ => True) HB.out.1 (HX.out _ HB.out.2).1 (HX.out _ HB.out.2).2 HO1.out HO2.out HL.out).mono ?_
        rintro e w2 ⟨a, m, rfl, ho, q3⟩
        have HE := Lib.hid (HC.out _ _ a m HB.out.2 q3 ho)
        clear ho q3 HC HX HB
        go_wp2_with fail
        go_meet
        exact HE.out
    case rest =>
      clear r0 b1
      obtain ⟨ra, rm, us, rfl, hrow, hus, q2, sv, dv, rfl, rfl, hsv⟩ := hcut
      obtain ⟨i0, hi, hz0, hz1, hz2⟩ := info_parts Try.info48
      have hkl := kids_len x
      have hgood := hx.good
      obtain ⟨nk, hnk⟩ : ∃ nk, nk = x.bodies.kids.length := ⟨_, rfl⟩
      rw [← hnk] at hrow hkl ⊢
      have HG := Lib.hid (And.intro hgood (And.intro hsv (And.intro hnk (And.intro hrow hus))))
      clear hgood hsv hnk hrow hus
      go_upto_region 16 with (at_make; refine wpList_make_own _ rfl _ _ 103 rfl w.heap.size 48 i0 _ 3 Try.underlying103 hi hz0 hz1 _ _ _ nk rfl rfl rfl (by rw [hz2]; omega) (by unfold maxLen; omega) q2.size ?_)
      intro w1 hown1 hg1
      have HP : Hid (PlaceLoop w wc ok x d nk (.slice (some ⟨wc.heap.size, 0, none⟩) 0 nk) (.int .i64 0) w1) :=
        ⟨[], x.bodies.kids, [], rfl, rfl, rfl, hown1, rfl, (Keeps.refl _ _).grown hg1 (fun _ e => by cases e), (hown1.lt wc.heap.size rfl).2⟩
      clear hown1 hg1
      go_wp2_with fail
      go_loopw [9, 58] (fun v9 v58 wr => PlaceLoop w wc ok x d nk v9 v58 wr) (fun _ v58 _ => nk - (intOf v58).toNat)
      case atStart => exact HP.out
      case round =>
        clear HP
        obtain ⟨pre, post, cs, hpp, rfl, rfl, hown, hpl, q3, hlt⟩ := hrel
        obtain ⟨hgood, hsv, hnk, hrow, hus⟩ := HG.out
        have hpl2 := congrArg List.length hpp
        rw [List.length_append, ← hnk] at hpl2
        cases post with
        | nil =>
          have hd : ¬ pre.length < nk := by simp at hpl2; omega
          have HF : Hid (KidsPost w ok x d (.returned (.slice (some ⟨wc.heap.size, 0, none⟩) pre.length nk)) wr) := by
            refine ⟨_, _, _, cs, rfl, by simp at hpl2; omega, ⟨⟨hown.1, hown.2.imp id (fun ⟨g, c, cur, h1, _, h3⟩ => ⟨g, c, cur, h1, Nat.zero_le _, h3⟩)⟩, fun g hg => ?_⟩, ?_, q2.trans q3⟩
            · have := q2.size; simp [Value.ownBlock] at hg; show w.heap.size ≤ g; omega
            · rw [hpp, List.append_nil]; exact hpl
          clear hgood hsv hnk hrow hus hpp hpl2 hown hpl q3 HG
          go_wp2_with fail
          go_ret
          exact HF.out
        | cons z post =>
          have hd : pre.length < nk := by simp at hpl2; omega
          obtain ⟨g0, c0, hv, hg1, hg2, hcell⟩ := row_get hrow (by omega)
          obtain ⟨rfl, rfl⟩ : ra = some ⟨g0, 0, none⟩ ∧ rm = c0 := by simpa using hv
          obtain ⟨u, hzu, hu⟩ := hus.get hpp
          obtain ⟨tz, gz, rfl⟩ := rep_iface _ _ _ _ hzu
          have s0 := (q3.cell (p := ⟨g0, pre.length, none⟩) hg2 id).trans (hcell _ _ hu)
          obtain ⟨hsv1, hsv2⟩ := hsv (by rw [hpp]; simp)
          have hzs : str z.scope = .string sv := by rw [hsv1, (hgood.kids z (by rw [hpp]; simp)).1]
          subst hsv2
          have HN : Hid (∀ w2, w2.ownsRow w.heap.size 48 3 (.slice (some ⟨wc.heap.size, 0, none⟩) (pre.length + 1) nk) (pre.length + 1) (cs ++ [.iface tz (ptr gz), .string sv, .int .i64 (inD x.kind d : Int)]) →
              (wr.alloc (.cells #[.iface tz (ptr gz), .string sv, .int .i64 (inD x.kind d : Int)] 48)).grownBy w2 (some wc.heap.size) → PlaceLoop w wc ok x d nk (.slice (some ⟨wc.heap.size, 0, none⟩) (pre.length + 1) nk) (.int .i64 ((pre.length + 1 : Nat) : Int)) w2) := by
            intro w2 ho2 hg2
            have e1 : (pre ++ [z]).length = pre.length + 1 := by simp
            refine ⟨pre ++ [z], post, _, by rw [hpp]; simp, by rw [e1], by rw [e1], by rw [e1]; exact ho2, ?_, (q3.alloc _).grown hg2 (fun k e => .inr (by cases e; omega)), by have := hg2.size; simp at this; omega⟩
            have := hpl.snoc hzu
            rw [hzs] at this
            exact this
          have HO := Lib.hid (hown.alloc (.cells #[.iface tz (ptr gz), .string sv, .int .i64 (inD x.kind d : Int)] 48))
          have HB := Lib.hid (Blk.new wr #[.iface tz (ptr gz), .string sv, .int .i64 (inD x.kind d : Int)] 48)
          clear hgood hsv hnk hrow hus hpp hpl2 hown hpl q3 HG hv hg1 hg2 hcell hzu hu hzs hlt hsv1
          go_wp2_with (at_builtin; refine wpList_append_fits _ rfl _ _ 103 rfl w.heap.size 48 i0 3 Try.underlying103 hi hz1 wc.heap.size pre.length nk cs rfl HO.out ⟨wr.heap.size, 0, none⟩ 1 1 [.iface tz (ptr gz), .string sv, .int .i64 (inD x.kind d : Int)] rfl rfl ?cc ?oc (by omega) ?_)
          case cc =>
            intro j u hu
            have hadd : (⟨wr.heap.size, 0, none⟩ : Addr).add j = ⟨wr.heap.size, j, none⟩ := by unfold Addr.add; split <;> simp_all
            rw [hadd, HB.out.cell j]
            simpa using hu
          case oc =>
            intro u hu
            simp at hu
            rcases hu with rfl | rfl | rfl <;> rfl
          intro w2 ho2 hg2
          have HE := Lib.hid (HN.out w2 ho2 hg2)
          clear ho2 hg2 HN
          go_wp2_with fail
          go_roundw
          case rel => exact HE.out
          case measure => simp [intOf]; omega

end Go.Proofs.Ytmdpnhkdbkclgaa
