/-
  Walks of the library's slices.Grow and slices.Concat at the program's steps: what a branch's two lists come to.
  Walks of the program: inner.
  Walks of the program: placesWithin; and the iterator that it hands back.
-/
import Derived.Test.YtkfcgamdlckncaaGreatIjW
import Derived.Test.YtkfcgamdlckncaaGreatProg
import Derived.WalkKit
import Derived.Lib.Hide
import Derived.Lib.AppendZeros
import Derived.Deep.Upon
import Derived.OwnWalk
import Derived.StillTailTactics
import Derived.Deep.RegionWith
import Derived.Deep.RegionLaw
import Derived.Deep.LoopGhost
import Derived.Deep.Cut
import Derived.Deep.DeepCutAuto
import Derived.BigQuiet
import Derived.Deep.QuietTactic
import Derived.Outline
import Derived.Deep.CutBlock
import Derived.RangeFuncLeaves
import Derived.TacticsInMore
import Derived.LoopIn
import Derived.OwnWalkIn
import Derived.RangeFuncBox
import Derived.Shelf.Abstract
namespace Go.Proofs.YtkfcgamdlckncaaGreat
set_option linter.unusedVariables false
set_option linter.unusedSimpArgs false
open Go.RowKit

theorem Tryz.info104 : (Tryz.prog.info? 104).map (fun i => (i.zero, i.size, i.bytes)) = some (some .nilIface, 1, 16) := by kernel_rfl

/-- append of a row onto a row that has room for it. -/
theorem run_append_row {P : Program} (w : World) (t ty e : TypeId) (i : TypeInfo) (size : Nat) (ht : P.underlying t = some (.slice e)) (hi : P.info? e = some i) (hsize : i.size = size)
    (base : Nat) (a : Option Addr) (k c : Nat) (xs : List Value) (hown : w.ownsRow base e size (.slice a k c) k xs)
    (base2 : Nat) (x : Value) (m : Nat) (ys : List Value) (hx : w.ownsRow base2 e size x m ys) (h1 : ∀ u ∈ ys, u.oneCell' = true) (hroom : k + m ≤ c) :
    ∃ w', (Builtin.append_ #[t, t] ty #[.slice a k c, x]).run P w = .ok (.slice a (k + m) c) w' ∧ w'.ownsRow base e size (.slice a (k + m) c) (k + m) (xs ++ ys) ∧ w.grownBy w' (Value.slice a k c).ownBlock := by
  have hxc : ∀ g, x.ownBlock = some g → ∀ j u, ys[j]? = some u → w.cell? ((⟨g, 0, none⟩ : Addr).add j) = some u := fun g hg => hx.cells hg
  rcases hx.2 with ⟨rfl, rfl⟩ | ⟨g2, c2, cur2, rfl, _⟩
  · have hy : ys = [] := List.eq_nil_of_length_eq_zero (by simpa using hx.1)
    subst hy
    exact ⟨w, run_append_owned_none w base t ty e i size ht hi _ k xs hown, by simpa using hown, World.grownBy.refl _ _⟩
  · rcases hown.2 with ⟨h, rfl⟩ | ⟨g, cap, cur, h, _⟩
    · simp only [Value.slice.injEq] at h
      obtain ⟨rfl, _, rfl⟩ := h
      obtain rfl : m = 0 := by omega
      have hy : ys = [] := List.eq_nil_of_length_eq_zero (by simpa using hx.1)
      subst hy
      refine ⟨w, ?_, by simpa using hown, World.grownBy.refl _ _⟩
      exact run_append_nothing (P := P) w t t ty e i ht hi none 0 0 (Nat.le_refl _) _ (Src.ofSlice w ht ⟨g2, 0, none⟩ 0 c2 [] (by simp) (fun j u hu => by simp at hu) (fun u hu => by simp at hu))
    · simp only [Value.slice.injEq] at h
      obtain ⟨rfl, _, rfl⟩ := h
      exact run_append_fits (P := P) w base t ty e i size ht hi hsize g k c xs hown ⟨g2, 0, none⟩ m c2 ys hx.1 (hxc g2 rfl) h1 hroom

def GrowPost (w : World) (n : Nat) (e : Ending) (w' : World) : Prop :=
  ∃ a c, e = .returned (.slice a 0 c) ∧ n ≤ c ∧ w'.ownsRow w.heap.size 104 1 (.slice a 0 c) 0 [] ∧ Keeps noB w w'

theorem grow_zero (w : World) : Calls Tryz.prog 115 #[.slice none 0 0, .int .i64 0] w (GrowPost w 0) := by
  go_enter Tryz.func115, Tryz.ntmps115
  go_wp2
  go_ret
  exact ⟨none, 0, rfl, Nat.le_refl _, World.ownsRow_nil w _ _ _, Keeps.refl _ _⟩

set_option maxHeartbeats 1000000 in
theorem grow_some (n : Nat) (h0 : 0 < n) (hn : n ≤ 1000) (w : World) : Calls Tryz.prog 115 #[.slice none 0 0, .int .i64 (n : Int)] w (GrowPost w n) := by
  obtain ⟨i0, hi, hz0, hz1, hz2⟩ := info_parts Tryz.info104
  have h1 : ¬ ((n : Int) < 0) := by omega
  have h4 : (0 : Int) < (n : Int) := by omega
  have hnn : ¬ n = 0 := by omega
  have hrz : ∀ ty, (Builtin.append_ #[128, 3] ty #[.slice none 0 0, .int .i64 (n : Int)]).run Tryz.prog w = _ := fun ty =>
    Lib.run_append_nil_zeros w 128 3 ty 104 i0 .nilIface .i64 .i64 Tryz.underlying128 Tryz.underlying3 hi hz0 n h0 (by omega) (by omega) (by rw [hz2]; omega)
  obtain ⟨c, hc⟩ : ∃ c, c = grownCap w n 0 104 := ⟨_, rfl⟩
  have hge : n ≤ c := by rw [hc]; exact grownCap_ge w n 0 _
  have hle : c ≤ maxLen := by rw [hc]; exact grownCap_le_maxLen w n 0 _ (by unfold maxLen; omega)
  rw [← hc] at hrz
  have HP : Hid (GrowPost w n (.returned (.slice (some ⟨w.heap.size, 0, none⟩) 0 c)) (w.drew.alloc (.cells (Builtin.zeroCells Value.nilIface.cells n ++ Builtin.zeroCells Value.nilIface.cells (c - n)) 104))) := by
    refine ⟨_, _, rfl, hge, ⟨rfl, .inr ⟨w.heap.size, c, _, rfl, Nat.le_refl _, World.alloc_heap_new w.drew _, Nat.zero_le _, hle, ?_, by simp⟩⟩, ((Keeps.refl _ _).drew).alloc _⟩
    rw [Array.size_append, size_zeroCells, size_zeroCells]
    simp only [Value.cells, List.size_toArray, List.length_cons, List.length_nil]
    omega
  have hle' : (c : Int) ≤ 9223372036854775807 := by unfold maxLen at hle; omega
  clear hc hge hle
  go_enter Tryz.func115, Tryz.ntmps115
  go_wp2_with (at_builtin; refine Lib.wpList_append_run _ rfl _ _ _ _ rfl _ _ rfl rfl _ _ (hrz _) ?_)
  all_goals (go_ret; exact HP.out)

/-- What the second loop of Concat has put together. -/
def CatAt (w : World) (n1 n2 : Nat) (xs ys : List Value) (v6 v27 : Value) (wr : World) : Prop :=
  ∃ a k c zs, v6 = .slice a k c ∧ n1 + n2 ≤ c ∧ Keeps noB w wr ∧ wr.ownsRow w.heap.size 104 1 (.slice a k c) k zs ∧
    ((v27 = .int .i64 0 ∧ k = 0 ∧ zs = []) ∨ (v27 = .int .i64 1 ∧ k = n1 ∧ zs = xs) ∨ (v27 = .int .i64 2 ∧ k = n1 + n2 ∧ zs = xs ++ ys))

def ConcatPost (w : World) (n : Nat) (zs : List Value) (e : Ending) (w' : World) : Prop :=
  ∃ a c, e = .returned (.slice a n c) ∧ w'.ownsRow w.heap.size 104 1 (.slice a n c) n zs ∧ Keeps noB w w'

theorem CatAt.next {w wr w2 : World} {n1 n2 k m c : Nat} {xs ys zs us : List Value} {a : Option Addr} {v : Value} (q : Keeps noB w wr) (hown : wr.ownsRow w.heap.size 104 1 (.slice a k c) k zs)
    (ho2 : w2.ownsRow w.heap.size 104 1 (.slice a (k + m) c) (k + m) (zs ++ us)) (hg : wr.grownBy w2 (Value.slice a k c).ownBlock) (hc : n1 + n2 ≤ c)
    (hh : (v = .int .i64 0 ∧ k + m = 0 ∧ zs ++ us = []) ∨ (v = .int .i64 1 ∧ k + m = n1 ∧ zs ++ us = xs) ∨ (v = .int .i64 2 ∧ k + m = n1 + n2 ∧ zs ++ us = xs ++ ys)) : CatAt w n1 n2 xs ys (.slice a (k + m) c) v w2 :=
  ⟨a, k + m, c, _, rfl, hc, q.grown hg (fun g e => .inr (hown.lt g e).1), ho2, hh⟩

set_option maxRecDepth 100000 in
set_option maxHeartbeats 2000000 in
theorem concat_any (b : Nat) (vx vy : Value) (n1 n2 : Nat) (xs ys : List Value) (w : World) (ok : Nat → Prop) (hb : Blk w b #[vx, vy] 128) (hx : Row w ok 104 1 vx n1 xs) (hy : Row w ok 104 1 vy n2 ys)
    (hx1 : ∀ u ∈ xs, u.oneCell' = true) (hy1 : ∀ u ∈ ys, u.oneCell' = true) (hs : n1 + n2 ≤ 1000) :
    Calls Tryz.prog 90 #[.slice (some ⟨b, 0, none⟩) 2 2] w (ConcatPost w (n1 + n2) (xs ++ ys)) := by
  obtain ⟨ax, cx, rfl⟩ := row_shape hx
  obtain ⟨ay, cy, rfl⟩ := row_shape hy
  have r0 := hb.cell 0
  have r1 := hb.cell 1
  simp at r0 r1
  have HX := Lib.hid hx
  have HY := Lib.hid hy
  have hbl := hb.lt
  clear hx hy
  go_enter Tryz.func90, Tryz.ntmps90
  go_wp2_with fail
  go_loop [3, 11] (fun v3 v11 => (v3 = .int .i64 0 ∧ v11 = .int .i64 0) ∨ (v3 = .int .i64 (n1 : Int) ∧ v11 = .int .i64 1) ∨ (v3 = .int .i64 ((n1 + n2 : Nat) : Int) ∧ v11 = .int .i64 2)) (fun _ v11 => 2 - (intOf v11).toNat)
  case atStart => exact .inl ⟨rfl, rfl⟩
  case round =>
    rcases hrel with ⟨rfl, rfl⟩ | ⟨rfl, rfl⟩ | ⟨rfl, rfl⟩
    · have hn : ¬ (n1 : Int) < 0 := by omega
      go_wp2_with fail
      go_round
      case rel => exact .inr (.inl ⟨rfl, rfl⟩)
      case measure => simp [intOf]
    · have hn : ¬ ((n1 : Int) + (n2 : Int)) < 0 := by omega
      go_wp2_with fail
      go_round
      case rel => exact .inr (.inr ⟨by go_num, rfl⟩)
      case measure => simp [intOf]
    · have HG : Hid (∀ w, Calls Tryz.prog 115 #[.slice none 0 0, .int .i64 ((n1 + n2 : Nat) : Int)] w (GrowPost w (n1 + n2))) := by
        intro w
        by_cases h0 : n1 + n2 = 0
        · rw [h0]; exact grow_zero w
        · exact grow_some _ (by omega) (by omega) w
      go_wp2_with fail
      refine (HG.out _).mono ?_
      rintro e w1 ⟨a1, c1, rfl, hc1, ho1, q1⟩
      have HC : Hid (CatAt w n1 n2 xs ys (.slice a1 0 c1) (.int .i64 0) w1) := ⟨a1, 0, c1, [], rfl, hc1, q1, ho1, .inl ⟨rfl, rfl, rfl⟩⟩
      clear hc1 ho1 q1
      go_wp2_with fail
      go_loopw [6, 27] (fun v6 v27 wr => CatAt w n1 n2 xs ys v6 v27 wr) (fun _ v27 _ => 2 - (intOf v27).toNat)
      case atStart => exact HC.out
      case round =>
        clear HC
        obtain ⟨i0, hi, hz0, hz1, hz2⟩ := info_parts Tryz.info104
        obtain ⟨a, k, c, zs, rfl, hc, q, hown, hcase⟩ := hrel
        have s0 := (q.cell (p := ⟨b, 0, none⟩) hbl id).trans r0
        have s1 := (q.cell (p := ⟨b, 1, none⟩) hbl id).trans r1
        rcases hcase with ⟨rfl, rfl, rfl⟩ | ⟨rfl, rfl, rfl⟩ | ⟨rfl, rfl, rfl⟩
        · have hxw := q.ownsRow HX.out.1 (fun _ _ _ => id)
          obtain ⟨w2, hr, ho2, hg⟩ := run_append_row (P := Tryz.prog) wr 128 128 104 i0 1 Tryz.underlying128 hi hz1 w.heap.size a 0 c [] hown 0 _ n1 xs hxw hx1 (by omega)
          have HE : Hid (CatAt w n1 n2 xs ys (.slice a (0 + n1) c) (.int .i64 1) w2) := CatAt.next q hown ho2 hg hc (.inr (.inl ⟨rfl, by omega, by simp⟩))
          rw [Nat.zero_add] at HE hr
          clear ho2 hg hxw hown q
          go_wp2_with (at_builtin; refine Lib.wpList_append_run _ rfl _ _ _ _ rfl _ _ rfl rfl _ _ hr ?_)
          go_roundw
          case rel => exact HE.out
          case measure => simp [intOf]
        · have hyw := q.ownsRow HY.out.1 (fun _ _ _ => id)
          obtain ⟨w2, hr, ho2, hg⟩ := run_append_row (P := Tryz.prog) wr 128 128 104 i0 1 Tryz.underlying128 hi hz1 w.heap.size a k c zs hown 0 _ n2 ys hyw hy1 (by omega)
          have HE : Hid (CatAt w k n2 zs ys (.slice a (k + n2) c) (.int .i64 2) w2) := CatAt.next q hown ho2 hg hc (.inr (.inr ⟨rfl, rfl, rfl⟩))
          clear ho2 hg hyw hown q
          go_wp2_with (at_builtin; refine Lib.wpList_append_run _ rfl _ _ _ _ rfl _ _ rfl rfl _ _ hr ?_)
          go_roundw
          case rel => exact HE.out
          case measure => simp [intOf]
        · have HF : Hid (ConcatPost w (n1 + n2) (xs ++ ys) (.returned (.slice a (n1 + n2) c)) wr) := ⟨a, c, rfl, hown, q⟩
          clear hown q
          go_wp2_with fail
          go_ret
          exact HF.out

end Go.Proofs.YtkfcgamdlckncaaGreat

namespace Go.Proofs.YtkfcgamdlckncaaGreat
set_option linter.unusedVariables false
set_option linter.unusedSimpArgs false
open Go.RowKit

/-- 'inner' hands back the places of what stands in a step. -/
def KidsPost (w : World) (ok : Nat → Prop) (x : Nd) (d : Nat) (e : Ending) (w' : World) : Prop :=
  ∃ a n m cs, e = .returned (.slice a n m) ∧ n = x.bodies.kids.length ∧ Row w' (fromB w.heap.size) 106 3 (.slice a n m) n cs ∧ PlacesAt w ok (inD x.kind d) x.bodies.kids cs ∧ Keeps noB w w'

theorem Keeps.drewN {may : Nat → Prop} {a w : World} (h : Keeps may a w) (n : Nat) : Keeps may a (w.drewN n) := ⟨h.os, h.tape, h.output, h.size, h.block⟩


theorem Tryz.info106 : (Tryz.prog.info? 106).map (fun i => (i.zero, i.size, i.bytes)) = some (some (.agg #[.nilIface, .string ⟨#[]⟩, .int .i64 0]), 3, 40) := by kernel_rfl

/-- Ahead of the places: what stands in the step, and what is around it. -/
def KidsCut (w : World) (ok : Nat → Prop) (x : Nd) (d : Nat) (v3 v4 v5 : Value) (wc : World) : Prop :=
  ∃ a m us, v3 = .slice a x.bodies.kids.length m ∧ Row wc (fun g => ok g ∨ w.heap.size ≤ g) 104 1 (.slice a x.bodies.kids.length m) x.bodies.kids.length us ∧ KidsI w ok x.bodies.kids us ∧ Keeps noB w wc ∧
    ∃ sv dv, v4 = .string sv ∧ v5 = .int .i64 dv ∧ (x.bodies.kids ≠ [] → .string sv = str (x.scope ++ x.vars) ∧ dv = (inD x.kind d : Int))

/-- What the loop over the steps has made. -/
def PlaceLoop (w wc : World) (ok : Nat → Prop) (x : Nd) (d nk : Nat) (v9 v58 : Value) (wr : World) : Prop :=
  ∃ (pre post : List Nd) (cs : List Value), x.bodies.kids = pre ++ post ∧ v58 = .int .i64 pre.length ∧ v9 = .slice (some ⟨wc.heap.size, 0, none⟩) pre.length nk ∧ wr.ownsRow w.heap.size 106 3 v9 pre.length cs ∧
    PlacesAt w ok (inD x.kind d) pre cs ∧ Keeps noB wc wr ∧ wc.heap.size < wr.heap.size

set_option maxRecDepth 100000 in
set_option maxHeartbeats 4000000 in
theorem inner_any (s : ByteArray) (x : Nd) (d : Nat) (v : Value) (ok : Nat → Prop) (w : World) (hN : x.pre.len ≤ 200) (hx : x.Ok s d) (hs : s.size ≤ 80) (hr : RepI w ok x v) (hok : ∀ k, ok k → k < w.heap.size) :
    Calls Tryz.prog 66 #[placeV v x.scope d] w (KidsPost w ok x d) := by
  obtain ⟨ty, g, rfl⟩ := rep_iface _ _ _ _ hr
  obtain ⟨ss, hss⟩ : ∃ ss, str x.scope = .string ss := ⟨_, rfl⟩
  have hpv : placeV (.iface ty (ptr g)) x.scope d = .agg #[.iface ty (ptr g), .string ss, .int .i64 (d : Int)] := by unfold placeV; rw [hss]; rfl
  rw [hpv]
  clear hpv
  have HR := Lib.hid hr
  have HS := Lib.hid hss
  clear hr hss
  have c0 := (Blk.new w #[.iface ty (ptr g), .string ss, .int .i64 (d : Int)] 106).cell 0
  go_enter Tryz.func66, Tryz.ntmps66
  go_upto_region 2 with fail
  go_cut [4, 5] (fun v4 v5 wc => v4 = .string ss ∧ v5 = .int .i64 (d : Int) ∧ Keeps noB w wc ∧ Blk wc w.heap.size #[.iface ty (ptr g), .string ss, .int .i64 (d : Int)] 106)
  case first =>
    go_quiet (fail)
    go_wp2_with fail
    go_meet
    exact ⟨rfl, rfl, ((Keeps.refl _ w).alloc _).drewN _, Blk.new w _ _⟩
  case rest =>
    obtain ⟨rfl, rfl, q1, b1⟩ := hcut
    have r0 := b1.cell 0
    simp at r0
    clear c0
    go_upto_block 0 with fail
    go_cut [3, 4, 5] (fun v3 v4 v5 wc => KidsCut w ok x d v3 v4 v5 wc)
    case first =>
      have hr := HR.out
      have hss := HS.out
      clear HR HS
      cases x with
      | mk c k e vs ar bs =>
      cases bs with
      | nil =>
        simp only [RepI] at hr
        have HK : Hid (∀ wc, Keeps noB w wc → KidsCut w ok (.mk c k e vs ar .nil) d (.slice none 0 0) (.string ss) (.int .i64 d) wc) := fun wc q =>
          ⟨none, 0, [], rfl, ⟨⟨rfl, .inl ⟨rfl, rfl⟩⟩, fun g hg => by simp [Value.ownBlock] at hg⟩, rfl, q, ss, d, rfl, rfl, fun e => (e rfl).elim⟩
        obtain ⟨g', hg', h1⟩ := hr
        rcases h1 with ⟨_, t, _, h3, _⟩ | ⟨_, t, u, _, h3, _⟩ | ⟨_, _, h3, _⟩
        all_goals
          obtain ⟨rfl, rfl⟩ : ty = _ ∧ g = g' := by simpa [ptr] using h3
          clear h3
        · have a1 := isVB (ptr g)
          have a2 := isVO (ptr g)
          have a3 := isVS (ptr g)
          go_wp2_with fail
          go_meet
          exact HK.out _ q1
        · have a1 := isVB (ptr g)
          have a2 := isVO (ptr g)
          have a3 := isVS (ptr g)
          go_wp2_with fail
          go_meet
          exact HK.out _ q1
        · have a1 := isLB (ptr g)
          have a2 := isLO (ptr g)
          have a3 := isLS (ptr g)
          go_wp2_with fail
          go_meet
          exact HK.out _ q1
      | cons y1 bs =>
      cases bs with
      | nil =>
        simp only [RepI] at hr
        obtain ⟨vx, n, xs, ⟨g', hg', h1⟩, hrow, hrl⟩ := hr
        obtain ⟨ax, mx, rfl⟩ := row_shape hrow
        have hxl := (KidsI.of_repIL hrl).len
        have hrn := hrow.1.1
        obtain rfl : n = y1.list.length := by omega
        have hk1 : (Nd.mk c k e vs ar (.cons y1 .nil)).bodies.kids = y1.list := by simp [Nd.bodies, Bds.kids]
        have HC : Hid (∀ wc, Keeps noB w wc → ∀ sv dv, .string sv = str (ar ++ vs) → dv = (inD c d : Int) → KidsCut w ok (.mk c k e vs ar (.cons y1 .nil)) d (.slice ax y1.list.length mx) (.string sv) (.int .i64 dv) wc) := by
          intro wc q sv dv h3 h4
          unfold KidsCut
          rw [hk1]
          exact ⟨ax, mx, xs, rfl, (Hands.of_keeps q (fun _ _ _ => id) (fun g hg _ => .inl hg)).row _ _ _ _ _ hrow, KidsI.of_repIL hrl, q, sv, dv, rfl, rfl, fun _ => ⟨h3, h4⟩⟩
        clear hrow hrl hxl hrn hk1
        rcases h1 with ⟨rfl, rfl, h3, hb⟩ | ⟨rfl, h3, hb⟩
        all_goals
          obtain ⟨rfl, rfl⟩ : ty = _ ∧ g = g' := by simpa [ptr] using h3
          clear h3
          have hbw := q1.blk hb id
          have r1 := hbw.cell 0
          have r2 := hbw.cell 1
          have r3 := hbw.cell 2
        · simp at r1 r2 r3
          have a1 := isOB (ptr g)
          have a2 := isOO (ptr g)
          unfold ptr at a1 a2 r0 ⊢
          go_wp2_with fail
          go_meet
          exact HC.out _ q1 _ _ (by rw [List.append_nil]; exact hss.symm) rfl
        · have r4 := hbw.cell 3
          simp at r1 r2 r3 r4
          obtain ⟨sv, hsv⟩ : ∃ sv, str vs = .string sv := ⟨_, rfl⟩
          rw [hsv] at r3
          have e1 : ss = ⟨ar.toArray⟩ := by unfold str at hss; injection hss with h; exact h.symm
          have e2 : sv = ⟨vs.toArray⟩ := by unfold str at hsv; injection hsv with h; exact h.symm
          have hg := hx.good
          have hroom := hg.room
          have hle := hg.le
          simp only [Nd.scope, Nd.vars, Nd.fin] at hroom hle
          have hz : ss.size + sv.size ≤ 80 := by rw [e1, e2]; simp only [ByteArray.size, List.size_toArray]; omega
          have hadd : ¬ 9223372036854775807 < ss.size + sv.size := by omega
          have hd5 : (d : Int) ≤ 4 := by have := hg.shal; omega
          have HSV : Hid (Value.string (ss ++ sv) = str (ar ++ vs)) := by
            subst e1 e2; unfold str; congr 1
          clear hsv hss hbw hb e1 e2 hg hroom hle hz
          have a1 := isSB (ptr g)
          have a2 := isSO (ptr g)
          have a3 := isSS (ptr g)
          unfold ptr at a1 a2 a3 r0 ⊢
          go_wp2_with fail
          go_meet
          exact HC.out _ q1 _ _ HSV.out (by unfold inD; rfl)
      | cons y2 bs =>
      cases bs with
      | cons y3 bs => simp only [RepI] at hr
      | nil =>
        simp only [RepI] at hr
        obtain ⟨vx, vy, n, xs, m, ys, ⟨g', hg', rfl, rfl, h3, hb⟩, ⟨hrx, hlx⟩, hry, hly⟩ := hr
        obtain ⟨rfl, rfl⟩ : ty = _ ∧ g = g' := by simpa [ptr] using h3
        clear h3
        obtain ⟨ax, mx, rfl⟩ := row_shape hrx
        obtain ⟨ay, my, rfl⟩ := row_shape hry
        have hkx := KidsI.of_repIL hlx
        have hky := KidsI.of_repIL hly
        obtain rfl : n = y1.list.length := by have := hkx.len; have := hrx.1.1; omega
        obtain rfl : m = y2.list.length := by have := hky.len; have := hry.1.1; omega
        have hk1 : (Nd.mk 63 k e [] ar (.cons y1 (.cons y2 .nil))).bodies.kids = y1.list ++ y2.list := by simp [Nd.bodies, Bds.kids]
        have hkn := kids_len (Nd.mk 63 k e [] ar (.cons y1 (.cons y2 .nil)))
        rw [hk1, List.length_append] at hkn
        have hbw := q1.blk hb id
        have r2 := hbw.cell 2
        have r3 := hbw.cell 3
        simp at r2 r3
        have HC : Hid (∀ wc w2 a m, Keeps noB w wc → Keeps noB wc w2 → w2.ownsRow wc.heap.size 104 1 (.slice a (y1.list.length + y2.list.length) m) (y1.list.length + y2.list.length) (xs ++ ys) →
            KidsCut w ok (.mk 63 k e [] ar (.cons y1 (.cons y2 .nil))) d (.slice a (y1.list.length + y2.list.length) m) (.string ss) (.int .i64 d) w2) := by
          intro wc w2 a m q q2 ho
          unfold KidsCut
          rw [hk1, List.length_append]
          refine ⟨a, m, xs ++ ys, rfl, ⟨⟨ho.1, ho.2.imp id (fun ⟨g, c, cur, h1, _, h3⟩ => ⟨g, c, cur, h1, Nat.zero_le _, h3⟩)⟩, fun g hg => .inr ?_⟩, hkx.app hky, q.trans q2, ss, d, rfl, rfl, fun _ => ⟨by rw [← hss]; simp [Nd.scope, Nd.vars], by unfold inD; rfl⟩⟩
          have := q.size; have := (ho.lt g hg).1; omega
        have HX : Hid (∀ wc, Keeps noB w wc → Row wc (fun _ => True) 104 1 (.slice ax y1.list.length mx) y1.list.length xs ∧ Row wc (fun _ => True) 104 1 (.slice ay y2.list.length my) y2.list.length ys) := fun wc q =>
          ⟨⟨q.ownsRow hrx.1 (fun _ _ _ => id), fun _ _ => trivial⟩, q.ownsRow hry.1 (fun _ _ _ => id), fun _ _ => trivial⟩
        have HO1 := Lib.hid hkx.one
        have HO2 := Lib.hid hky.one
        have HL : Hid (y1.list.length + y2.list.length ≤ 1000) := Lib.hid (by omega)
        clear hrx hry hlx hly hkx hky hk1 hkn hbw hb hss
        have a1 := isBB (ptr g)
        unfold ptr at a1 r0 ⊢
        go_wp2_with fail
        go_still_tail 8, (by kernel_rfl)
        change wpList _ _ _ _ _ wc.drew
        have q2 : Keeps noB w wc.drew := q1.drew
        clear q1
        generalize wc.drew = wd at q2 ⊢
        have bq := Blk.new wd #[.slice ax y1.list.length mx, .slice ay y2.list.length my] 128
        have qa := q2.alloc (.cells #[.slice ax y1.list.length mx, .slice ay y2.list.length my] 128)
        have HB := Lib.hid (And.intro bq qa)
        clear bq qa
        go_wp2_with fail
        refine (concat_any wd.heap.size _ _ _ _ xs ys _ (fun _ => True) HB.out.1 (HX.out _ HB.out.2).1 (HX.out _ HB.out.2).2 HO1.out HO2.out HL.out).mono ?_
        rintro e w2 ⟨a, m, rfl, ho, q3⟩
        have HE := Lib.hid (HC.out _ _ a m HB.out.2 q3 ho)
        clear ho q3 HC HX HB
        go_wp2_with fail
        go_meet
        exact HE.out
    case rest =>
      clear r0 b1
      obtain ⟨ra, rm, us, rfl, hrow, hus, q2, sv, dv, rfl, rfl, hsv⟩ := hcut
      obtain ⟨i0, hi, hz0, hz1, hz2⟩ := info_parts Tryz.info106
      have hkl := kids_len x
      have hgood := hx.good
      obtain ⟨nk, hnk⟩ : ∃ nk, nk = x.bodies.kids.length := ⟨_, rfl⟩
      rw [← hnk] at hrow hkl ⊢
      have HG := Lib.hid (And.intro hgood (And.intro hsv (And.intro hnk (And.intro hrow hus))))
      clear hgood hsv hnk hrow hus
      go_upto_region 16 with (at_make; refine wpList_make_own _ rfl _ _ 135 rfl w.heap.size 106 i0 _ 3 Tryz.underlying135 hi hz0 hz1 _ _ _ nk rfl rfl rfl (by rw [hz2]; omega) (by unfold maxLen; omega) q2.size ?_)
      intro w1 hown1 hg1
      have HP : Hid (PlaceLoop w wc ok x d nk (.slice (some ⟨wc.heap.size, 0, none⟩) 0 nk) (.int .i64 0) w1) :=
        ⟨[], x.bodies.kids, [], rfl, rfl, rfl, hown1, rfl, (Keeps.refl _ _).grown hg1 (fun _ e => by cases e), (hown1.lt wc.heap.size rfl).2⟩
      clear hown1 hg1
      go_wp2_with fail
      go_loopw [9, 58] (fun v9 v58 wr => PlaceLoop w wc ok x d nk v9 v58 wr) (fun _ v58 _ => nk - (intOf v58).toNat)
      case atStart => exact HP.out
      case round =>
        clear HP
        obtain ⟨pre, post, cs, hpp, rfl, rfl, hown, hpl, q3, hlt⟩ := hrel
        obtain ⟨hgood, hsv, hnk, hrow, hus⟩ := HG.out
        have hpl2 := congrArg List.length hpp
        rw [List.length_append, ← hnk] at hpl2
        cases post with
        | nil =>
          have hd : ¬ pre.length < nk := by simp at hpl2; omega
          have HF : Hid (KidsPost w ok x d (.returned (.slice (some ⟨wc.heap.size, 0, none⟩) pre.length nk)) wr) := by
            refine ⟨_, _, _, cs, rfl, by simp at hpl2; omega, ⟨⟨hown.1, hown.2.imp id (fun ⟨g, c, cur, h1, _, h3⟩ => ⟨g, c, cur, h1, Nat.zero_le _, h3⟩)⟩, fun g hg => ?_⟩, ?_, q2.trans q3⟩
            · have := q2.size; simp [Value.ownBlock] at hg; show w.heap.size ≤ g; omega
            · rw [hpp, List.append_nil]; exact hpl
          clear hgood hsv hnk hrow hus hpp hpl2 hown hpl q3 HG
          go_wp2_with fail
          go_ret
          exact HF.out
        | cons z post =>
          have hd : pre.length < nk := by simp at hpl2; omega
          obtain ⟨g0, c0, hv, hg1, hg2, hcell⟩ := row_get hrow (by omega)
          obtain ⟨rfl, rfl⟩ : ra = some ⟨g0, 0, none⟩ ∧ rm = c0 := by simpa using hv
          obtain ⟨u, hzu, hu⟩ := hus.get hpp
          obtain ⟨tz, gz, rfl⟩ := rep_iface _ _ _ _ hzu
          have s0 := (q3.cell (p := ⟨g0, pre.length, none⟩) hg2 id).trans (hcell _ _ hu)
          obtain ⟨hsv1, hsv2⟩ := hsv (by rw [hpp]; simp)
          have hzs : str z.scope = .string sv := by rw [hsv1, (hgood.kids z (by rw [hpp]; simp)).1]
          subst hsv2
          have HN : Hid (∀ w2, w2.ownsRow w.heap.size 106 3 (.slice (some ⟨wc.heap.size, 0, none⟩) (pre.length + 1) nk) (pre.length + 1) (cs ++ [.iface tz (ptr gz), .string sv, .int .i64 (inD x.kind d : Int)]) →
              (wr.alloc (.cells #[.iface tz (ptr gz), .string sv, .int .i64 (inD x.kind d : Int)] 106)).grownBy w2 (some wc.heap.size) → PlaceLoop w wc ok x d nk (.slice (some ⟨wc.heap.size, 0, none⟩) (pre.length + 1) nk) (.int .i64 ((pre.length + 1 : Nat) : Int)) w2) := by
            intro w2 ho2 hg2
            have e1 : (pre ++ [z]).length = pre.length + 1 := by simp
            refine ⟨pre ++ [z], post, _, by rw [hpp]; simp, by rw [e1], by rw [e1], by rw [e1]; exact ho2, ?_, (q3.alloc _).grown hg2 (fun k e => .inr (by cases e; omega)), by have := hg2.size; simp at this; omega⟩
            have := hpl.snoc hzu
            rw [hzs] at this
            exact this
          have HO := Lib.hid (hown.alloc (.cells #[.iface tz (ptr gz), .string sv, .int .i64 (inD x.kind d : Int)] 106))
          have HB := Lib.hid (Blk.new wr #[.iface tz (ptr gz), .string sv, .int .i64 (inD x.kind d : Int)] 106)
          clear hgood hsv hnk hrow hus hpp hpl2 hown hpl q3 HG hv hg1 hg2 hcell hzu hu hzs hlt hsv1
          go_wp2_with (at_builtin; refine wpList_append_fits _ rfl _ _ 135 rfl w.heap.size 106 i0 3 Tryz.underlying135 hi hz1 wc.heap.size pre.length nk cs rfl HO.out ⟨wr.heap.size, 0, none⟩ 1 1 [.iface tz (ptr gz), .string sv, .int .i64 (inD x.kind d : Int)] rfl rfl ?cc ?oc (by omega) ?_)
          case cc =>
            intro j u hu
            have hadd : (⟨wr.heap.size, 0, none⟩ : Addr).add j = ⟨wr.heap.size, j, none⟩ := by unfold Addr.add; split <;> simp_all
            rw [hadd, HB.out.cell j]
            simpa using hu
          case oc =>
            intro u hu
            simp at hu
            rcases hu with rfl | rfl | rfl <;> rfl
          intro w2 ho2 hg2
          have HE := Lib.hid (HN.out w2 ho2 hg2)
          clear ho2 hg2 HN
          go_wp2_with fail
          go_roundw
          case rel => exact HE.out
          case measure => simp [intOf]; omega

end Go.Proofs.YtkfcgamdlckncaaGreat

namespace Go.Proofs.YtkfcgamdlckncaaGreat
set_option linter.unusedVariables false
set_option linter.unusedSimpArgs false
open Go.RowKit Go.Shelf

attribute [local go_sem] Oper.semAt_some

set_option maxHeartbeats 1000000 in
theorem placesWithin_any (v sv dv : Value) (w : World) : Calls Tryz.prog 45 #[.agg #[v, sv, dv]] w
    fun e w' => e = .returned (.func (.func 65) #[] #[ptr w.heap.size]) ∧ w' = w.alloc (.cells #[v, sv, dv] 106) := by
  go_enter Tryz.func45, Tryz.ntmps45
  go_wp2
  go_ret
  exact ⟨rfl, rfl⟩

/-- What the loop of the iterator holds: 'done' have been gone through; D: the marks of the loops over them. -/
def WithinAt (J : List PN → (Nat → Prop) → World → Prop) (l B : Nat) (x : Nd) (d : Nat) (v : Value) (W : World) (own1 : Nat → Prop) (W2 : World) (ra : Option Addr) (rn rm : Nat) (a : Act) (wr : World) : Prop :=
  ∃ (done todo : List Nd) (owni : Nat → Prop) (Ds : List Nat) (u4 u5 u14 u15 u16 u17 u18 u19 u20 u21 u22 u23 u24 : Value),
    a = { tmps := #[.func (.yield l) #[] #[], .pointer (some ⟨B, 0, none⟩), .pointer (some ⟨W.heap.size, 0, none⟩), undef, u4, u5, .func (.yield l) #[] #[], placeV v x.scope d, .bool true, .bool false, placeV v x.scope d,
      .slice ra rn rm, .int .i64 rn, .int .i64 done.length, u14, u15, u16, u17, u18, u19, u20, u21, u22, u23, u24], defers := Ds.map mark } ∧
    x.bodies.kids = done ++ todo ∧ J ((x, d) :: done.flatMap (fun z => z.preD (inD x.kind d))) owni wr ∧ Owns own1 owni W2 wr ∧
    Ds.Nodup ∧ ∀ D, D ∈ Ds → W2.heap.size ≤ D ∧ ¬ owni D ∧ wr.heap[D]? = some (.deferred (some []))

/-- What the iterator over a step's places is. -/
def WithinOk (N : Nat) : Prop := ∀ (s : ByteArray) (x : Nd) (d : Nat) (v : Value) (w0 W : World) (ok : Nat → Prop) (B : Nat), x.pre.len = N → N ≤ 200 → x.Ok s d → s.size ≤ 80 → RepI w0 ok x v → (∀ k, ok k → k < w0.heap.size) → w0.heap.size ≤ W.heap.size →
  SameOn ok w0 W → Blk W B #[v, str x.scope, i64 d] 106 →
  IterAt Tryz.prog 65 #[ptr B] (x.preD d) (encP w0 ok) (fun k => ok k ∨ k = B) W

/-- The marks behind one loop more. -/
theorem behind_marks {own1 owni own' : Nat → Prop} {W2 wr wq W' : World} {D : Nat} {Ds : List Nat} (q3 : Keeps noB wr wq) (hoi : Owns own1 owni W2 wr) (hb : Behind owni own' wq W' D) (hnd : Ds.Nodup)
    (hDs : ∀ D, D ∈ Ds → W2.heap.size ≤ D ∧ ¬ owni D ∧ wr.heap[D]? = some (.deferred (some []))) :
    (D :: Ds).Nodup ∧ ∀ D', D' ∈ D :: Ds → W2.heap.size ≤ D' ∧ ¬ own' D' ∧ W'.heap[D']? = some (.deferred (some [])) := by
  have hlt : ∀ D', D' ∈ Ds → D' < wr.heap.size := fun D' hD' => (Array.getElem?_eq_some_iff.1 (hDs D' hD').2.2).1
  have hs := q3.size
  have hs2 := hoi.keeps.size
  have hnw := hb.new
  refine ⟨List.nodup_cons.2 ⟨fun e => by have := hlt D e; omega, hnd⟩, fun D' hD' => ?_⟩
  rcases List.mem_cons.1 hD' with rfl | hD'
  · exact ⟨by omega, hb.free, hb.none⟩
  · obtain ⟨h1, h2, h3⟩ := hDs D' hD'
    have hl := hlt D' hD'
    exact ⟨h1, fun e => (hb.owns.more D' e).elim h2 (fun e => by omega), (hb.owns.keeps.block D' (by omega) h2).trans ((q3.block D' hl id).trans h3)⟩

set_option maxRecDepth 100000 in
set_option maxHeartbeats 4000000 in
theorem within_ok (N : Nat) (ih : ∀ m, m < N → WithinOk m) : WithinOk N := by
  intro s x d v w0 W ok B hlen hN hx hs hr hok hsz hsame hB l J Jx own hJ hJx hown hprot hR h0 n
  obtain ⟨F, hF⟩ : ∃ F, F = Fence.wide := ⟨_, rfl⟩
  have hFf : ∀ f, F.fn f := by subst hF; exact fun _ => trivial
  have hdd : ∀ k : Nat, (F.depth.isSome = true → 1 ≤ k) := by subst hF; intro k h; simp [Fence.wide] at h
  have hro : F.round = none := by subst hF; rfl
  rw [← hF]
  have HF := Lib.hid hF
  clear hF
  refine callsIn_of_wp_marks Tryz.func65 rfl (hFf _) ?_ hro
  simp only [Tryz.ntmps65, List.size_toArray, List.length_cons, List.length_nil, Nat.reduceAdd, Nat.reduceSub, Array.replicate_succ, Array.replicate_zero, List.push_toArray, List.append_toArray, List.nil_append, List.cons_append]
  have b1 : Blk (W.alloc (.cells #[.func (.yield l) #[] #[]] 134)) W.heap.size #[.func (.yield l) #[] #[]] 134 := Blk.new _ _ _
  have b2 := hB.alloc (.cells #[.func (.yield l) #[] #[]] 134)
  have q0 : Keeps noB W (W.alloc (.cells #[.func (.yield l) #[] #[]] 134)) := (Keeps.refl _ _).alloc _
  have r0 := b1.cell 0
  have r1 := b2.cell 0
  have r2 := b2.cell 1
  have r3 := b2.cell 2
  simp at r0 r1 r2 r3
  have hpre := Nd.preD_eq x d
  have h1 := hJ _ _ _ _ h0 (q0.mono (fun _ e => e.elim))
  obtain ⟨fn, tmps, assign, body, hy, hRd⟩ := hR (n - 1) [] (x, d) _ #[placeV v x.scope d] own _ hpre ⟨v, rfl, hr⟩ h1 (fun k hk => by have := hown k hk; simp; omega)
  have HP := Lib.hid hpre
  have HR := Lib.hid hR
  clear hR hpre
  simp only [placeV] at hy
  unfold ptr
  rw [← HF.out] at hRd
  have hBn : ¬ own B := hprot B (.inr rfl)
  have hBl := hB.lt
  gi_wp2
  refine ⟨hdd _, hRd.mono ?_⟩
  clear hRd hy r0 r1 r2 r3
  rintro e W1 ⟨own1, ho1, (⟨rfl, hj1⟩ | ⟨rfl, hj1⟩)⟩
  · have hs1 : W.heap.size + 1 ≤ W1.heap.size := by have := ho1.keeps.size; simpa using this
    have b3 : Blk W1 B #[v, str x.scope, i64 d] 106 := ho1.keeps.blk b2 hBn
    have r1 := b3.cell 0
    have r2 := b3.cell 1
    have r3 := b3.cell 2
    simp at r1 r2 r3
    have same1 : SameOn ok w0 W1 := fun k hk hl => (ho1.keeps.block k (by simp; omega) (hprot k (.inl hk))).trans ((q0.block k (by omega) id).trans (hsame k hk hl))
    have HI := Lib.hid (inner_any s x d v ok W1 (by omega) hx hs ((Hands.of_same same1 hok).repI _ _ hr) (fun k hk => by have := hok k hk; omega))
    gi_wp2
    refine ⟨hdd _, CallsIn.mono (by rw [HF.out]; exact callsIn_wide.2 HI.out) ?_⟩
    rintro e W2 ⟨ra, rn, rm, cs, rfl, hn, hrow, hpl, q2⟩
    have HN := Lib.hid hn
    clear hn r1 r2 r3
    gi_wp2
    refine wpIn_loop (WithinAt J l B x d v W own1 W2 ra rn rm) (fun a _ => (intOf (a.tmps.getD 12 undef)).toNat - (intOf (a.tmps.getD 13 undef)).toNat) ?_ ?_
    · exact ⟨[], _, own1, [], _, _, _, _, _, _, _, _, _, _, _, _, _, rfl, rfl, hJ _ _ _ _ hj1 (q2.mono (fun _ e => e.elim)), Owns.refl (fun k hk => Nat.lt_of_lt_of_le (ho1.lt k hk) q2.size), List.nodup_nil, fun D hD => by cases hD⟩
    · rintro a wr ⟨done, todo, owni, Ds, u4, u5, u14, u15, u16, u17, u18, u19, u20, u21, u22, u23, u24, rfl, hkids, hji, hoi, hnd, hDs⟩
      have hdl := congrArg List.length hkids
      rw [List.length_append, ← HN.out] at hdl
      have HK := Lib.hid hkids
      have HDL := Lib.hid hdl
      have hoW : Owns own owni W wr := (Owns.behind q0 ho1).trans (Owns.behind q2 hoi)
      cases todo with
      | nil =>
        have hd : ¬ done.length < rn := by simp at hdl; omega
        clear hkids hdl
        gi_wp2
        refine leaves_marks Ds wr hnd (fun D hD => (hDs D hD).2.2) (fun W' q _ => ?_)
        refine ⟨_, results_none rfl _ _ _, _, owni, rfl, ?_, .inl ?_⟩
        · refine hoW.ahead q (fun i hi => ?_)
          have := (hDs i hi).1; have := q2.size; have := ho1.keeps.size; simp at this; omega
        · have hall : x.preD d = (x, d) :: done.flatMap (fun z => z.preD (inD x.kind d)) := by rw [HP.out, HK.out, List.append_nil]
          rw [hall]
          refine hJ _ _ _ _ hji (q.mono (fun i hi => ⟨?_, (hDs i hi).2.1⟩))
          have := (hDs i hi).1; have := q2.size; have := ho1.keeps.size; simp at this; omega
      | cons z todo =>
        have hd : done.length < rn := by simp at hdl; omega
        obtain ⟨g, rc, hv, hg1, hg2, hcell⟩ := row_get hrow (by omega)
        have hg1 : W1.heap.size ≤ g := hg1
        obtain ⟨rfl, rfl⟩ : ra = some ⟨g, 0, none⟩ ∧ rm = rc := by simpa using hv
        have hbg : wr.heap[g]? = W2.heap[g]? := hoi.keeps.block g hg2 (fun e => by have := ho1.lt g e; omega)
        obtain ⟨u, hzu, c0, c1, c2⟩ := hpl.get hkids
        have s0 := (World.cell?_of_block (w := W2) (w' := wr) (a := ⟨g, done.length * 3, none⟩) hbg).trans (hcell _ _ c0)
        have s1 := (World.cell?_of_block (w := W2) (w' := wr) (a := ⟨g, done.length * 3 + 1, none⟩) hbg).trans (hcell _ _ c1)
        have s2 := (World.cell?_of_block (w := W2) (w' := wr) (a := ⟨g, done.length * 3 + 2, none⟩) hbg).trans (hcell _ _ c2)
        have hzm : z ∈ x.bodies.kids := by rw [hkids]; simp
        have hzs := kid_small hzm
        have HZK := Lib.hid ((hx.good).kids z hzm)
        obtain ⟨ty, gu, rfl⟩ := rep_iface z _ _ _ hzu
        have HZU := Lib.hid hzu
        obtain ⟨ss, hss⟩ : ∃ ss, str z.scope = .string ss := ⟨_, rfl⟩
        rw [hss] at s1
        have HSS := Lib.hid hss
        unfold i64 at s2
        have hrn : rn < 200 := by rw [HN.out]; have := kids_len x; omega
        clear hkids hdl hv hbg c0 c1 c2 hzu hss
        have hpw := fun m => (callsIn_wide (n := m)).2 (placesWithin_any (.iface ty (ptr gu)) (.string ss) (.int .i64 (inD x.kind d : Int)) (wr.alloc (.cells #[.iface ty (ptr gu), .string ss, .int .i64 (inD x.kind d : Int)] 106)))
        rw [← HF.out] at hpw
        gi_wp2
        refine ⟨hdd _, (hpw _).mono ?_⟩
        clear hpw
        rintro e w' ⟨rfl, rfl⟩
        gi_wp2
        have q3 : Keeps noB wr ((wr.alloc (.cells #[.iface ty (ptr gu), .string ss, .int .i64 (inD x.kind d : Int)] 106)).alloc (.cells #[.iface ty (ptr gu), .string ss, .int .i64 (inD x.kind d : Int)] 106)) := ((Keeps.refl _ _).alloc _).alloc _
        have bq : Blk ((wr.alloc (.cells #[.iface ty (ptr gu), .string ss, .int .i64 (inD x.kind d : Int)] 106)).alloc (.cells #[.iface ty (ptr gu), .string ss, .int .i64 (inD x.kind d : Int)] 106)) (wr.heap.size + 1) #[.iface ty (ptr gu), str z.scope, i64 (inD x.kind d)] 106 := by
          rw [HSS.out]; have := Blk.new (wr.alloc (.cells #[.iface ty (ptr gu), .string ss, .int .i64 (inD x.kind d : Int)] 106)) #[.iface ty (ptr gu), .string ss, .int .i64 (inD x.kind d : Int)] 106; rwa [World.size_alloc] at this
        have hsq : ((wr.alloc (.cells #[.iface ty (ptr gu), .string ss, .int .i64 (inD x.kind d : Int)] 106)).alloc (.cells #[.iface ty (ptr gu), .string ss, .int .i64 (inD x.kind d : Int)] 106)).heap.size = wr.heap.size + 2 := by simp
        generalize (wr.alloc (.cells #[.iface ty (ptr gu), .string ss, .int .i64 (inD x.kind d : Int)] 106)).alloc (.cells #[.iface ty (ptr gu), .string ss, .int .i64 (inD x.kind d : Int)] 106) = wq at q3 bq hsq ⊢
        have hWr := hoW.keeps.size
        have hWq : W.heap.size ≤ wq.heap.size := by omega
        have hprot3 : ∀ k, ok k → ¬ owni k := fun k hk e => (hoW.more k e).elim (hprot k (.inl hk)) (fun e2 => by have := hok k hk; omega)
        have same3 : SameOn ok w0 wq := fun k hk hl => (q3.block k (by omega) id).trans ((hoW.keeps.block k (by omega) (hprot k (.inl hk))).trans (hsame k hk hl))
        refine wp_range HF.out (gf := 65) (lb := #[ptr (wr.heap.size + 1)]) (all := z.preD (inD x.kind d)) (enc := encP w0 ok) (prot := fun k => ok k ∨ k = wr.heap.size + 1) (own := owni)
          rfl (enters_of Tryz.func65 (by kernel_rfl) rfl) ?hiter
          (fun pre own' W' => J (((x, d) :: done.flatMap (fun z => z.preD (inD x.kind d))) ++ pre) own' W' ∧ Owns owni own' wq W')
          (fun c pre own' W' => (c = .ret ∧ Jx (((x, d) :: done.flatMap (fun z => z.preD (inD x.kind d))) ++ pre) own' W') ∧ Owns owni own' wq W') ?hI ?hIx ?hown ?hprot ?hps ?h0 ?hround ?hdone ?hstop
        case hiter =>
          intro W' q
          refine ih z.pre.len (by omega) s z (inD x.kind d) (.iface ty (ptr gu)) w0 W' ok (wr.heap.size + 1) rfl (by omega) (HZK.out).2 hs ?_ hok (by have := q.size; omega) (same3.keeps q (by omega) (fun _ _ e => e)) (q.blk bq id)
          exact (Hands.back same1 hok).repI _ _ HZU.out
        case hI => exact ((hJ.mono hWq).shift _).and Owns.stab
        case hIx =>
          intro c pre own W W' h q
          exact ⟨⟨h.1.1, (hJx.mono hWq).shift _ _ _ _ _ h.1.2 q⟩, Owns.stab pre _ _ _ h.2 q⟩
        case hown => intro k hk; have := hoi.lt k hk; omega
        case hprot =>
          rintro k (hk | rfl)
          · exact ⟨hprot3 k hk, by have := hok k hk; omega⟩
          · exact ⟨fun e => by have := hoi.lt _ e; omega, by omega⟩
        case hps => rintro y args ⟨v', rfl, _⟩; rfl
        case h0 => exact ⟨by rw [List.append_nil]; exact hJ _ _ _ _ hji (q3.mono (fun _ e => e.elim)), Owns.refl (fun k hk => by have := hoi.lt k hk; omega)⟩
        case hround =>
          intro lq m pre y post args own3 W3 hall henc hI3 hlt3 hql hnl hll
          obtain ⟨hj3, ho3⟩ := hI3
          obtain ⟨v', rfl, hv'⟩ := id henc
          have hno1 : ¬ own1 W.heap.size := fun e => (ho1.more _ e).elim (fun e => by have := hown _ e; omega) (fun e => by simp at e; omega)
          have b4 : Blk W3 W.heap.size #[.func (.yield l) #[] #[]] 134 := by
            refine ho3.keeps.blk (q3.blk (hoi.keeps.blk (q2.blk (ho1.keeps.blk b1 ?_) id) ?_) id) ?_
            · intro e; have := hown _ e; omega
            · exact hno1
            · intro e; exact (hoi.more _ e).elim hno1 (fun e => by have := q2.size; omega)
          obtain ⟨ty2, gy, rfl⟩ := rep_iface _ _ _ _ hv'
          obtain ⟨sy, hsy⟩ : ∃ sy, str y.1.scope = .string sy := ⟨_, rfl⟩
          have hpv : placeV (.iface ty2 (ptr gy)) y.1.scope y.2 = .agg #[.iface ty2 (ptr gy), .string sy, .int .i64 (y.2 : Int)] := by unfold placeV; rw [hsy]; rfl
          rw [hpv] at henc ⊢
          clear hsy hpv hv'
          gi_wp2
          refine ⟨(Keeps.refl _ _).alloc _, fun W5 q5 hs5 => ?_⟩
          rw [World.size_alloc] at hs5
          have hq3 := ho3.keeps.size
          have b5 : Blk W5 W.heap.size #[.func (.yield l) #[] #[]] 134 := q5.blk (b4.alloc _) (show W.heap.size ≠ lq by omega)
          have b6 : Blk W5 W3.heap.size #[.iface ty2 (ptr gy), .string sy, .int .i64 (y.2 : Int)] 106 := q5.blk (Blk.new _ _ _) (show W3.heap.size ≠ lq by omega)
          have k35 : Keeps (fun k => wq.heap.size ≤ k ∧ ¬ own3 k) W3 W5 := (((Keeps.refl noB _).alloc _).mono (fun _ e => e.elim)).trans (q5.mono (fun k e => by obtain rfl : k = lq := e; exact ⟨hql, hnl⟩))
          have hj5 := hJ _ _ _ _ hj3 (k35.mono (fun k e => ⟨by omega, e.2⟩))
          obtain ⟨fn2, tmps2, assign2, body2, hy2, hR2⟩ := HR.out (m - 1) _ y (post ++ todo.flatMap (fun z => z.preD (inD x.kind d))) #[.agg #[.iface ty2 (ptr gy), .string sy, .int .i64 (y.2 : Int)]] own3 W5 (by rw [HP.out, HK.out]; simp [hall]) henc hj5 (fun k hk => by have := hlt3 k hk; omega)
          have ho5 := ho3.ahead k35 (fun i hi => hi.1)
          clear henc
          rw [← HF.out] at hR2
          have r0 := b5.cell 0
          have r1 := b6.cell 0
          have r2 := b6.cell 1
          have r3 := b6.cell 2
          simp at r0 r1 r2 r3
          gi_wp2
          refine ⟨hdd _, (show RoundIn (F.inRound lq) _ _ _ _ _ _ _ _ _ from hR2).mono ?_⟩
          rintro e W6 ⟨own6, ho6, (⟨rfl, hj6⟩ | ⟨rfl, hj6⟩)⟩
          · gi_wp2
            exact ⟨own6, ho6, by rw [← List.append_assoc]; exact hj6, ho5.trans ho6⟩
          · gi_wp2
            exact ⟨own6, ho6, ⟨rfl, by rw [← List.append_assoc]; exact hj6⟩, ho5.trans ho6⟩
        case hdone =>
          rintro D own' W' hb ⟨hj', ho'⟩
          have hnew := behind_marks q3 hoi hb hnd hDs
          have how : Owns own1 own' W2 W' := (hoi.ahead q3 (fun _ e => e.elim)).trans hb.owns
          have hkd : x.bodies.kids = (done ++ [z]) ++ todo := by rw [HK.out]; simp
          have hjd : J ((x, d) :: (done ++ [z]).flatMap (fun z => z.preD (inD x.kind d))) own' W' := by
            rw [show (x, d) :: (done ++ [z]).flatMap (fun z => z.preD (inD x.kind d)) = ((x, d) :: done.flatMap (fun z => z.preD (inD x.kind d))) ++ z.preD (inD x.kind d) by simp]; exact hj'
          have HD := Lib.hid (And.intro hkd (And.intro hjd (And.intro how hnew)))
          clear hkd hjd how hnew hb hj' ho'
          dsimp only
          gi_wp2
          have e1 : (done.length : Int) + 1 = ((done ++ [z]).length : Int) := by simp
          rw [e1]
          obtain ⟨hkd, hjd, how, hnew⟩ := HD.out
          refine ⟨⟨done ++ [z], todo, own', D :: Ds, _, _, _, _, _, _, _, _, _, _, _, _, _, rfl, hkd, hjd, how, hnew.1, hnew.2⟩, ?_⟩
          simp [intOf]; omega
        case hstop =>
          rintro D c pre post own' W' hb hall ⟨⟨rfl, hj'⟩, ho'⟩
          obtain ⟨hn1, hn2⟩ := behind_marks q3 hoi hb hnd hDs
          have how : Owns own own' W W' := (hoW.ahead q3 (fun _ e => e.elim)).trans hb.owns
          have hsz2 : W.heap.size ≤ W2.heap.size := by have := q2.size; have := ho1.keeps.size; simp at this; omega
          dsimp only
          gi_wp2
          refine leaves_marks (D :: Ds) W' hn1 (fun D' hD' => (hn2 D' hD').2.2) (fun W'' q _ => ?_)
          refine ⟨_, results_none rfl _ _ _, _, own', rfl, how.ahead q (fun i hi => by have := (hn2 i hi).1; omega), .inr ⟨_, post ++ todo.flatMap (fun z => z.preD (inD x.kind d)), ?_, hJx _ _ _ _ hj' (q.mono (fun i hi => ⟨by have := (hn2 i hi).1; omega, (hn2 i hi).2.1⟩))⟩⟩
          rw [HP.out, HK.out]; simp [hall]
  · gi_wp2
    refine leaves_marks [] W1 List.nodup_nil (fun _ h => by cases h) (fun W' q _ => ?_)
    refine ⟨_, results_none rfl _ _ _, _, own1, rfl, ((Owns.behind q0 ho1).ahead q (fun _ e => by cases e)), .inr ⟨[(x, d)], _, HP.out, ?_⟩⟩
    exact hJx _ _ _ _ hj1 (q.mono (fun _ e => by cases e))

theorem within_all (N : Nat) : WithinOk N := Nat.strongRecOn N (fun n ih => within_ok n ih)

end Go.Proofs.YtkfcgamdlckncaaGreat
