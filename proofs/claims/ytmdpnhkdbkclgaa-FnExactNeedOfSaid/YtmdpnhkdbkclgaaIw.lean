/-
  Walks of the library's slices.Grow and slices.Concat at the program's steps: what a branch's two lists come to.
-/
import Derived.Test.YtmdpnhkdbkclgaaIt
import Derived.Test.YtmdpnhkdbkclgaaProg
import Derived.WalkKit
import Derived.Lib.Hide
import Derived.Lib.AppendZeros
import Derived.Deep.Upon
import Derived.OwnWalk
namespace Go.Proofs.Ytmdpnhkdbkclgaa
set_option linter.unusedVariables false
set_option linter.unusedSimpArgs false
open Go.RowKit

theorem Try.info46 : (Try.prog.info? 46).map (fun i => (i.zero, i.size, i.bytes)) = some (some .nilIface, 1, 16) := by kernel_rfl

/-- append of a row onto a row that has room for it. -/
theorem run_append_row {P : Program} (w : World) (t ty e : TypeId) (i : TypeInfo) (size : Nat) (ht : P.underlying t = some (.slice e)) (hi : P.info? e = some i) (hsize : i.size = size)
    (base : Nat) (a : Option Addr) (k c : Nat) (xs : List Value) (hown : w.ownsRow base e size (.slice a k c) k xs)
    (base2 : Nat) (x : Value) (m : Nat) (ys : List Value) (hx : w.ownsRow base2 e size x m ys) (h1 : ∀ u ∈ ys, u.oneCell' = true) (hroom : k + m ≤ c) :
    ∃ w', (Builtin.append_ #[t, t] ty #[.slice a k c, x]).run P w = .ok (.slice a (k + m) c) w' ∧ w'.ownsRow base e size (.slice a (k + m) c) (k + m) (xs ++ ys) ∧ w.grownBy w' (Value.slice a k c).ownBlock := by
  have hxc : ∀ g, x.ownBlock = some g → ∀ j u, ys[j]? = some u → w.cell? ((⟨g, 0, none⟩ : Addr).add j) = some u := fun g hg => hx.cells hg
  rcases hx.2 with ⟨rfl, rfl⟩ | ⟨g2, c2, cur2, rfl, _⟩
  · have hy : ys = [] := List.eq_nil_of_length_eq_zero (by simpa using hx.1)
    subst hy
    exact ⟨w, run_append_owned_none w base t ty e i size ht hi _ k xs hown, by simpa using hown, World.grownBy.refl _ _⟩
  · rcases hown.2 with ⟨h, rfl⟩ | ⟨g, cap, cur, h, _⟩
    · simp only [Value.slice.injEq] at h
      obtain ⟨rfl, _, rfl⟩ := h
      obtain rfl : m = 0 := by omega
      have hy : ys = [] := List.eq_nil_of_length_eq_zero (by simpa using hx.1)
      subst hy
      refine ⟨w, ?_, by simpa using hown, World.grownBy.refl _ _⟩
      exact run_append_nothing (P := P) w t t ty e i ht hi none 0 0 (Nat.le_refl _) _ (Src.ofSlice w ht ⟨g2, 0, none⟩ 0 c2 [] (by simp) (fun j u hu => by simp at hu) (fun u hu => by simp at hu))
    · simp only [Value.slice.injEq] at h
      obtain ⟨rfl, _, rfl⟩ := h
      exact run_append_fits (P := P) w base t ty e i size ht hi hsize g k c xs hown ⟨g2, 0, none⟩ m c2 ys hx.1 (hxc g2 rfl) h1 hroom

def GrowPost (w : World) (n : Nat) (e : Ending) (w' : World) : Prop :=
  ∃ a c, e = .returned (.slice a 0 c) ∧ n ≤ c ∧ w'.ownsRow w.heap.size 46 1 (.slice a 0 c) 0 [] ∧ Keeps noB w w'

theorem grow_zero (w : World) : Calls Try.prog 94 #[.slice none 0 0, .int .i64 0] w (GrowPost w 0) := by
  go_enter Try.func94, Try.ntmps94
  go_wp2
  go_ret
  exact ⟨none, 0, rfl, Nat.le_refl _, World.ownsRow_nil w _ _ _, Keeps.refl _ _⟩

set_option maxHeartbeats 1000000 in
theorem grow_some (n : Nat) (h0 : 0 < n) (hn : n ≤ 1000) (w : World) : Calls Try.prog 94 #[.slice none 0 0, .int .i64 (n : Int)] w (GrowPost w n) := by
  obtain ⟨i0, hi, hz0, hz1, hz2⟩ := info_parts Try.info46
  have h1 : ¬ ((n : Int) < 0) := by omega
  have h4 : (0 : Int) < (n : Int) := by omega
  have hnn : ¬ n = 0 := by omega
  have hrz : ∀ ty, (Builtin.append_ #[61, 3] ty #[.slice none 0 0, .int .i64 (n : Int)]).run Try.prog w = _ := fun ty =>
    Lib.run_append_nil_zeros w 61 3 ty 46 i0 .nilIface .i64 .i64 Try.underlying61 Try.underlying3 hi hz0 n h0 (by omega) (by omega) (by rw [hz2]; omega)
  obtain ⟨c, hc⟩ : ∃ c, c = grownCap w n 0 46 := ⟨_, rfl⟩
  have hge : n ≤ c := by rw [hc]; exact grownCap_ge w n 0 _
  have hle : c ≤ maxLen := by rw [hc]; exact grownCap_le_maxLen w n 0 _ (by unfold maxLen; omega)
  rw [← hc] at hrz
  have HP : Hid (GrowPost w n (.returned (.slice (some ⟨w.heap.size, 0, none⟩) 0 c)) (w.drew.alloc (.cells (Builtin.zeroCells Value.nilIface.cells n ++ Builtin.zeroCells Value.nilIface.cells (c - n)) 46))) := by
    refine ⟨_, _, rfl, hge, ⟨rfl, .inr ⟨w.heap.size, c, _, rfl, Nat.le_refl _, World.alloc_heap_new w.drew _, Nat.zero_le _, hle, ?_, by simp⟩⟩, ((Keeps.refl _ _).drew).alloc _⟩
    rw [Array.size_append, size_zeroCells, size_zeroCells]
    simp only [Value.cells, List.size_toArray, List.length_cons, List.length_nil]
    omega
  have hle' : (c : Int) ≤ 9223372036854775807 := by unfold maxLen at hle; omega
  clear hc hge hle
  go_enter Try.func94, Try.ntmps94
  go_wp2_with (at_builtin; refine Lib.wpList_append_run _ rfl _ _ _ _ rfl _ _ rfl rfl _ _ (hrz _) ?_)
  all_goals (go_ret; exact HP.out)

/-- What the second loop of Concat has put together. -/
def CatAt (w : World) (n1 n2 : Nat) (xs ys : List Value) (v6 v27 : Value) (wr : World) : Prop :=
  ∃ a k c zs, v6 = .slice a k c ∧ n1 + n2 ≤ c ∧ Keeps noB w wr ∧ wr.ownsRow w.heap.size 46 1 (.slice a k c) k zs ∧
    ((v27 = .int .i64 0 ∧ k = 0 ∧ zs = []) ∨ (v27 = .int .i64 1 ∧ k = n1 ∧ zs = xs) ∨ (v27 = .int .i64 2 ∧ k = n1 + n2 ∧ zs = xs ++ ys))

def ConcatPost (w : World) (n : Nat) (zs : List Value) (e : Ending) (w' : World) : Prop :=
  ∃ a c, e = .returned (.slice a n c) ∧ w'.ownsRow w.heap.size 46 1 (.slice a n c) n zs ∧ Keeps noB w w'

theorem CatAt.next {w wr w2 : World} {n1 n2 k m c : Nat} {xs ys zs us : List Value} {a : Option Addr} {v : Value} (q : Keeps noB w wr) (hown : wr.ownsRow w.heap.size 46 1 (.slice a k c) k zs)
    (ho2 : w2.ownsRow w.heap.size 46 1 (.slice a (k + m) c) (k + m) (zs ++ us)) (hg : wr.grownBy w2 (Value.slice a k c).ownBlock) (hc : n1 + n2 ≤ c)
    (hh : (v = .int .i64 0 ∧ k + m = 0 ∧ zs ++ us = []) ∨ (v = .int .i64 1 ∧ k + m = n1 ∧ zs ++ us = xs) ∨ (v = .int .i64 2 ∧ k + m = n1 + n2 ∧ zs ++ us = xs ++ ys)) : CatAt w n1 n2 xs ys (.slice a (k + m) c) v w2 :=
  ⟨a, k + m, c, _, rfl, hc, q.grown hg (fun g e => .inr (hown.lt g e).1), ho2, hh⟩

set_option maxRecDepth 100000 in
set_option maxHeartbeats 2000000 in
theorem concat_any (b : Nat) (vx vy : Value) (n1 n2 : Nat) (xs ys : List Value) (w : World) (ok : Nat → Prop) (hb : Blk w b #[vx, vy] 61) (hx : Row w ok 46 1 vx n1 xs) (hy : Row w ok 46 1 vy n2 ys)
    (hx1 : ∀ u ∈ xs, u.oneCell' = true) (hy1 : ∀ u ∈ ys, u.oneCell' = true) (hs : n1 + n2 ≤ 1000) :
    Calls Try.prog 79 #[.slice (some ⟨b, 0, none⟩) 2 2] w (ConcatPost w (n1 + n2) (xs ++ ys)) := by
  obtain ⟨ax, cx, rfl⟩ := row_shape hx
  obtain ⟨ay, cy, rfl⟩ := row_shape hy
  have r0 := hb.cell 0
  have r1 := hb.cell 1
  simp at r0 r1
  have HX := Lib.hid hx
  have HY := Lib.hid hy
  have hbl := hb.lt
  clear hx hy
  go_enter Try.func79, Try.ntmps79
  go_wp2_with fail
  go_loop [3, 11] (fun v3 v11 => (v3 = .int .i64 0 ∧ v11 = .int .i64 0) ∨ (v3 = .int .i64 (n1 : Int) ∧ v11 = .int .i64 1) ∨ (v3 = .int .i64 ((n1 + n2 : Nat) : Int) ∧ v11 = .int .i64 2)) (fun _ v11 => 2 - (intOf v11).toNat)
  case atStart => exact .inl ⟨rfl, rfl⟩
  case round =>
    rcases hrel with ⟨rfl, rfl⟩ | ⟨rfl, rfl⟩ | ⟨rfl, rfl⟩
    · have hn : ¬ (n1 : Int) < 0 := by omega
      go_wp2_with fail
      go_round
      case rel => exact .inr (.inl ⟨rfl, rfl⟩)
      case measure => simp [intOf]
    · have hn : ¬ ((n1 : Int) + (n2 : Int)) < 0 := by omega
      go_wp2_with fail
      go_round
      case rel => exact .inr (.inr ⟨by go_num, rfl⟩)
      case measure => simp [intOf]
    · have HG : Hid (∀ w, Calls Try.prog 94 #[.slice none 0 0, .int .i64 ((n1 + n2 : Nat) : Int)] w (GrowPost w (n1 + n2))) := by
        intro w
        by_cases h0 : n1 + n2 = 0
        · rw [h0]; exact grow_zero w
        · exact grow_some _ (by omega) (by omega) w
      go_wp2_with fail
      refine (HG.out _).mono ?_
      rintro e w1 ⟨a1, c1, rfl, hc1, ho1, q1⟩
      have HC : Hid (CatAt w n1 n2 xs ys (.slice a1 0 c1) (.int .i64 0) w1) := ⟨a1, 0, c1, [], rfl, hc1, q1, ho1, .inl ⟨rfl, rfl, rfl⟩⟩
      clear hc1 ho1 q1
      go_wp2_with fail
      go_loopw [6, 27] (fun v6 v27 wr => CatAt w n1 n2 xs ys v6 v27 wr) (fun _ v27 _ => 2 - (intOf v27).toNat)
      case atStart => exact HC.out
      case round =>
        clear HC
        obtain ⟨i0, hi, hz0, hz1, hz2⟩ := info_parts Try.info46
        obtain ⟨a, k, c, zs, rfl, hc, q, hown, hcase⟩ := hrel
        have s0 := (q.cell (p := ⟨b, 0, none⟩) hbl id).trans r0
        have s1 := (q.cell (p := ⟨b, 1, none⟩) hbl id).trans r1
        rcases hcase with ⟨rfl, rfl, rfl⟩ | ⟨rfl, rfl, rfl⟩ | ⟨rfl, rfl, rfl⟩
        · have hxw := q.ownsRow HX.out.1 (fun _ _ _ => id)
          obtain ⟨w2, hr, ho2, hg⟩ := run_append_row (P := Try.prog) wr 61 61 46 i0 1 Try.underlying61 hi hz1 w.heap.size a 0 c [] hown 0 _ n1 xs hxw hx1 (by omega)
          have HE : Hid (CatAt w n1 n2 xs ys (.slice a (0 + n1) c) (.int .i64 1) w2) := CatAt.next q hown ho2 hg hc (.inr (.inl ⟨rfl, by omega, by simp⟩))
          rw [Nat.zero_add] at HE hr
          clear ho2 hg hxw hown q
          go_wp2_with (at_builtin; refine Lib.wpList_append_run _ rfl _ _ _ _ rfl _ _ rfl rfl _ _ hr ?_)
          go_roundw
          case rel => exact HE.out
          case measure => simp [intOf]
        · have hyw := q.ownsRow HY.out.1 (fun _ _ _ => id)
          obtain ⟨w2, hr, ho2, hg⟩ := run_append_row (P := Try.prog) wr 61 61 46 i0 1 Try.underlying61 hi hz1 w.heap.size a k c zs hown 0 _ n2 ys hyw hy1 (by omega)
          have HE : Hid (CatAt w k n2 zs ys (.slice a (k + n2) c) (.int .i64 2) w2) := CatAt.next q hown ho2 hg hc (.inr (.inr ⟨rfl, rfl, rfl⟩))
          clear ho2 hg hyw hown q
          go_wp2_with (at_builtin; refine Lib.wpList_append_run _ rfl _ _ _ _ rfl _ _ rfl rfl _ _ hr ?_)
          go_roundw
          case rel => exact HE.out
          case measure => simp [intOf]
        · have HF : Hid (ConcatPost w (n1 + n2) (xs ++ ys) (.returned (.slice a (n1 + n2) c)) wr) := ⟨a, c, rfl, hown, q⟩
          clear hown q
          go_wp2_with fail
          go_ret
          exact HF.out

end Go.Proofs.Ytmdpnhkdbkclgaa
