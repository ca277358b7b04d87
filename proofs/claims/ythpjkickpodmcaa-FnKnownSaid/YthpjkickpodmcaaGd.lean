/-
  The model's drawers: the body of a program.
-/
import Derived.Test.YthpjkickpodmcaaGb
namespace Go.Proofs.Ythpjkickpodmcaa
set_option linter.unusedVariables false
set_option linter.unusedSimpArgs false
open Go.RowKit

def DrawBodyPost (w : World) (g t L C : Nat) (e : Ending) (w' : World) : Prop :=
  ∃ (s : ByteArray) (t' : Nat), e = .returned (.string s) ∧ s.size ≤ L ∧ t' ≤ t + C ∧ DrAt w' g t' ∧ Keeps (oneB g) w w'

/-- What the loop of a body holds. -/
def DrawBodyAt (w : World) (g t L C N : Nat) (vo vi : Value) (wr : World) : Prop :=
  ∃ (i : Nat) (s : ByteArray) (t' : Nat), i ≤ N ∧ vi = .int .i64 (i : Int) ∧ vo = .string s ∧ s.size ≤ i * (5 + 2 * L) ∧ t' ≤ t + 1 + i * (4 + 2 * C) ∧ DrAt wr g t' ∧ Keeps (oneB g) w wr

def DrawBodyIs (d L C : Nat) : Prop :=
  ∀ (sc : ByteArray) (g t : Nat) (w : World), 1 ≤ sc.size → sc.size ≤ 4 → DrAt w g t → t + C ≤ 50000 → Calls Try.prog 74 #[.pointer (some ⟨g, 0, none⟩), .string sc, .int .i64 (d : Int)] w (DrawBodyPost w g t L C)

theorem DrAt.lt {w : World} {g t : Nat} (h : DrAt w g t) : g < w.heap.size := by
  obtain ⟨v, m, hm, hb, ha⟩ := h
  exact hb.lt

/-- A text's bytes from lo to hi. -/
theorem slice_run (s : ByteArray) (lo hi : Nat) (h1 : lo ≤ hi) (h2 : hi ≤ s.size) : ∃ v : ByteArray, v.size = hi - lo ∧ ∀ wx, (Instr.slice 9 (.string s) (some (.int .i64 (lo : Int))) (some (.int .i64 (hi : Int))) none).run Try.prog wx = .ok (.string v) wx := by
  refine ⟨s.extract lo hi, by rw [ByteArray.size_extract]; omega, fun wx => ?_⟩
  have := run_slice_string (P := Try.prog) wx 9 s .i64 .i64 (lo : Int) (hi : Int) Try.underlying9 (by omega) (by omega) (by omega)
  simpa using this

theorem slice_from (s : ByteArray) (lo : Nat) (h1 : lo ≤ s.size) : ∃ v : ByteArray, v.size = s.size - lo ∧ ∀ wx, (Instr.slice 9 (.string s) (some (.int .i64 (lo : Int))) none none).run Try.prog wx = .ok (.string v) wx := by
  refine ⟨s.extract lo s.size, by rw [ByteArray.size_extract]; omega, fun wx => ?_⟩
  have := run_slice_string_l (P := Try.prog) wx 9 s Try.underlying9 .i64 (lo : Int) (by omega) (by omega)
  simpa using this

theorem slice_to (s : ByteArray) (hi : Nat) (h1 : hi ≤ s.size) : ∃ v : ByteArray, v.size = hi ∧ ∀ wx, (Instr.slice 9 (.string s) none (some (.int .i64 (hi : Int))) none).run Try.prog wx = .ok (.string v) wx := by
  refine ⟨s.extract 0 hi, by rw [ByteArray.size_extract]; omega, fun wx => ?_⟩
  have := run_slice_string_h (P := Try.prog) wx 9 s Try.underlying9 .i64 (hi : Int) (by omega) (by omega)
  simpa using this

/-- Two texts, one behind the other. -/
theorem add_run (a b : ByteArray) (ha : a.size ≤ 1000000) (hb : b.size ≤ 1000000) : ∃ c : ByteArray, c.size = a.size + b.size ∧ ∀ wx, (Op.stringOp .add a b).run Try.prog wx = .ok (.string c) wx :=
  ⟨a ++ b, by rw [ByteArray.size_append], fun wx => run_string_add_sum wx a b (by omega)⟩

set_option maxRecDepth 100000 in
set_option maxHeartbeats 16000000 in
theorem body_step (d L C : Nat) (hd : d ≤ 2) (hL : L ≤ 10000) (hC : C ≤ 5000) (ih : ∀ d', d = d' + 1 → DrawBodyIs d' L C) : DrawBodyIs d (20 + 8 * L) (17 + 8 * C) := by
  intro sc g t w h1 h4 hr ht
  have HNUM : Hid (∀ T, Calls Try.prog 67 #[.pointer (some ⟨g, 0, none⟩), .slice (some ⟨w.heap.size, 0, none⟩) 5 5] (w.alloc (.cells #[.int .i64 2, .int .i64 3, .int .i64 1, .int .i64 4, .int .i64 0] T)) (NumPickPost (w.alloc (.cells #[.int .i64 2, .int .i64 3, .int .i64 1, .int .i64 4, .int .i64 0] T)) g t (fun s => ∃ N : Nat, s = (N : Int) ∧ N ≤ 4))) := Lib.hid (fun T => by
    refine numOf_any g t w.heap.size 5 _ T _ _ (hr.keeps ((Keeps.refl noB w).alloc _)) (by omega) (Blk.new w _ _) (by have := hr.lt; omega) (by omega) (by omega) ?_
    intro i hi
    have h : i = 0 ∨ i = 1 ∨ i = 2 ∨ i = 3 ∨ i = 4 := by omega
    rcases h with rfl | rfl | rfl | rfl | rfl
    · exact ⟨2, rfl, 2, rfl, by decide⟩
    · exact ⟨3, rfl, 3, rfl, by decide⟩
    · exact ⟨1, rfl, 1, rfl, by decide⟩
    · exact ⟨4, rfl, 4, rfl, by decide⟩
    · exact ⟨0, rfl, 0, rfl, by decide⟩)
  have HIH := Lib.hid ih
  have HOF : Hid (∀ (x y : ByteArray) (t1 : Nat) (wr : World) T, x.size = 1 → y.size = 1 → DrAt wr g t1 → t1 ≤ 60000 → Calls Try.prog 56 #[.pointer (some ⟨g, 0, none⟩), .slice (some ⟨wr.heap.size, 0, none⟩) 2 2] (wr.alloc (.cells #[.string x, .string y] T)) (DrOfPost (wr.alloc (.cells #[.string x, .string y] T)) g t1 (fun s => s.size = 1))) := Lib.hid (fun x y t1 wr T hx hy hr ht => by
    refine drOf_any g t1 wr.heap.size 2 _ T _ _ (hr.keeps ((Keeps.refl noB wr).alloc _)) (by omega) (Blk.new wr _ _) (by have := hr.lt; omega) (by omega) (by omega) ?_
    intro i hi
    have h : i = 0 ∨ i = 1 := by omega
    rcases h with rfl | rfl
    · exact ⟨x, rfl, hx⟩
    · exact ⟨y, rfl, hy⟩)
  have hsc : (sc.size : Int) ≤ 4 := by omega
  have hsc1 : (1 : Int) ≤ (sc.size : Int) := by omega
  have hd2 : (d : Int) ≤ 2 := by omega
  clear hr ih
  go_enter Try.func74, Try.ntmps74
  go_wp2_with fail
  refine (HNUM.out _).mono ?_
  rintro e w1 ⟨z, rfl, ⟨N, rfl, hN⟩, hr, q⟩
  have q0 : Keeps (oneB g) w w1 := ((Keeps.refl (oneB g) w).alloc _).trans q
  have hN4 : (N : Int) ≤ 4 := by omega
  have HP : Hid (DrawBodyAt w g t L C N (.string ⟨#[]⟩) (.int .i64 0) w1) := Lib.hid ⟨0, ⟨#[]⟩, t + 1, Nat.zero_le _, rfl, rfl, by show 0 ≤ _; omega, by omega, hr, q0⟩
  clear hr q q0 HNUM
  go_wp2_with fail
  go_loopw [7, 16] (fun vo vi wr => DrawBodyAt w g t L C N vo vi wr) (fun _ vi _ => N - (intOf vi).toNat)
  case atStart => exact HP.out
  case round =>
    clear HP
    obtain ⟨i, s, t', hin, rfl, rfl, hs, ht', hr, q⟩ := hrel
    by_cases hlt : i < N
    · have m1 : i * (5 + 2 * L) ≤ 3 * (5 + 2 * L) := Nat.mul_le_mul_right _ (by omega)
      have m2 : i * (4 + 2 * C) ≤ 3 * (4 + 2 * C) := Nat.mul_le_mul_right _ (by omega)
      have n1 : (i + 1) * (5 + 2 * L) = i * (5 + 2 * L) + (5 + 2 * L) := Nat.succ_mul i (5 + 2 * L)
      have n2 : (i + 1) * (4 + 2 * C) = i * (4 + 2 * C) + (4 + 2 * C) := Nat.succ_mul i (4 + 2 * C)
      have hi1 : (i : Int) < (N : Int) := by omega
      have hss : s.size ≤ 70000 := by omega
      have htt : t' + 2 * C + 4 ≤ 50000 := by omega
      have HM := Lib.hid (And.intro hs (And.intro ht' (And.intro n1 n2)))
      have H1 := Lib.hid (pick_any g t' sc.size wr hr (by omega) (by omega))
      have HQ := Lib.hid q
      clear hr q m1 m2 n1 n2 hs ht'
      go_wp2_with fail
      refine H1.out.mono ?_
      rintro e w2 ⟨k, rfl, hk, hr, q1⟩
      have hk' : k < sc.size := by omega
      have k3 : (k : Int) ≤ 4 := by omega
      obtain ⟨v, hv1, hsl⟩ := slice_run sc k (k + 1) (by omega) (by omega)
      have hsl : ∀ wx, (Instr.slice 9 (.string sc) (some (.int .i64 (k : Int))) (some (.int .i64 ((k : Int) + 1))) none).run Try.prog wx = .ok (.string v) wx := hsl
      have H2 := Lib.hid (pick_any g (t' + 1) 11 w2 hr (by omega) (by omega))
      have HQ1 := Lib.hid (HQ.out.trans q1)
      clear hr q1 hk H1 HQ
      go_wp2_with fail
      refine H2.out.mono ?_
      rintro e w3 ⟨j, rfl, hj, hr, q1⟩
      have HB : Hid (∀ (s2 : ByteArray) (t2 : Nat) (w4 : World), s2.size ≤ s.size + (5 + 2 * L) → t2 ≤ t' + (4 + 2 * C) → DrAt w4 g t2 → Keeps (oneB g) w3 w4 → DrawBodyAt w g t L C N (.string s2) (.int .i64 ((i : Int) + 1)) w4) := Lib.hid (fun s2 t2 w4 a1 a2 a3 a4 => by
        obtain ⟨b1, b2, b3, b4⟩ := HM.out
        exact ⟨i + 1, s2, t2, hlt, rfl, rfl, by omega, by omega, a3, (HQ1.out.trans q1).trans a4⟩)
      have HR := Lib.hid hr
      clear HQ1 HM H2 q1 hr hsl
      have hj : j = 0 ∨ j = 1 ∨ j = 2 ∨ j = 3 ∨ j = 4 ∨ j = 5 ∨ j = 6 ∨ j = 7 ∨ j = 8 ∨ j = 9 ∨ j = 10 := by omega
      rcases hj with rfl | rfl | rfl | rfl | rfl | rfl | rfl | rfl | rfl | rfl | rfl
      · have y1 : (⟨#[43]⟩ : ByteArray).size = 1 := rfl
        obtain ⟨c1, z1, r1⟩ := add_run s ⟨#[43]⟩ (by first | omega | decide) (by first | omega | decide)
        obtain ⟨c2, z2, r2⟩ := add_run c1 v (by first | omega | decide) (by first | omega | decide)
        have HE := Lib.hid (HB.out c2 (t' + 2) w3 (by omega) (by omega) HR.out (Keeps.refl _ _))
        clear HB
        go_wp2_with fail
        go_roundw
        case rel => exact HE.out
        case measure => simp [intOf]; omega
      · have y1 : (⟨#[43]⟩ : ByteArray).size = 1 := rfl
        obtain ⟨c1, z1, r1⟩ := add_run s ⟨#[43]⟩ (by first | omega | decide) (by first | omega | decide)
        obtain ⟨c2, z2, r2⟩ := add_run c1 v (by first | omega | decide) (by first | omega | decide)
        have HE := Lib.hid (HB.out c2 (t' + 2) w3 (by omega) (by omega) HR.out (Keeps.refl _ _))
        clear HB
        go_wp2_with fail
        go_roundw
        case rel => exact HE.out
        case measure => simp [intOf]; omega
      · have y1 : (⟨#[43]⟩ : ByteArray).size = 1 := rfl
        obtain ⟨c1, z1, r1⟩ := add_run s ⟨#[43]⟩ (by first | omega | decide) (by first | omega | decide)
        obtain ⟨c2, z2, r2⟩ := add_run c1 v (by first | omega | decide) (by first | omega | decide)
        have HE := Lib.hid (HB.out c2 (t' + 2) w3 (by omega) (by omega) HR.out (Keeps.refl _ _))
        clear HB
        go_wp2_with fail
        go_roundw
        case rel => exact HE.out
        case measure => simp [intOf]; omega
      · have HO := Lib.hid (HOF.out ⟨#[45]⟩ ⟨#[126]⟩ (t' + 2) w3 9 rfl rfl HR.out (by omega))
        go_wp2_with fail
        refine HO.out.mono ?_
        rintro e w4 ⟨x, rfl, hx, hr, q4⟩
        obtain ⟨c1, z1, r1⟩ := add_run s x (by first | omega | decide) (by first | omega | decide)
        obtain ⟨c2, z2, r2⟩ := add_run c1 v (by first | omega | decide) (by first | omega | decide)
        have HQ4 := Lib.hid (And.intro hr (((Keeps.refl (oneB g) w3).alloc _).trans q4))
        clear hr q4 HO
        have HE := Lib.hid (HB.out c2 (t' + 2 + 1) w4 (by omega) (by omega) HQ4.out.1 HQ4.out.2)
        clear HB
        go_wp2_with fail
        go_roundw
        case rel => exact HE.out
        case measure => simp [intOf]; omega
      · have y1 : (⟨#[46]⟩ : ByteArray).size = 1 := rfl
        obtain ⟨c1, z1, r1⟩ := add_run s ⟨#[46]⟩ (by first | omega | decide) (by first | omega | decide)
        obtain ⟨c2, z2, r2⟩ := add_run c1 v (by first | omega | decide) (by first | omega | decide)
        have HE := Lib.hid (HB.out c2 (t' + 2) w3 (by omega) (by omega) HR.out (Keeps.refl _ _))
        clear HB
        go_wp2_with fail
        go_roundw
        case rel => exact HE.out
        case measure => simp [intOf]; omega
      · have y1 : (⟨#[46]⟩ : ByteArray).size = 1 := rfl
        obtain ⟨c1, z1, r1⟩ := add_run s ⟨#[46]⟩ (by first | omega | decide) (by first | omega | decide)
        obtain ⟨c2, z2, r2⟩ := add_run c1 v (by first | omega | decide) (by first | omega | decide)
        have HE := Lib.hid (HB.out c2 (t' + 2) w3 (by omega) (by omega) HR.out (Keeps.refl _ _))
        clear HB
        go_wp2_with fail
        go_roundw
        case rel => exact HE.out
        case measure => simp [intOf]; omega
      · have H3 := Lib.hid (pick_any g (t' + 2) sc.size w3 HR.out (by omega) (by omega))
        go_wp2_with fail
        refine H3.out.mono ?_
        rintro e w4 ⟨p, rfl, hp, hr, q4⟩
        have hp' : p < sc.size := by omega
        obtain ⟨u, hu1, hsl1⟩ := slice_from sc p (by omega)
        obtain ⟨x, hx1, hsl2⟩ := slice_to u 1 (by omega)
        have hsl2 : ∀ wx, (Instr.slice 9 (.string u) none (some (.int .i64 1)) none).run Try.prog wx = .ok (.string x) wx := hsl2
        have HQ4 := Lib.hid (And.intro hr q4)
        clear hr q4 H3
        have y1 : (⟨#[61]⟩ : ByteArray).size = 1 := rfl
        obtain ⟨c1, z1, r1⟩ := add_run s ⟨#[61]⟩ (by first | omega | decide) (by first | omega | decide)
        obtain ⟨c2, z2, r2⟩ := add_run c1 v (by first | omega | decide) (by first | omega | decide)
        obtain ⟨c3, z3, r3⟩ := add_run c2 x (by first | omega | decide) (by first | omega | decide)
        obtain ⟨bb, hbb⟩ : ∃ bb, (x.toList == v.toList) = bb := ⟨_, rfl⟩
        cases bb
        · have HE := Lib.hid (HB.out c3 (t' + 2 + 1) w4 (by omega) (by omega) HQ4.out.1 HQ4.out.2)
          clear HB
          go_wp2_with fail
          go_roundw
          case rel => exact HE.out
          case measure => simp [intOf]; omega
        · have HE := Lib.hid (HB.out s (t' + 2 + 1) w4 (by omega) (by omega) HQ4.out.1 HQ4.out.2)
          clear HB
          go_wp2_with fail
          go_roundw
          case rel => exact HE.out
          case measure => simp [intOf]; omega
      · by_cases hd0 : d = 0
        · have hdz : ¬ (0 : Int) < (d : Int) := by omega
          clear hd0
          have HE := Lib.hid (HB.out s (t' + 2) w3 (by omega) (by omega) HR.out (Keeps.refl _ _))
          clear HB
          go_wp2_with fail
          go_roundw
          case rel => exact HE.out
          case measure => simp [intOf]; omega
        · obtain ⟨d', hde⟩ : ∃ d', d = d' + 1 := ⟨d - 1, by omega⟩
          have hdd : (d : Int) - 1 = (d' : Int) := by omega
          have hdp : (0 : Int) < (d : Int) := by omega
          have HD := Lib.hid hde
          clear hde hd0
          have HC4 := Lib.hid (HIH.out d' HD.out sc g (t' + 2) w3 (by omega) (by omega) HR.out (by omega))
          go_wp2_with fail
          refine HC4.out.mono ?_
          rintro e w4 ⟨x4, t4, rfl, hx4, ht4, hr4, q4⟩
          have HQ4 := Lib.hid (And.intro hr4 q4)
          clear hr4 q4 HC4
          have y1 : (⟨#[63, 91]⟩ : ByteArray).size = 2 := rfl
          have y2 : (⟨#[93, 91]⟩ : ByteArray).size = 2 := rfl
          have y3 : (⟨#[93]⟩ : ByteArray).size = 1 := rfl
          obtain ⟨c1, z1, r1⟩ := add_run s ⟨#[63, 91]⟩ (by first | omega | decide) (by first | omega | decide)
          obtain ⟨c2, z2, r2⟩ := add_run c1 x4 (by first | omega | decide) (by first | omega | decide)
          obtain ⟨c3, z3, r3⟩ := add_run c2 ⟨#[93, 91]⟩ (by first | omega | decide) (by first | omega | decide)
          have HC5 := Lib.hid (HIH.out d' HD.out sc g t4 w4 (by omega) (by omega) HQ4.out.1 (by omega))
          go_wp2_with fail
          refine HC5.out.mono ?_
          rintro e w5 ⟨x5, t5, rfl, hx5, ht5, hr5, q5⟩
          have HQ5 := Lib.hid (And.intro hr5 q5)
          clear hr5 q5 HC5
          obtain ⟨c4, z4, r4⟩ := add_run c3 x5 (by first | omega | decide) (by first | omega | decide)
          obtain ⟨c5, z5, r5⟩ := add_run c4 ⟨#[93]⟩ (by first | omega | decide) (by first | omega | decide)
          have HE := Lib.hid (HB.out c5 t5 w5 (by omega) (by omega) HQ5.out.1 (HQ4.out.2.trans HQ5.out.2))
          clear HB
          go_wp2_with fail
          go_roundw
          case rel => exact HE.out
          case measure => simp [intOf]; omega
      · by_cases hd0 : d = 0
        · have hdz : ¬ (0 : Int) < (d : Int) := by omega
          clear hd0
          have HE := Lib.hid (HB.out s (t' + 2) w3 (by omega) (by omega) HR.out (Keeps.refl _ _))
          clear HB
          go_wp2_with fail
          go_roundw
          case rel => exact HE.out
          case measure => simp [intOf]; omega
        · obtain ⟨d', hde⟩ : ∃ d', d = d' + 1 := ⟨d - 1, by omega⟩
          have hdd : (d : Int) - 1 = (d' : Int) := by omega
          have hdp : (0 : Int) < (d : Int) := by omega
          have HD := Lib.hid hde
          clear hde hd0
          have y1 : (⟨#[42, 91]⟩ : ByteArray).size = 2 := rfl
          have y3 : (⟨#[93]⟩ : ByteArray).size = 1 := rfl
          obtain ⟨c1, z1, r1⟩ := add_run s ⟨#[42, 91]⟩ (by first | omega | decide) (by first | omega | decide)
          have HC4 := Lib.hid (HIH.out d' HD.out sc g (t' + 2) w3 (by omega) (by omega) HR.out (by omega))
          go_wp2_with fail
          refine HC4.out.mono ?_
          rintro e w4 ⟨x4, t4, rfl, hx4, ht4, hr4, q4⟩
          have HQ4 := Lib.hid (And.intro hr4 q4)
          clear hr4 q4 HC4
          obtain ⟨c2, z2, r2⟩ := add_run c1 x4 (by first | omega | decide) (by first | omega | decide)
          obtain ⟨c3, z3, r3⟩ := add_run c2 ⟨#[93]⟩ (by first | omega | decide) (by first | omega | decide)
          have HE := Lib.hid (HB.out c3 t4 w4 (by omega) (by omega) HQ4.out.1 HQ4.out.2)
          clear HB
          go_wp2_with fail
          go_roundw
          case rel => exact HE.out
          case measure => simp [intOf]; omega
      · by_cases hd0 : d = 0
        · have hdz : ¬ (0 : Int) < (d : Int) := by omega
          clear hd0
          have HE := Lib.hid (HB.out s (t' + 2) w3 (by omega) (by omega) HR.out (Keeps.refl _ _))
          clear HB
          go_wp2_with fail
          go_roundw
          case rel => exact HE.out
          case measure => simp [intOf]; omega
        · obtain ⟨d', hde⟩ : ∃ d', d = d' + 1 := ⟨d - 1, by omega⟩
          have hdd : (d : Int) - 1 = (d' : Int) := by omega
          have hdp : (0 : Int) < (d : Int) := by omega
          have HD := Lib.hid hde
          clear hde hd0
          by_cases hs4 : sc.size < 4
          · have hs5 : (sc.size : Int) < 4 := by omega
            obtain ⟨x, hx1, hsl⟩ := slice_run ⟨#[97, 98, 99, 100, 101, 102]⟩ sc.size (sc.size + 1) (by omega) (by show _ ≤ 6; omega)
            have hsl : ∀ wx, (Instr.slice 9 (.string ⟨#[97, 98, 99, 100, 101, 102]⟩) (some (.int .i64 (sc.size : Int))) (some (.int .i64 ((sc.size : Int) + 1))) none).run Try.prog wx = .ok (.string x) wx := hsl
            have y1 : (⟨#[123]⟩ : ByteArray).size = 1 := rfl
            have y2 : (⟨#[58]⟩ : ByteArray).size = 1 := rfl
            have y3 : (⟨#[125]⟩ : ByteArray).size = 1 := rfl
            obtain ⟨c1, z1, r1⟩ := add_run s ⟨#[123]⟩ (by first | omega | decide) (by first | omega | decide)
            obtain ⟨c2, z2, r2⟩ := add_run c1 x (by first | omega | decide) (by first | omega | decide)
            obtain ⟨c3, z3, r3⟩ := add_run c2 ⟨#[58]⟩ (by first | omega | decide) (by first | omega | decide)
            obtain ⟨c6, z6, r6⟩ := add_run sc x (by first | omega | decide) (by first | omega | decide)
            have HC4 := Lib.hid (HIH.out d' HD.out c6 g (t' + 2) w3 (by omega) (by omega) HR.out (by omega))
            go_wp2_with fail
            refine HC4.out.mono ?_
            rintro e w4 ⟨x4, t4, rfl, hx4, ht4, hr4, q4⟩
            have HQ4 := Lib.hid (And.intro hr4 q4)
            clear hr4 q4 HC4
            obtain ⟨c4, z4, r4⟩ := add_run c3 x4 (by first | omega | decide) (by first | omega | decide)
            obtain ⟨c5, z5, r5⟩ := add_run c4 ⟨#[125]⟩ (by first | omega | decide) (by first | omega | decide)
            have HE := Lib.hid (HB.out c5 t4 w4 (by omega) (by omega) HQ4.out.1 HQ4.out.2)
            clear HB
            go_wp2_with fail
            go_roundw
            case rel => exact HE.out
            case measure => simp [intOf]; omega
          · have hs5 : ¬ (sc.size : Int) < 4 := by omega
            have HE := Lib.hid (HB.out s (t' + 2) w3 (by omega) (by omega) HR.out (Keeps.refl _ _))
            clear HB
            go_wp2_with fail
            go_roundw
            case rel => exact HE.out
            case measure => simp [intOf]; omega
      · have H3 := Lib.hid (pick_any g (t' + 2) 4 w3 HR.out (by omega) (by omega))
        go_wp2_with fail
        refine H3.out.mono ?_
        rintro e w4 ⟨p, rfl, hp, hr, q4⟩
        have HR4 := Lib.hid hr
        have HQ4 := Lib.hid q4
        clear hr q4 H3
        by_cases hp0 : p = 0
        · subst hp0
          have HO := Lib.hid (HOF.out ⟨#[94]⟩ ⟨#[33]⟩ (t' + 2 + 1) w4 9 rfl rfl HR4.out (by omega))
          go_wp2_with fail
          refine HO.out.mono ?_
          rintro e w5 ⟨x, rfl, hx, hr, q5⟩
          obtain ⟨c1, z1, r1⟩ := add_run s x (by first | omega | decide) (by first | omega | decide)
          have HQ5 := Lib.hid (And.intro hr (HQ4.out.trans (((Keeps.refl (oneB g) w4).alloc _).trans q5)))
          clear hr q5 HO
          have HE := Lib.hid (HB.out c1 (t' + 2 + 1 + 1) w5 (by omega) (by omega) HQ5.out.1 HQ5.out.2)
          clear HB
          go_wp2_with fail
          go_roundw
          case rel => exact HE.out
          case measure => simp [intOf]; omega
        · have hp1 : ¬ (p : Int) = 0 := by omega
          have HE := Lib.hid (HB.out s (t' + 2 + 1) w4 (by omega) (by omega) HR4.out HQ4.out)
          clear HB
          go_wp2_with fail
          go_roundw
          case rel => exact HE.out
          case measure => simp [intOf]; omega
    · have hi1 : ¬ (i : Int) < (N : Int) := by omega
      have m1 : i * (5 + 2 * L) ≤ 4 * (5 + 2 * L) := Nat.mul_le_mul_right _ (by omega)
      have m2 : i * (4 + 2 * C) ≤ 4 * (4 + 2 * C) := Nat.mul_le_mul_right _ (by omega)
      have HE : Hid (DrawBodyPost w g t (20 + 8 * L) (17 + 8 * C) (.returned (.string s)) wr) := Lib.hid ⟨s, t', rfl, by omega, by omega, hr, q⟩
      clear hr q m1 m2 hs ht'
      go_wp2_with fail
      go_ret
      exact HE.out

theorem body_two : DrawBodyIs 2 1460 1241 := by
  have b0 : DrawBodyIs 0 20 17 := body_step 0 0 0 (by omega) (by omega) (by omega) (fun d' h => by omega)
  have b1 : DrawBodyIs 1 180 153 := body_step 1 20 17 (by omega) (by omega) (by omega) (fun d' h => (show 0 = d' by omega) ▸ b0)
  exact body_step 2 180 153 (by omega) (by omega) (by omega) (fun d' h => (show 1 = d' by omega) ▸ b1)

end Go.Proofs.Ythpjkickpodmcaa
