/-
  The law's own copies of a list of numbers that is handed in; lists compared, however long.
-/
import Derived.Test.YthgocacabadflaaDoorRn
import Derived.Test.YthgocacabadflaaDoorQf
import Derived.Laws.OwnMore
namespace Go.Proofs.YthgocacabadflaaDoor
set_option linter.unusedVariables false
set_option linter.unusedSimpArgs false
open Go.RowKit

/-- A slice of numbers that is only read. -/
def ArgI (w : World) (v : Value) (n : Nat) (zs : List Int) : Prop :=
  zs.length = n ∧ ∃ p c, v = .slice p n c ∧ ∀ i, i < n → ∃ b o, p = some ⟨b, o, none⟩ ∧ n ≤ c ∧ b < w.heap.size ∧ w.cell? ⟨b, o + i, none⟩ = some (.int .i64 (zs.getD i 0))
theorem ArgI.keeps {w w' : World} {v : Value} {n : Nat} {zs : List Int} (h : ArgI w v n zs) (q : Keeps noB w w') : ArgI w' v n zs := by
  obtain ⟨hl, p, c, e, hh⟩ := h
  refine ⟨hl, p, c, e, fun i hi => ?_⟩
  obtain ⟨b, o, e1, h1, h2, h3⟩ := hh i hi
  exact ⟨b, o, e1, h1, Nat.lt_of_lt_of_le h2 q.size, (q.cell (p := ⟨b, o + i, none⟩) h2 id).trans h3⟩
theorem IntRow.arg {w : World} {v : Value} {n : Nat} {zs : List Int} (h : IntRow w v n zs) : ArgI w v n zs := by
  obtain ⟨a, c, rfl⟩ := row_shape (ok := fun _ => True) ⟨h, fun _ _ => trivial⟩
  refine ⟨h.len, a, c, rfl, fun i hi => ?_⟩
  obtain ⟨g, d, e, hc, hg, hh⟩ := h.get (by omega)
  simp only [Value.slice.injEq, true_and] at e
  obtain ⟨rfl, rfl⟩ := e
  exact ⟨g, 0, rfl, hc, hg, by rw [Nat.zero_add]; exact (hh i hi).1⟩

theorem copy_step (zs : List Int) (X : List Value) (n i : Nat) (h1 : zs.length = n) (h2 : X.length = n) (hi : i < n) : ((zs.take i).map (Value.int .i64) ++ X.drop i).set i (.int .i64 (zs.getD i 0)) = (zs.take (i + 1)).map (Value.int .i64) ++ X.drop (i + 1) := by
  have hm : ((zs.take i).map (Value.int .i64)).length = i := by rw [List.length_map, List.length_take]; omega
  have hz : zs[i]? = some (zs.getD i 0) := by simp [List.getD, h1, hi]
  rw [List.set_append_right _ _ (by omega), hm, Nat.sub_self, List.drop_eq_getElem_cons (by omega), List.take_add_one, hz]
  simp [List.set]

/-- What the loop of the copy holds. -/
def CoAt (w : World) (g n : Nat) (zs : List Int) (X : List Value) (vi : Value) (wr : World) : Prop :=
  ∃ i : Nat, i ≤ n ∧ vi = .int .i64 (i : Int) ∧ wr.ownsRow 0 3 1 (.slice (some ⟨g, 0, none⟩) n n) n ((zs.take i).map (Value.int .i64) ++ X.drop i) ∧ Keeps noB w wr

def CopyPost (w : World) (n : Nat) (zs : List Int) (e : Ending) (w' : World) : Prop :=
  ∃ g, e = .returned (.slice (some ⟨g, 0, none⟩) n n) ∧ IntRow w' (.slice (some ⟨g, 0, none⟩) n n) n zs ∧ w.heap.size ≤ g ∧ Keeps noB w w'

set_option maxRecDepth 100000 in
set_option maxHeartbeats 4000000 in
theorem toInt_any (v : Value) (n : Nat) (zs : List Int) (w : World) (h : ArgI w v n zs) (hn : n ≤ 1048576) : Calls Tryd.prog 21 #[v] w (CopyPost w n zs) := by
  obtain ⟨i0, hi, hz0, hz1, hz2⟩ := info_parts Tryd.infoI3
  obtain ⟨w1, hrun, r1, r2⟩ := run_make_full (P := Tryd.prog) w 0 25 3 i0 _ 1 Tryd.underlying25 hi hz0 hz1 .i64 .i64 n (by rw [hz2]; omega) (by unfold maxLen; omega) (Nat.zero_le _)
  obtain ⟨hl, p, c, rfl, hh⟩ := h
  obtain ⟨X, hX⟩ : ∃ X, X = (madeCells (Value.int .i64 0).cells (n * 1)).toList := ⟨_, rfl⟩
  rw [← hX] at r1
  have hXl : X.length = n := by have := r1.1; omega
  have q1 : Keeps noB w w1 := (Keeps.refl _ _).grown r2 (fun k hk => by cases hk)
  obtain ⟨g, hg⟩ : ∃ g, g = w.heap.size := ⟨_, rfl⟩
  rw [← hg] at hrun r1
  have HP : Hid (CoAt w g n zs X (.int .i64 0) w1) := Lib.hid ⟨0, Nat.zero_le _, rfl, by simpa using r1, q1⟩
  have HH := Lib.hid (And.intro hl (And.intro hXl hg))
  have HR : Hid (∀ i wr, Keeps noB w wr → i < n → ∃ b o, p = some ⟨b, o, none⟩ ∧ n ≤ c ∧ wr.cell? ⟨b, o + i, none⟩ = some (.int .i64 (zs.getD i 0))) := Lib.hid (fun i wr q hi => by
    obtain ⟨b, o, e, h1, h2, h3⟩ := hh i hi
    exact ⟨b, o, e, h1, (q.cell (p := ⟨b, o + i, none⟩) h2 id).trans h3⟩)
  clear hi hz0 hz1 hz2 r1 r2 q1 hX hXl hh hl hg
  go_enter Tryd.func21, Tryd.ntmps21
  go_wp2_with fail
  clear hrun
  go_loopw [4] (fun vi wr => CoAt w g n zs X vi wr) (fun vi _ => n - (intOf vi).toNat)
  case atStart => exact HP.out
  case round =>
    clear HP
    obtain ⟨i, hin, rfl, hrow, hq⟩ := hrel
    by_cases hlt : i < n
    · obtain ⟨b, o, rfl, hc, s1⟩ := HR.out i wr hq hlt
      obtain ⟨g', c', e, hc', hgl, hcell⟩ := row_capM (ok := fun _ => True) hrow (by omega)
      simp only [Value.slice.injEq, Option.some.injEq, Addr.mk.injEq, and_true, true_and] at e
      obtain ⟨rfl, rfl⟩ := e
      have hxl : ((zs.take i).map (Value.int .i64) ++ X.drop i).length = n := by have := hrow.1; omega
      obtain ⟨s2, s3⟩ := hcell i _ (List.getElem?_eq_getElem (by omega))
      have hst := copy_step zs X n i HH.out.1 HH.out.2.1 hlt
      obtain ⟨x, hx⟩ : ∃ x, x = zs.getD i 0 := ⟨_, rfl⟩
      rw [← hx] at s1 hst
      have HE : Hid (CoAt w g n zs X (.int .i64 ((i : Int) + 1)) (wr.setCell ⟨g, i, none⟩ (.int .i64 x))) := Lib.hid ⟨i + 1, hlt, by go_num, by rw [← hst]; exact row_set hrow i (by omega) _, hq.setCell (p := ⟨g, i, none⟩) (.inr (by have := HH.out.2.2; show w.heap.size ≤ g; omega)) _⟩
      have hi1 : (i : Int) < (n : Int) := by omega
      have hi2 : (n : Int) ≤ (c : Int) := by omega
      have hi6 : (i : Int) ≤ 1048576 := by omega
      generalize ((zs.take i).map (Value.int .i64) ++ X.drop i)[i] = y at s2
      clear hrow hq hcell hst hx hxl hc'
      go_wp2_with fail
      go_roundw
      case rel => exact HE.out
      case measure => simp [intOf]; omega
    · have hie : i = n := by omega
      have HE : Hid (CopyPost w n zs (.returned (.slice (some ⟨g, 0, none⟩) n n)) wr) := Lib.hid (by
        subst hie
        refine ⟨g, rfl, ?_, by have := HH.out.2.2; omega, hq⟩
        rw [List.take_of_length_le (by have := HH.out.1; omega), List.drop_of_length_le (by have := HH.out.2.1; omega), List.append_nil] at hrow
        exact hrow)
      have hi1 : ¬ (i : Int) < (n : Int) := by omega
      clear hrow hq hie
      go_wp2_with fail
      go_ret
      exact HE.out

theorem eqIntL_same (a1 a2 : Option Addr) (c1 c2 n : Nat) (ks : List Int) (w : World) (h1 : IntRow w (.slice a1 n c1) n ks) (h2 : IntRow w (.slice a2 n c2) n ks) (hn : n ≤ 1048576) :
    Calls Tryd.prog 15 #[.slice a1 n c1, .slice a2 n c2] w (fun e w' => e = .returned (.bool true) ∧ Keeps noB w w') := by
  have HR : Hid (∀ i, i < n → ∃ g1 g2, a1 = some ⟨g1, 0, none⟩ ∧ a2 = some ⟨g2, 0, none⟩ ∧ n ≤ c1 ∧ n ≤ c2 ∧ ∀ wr, Keeps noB w wr → wr.cell? ⟨g1, i, none⟩ = some (.int .i64 (ks.getD i 0)) ∧ wr.cell? ⟨g2, i, none⟩ = some (.int .i64 (ks.getD i 0))) := by
    intro i hi
    obtain ⟨g1, d1, e1, hc1, hg1, hh1⟩ := h1.get (by omega)
    obtain ⟨g2, d2, e2, hc2, hg2, hh2⟩ := h2.get (by omega)
    simp only [Value.slice.injEq, true_and] at e1 e2
    obtain ⟨rfl, rfl⟩ := e1
    obtain ⟨rfl, rfl⟩ := e2
    exact ⟨g1, g2, rfl, rfl, hc1, hc2, fun wr q => ⟨(q.cell (p := ⟨g1, i, none⟩) hg1 id).trans (hh1 i hi).1, (q.cell (p := ⟨g2, i, none⟩) hg2 id).trans (hh2 i hi).1⟩⟩
  clear h1 h2
  have hnn : ((n : Int) != (n : Int)) = false := by simp
  go_enter Tryd.func15, Tryd.ntmps15
  go_wp2_with fail
  go_loopw [5] (fun v5 wr => ∃ i : Nat, i ≤ n ∧ v5 = .int .i64 (i : Int) ∧ Keeps noB w wr) (fun v5 _ => n - (intOf v5).toNat)
  case atStart => exact ⟨0, Nat.zero_le _, rfl, Keeps.refl _ _⟩
  case round =>
    obtain ⟨i, hin, rfl, q⟩ := hrel
    by_cases hlt : i < n
    · obtain ⟨g1, g2, rfl, rfl, hc1, hc2, hcell⟩ := HR.out i hlt
      obtain ⟨r1, r2⟩ := hcell _ q
      have HQ := Lib.hid q
      have hkk : (ks.getD i 0 != ks.getD i 0) = false := by simp
      obtain ⟨kv, hkv⟩ : ∃ kv, ks.getD i 0 = kv := ⟨_, rfl⟩
      rw [hkv] at r1 r2 hkk
      clear hcell q hkv
      have hi1 : (i : Int) < (n : Int) := by omega
      go_wp2_with fail
      go_quiet (fail)
      go_wp2_with fail
      go_roundw
      case rel => exact ⟨i + 1, by omega, by go_num, HQ.out.drewN _⟩
      case measure => simp [intOf]; omega
    · have HQ := Lib.hid q
      clear q
      go_wp2_with fail
      go_ret
      exact ⟨rfl, HQ.out⟩

end Go.Proofs.YthgocacabadflaaDoor
