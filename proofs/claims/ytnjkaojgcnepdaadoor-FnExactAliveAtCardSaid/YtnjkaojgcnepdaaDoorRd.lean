/-
  Walks of the law's own helpers on lists of lives: eqLifeS, markLifeS, heldLifeS.
-/
import Derived.Test.YtnjkaojgcnepdaaDoorQf
import Derived.BigQuiet
import Derived.Deep.QuietTactic
import Derived.StillTailTactics
namespace Go.Proofs.YtnjkaojgcnepdaaDoor
set_option linter.unusedVariables false
set_option linter.unusedSimpArgs false
open Go.RowKit

/-- A row of n lives. -/
def LRn (w : World) (v : Value) (n : Nat) (s : List Lf) : Prop := w.ownsRow 0 52 3 v n (lfC s)

theorem LRn.len {w : World} {v : Value} {n : Nat} {s : List Lf} (h : LRn w v n s) : s.length = n := by
  have := h.1
  rw [lfC_len] at this
  omega
theorem LRn.keeps {may : Nat → Prop} {w w' : World} {v : Value} {n : Nat} {s : List Lf} (h : LRn w v n s) (q : Keeps may w w') (hm : ∀ g, v.ownBlock = some g → ¬ may g) : LRn w' v n s := q.ownsRow h (fun g hg _ => hm g hg)
theorem LRn.get {w : World} {v : Value} {n : Nat} {s : List Lf} (h : LRn w v n s) (hn : 0 < n) :
    ∃ g c, v = .slice (some ⟨g, 0, none⟩) n c ∧ n ≤ c ∧ g < w.heap.size ∧ ∀ i f, s[i]? = some f → (w.cell? ⟨g, i * 3, none⟩ = some (.int .i64 f.b) ∧ w.cell? ⟨g, i * 3 + 1, none⟩ = some (.int .i64 f.u) ∧ w.cell? ⟨g, i * 3 + 2, none⟩ = some (.int .i64 f.d)) ∧
      w.frozen? ⟨g, i * 3, none⟩ = false ∧ w.frozen? ⟨g, i * 3 + 1, none⟩ = false ∧ w.frozen? ⟨g, i * 3 + 2, none⟩ = false := by
  obtain ⟨g, c, e, hc, hg, hh⟩ := row_capM (ok := fun _ => True) h hn
  refine ⟨g, c, e, hc, hg, fun i f hf => ?_⟩
  obtain ⟨g0, g1, g2⟩ := lfC_get s i f hf
  rw [show 3 * i = i * 3 by omega] at g0 g1 g2
  obtain ⟨a0, b0⟩ := hh _ _ g0
  obtain ⟨a1, b1⟩ := hh _ _ g1
  obtain ⟨a2, b2⟩ := hh _ _ g2
  exact ⟨⟨a0, a1, a2⟩, b0, b1, b2⟩

theorem lfC_set3 : ∀ (s : List Lf) (i : Nat) (f : Lf), i < s.length → (((lfC s).set (i * 3) (.int .i64 f.b)).set (i * 3 + 1) (.int .i64 f.u)).set (i * 3 + 2) (.int .i64 f.d) = lfC (s.set i f)
  | [], i, f, h => by simp at h
  | x :: r, 0, f, h => rfl
  | x :: r, i + 1, f, h => by
    have := lfC_set3 r i f (by simpa using h)
    have e1 : lfC (x :: r) = [.int .i64 x.b, .int .i64 x.u, .int .i64 x.d] ++ lfC r := rfl
    rw [e1, show (i + 1) * 3 = i * 3 + 3 by omega, show i * 3 + 3 + 1 = (i * 3 + 1) + 3 by omega, show i * 3 + 3 + 2 = (i * 3 + 2) + 3 by omega]
    show _ = [.int .i64 x.b, .int .i64 x.u, .int .i64 x.d] ++ lfC (r.set i f)
    rw [← this]; rfl

theorem LRn.set3 {w : World} {g n c : Nat} {s : List Lf} (h : LRn w (.slice (some ⟨g, 0, none⟩) n c) n s) {i : Nat} (hi : i < n) (f : Lf) :
    LRn (((w.setCell ⟨g, i * 3, none⟩ (.int .i64 f.b)).setCell ⟨g, i * 3 + 1, none⟩ (.int .i64 f.u)).setCell ⟨g, i * 3 + 2, none⟩ (.int .i64 f.d)) (.slice (some ⟨g, 0, none⟩) n c) n (s.set i f) := by
  have hl := h.len
  have h3 := row_set (row_set (row_set h (i * 3) (by omega) (.int .i64 f.b)) (i * 3 + 1) (by omega) (.int .i64 f.u)) (i * 3 + 2) (by omega) (.int .i64 f.d)
  rw [lfC_set3 s i f (by omega)] at h3
  exact h3

set_option maxHeartbeats 1000000 in
theorem eqLife_same (b u d : Int) (w : World) : Calls Tryd.prog 36 #[.agg #[.int .i64 b, .int .i64 u, .int .i64 d], .agg #[.int .i64 b, .int .i64 u, .int .i64 d]] w (fun e w' => e = .returned (.bool true) ∧ Keeps noB w w') := by
  have h1 : (b != b) = false := by simp
  have h2 : (u != u) = false := by simp
  have h3 : (d != d) = false := by simp
  go_enter Tryd.func36, Tryd.ntmps36
  go_wp2_with fail
  go_ret
  exact ⟨rfl, ((Keeps.refl noB w).alloc _).alloc _⟩

set_option maxRecDepth 100000 in
set_option maxHeartbeats 2000000 in
theorem eqLives_same (a1 a2 : Option Addr) (c1 c2 n : Nat) (l : List Lf) (w : World) (h1 : LRn w (.slice a1 n c1) n l) (h2 : LRn w (.slice a2 n c2) n l) (hn : n ≤ 100000) :
    Calls Tryd.prog 15 #[.slice a1 n c1, .slice a2 n c2] w (fun e w' => e = .returned (.bool true) ∧ Keeps noB w w') := by
  have HR : Hid (∀ i, i < n → ∃ g1 g2 b u d, a1 = some ⟨g1, 0, none⟩ ∧ a2 = some ⟨g2, 0, none⟩ ∧ n ≤ c1 ∧ n ≤ c2 ∧ ∀ wr, Keeps noB w wr → (wr.cell? ⟨g1, i * 3, none⟩ = some (.int .i64 b) ∧ wr.cell? ⟨g1, i * 3 + 1, none⟩ = some (.int .i64 u) ∧ wr.cell? ⟨g1, i * 3 + 2, none⟩ = some (.int .i64 d)) ∧
      (wr.cell? ⟨g2, i * 3, none⟩ = some (.int .i64 b) ∧ wr.cell? ⟨g2, i * 3 + 1, none⟩ = some (.int .i64 u) ∧ wr.cell? ⟨g2, i * 3 + 2, none⟩ = some (.int .i64 d))) := by
    intro i hi
    obtain ⟨g1, d1, e1, hc1, hg1, hh1⟩ := h1.get (by omega)
    obtain ⟨g2, d2, e2, hc2, hg2, hh2⟩ := h2.get (by omega)
    simp only [Value.slice.injEq, true_and] at e1 e2
    obtain ⟨rfl, rfl⟩ := e1
    obtain ⟨rfl, rfl⟩ := e2
    have hil : i < l.length := by have := h1.len; omega
    have hp : l[i]? = some l[i] := List.getElem?_eq_getElem hil
    obtain ⟨⟨p1, p2, p3⟩, _⟩ := hh1 i _ hp
    obtain ⟨⟨p4, p5, p6⟩, _⟩ := hh2 i _ hp
    exact ⟨g1, g2, _, _, _, rfl, rfl, hc1, hc2, fun wr q => ⟨⟨(q.cell (p := ⟨g1, i * 3, none⟩) hg1 id).trans p1, (q.cell (p := ⟨g1, i * 3 + 1, none⟩) hg1 id).trans p2, (q.cell (p := ⟨g1, i * 3 + 2, none⟩) hg1 id).trans p3⟩, (q.cell (p := ⟨g2, i * 3, none⟩) hg2 id).trans p4, (q.cell (p := ⟨g2, i * 3 + 1, none⟩) hg2 id).trans p5, (q.cell (p := ⟨g2, i * 3 + 2, none⟩) hg2 id).trans p6⟩⟩
  clear h1 h2
  have hnn : ((n : Int) != (n : Int)) = false := by simp
  have HEQ := Lib.hid (fun b u d w => eqLife_same b u d w)
  go_enter Tryd.func15, Tryd.ntmps15
  go_wp2_with fail
  go_loopw [5] (fun v5 wr => ∃ i : Nat, i ≤ n ∧ v5 = .int .i64 (i : Int) ∧ Keeps noB w wr) (fun v5 _ => n - (intOf v5).toNat)
  case atStart => exact ⟨0, Nat.zero_le _, rfl, Keeps.refl _ _⟩
  case round =>
    obtain ⟨i, hin, rfl, q⟩ := hrel
    by_cases hlt : i < n
    · obtain ⟨g1, g2, b, u, d, rfl, rfl, hc1, hc2, hcell⟩ := HR.out i hlt
      have ⟨⟨r1, r2, r3⟩, r4, r5, r6⟩ := hcell wr.drew q.drew
      have HQ := Lib.hid q
      clear hcell q
      have hi1 : (i : Int) < (n : Int) := by omega
      have hi0 : (0 : Int) ≤ (i : Int) := by omega
      go_wp2_with fail
      refine wp_region_still_tail 8 (by kernel_rfl) (by kernel_rfl) ?_
      simp only [List.take_succ_cons, List.take_zero, List.drop_succ_cons, List.drop_zero]
      change wpStill _ _ (World.drew _) (fun a' => wpList _ _ _ _ a' (World.drew _)) _ _
      have HQD : Hid (Keeps noB w wr.drew) := HQ.out.drew
      generalize wr.drew = w3 at *
      still_step
      still_step
      still_step
      still_step
      still_step
      still_step
      still_step
      still_step
      refine wpStill_nil ?_
      go_wp2_with (go_at_call 36; refine (HEQ.out b u d _).mono ?_; rintro e w4 ⟨rfl, q4⟩; have HE := Lib.hid (HQD.out.trans q4); clear q4)
      go_roundw
      case rel => exact ⟨i + 1, by omega, by go_num, HE.out⟩
      case measure => simp [intOf]; omega
    · have HQ := Lib.hid q
      clear q
      go_wp2_with fail
      go_ret
      exact ⟨rfl, HQ.out⟩

/-- The i-th mark of a list of lives. -/
def markL (k i : Nat) : Lf := ⟨((k + 3 * i : Nat) : Int), ((k + 3 * i : Nat) : Int) + 1, ((k + 3 * i : Nat) : Int) + 1 + 1⟩
def marksL (k n : Nat) : List Lf := (List.range n).map (markL k)

theorem marksL_step (k i n : Nat) (l : List Lf) (hl : l.length = n) (hi : i < n) : (marksL k i ++ l.drop i).set i (markL k i) = marksL k (i + 1) ++ l.drop (i + 1) := by
  have hm : (marksL k i).length = i := by simp [marksL]
  rw [List.set_append_right _ _ (by omega), hm, Nat.sub_self, List.drop_eq_getElem_cons (by omega)]
  simp [marksL, List.range_succ, List.set]

def MarkLPost (w : World) (v : Value) (n k : Nat) (e : Ending) (w' : World) : Prop :=
  e = .returned (.int .i64 ((k + 3 * n : Nat) : Int)) ∧ LRn w' v n (marksL k n) ∧ Keeps (fun b => v.ownBlock = some b) w w'

/-- What the loop of markLifeS holds. -/
def MarkLAt (w : World) (a : Option Addr) (n c k : Nat) (l : List Lf) (v1 v5 : Value) (wr : World) : Prop :=
  ∃ (i kk : Nat), i ≤ n ∧ kk = k + 3 * i ∧ v1 = .int .i64 (kk : Int) ∧ v5 = .int .i64 (i : Int) ∧ LRn wr (.slice a n c) n (marksL k i ++ l.drop i) ∧ Keeps (fun b => (Value.slice a n c).ownBlock = some b) w wr

set_option maxRecDepth 100000 in
set_option maxHeartbeats 4000000 in
theorem mark_lives (a : Option Addr) (c n : Nat) (l : List Lf) (k : Nat) (w : World) (h : LRn w (.slice a n c) n l) (hn : n ≤ 10000) (hk : k ≤ 1000) :
    Calls Tryd.prog 16 #[.slice a n c, .int .i64 (k : Int)] w (MarkLPost w (.slice a n c) n k) := by
  have HL := Lib.hid h.len
  have HP : Hid (MarkLAt w a n c k l (.int .i64 (k : Int)) (.int .i64 0) w) := ⟨0, k, Nat.zero_le _, rfl, rfl, rfl, h, Keeps.refl _ _⟩
  clear h
  go_enter Tryd.func16, Tryd.ntmps16
  go_wp2_with fail
  go_loopw [1, 5] (fun v1 v5 wr => MarkLAt w a n c k l v1 v5 wr) (fun _ v5 _ => n - (intOf v5).toNat)
  case atStart => exact HP.out
  case round =>
    clear HP
    obtain ⟨i, kk, hin, hkk, rfl, rfl, hrow, q⟩ := hrel
    by_cases hlt : i < n
    · obtain ⟨g, d, e, hc, hg, hcell⟩ := hrow.get (by omega)
      simp only [Value.slice.injEq, true_and] at e
      obtain ⟨rfl, rfl⟩ := e
      have hil : i < (marksL k i ++ l.drop i).length := by rw [hrow.len]; exact hlt
      obtain ⟨p, hp⟩ : ∃ p, (marksL k i ++ l.drop i)[i]? = some p := ⟨_, List.getElem?_eq_getElem hil⟩
      obtain ⟨⟨r1, r2, r3⟩, z1, z2, z3⟩ := hcell i p hp
      have HE : Hid (MarkLAt w (some ⟨g, 0, none⟩) n c k l (.int .i64 ((kk : Int) + 1 + 1 + 1)) (.int .i64 ((i : Int) + 1)) (((wr.setCell ⟨g, i * 3, none⟩ (.int .i64 (kk : Int))).setCell ⟨g, i * 3 + 1, none⟩ (.int .i64 ((kk : Int) + 1))).setCell ⟨g, i * 3 + 2, none⟩ (.int .i64 ((kk : Int) + 1 + 1)))) := by
        refine ⟨i + 1, kk + 3, by omega, by omega, by simp; omega, by simp, ?_, ?_⟩
        · have h3 := hrow.set3 hlt (markL k i)
          rw [marksL_step k i n l HL.out hlt] at h3
          unfold markL at h3
          rw [← hkk] at h3
          exact h3
        · exact ((q.setCell (p := ⟨g, i * 3, none⟩) (.inl (show (Value.slice (some ⟨g, 0, none⟩) n c).ownBlock = some g from rfl)) _).setCell (p := ⟨g, i * 3 + 1, none⟩) (.inl (show (Value.slice (some ⟨g, 0, none⟩) n c).ownBlock = some g from rfl)) _).setCell (p := ⟨g, i * 3 + 2, none⟩) (.inl (show (Value.slice (some ⟨g, 0, none⟩) n c).ownBlock = some g from rfl)) _
      have hi1 : (i : Int) < (n : Int) := by omega
      have hi0 : (0 : Int) ≤ (i : Int) := by omega
      have hi2 : (i : Int) ≤ 10000 := by omega
      have hk1 : (kk : Int) ≤ 100000 := by omega
      have hk0 : (0 : Int) ≤ (kk : Int) := by omega
      have hcn : (n : Int) ≤ (c : Int) := by omega
      clear hcell hrow q hp hkk hil
      go_wp2_with fail
      go_roundw
      case rel => exact HE.out
      case measure => simp [intOf]; omega
    · have hie : i = n := by omega
      have HE : Hid (MarkLPost w (.slice a n c) n k (.returned (.int .i64 (kk : Int))) wr) := by
        subst hie
        rw [List.drop_of_length_le (by have := HL.out; omega), List.append_nil] at hrow
        exact ⟨by rw [hkk], hrow, q⟩
      clear hrow q hie hkk
      go_wp2_with fail
      go_ret
      exact HE.out

set_option maxRecDepth 100000 in
set_option maxHeartbeats 4000000 in
theorem held_lives (a : Option Addr) (c n k : Nat) (w : World) (h : LRn w (.slice a n c) n (marksL k n)) (hn : n ≤ 10000) (hk : k ≤ 1000) :
    Calls Tryd.prog 17 #[.slice a n c, .int .i64 (k : Int)] w (fun e w' => e = .returned (.int .i64 ((k + 3 * n : Nat) : Int)) ∧ w' = w) := by
  have HR : Hid (∀ i, i < n → ∃ g, a = some ⟨g, 0, none⟩ ∧ n ≤ c ∧ w.cell? ⟨g, i * 3, none⟩ = some (.int .i64 ((k + 3 * i : Nat) : Int)) ∧ w.cell? ⟨g, i * 3 + 1, none⟩ = some (.int .i64 (((k + 3 * i : Nat) : Int) + 1)) ∧ w.cell? ⟨g, i * 3 + 2, none⟩ = some (.int .i64 (((k + 3 * i : Nat) : Int) + 1 + 1))) := by
    intro i hi
    obtain ⟨g, d, e, hc, hg, hh⟩ := h.get (by omega)
    simp only [Value.slice.injEq, true_and] at e
    obtain ⟨rfl, rfl⟩ := e
    have hp : (marksL k n)[i]? = some (markL k i) := by simp [marksL, hi]
    exact ⟨g, rfl, hc, (hh i _ hp).1⟩
  clear h
  go_enter Tryd.func17, Tryd.ntmps17
  go_wp2_with fail
  go_loop [1, 5] (fun v1 v5 => ∃ i kk : Nat, i ≤ n ∧ kk = k + 3 * i ∧ v1 = .int .i64 (kk : Int) ∧ v5 = .int .i64 (i : Int)) (fun _ v5 => n - (intOf v5).toNat)
  case atStart => exact ⟨0, k, Nat.zero_le _, rfl, rfl, rfl⟩
  case round =>
    obtain ⟨i, kk, hin, hkk, rfl, rfl⟩ := hrel
    by_cases hlt : i < n
    · obtain ⟨g, rfl, hc, r1, r2, r3⟩ := HR.out i hlt
      rw [← hkk] at r1 r2 r3
      have hi1 : (i : Int) < (n : Int) := by omega
      have hi2 : (i : Int) ≤ 10000 := by omega
      have hk1 : (kk : Int) ≤ 100000 := by omega
      have hk0 : (0 : Int) ≤ (kk : Int) := by omega
      have e1 : ((kk : Int) != (kk : Int)) = false := by simp
      have e2 : ((kk : Int) + 1 != (kk : Int) + 1) = false := by simp
      have e3 : ((kk : Int) + 1 + 1 != (kk : Int) + 1 + 1) = false := by simp
      have HKK : Hid (kk + 3 = k + 3 * (i + 1)) := Lib.hid (by omega)
      clear hkk
      go_wp2_with fail
      go_round
      case rel => exact ⟨i + 1, kk + 3, by omega, HKK.out, by simp; omega, by go_num⟩
      case measure => simp [intOf]; omega
    · have hie : i = n := by omega
      have HE : Hid ((kk : Int) = ((k + 3 * n : Nat) : Int)) := Lib.hid (by rw [hkk, hie])
      clear hie hkk
      go_wp2_with fail
      go_ret
      exact ⟨congrArg (fun z => Ending.returned (.int .i64 z)) HE.out, rfl⟩

end Go.Proofs.YtnjkaojgcnepdaaDoor
