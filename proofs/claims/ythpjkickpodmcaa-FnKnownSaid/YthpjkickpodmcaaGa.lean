/-
  The reader that the model's drawers read: its block, and what pick answers.
-/
import Derived.Test.YthpjkickpodmcaaIaW
import Derived.Laws.Bits64
import Derived.StillTailTactics
namespace Go.Proofs.Ythpjkickpodmcaa
set_option linter.unusedVariables false
set_option linter.unusedSimpArgs false
open Go.RowKit

/-- A slice of bytes that is only read, in a block below B. -/
def ArgB (B : Nat) (w : World) (v : Value) (n : Nat) : Prop :=
  ∃ p c, v = .slice p n c ∧ n ≤ c ∧ ∀ i, i < n → ∃ b o x, p = some ⟨b, o, none⟩ ∧ b < B ∧ w.cell? ⟨b, o + i, none⟩ = some (.int .u8 ((x : Nat) : Int)) ∧ x < 256

theorem ArgB.keeps {B : Nat} {may : Nat → Prop} {w w' : World} {v : Value} {n : Nat} (h : ArgB B w v n) (q : Keeps may w w') (hB : B ≤ w.heap.size) (hm : ∀ k, k < B → ¬ may k) : ArgB B w' v n := by
  obtain ⟨p, c, e, hc, hh⟩ := h
  refine ⟨p, c, e, hc, fun i hi => ?_⟩
  obtain ⟨b, o, x, e1, h1, h2, h3⟩ := hh i hi
  exact ⟨b, o, x, e1, h1, (q.cell (p := ⟨b, o + i, none⟩) (Nat.lt_of_lt_of_le h1 hB) (hm b h1)).trans h2, h3⟩

/-- A reader: its block, and how often it has been asked. -/
def DrAt (w : World) (g t : Nat) : Prop :=
  ∃ v m, m ≤ 2000 ∧ Blk w g #[v, .int .i64 (t : Int)] 93 ∧ ArgB g w v m

theorem DrAt.keeps {w w' : World} {g t : Nat} (h : DrAt w g t) (q : Keeps noB w w') : DrAt w' g t := by
  obtain ⟨v, m, hm, hb, ha⟩ := h
  exact ⟨v, m, hm, q.blk hb id, ha.keeps q (Nat.le_of_lt hb.lt) (fun _ _ => id)⟩

theorem DrAt.next {w : World} {g t : Nat} {v : Value} {m : Nat} (hm : m ≤ 2000) (hb : Blk w g #[v, .int .i64 (t : Int)] 93) (ha : ArgB g w v m) : DrAt (w.setCell ⟨g, 1, none⟩ (.int .i64 ((t : Int) + 1))) g (t + 1) := by
  refine ⟨v, m, hm, ?_, ha.keeps ((Keeps.refl (oneB g) w).setCell (p := ⟨g, 1, none⟩) (.inl rfl) _) (Nat.le_of_lt hb.lt) (fun k hk e => by cases e; omega)⟩
  have := hb.set 1 (.int .i64 ((t : Int) + 1))
  exact this

theorem bits_xor_pos (a b : Nat) (ha : a < 4294967296) (hb : b < 4294967296) : ∃ c : Nat, bits .xor .i64 (a : Int) (b : Int) = (c : Int) := by
  show ∃ c : Nat, IntKind.i64.wrap ((BitVec.ofInt 64 (a : Int) ^^^ BitVec.ofInt 64 (b : Int)).toNat : Int) = (c : Int)
  have h1 : (BitVec.ofInt 64 (a : Int)).toNat = a := by
    rw [BitVec.ofInt_natCast, BitVec.toNat_ofNat]; exact Nat.mod_eq_of_lt (by omega)
  have h2 : (BitVec.ofInt 64 (b : Int)).toNat = b := by
    rw [BitVec.ofInt_natCast, BitVec.toNat_ofNat]; exact Nat.mod_eq_of_lt (by omega)
  have h3 : a ^^^ b < 2 ^ 32 := Nat.xor_lt_two_pow (by omega) (by omega)
  refine ⟨a ^^^ b, ?_⟩
  rw [BitVec.toNat_xor, h1, h2, IntKind.wrap_i64]
  generalize a ^^^ b = c at h3
  omega

def PickPost (w : World) (g t n : Nat) (e : Ending) (w' : World) : Prop :=
  ∃ x : Nat, e = .returned (.int .i64 (x : Int)) ∧ (x < n ∨ x = 0) ∧ DrAt w' g (t + 1) ∧ Keeps (oneB g) w w'

set_option maxRecDepth 100000 in
set_option maxHeartbeats 4000000 in
theorem pick_any (g t n : Nat) (w : World) (h : DrAt w g t) (ht : t ≤ 100000) (hn : n ≤ 100000) : Calls Try.prog 55 #[.pointer (some ⟨g, 0, none⟩), .int .i64 (n : Int)] w (PickPost w g t n) := by
  obtain ⟨v, m, hm, hb, ha⟩ := h
  have HP : Hid (∀ x : Nat, (x < n ∨ x = 0) → ∀ nq, PickPost w g t n (.returned (.int .i64 (x : Int))) ((w.setCell ⟨g, 1, none⟩ (.int .i64 ((t : Int) + 1))).drewN nq)) := Lib.hid (fun x hx nq => ⟨x, rfl, hx, (DrAt.next hm hb ha).keeps ((Keeps.refl noB _).drewN nq), ((Keeps.refl (oneB g) w).setCell (p := ⟨g, 1, none⟩) (.inl rfl) _).drewN nq⟩)
  have HP0 : Hid (∀ x : Nat, (x < n ∨ x = 0) → PickPost w g t n (.returned (.int .i64 (x : Int))) (w.setCell ⟨g, 1, none⟩ (.int .i64 ((t : Int) + 1)))) := Lib.hid (fun x hx => ⟨x, rfl, hx, DrAt.next hm hb ha, (Keeps.refl (oneB g) w).setCell (p := ⟨g, 1, none⟩) (.inl rfl) _⟩)
  obtain ⟨p, c, rfl, hc, hh⟩ := ha
  have c1 : w.cell? ⟨g, 1, none⟩ = some (.int .i64 (t : Int)) := hb.cell 1
  have f1 : w.frozen? ⟨g, 1, none⟩ = false := hb.free 1
  have hb' := hb.set 1 (.int .i64 ((t : Int) + 1))
  have c2 : (w.setCell ⟨g, 1, none⟩ (.int .i64 ((t : Int) + 1))).cell? ⟨g, 0, none⟩ = some (.slice p m c) := hb'.cell 0
  have c3 : (w.setCell ⟨g, 1, none⟩ (.int .i64 ((t : Int) + 1))).cell? ⟨g, 1, none⟩ = some (.int .i64 ((t : Int) + 1)) := hb'.cell 1
  have ht1 : (t : Int) ≤ 100000 := by omega
  have ht0 : (0 : Int) ≤ (t : Int) := by omega
  have hg0 : g < w.heap.size := hb.lt
  have HH : Hid (∀ i, i < m → ∃ b o x, p = some ⟨b, o, none⟩ ∧ (w.setCell ⟨g, 1, none⟩ (.int .i64 ((t : Int) + 1))).cell? ⟨b, o + i, none⟩ = some (.int .u8 ((x : Nat) : Int)) ∧ x < 256) := Lib.hid (fun i hi => by
    obtain ⟨b, o, x, e1, h1, h2, h3⟩ := hh i hi
    exact ⟨b, o, x, e1, (((Keeps.refl (oneB g) w).setCell (p := ⟨g, 1, none⟩) (.inl rfl) (.int .i64 ((t : Int) + 1))).cell (p := ⟨b, o + i, none⟩) (by show b < _; omega) (fun e => by have e : b = g := e; omega)).trans h2, h3⟩)
  clear hh hb hb'
  by_cases hn0 : n = 0
  · subst hn0
    have d1 : ((0 : Nat) : Int) < 1 := by omega
    go_enter Try.func55, Try.ntmps55
    go_wp2_with fail
    go_ret
    exact HP0.out 0 (.inr rfl)
  · have d1 : ¬ (n : Int) < 1 := by omega
    have d2 : ¬ (n : Int) = 0 := by omega
    have d3 : (0 : Int) < (n : Int) := by omega
    have d4 : (n : Int) ≤ 100000 := by omega
    by_cases hm0 : m = 0
    · subst hm0
      go_enter Try.func55, Try.ntmps55
      go_wp2_with fail
      go_ret
      exact HP0.out 0 (.inr rfl)
    · have e1 : ¬ (m : Int) = 0 := by omega
      have e2 : (0 : Int) < (m : Int) := by omega
      have e3 : (m : Int) ≤ 2000 := by omega
      have e4 : (m : Int) ≤ (c : Int) := by omega
      by_cases htm : t < m
      · obtain ⟨b, o, x, rfl, hx, hx2⟩ := HH.out t htm
        have t1 : (t : Int) < (m : Int) := by omega
        have x0 : (0 : Int) ≤ (x : Int) := by omega
        have x1 : (x : Int) < 256 := by omega
        have HX : Hid (PickPost w g t n (.returned (.int .i64 ((x : Int) % (n : Int)))) (w.setCell ⟨g, 1, none⟩ (.int .i64 ((t : Int) + 1)))) := Lib.hid (HP0.out (x % n) (.inl (Nat.mod_lt _ (by omega))))
        go_enter Try.func55, Try.ntmps55
        go_wp2_with fail
        go_ret
        exact HX.out
      · have t1 : ¬ (t : Int) < (m : Int) := by omega
        obtain ⟨b, o, x, rfl, hx, hx2⟩ := HH.out (t % m) (Nat.mod_lt _ (by omega))
        obtain ⟨b', o', y, hbo, hy, hy2⟩ := HH.out ((t * 7 + 3) % m) (Nat.mod_lt _ (by omega))
        simp only [Option.some.injEq, Addr.mk.injEq, and_true] at hbo
        obtain ⟨rfl, rfl⟩ := hbo
        have x0 : (0 : Int) ≤ (x : Int) := by omega
        have x1 : (x : Int) < 256 := by omega
        have y0 : (0 : Int) ≤ (y : Int) := by omega
        have y1 : (y : Int) < 256 := by omega
        obtain ⟨i, hi⟩ : ∃ i, i = t % m := ⟨_, rfl⟩
        obtain ⟨j, hj⟩ : ∃ j, j = (t * 7 + 3) % m := ⟨_, rfl⟩
        obtain ⟨k, hk⟩ : ∃ k, k = t / m := ⟨_, rfl⟩
        have i1 : (t : Int) % (m : Int) = (i : Int) := by rw [hi]; omega
        have j1 : ((t : Int) * 7 + 3) % (m : Int) = (j : Int) := by rw [hj, Int.natCast_emod, show ((t * 7 + 3 : Nat) : Int) = (t : Int) * 7 + 3 by omega]
        have k1 : (t : Int) / (m : Int) = (k : Int) := by rw [hk]; omega
        have i2 : (i : Int) < (m : Int) := by have := Nat.mod_lt t (show m > 0 by omega); omega
        have j2 : (j : Int) < (m : Int) := by have := Nat.mod_lt (t * 7 + 3) (show m > 0 by omega); omega
        have k2 : (k : Int) ≤ 100000 := by have : t / m ≤ t := Nat.div_le_self _ _; omega
        rw [← hi] at hx
        rw [← hj] at hy
        obtain ⟨z, hz⟩ := bits_xor_pos (x * 131 + y * 1117 + t * 29 + k * 53) ((x * 131 + y * 1117 + t * 29 + k * 53) / 64) (by omega) (by omega)
        have z1 : ((x * 131 + y * 1117 + t * 29 + k * 53 : Nat) : Int) = (x : Int) * 131 + (y : Int) * 1117 + (t : Int) * 29 + (k : Int) * 53 := by omega
        have z2 : (((x * 131 + y * 1117 + t * 29 + k * 53) / 64 : Nat) : Int) = ((x : Int) * 131 + (y : Int) * 1117 + (t : Int) * 29 + (k : Int) * 53) / 64 := by omega
        rw [z1, z2] at hz
        have HX : Hid (∀ nq, PickPost w g t n (.returned (.int .i64 ((bits .xor .i64 ((x : Int) * 131 + (y : Int) * 1117 + (t : Int) * 29 + (k : Int) * 53) (((x : Int) * 131 + (y : Int) * 1117 + (t : Int) * 29 + (k : Int) * 53) / 64)).tmod (n : Int)))) ((w.setCell ⟨g, 1, none⟩ (.int .i64 ((t : Int) + 1))).drewN nq)) := Lib.hid (fun nq => by
          rw [hz]
          exact HP.out (z % n) (.inl (Nat.mod_lt _ (by omega))) nq)
        clear hi hj hk hz z1 z2
        go_enter Try.func55, Try.ntmps55
        go_wp2_with fail
        go_quiet (fail)
        go_wp2_with fail
        go_ret
        exact HX.out _

end Go.Proofs.Ythpjkickpodmcaa
