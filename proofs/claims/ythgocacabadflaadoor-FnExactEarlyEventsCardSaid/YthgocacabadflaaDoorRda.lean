/-
  Rows of lives, read and written.
-/
import Derived.Test.YthgocacabadflaaDoorQf
import Derived.BigQuiet
import Derived.Deep.QuietTactic
import Derived.StillTailTactics
namespace Go.Proofs.YthgocacabadflaaDoor
set_option linter.unusedVariables false
set_option linter.unusedSimpArgs false
open Go.RowKit

/-- A row of n lives. -/
def LRn (w : World) (v : Value) (n : Nat) (s : List Lf) : Prop := w.ownsRow 0 41 3 v n (lfC s)

theorem LRn.len {w : World} {v : Value} {n : Nat} {s : List Lf} (h : LRn w v n s) : s.length = n := by
  have := h.1
  rw [lfC_len] at this
  omega
theorem LRn.keeps {may : Nat → Prop} {w w' : World} {v : Value} {n : Nat} {s : List Lf} (h : LRn w v n s) (q : Keeps may w w') (hm : ∀ g, v.ownBlock = some g → ¬ may g) : LRn w' v n s := q.ownsRow h (fun g hg _ => hm g hg)
theorem LRn.get {w : World} {v : Value} {n : Nat} {s : List Lf} (h : LRn w v n s) (hn : 0 < n) :
    ∃ g c, v = .slice (some ⟨g, 0, none⟩) n c ∧ n ≤ c ∧ g < w.heap.size ∧ ∀ i f, s[i]? = some f → (w.cell? ⟨g, i * 3, none⟩ = some (.int .i64 f.b) ∧ w.cell? ⟨g, i * 3 + 1, none⟩ = some (.int .i64 f.u) ∧ w.cell? ⟨g, i * 3 + 2, none⟩ = some (.int .i64 f.d)) ∧
      w.frozen? ⟨g, i * 3, none⟩ = false ∧ w.frozen? ⟨g, i * 3 + 1, none⟩ = false ∧ w.frozen? ⟨g, i * 3 + 2, none⟩ = false := by
  obtain ⟨g, c, e, hc, hg, hh⟩ := row_capM (ok := fun _ => True) h hn
  refine ⟨g, c, e, hc, hg, fun i f hf => ?_⟩
  obtain ⟨g0, g1, g2⟩ := lfC_get s i f hf
  rw [show 3 * i = i * 3 by omega] at g0 g1 g2
  obtain ⟨a0, b0⟩ := hh _ _ g0
  obtain ⟨a1, b1⟩ := hh _ _ g1
  obtain ⟨a2, b2⟩ := hh _ _ g2
  exact ⟨⟨a0, a1, a2⟩, b0, b1, b2⟩

theorem lfC_set3 : ∀ (s : List Lf) (i : Nat) (f : Lf), i < s.length → (((lfC s).set (i * 3) (.int .i64 f.b)).set (i * 3 + 1) (.int .i64 f.u)).set (i * 3 + 2) (.int .i64 f.d) = lfC (s.set i f)
  | [], i, f, h => by simp at h
  | x :: r, 0, f, h => rfl
  | x :: r, i + 1, f, h => by
    have := lfC_set3 r i f (by simpa using h)
    have e1 : lfC (x :: r) = [.int .i64 x.b, .int .i64 x.u, .int .i64 x.d] ++ lfC r := rfl
    rw [e1, show (i + 1) * 3 = i * 3 + 3 by omega, show i * 3 + 3 + 1 = (i * 3 + 1) + 3 by omega, show i * 3 + 3 + 2 = (i * 3 + 2) + 3 by omega]
    show _ = [.int .i64 x.b, .int .i64 x.u, .int .i64 x.d] ++ lfC (r.set i f)
    rw [← this]; rfl

theorem LRn.set3 {w : World} {g n c : Nat} {s : List Lf} (h : LRn w (.slice (some ⟨g, 0, none⟩) n c) n s) {i : Nat} (hi : i < n) (f : Lf) :
    LRn (((w.setCell ⟨g, i * 3, none⟩ (.int .i64 f.b)).setCell ⟨g, i * 3 + 1, none⟩ (.int .i64 f.u)).setCell ⟨g, i * 3 + 2, none⟩ (.int .i64 f.d)) (.slice (some ⟨g, 0, none⟩) n c) n (s.set i f) := by
  have hl := h.len
  have h3 := row_set (row_set (row_set h (i * 3) (by omega) (.int .i64 f.b)) (i * 3 + 1) (by omega) (.int .i64 f.u)) (i * 3 + 2) (by omega) (.int .i64 f.d)
  rw [lfC_set3 s i f (by omega)] at h3
  exact h3

end Go.Proofs.YthgocacabadflaaDoor
