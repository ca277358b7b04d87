/-
  The program's heap of cells that were left: Len, Less, Swap.
-/
import Derived.Test.YthgocacabadflaaDoorUa
import Derived.Test.YthgocacabadflaaDoorUc
import Derived.Test.YthgocacabadflaaDoorSv
import Derived.Test.YthgocacabadflaaDoorQf
import Derived.StillTailTactics
import Derived.Deep.RegionWith
import Derived.Deep.RegionLaw
import Derived.BigQuiet
import Derived.BigRegion
import Derived.Deep.QuietTactic
namespace Go.Proofs.YthgocacabadflaaDoor
set_option linter.unusedVariables false
set_option linter.unusedSimpArgs false
open Go.RowKit

theorem NRow.at {w : World} {v : Value} {L : List Nat} (h : NRow w v L) {i : Nat} (hi : i < L.length) :
    ∃ g c, v = .slice (some ⟨g, 0, none⟩) L.length c ∧ L.length ≤ c ∧ g < w.heap.size ∧ w.cell? ⟨g, i, none⟩ = some (.int .i64 (nth L i : Int)) ∧ w.frozen? ⟨g, i, none⟩ = false := by
  obtain ⟨g, c, e, hc, hg, hh⟩ := h.get (by omega)
  obtain ⟨h1, h2⟩ := hh i (nth L i) (nth_some hi)
  exact ⟨g, c, e, hc, hg, h1, h2⟩

theorem NRow.set {w : World} {g c n : Nat} {L : List Nat} (hn : n = L.length) (h : NRow w (.slice (some ⟨g, 0, none⟩) n c) L) {i : Nat} (hi : i < n) (m : Nat) : NRow (w.setCell ⟨g, i, none⟩ (.int .i64 (m : Int))) (.slice (some ⟨g, 0, none⟩) n c) (L.set i m) := by
  subst hn
  have h2 := row_set (w := w) (e := 3) (size := 1) h i (by omega) (.int .i64 (m : Int))
  unfold NRow
  rw [List.length_set, List.map_set]
  exact h2

theorem lenL_any (W : World) (v : Value) (L : List Nat) (h : NRow W v L) : Calls Tryd.prog 153 #[v] W fun e w' => e = .returned (.int .i64 (L.length : Int)) ∧ Keeps noB W w' := by
  obtain ⟨a, c, rfl⟩ := h.shape
  obtain ⟨n, hn⟩ : ∃ n, n = L.length := ⟨_, rfl⟩
  rw [← hn]
  clear h hn
  go_enter Tryd.func153, Tryd.ntmps153
  go_wp2_with fail
  go_ret
  exact ⟨rfl, Keeps.refl _ _⟩

set_option maxRecDepth 100000 in
set_option maxHeartbeats 4000000 in
theorem less_any (W : World) (v : Value) (L : List Nat) (h : NRow W v L) (hl : L.length ≤ 1000) (i j : Nat) (hi : i < L.length) (hj : j < L.length) :
    Calls Tryd.prog 157 #[v, .int .i64 (i : Int), .int .i64 (j : Int)] W fun e w' => e = .returned (.bool (decide (nth L i < nth L j))) ∧ Keeps noB W w' := by
  obtain ⟨g, c, rfl, hc, hg, ci, _⟩ := h.at hi
  obtain ⟨g', c', e, _, _, cj, _⟩ := h.at hj
  simp only [Value.slice.injEq, Option.some.injEq, Addr.mk.injEq, and_true, true_and] at e
  obtain ⟨rfl, rfl⟩ := e
  obtain ⟨n, hn⟩ : ∃ n, n = L.length := ⟨_, rfl⟩
  rw [← hn] at hi hj hl hc ⊢
  have hlt : decide (nth L i < nth L j) = decide ((nth L i : Int) < (nth L j : Int)) := by
    by_cases h : nth L i < nth L j
    · rw [decide_eq_true h, decide_eq_true (by omega)]
    · rw [decide_eq_false h, decide_eq_false (by omega)]
  rw [hlt]
  obtain ⟨x, hx⟩ : ∃ x : Int, x = (nth L i : Int) := ⟨_, rfl⟩
  obtain ⟨y, hy⟩ : ∃ y : Int, y = (nth L j : Int) := ⟨_, rfl⟩
  rw [← hx] at ci ⊢
  rw [← hy] at cj ⊢
  have h1 : (0 : Int) ≤ (i : Int) := by omega
  have h2 : (i : Int) < (n : Int) := by omega
  have h3 : (0 : Int) ≤ (j : Int) := by omega
  have h4 : (j : Int) < (n : Int) := by omega
  clear h hn hx hy hlt
  go_enter Tryd.func157, Tryd.ntmps157
  go_wp2_with fail
  go_quiet (fail)
  go_wp2_with fail
  go_ret
  exact ⟨rfl, (Keeps.refl _ _).drewN _⟩

set_option maxRecDepth 100000 in
set_option maxHeartbeats 4000000 in
theorem swap_any (W : World) (v : Value) (L : List Nat) (h : NRow W v L) (hl : L.length ≤ 1000) (i j : Nat) (hi : i < L.length) (hj : j < L.length) :
    Calls Tryd.prog 158 #[v, .int .i64 (i : Int), .int .i64 (j : Int)] W fun e w' => e = .returned (.tuple #[]) ∧ NRow w' v (swL L i j) ∧ Keeps (fun g => v.ownBlock = some g) W w' := by
  obtain ⟨g, c, rfl, hc, hg, ci, fi⟩ := h.at hi
  obtain ⟨g', c', e, _, _, cj, fj⟩ := h.at hj
  simp only [Value.slice.injEq, Option.some.injEq, Addr.mk.injEq, and_true, true_and] at e
  obtain ⟨rfl, rfl⟩ := e
  obtain ⟨n, hn⟩ : ∃ n, n = L.length := ⟨_, rfl⟩
  have HE : Hid (∀ W', Keeps noB ((W.setCell ⟨g, i, none⟩ (.int .i64 (nth L j : Int))).setCell ⟨g, j, none⟩ (.int .i64 (nth L i : Int))) W' → NRow W' (.slice (some ⟨g, 0, none⟩) n c) (swL L i j) ∧ Keeps (fun k => (Value.slice (some ⟨g, 0, none⟩) n c).ownBlock = some k) W W') := Lib.hid (fun W' q => by
    rw [← hn] at h
    have h1 := NRow.set hn h (by omega : i < n) (nth L j)
    have h2 := NRow.set (by rw [List.length_set]; exact hn) h1 (by omega : j < n) (nth L i)
    refine ⟨h2.keeps q (fun _ _ e => e), (((Keeps.refl (fun k => (Value.slice (some ⟨g, 0, none⟩) n c).ownBlock = some k) W).setCell (p := ⟨g, i, none⟩) (.inl rfl) _).setCell (p := ⟨g, j, none⟩) (.inl rfl) _).trans (q.mono (fun _ e => e.elim))⟩)
  rw [← hn] at hi hj hl hc ⊢
  obtain ⟨x, hx⟩ : ∃ x : Int, x = (nth L i : Int) := ⟨_, rfl⟩
  obtain ⟨y, hy⟩ : ∃ y : Int, y = (nth L j : Int) := ⟨_, rfl⟩
  rw [← hx] at ci
  rw [← hy] at cj
  rw [← hx, ← hy] at HE
  have h1 : (0 : Int) ≤ (i : Int) := by omega
  have h2 : (i : Int) < (n : Int) := by omega
  have h3 : (0 : Int) ≤ (j : Int) := by omega
  have h4 : (j : Int) < (n : Int) := by omega
  obtain ⟨v', hv'⟩ := cell?_setCell_some (w := W) (p := ⟨g, i, none⟩) (x := .int .i64 y) (q := ⟨g, j, none⟩) cj
  clear h hn hx hy
  go_enter Tryd.func158, Tryd.ntmps158
  go_wp2_with fail
  go_region
  all_goals (try go_wp2_with fail)

  all_goals go_end0
  all_goals exact ⟨rfl, HE.out _ ((Keeps.refl _ _).drewN 1)⟩

end Go.Proofs.YthgocacabadflaaDoor
