/-
  Answers of a list of numbers and whether there is one; rows of lives, read.
-/
import Derived.Test.YthgocacabadflaaDoorQh
import Derived.Test.YthgocacabadflaaDoorRn
namespace Go.Proofs.YthgocacabadflaaDoor
set_option linter.unusedVariables false
set_option linter.unusedSimpArgs false
open Go.RowKit

/-- An answer of a list of numbers and whether there is one. -/
def NumsOfP (w : World) (L : List Nat) (b : Bool) (e : Ending) (w' : World) : Prop :=
  ∃ v, e = .returned (.tuple #[v, .bool b]) ∧ NRow w' v L ∧ (∀ g, v.ownBlock = some g → w.heap.size ≤ g) ∧ Keeps noB w w'

theorem numsOf_open {w w' : World} {L : List Nat} {b : Bool} {e : Ending} (h : NumsOfP w L b e w') :
    ∃ a c, e = .returned (.tuple #[.slice a (L.map (fun k : Nat => (k : Int))).length c, .bool b]) ∧ IntRow w' (.slice a (L.map (fun k : Nat => (k : Int))).length c) (L.map (fun k : Nat => (k : Int))).length (L.map (fun k : Nat => (k : Int))) ∧ (∀ g, (Value.slice a (L.map (fun k : Nat => (k : Int))).length c).ownBlock = some g → w.heap.size ≤ g) ∧ Keeps noB w w' := by
  obtain ⟨v, rfl, hrow, hf, q⟩ := h
  obtain ⟨a, c, rfl⟩ := hrow.shape
  have e1 : (L.map (fun k : Nat => (k : Int))).map (Value.int .i64) = L.map i64 := by rw [List.map_map]; rfl
  have e2 : (L.map (fun k : Nat => (k : Int))).length = L.length := List.length_map _
  rw [e2]
  refine ⟨a, c, rfl, ?_, hf, q⟩
  unfold IntRow
  rw [e1]
  exact hrow

theorem lrow_at {w : World} {v : Value} {s : List Lf} (h : LRow w v s) : ∃ a c, v = .slice a s.length c ∧ ∀ (may : Nat → Prop) i wr, Keeps may w wr → (∀ g, v.ownBlock = some g → ¬ may g) → i < s.length → ∃ g f, a = some ⟨g, 0, none⟩ ∧ s.length ≤ c ∧ s[i]? = some f ∧ wr.cell? ⟨g, i * 3, none⟩ = some (.int .i64 f.b) ∧ wr.cell? ⟨g, i * 3 + 1, none⟩ = some (.int .i64 f.u) ∧ wr.cell? ⟨g, i * 3 + 2, none⟩ = some (.int .i64 f.d) := by
  obtain ⟨a, c, rfl⟩ := row_shape (ok := fun _ => True) ⟨h, fun _ _ => trivial⟩
  refine ⟨a, c, rfl, fun may i wr q hm hi => ?_⟩
  obtain ⟨g, d, e, hc, hgl, hh⟩ := row_capM (ok := fun _ => True) h (by omega)
  simp only [Value.slice.injEq, true_and] at e
  obtain ⟨rfl, rfl⟩ := e
  have hx := List.getElem?_eq_getElem (l := s) (i := i) (by omega)
  obtain ⟨g0, g1, g2⟩ := lfC_get s i _ hx
  rw [show 3 * i = i * 3 by omega] at g0 g1 g2
  have hn : ¬ may g := hm g rfl
  exact ⟨g, _, rfl, hc, hx, (q.cell (p := ⟨g, i * 3, none⟩) hgl hn).trans (hh _ _ g0).1, (q.cell (p := ⟨g, i * 3 + 1, none⟩) hgl hn).trans (hh _ _ g1).1, (q.cell (p := ⟨g, i * 3 + 2, none⟩) hgl hn).trans (hh _ _ g2).1⟩

end Go.Proofs.YthgocacabadflaaDoor
